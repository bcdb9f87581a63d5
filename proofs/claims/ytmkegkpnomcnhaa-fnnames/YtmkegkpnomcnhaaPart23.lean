import Derived.Test.YtmkegkpnomcnhaaRows
import Derived.Test.YtmkegkpnomcnhaaPart12
import Derived.Test.YtmkegkpnomcnhaaImW
import Derived.Test.YtmkegkpnomcnhaaImX
import Derived.Test.YtmkegkpnomcnhaaPart20
import Derived.Test.YtmkegkpnomcnhaaPart15
import Derived.Test.YtmkegkpnomcnhaaPart5
import Derived.WalkKit
import Derived.WalkSpells
import Derived.KernelRfl
import Derived.LoopN
import Derived.Test.YtmkegkpnomcnhaaPart1
import Derived.Test.YtmkegkpnomcnhaaPart2
import Derived.Test.YtmkegkpnomcnhaaPart3
import Derived.Test.YtmkegkpnomcnhaaPart4
import Derived.Test.YtmkegkpnomcnhaaPart21
import Derived.BigQuiet
import Derived.Deep.QuietTactic
import Derived.Deep.RegionWith

/- Contract of the model's l10Revert. -/
namespace Go.Proofs.Ytmkegkpnomcnhaa
open Go.RowKit
set_option linter.unusedVariables false
set_option maxRecDepth 100000

theorem RvU.fold {lo : Int} : ∀ (L : List Int), (∀ c ∈ L, 0 ≤ c ∧ c ≤ 23) → ∀ (ns : List Int) (hi : Int), ns.length = 24 → lo ≤ hi → RvU ns lo hi → RvU (L.foldl incr ns) lo (hi + L.length)
  | [], _, ns, hi, _, _, h => fun c hc => ⟨(h c hc).1, Int.le_trans (h c hc).2 (by simp)⟩
  | c :: L, hL, ns, hi, hn, hh, h => by
    obtain ⟨h0, h1⟩ := hL c (by simp)
    obtain ⟨q, rfl⟩ := Int.eq_ofNat_of_zero_le h0
    have h2 := h.up q (by omega) hh
    have h3 := RvU.fold L (fun x hx => hL x (by simp [hx])) _ _ ((incr_len ns q).trans hn) (by omega) h2
    rw [List.foldl_cons]
    intro i hi'
    have := h3 i hi'
    simp only [List.length_cons]
    omega
theorem raise_bd {m : Img} {t : List Int} (hM : ImM m) (ht : tbB t = true) : RvB (imRaise m t) 0 := by
  have hcl := clA_len ht
  have h := RvU.fold (lo := 0) (clA t) (fun c hc => by obtain ⟨j, hj, rfl⟩ := List.mem_iff_getElem.1 hc; exact clA_in ht j hj) m.refs 15 hM.r (by omega) hM.rv
  intro c hc
  have := h c hc
  show -0 ≤ ((clA t).foldl incr m.refs)[c] ∧ _
  constructor
  · omega
  · show ((clA t).foldl incr m.refs)[c] ≤ 60
    omega
/-- The image behind dropping the table that was, as far as it has gone. -/
def rvD (m : Img) (t : List Int) (k : Nat) : Img := imDrops (imRaise m t) (m.table.take k)
theorem rvD_start (m : Img) (t : List Int) : rvD m t 0 = imRaise m t := rfl
theorem rvD_succ {m : Img} (t : List Int) {k : Nat} (hk : k < m.table.length) : rvD m t (k + 1) = imDrop (rvD m t k) m.table[k] := by
  unfold rvD imDrops
  rw [List.take_succ_eq_append_getElem hk, List.foldl_append]; rfl
theorem rvD_all (m : Img) (t : List Int) : rvD m t m.table.length = imDrops (imRaise m t) m.table := by rw [rvD, List.take_length]
theorem rvD_same (m : Img) (t : List Int) (k : Nat) : (rvD m t k).table = m.table ∧ (rvD m t k).snaps = m.snaps := ⟨(imDrops_same _ (imRaise m t)).1, (imDrops_same _ (imRaise m t)).2.1⟩
theorem revert_none {m : Img} {name : ByteArray} (hf : ¬ imFind m name < m.snaps.length) : imRevert m name = (m, 5) := if_neg hf
theorem revert_at {m : Img} {name : ByteArray} {q : Nat} (hq : q < m.snaps.length) (e : imFind m name = q) : imRevert m name = ({ imDrops (imRaise m m.snaps[q].table) m.table with table := m.snaps[q].table }, 0) := by
  have hf : imFind m name < m.snaps.length := by omega
  rw [imRevert, if_pos hf, e, List.getElem?_eq_getElem hq]; rfl

set_option maxHeartbeats 3200000 in
theorem l10Revert_R (a : Im4) (m : Img) (name : ByteArray) (R : Img × Int) (w : World) (hR : R = imRevert m name) (hM : ImM m) (hts : ∀ s ∈ m.snaps, tbB s.table = true) (hc : ImS w a m) :
    Calls Try.prog 36 #[imV a m, .string name] w fun e w' => AnsI w w' e R := by
  have HE := hide (ImE.new w a m hc)
  have HM := hide hM
  have HR := hide hR
  have HTS := hide hts
  have HTL := hide hM.t
  clear hc hM hR hts
  obtain ⟨i0, hi0, hz0, hz1, hz2⟩ := info_parts infoIn
  go_enter Try.func36, Try.ntmps36
  go_upto_region 1 with fail
  revert HE
  generalize ((w.alloc _).alloc _) = W0
  intro HE
  obtain ⟨c0, c1, c2, c3⟩ := (unhide HE).v.cells
  go_wp2_with fail
  refine (l10Own_M a m _ (unhide HM) (unhide HE).s).mono ?_
  rintro e w1 ⟨b, ts, rfl, ho, hb⟩
  have HQ := hide (ImQ.put (w := w) ((unhide HE).v.below hb) ((unhide HE).r.below hb) (ho.base (B' := w.heap.size + 2) (by have := (unhide HE).r.lt; omega)) (fr (unhide HE).b hb) (Nat.le_refl _) (m0 := m) rfl rfl rfl rfl)
  unfold putI at HQ
  obtain ⟨x0, x1, x2, x3⟩ := ((unhide HE).v.below hb).cells
  obtain ⟨z0, z1, z2, z3⟩ := ((unhide HE).v.below hb).free
  clear c0 c1 c2 c3 ho hb HE
  go_upto_region 2 with fail
  clear x0 x1 x2 x3 z0 z1 z2 z3
  revert HQ
  generalize (((w1.setCell _ _).setCell _ _).setCell _ _).setCell _ _ = W1
  intro HQ
  have HS : Hid (ImS W1 b m) := hide ((unhide HQ).o.shows (unhide HM).zs)
  obtain ⟨c0, c1, c2, c3⟩ := (unhide HQ).v.cells
  go_wp2_with fail
  refine (l10Find_any b m name _ (by have := (unhide HM).s; omega) (unhide HS).s).mono ?_
  rintro e w2 ⟨rfl, hb2⟩
  have HQ2 := hide ((unhide HQ).below hb2)
  have HS2 := hide ((unhide HS).s.below hb2)
  clear hb2 c0 c1 c2 c3 HQ HS
  obtain ⟨c0, c1, c2, c3⟩ := (unhide HQ2).v.cells
  obtain ⟨r0, r1, r2, r3⟩ := (unhide HQ2).r.cells
  obtain ⟨z0, z1, z2, z3⟩ := (unhide HQ2).r.free
  by_cases hf : imFind m name < m.snaps.length
  case neg =>
    have HX : Hid (R = (m, 5)) := hide ((unhide HR).trans (revert_none hf))
    have HF := hide (unhide HQ2).fin
    rw [show fdI m name = -1 from if_neg hf]
    clear hf
    go_wp2
    refine bodyPost_ret (res_ic Try.results36 rfl rfl (unhide HF).1) rfl ?_
    rw [unhide HX]
    exact AnsI.of (R := (m, 5)) rfl rfl (unhide HF).2.1 (unhide HF).2.2
  rw [show fdI m name = (imFind m name : Int) from if_pos hf]
  obtain ⟨q, hq⟩ : ∃ q, imFind m name = q := ⟨_, rfl⟩
  have hql : q < m.snaps.length := by omega
  obtain ⟨t, ht⟩ : ∃ t, m.snaps[q].table = t := ⟨_, rfl⟩
  have HX : Hid (R = ({ imDrops (imRaise m t) m.table with table := t }, 0)) := hide (by rw [← ht]; exact (unhide HR).trans (revert_at hql hq))
  rw [hq]
  clear hf hq HR
  obtain ⟨bs, off, tq, tc, es, _, ht0, hIs, _, _⟩ := (unhide HS2) q hql
  have ES := hide es
  have HTB : Hid (tbB t = true) := hide (by rw [← ht]; exact unhide HTS _ (List.getElem_mem hql))
  rw [ht] at hIs ht0
  have HT := hide ht
  have HTI := hide hIs
  have hqi : (q : Int) < (m.snaps.length : Int) := by omega
  have HQL := hide hql
  clear hIs ht
  clear r0 r1 r2 r3 z0 z1 z2 z3
  have hS0 : VarM w2.drew w.heap.size 26 (.slice b.ro m.refs.length b.rc) (.slice b.tq m.table.length b.tc) (.slice (some ⟨bs, off, none⟩) m.snaps.length b.sc) (.slice b.dq m.data.length b.dc) ∧ w2.drew.cell? ⟨bs, off + q * 2 + 1, none⟩ = some (.slice tq t.length tc) := ⟨by rw [← es]; exact (unhide HQ2).v.below (Below.refl _ _).drew, ht0⟩
  clear c0 c1 c2 c3 es
  go_upto_region 5 with fail
  refine wp_region_ord (fun w' => VarM w' w.heap.size 26 (.slice b.ro m.refs.length b.rc) (.slice b.tq m.table.length b.tc) (.slice (some ⟨bs, off, none⟩) m.snaps.length b.sc) (.slice b.dq m.data.length b.dc) ∧ w'.cell? ⟨bs, off + q * 2 + 1, none⟩ = some (.slice tq t.length tc)) [0, 1, 2, 3, 4, 5, 6] [(0, 0), (1, 0), (2, 0), (3, 0), (4, 0), (5, 0), (6, 0), (7, 3), (8, 3)] (by kernel_rfl) (by kernel_rfl) rfl (by kernel_rfl) ?_
  refine ord_read (.agg #[.slice b.ro m.refs.length b.rc, .slice b.tq m.table.length b.tc, .slice (some ⟨bs, off, none⟩) m.snaps.length b.sc, .slice b.dq m.data.length b.dc]) rfl rfl hS0 (fun W hW => by obtain ⟨k0, k1, k2, k3⟩ := hW.1.cells; go_simp) ?_
  refine ord_read (.pointer (some ⟨w.heap.size, 2, none⟩)) rfl rfl hS0 (fun W hW => by go_simp) ?_
  refine ord_read (.slice (some ⟨bs, off, none⟩) m.snaps.length b.sc) rfl rfl hS0 (fun W hW => by obtain ⟨k0, k1, k2, k3⟩ := hW.1.cells; go_simp) ?_
  refine ord_read (.int .i64 q) rfl rfl hS0 (fun W hW => by go_simp) ?_
  refine ord_read (.pointer (some ⟨bs, off + q * 2, none⟩)) rfl rfl hS0 (fun W hW => by go_simp) ?_
  refine ord_read (.pointer (some ⟨bs, off + q * 2 + 1, none⟩)) rfl rfl hS0 (fun W hW => by go_simp) ?_
  refine ord_read (.slice tq t.length tc) rfl rfl hS0 (fun W hW => by have k0 := hW.2; go_simp) ?_
  have HAG : Hid (Value.agg #[.slice b.ro m.refs.length b.rc, .slice b.tq m.table.length b.tc, .slice (some ⟨bs, off, none⟩) m.snaps.length b.sc, .slice b.dq m.data.length b.dc] = imV b m) := hide (by rw [imV, unhide ES])
  clear hS0 ht0
  refine ord_alone rfl rfl ?_
  intro K hK
  unfold Oper.wp
  go_simp
  rw [unhide HAG]
  refine (l10Raise_any b m ts (w.heap.size + 2) tq tc t _ (unhide HM).r (fun c hc => by have := (unhide HM).rv c hc; omega) (unhide HTB) ((unhide HTI).below (Below.refl _ _).drew) ((unhide HQ2).o.below (Below.refl _ _).drew)).mono ?_
  rintro e w3 ⟨rfl, ho3, hk3⟩
  have HQ3 := hide (((unhide HQ2).below (Below.refl _ _).drew).turn hk3 ho3 (cnt1T_len t m.refs) rfl rfl rfl)
  have HQ4 := hide (unhide HQ3).again
  unfold putI at HQ4
  refine hK _ _ ?_
  clear hK K ho3 hk3
  obtain ⟨c0, c1, c2, c3⟩ := (unhide HQ3).v.cells
  obtain ⟨z0, z1, z2, z3⟩ := (unhide HQ3).v.free
  refine ord_alone rfl rfl ?_
  intro K hK
  unfold Oper.wp
  go_simp
  refine hK _ _ ?_
  clear hK K
  refine ord_done ?_
  clear c0 c1 c2 c3 z0 z1 z2 z3 HQ3
  revert HQ4
  generalize (((w3.setCell _ _).setCell _ _).setCell _ _).setCell _ _ = W4
  intro HQ4
  have HBD := hide (raise_bd (unhide HM) (unhide HTB))
  have ht12 := unhide HTL
  clear HQ2 HS2 HTI HAG ES
  go_wp2
  go_loopw [7] (fun i wr => ∃ k : Nat, k ≤ m.table.length ∧ i = .int .i64 k ∧ Hid (ImQ w wr (w.heap.size + 2) b m (rvD m t k) ts) ∧ Hid (RvB (rvD m t k) k)) (fun i _ => m.table.length - (intOf i).toNat)
  case atStart => exact ⟨0, Nat.zero_le _, rfl, by rw [rvD_start]; exact HQ4, by rw [rvD_start]; exact HBD⟩
  case round =>
    clear HQ4 HBD
    obtain ⟨k, hk, rfl, HQ, HB⟩ := hrel
    obtain ⟨c0, c1, c2, c3⟩ := (unhide HQ).v.cells
    by_cases hlt : k < m.table.length
    · have hlti : (k : Int) < (m.table.length : Int) := by omega
      have HSU := hide (rvD_succ t hlt)
      have HTE : Hid ((rvD m t k).table = m.table) := hide (rvD_same m t k).1
      have HLS : Hid ((rvD m t k).refs.length = 24 ∧ (rvD m t k).data.length = 24) := hide ⟨(unhide HQ).e1.trans (unhide HM).r, (unhide HQ).e4.trans (unhide HM).d⟩
      have HTV := hide ((unhide HM).tv k hlt)
      have HBN : Hid (RvB (imDrop (rvD m t k) m.table[k]) ((k + 1 : Nat) : Int)) := hide (by
        have := (unhide HB).drop (by omega) m.table[k]
        rwa [show (k : Int) + 1 = ((k + 1 : Nat) : Int) by omega] at this)
      obtain ⟨gt, et, hct, _, _⟩ := (unhide HQ).setT (c := k) (by rw [unhide HTE]; exact hlt)
      have hct' : wr.cell? ⟨gt, k, none⟩ = some (.int .i64 m.table[k]) := by rw [hct]; simp only [unhide HTE]
      have ET := hide et
      clear hct
      rw [← unhide HSU] at HBN
      have HK64 := hide (unhide HTL)
      go_upto_region 9 with fail
      clear c0 c1 c2 c3
      have hS0 : VarM wr.drew w.heap.size 26 (.slice b.ro m.refs.length b.rc) (.slice (some ⟨gt, 0, none⟩) m.table.length b.tc) (.slice b.so m.snaps.length b.sc) (.slice b.dq m.data.length b.dc) ∧ wr.drew.cell? ⟨gt, k, none⟩ = some (.int .i64 m.table[k]) := ⟨by rw [← et]; exact (unhide HQ).v.below (Below.refl _ _).drew, hct'⟩
      clear hct' et
      have HTG : Hid (∃ T, T = m.table[k]) := hide ⟨_, rfl⟩
      have HDROP : Hid (Calls Try.prog 65 #[.agg #[.slice b.ro m.refs.length b.rc, .slice (some ⟨gt, 0, none⟩) m.table.length b.tc, .slice b.so m.snaps.length b.sc, .slice b.dq m.data.length b.dc], .int .i64 m.table[k]] wr.drew fun e w' => e = .returned (.agg #[.slice b.ro m.refs.length b.rc, .slice (some ⟨gt, 0, none⟩) m.table.length b.tc, .slice b.so m.snaps.length b.sc, .slice b.dq m.data.length b.dc]) ∧ ImQ w w' (w.heap.size + 2) b m (rvD m t (k + 1)) ts) := hide (by
        have h := (unhide HQ).below (Below.refl wr.heap.size wr).drew
        have hv : imV b (rvD m t k) = .agg #[.slice b.ro m.refs.length b.rc, .slice (some ⟨gt, 0, none⟩) m.table.length b.tc, .slice b.so m.snaps.length b.sc, .slice b.dq m.data.length b.dc] := by rw [← h.val, imV, unhide ET]
        rw [← hv]
        refine (l10Drop_M b (rvD m t k) ts (w.heap.size + 2) m.table[k] _ (unhide HTV).1 (unhide HTV).2 (unhide HLS).1 (unhide HLS).2 (fun c hc => by have := unhide HB c hc; have := unhide HTL; omega) h.o).mono ?_
        rintro e w2 ⟨rfl, ho2, hk2'⟩
        rw [unhide HSU]
        exact ⟨rfl, h.turn hk2' ho2 (imDrop_lens _ _).1 (imDrop_lens _ _).2.1 (imDrop_lens _ _).2.2.1 (imDrop_lens _ _).2.2.2⟩)
      clear HTE HLS HTV HSU HTG
      generalize m.table[k] = T at *
      refine wp_region_ord (fun w' => VarM w' w.heap.size 26 (.slice b.ro m.refs.length b.rc) (.slice (some ⟨gt, 0, none⟩) m.table.length b.tc) (.slice b.so m.snaps.length b.sc) (.slice b.dq m.data.length b.dc) ∧ w'.cell? ⟨gt, k, none⟩ = some (.int .i64 T)) [0, 1, 2, 3, 4, 5] [(0, 0), (1, 0), (2, 0), (3, 0), (4, 0), (5, 0), (6, 3), (7, 3)] (by kernel_rfl) (by kernel_rfl) rfl (by kernel_rfl) ?_
      refine ord_read (.agg #[.slice b.ro m.refs.length b.rc, .slice (some ⟨gt, 0, none⟩) m.table.length b.tc, .slice b.so m.snaps.length b.sc, .slice b.dq m.data.length b.dc]) rfl rfl hS0 (fun W hW => by obtain ⟨k0, k1, k2, k3⟩ := hW.1.cells; go_simp) ?_
      refine ord_read (.pointer (some ⟨w.heap.size, 1, none⟩)) rfl rfl hS0 (fun W hW => by go_simp) ?_
      refine ord_read (.slice (some ⟨gt, 0, none⟩) m.table.length b.tc) rfl rfl hS0 (fun W hW => by obtain ⟨k0, k1, k2, k3⟩ := hW.1.cells; go_simp) ?_
      refine ord_read (.int .i64 k) rfl rfl hS0 (fun W hW => by go_simp) ?_
      refine ord_read (.pointer (some ⟨gt, k, none⟩)) rfl rfl hS0 (fun W hW => by go_simp) ?_
      refine ord_read (.int .i64 T) rfl rfl hS0 (fun W hW => by have k0 := hW.2; go_simp) ?_
      clear hS0
      refine ord_alone rfl rfl ?_
      intro K hK
      unfold Oper.wp
      go_simp
      refine (unhide HDROP).mono ?_
      rintro e w2 ⟨rfl, hq2⟩
      have HQ3 := hide hq2
      have HQ4 := hide hq2.again
      unfold putI at HQ4
      rw [unhide ET] at HQ4
      refine hK _ _ ?_
      clear hK K hq2
      obtain ⟨c0, c1, c2, c3⟩ := (unhide HQ3).v.cells
      obtain ⟨z0, z1, z2, z3⟩ := (unhide HQ3).v.free
      refine ord_alone rfl rfl ?_
      intro K hK
      unfold Oper.wp
      go_simp
      refine hK _ _ ?_
      clear hK K
      refine ord_done ?_
      clear c0 c1 c2 c3 z0 z1 z2 z3 HQ3 HDROP HQ HB
      revert HQ4
      generalize (((w2.setCell _ _).setCell _ _).setCell _ _).setCell _ _ = W4
      intro HQ4
      go_wp2
      go_roundw
      case rel => exact ⟨k + 1, by omega, by go_num, HQ4, HBN⟩
      case measure => simp [intOf]; omega
    · obtain rfl : k = m.table.length := by omega
      have HD : Hid (rvD m t m.table.length = imDrops (imRaise m t) m.table) := hide (rvD_all m t)
      have HSN : Hid (Sns wr b.so m.snaps) := hide (by
        have := ((unhide HQ).o.shows (by rw [(rvD_same m t m.table.length).2]; exact (unhide HM).zs)).s
        rwa [(rvD_same m t m.table.length).2] at this)
      obtain ⟨bs, off, tq, tc, es, _, ht0, hIs, _, _⟩ := (unhide HSN) q (unhide HQL)
      rw [unhide HT] at ht0 hIs
      rw [es] at c2
      have HIS := hide hIs
      have HTL2 : Hid (t.length ≤ 12) := hide (tbB_len (unhide HTB))
      clear hIs HSN es HB
      rw [unhide HD] at HQ
      generalize imDrops (imRaise m t) m.table = D at *
      have hx1 := (unhide HQ).v.lt
      have hx2 := World.block_lt_of_cell? _ _ ht0
      have hb5 := Joins.below_alloc1 wr (.cells #[] 3)
      have HQ5 := hide ((unhide HQ).below hb5)
      have HI5 := hide ((unhide HIS).below hb5)
      clear hb5
      go_upto_region 11 with (at_builtin; refine wpList_append_fresh rfl _ _ 23 rfl 3 i0 (.int .i64 0) 1 8 Try.underlying23 hi0 hz0 hz1 hz2 rfl (by omega) rfl tq t.length tc (intV t) rfl (by rw [intV_length]; omega) (Is.srcI (unhide HI5)) (by have := unhide HTL2; unfold maxLen; omega) (by have := unhide HTL2; omega) ?_; intro qo qa w6 ho6 hg6; have HB6 := hide (belowGr (Below.refl _ _) hg6); have HO6 := hide ho6; clear ho6 hg6; have HQ6 := hide ((unhide HQ5).below (unhide HB6)); obtain ⟨c0, c1, c2, c3⟩ := (unhide HQ6).v.cells; obtain ⟨z0, z1, z2, z3⟩ := (unhide HQ6).v.free)
      have HON := hide ((unhide HQ5).o.newT (unhide HB6) (OwnN.mk' (unhide HO6) rfl) rfl (by have := (unhide HQ5).r.lt; omega))
      have HQ7 : Hid (ImQ w (w6.setCell ⟨w.heap.size, 1, none⟩ (.slice qo t.length qa)) (w.heap.size + 2) { b with tq := qo, tc := qa } { m with table := t } { D with table := t } ts) := hide
        ⟨(unhide HQ6).v.set1 _, (unhide HQ6).r.other (p := ⟨w.heap.size, 1, none⟩) (by simp) _, (unhide HON).setCell (p := ⟨w.heap.size, 1, none⟩) (by simp) _, (unhide HQ6).b.setCell (p := ⟨w.heap.size, 1, none⟩) (Nat.le_refl _) _, (unhide HQ6).hB, (unhide HQ6).e1, rfl, (unhide HQ6).e3, (unhide HQ6).e4⟩
      clear c0 c1 c2 c3 z0 z1 z2 z3 ht0 hx1 hx2
      revert HQ7
      generalize (w6.setCell _ _) = W7
      intro HQ7
      have HF := hide (unhide HQ7).fin
      obtain ⟨c0, c1, c2, c3⟩ := (unhide HQ7).v.cells
      obtain ⟨r0, r1, r2, r3⟩ := (unhide HQ7).r.cells
      obtain ⟨z0, z1, z2, z3⟩ := (unhide HQ7).r.free
      go_wp2
      refine bodyPost_ret (res_ic Try.results36 rfl rfl (unhide HF).1) rfl ?_
      rw [unhide HX]
      exact AnsI.of (R := ({ D with table := t }, 0)) (unhide HQ7).val rfl (unhide HF).2.1 (unhide HF).2.2

end Go.Proofs.Ytmkegkpnomcnhaa

/- Counts out of their record, plainly. -/
namespace Go.Proofs.Ytmkegkpnomcnhaa
open Go.RowKit
set_option linter.unusedVariables false
set_option maxRecDepth 100000

/-- The first counts of a number, and what is left of it. -/
def sxT (p : Int) (m : Nat) : List Int := (List.range m).map fun i => p / 16 ^ i % 16
theorem sxT_len (p : Int) (m : Nat) : (sxT p m).length = m := by simp [sxT]
theorem sxT_succ (p : Int) (m : Nat) : sxT p (m + 1) = sxT p m ++ [p / 16 ^ m % 16] := by simp [sxT, List.range_succ]
theorem rest_succ (p : Int) (m : Nat) : p / 16 ^ m / 16 = p / 16 ^ (m + 1) := by
  rw [show (16 : Int) ^ (m + 1) = 16 ^ m * 16 from Int.pow_succ 16 m, Int.ediv_ediv_of_nonneg (by exact Int.le_of_lt (Int.pow_pos (by omega)))]
theorem rest_in {p : Int} (h0 : 0 ≤ p) (h1 : p ≤ 2147483647) : ∀ m, 0 ≤ p / 16 ^ m ∧ p / 16 ^ m ≤ 2147483647
  | 0 => by simpa using ⟨h0, h1⟩
  | m + 1 => by
    obtain ⟨g0, g1⟩ := rest_in h0 h1 m
    rw [← rest_succ]
    generalize p / 16 ^ m = V at *
    omega
/-- The counts of the first numbers. -/
def sxA (ns : List Int) (i : Nat) : List Int := (ns.take i).flatMap fun p => sxT p 6
theorem sxA_len (ns : List Int) : ∀ i, i ≤ ns.length → (sxA ns i).length = 6 * i
  | 0, _ => by simp [sxA]
  | i + 1, h => by
    have := sxA_len ns i (by omega)
    unfold sxA at *
    rw [List.take_succ_eq_append_getElem (by omega), List.flatMap_append, List.length_append, this]
    simp [sxT_len]; omega
theorem sxA_succ {ns : List Int} {i : Nat} (h : i < ns.length) : sxA ns i ++ sxT ns[i] 6 = sxA ns (i + 1) := by
  unfold sxA
  rw [List.take_succ_eq_append_getElem h, List.flatMap_append]; simp
/-- A list of 24: what is there, and zeros behind it. -/
def pad24 (xs : List Int) : List Int := xs ++ List.replicate (24 - xs.length) 0
theorem pad_len {xs : List Int} (h : xs.length ≤ 24) : (pad24 xs).length = 24 := by simp [pad24]; omega
theorem pad_nil : pad24 [] = zero24 := rfl
theorem pad_full {xs : List Int} (h : xs.length = 24) : pad24 xs = xs := by simp [pad24, h]
theorem pad_set {xs : List Int} (h : xs.length < 24) (n : Int) : (pad24 xs).set xs.length n = pad24 (xs ++ [n]) := by
  unfold pad24
  rw [List.set_append, if_neg (by omega), Nat.sub_self, List.append_assoc]
  obtain ⟨k, hk⟩ : ∃ k, 24 - xs.length = k + 1 := ⟨24 - xs.length - 1, by omega⟩
  rw [hk, List.replicate_succ, List.set_cons_zero, List.length_append, show 24 - (xs.length + [n].length) = k by simp; omega]
  rfl
/-- What a text says of counts. -/
def cdN (p : Int) : Bool := decide (p / 16 ^ 6 = 0)
def cdB (s : ByteArray) : Bool := openB s 2 && decide ((openL s 2).length = 4) && (openL s 2).all cdN
def cdL (s : ByteArray) : List Int := sxA (openL s 2) 4
def cdC (s : ByteArray) : Int := if 65536 < s.size then 2 else if cdB s = true then 0 else 3
def cdR (s : ByteArray) : List Int := if cdC s = 0 then cdL s else []
theorem cd_open {s : ByteArray} (h : openB s 2 = false) : cdB s = false := by rw [cdB, h]; rfl
theorem cd_len {s : ByteArray} (h : ¬ (openL s 2).length = 4) : cdB s = false := by rw [cdB, decide_eq_false h]; simp
theorem cd_num {s : ByteArray} {k : Nat} (hk : k < (openL s 2).length) (h : cdN (openL s 2)[k] = false) : cdB s = false := by rw [cdB, all_not (p := cdN) hk h]; simp
theorem cd_yes {s : ByteArray} (h : openB s 2 = true) (hl : (openL s 2).length = 4) (ha : ∀ j (hj : j < (openL s 2).length), cdN (openL s 2)[j] = true) : cdB s = true := by
  rw [cdB, h, decide_eq_true hl, all_of (p := cdN) (fun i hi _ => ha i hi)]; rfl
theorem cdB_parts {s : ByteArray} (h : cdB s = true) : openB s 2 = true ∧ (openL s 2).length = 4 ∧ ∀ j (hj : j < (openL s 2).length), cdN (openL s 2)[j] = true := by
  simp only [cdB, Bool.and_eq_true, decide_eq_true_eq, List.all_eq_true] at h
  exact ⟨h.1.1, h.1.2, fun j hj => h.2 _ (List.getElem_mem hj)⟩
theorem cdL_len {s : ByteArray} (h : cdB s = true) : (cdL s).length = 24 := by
  obtain ⟨_, h4, _⟩ := cdB_parts h
  rw [cdL, sxA_len _ _ (by omega)]
theorem cd_long {s : ByteArray} (h : 65536 < s.size) : cdC s = 2 ∧ cdR s = [] := by
  have e : cdC s = 2 := if_pos h
  exact ⟨e, by rw [cdR, e]; rfl⟩
theorem cd_no {s : ByteArray} (h : ¬ 65536 < s.size) (hb : cdB s = false) : cdC s = 3 ∧ cdR s = [] := by
  have e : cdC s = 3 := by rw [cdC, if_neg h, hb]; rfl
  exact ⟨e, by rw [cdR, e]; rfl⟩
theorem cd_ok {s : ByteArray} (h : ¬ 65536 < s.size) (hb : cdB s = true) : cdC s = 0 ∧ cdR s = cdL s := by
  have e : cdC s = 0 := by rw [cdC, if_neg h, hb]; rfl
  exact ⟨e, by rw [cdR, e]; rfl⟩
theorem cdR_len (s : ByteArray) : (cdR s).length ≤ 24 := by
  by_cases h : 65536 < s.size
  · rw [(cd_long h).2]; exact Nat.zero_le _
  · cases hb : cdB s
    · rw [(cd_no h hb).2]; exact Nat.zero_le _
    · rw [(cd_ok h hb).2, cdL_len hb]; exact Nat.le_refl _
theorem openL_in {s : ByteArray} {k : Int} (h : openB s k = true) : ∀ j (hj : j < (openL s k).length), 0 ≤ (openL s k)[j] ∧ (openL s k)[j] ≤ 2147483647 := by
  intro j hj
  have hr : RecP s := by
    cases hq : recB s
    · rw [openB, hq] at h; cases h
    · exact recB_iff.1 hq
  rw [openL_yes h] at hj
  simp only [openL_yes h]
  have hu : okU (bodyT s) = true := hr.2.2.2.2.2
  exact (intsB_parts (okU_parts hu).2.2).1 j hj

end Go.Proofs.Ytmkegkpnomcnhaa

/- Plain: counts that were encoded are decoded; one up and one down is nothing. -/
namespace Go.Proofs.Ytmkegkpnomcnhaa
open Go.RowKit
set_option linter.unusedVariables false
set_option maxRecDepth 100000

theorem lo_digit {xs : List Int} (i : Nat) (h : ∀ j, 0 ≤ xs.getD j 0 ∧ xs.getD j 0 ≤ 15) (t : Nat) (ht : t < 6) : lo6 xs i 6 / 16 ^ t % 16 = xs.getD (i + t) 0 := by
  have h0 := h (i + 0)
  have h1 := h (i + 1)
  have h2 := h (i + 2)
  have h3 := h (i + 3)
  have h4 := h (i + 4)
  have h5 := h (i + 5)
  simp only [lo6, show (16 : Int) ^ 0 = 1 from rfl, show (16 : Int) ^ 1 = 16 from rfl, show (16 : Int) ^ 2 = 256 from rfl, show (16 : Int) ^ 3 = 4096 from rfl, show (16 : Int) ^ 4 = 65536 from rfl, show (16 : Int) ^ 5 = 1048576 from rfl]
  generalize e0 : xs.getD (i + 0) 0 = a0 at *
  generalize e1 : xs.getD (i + 1) 0 = a1 at *
  generalize e2 : xs.getD (i + 2) 0 = a2 at *
  generalize e3 : xs.getD (i + 3) 0 = a3 at *
  generalize e4 : xs.getD (i + 4) 0 = a4 at *
  generalize e5 : xs.getD (i + 5) 0 = a5 at *
  match t, ht with
  | 0, _ => rw [show (16 : Int) ^ 0 = 1 from rfl, e0]; omega
  | 1, _ => rw [show (16 : Int) ^ 1 = 16 from rfl, e1]; omega
  | 2, _ => rw [show (16 : Int) ^ 2 = 256 from rfl, e2]; omega
  | 3, _ => rw [show (16 : Int) ^ 3 = 4096 from rfl, e3]; omega
  | 4, _ => rw [show (16 : Int) ^ 4 = 65536 from rfl, e4]; omega
  | 5, _ => rw [show (16 : Int) ^ 5 = 1048576 from rfl, e5]; omega
theorem sx_cut {xs : List Int} (hb : ctB xs = true) (i : Nat) (hi : i + 6 ≤ xs.length) : sxT (lo6 xs i 6) 6 = (xs.drop i).take 6 := by
  apply List.ext_getElem
  · rw [sxT_len, List.length_take, List.length_drop]; omega
  · intro t h1 h2
    have h6 : t < 6 := by rw [sxT_len] at h1; exact h1
    refine (show _ = lo6 xs i 6 / 16 ^ t % 16 by simp [sxT]).trans ?_
    rw [lo_digit i (ctB_getD hb) t h6, List.getElem_take, List.getElem_drop]
    simp [List.getD, show i + t < xs.length by omega]
theorem four_cuts {xs : List Int} (hl : xs.length = 24) : (xs.drop 0).take 6 ++ ((xs.drop 6).take 6 ++ ((xs.drop 12).take 6 ++ (xs.drop 18).take 6)) = xs := by
  have a : (xs.drop 18).take 6 = xs.drop 18 := List.take_of_length_le (by rw [List.length_drop]; omega)
  have b : (xs.drop 12).take 6 ++ xs.drop 18 = xs.drop 12 := by
    have := List.take_append_drop 6 (xs.drop 12)
    rw [List.drop_drop] at this; exact this
  have c : (xs.drop 6).take 6 ++ xs.drop 12 = xs.drop 6 := by
    have := List.take_append_drop 6 (xs.drop 6)
    rw [List.drop_drop] at this; exact this
  rw [a, b, c, List.drop_zero, List.take_append_drop]
/-- Counts that were encoded are decoded. -/
theorem enc_cd {xs : List Int} (hb : ctB xs = true) : cdC (encT xs) = 0 ∧ cdR (encT xs) = xs := by
  have hl := ctB_len hb
  have hall : allB (ctNs xs) = true := allB_true (fun j hj => by have := ctNs_in hb j hj; simp [numB, inB]; omega)
  have hz : (encT xs).size = 20 := sealS_size 2 (ctNs xs)
  have ho : openB (encT xs) 2 = true := openB_yes (rec_seal (by decide) hall (by simp [ctNs])) (seal_kind (by decide) (by simp [ctNs]))
  have hL : openL (encT xs) 2 = ctNs xs := by rw [openL_yes ho, encT, body_seal, un_pack hall]
  have hB : cdB (encT xs) = true := by
    apply cd_yes ho
    · rw [hL]; rfl
    · simp only [hL]
      intro j hj
      have := ctNs_in hb j hj
      simp only [cdN, decide_eq_true_eq]
      rw [show (16 : Int) ^ 6 = 16777216 from rfl]
      omega
  obtain ⟨c1, c2⟩ := cd_ok (by omega) hB
  refine ⟨c1, c2.trans ?_⟩
  rw [cdL, hL]
  have e : sxA (ctNs xs) 4 = sxT (lo6 xs 0 6) 6 ++ (sxT (lo6 xs 6 6) 6 ++ (sxT (lo6 xs 12 6) 6 ++ sxT (lo6 xs 18 6) 6)) := by simp [sxA, ctNs]
  rw [e, sx_cut hb 0 (by omega), sx_cut hb 6 (by omega), sx_cut hb 12 (by omega), sx_cut hb 18 (by omega), four_cuts hl]
theorem sum_set : ∀ (xs : List Int) (k : Nat) (h : k < xs.length) (v : Int), (xs.set k v).sum = xs.sum - xs[k] + v
  | x :: xs, 0, _, v => by simp; omega
  | x :: xs, k + 1, h, v => by
    have := sum_set xs k (by simpa using h) v
    simp only [List.set_cons_succ, List.sum_cons, List.getElem_cons_succ, this]; omega
/-- One up, and one down again. -/
theorem up_down {xs : List Int} {k : Nat} (hb : ctB xs = true) (hk : k < xs.length) (h15 : ¬ xs[k] = 15) : upF xs k = 0 ∧ ctB (upL xs k) = true ∧ (upL xs k).length = 24 ∧ (upL xs k)[k]? = some (xs[k] + 1) ∧ dnF (upL xs k) k = 0 ∧ dnL (upL xs k) k = xs ∧ smR (upL xs k) = smR xs + 1 := by
  have hl := ctB_len hb
  have h0 : cwF xs (k : Int) = 0 := by rw [cwF, if_pos (ctF_ok hb), if_pos (betw_yes (by omega) (by omega))]
  obtain ⟨u1, u2⟩ := (up_at h0 hk).2 h15
  have hr := ctB_at hb k hk
  have hyl : (xs.set k (xs[k] + 1)).length = 24 := by rw [List.length_set]; exact hl
  have hyb : ctB (xs.set k (xs[k] + 1)) = true := ctB_of hyl (fun i hi => by
    rw [List.getElem_set]
    split
    · exact betw_yes (by omega) (by omega)
    · have := ctB_at hb i (by rw [List.length_set] at hi; exact hi)
      exact betw_yes this.1 this.2)
  have hy0 : cwF (xs.set k (xs[k] + 1)) (k : Int) = 0 := by rw [cwF, if_pos (ctF_ok hyb), if_pos (betw_yes (by omega) (by omega))]
  have hyk : k < (xs.set k (xs[k] + 1)).length := by omega
  have hye : (xs.set k (xs[k] + 1))[k] = xs[k] + 1 := by simp
  obtain ⟨d1, d2⟩ := (dn_at hy0 hyk).2 (by rw [hye]; omega)
  rw [u2]
  refine ⟨u1, hyb, hyl, ?_, d1, ?_, ?_⟩
  · simp [hk]
  · rw [d2, hye, List.set_set, show xs[k] + 1 - 1 = xs[k] by omega, List.set_getElem_self]
  · rw [smR, smR, if_pos (ctF_ok hyb), if_pos (ctF_ok hb), sum_set xs k hk]; omega

end Go.Proofs.Ytmkegkpnomcnhaa

/- The store, plainly: names as numbers, an image's updates, what sectors say. (Made ahead of stage 11.) -/
namespace Go.Proofs.Ytmkegkpnomcnhaa
open Go.RowKit
set_option linter.unusedVariables false
set_option maxRecDepth 100000

/-- A name's number: letters base 27, a being 1. -/
def ch1 (n : Int) (b : UInt8) : Int := 27 * n + ((b.toNat : Int) - 97) % 256 + 1
def nmN (t : ByteArray) : Int := t.data.toList.foldl ch1 0
def pnF (t : ByteArray) : Int := if 65536 < t.size then 2 else if snmB t = true then 0 else 12
def pnN (t : ByteArray) : Int := if pnF t = 0 then nmN t else 0
/-- A number's letters. -/
def lt1 (n : Nat) : UInt8 := UInt8.ofNat (97 + (n + 26) % 27)
def ltL : Nat → Nat → List UInt8
  | 0, _ => []
  | f + 1, n => if n = 0 then [] else ltL f (n / 27) ++ [lt1 n]
def unT (n : Int) : ByteArray := ⟨(ltL 8 n.toNat).toArray⟩
theorem ch1_in {n : Int} {b : UInt8} (hb : nm1 b = true) : ch1 n b = 27 * n + ((b.toNat : Int) - 96) := by
  simp only [nm1, Bool.and_eq_true, decide_eq_true_eq] at hb
  unfold ch1
  rw [Int.emod_eq_of_lt (by omega) (by omega)]; omega
theorem fold_lo : ∀ (l : List UInt8), l.all nm1 = true → ∀ n : Int, 0 ≤ n → 0 ≤ l.foldl ch1 n ∧ l.foldl ch1 n + 1 ≤ (n + 1) * 27 ^ l.length
  | [], _, n, hn => ⟨hn, by simp⟩
  | b :: l, h, n, hn => by
    simp only [List.all_cons, Bool.and_eq_true] at h
    have hb := h.1
    simp only [nm1, Bool.and_eq_true, decide_eq_true_eq] at hb
    rw [List.foldl_cons, ch1_in h.1]
    have := fold_lo l h.2 (27 * n + ((b.toNat : Int) - 96)) (by omega)
    refine ⟨this.1, Int.le_trans this.2 ?_⟩
    rw [List.length_cons, Int.pow_succ, Int.mul_comm _ 27, ← Int.mul_assoc]
    exact Int.mul_le_mul_of_nonneg_right (by omega) (Int.pow_nonneg (by omega))
theorem snm_parts {t : ByteArray} (h : snmB t = true) : t.data.toList.all nm1 = true ∧ 1 ≤ t.size ∧ t.size ≤ 6 := by
  simp only [snmB, Bool.and_eq_true] at h
  have := betw_iff.1 h.2
  exact ⟨h.1, by omega, by omega⟩
theorem nmN_in {t : ByteArray} (h : snmB t = true) : 0 ≤ nmN t ∧ nmN t ≤ 387420488 := by
  obtain ⟨h1, h2, h3⟩ := snm_parts h
  have h4 := fold_lo _ h1 0 (by omega)
  have hl : t.data.toList.length = t.size := by simp
  rw [hl] at h4
  refine ⟨h4.1, ?_⟩
  have : (27 : Int) ^ t.size ≤ 387420489 := by rcases (show t.size = 1 ∨ t.size = 2 ∨ t.size = 3 ∨ t.size = 4 ∨ t.size = 5 ∨ t.size = 6 by omega) with e | e | e | e | e | e <;> rw [e] <;> decide
  have h5 := h4.2
  unfold nmN
  omega
/-- Letters of a name's number are the name. -/
theorem lt1_ch1 {n : Nat} {b : UInt8} (hb : nm1 b = true) : lt1 (27 * n + (b.toNat - 96)) = b ∧ (27 * n + (b.toNat - 96)) / 27 = n ∧ 27 * n + (b.toNat - 96) ≠ 0 := by
  simp only [nm1, Bool.and_eq_true, decide_eq_true_eq] at hb
  refine ⟨?_, by omega, by omega⟩
  unfold lt1
  rw [show 97 + (27 * n + (b.toNat - 96) + 26) % 27 = b.toNat by omega]
  exact UInt8.ofNat_toNat
theorem ltL_fold : ∀ (l : List UInt8) (f n : Nat), l.all nm1 = true → ∃ N : Nat, l.foldl ch1 (n : Int) = (N : Int) ∧ ltL (f + l.length) N = ltL f n ++ l
  | [], f, n, _ => ⟨n, rfl, by simp⟩
  | b :: l, f, n, h => by
    simp only [List.all_cons, Bool.and_eq_true] at h
    obtain ⟨k1, k2, k3⟩ := lt1_ch1 (n := n) h.1
    have hb := h.1
    simp only [nm1, Bool.and_eq_true, decide_eq_true_eq] at hb
    obtain ⟨N, e, hN⟩ := ltL_fold l (f + 1) (27 * n + (b.toNat - 96)) h.2
    refine ⟨N, ?_, ?_⟩
    · rw [List.foldl_cons, ch1_in h.1, ← e]
      congr 1
      omega
    · rw [List.length_cons, show f + (l.length + 1) = f + 1 + l.length by omega, hN]
      have : ltL (f + 1) (27 * n + (b.toNat - 96)) = ltL f n ++ [b] := by
        rw [ltL, if_neg k3, k1, k2]
      rw [this, List.append_assoc]; rfl
theorem ltL_zero (f : Nat) : ltL f 0 = [] := by cases f <;> simp [ltL]
theorem ltL_more : ∀ (f k n : Nat), n < 27 ^ f → ltL (f + k) n = ltL f n
  | 0, k, n, h => by
    have : n = 0 := by simpa using h
    subst this
    rw [ltL_zero, ltL_zero]
  | f + 1, k, n, h => by
    rw [show f + 1 + k = (f + k) + 1 by omega, ltL, ltL]
    by_cases hn : n = 0
    · rw [if_pos hn, if_pos hn]
    · rw [if_neg hn, if_neg hn, ltL_more f k (n / 27) (by rw [Nat.pow_succ] at h; omega)]
theorem un_nm {t : ByteArray} (h : snmB t = true) : unT (nmN t) = t := by
  obtain ⟨h1, h2, h3⟩ := snm_parts h
  have hl : t.data.toList.length = t.size := by simp
  obtain ⟨N, e, hN⟩ := ltL_fold t.data.toList (8 - t.size) 0 h1
  rw [hl, show 8 - t.size + t.size = 8 by omega, ltL_zero, List.nil_append] at hN
  have e2 : nmN t = (N : Int) := e
  rw [unT, e2, Int.toNat_natCast, hN]
theorem un_nm2 {t : ByteArray} (h : snmB t = true) : nmN (unT (nmN t)) = nmN t := by rw [un_nm h]

/-- An image's updates: the names, the counts, the tables, and data of clusters that some table has. -/
def supL (m : Img) : List Int := (m.snaps.length : Int) :: m.snaps.map (fun s => nmN s.name)
def tabU : Nat → List Snp → List Up
  | _, [] => []
  | i, s :: ss => ⟨12 + (i : Int), encTb s.table⟩ :: tabU (i + 1) ss
def datU (m : Img) (c : Nat) : List Up := if 0 < m.refs.getD c 0 then [⟨15 + (c : Int), sealS 4 [m.data.getD c 0]⟩] else []
def headU (m : Img) : List Up := [⟨9, sealS 1 (supL m)⟩, ⟨10, encT m.refs⟩, ⟨11, encTb m.table⟩]
def dataU (m : Img) (k : Nat) : List Up := (List.range k).flatMap (datU m)
def allU (m : Img) : List Up := headU m ++ tabU 0 m.snaps ++ dataU m 24
theorem tabU_len : ∀ (ss : List Snp) (i : Nat), (tabU i ss).length = ss.length
  | [], i => rfl
  | s :: ss, i => by simp only [tabU, List.length_cons, tabU_len ss (i + 1)]
theorem tabU_snoc : ∀ (ss : List Snp) (i : Nat) (s : Snp), tabU i (ss ++ [s]) = tabU i ss ++ [⟨12 + ((i + ss.length : Nat) : Int), encTb s.table⟩]
  | [], i, s => by simp [tabU]
  | a :: ss, i, s => by
    simp only [List.cons_append, tabU, tabU_snoc ss (i + 1) s, List.length_cons]
    rw [show i + 1 + ss.length = i + (ss.length + 1) by omega]
theorem dataU_succ (m : Img) (k : Nat) : dataU m (k + 1) = dataU m k ++ datU m k := by
  unfold dataU
  rw [List.range_succ, List.flatMap_append]; simp
theorem dataU_len (m : Img) : ∀ k, (dataU m k).length ≤ k
  | 0 => by simp [dataU]
  | k + 1 => by
    rw [dataU_succ, List.length_append]
    have := dataU_len m k
    have h2 : (datU m k).length ≤ 1 := by unfold datU; split <;> simp
    omega
theorem allU_len {m : Img} (h : m.snaps.length ≤ 3) : (allU m).length ≤ 30 := by
  unfold allU
  rw [List.length_append, List.length_append, tabU_len]
  have := dataU_len m 24
  have : (headU m).length = 3 := rfl
  omega
/-- What ImageUpdates answers. -/
def iuA (m : Img) : List Up × Int := if imB m = true then (allU m, 0) else ([], 1)
/-- What one image's sectors have otherwise than another's. -/
def upEq (u v : Up) : Bool := decide (u.at_ = v.at_) && decide (u.data = v.data)
def difU (a b : Img) : List Up := (allU b).filter fun u => !((allU a).any fun v => upEq v u)
def dfA (a b : Img) : List Up × Int := if imB a = true ∧ imB b = true then (difU a b, 0) else ([], 1)

end Go.Proofs.Ytmkegkpnomcnhaa

/- What stays beside a source of choices; contract of spec.l00Source. -/
namespace Go.Proofs.Ytmkegkpnomcnhaa
open Go.RowKit
set_option linter.unusedVariables false
set_option maxRecDepth 100000

theorem keep_cell {S : Nat → Prop} {w w' : World} {a : Addr} {v : Value} (hk : Keep S w w') (ha : ¬ S a.block) (h : w.cell? a = some v) : w'.cell? a = some v := by
  have hl := World.block_lt_of_cell? _ _ h
  rw [← h]
  unfold World.cell?
  simp only [hk.block a.block hl ha]
theorem keep_new {w w1 w2 : World} {b : Nat} {S : Nat → Prop} (h : Keep (fun k => k = b) w w1) (hk : Keep S w1 w2) (hs : ∀ k, S k → w.heap.size ≤ k ∨ k = b) : Keep (fun k => k = b) w w2 :=
  ⟨hk.os.trans h.os, hk.tape.trans h.tape, hk.output.trans h.output, Nat.le_trans h.size hk.size, fun k hl hn => (hk.block k (Nat.lt_of_lt_of_le hl h.size) (fun hS => by
    rcases hs k hS with h1 | h1
    · omega
    · exact hn h1)).trans (h.block k hl hn)⟩
theorem SrcK.other {w w1 w2 : World} {b : Nat} {ao : Option Addr} {n cap m m0 : Nat} {S : Nat → Prop} (h0 : SrcK w b ao n cap m0) (h : SrcK w1 b ao n cap m) (hw : Keep (fun k => k = b) w w2) (hk : Keep S w1 w2) (hs : ¬ S b) : SrcK w2 b ao n cap m := by
  obtain ⟨x0, y0, _, _, _, _, hblk0⟩ := h0.src
  obtain ⟨x, y, c0, c1, c2, c3, c4⟩ := h.src
  refine ⟨⟨x, y, c0, c1, c2, c3, ?_⟩, h0.bytes.keep hblk0 (fun z h => by cases h) hw⟩
  rw [hk.block b (Array.getElem?_eq_some_iff.1 c4).1 hs]; exact c4

theorem source_any (ao : Option Addr) (n cap : Nat) (w : World) (hn : n ≤ 1048576) (hB : Bs w ao n) :
    Calls Try.prog 22 #[.slice ao n cap] w fun e w' => e = .returned (.pointer (some ⟨w.heap.size, 0, none⟩)) ∧ SrcK w' w.heap.size ao n cap 0 ∧ Below w.heap.size w w' ∧ w'.heap.size = w.heap.size + 1 := by
  go_enter Try.func22, Try.ntmps22
  go_wp2
  go_ret
  exact ⟨rfl, ⟨⟨0, (n : Int) % 1000, by omega, by omega, by omega, by omega, heap_alloc_new w _⟩, hB.below (Joins.below_alloc1 _ _)⟩, Joins.below_alloc1 _ _, by simp⟩

theorem keep_drop {w w' : World} {b : Nat} (h : Keep (fun k => k = b ∨ w.heap.size ≤ k) w w') : Keep (fun k => k = b) w w' :=
  ⟨h.os, h.tape, h.output, h.size, fun k hl hn => h.block k hl (fun e => by
    rcases e with e | e
    · exact hn e
    · omega)⟩
theorem blk_keep {S : Nat → Prop} {w w' : World} {k : Nat} {o : Obj} (hk : Keep S w w') (hs : ¬ S k) (h : w.heap[k]? = some o) : w'.heap[k]? = some o := by
  rw [hk.block k (Array.getElem?_eq_some_iff.1 h).1 hs]; exact h
theorem blk_below {w w' : World} {k : Nat} {o : Obj} (hk : Below w.heap.size w w') (h : w.heap[k]? = some o) : w'.heap[k]? = some o := by
  rw [hk.block k (Array.getElem?_eq_some_iff.1 h).1]; exact h
theorem blk_lt {w : World} {k : Nat} {o : Obj} (h : w.heap[k]? = some o) : k < w.heap.size := (Array.getElem?_eq_some_iff.1 h).1

end Go.Proofs.Ytmkegkpnomcnhaa

/- Contracts of the model's drawn numbers: number, numbers, NumbersOf. -/
namespace Go.Proofs.Ytmkegkpnomcnhaa
open Go.RowKit
set_option linter.unusedVariables false
set_option maxRecDepth 100000

set_option maxHeartbeats 1600000 in
theorem number_k (b : Nat) (ao : Option Addr) (n cap m : Nat) (w : World) (hm : m ≤ 800000) (hn : n ≤ 1048576) (hs : SrcK w b ao n cap m) :
    Calls Try.prog 54 #[.pointer (some ⟨b, 0, none⟩)] w fun e w' => ∃ r : Int, e = .returned (.int .i64 r) ∧ 0 ≤ r ∧ r ≤ 2147483647 ∧ SrcK w' b ao n cap (m + 9) ∧ Keep (fun k => k = b) w w' := by
  have HS := hide hs
  clear hs
  go_enter Try.func54, Try.ntmps54
  go_wp2_with fail
  refine (next_k b ao n cap m 9 _ (by omega) (by omega) (by omega) hn (unhide HS)).mono ?_
  rintro e w1 ⟨r1, rfl, hr10, hr11, hs1, hk1⟩
  have HS1 := hide hs1
  have HK1 := hide hk1
  clear hs1 hk1
  go_wp2_with fail
  refine (next_k b ao n cap (m + 3) 70000 _ (by omega) (by omega) (by omega) hn (unhide HS1)).mono ?_
  rintro e w2 ⟨r2, rfl, hr20, hr21, hs2, hk2⟩
  have HS2 := hide (hs2.below (Joins.below_alloc1 _ (.cells #[.int .i64 r1, .int .i64 r2, .int .i64 2147483647] 3)))
  have HK2 := hide (((unhide HK1).trans hk2).trans (Keep.of_below (Joins.below_alloc1 _ (.cells #[.int .i64 r1, .int .i64 r2, .int .i64 2147483647] 3))))
  have hbl := hs2.lt
  clear hs2 hk2
  go_wp2_with fail
  refine (next_k b ao n cap (m + 3 + 3) 9 _ (by omega) (by omega) (by omega) hn (unhide HS2)).mono ?_
  rintro e w3 ⟨r3, rfl, hr30, hr31, hs3, hk3⟩
  have hcA := keep_cell (a := ⟨w2.heap.size, 0, none⟩) (v := .int .i64 r1) hk3 (by simp; omega) (by simp [go_sem])
  have hcB := keep_cell (a := ⟨w2.heap.size, 1, none⟩) (v := .int .i64 r2) hk3 (by simp; omega) (by simp [go_sem])
  have hcC := keep_cell (a := ⟨w2.heap.size, 2, none⟩) (v := .int .i64 2147483647) hk3 (by simp; omega) (by simp [go_sem])
  have HS3 := hide (hs3.more (m' := m + 9) (by omega))
  have HK3 := hide ((unhide HK2).trans hk3)
  clear hs3 hk3
  have hq : r3 / 4 = 0 ∨ r3 / 4 = 1 ∨ r3 / 4 = 2 := by omega
  rcases hq with hq | hq | hq
  · go_wp2
    go_ret
    exact ⟨r1, rfl, by omega, by omega, unhide HS3, unhide HK3⟩
  · go_wp2
    go_ret
    exact ⟨r2, rfl, by omega, by omega, unhide HS3, unhide HK3⟩
  · go_wp2
    go_ret
    exact ⟨2147483647, rfl, by omega, by omega, unhide HS3, unhide HK3⟩

end Go.Proofs.Ytmkegkpnomcnhaa

/- Contract of impl.PendingOf. -/
namespace Go.Proofs.Ytmkegkpnomcnhaa
open Go.RowKit
set_option linter.unusedVariables false
set_option maxRecDepth 100000

/-- How many writes a host has. -/
def cntW (xs : List Wr) (h : Int) : Nat := (xs.filter fun x => x.host == h).length
theorem cntW_le (xs : List Wr) (h : Int) : cntW xs h ≤ xs.length := List.length_filter_le _ _
theorem cnt_hit {xs : List Wr} {h : Int} {k : Nat} (hk : k < xs.length) (he : xs[k].host = h) : cntW (xs.take (k + 1)) h = cntW (xs.take k) h + 1 := by
  rw [cntW, cntW, List.take_succ_eq_append_getElem hk, List.filter_append, List.length_append]; simp [he]
theorem cnt_miss {xs : List Wr} {h : Int} {k : Nat} (hk : k < xs.length) (he : ¬ xs[k].host = h) : cntW (xs.take (k + 1)) h = cntW (xs.take k) h := by
  rw [cntW, cntW, List.take_succ_eq_append_getElem hk, List.filter_append, List.length_append]; simp [he]
theorem askC_zero (ss : List ByteArray) (xs : List Wr) (h : Int) : askC ss xs h 0 = hostC ss xs h := by
  unfold askC
  split
  · rename_i e; rw [e]; rfl
  · rfl
def cntC (ss : List ByteArray) (xs : List Wr) (h : Int) : Int := if hostC ss xs h = 0 then (cntW xs h : Int) else 0
theorem ret_two {a b c d : Int} (h : a = b) (k : c = d) : Ending.returned (.tuple #[.int .i64 a, .int .i64 c]) = .returned (.tuple #[.int .i64 b, .int .i64 d]) := by rw [h, k]

end Go.Proofs.Ytmkegkpnomcnhaa
