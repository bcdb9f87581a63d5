/- Contract of the model's l10Revert. -/
import Derived.Test.YthnpooffhopnkacRows
import Derived.Test.YthnpooffhopnkacPart12
import Derived.Test.YthnpooffhopnkacImW
import Derived.Test.YthnpooffhopnkacImX
import Derived.Test.YthnpooffhopnkacPart21
import Derived.Test.YthnpooffhopnkacPart15
import Derived.Test.YthnpooffhopnkacPart22
import Derived.Test.YthnpooffhopnkacPart5
import Derived.WalkKit
import Derived.WalkSpells
import Derived.KernelRfl
import Derived.LoopN

namespace Go.Proofs.Ythnpooffhopnkac
open Go.RowKit
set_option linter.unusedVariables false
set_option maxRecDepth 100000

theorem RvU.fold {lo : Int} : ∀ (L : List Int), (∀ c ∈ L, 0 ≤ c ∧ c ≤ 23) → ∀ (ns : List Int) (hi : Int), ns.length = 24 → lo ≤ hi → RvU ns lo hi → RvU (L.foldl incr ns) lo (hi + L.length)
  | [], _, ns, hi, _, _, h => fun c hc => ⟨(h c hc).1, Int.le_trans (h c hc).2 (by simp)⟩
  | c :: L, hL, ns, hi, hn, hh, h => by
    obtain ⟨h0, h1⟩ := hL c (by simp)
    obtain ⟨q, rfl⟩ := Int.eq_ofNat_of_zero_le h0
    have h2 := h.up q (by omega) hh
    have h3 := RvU.fold L (fun x hx => hL x (by simp [hx])) _ _ ((incr_len ns q).trans hn) (by omega) h2
    rw [List.foldl_cons]
    intro i hi'
    have := h3 i hi'
    simp only [List.length_cons]
    omega
theorem raise_bd {m : Img} {t : List Int} (hM : ImM m) (ht : tbB t = true) : RvB (imRaise m t) 0 := by
  have hcl := clA_len ht
  have h := RvU.fold (lo := 0) (clA t) (fun c hc => by obtain ⟨j, hj, rfl⟩ := List.mem_iff_getElem.1 hc; exact clA_in ht j hj) m.refs 15 hM.r (by omega) hM.rv
  intro c hc
  have := h c hc
  show -0 ≤ ((clA t).foldl incr m.refs)[c] ∧ _
  constructor
  · omega
  · show ((clA t).foldl incr m.refs)[c] ≤ 60
    omega
/-- The image behind dropping the table that was, as far as it has gone. -/
def rvD (m : Img) (t : List Int) (k : Nat) : Img := imDrops (imRaise m t) (m.table.take k)
theorem rvD_start (m : Img) (t : List Int) : rvD m t 0 = imRaise m t := rfl
theorem rvD_succ {m : Img} (t : List Int) {k : Nat} (hk : k < m.table.length) : rvD m t (k + 1) = imDrop (rvD m t k) m.table[k] := by
  unfold rvD imDrops
  rw [List.take_succ_eq_append_getElem hk, List.foldl_append]; rfl
theorem rvD_all (m : Img) (t : List Int) : rvD m t m.table.length = imDrops (imRaise m t) m.table := by rw [rvD, List.take_length]
theorem rvD_same (m : Img) (t : List Int) (k : Nat) : (rvD m t k).table = m.table ∧ (rvD m t k).snaps = m.snaps := ⟨(imDrops_same _ (imRaise m t)).1, (imDrops_same _ (imRaise m t)).2.1⟩
theorem revert_none {m : Img} {name : ByteArray} (hf : ¬ imFind m name < m.snaps.length) : imRevert m name = (m, 5) := if_neg hf
theorem revert_at {m : Img} {name : ByteArray} {q : Nat} (hq : q < m.snaps.length) (e : imFind m name = q) : imRevert m name = ({ imDrops (imRaise m m.snaps[q].table) m.table with table := m.snaps[q].table }, 0) := by
  have hf : imFind m name < m.snaps.length := by omega
  rw [imRevert, if_pos hf, e, List.getElem?_eq_getElem hq]; rfl

set_option maxHeartbeats 3200000 in
theorem l10Revert_R (a : Im4) (m : Img) (name : ByteArray) (R : Img × Int) (w : World) (hR : R = imRevert m name) (hM : ImM m) (hts : ∀ s ∈ m.snaps, tbB s.table = true) (hc : ImS w a m) :
    Calls Try.prog 52 #[imV a m, .string name] w fun e w' => AnsI w w' e R := by
  have HE := hide (ImE.new w a m hc)
  have HM := hide hM
  have HR := hide hR
  have HTS := hide hts
  have HTL := hide hM.t
  clear hc hM hR hts
  obtain ⟨i0, hi0, hz0, hz1, hz2⟩ := info_parts infoIn
  go_enter Try.func52, Try.ntmps52
  go_upto_region 1 with fail
  revert HE
  generalize ((w.alloc _).alloc _) = W0
  intro HE
  obtain ⟨c0, c1, c2, c3⟩ := (unhide HE).v.cells
  go_wp2_with fail
  refine (l10Own_M a m _ (unhide HM) (unhide HE).s).mono ?_
  rintro e w1 ⟨b, ts, rfl, ho, hb⟩
  have HQ := hide (ImQ.put (w := w) ((unhide HE).v.below hb) ((unhide HE).r.below hb) (ho.base (B' := w.heap.size + 2) (by have := (unhide HE).r.lt; omega)) (fr (unhide HE).b hb) (Nat.le_refl _) (m0 := m) rfl rfl rfl rfl)
  unfold putI at HQ
  obtain ⟨x0, x1, x2, x3⟩ := ((unhide HE).v.below hb).cells
  obtain ⟨z0, z1, z2, z3⟩ := ((unhide HE).v.below hb).free
  clear c0 c1 c2 c3 ho hb HE
  go_upto_region 2 with fail
  clear x0 x1 x2 x3 z0 z1 z2 z3
  revert HQ
  generalize (((w1.setCell _ _).setCell _ _).setCell _ _).setCell _ _ = W1
  intro HQ
  have HS : Hid (ImS W1 b m) := hide ((unhide HQ).o.shows (unhide HM).zs)
  obtain ⟨c0, c1, c2, c3⟩ := (unhide HQ).v.cells
  go_wp2_with fail
  refine (l10Find_any b m name _ (by have := (unhide HM).s; omega) (unhide HS).s).mono ?_
  rintro e w2 ⟨rfl, hb2⟩
  have HQ2 := hide ((unhide HQ).below hb2)
  have HS2 := hide ((unhide HS).s.below hb2)
  clear hb2 c0 c1 c2 c3 HQ HS
  obtain ⟨c0, c1, c2, c3⟩ := (unhide HQ2).v.cells
  obtain ⟨r0, r1, r2, r3⟩ := (unhide HQ2).r.cells
  obtain ⟨z0, z1, z2, z3⟩ := (unhide HQ2).r.free
  by_cases hf : imFind m name < m.snaps.length
  case neg =>
    have HX : Hid (R = (m, 5)) := hide ((unhide HR).trans (revert_none hf))
    have HF := hide (unhide HQ2).fin
    rw [show fdI m name = -1 from if_neg hf]
    clear hf
    go_wp2
    refine bodyPost_ret (res_ic Try.results52 rfl rfl (unhide HF).1) rfl ?_
    rw [unhide HX]
    exact AnsI.of (R := (m, 5)) rfl rfl (unhide HF).2.1 (unhide HF).2.2
  rw [show fdI m name = (imFind m name : Int) from if_pos hf]
  obtain ⟨q, hq⟩ : ∃ q, imFind m name = q := ⟨_, rfl⟩
  have hql : q < m.snaps.length := by omega
  obtain ⟨t, ht⟩ : ∃ t, m.snaps[q].table = t := ⟨_, rfl⟩
  have HX : Hid (R = ({ imDrops (imRaise m t) m.table with table := t }, 0)) := hide (by rw [← ht]; exact (unhide HR).trans (revert_at hql hq))
  rw [hq]
  clear hf hq HR
  obtain ⟨bs, off, tq, tc, es, _, ht0, hIs, _, _⟩ := (unhide HS2) q hql
  have ES := hide es
  have HTB : Hid (tbB t = true) := hide (by rw [← ht]; exact unhide HTS _ (List.getElem_mem hql))
  rw [ht] at hIs ht0
  have HT := hide ht
  have HTI := hide hIs
  have hqi : (q : Int) < (m.snaps.length : Int) := by omega
  have HQL := hide hql
  clear hIs ht
  clear r0 r1 r2 r3 z0 z1 z2 z3
  have hS0 : VarM w2.drew w.heap.size 26 (.slice b.ro m.refs.length b.rc) (.slice b.tq m.table.length b.tc) (.slice (some ⟨bs, off, none⟩) m.snaps.length b.sc) (.slice b.dq m.data.length b.dc) ∧ w2.drew.cell? ⟨bs, off + q * 2 + 1, none⟩ = some (.slice tq t.length tc) := ⟨by rw [← es]; exact (unhide HQ2).v.below (Below.refl _ _).drew, ht0⟩
  clear c0 c1 c2 c3 es
  go_upto_region 5 with fail
  refine wp_region_ord (fun w' => VarM w' w.heap.size 26 (.slice b.ro m.refs.length b.rc) (.slice b.tq m.table.length b.tc) (.slice (some ⟨bs, off, none⟩) m.snaps.length b.sc) (.slice b.dq m.data.length b.dc) ∧ w'.cell? ⟨bs, off + q * 2 + 1, none⟩ = some (.slice tq t.length tc)) [0, 1, 2, 3, 4, 5, 6] [(0, 0), (1, 0), (2, 0), (3, 0), (4, 0), (5, 0), (6, 0), (7, 3), (8, 3)] (by kernel_rfl) (by kernel_rfl) rfl (by kernel_rfl) ?_
  refine ord_read (.agg #[.slice b.ro m.refs.length b.rc, .slice b.tq m.table.length b.tc, .slice (some ⟨bs, off, none⟩) m.snaps.length b.sc, .slice b.dq m.data.length b.dc]) rfl rfl hS0 (fun W hW => by obtain ⟨k0, k1, k2, k3⟩ := hW.1.cells; go_simp) ?_
  refine ord_read (.pointer (some ⟨w.heap.size, 2, none⟩)) rfl rfl hS0 (fun W hW => by go_simp) ?_
  refine ord_read (.slice (some ⟨bs, off, none⟩) m.snaps.length b.sc) rfl rfl hS0 (fun W hW => by obtain ⟨k0, k1, k2, k3⟩ := hW.1.cells; go_simp) ?_
  refine ord_read (.int .i64 q) rfl rfl hS0 (fun W hW => by go_simp) ?_
  refine ord_read (.pointer (some ⟨bs, off + q * 2, none⟩)) rfl rfl hS0 (fun W hW => by go_simp) ?_
  refine ord_read (.pointer (some ⟨bs, off + q * 2 + 1, none⟩)) rfl rfl hS0 (fun W hW => by go_simp) ?_
  refine ord_read (.slice tq t.length tc) rfl rfl hS0 (fun W hW => by have k0 := hW.2; go_simp) ?_
  have HAG : Hid (Value.agg #[.slice b.ro m.refs.length b.rc, .slice b.tq m.table.length b.tc, .slice (some ⟨bs, off, none⟩) m.snaps.length b.sc, .slice b.dq m.data.length b.dc] = imV b m) := hide (by rw [imV, unhide ES])
  clear hS0 ht0
  refine ord_alone rfl rfl ?_
  intro K hK
  unfold Oper.wp
  go_simp
  rw [unhide HAG]
  refine (l10Raise_any b m ts (w.heap.size + 2) tq tc t _ (unhide HM).r (fun c hc => by have := (unhide HM).rv c hc; omega) (unhide HTB) ((unhide HTI).below (Below.refl _ _).drew) ((unhide HQ2).o.below (Below.refl _ _).drew)).mono ?_
  rintro e w3 ⟨rfl, ho3, hk3⟩
  have HQ3 := hide (((unhide HQ2).below (Below.refl _ _).drew).turn hk3 ho3 (cnt1T_len t m.refs) rfl rfl rfl)
  have HQ4 := hide (unhide HQ3).again
  unfold putI at HQ4
  refine hK _ _ ?_
  clear hK K ho3 hk3
  obtain ⟨c0, c1, c2, c3⟩ := (unhide HQ3).v.cells
  obtain ⟨z0, z1, z2, z3⟩ := (unhide HQ3).v.free
  refine ord_alone rfl rfl ?_
  intro K hK
  unfold Oper.wp
  go_simp
  refine hK _ _ ?_
  clear hK K
  refine ord_done ?_
  clear c0 c1 c2 c3 z0 z1 z2 z3 HQ3
  revert HQ4
  generalize (((w3.setCell _ _).setCell _ _).setCell _ _).setCell _ _ = W4
  intro HQ4
  have HBD := hide (raise_bd (unhide HM) (unhide HTB))
  have ht12 := unhide HTL
  clear HQ2 HS2 HTI HAG ES
  go_wp2
  go_loopw [7] (fun i wr => ∃ k : Nat, k ≤ m.table.length ∧ i = .int .i64 k ∧ Hid (ImQ w wr (w.heap.size + 2) b m (rvD m t k) ts) ∧ Hid (RvB (rvD m t k) k)) (fun i _ => m.table.length - (intOf i).toNat)
  case atStart => exact ⟨0, Nat.zero_le _, rfl, by rw [rvD_start]; exact HQ4, by rw [rvD_start]; exact HBD⟩
  case round =>
    clear HQ4 HBD
    obtain ⟨k, hk, rfl, HQ, HB⟩ := hrel
    obtain ⟨c0, c1, c2, c3⟩ := (unhide HQ).v.cells
    by_cases hlt : k < m.table.length
    · have hlti : (k : Int) < (m.table.length : Int) := by omega
      have HSU := hide (rvD_succ t hlt)
      have HTE : Hid ((rvD m t k).table = m.table) := hide (rvD_same m t k).1
      have HLS : Hid ((rvD m t k).refs.length = 24 ∧ (rvD m t k).data.length = 24) := hide ⟨(unhide HQ).e1.trans (unhide HM).r, (unhide HQ).e4.trans (unhide HM).d⟩
      have HTV := hide ((unhide HM).tv k hlt)
      have HBN : Hid (RvB (imDrop (rvD m t k) m.table[k]) ((k + 1 : Nat) : Int)) := hide (by
        have := (unhide HB).drop (by omega) m.table[k]
        rwa [show (k : Int) + 1 = ((k + 1 : Nat) : Int) by omega] at this)
      obtain ⟨gt, et, hct, _, _⟩ := (unhide HQ).setT (c := k) (by rw [unhide HTE]; exact hlt)
      have hct' : wr.cell? ⟨gt, k, none⟩ = some (.int .i64 m.table[k]) := by rw [hct]; simp only [unhide HTE]
      have ET := hide et
      clear hct
      rw [← unhide HSU] at HBN
      have HK64 := hide (unhide HTL)
      go_upto_region 9 with fail
      clear c0 c1 c2 c3
      have hS0 : VarM wr.drew w.heap.size 26 (.slice b.ro m.refs.length b.rc) (.slice (some ⟨gt, 0, none⟩) m.table.length b.tc) (.slice b.so m.snaps.length b.sc) (.slice b.dq m.data.length b.dc) ∧ wr.drew.cell? ⟨gt, k, none⟩ = some (.int .i64 m.table[k]) := ⟨by rw [← et]; exact (unhide HQ).v.below (Below.refl _ _).drew, hct'⟩
      clear hct' et
      have HTG : Hid (∃ T, T = m.table[k]) := hide ⟨_, rfl⟩
      have HDROP : Hid (Calls Try.prog 66 #[.agg #[.slice b.ro m.refs.length b.rc, .slice (some ⟨gt, 0, none⟩) m.table.length b.tc, .slice b.so m.snaps.length b.sc, .slice b.dq m.data.length b.dc], .int .i64 m.table[k]] wr.drew fun e w' => e = .returned (.agg #[.slice b.ro m.refs.length b.rc, .slice (some ⟨gt, 0, none⟩) m.table.length b.tc, .slice b.so m.snaps.length b.sc, .slice b.dq m.data.length b.dc]) ∧ ImQ w w' (w.heap.size + 2) b m (rvD m t (k + 1)) ts) := hide (by
        have h := (unhide HQ).below (Below.refl wr.heap.size wr).drew
        have hv : imV b (rvD m t k) = .agg #[.slice b.ro m.refs.length b.rc, .slice (some ⟨gt, 0, none⟩) m.table.length b.tc, .slice b.so m.snaps.length b.sc, .slice b.dq m.data.length b.dc] := by rw [← h.val, imV, unhide ET]
        rw [← hv]
        refine (l10Drop_M b (rvD m t k) ts (w.heap.size + 2) m.table[k] _ (unhide HTV).1 (unhide HTV).2 (unhide HLS).1 (unhide HLS).2 (fun c hc => by have := unhide HB c hc; have := unhide HTL; omega) h.o).mono ?_
        rintro e w2 ⟨rfl, ho2, hk2'⟩
        rw [unhide HSU]
        exact ⟨rfl, h.turn hk2' ho2 (imDrop_lens _ _).1 (imDrop_lens _ _).2.1 (imDrop_lens _ _).2.2.1 (imDrop_lens _ _).2.2.2⟩)
      clear HTE HLS HTV HSU HTG
      generalize m.table[k] = T at *
      refine wp_region_ord (fun w' => VarM w' w.heap.size 26 (.slice b.ro m.refs.length b.rc) (.slice (some ⟨gt, 0, none⟩) m.table.length b.tc) (.slice b.so m.snaps.length b.sc) (.slice b.dq m.data.length b.dc) ∧ w'.cell? ⟨gt, k, none⟩ = some (.int .i64 T)) [0, 1, 2, 3, 4, 5] [(0, 0), (1, 0), (2, 0), (3, 0), (4, 0), (5, 0), (6, 3), (7, 3)] (by kernel_rfl) (by kernel_rfl) rfl (by kernel_rfl) ?_
      refine ord_read (.agg #[.slice b.ro m.refs.length b.rc, .slice (some ⟨gt, 0, none⟩) m.table.length b.tc, .slice b.so m.snaps.length b.sc, .slice b.dq m.data.length b.dc]) rfl rfl hS0 (fun W hW => by obtain ⟨k0, k1, k2, k3⟩ := hW.1.cells; go_simp) ?_
      refine ord_read (.pointer (some ⟨w.heap.size, 1, none⟩)) rfl rfl hS0 (fun W hW => by go_simp) ?_
      refine ord_read (.slice (some ⟨gt, 0, none⟩) m.table.length b.tc) rfl rfl hS0 (fun W hW => by obtain ⟨k0, k1, k2, k3⟩ := hW.1.cells; go_simp) ?_
      refine ord_read (.int .i64 k) rfl rfl hS0 (fun W hW => by go_simp) ?_
      refine ord_read (.pointer (some ⟨gt, k, none⟩)) rfl rfl hS0 (fun W hW => by go_simp) ?_
      refine ord_read (.int .i64 T) rfl rfl hS0 (fun W hW => by have k0 := hW.2; go_simp) ?_
      clear hS0
      refine ord_alone rfl rfl ?_
      intro K hK
      unfold Oper.wp
      go_simp
      refine (unhide HDROP).mono ?_
      rintro e w2 ⟨rfl, hq2⟩
      have HQ3 := hide hq2
      have HQ4 := hide hq2.again
      unfold putI at HQ4
      rw [unhide ET] at HQ4
      refine hK _ _ ?_
      clear hK K hq2
      obtain ⟨c0, c1, c2, c3⟩ := (unhide HQ3).v.cells
      obtain ⟨z0, z1, z2, z3⟩ := (unhide HQ3).v.free
      refine ord_alone rfl rfl ?_
      intro K hK
      unfold Oper.wp
      go_simp
      refine hK _ _ ?_
      clear hK K
      refine ord_done ?_
      clear c0 c1 c2 c3 z0 z1 z2 z3 HQ3 HDROP HQ HB
      revert HQ4
      generalize (((w2.setCell _ _).setCell _ _).setCell _ _).setCell _ _ = W4
      intro HQ4
      go_wp2
      go_roundw
      case rel => exact ⟨k + 1, by omega, by go_num, HQ4, HBN⟩
      case measure => simp [intOf]; omega
    · obtain rfl : k = m.table.length := by omega
      have HD : Hid (rvD m t m.table.length = imDrops (imRaise m t) m.table) := hide (rvD_all m t)
      have HSN : Hid (Sns wr b.so m.snaps) := hide (by
        have := ((unhide HQ).o.shows (by rw [(rvD_same m t m.table.length).2]; exact (unhide HM).zs)).s
        rwa [(rvD_same m t m.table.length).2] at this)
      obtain ⟨bs, off, tq, tc, es, _, ht0, hIs, _, _⟩ := (unhide HSN) q (unhide HQL)
      rw [unhide HT] at ht0 hIs
      rw [es] at c2
      have HIS := hide hIs
      have HTL2 : Hid (t.length ≤ 12) := hide (tbB_len (unhide HTB))
      clear hIs HSN es HB
      rw [unhide HD] at HQ
      generalize imDrops (imRaise m t) m.table = D at *
      have hx1 := (unhide HQ).v.lt
      have hx2 := World.block_lt_of_cell? _ _ ht0
      have hb5 := Joins.below_alloc1 wr (.cells #[] 3)
      have HQ5 := hide ((unhide HQ).below hb5)
      have HI5 := hide ((unhide HIS).below hb5)
      clear hb5
      go_upto_region 11 with (at_builtin; refine wpList_append_fresh rfl _ _ 23 rfl 3 i0 (.int .i64 0) 1 8 Try.underlying23 hi0 hz0 hz1 hz2 rfl (by omega) rfl tq t.length tc (intV t) rfl (by rw [intV_length]; omega) (Is.srcI (unhide HI5)) (by have := unhide HTL2; unfold maxLen; omega) (by have := unhide HTL2; omega) ?_; intro qo qa w6 ho6 hg6; have HB6 := hide (belowGr (Below.refl _ _) hg6); have HO6 := hide ho6; clear ho6 hg6; have HQ6 := hide ((unhide HQ5).below (unhide HB6)); obtain ⟨c0, c1, c2, c3⟩ := (unhide HQ6).v.cells; obtain ⟨z0, z1, z2, z3⟩ := (unhide HQ6).v.free)
      have HON := hide ((unhide HQ5).o.newT (unhide HB6) (OwnN.mk' (unhide HO6) rfl) rfl (by have := (unhide HQ5).r.lt; omega))
      have HQ7 : Hid (ImQ w (w6.setCell ⟨w.heap.size, 1, none⟩ (.slice qo t.length qa)) (w.heap.size + 2) { b with tq := qo, tc := qa } { m with table := t } { D with table := t } ts) := hide
        ⟨(unhide HQ6).v.set1 _, (unhide HQ6).r.other (p := ⟨w.heap.size, 1, none⟩) (by simp) _, (unhide HON).setCell (p := ⟨w.heap.size, 1, none⟩) (by simp) _, (unhide HQ6).b.setCell (p := ⟨w.heap.size, 1, none⟩) (Nat.le_refl _) _, (unhide HQ6).hB, (unhide HQ6).e1, rfl, (unhide HQ6).e3, (unhide HQ6).e4⟩
      clear c0 c1 c2 c3 z0 z1 z2 z3 ht0 hx1 hx2
      revert HQ7
      generalize (w6.setCell _ _) = W7
      intro HQ7
      have HF := hide (unhide HQ7).fin
      obtain ⟨c0, c1, c2, c3⟩ := (unhide HQ7).v.cells
      obtain ⟨r0, r1, r2, r3⟩ := (unhide HQ7).r.cells
      obtain ⟨z0, z1, z2, z3⟩ := (unhide HQ7).r.free
      go_wp2
      refine bodyPost_ret (res_ic Try.results52 rfl rfl (unhide HF).1) rfl ?_
      rw [unhide HX]
      exact AnsI.of (R := ({ D with table := t }, 0)) (unhide HQ7).val rfl (unhide HF).2.1 (unhide HF).2.2

end Go.Proofs.Ythnpooffhopnkac
