import Derived.Test.YthnpooffhopnkacGreatDoorRows
import Derived.Test.YthnpooffhopnkacGreatDoorPart16
import Derived.Test.YthnpooffhopnkacGreatDoorImW
import Derived.Test.YthnpooffhopnkacGreatDoorPart13
import Derived.Test.YthnpooffhopnkacGreatDoorPart17
import Derived.Test.YthnpooffhopnkacGreatDoorPart18
import Derived.Test.YthnpooffhopnkacGreatDoorPart10
import Derived.WalkKit
import Derived.WalkSpells
import Derived.KernelRfl
import Derived.LoopN
import Derived.Test.YthnpooffhopnkacGreatDoorPart1
import Derived.Test.YthnpooffhopnkacGreatDoorPart2
import Derived.Test.YthnpooffhopnkacGreatDoorPart7
import Derived.Test.YthnpooffhopnkacGreatDoorPart8
import Derived.Test.YthnpooffhopnkacGreatDoorPart9
import Derived.Maps.Own
import Derived.Maps.OwnOps
import Derived.Maps.OwnSet
import Derived.Maps.RangeWalk
import Derived.Maps.Views
import Derived.Test.YthnpooffhopnkacGreatDoorPart3
import Derived.Deep.RegionWith

/- Contract of the model's l10Revert. -/
namespace Go.Proofs.YthnpooffhopnkacGreatDoor
open Go.RowKit
set_option linter.unusedVariables false
set_option maxRecDepth 100000

theorem RvU.fold {lo : Int} : ∀ (L : List Int), (∀ c ∈ L, 0 ≤ c ∧ c ≤ 23) → ∀ (ns : List Int) (hi : Int), ns.length = 24 → lo ≤ hi → RvU ns lo hi → RvU (L.foldl incr ns) lo (hi + L.length)
  | [], _, ns, hi, _, _, h => fun c hc => ⟨(h c hc).1, Int.le_trans (h c hc).2 (by simp)⟩
  | c :: L, hL, ns, hi, hn, hh, h => by
    obtain ⟨h0, h1⟩ := hL c (by simp)
    obtain ⟨q, rfl⟩ := Int.eq_ofNat_of_zero_le h0
    have h2 := h.up q (by omega) hh
    have h3 := RvU.fold L (fun x hx => hL x (by simp [hx])) _ _ ((incr_len ns q).trans hn) (by omega) h2
    rw [List.foldl_cons]
    intro i hi'
    have := h3 i hi'
    simp only [List.length_cons]
    omega
theorem raise_bd {m : Img} {t : List Int} (hM : ImM m) (ht : tbB t = true) : RvB (imRaise m t) 0 := by
  have hcl := clA_len ht
  have h := RvU.fold (lo := 0) (clA t) (fun c hc => by obtain ⟨j, hj, rfl⟩ := List.mem_iff_getElem.1 hc; exact clA_in ht j hj) m.refs 15 hM.r (by omega) hM.rv
  intro c hc
  have := h c hc
  show -0 ≤ ((clA t).foldl incr m.refs)[c] ∧ _
  constructor
  · omega
  · show ((clA t).foldl incr m.refs)[c] ≤ 60
    omega
/-- The image behind dropping the table that was, as far as it has gone. -/
def rvD (m : Img) (t : List Int) (k : Nat) : Img := imDrops (imRaise m t) (m.table.take k)
theorem rvD_start (m : Img) (t : List Int) : rvD m t 0 = imRaise m t := rfl
theorem rvD_succ {m : Img} (t : List Int) {k : Nat} (hk : k < m.table.length) : rvD m t (k + 1) = imDrop (rvD m t k) m.table[k] := by
  unfold rvD imDrops
  rw [List.take_succ_eq_append_getElem hk, List.foldl_append]; rfl
theorem rvD_all (m : Img) (t : List Int) : rvD m t m.table.length = imDrops (imRaise m t) m.table := by rw [rvD, List.take_length]
theorem rvD_same (m : Img) (t : List Int) (k : Nat) : (rvD m t k).table = m.table ∧ (rvD m t k).snaps = m.snaps := ⟨(imDrops_same _ (imRaise m t)).1, (imDrops_same _ (imRaise m t)).2.1⟩
theorem revert_none {m : Img} {name : ByteArray} (hf : ¬ imFind m name < m.snaps.length) : imRevert m name = (m, 5) := if_neg hf
theorem revert_at {m : Img} {name : ByteArray} {q : Nat} (hq : q < m.snaps.length) (e : imFind m name = q) : imRevert m name = ({ imDrops (imRaise m m.snaps[q].table) m.table with table := m.snaps[q].table }, 0) := by
  have hf : imFind m name < m.snaps.length := by omega
  rw [imRevert, if_pos hf, e, List.getElem?_eq_getElem hq]; rfl

set_option maxHeartbeats 3200000 in
theorem l10Revert_R (a : Im4) (m : Img) (name : ByteArray) (R : Img × Int) (w : World) (hR : R = imRevert m name) (hM : ImM m) (hts : ∀ s ∈ m.snaps, tbB s.table = true) (hc : ImS w a m) :
    Calls Tryz.prog 49 #[imV a m, .string name] w fun e w' => AnsI w w' e R := by
  have HE := hide (ImE.new w a m hc)
  have HM := hide hM
  have HR := hide hR
  have HTS := hide hts
  have HTL := hide hM.t
  clear hc hM hR hts
  obtain ⟨i0, hi0, hz0, hz1, hz2⟩ := info_parts infoIn
  go_enter Tryz.func49, Tryz.ntmps49
  go_upto_region 1 with fail
  revert HE
  generalize ((w.alloc _).alloc _) = W0
  intro HE
  obtain ⟨c0, c1, c2, c3⟩ := (unhide HE).v.cells
  go_wp2_with fail
  refine (l10Own_M a m _ (unhide HM) (unhide HE).s).mono ?_
  rintro e w1 ⟨b, ts, rfl, ho, hb⟩
  have HQ := hide (ImQ.put (w := w) ((unhide HE).v.below hb) ((unhide HE).r.below hb) (ho.base (B' := w.heap.size + 2) (by have := (unhide HE).r.lt; omega)) (fr (unhide HE).b hb) (Nat.le_refl _) (m0 := m) rfl rfl rfl rfl)
  unfold putI at HQ
  obtain ⟨x0, x1, x2, x3⟩ := ((unhide HE).v.below hb).cells
  obtain ⟨z0, z1, z2, z3⟩ := ((unhide HE).v.below hb).free
  clear c0 c1 c2 c3 ho hb HE
  go_upto_region 2 with fail
  clear x0 x1 x2 x3 z0 z1 z2 z3
  revert HQ
  generalize (((w1.setCell _ _).setCell _ _).setCell _ _).setCell _ _ = W1
  intro HQ
  have HS : Hid (ImS W1 b m) := hide ((unhide HQ).o.shows (unhide HM).zs)
  obtain ⟨c0, c1, c2, c3⟩ := (unhide HQ).v.cells
  go_wp2_with fail
  refine (l10Find_any b m name _ (by have := (unhide HM).s; omega) (unhide HS).s).mono ?_
  rintro e w2 ⟨rfl, hb2⟩
  have HQ2 := hide ((unhide HQ).below hb2)
  have HS2 := hide ((unhide HS).s.below hb2)
  clear hb2 c0 c1 c2 c3 HQ HS
  obtain ⟨c0, c1, c2, c3⟩ := (unhide HQ2).v.cells
  obtain ⟨r0, r1, r2, r3⟩ := (unhide HQ2).r.cells
  obtain ⟨z0, z1, z2, z3⟩ := (unhide HQ2).r.free
  by_cases hf : imFind m name < m.snaps.length
  case neg =>
    have HX : Hid (R = (m, 5)) := hide ((unhide HR).trans (revert_none hf))
    have HF := hide (unhide HQ2).fin
    rw [show fdI m name = -1 from if_neg hf]
    clear hf
    go_wp2
    refine bodyPost_ret (res_ic Tryz.results49 rfl rfl (unhide HF).1) rfl ?_
    rw [unhide HX]
    exact AnsI.of (R := (m, 5)) rfl rfl (unhide HF).2.1 (unhide HF).2.2
  rw [show fdI m name = (imFind m name : Int) from if_pos hf]
  obtain ⟨q, hq⟩ : ∃ q, imFind m name = q := ⟨_, rfl⟩
  have hql : q < m.snaps.length := by omega
  obtain ⟨t, ht⟩ : ∃ t, m.snaps[q].table = t := ⟨_, rfl⟩
  have HX : Hid (R = ({ imDrops (imRaise m t) m.table with table := t }, 0)) := hide (by rw [← ht]; exact (unhide HR).trans (revert_at hql hq))
  rw [hq]
  clear hf hq HR
  obtain ⟨bs, off, tq, tc, es, _, ht0, hIs, _, _⟩ := (unhide HS2) q hql
  have ES := hide es
  have HTB : Hid (tbB t = true) := hide (by rw [← ht]; exact unhide HTS _ (List.getElem_mem hql))
  rw [ht] at hIs ht0
  have HT := hide ht
  have HTI := hide hIs
  have hqi : (q : Int) < (m.snaps.length : Int) := by omega
  have HQL := hide hql
  clear hIs ht
  clear r0 r1 r2 r3 z0 z1 z2 z3
  have hS0 : VarM w2.drew w.heap.size 26 (.slice b.ro m.refs.length b.rc) (.slice b.tq m.table.length b.tc) (.slice (some ⟨bs, off, none⟩) m.snaps.length b.sc) (.slice b.dq m.data.length b.dc) ∧ w2.drew.cell? ⟨bs, off + q * 2 + 1, none⟩ = some (.slice tq t.length tc) := ⟨by rw [← es]; exact (unhide HQ2).v.below (Below.refl _ _).drew, ht0⟩
  clear c0 c1 c2 c3 es
  go_upto_region 5 with fail
  refine wp_region_ord (fun w' => VarM w' w.heap.size 26 (.slice b.ro m.refs.length b.rc) (.slice b.tq m.table.length b.tc) (.slice (some ⟨bs, off, none⟩) m.snaps.length b.sc) (.slice b.dq m.data.length b.dc) ∧ w'.cell? ⟨bs, off + q * 2 + 1, none⟩ = some (.slice tq t.length tc)) [0, 1, 2, 3, 4, 5, 6] [(0, 0), (1, 0), (2, 0), (3, 0), (4, 0), (5, 0), (6, 0), (7, 3), (8, 3)] (by kernel_rfl) (by kernel_rfl) rfl (by kernel_rfl) ?_
  refine ord_read (.agg #[.slice b.ro m.refs.length b.rc, .slice b.tq m.table.length b.tc, .slice (some ⟨bs, off, none⟩) m.snaps.length b.sc, .slice b.dq m.data.length b.dc]) rfl rfl hS0 (fun W hW => by obtain ⟨k0, k1, k2, k3⟩ := hW.1.cells; go_simp) ?_
  refine ord_read (.pointer (some ⟨w.heap.size, 2, none⟩)) rfl rfl hS0 (fun W hW => by go_simp) ?_
  refine ord_read (.slice (some ⟨bs, off, none⟩) m.snaps.length b.sc) rfl rfl hS0 (fun W hW => by obtain ⟨k0, k1, k2, k3⟩ := hW.1.cells; go_simp) ?_
  refine ord_read (.int .i64 q) rfl rfl hS0 (fun W hW => by go_simp) ?_
  refine ord_read (.pointer (some ⟨bs, off + q * 2, none⟩)) rfl rfl hS0 (fun W hW => by go_simp) ?_
  refine ord_read (.pointer (some ⟨bs, off + q * 2 + 1, none⟩)) rfl rfl hS0 (fun W hW => by go_simp) ?_
  refine ord_read (.slice tq t.length tc) rfl rfl hS0 (fun W hW => by have k0 := hW.2; go_simp) ?_
  have HAG : Hid (Value.agg #[.slice b.ro m.refs.length b.rc, .slice b.tq m.table.length b.tc, .slice (some ⟨bs, off, none⟩) m.snaps.length b.sc, .slice b.dq m.data.length b.dc] = imV b m) := hide (by rw [imV, unhide ES])
  clear hS0 ht0
  refine ord_alone rfl rfl ?_
  intro K hK
  unfold Oper.wp
  go_simp
  rw [unhide HAG]
  refine (l10Raise_any b m ts (w.heap.size + 2) tq tc t _ (unhide HM).r (fun c hc => by have := (unhide HM).rv c hc; omega) (unhide HTB) ((unhide HTI).below (Below.refl _ _).drew) ((unhide HQ2).o.below (Below.refl _ _).drew)).mono ?_
  rintro e w3 ⟨rfl, ho3, hk3⟩
  have HQ3 := hide (((unhide HQ2).below (Below.refl _ _).drew).turn hk3 ho3 (cnt1T_len t m.refs) rfl rfl rfl)
  have HQ4 := hide (unhide HQ3).again
  unfold putI at HQ4
  refine hK _ _ ?_
  clear hK K ho3 hk3
  obtain ⟨c0, c1, c2, c3⟩ := (unhide HQ3).v.cells
  obtain ⟨z0, z1, z2, z3⟩ := (unhide HQ3).v.free
  refine ord_alone rfl rfl ?_
  intro K hK
  unfold Oper.wp
  go_simp
  refine hK _ _ ?_
  clear hK K
  refine ord_done ?_
  clear c0 c1 c2 c3 z0 z1 z2 z3 HQ3
  revert HQ4
  generalize (((w3.setCell _ _).setCell _ _).setCell _ _).setCell _ _ = W4
  intro HQ4
  have HBD := hide (raise_bd (unhide HM) (unhide HTB))
  have ht12 := unhide HTL
  clear HQ2 HS2 HTI HAG ES
  go_wp2
  go_loopw [7] (fun i wr => ∃ k : Nat, k ≤ m.table.length ∧ i = .int .i64 k ∧ Hid (ImQ w wr (w.heap.size + 2) b m (rvD m t k) ts) ∧ Hid (RvB (rvD m t k) k)) (fun i _ => m.table.length - (intOf i).toNat)
  case atStart => exact ⟨0, Nat.zero_le _, rfl, by rw [rvD_start]; exact HQ4, by rw [rvD_start]; exact HBD⟩
  case round =>
    clear HQ4 HBD
    obtain ⟨k, hk, rfl, HQ, HB⟩ := hrel
    obtain ⟨c0, c1, c2, c3⟩ := (unhide HQ).v.cells
    by_cases hlt : k < m.table.length
    · have hlti : (k : Int) < (m.table.length : Int) := by omega
      have HSU := hide (rvD_succ t hlt)
      have HTE : Hid ((rvD m t k).table = m.table) := hide (rvD_same m t k).1
      have HLS : Hid ((rvD m t k).refs.length = 24 ∧ (rvD m t k).data.length = 24) := hide ⟨(unhide HQ).e1.trans (unhide HM).r, (unhide HQ).e4.trans (unhide HM).d⟩
      have HTV := hide ((unhide HM).tv k hlt)
      have HBN : Hid (RvB (imDrop (rvD m t k) m.table[k]) ((k + 1 : Nat) : Int)) := hide (by
        have := (unhide HB).drop (by omega) m.table[k]
        rwa [show (k : Int) + 1 = ((k + 1 : Nat) : Int) by omega] at this)
      obtain ⟨gt, et, hct, _, _⟩ := (unhide HQ).setT (c := k) (by rw [unhide HTE]; exact hlt)
      have hct' : wr.cell? ⟨gt, k, none⟩ = some (.int .i64 m.table[k]) := by rw [hct]; simp only [unhide HTE]
      have ET := hide et
      clear hct
      rw [← unhide HSU] at HBN
      have HK64 := hide (unhide HTL)
      go_upto_region 9 with fail
      clear c0 c1 c2 c3
      have hS0 : VarM wr.drew w.heap.size 26 (.slice b.ro m.refs.length b.rc) (.slice (some ⟨gt, 0, none⟩) m.table.length b.tc) (.slice b.so m.snaps.length b.sc) (.slice b.dq m.data.length b.dc) ∧ wr.drew.cell? ⟨gt, k, none⟩ = some (.int .i64 m.table[k]) := ⟨by rw [← et]; exact (unhide HQ).v.below (Below.refl _ _).drew, hct'⟩
      clear hct' et
      have HTG : Hid (∃ T, T = m.table[k]) := hide ⟨_, rfl⟩
      have HDROP : Hid (Calls Tryz.prog 96 #[.agg #[.slice b.ro m.refs.length b.rc, .slice (some ⟨gt, 0, none⟩) m.table.length b.tc, .slice b.so m.snaps.length b.sc, .slice b.dq m.data.length b.dc], .int .i64 m.table[k]] wr.drew fun e w' => e = .returned (.agg #[.slice b.ro m.refs.length b.rc, .slice (some ⟨gt, 0, none⟩) m.table.length b.tc, .slice b.so m.snaps.length b.sc, .slice b.dq m.data.length b.dc]) ∧ ImQ w w' (w.heap.size + 2) b m (rvD m t (k + 1)) ts) := hide (by
        have h := (unhide HQ).below (Below.refl wr.heap.size wr).drew
        have hv : imV b (rvD m t k) = .agg #[.slice b.ro m.refs.length b.rc, .slice (some ⟨gt, 0, none⟩) m.table.length b.tc, .slice b.so m.snaps.length b.sc, .slice b.dq m.data.length b.dc] := by rw [← h.val, imV, unhide ET]
        rw [← hv]
        refine (l10Drop_M b (rvD m t k) ts (w.heap.size + 2) m.table[k] _ (unhide HTV).1 (unhide HTV).2 (unhide HLS).1 (unhide HLS).2 (fun c hc => by have := unhide HB c hc; have := unhide HTL; omega) h.o).mono ?_
        rintro e w2 ⟨rfl, ho2, hk2'⟩
        rw [unhide HSU]
        exact ⟨rfl, h.turn hk2' ho2 (imDrop_lens _ _).1 (imDrop_lens _ _).2.1 (imDrop_lens _ _).2.2.1 (imDrop_lens _ _).2.2.2⟩)
      clear HTE HLS HTV HSU HTG
      generalize m.table[k] = T at *
      refine wp_region_ord (fun w' => VarM w' w.heap.size 26 (.slice b.ro m.refs.length b.rc) (.slice (some ⟨gt, 0, none⟩) m.table.length b.tc) (.slice b.so m.snaps.length b.sc) (.slice b.dq m.data.length b.dc) ∧ w'.cell? ⟨gt, k, none⟩ = some (.int .i64 T)) [0, 1, 2, 3, 4, 5] [(0, 0), (1, 0), (2, 0), (3, 0), (4, 0), (5, 0), (6, 3), (7, 3)] (by kernel_rfl) (by kernel_rfl) rfl (by kernel_rfl) ?_
      refine ord_read (.agg #[.slice b.ro m.refs.length b.rc, .slice (some ⟨gt, 0, none⟩) m.table.length b.tc, .slice b.so m.snaps.length b.sc, .slice b.dq m.data.length b.dc]) rfl rfl hS0 (fun W hW => by obtain ⟨k0, k1, k2, k3⟩ := hW.1.cells; go_simp) ?_
      refine ord_read (.pointer (some ⟨w.heap.size, 1, none⟩)) rfl rfl hS0 (fun W hW => by go_simp) ?_
      refine ord_read (.slice (some ⟨gt, 0, none⟩) m.table.length b.tc) rfl rfl hS0 (fun W hW => by obtain ⟨k0, k1, k2, k3⟩ := hW.1.cells; go_simp) ?_
      refine ord_read (.int .i64 k) rfl rfl hS0 (fun W hW => by go_simp) ?_
      refine ord_read (.pointer (some ⟨gt, k, none⟩)) rfl rfl hS0 (fun W hW => by go_simp) ?_
      refine ord_read (.int .i64 T) rfl rfl hS0 (fun W hW => by have k0 := hW.2; go_simp) ?_
      clear hS0
      refine ord_alone rfl rfl ?_
      intro K hK
      unfold Oper.wp
      go_simp
      refine (unhide HDROP).mono ?_
      rintro e w2 ⟨rfl, hq2⟩
      have HQ3 := hide hq2
      have HQ4 := hide hq2.again
      unfold putI at HQ4
      rw [unhide ET] at HQ4
      refine hK _ _ ?_
      clear hK K hq2
      obtain ⟨c0, c1, c2, c3⟩ := (unhide HQ3).v.cells
      obtain ⟨z0, z1, z2, z3⟩ := (unhide HQ3).v.free
      refine ord_alone rfl rfl ?_
      intro K hK
      unfold Oper.wp
      go_simp
      refine hK _ _ ?_
      clear hK K
      refine ord_done ?_
      clear c0 c1 c2 c3 z0 z1 z2 z3 HQ3 HDROP HQ HB
      revert HQ4
      generalize (((w2.setCell _ _).setCell _ _).setCell _ _).setCell _ _ = W4
      intro HQ4
      go_wp2
      go_roundw
      case rel => exact ⟨k + 1, by omega, by go_num, HQ4, HBN⟩
      case measure => simp [intOf]; omega
    · obtain rfl : k = m.table.length := by omega
      have HD : Hid (rvD m t m.table.length = imDrops (imRaise m t) m.table) := hide (rvD_all m t)
      have HSN : Hid (Sns wr b.so m.snaps) := hide (by
        have := ((unhide HQ).o.shows (by rw [(rvD_same m t m.table.length).2]; exact (unhide HM).zs)).s
        rwa [(rvD_same m t m.table.length).2] at this)
      obtain ⟨bs, off, tq, tc, es, _, ht0, hIs, _, _⟩ := (unhide HSN) q (unhide HQL)
      rw [unhide HT] at ht0 hIs
      rw [es] at c2
      have HIS := hide hIs
      have HTL2 : Hid (t.length ≤ 12) := hide (tbB_len (unhide HTB))
      clear hIs HSN es HB
      rw [unhide HD] at HQ
      generalize imDrops (imRaise m t) m.table = D at *
      have hx1 := (unhide HQ).v.lt
      have hx2 := World.block_lt_of_cell? _ _ ht0
      have hb5 := Joins.below_alloc1 wr (.cells #[] 3)
      have HQ5 := hide ((unhide HQ).below hb5)
      have HI5 := hide ((unhide HIS).below hb5)
      clear hb5
      go_upto_region 11 with (at_builtin; refine wpList_append_fresh rfl _ _ 23 rfl 3 i0 (.int .i64 0) 1 8 Tryz.underlying23 hi0 hz0 hz1 hz2 rfl (by omega) rfl tq t.length tc (intV t) rfl (by rw [intV_length]; omega) (Is.srcI (unhide HI5)) (by have := unhide HTL2; unfold maxLen; omega) (by have := unhide HTL2; omega) ?_; intro qo qa w6 ho6 hg6; have HB6 := hide (belowGr (Below.refl _ _) hg6); have HO6 := hide ho6; clear ho6 hg6; have HQ6 := hide ((unhide HQ5).below (unhide HB6)); obtain ⟨c0, c1, c2, c3⟩ := (unhide HQ6).v.cells; obtain ⟨z0, z1, z2, z3⟩ := (unhide HQ6).v.free)
      have HON := hide ((unhide HQ5).o.newT (unhide HB6) (OwnN.mk' (unhide HO6) rfl) rfl (by have := (unhide HQ5).r.lt; omega))
      have HQ7 : Hid (ImQ w (w6.setCell ⟨w.heap.size, 1, none⟩ (.slice qo t.length qa)) (w.heap.size + 2) { b with tq := qo, tc := qa } { m with table := t } { D with table := t } ts) := hide
        ⟨(unhide HQ6).v.set1 _, (unhide HQ6).r.other (p := ⟨w.heap.size, 1, none⟩) (by simp) _, (unhide HON).setCell (p := ⟨w.heap.size, 1, none⟩) (by simp) _, (unhide HQ6).b.setCell (p := ⟨w.heap.size, 1, none⟩) (Nat.le_refl _) _, (unhide HQ6).hB, (unhide HQ6).e1, rfl, (unhide HQ6).e3, (unhide HQ6).e4⟩
      clear c0 c1 c2 c3 z0 z1 z2 z3 ht0 hx1 hx2
      revert HQ7
      generalize (w6.setCell _ _) = W7
      intro HQ7
      have HF := hide (unhide HQ7).fin
      obtain ⟨c0, c1, c2, c3⟩ := (unhide HQ7).v.cells
      obtain ⟨r0, r1, r2, r3⟩ := (unhide HQ7).r.cells
      obtain ⟨z0, z1, z2, z3⟩ := (unhide HQ7).r.free
      go_wp2
      refine bodyPost_ret (res_ic Tryz.results49 rfl rfl (unhide HF).1) rfl ?_
      rw [unhide HX]
      exact AnsI.of (R := ({ D with table := t }, 0)) (unhide HQ7).val rfl (unhide HF).2.1 (unhide HF).2.2

end Go.Proofs.YthnpooffhopnkacGreatDoor

/- Maps from clusters to counts. -/
namespace Go.Proofs.YthnpooffhopnkacGreatDoor
open Go.RowKit Go.Maps
set_option linter.unusedVariables false
set_option maxRecDepth 100000

theorem lawI : Keyed Tryz.prog 3 := int_keyed Tryz.underlying3
theorem zeroI (w : World) : (zeroValue 3).run Tryz.prog w = .ok (.int .i64 0) w := by kernel_rfl
theorem wfI {n : Int} (h0 : -1000000 ≤ n) (h1 : n ≤ 1000000) : (Lit.int .i64 n).wf = true := WalkArith.wf_i64 (by omega)
theorem keyI {i : Nat} (h : i < 24) : keyOf Tryz.prog 3 (.int .i64 (i : Int)) = some (.int .i64 (i : Int)) := keyOf_int_mk Tryz.underlying3 (wfI (by omega) (by omega))
/-- The map in block B has at most n entries, all of clusters, and says these counts. -/
def MpC (w : World) (B n : Nat) (D : DataW Unit) (ns : List Int) : Prop := w.ownsMap Tryz.prog 3 (plainElem Tryz.prog 3) B n D ∧ ns.length = 24 ∧ (∀ i : Nat, i < 24 → D.atKey (.int .i64 (i : Int)) (.lit (.int .i64 0)) = .lit (.int .i64 (ns.getD i 0))) ∧ (∀ kl, has D kl = true → ∃ i : Nat, i < 24 ∧ kl = .int .i64 (i : Int))
theorem MpC.made (w : World) : MpC (w.alloc (.map #[] 0)) w.heap.size 0 (.map []) zero24 := ⟨World.ownsMap_made _ _ _ _, rfl, fun i hi => by
    have e : zero24.getD i 0 = 0 := by
      have h2 : ∀ i : Fin 24, zero24.getD i 0 = 0 := by decide
      exact h2 ⟨i, hi⟩
    rw [e]; rfl, fun kl h => by cases h⟩
theorem MpC.lt {w : World} {B n : Nat} {D : DataW Unit} {ns : List Int} (h : MpC w B n D ns) : B < w.heap.size := h.1.lt
theorem grown_of_keep {S : Nat → Prop} {w w' : World} {B : Nat} (h : Keep S w w') (hs : ¬ S B) (hB : B < w.heap.size) : w'.heap[B]? = w.heap[B]? := h.block B hB hs
theorem MpC.keep {S : Nat → Prop} {w w' : World} {B n : Nat} {D : DataW Unit} {ns : List Int} (h : MpC w B n D ns) (hk : Keep S w w') (hs : ¬ S B) : MpC w' B n D ns := by
  have hl := h.lt
  obtain ⟨⟨es, clock, hb, F, hn, hD⟩, h2⟩ := h
  exact ⟨⟨es, clock, (hk.block B hl hs).trans hb, F, hn, hD⟩, h2⟩
theorem MpC.below {w w' : World} {B n : Nat} {D : DataW Unit} {ns : List Int} (h : MpC w B n D ns) (hb : Below w.heap.size w w') : MpC w' B n D ns := h.keep (S := fun _ => False) (Keep.of_below hb) (fun h => h)
theorem MpC.mono {w : World} {B n n' : Nat} {D : DataW Unit} {ns : List Int} (h : MpC w B n D ns) (hn : n ≤ n') : MpC w B n' D ns := ⟨h.1.mono hn, h.2⟩
theorem keep_map {w w' : World} {B : Nat} (h : w.grownBy w' (some B)) : Keep (fun g => g = B) w w' := ⟨h.os, h.tape, h.output, h.size, fun k hk hs => h.block k hk (fun e => hs (Option.some.inj e))⟩
/-- One cluster's count is set. -/
theorem MpC.put {w w' : World} {B n i : Nat} {D : DataW Unit} {ns : List Int} {c : Int} (h : MpC w B n D ns) (hi : i < 24) (ho : w'.ownsMap Tryz.prog 3 (plainElem Tryz.prog 3) B (n + 1) (D.put (.int .i64 (i : Int)) (.lit (.int .i64 c)))) : MpC w' B (n + 1) (D.put (.int .i64 (i : Int)) (.lit (.int .i64 c))) (ns.set i c) := by
  have hM : IsMap D := by obtain ⟨es, e, _⟩ := h.1.entries lawI; exact ⟨es, e⟩
  refine ⟨ho, by rw [List.length_set]; exact h.2.1, fun j hj => ?_, fun kl hk => ?_⟩
  · by_cases e : j = i
    · subst e
      rw [atKey_put_same (k := .int .i64 (j : Int)) hM trivial]
      simp [List.getD, h.2.1, hi]
    · rw [atKey_put_other (by intro h2; simp only [Lit.int.injEq, true_and] at h2; omega), h.2.2.1 j hj]
      simp [List.getD, Ne.symm e]
  · by_cases e : kl = .int .i64 (i : Int)
    · exact ⟨i, hi, e⟩
    · rw [has_put_other e] at hk
      exact h.2.2.2 kl hk
/-- What is looked up. -/
theorem MpC.look {w : World} {B n i : Nat} {D : DataW Unit} {ns : List Int} (h : MpC w B n D ns) (hi : i < 24) : (Instr.lookup 134 (.map (some B)) (.int .i64 (i : Int)) false).run Tryz.prog w = .ok (.int .i64 (ns.getD i 0)) w := by
  obtain ⟨c, hrun, hat, hwf⟩ := h.1.lookup_int lawI Tryz.underlying134 Tryz.underlying3 (zeroI _) (keyI hi)
  rw [h.2.2.1 i hi] at hat
  simp only [DataW.lit.injEq, Lit.int.injEq, true_and] at hat
  rw [hat]
  exact hrun
theorem fit_none : ∀ {clock : Nat}, Go.WideElems.Fit (H := Unit) Tryz.prog 3 (plainElem Tryz.prog 3) #[] clock := fun {clock} => ⟨by simp, MapKept.stamped_empty clock, by simp⟩
/-- clear. -/
theorem MpC.clear {w : World} {B n : Nat} {D : DataW Unit} {ns : List Int} (h : MpC w B n D ns) (ty : TypeId) : ∃ w', (Builtin.clear_ #[134] ty #[.map (some B)]).run Tryz.prog w = .ok (.tuple #[]) w' ∧ MpC w' B 0 (.map []) zero24 ∧ Keep (fun g => g = B) w w' := by
  obtain ⟨⟨es, clock, hb, F, hn, hD⟩, h2⟩ := h
  refine ⟨ChangeMaps.setBlock w B (.map #[] clock), ?_, ⟨⟨#[], clock, ChangeMaps.heap_setBlock_same hb _, fit_none, Nat.le_refl _, rfl⟩, (MpC.made w).2⟩, ⟨rfl, rfl, rfl, by simp [ChangeMaps.setBlock], fun k _ hk => ChangeMaps.heap_setBlock_other hb _ hk⟩⟩
  simp [Builtin.clear_, run_underlying Tryz.underlying134, MapKept.run_getObj_map hb, MapKept.run_setObj_map _ hb, Result.andThen, ChangeMaps.setBlock]
theorem wpList_clear {w : World} {ops : Array Oper} {rest : List Oper} {o : Oper} {a : Act} {Q : Exit → Act → World → Prop} (hg : o.guard = none) (m : Operand) (hop : o.op = Op.call { callee := Callee.builtin Builtin.clear, args := #[m], argTypes := #[134] })
    {B n : Nat} {D : DataW Unit} {ns : List Int} (hm : a.eval m = .map (some B)) (h : MpC w B n D ns) (hK : ∀ w', MpC w' B 0 (.map []) zero24 → Keep (fun g => g = B) w w' → wpList Tryz.prog ops Q rest (a.put o.dst (.tuple #[])) w') : wpList Tryz.prog ops Q (o :: rest) a w := by
  refine wpList_plain hg fun K' hK' => ?_
  obtain ⟨w', hrun, r1, r2⟩ := h.clear o.type
  unfold Oper.wp
  simp [execOp, hop, resolve, invoke, builtin, hm, hrun, Result.andThen]
  exact hK' _ _ (hK w' r1 r2)
theorem wpList_count {w : World} {ops : Array Oper} {rest : List Oper} {o : Oper} {a : Act} {Q : Exit → Act → World → Prop} (hg : o.guard = none) (m x v : Operand) (hop : o.op = Op.mapUpdate 134 m x v)
    {B n i : Nat} {D : DataW Unit} {ns : List Int} {c : Int} (hm : a.eval m = .map (some B)) (h : MpC w B n D ns) (hn : n < 1000000) (hx : a.eval x = .int .i64 (i : Int)) (hi : i < 24) (hv : a.eval v = .int .i64 c) (hc : -1000000 ≤ c ∧ c ≤ 1000000)
    (hK : ∀ w' D', MpC w' B (n + 1) D' (ns.set i c) → Keep (fun g => g = B) w w' → wpList Tryz.prog ops Q rest (a.put o.dst undef) w') : wpList Tryz.prog ops Q (o :: rest) a w :=
  wpList_mapUpdate_own w hg m x v 134 hop 3 3 lawI Tryz.underlying134 _ B n D hm h.1 (by unfold maxLen; omega) _ _ _ hx hv (keyI hi) _ [] (plainElem_int Tryz.underlying3 (wfI hc.1 hc.2)) (fun w' ho hg' => hK w' _ (h.put hi ho) (keep_map hg'))

/-- How often a table has a cluster. -/
theorem incr_get (ns : List Int) (hl : ns.length = 24) (c i : Nat) (hc : c < 24) (hi : i < 24) : (incr ns (c : Int)).getD i 0 = ns.getD i 0 + (if i = c then 1 else 0) := by
  rw [incr_set]
  simp only [List.getD, List.getElem?_set]
  by_cases e : i = c
  · subst e; simp [hl, hi]
  · simp [e, Ne.symm e]
theorem fold_incr_get (i : Nat) (hi : i < 24) : ∀ (L : List Int), (∀ c ∈ L, 0 ≤ c ∧ c ≤ 23) → ∀ ns : List Int, ns.length = 24 → (L.foldl incr ns).getD i 0 = ns.getD i 0 + (L.count (i : Int) : Int) := by
  intro L
  induction L with
  | nil => intro _ ns _; simp
  | cons c L ih =>
    intro hL ns hl
    obtain ⟨c0, c1⟩ := hL c (by simp)
    obtain ⟨q, rfl⟩ := Int.eq_ofNat_of_zero_le c0
    rw [List.foldl_cons, ih (fun d hd => hL d (by simp [hd])) _ (by rw [incr_len]; exact hl), incr_get ns hl q i (by omega) hi, List.count_cons]
    by_cases e : i = q
    · subst e; simp; omega
    · have e2 : ¬ ((q : Int) = (i : Int)) := by omega
      simp [e, e2]
theorem nodup_count : ∀ (L : List Int), L.Nodup ↔ ∀ x ∈ L, L.count x ≤ 1 := by
  intro L
  induction L with
  | nil => simp
  | cons c L ih =>
    rw [List.nodup_cons, ih]
    constructor
    · rintro ⟨h1, h2⟩ x hx
      rw [List.count_cons]
      by_cases e : c = x
      · subst e
        rw [List.count_eq_zero_of_not_mem h1]; simp
      · have : x ∈ L := by simpa [Ne.symm e] using hx
        have := h2 x this
        simp [e]; omega
    · intro h
      refine ⟨fun hm => ?_, fun x hx => ?_⟩
      · have h1 := h c (by simp)
        rw [List.count_cons] at h1
        have := List.count_pos_iff.2 hm
        simp at h1; omega
      · have h1 := h x (by simp [hx])
        rw [List.count_cons] at h1
        omega
theorem cl_mem {t : List Int} (h : tbB t = true) : ∀ c ∈ clA t, 0 ≤ c ∧ c ≤ 23 := fun c hc => by
  obtain ⟨j, hj, rfl⟩ := List.mem_iff_getElem.1 hc
  exact clA_in h j hj
theorem cnt1T_get {t : List Int} (h : tbB t = true) {ns : List Int} (hl : ns.length = 24) {i : Nat} (hi : i < 24) : (cnt1T ns t).getD i 0 = ns.getD i 0 + ((clA t).count (i : Int) : Int) := fold_incr_get i hi _ (cl_mem h) ns hl
theorem zero24_get {i : Nat} (hi : i < 24) : zero24.getD i 0 = 0 := by
  have h2 : ∀ i : Fin 24, zero24.getD i 0 = 0 := by decide
  exact h2 ⟨i, hi⟩
/-- A table has no cluster twice, told by counts. -/
theorem once_yes {t : List Int} (h : tbB t = true) (hc : ∀ i, i < 24 → (cnt1T zero24 t).getD i 0 ≤ 1) : onceB t = true := by
  refine decide_eq_true ((nodup_count _).2 fun x hx => ?_)
  obtain ⟨c0, c1⟩ := cl_mem h x hx
  obtain ⟨q, rfl⟩ := Int.eq_ofNat_of_zero_le c0
  have := hc q (by omega)
  rw [cnt1T_get h rfl (by omega), zero24_get (by omega)] at this
  omega
theorem once_no {t : List Int} (h : tbB t = true) {i : Nat} (hi : i < 24) (hc : 1 < (cnt1T zero24 t).getD i 0) : onceB t = false := by
  refine decide_eq_false fun hn => ?_
  rw [cnt1T_get h rfl hi, zero24_get hi] at hc
  have hm : (i : Int) ∈ clA t := List.count_pos_iff.1 (by omega)
  have := (nodup_count _).1 hn _ hm
  omega

end Go.Proofs.YthnpooffhopnkacGreatDoor

/- Contracts of the program's tables: TableOK, tableFault, EncodeTable, splitEntry, EntryOf, ResizeTable. -/
namespace Go.Proofs.YthnpooffhopnkacGreatDoor
open Go.RowKit
set_option linter.unusedVariables false
set_option maxRecDepth 100000

set_option maxHeartbeats 800000 in
theorem tableOK_impl (ao : Option Addr) (cap : Nat) (xs : List Int) (w : World) (hl : xs.length ≤ maxLen) (hc : Is w ao xs) :
    Calls Tryz.prog 121 #[.slice ao xs.length cap] w fun e w' => e = .returned (.bool (tbB xs)) ∧ w' = w := by
  have HC := hide hc
  clear hc
  unfold maxLen at hl
  by_cases hlong : 12 < xs.length
  · have HF := hide (tbB_nolen (xs := xs) (by omega))
    go_enter Tryz.func121, Tryz.ntmps121
    go_wp2
    go_ret
    exact ⟨ret_bool (unhide HF).symm, rfl⟩
  go_enter Tryz.func121, Tryz.ntmps121
  go_wp2
  go_loop [10] (fun i => ∃ k : Nat, k ≤ xs.length ∧ i = .int .i64 k ∧ Hid (∀ j (h : j < xs.length), j < k → ent1 xs[j] = true)) (fun i => xs.length - (intOf i).toNat)
  case atStart => exact ⟨0, Nat.zero_le _, rfl, hide (fun j _ h => by omega)⟩
  case round =>
    obtain ⟨k, hk, rfl, HA⟩ := hrel
    by_cases hlt : k < xs.length
    · obtain ⟨b, off, rfl, hc⟩ := unhide HC k hlt
      by_cases hn : ent1 xs[k] = true
      · have HN := hide (all_succ hlt (unhide HA) hn)
        have hn' : betw xs[k] 0 25 = true := hn
        clear hn
        go_wp2_with (go_at_call 72; refine (within_any _ _ _ _).mono ?_; rintro e w' ⟨rfl, rfl⟩)
        go_round
        case rel => exact ⟨k + 1, by omega, by go_num, HN⟩
        case measure => simp [intOf]; omega
      · have hn0 : ent1 xs[k] = false := by simpa using hn
        have hn' : betw xs[k] 0 25 = false := hn0
        have HF := hide (tbB_noat hlt hn0)
        clear hn hn0
        go_wp2_with (go_at_call 72; refine (within_any _ _ _ _).mono ?_; rintro e w' ⟨rfl, rfl⟩)
        go_ret
        exact ⟨ret_bool (unhide HF).symm, rfl⟩
    · have HF := hide (tbB_of (xs := xs) (by omega) (fun j h => unhide HA j h (by omega)))
      go_wp2
      go_ret
      exact ⟨ret_bool (unhide HF).symm, rfl⟩

theorem tbF_ne {xs : List Int} (h : tbF xs ≠ 0) : (tbF xs != 0) = true := by simpa using h

theorem splitEntry_any (n : Int) (w : World) (h0 : -1000 ≤ n) (h1 : n ≤ 1000) :
    Calls Tryz.prog 153 #[.int .i64 n] w fun e w' => e = .returned (.tuple #[.int .i64 (min n 2), .int .i64 (max 0 (n - 2))]) ∧ w' = w := by
  by_cases h : n < 2
  · have HM : Hid (n = min n 2 ∧ (0 : Int) = max 0 (n - 2)) := hide ⟨by omega, by omega⟩
    go_enter Tryz.func153, Tryz.ntmps153
    go_wp2
    go_ret2
    exact ⟨ret_two2 (unhide HM).1 (unhide HM).2, rfl⟩
  · have HM : Hid ((2 : Int) = min n 2 ∧ n - 2 = max 0 (n - 2)) := hide ⟨by omega, by omega⟩
    have hw2 : IntKind.i64.wrap (n - 2) = n - 2 := by rw [IntKind.wrap_i64]; omega
    go_enter Tryz.func153, Tryz.ntmps153
    go_wp2
    go_ret2
    exact ⟨ret_two2 (unhide HM).1 (unhide HM).2, rfl⟩

end Go.Proofs.YthnpooffhopnkacGreatDoor

/- Contracts of impl.clusterOfData, impl.takeEntries at numbers, impl.ClustersOf. -/
namespace Go.Proofs.YthnpooffhopnkacGreatDoor
open Go.RowKit
set_option linter.unusedVariables false
set_option maxRecDepth 100000

theorem clusterOfData_any (k c : Int) (w : World) :
    Calls Tryz.prog 140 #[.int .i64 k, .int .i64 c] w fun e w' => e = .returned (.tuple #[.int .i64 c, .bool (k == 2)]) ∧ w' = w := by
  go_enter Tryz.func140, Tryz.ntmps140
  go_wp2
  go_ret2
  exact ⟨rfl, rfl⟩

set_option maxHeartbeats 1600000 in
theorem takeEntries_any (ao : Option Addr) (cap : Nat) (xs : List Int) (w : World) (hl : xs.length ≤ 1048576) (hi : ∀ j (h : j < xs.length), -1000 ≤ xs[j] ∧ xs[j] ≤ 1000) (hc : Is w ao xs) :
    Calls Tryz.prog 139 #[.slice ao xs.length cap, .func (.func 140) #[] #[]] w fun e w' => ∃ v, e = .returned v ∧ OwnN w' w.heap.size v (clA xs) ∧ Below w.heap.size w w' := by
  obtain ⟨j0, hj, hy0, hy1, hy2⟩ := info_parts infoM
  have HC := hide hc
  have HI := hide hi
  clear hc hi
  go_enter Tryz.func139, Tryz.ntmps139
  go_wp2
  go_loopw [5, 12] (fun o i wr => ∃ (k : Nat) (ys : List Int) (qo : Option Addr) (qa : Nat), k ≤ xs.length ∧ i = .int .i64 k ∧ o = .slice qo ys.length qa ∧ Hid (ys = clTo xs k) ∧ Hid (OwnR wr w.heap.size 3 1 (.slice qo ys.length qa) ys.length (intV ys)) ∧ Hid (Below w.heap.size w wr)) (fun _ i _ => xs.length - (intOf i).toNat)
  case atStart => exact ⟨0, [], _, _, Nat.zero_le _, rfl, rfl, hide rfl, hide (.inl ⟨rfl, rfl, _, rfl⟩), hide (Below.refl _ _)⟩
  case round =>
    obtain ⟨k, ys, qo, qa, hk, rfl, rfl, HE, HO, HB⟩ := hrel
    by_cases hlt : k < xs.length
    · obtain ⟨b, off, rfl, hcl⟩ := (unhide HC).below (unhide HB) k hlt
      have HIK := hide (unhide HI k hlt)
      by_cases h2 : 2 ≤ xs[k]
      · have HS := hide (clTo_data hlt h2)
        have HYL : Hid (ys.length ≤ 1048576) := hide (by rw [unhide HE]; have := clTo_len xs k; omega)
        have hyl := unhide HYL
        have HV : Hid (min xs[k] 2 = 2 ∧ max 0 (xs[k] - 2) = xs[k] - 2) := hide ⟨by omega, by omega⟩
        have HOA := hide ((unhide HO).below (Joins.below_alloc1 _ (.cells #[.int .i64 (xs[k] - 2)] 3)))
        have HBA := hide (fr (unhide HB) (Joins.below_alloc1 _ (.cells #[.int .i64 (xs[k] - 2)] 3)))
        have HSZ := hide (unhide HB).size
        clear h2
        go_wp2_with (first | (go_at_call 153; refine (splitEntry_any _ _ (by have := unhide HIK; omega) (by have := unhide HIK; omega)).mono ?_; rintro e w' ⟨rfl, hw⟩; replace hw := hw.symm; subst hw; rw [(unhide HV).1, (unhide HV).2]) | (go_at_call 140; refine (clusterOfData_any _ _ _).mono ?_; rintro e w' ⟨rfl, hw⟩; replace hw := hw.symm; subst hw) | (at_builtin; refine wpList_append_one rfl _ _ 23 rfl w.heap.size 3 j0 (.int .i64 0) 1 8 Tryz.underlying23 hj hy0 hy1 hy2 rfl (by omega) qo ys.length qa (intV ys) rfl (unhide HOA) (by have := unhide HSZ; simp; omega) ⟨wr.heap.size, 0, none⟩ _ [.int .i64 (xs[k] - 2)] rfl rfl (byte_news wr _ _) (int_one _) (by unfold maxLen; omega) (by omega) ?_; intro g2 cap2 wA hoA hkA; have HSF := hide (And.intro hoA (keep_below (unhide HBA) (unhide HOA) (Nat.le_refl _) hkA)); clear hoA hkA))
        go_roundw
        case rel => exact ⟨k + 1, ys ++ [xs[k] - 2], some ⟨g2, 0, none⟩, cap2, by omega, by go_num, by simp, hide (by rw [unhide HS, unhide HE]), hide (by rw [List.length_append, intV_snoc]; exact .inr ⟨by simp, (unhide HSF).1⟩), hide (unhide HSF).2⟩
        case measure => simp [intOf]; omega
      · have HS := hide (clTo_none hlt h2)
        have HV : Hid (min xs[k] 2 = xs[k] ∧ max 0 (xs[k] - 2) = 0) := hide ⟨by omega, by omega⟩
        have hb2 : (xs[k] == 2) = false := beq_eq_false_iff_ne.2 (by omega)
        clear h2
        go_wp2_with (first | (go_at_call 153; refine (splitEntry_any _ _ (by have := unhide HIK; omega) (by have := unhide HIK; omega)).mono ?_; rintro e w' ⟨rfl, hw⟩; replace hw := hw.symm; subst hw; rw [(unhide HV).1, (unhide HV).2]) | (go_at_call 140; refine (clusterOfData_any _ _ _).mono ?_; rintro e w' ⟨rfl, hw⟩; replace hw := hw.symm; subst hw; rw [hb2]))
        go_roundw
        case rel => exact ⟨k + 1, ys, qo, qa, by omega, by go_num, rfl, hide (by rw [unhide HS, unhide HE]), HO, HB⟩
        case measure => simp [intOf]; omega
    · have HS : Hid (clA xs = ys) := hide (by rw [unhide HE, clA, show k = xs.length by omega])
      go_wp2
      go_ret
      exact ⟨.slice qo ys.length qa, rfl, by rw [unhide HS]; exact ⟨qo, qa, rfl, unhide HO⟩, unhide HB⟩

end Go.Proofs.YthnpooffhopnkacGreatDoor
