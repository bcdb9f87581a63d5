/- The walk of laws.FnCheck. -/
import Derived.Test.YtkaiglhljpehpaaRows
import Derived.Test.YtkaiglhljpehpaaPart1
import Derived.Test.YtkaiglhljpehpaaPart2
import Derived.Test.YtkaiglhljpehpaaPart4
import Derived.Test.YtkaiglhljpehpaaPart9
import Derived.Test.YtkaiglhljpehpaaImW
import Derived.Test.YtkaiglhljpehpaaPart6
import Derived.Test.YtkaiglhljpehpaaSrcM
import Derived.Test.YtkaiglhljpehpaaPart25
import Derived.Test.YtkaiglhljpehpaaPart15
import Derived.Test.YtkaiglhljpehpaaPart26
import Derived.WalkKit
import Derived.WalkSpells
import Derived.KernelRfl
import Derived.BigQuiet
import Derived.Deep.QuietTactic
import Derived.Deep.CutRange
import Derived.Deep.RegionWith

namespace Go.Proofs.Ytkaiglhljpehpaa
open Go.RowKit
set_option linter.unusedVariables false
set_option maxRecDepth 100000

/-- The image with the copied counts in its variable. -/
structure BadV (W wx : World) (C : Nat) (ro : Option Addr) (rc : Nat) (a : Im4) (m : Img) (xs : List Int) : Prop where
  v : VarM wx C 26 (.slice ro m.refs.length rc) (.slice a.tq m.table.length a.tc) (.slice a.so m.snaps.length a.sc) (.slice a.dq m.data.length a.dc)
  o : OwnR wx W.heap.size 3 1 (.slice ro m.refs.length rc) m.refs.length (intV xs)
  b : Below W.heap.size W wx
theorem BadV.put {W wx : World} {C : Nat} {ro : Option Addr} {rc : Nat} {a : Im4} {m : Img} {xs : List Int} {u0 u1 u2 u3 : Value} (hv : VarM wx C 26 u0 u1 u2 u3) (ho : OwnR wx W.heap.size 3 1 (.slice ro m.refs.length rc) m.refs.length (intV xs)) (hb : Below W.heap.size W wx) (hC : W.heap.size ≤ C) :
    BadV W ((((wx.setCell ⟨C, 0, none⟩ (.slice ro m.refs.length rc)).setCell ⟨C, 1, none⟩ (.slice a.tq m.table.length a.tc)).setCell ⟨C, 2, none⟩ (.slice a.so m.snaps.length a.sc)).setCell ⟨C, 3, none⟩ (.slice a.dq m.data.length a.dc)) C ro rc a m xs := by
  have hk : Keep (fun k => k = C) wx ((((wx.setCell ⟨C, 0, none⟩ (.slice ro m.refs.length rc)).setCell ⟨C, 1, none⟩ (.slice a.tq m.table.length a.tc)).setCell ⟨C, 2, none⟩ (.slice a.so m.snaps.length a.sc)).setCell ⟨C, 3, none⟩ (.slice a.dq m.data.length a.dc)) := (((((Keep.refl (fun k => k = C) wx).setCell (p := ⟨C, 0, none⟩) rfl _).setCell (p := ⟨C, 1, none⟩) rfl _).setCell (p := ⟨C, 2, none⟩) rfl _).setCell (p := ⟨C, 3, none⟩) rfl _)
  refine ⟨(((hv.set0 _).set1 _).set2 _).set3 _, ho.keep hk (fun g hg e => ho.other hv (by decide) (e ▸ hg)), (((hb.setCell (p := ⟨C, 0, none⟩) hC _).setCell (p := ⟨C, 1, none⟩) hC _).setCell (p := ⟨C, 2, none⟩) hC _).setCell (p := ⟨C, 3, none⟩) hC _⟩

theorem is_lit1 (w : World) (n : Int) : Is (w.alloc (.cells #[.int .i64 n] 3)) (some ⟨w.heap.size, 0, none⟩) [n] := fun i hi => by
  obtain rfl : i = 0 := by simpa using hi
  exact ⟨w.heap.size, 0, rfl, by simp⟩

set_option maxHeartbeats 6400000 in
theorem lawCheck (ao : Option Addr) (ca n : Nat) (bo : Option Addr) (cb m : Nat) (w : World) (hn : n ≤ maxLen) (hB : Bs w ao n) (hm : m ≤ maxLen) (hC : Bs w bo m) :
    Calls Try.prog 3 #[.slice ao n ca, .slice bo m cb] w fun e w' => e = .returned (.bool true) ∧ Below w.heap.size w w' := by
  have HBS := hide hB
  have HCS := hide hC
  clear hB hC
  obtain ⟨i0, hi0, hz0, hz1, hz2⟩ := info_parts infoM
  unfold maxLen at hn hm
  by_cases h : 1048576 < n
  · go_enter Try.func3, Try.ntmps3
    go_wp2
    go_ret
    exact ⟨rfl, Below.refl _ _⟩
  by_cases h' : 1048576 < m
  · go_enter Try.func3, Try.ntmps3
    go_wp2
    go_ret
    exact ⟨rfl, Below.refl _ _⟩
  have hn' : n ≤ 1048576 := by omega
  have hm' : m ≤ 1048576 := by omega
  go_enter Try.func3, Try.ntmps3
  go_wp2_with fail
  refine (imageOf_any ao n ca _ hn' (unhide HBS)).mono ?_
  rintro e w1 ⟨a0, M, ts0, rfl, ho, hi, hb⟩
  have HM := hide hi
  have A0 := hide (ImA.new (ho.showsR hi))
  have HB1 := hide (fr hb (Joins.below_alloc1 w1 (.cells #[.slice a0.ro M.refs.length a0.rc, .slice a0.tq M.table.length a0.tc, .slice a0.so M.snaps.length a0.sc, .slice a0.dq M.data.length a0.dc] 26)))
  clear ho hi hb HBS
  go_upto_region 4 with fail
  revert A0 HB1
  generalize w1.heap.size = y0
  generalize (w1.alloc _) = W1
  intro A0 HB1
  obtain ⟨c0, c1, c2, c3⟩ := (unhide A0).v.cells
  go_wp2_with fail
  refine (wrongRefs_impl a0 M _ (unhide HM).L (unhide A0).s).mono ?_
  rw [wl_right (unhide HM)]
  rintro e w2 ⟨q1, k1, rfl, _, hb⟩
  have A02 := hide ((unhide A0).below hb)
  have HB2 := hide (fr (unhide HB1) hb)
  clear hb c0 c1 c2 c3 A0 HB1
  go_wp2_with fail
  refine (at_any bo m cb 0 24 _ hm' (by omega) (by omega) (by omega) (by omega) ((unhide HCS).below (unhide HB2))).mono ?_
  rintro e w3 ⟨r, rfl, hr0, hr1, hb⟩
  obtain ⟨c, rfl⟩ := Int.eq_ofNat_of_zero_le hr0
  have hc : c < 24 := by omega
  have HCL : Hid (c < M.refs.length) := hide (by rw [(unhide HM).rl]; exact hc)
  have A03 := hide ((unhide A02).below hb)
  have HB3 := hide (fr (unhide HB2) hb)
  clear hb hr0 hr1 A02 HB2
  obtain ⟨c0, c1, c2, c3⟩ := (unhide A03).v.cells
  go_wp2_with fail
  refine (countRefs_impl a0 M _ (unhide HM).L (unhide A03).s).mono ?_
  rw [cr_right (unhide HM)]
  rintro e w4 ⟨q2, k2, rfl, ho, hb⟩
  have HN4 := hide (ownRN ho)
  have A04 := hide ((unhide A03).below hb)
  have HB4 := hide (fr (unhide HB3) hb)
  clear ho hb c0 c1 c2 c3 A03 HB3
  obtain ⟨c0, c1, c2, c3⟩ := (unhide A04).v.cells
  go_wp2_with fail
  refine (sameInts_any q2 a0.ro k2 a0.rc M.refs M.refs _ (unhide HM).L.r (unhide HN4) (unhide A04).s.r).mono ?_
  rw [show eqNB M.refs M.refs = true by simp [eqNB]]
  rintro e w5 ⟨rfl, hb⟩
  have A05 := hide ((unhide A04).below hb)
  have HB5 := hide (fr (unhide HB4) hb)
  clear hb c0 c1 c2 c3 A04 HB4 HN4
  go_upto_region 9 with fail
  go_cut [11] from 56 to 66 (fun c wx => ∃ (C : Nat) (ro : Option Addr) (rc : Nat), c = .pointer (some ⟨C, 0, none⟩) ∧ Hid (BadV w5 wx C ro rc a0 M M.refs))
  case first =>
    have hS0 : VarM w5.drew y0 26 (.slice a0.ro M.refs.length a0.rc) (.slice a0.tq M.table.length a0.tc) (.slice a0.so M.snaps.length a0.sc) (.slice a0.dq M.data.length a0.dc) := (unhide A05).v.below (Below.refl _ _).drew
    refine wp_region_tree (fun w' => VarM w' y0 26 (.slice a0.ro M.refs.length a0.rc) (.slice a0.tq M.table.length a0.tc) (.slice a0.so M.snaps.length a0.sc) (.slice a0.dq M.data.length a0.dc)) [0, 1, 2, 3, 4, 5, 6, 7, 8, 9, 11] (by kernel_rfl) ?_
    refine tree_seg (n := 5) [(1, 0), (2, 0), (4, 0), (5, 0), (6, 0), (7, 0), (8, 0), (9, 0)] (by kernel_rfl) rfl (by kernel_rfl) ?_
    refine ord_read (.pointer (some ⟨y0, 0, none⟩)) rfl rfl hS0 (fun W hW => by go_simp) ?_
    refine ord_read (.slice a0.ro M.refs.length a0.rc) rfl rfl hS0 (fun W hW => by obtain ⟨k0, k1, k2, k3⟩ := hW.cells; go_simp) ?_
    refine ord_read (.pointer (some ⟨y0, 1, none⟩)) rfl rfl hS0 (fun W hW => by go_simp) ?_
    refine ord_read (.slice a0.tq M.table.length a0.tc) rfl rfl hS0 (fun W hW => by obtain ⟨k0, k1, k2, k3⟩ := hW.cells; go_simp) ?_
    refine ord_read (.pointer (some ⟨y0, 2, none⟩)) rfl rfl hS0 (fun W hW => by go_simp) ?_
    refine ord_read (.slice a0.so M.snaps.length a0.sc) rfl rfl hS0 (fun W hW => by obtain ⟨k0, k1, k2, k3⟩ := hW.cells; go_simp) ?_
    refine ord_read (.pointer (some ⟨y0, 3, none⟩)) rfl rfl hS0 (fun W hW => by go_simp) ?_
    refine ord_read (.slice a0.dq M.data.length a0.dc) rfl rfl hS0 (fun W hW => by obtain ⟨k0, k1, k2, k3⟩ := hW.cells; go_simp) ?_
    refine ord_end ?_
    have HBD : Hid (Below w5.heap.size w5 w5.drew) := hide (Below.refl _ _).drew
    have HSD := hide ((unhide A05).below (unhide HBD))
    clear hS0
    refine tree_two (fuel := 4) (i := 0) (j := 11) rfl rfl rfl rfl (by kernel_rfl) ?ta ?tb
    case ta =>
      intro K hK
      unfold Oper.wp
      go_simp
      have HB6 := hide (Joins.below_alloc1 w5 (.cells #[] 3)).drew
      have HS6 := hide ((unhide A05).below (unhide HB6))
      refine hK _ _ (fun _ => (unhide HS6).v) ?_
      clear hK K
      revert HS6
      revert HB6
      generalize (w5.alloc _).drew = W6
      intro HB6 HS6
      refine tree_two (fuel := 3) (i := 3) (j := 11) rfl rfl rfl rfl (by kernel_rfl) ?tc ?td
      case tc =>
        intro K hK
        refine wp_append_fresh rfl (.tmp 56) (.tmp 58) 23 rfl 3 i0 (.int .i64 0) 1 8 Try.underlying23 hi0 hz0 hz1 hz2 rfl (by omega) rfl a0.ro M.refs.length a0.rc (intV M.refs) rfl (by rw [intV_length]; omega) (Is.srcI (unhide HS6).s.r) (by have := (unhide HM).rl; unfold maxLen; omega) (by have := (unhide HM).rl; omega) ?_
        intro ro rc wA hoA hgA
        have HO7 := hide (hoA.base (unhide HB6).size)
        have HB7 := hide (belowGr (unhide HB6) hgA)
        have HSB7 : Hid (Below _ _ wA) := hide (belowGr (Below.refl _ _) hgA)
        have HS7 := hide ((unhide HS6).below (unhide HSB7))
        clear hoA hgA
        refine hK _ _ (fun _ => (unhide HS7).v) ?_
        clear hK K
        refine tree_seg (n := 0) [(10, 4), (11, 2), (12, 3)] (by kernel_rfl) rfl (by kernel_rfl) ?_
        refine ord_val (.agg #[.slice ro M.refs.length rc, .slice a0.tq M.table.length a0.tc, .slice a0.so M.snaps.length a0.sc, .slice a0.dq M.data.length a0.dc]) rfl rfl (fun W => by go_simp) ?_
        have HVC := hide (VarM.new wA 26 (.slice none 0 0) (.slice none 0 0) (.slice none 0 0) (.slice none 0 0))
        have HO8 := hide ((unhide HO7).below (Joins.below_alloc1 wA (.cells #[.slice none 0 0, .slice none 0 0, .slice none 0 0, .slice none 0 0] 26)))
        have HB8 := hide (fr (unhide HB7) (Joins.below_alloc1 wA (.cells #[.slice none 0 0, .slice none 0 0, .slice none 0 0, .slice none 0 0] 26)))
        have HCL2 := hide (unhide HB7).size
        have HS8 := hide ((unhide HS7).below (Joins.below_alloc1 wA (.cells #[.slice none 0 0, .slice none 0 0, .slice none 0 0, .slice none 0 0] 26)))
        refine ord_held rfl rfl ?_
        intro K hK
        unfold Oper.wp
        go_simp
        refine hK _ _ (unhide HS8).v ?_
        clear HS8
        clear hK K
        revert HVC HO8 HB8 HCL2
        generalize wA.heap.size = C
        generalize (wA.alloc _) = W8
        intro HVC HO8 HB8 HCL2
        obtain ⟨z0, z1, z2, z3⟩ := (unhide HVC).cells
        obtain ⟨f0, f1, f2, f3⟩ := (unhide HVC).free
        have HF := hide (BadV.put (a := a0) (unhide HVC) (unhide HO8) (unhide HB8) (unhide HCL2))
        refine ord_alone rfl rfl ?_
        intro K hK
        unfold Oper.wp
        go_simp
        refine hK _ _ ?_
        clear hK K z0 z1 z2 z3 f0 f1 f2 f3
        refine ord_end ?_
        refine tree_done (by kernel_rfl) ?_
        go_wp2_with fail
        go_meet
        exact ⟨C, ro, rc, rfl, HF⟩
      case td =>
        intro K hK
        unfold Oper.wp
        go_simp
        have HVC := hide (VarM.new W6 26 (.slice none 0 0) (.slice none 0 0) (.slice none 0 0) (.slice none 0 0))
        have HB7 := hide (fr (unhide HB6) (Joins.below_alloc1 W6 (.cells #[.slice none 0 0, .slice none 0 0, .slice none 0 0, .slice none 0 0] 26)))
        have HS7 := hide ((unhide HS6).below (Joins.below_alloc1 W6 (.cells #[.slice none 0 0, .slice none 0 0, .slice none 0 0, .slice none 0 0] 26)))
        have HCL2 := hide (unhide HB6).size
        refine hK _ _ (fun _ => (unhide HS7).v) ?_
        clear hK K
        revert HVC HB7 HS7 HCL2
        generalize W6.heap.size = C
        generalize (W6.alloc _) = W7
        intro HVC HB7 HS7 HCL2
        refine tree_seg (n := 0) [(3, 2), (10, 4), (12, 3)] (by kernel_rfl) rfl (by kernel_rfl) ?_
        refine ord_held rfl rfl ?_
        intro K hK
        refine wp_append_fresh rfl (.tmp 56) (.tmp 58) 23 rfl 3 i0 (.int .i64 0) 1 8 Try.underlying23 hi0 hz0 hz1 hz2 rfl (by omega) rfl a0.ro M.refs.length a0.rc (intV M.refs) rfl (by rw [intV_length]; omega) (Is.srcI (unhide HS7).s.r) (by have := (unhide HM).rl; unfold maxLen; omega) (by have := (unhide HM).rl; omega) ?_
        intro ro rc wA hoA hgA
        have HO8 := hide (hoA.base (unhide HB7).size)
        have HB8 := hide (belowGr (unhide HB7) hgA)
        have HSB8 : Hid (Below _ _ wA) := hide (belowGr (Below.refl _ _) hgA)
        have HS8 := hide ((unhide HS7).below (unhide HSB8))
        clear hoA hgA
        have HVD := hide ((unhide HVC).below (unhide HSB8))
        refine hK _ _ (unhide HS8).v ?_
        clear hK K
        refine ord_val (.agg #[.slice ro M.refs.length rc, .slice a0.tq M.table.length a0.tc, .slice a0.so M.snaps.length a0.sc, .slice a0.dq M.data.length a0.dc]) rfl rfl (fun W => by go_simp) ?_
        obtain ⟨z0, z1, z2, z3⟩ := (unhide HVD).cells
        obtain ⟨f0, f1, f2, f3⟩ := (unhide HVD).free
        have HF := hide (BadV.put (a := a0) (unhide HVD) (unhide HO8) (unhide HB8) (unhide HCL2))
        refine ord_alone rfl rfl ?_
        intro K hK
        unfold Oper.wp
        go_simp
        refine hK _ _ ?_
        clear hK K z0 z1 z2 z3 f0 f1 f2 f3
        refine ord_end ?_
        refine tree_done (by kernel_rfl) ?_
        go_wp2_with fail
        go_meet
        exact ⟨C, ro, rc, rfl, HF⟩
    case tb =>
      intro K hK
      unfold Oper.wp
      go_simp
      have HVC := hide ((VarM.new w5 26 (.slice none 0 0) (.slice none 0 0) (.slice none 0 0) (.slice none 0 0)).below (Below.refl _ _).drew)
      have HB6 := hide (Joins.below_alloc1 w5 (.cells #[.slice none 0 0, .slice none 0 0, .slice none 0 0, .slice none 0 0] 26)).drew
      have HS6 := hide ((unhide A05).below (unhide HB6))
      have HCL2 : Hid (w5.heap.size ≤ w5.heap.size) := hide (Nat.le_refl _)
      refine hK _ _ (fun _ => (unhide HS6).v) ?_
      clear hK K
      revert HVC HB6 HS6
      generalize (w5.alloc _).drew = W6
      intro HVC HB6 HS6
      have HVE := hide ((unhide HVC).below (Joins.below_alloc1 W6 (.cells #[] 3)))
      have HB7 := hide (fr (unhide HB6) (Joins.below_alloc1 W6 (.cells #[] 3)))
      have HS7 := hide ((unhide HS6).below (Joins.below_alloc1 W6 (.cells #[] 3)))
      refine tree_seg (n := 0) [(0, 2), (3, 2), (10, 4), (12, 3)] (by kernel_rfl) rfl (by kernel_rfl) ?_
      refine ord_held rfl rfl ?_
      intro K hK
      unfold Oper.wp
      go_simp
      refine hK _ _ (unhide HS7).v ?_
      clear hK K HVC
      refine ord_held rfl rfl ?_
      intro K hK
      refine wp_append_fresh rfl (.tmp 56) (.tmp 58) 23 rfl 3 i0 (.int .i64 0) 1 8 Try.underlying23 hi0 hz0 hz1 hz2 rfl (by omega) rfl a0.ro M.refs.length a0.rc (intV M.refs) rfl (by rw [intV_length]; omega) (Is.srcI (unhide HS7).s.r) (by have := (unhide HM).rl; unfold maxLen; omega) (by have := (unhide HM).rl; omega) ?_
      intro ro rc wA hoA hgA
      have HO8 := hide (hoA.base (unhide HB7).size)
      have HB8 := hide (belowGr (unhide HB7) hgA)
      have HSB8 : Hid (Below _ _ wA) := hide (belowGr (Below.refl _ _) hgA)
      have HS8 := hide ((unhide HS7).below (unhide HSB8))
      clear hoA hgA
      have HVD := hide ((unhide HVE).below (unhide HSB8))
      refine hK _ _ (unhide HS8).v ?_
      clear hK K
      refine ord_val (.agg #[.slice ro M.refs.length rc, .slice a0.tq M.table.length a0.tc, .slice a0.so M.snaps.length a0.sc, .slice a0.dq M.data.length a0.dc]) rfl rfl (fun W => by go_simp) ?_
      obtain ⟨z0, z1, z2, z3⟩ := (unhide HVD).cells
      obtain ⟨f0, f1, f2, f3⟩ := (unhide HVD).free
      have HF := hide (BadV.put (a := a0) (unhide HVD) (unhide HO8) (unhide HB8) (unhide HCL2))
      refine ord_alone rfl rfl ?_
      intro K hK
      unfold Oper.wp
      go_simp
      refine hK _ _ ?_
      clear hK K z0 z1 z2 z3 f0 f1 f2 f3
      refine ord_end ?_
      refine tree_done (by kernel_rfl) ?_
      go_wp2_with fail
      go_meet
      exact ⟨w5.heap.size, ro, rc, rfl, HF⟩
  case rest =>
    obtain ⟨C, ro, rc, rfl, HF⟩ := hcut
    rename World => W9
    have HB9 := hide (fr (unhide HB5) (unhide HF).b)
    obtain ⟨g, hro, hcell, hfz, hown, hset⟩ := OwnN.spot (c := c) ⟨ro, rc, rfl, (unhide HF).o⟩ rfl (unhide HCL)
    have hci : (c : Int) < (M.refs.length : Int) := by have := unhide HCL; omega
    have h4 := (unhide HM).ref4 (unhide HCL)
    have HGD : Hid (M.refs.getD c 0 = M.refs[c]'(unhide HCL)) := hide (by have := unhide HCL; simp [List.getD, this])
    have HGE := hide ((unhide HF).o.ge g hown).1
    have HCG : Hid (C ≠ g) := hide (fun e => (unhide HF).o.other (unhide HF).v (by decide) (e ▸ hown))
    have HR := hide (hset (M.refs[c]'(unhide HCL) + 1))
    have HV := hide ((unhide HF).v.other (p := ⟨g, c, none⟩) (unhide HCG) (.int .i64 (M.refs[c]'(unhide HCL) + 1)))
    have HB := hide ((unhide HF).b.setCell (p := ⟨g, c, none⟩) (unhide HGE) (.int .i64 (M.refs[c]'(unhide HCL) + 1)))
    obtain ⟨c0, c1, c2, c3⟩ := (unhide HF).v.cells
    rw [hro] at c0
    have HRO := hide hro
    have HBI : Hid (badI M c = { M with refs := M.refs.set c (M.refs[c]'(unhide HCL) + 1) }) := hide (by unfold badI; rw [unhide HGD])
    clear hro hown hset HF
    generalize M.refs[c]'(unhide HCL) = X at *
    have hwr : IntKind.i64.wrap (X + 1) = X + 1 := by rw [IntKind.wrap_i64]; omega
    go_upto_region 11 with fail
    revert HB
    revert HV
    revert HR
    generalize (W9.setCell _ _) = W10
    intro HR HV HB
    clear c0 c1 c2 c3 hcell hfz hwr h4
    have HBX := hide (fr (unhide HB5) (unhide HB))
    have HSX : Hid (ImS W10 { a0 with ro := ro, rc := rc } (badI M c)) := hide (by
      have h0 := (unhide A05).below (unhide HB)
      rw [unhide HBI]
      obtain ⟨ao2, cap2, e2, ho2⟩ := unhide HR
      refine ⟨?_, h0.s.t, h0.s.s, h0.s.d⟩
      simp only [Value.slice.injEq] at e2
      obtain ⟨rfl, _, rfl⟩ := e2
      exact ownRN ho2)
    have HLX : Hid (ImL (badI M c)) := hide (by
      have h0 := (unhide HM).L
      rw [unhide HBI]
      exact ⟨by show (M.refs.set c _).length ≤ _; rw [List.length_set]; exact h0.r, h0.t, h0.s, h0.d⟩)
    have HEV : Hid (imV { a0 with ro := ro, rc := rc } (badI M c) = .agg #[.slice ro M.refs.length rc, .slice a0.tq M.table.length a0.tc, .slice a0.so M.snaps.length a0.sc, .slice a0.dq M.data.length a0.dc]) := hide (by
      rw [unhide HBI]; simp only [imV, List.length_set])
    have HW := hide (bad_wl (unhide HM) (unhide HCL))
    have HK := hide (bad_lk (unhide HM) (unhide HCL))
    have HI := hide (bad_im (unhide HM) (unhide HCL))
    rw [unhide HRO] at HEV HSX
    rw [unhide HRO] at HV
    clear HBI HRO HR HB A05 HB9
    obtain ⟨c0, c1, c2, c3⟩ := (unhide HV).cells
    generalize badI M c = Y at *
    go_wp2_with fail
    have k := wrongRefs_impl { a0 with ro := some ⟨g, 0, none⟩, rc := rc } Y _ (unhide HLX) (unhide HSX)
    rw [unhide HEV, unhide HW] at k
    refine k.mono ?_
    rintro e w11 ⟨q3, k3, rfl, ho, hb⟩
    have HN3 := hide (ownRN ho)
    have HSX2 := hide ((unhide HSX).below hb)
    have HV2 := hide ((unhide HV).below hb)
    have HB2 := hide (fr (unhide HBX) hb)
    clear ho hb k c0 c1 c2 c3 HSX HV HBX
    obtain ⟨c0, c1, c2, c3⟩ := (unhide HV2).cells
    go_wp2_with fail
    have k := leaks_impl { a0 with ro := some ⟨g, 0, none⟩, rc := rc } Y _ (unhide HLX) (unhide HSX2)
    rw [unhide HEV, unhide HK] at k
    refine k.mono ?_
    rintro e w12 ⟨q4, k4, rfl, ho, hb⟩
    have HN4 := hide (ownRN ho)
    have HN32 := hide ((unhide HN3).below hb)
    have HSX3 := hide ((unhide HSX2).below hb)
    have HV3 := hide ((unhide HV2).below hb)
    have HB3 := hide (fr (unhide HB2) hb)
    clear ho hb k c0 c1 c2 c3 HSX2 HV2 HB2 HN3
    have HA := hide (Joins.below_alloc1 w12 (.cells #[.int .i64 (c : Int)] 3))
    have HL1 : Hid (Is (w12.alloc (.cells #[.int .i64 (c : Int)] 3)) (some ⟨w12.heap.size, 0, none⟩) [(c : Int)]) := hide (is_lit1 w12 c)
    go_wp2_with fail
    refine (sameInts_any q3 (some ⟨w12.heap.size, 0, none⟩) k3 1 [(c : Int)] [(c : Int)] _ (by simp [maxLen]) ((unhide HN32).below (unhide HA)) (unhide HL1)).mono ?_
    rw [eqNB_self]
    rintro e w13 ⟨rfl, hb⟩
    have HN42 := hide ((unhide HN4).below (fr (unhide HA) hb))
    have HSX4 := hide ((unhide HSX3).below (fr (unhide HA) hb))
    have HV4 := hide ((unhide HV3).below (fr (unhide HA) hb))
    have HB4 := hide (fr (unhide HB3) (fr (unhide HA) hb))
    clear hb HA HL1 HN4 HN32 HSX3 HV3 HB3
    have HA := hide (Joins.below_alloc1 w13 (.cells #[.int .i64 (c : Int)] 3))
    have HL1 : Hid (Is (w13.alloc (.cells #[.int .i64 (c : Int)] 3)) (some ⟨w13.heap.size, 0, none⟩) [(c : Int)]) := hide (is_lit1 w13 c)
    go_wp2_with fail
    refine (sameInts_any q4 (some ⟨w13.heap.size, 0, none⟩) k4 1 [(c : Int)] [(c : Int)] _ (by simp [maxLen]) ((unhide HN42).below (unhide HA)) (unhide HL1)).mono ?_
    rw [eqNB_self]
    rintro e w14 ⟨rfl, hb⟩
    have HSX5 := hide ((unhide HSX4).below (fr (unhide HA) hb))
    have HV5 := hide ((unhide HV4).below (fr (unhide HA) hb))
    have HB5' := hide (fr (unhide HB4) (fr (unhide HA) hb))
    clear hb HA HL1 HN42 HSX4 HV4 HB4
    obtain ⟨c0, c1, c2, c3⟩ := (unhide HV5).cells
    go_wp2_with fail
    have k := imageOK_impl { a0 with ro := some ⟨g, 0, none⟩, rc := rc } Y _ (unhide HLX) (unhide HSX5)
    rw [unhide HEV, unhide HI] at k
    refine k.mono ?_
    rintro e w15 ⟨rfl, hb⟩
    have HB6 := hide (fr (unhide HB5') hb)
    clear hb k c0 c1 c2 c3
    go_wp2
    go_ret
    exact ⟨rfl, unhide HB6⟩

end Go.Proofs.Ytkaiglhljpehpaa
