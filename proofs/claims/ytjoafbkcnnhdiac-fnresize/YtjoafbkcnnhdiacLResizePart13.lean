import Derived.Test.YtjoafbkcnnhdiacRows
import Derived.Test.YtjoafbkcnnhdiacLResizePart1
import Derived.WalkKit
import Derived.WalkSpells
import Derived.BigQuiet
import Derived.Deep.QuietTactic
import Derived.Deep.RegionWith
import Derived.Test.YtjoafbkcnnhdiacLResizePart9
import Derived.Test.YtjoafbkcnnhdiacLResizePart12
import Derived.Test.YtjoafbkcnnhdiacLResizePart10
import Derived.KernelRfl
import Derived.LoopN
import Derived.Deep.CutRange

namespace Go.Proofs.Ytjoafbkcnnhdiac
open Go.RowKit
set_option linter.unusedVariables false
set_option maxRecDepth 100000

set_option maxHeartbeats 3200000 in
theorem at_any (ao : Option Addr) (n cap : Nat) (i k : Int) (w : World) (hn : n ≤ 1048576) (hi0 : 0 ≤ i) (hi1 : i ≤ 1000) (hk0 : 1 ≤ k) (hk1 : k ≤ 100000) (hB : Bs w ao n) :
    Calls Try.prog 13 #[.slice ao n cap, .int .i64 i, .int .i64 k] w fun e w' => ∃ r : Int, e = .returned (.int .i64 r) ∧ 0 ≤ r ∧ r < k ∧ Below w.heap.size w w' := by
  by_cases h1 : k ≤ 1
  · go_enter Try.func13, Try.ntmps13
    go_wp2
    go_ret
    exact ⟨0, rfl, by omega, by omega, Below.refl _ _⟩
  by_cases h0 : n = 0
  · have hb0 : ((n : Int) == 0) = true := by simp [h0]
    go_enter Try.func13, Try.ntmps13
    go_wp2
    go_ret
    have q0 := Int.emod_nonneg (i * 7) (show k ≠ 0 by omega)
    have q1 := Int.emod_lt_of_pos (i * 7) (show 0 < k by omega)
    exact ⟨i * 7 % k, rfl, q0, q1, Below.refl _ _⟩
  have hb0 : ((n : Int) == 0) = false := by simp [h0]
  have hnp : (0 : Int) < n := by omega
  have p0 := Int.emod_nonneg i (show (n : Int) ≠ 0 by omega)
  have p1 := Int.emod_lt_of_pos i hnp
  have p2 := Int.emod_nonneg (i + 1) (show (n : Int) ≠ 0 by omega)
  have p3 := Int.emod_lt_of_pos (i + 1) hnp
  obtain ⟨u, hu⟩ := Int.eq_ofNat_of_zero_le p0
  obtain ⟨v, hv⟩ := Int.eq_ofNat_of_zero_le p2
  have q0 : i / (n : Int) ≤ 1000 := Int.le_trans (Int.ediv_le_self _ hi0) hi1
  have q1 : 0 ≤ i / (n : Int) := Int.ediv_nonneg hi0 (by omega)
  obtain ⟨b, off, x, rfl, hcx, hx0, hx1⟩ := hB u (by omega)
  obtain ⟨b2, off2, y, he, hcy, hy0, hy1⟩ := hB v (by omega)
  simp only [Option.some.injEq, Addr.mk.injEq, and_true] at he
  obtain ⟨rfl, rfl⟩ := he
  have hn0 : ((n : Int) == 0) = false := hb0
  have hn1 : ¬ (n : Int) = 0 := by omega
  have hk2 : ¬ k = 0 := by omega
  have t1 : i.tmod (n : Int) = (u : Int) := by rw [Int.tmod_eq_emod_of_nonneg hi0]; exact hu
  have w1 : IntKind.i64.wrap (i + 1) = i + 1 := wrapI (by omega) (by omega)
  have t2 : (i + 1).tmod (n : Int) = (v : Int) := by rw [Int.tmod_eq_emod_of_nonneg (by omega)]; exact hv
  have w2 : IntKind.i64.wrap x = x := wrapI (by omega) (by omega)
  have w3 : IntKind.i64.wrap (x * 31) = x * 31 := wrapI (by omega) (by omega)
  have w4 : IntKind.i64.wrap y = y := wrapI (by omega) (by omega)
  have w5 : IntKind.i64.wrap (x * 31 + y) = x * 31 + y := wrapI (by omega) (by omega)
  have t3 : i.tdiv (n : Int) = i / (n : Int) := Int.tdiv_eq_ediv_of_nonneg hi0
  have w6 : IntKind.i64.wrap (i / (n : Int)) = i / (n : Int) := wrapI (by omega) (by omega)
  have w7 : IntKind.i64.wrap (x * 31 + y + i / (n : Int)) = x * 31 + y + i / (n : Int) := wrapI (by omega) (by omega)
  have t4 : (x * 31 + y + i / (n : Int)).tmod k = (x * 31 + y + i / (n : Int)) % k := Int.tmod_eq_emod_of_nonneg (by omega)
  have z0 := Int.emod_nonneg (x * 31 + y + i / (n : Int)) (show k ≠ 0 by omega)
  have z1 := Int.emod_lt_of_pos (x * 31 + y + i / (n : Int)) (show 0 < k by omega)
  go_enter Try.func13, Try.ntmps13
  go_wp2
  go_quiet (fail)
  go_wp2
  go_ret
  exact ⟨_, rfl, z0, z1, Joins.below_draws _ _ _⟩

end Go.Proofs.Ytjoafbkcnnhdiac

namespace Go.Proofs.Ytjoafbkcnnhdiac
open Go.RowKit
set_option linter.unusedVariables false
set_option maxRecDepth 100000

set_option maxHeartbeats 3200000 in
theorem at_told (ao : Option Addr) (n cap : Nat) (i k : Int) (w : World) (hn : n ≤ 1048576) (hi0 : 0 ≤ i) (hi1 : i ≤ 1000) (hk0 : 1 ≤ k) (hk1 : k ≤ 100000) (hB : Bs w ao n) :
    ∃ r : Int, (0 ≤ r ∧ r < k) ∧ ∀ W, Below w.heap.size w W → Calls Try.prog 13 #[.slice ao n cap, .int .i64 i, .int .i64 k] W fun e w' => e = .returned (.int .i64 r) ∧ Below W.heap.size W w' := by
  by_cases h1 : k ≤ 1
  · refine ⟨0, ⟨by omega, by omega⟩, fun W HW => ?_⟩
    go_enter Try.func13, Try.ntmps13
    go_wp2
    go_ret
    exact ⟨rfl, Below.refl _ _⟩
  by_cases h0 : n = 0
  · have hb0 : ((n : Int) == 0) = true := by simp [h0]
    have q0 := Int.emod_nonneg (i * 7) (show k ≠ 0 by omega)
    have q1 := Int.emod_lt_of_pos (i * 7) (show 0 < k by omega)
    refine ⟨i * 7 % k, ⟨q0, q1⟩, fun W HW => ?_⟩
    clear q0 q1
    go_enter Try.func13, Try.ntmps13
    go_wp2
    go_ret
    exact ⟨rfl, Below.refl _ _⟩
  have hb0 : ((n : Int) == 0) = false := by simp [h0]
  have hnp : (0 : Int) < n := by omega
  have p0 := Int.emod_nonneg i (show (n : Int) ≠ 0 by omega)
  have p1 := Int.emod_lt_of_pos i hnp
  have p2 := Int.emod_nonneg (i + 1) (show (n : Int) ≠ 0 by omega)
  have p3 := Int.emod_lt_of_pos (i + 1) hnp
  obtain ⟨u, hu⟩ := Int.eq_ofNat_of_zero_le p0
  obtain ⟨v, hv⟩ := Int.eq_ofNat_of_zero_le p2
  have q0 : i / (n : Int) ≤ 1000 := Int.le_trans (Int.ediv_le_self _ hi0) hi1
  have q1 : 0 ≤ i / (n : Int) := Int.ediv_nonneg hi0 (by omega)
  obtain ⟨b, off, x, rfl, hcx, hx0, hx1⟩ := hB u (by omega)
  obtain ⟨b2, off2, y, he, hcy, hy0, hy1⟩ := hB v (by omega)
  simp only [Option.some.injEq, Addr.mk.injEq, and_true] at he
  obtain ⟨rfl, rfl⟩ := he
  have hn0 : ((n : Int) == 0) = false := hb0
  have hn1 : ¬ (n : Int) = 0 := by omega
  have hk2 : ¬ k = 0 := by omega
  have t1 : i.tmod (n : Int) = (u : Int) := by rw [Int.tmod_eq_emod_of_nonneg hi0]; exact hu
  have w1 : IntKind.i64.wrap (i + 1) = i + 1 := wrapI (by omega) (by omega)
  have t2 : (i + 1).tmod (n : Int) = (v : Int) := by rw [Int.tmod_eq_emod_of_nonneg (by omega)]; exact hv
  have w2 : IntKind.i64.wrap x = x := wrapI (by omega) (by omega)
  have w3 : IntKind.i64.wrap (x * 31) = x * 31 := wrapI (by omega) (by omega)
  have w4 : IntKind.i64.wrap y = y := wrapI (by omega) (by omega)
  have w5 : IntKind.i64.wrap (x * 31 + y) = x * 31 + y := wrapI (by omega) (by omega)
  have t3 : i.tdiv (n : Int) = i / (n : Int) := Int.tdiv_eq_ediv_of_nonneg hi0
  have w6 : IntKind.i64.wrap (i / (n : Int)) = i / (n : Int) := wrapI (by omega) (by omega)
  have w7 : IntKind.i64.wrap (x * 31 + y + i / (n : Int)) = x * 31 + y + i / (n : Int) := wrapI (by omega) (by omega)
  have t4 : (x * 31 + y + i / (n : Int)).tmod k = (x * 31 + y + i / (n : Int)) % k := Int.tmod_eq_emod_of_nonneg (by omega)
  have z0 := Int.emod_nonneg (x * 31 + y + i / (n : Int)) (show k ≠ 0 by omega)
  have z1 := Int.emod_lt_of_pos (x * 31 + y + i / (n : Int)) (show 0 < k by omega)
  refine ⟨(x * 31 + y + i / (n : Int)) % k, ⟨z0, z1⟩, fun W HW => ?_⟩
  have hcx' := (HW.cell (World.block_lt_of_cell? _ _ hcx)).trans hcx
  have hcy' := (HW.cell (World.block_lt_of_cell? _ _ hcy)).trans hcy
  clear hcx hcy HW hB
  go_enter Try.func13, Try.ntmps13
  go_wp2
  go_quiet (fail)
  go_wp2
  go_ret
  exact ⟨rfl, Joins.below_draws _ _ _⟩

end Go.Proofs.Ytjoafbkcnnhdiac

namespace Go.Proofs.Ytjoafbkcnnhdiac
open Go.RowKit
set_option linter.unusedVariables false
set_option maxRecDepth 100000

theorem ImA.put {W : World} {C B : Nat} {v0 v1 v2 v3 : Value} {a : Im4} {m : Img} {ts : List Value} (hv : VarM W C 29 v0 v1 v2 v3) (ho : OwnIm W B a m ts) (hi : ImR m) : ImA (putI W C a m) C a m := by
  have hk : Keep (fun k => k = C) W (putI W C a m) := (((((Keep.refl (fun k => k = C) W).setCell (p := ⟨C, 0, none⟩) rfl _).setCell (p := ⟨C, 1, none⟩) rfl _).setCell (p := ⟨C, 2, none⟩) rfl _).setCell (p := ⟨C, 3, none⟩) rfl _)
  exact ⟨(((hv.set0 _).set1 _).set2 _).set3 _, (ho.keep hk (fun g hg e => ho.other hv (e ▸ hg))).showsR hi⟩
theorem belowPut {w W : World} {C : Nat} (hb : Below w.heap.size w W) (hC : w.heap.size ≤ C) (a : Im4) (m : Img) : Below w.heap.size w (putI W C a m) :=
  (((hb.setCell (p := ⟨C, 0, none⟩) hC _).setCell (p := ⟨C, 1, none⟩) hC _).setCell (p := ⟨C, 2, none⟩) hC _).setCell (p := ⟨C, 3, none⟩) hC _

set_option maxHeartbeats 6400000 in
theorem lawResize (ao : Option Addr) (ca n : Nat) (bo : Option Addr) (cb m : Nat) (w : World) (hn : n ≤ maxLen) (hB : Bs w ao n) (hm : m ≤ maxLen) (hC : Bs w bo m) :
    Calls Try.prog 4 #[.slice ao n ca, .slice bo m cb] w fun e w' => e = .returned (.bool true) ∧ Below w.heap.size w w' := by
  have HBS := hide hB
  have HCS := hide hC
  clear hB hC
  unfold maxLen at hn hm
  by_cases h : 1048576 < n
  · go_enter Try.func4, Try.ntmps4
    go_wp2
    go_ret
    exact ⟨rfl, Below.refl _ _⟩
  by_cases h' : 1048576 < m
  · go_enter Try.func4, Try.ntmps4
    go_wp2
    go_ret
    exact ⟨rfl, Below.refl _ _⟩
  have hn' : n ≤ 1048576 := by omega
  have hm' : m ≤ 1048576 := by omega
  go_enter Try.func4, Try.ntmps4
  go_wp2_with fail
  refine (imageOf_any ao n ca _ hn' (unhide HBS)).mono ?_
  rintro e w1 ⟨a0, M, ts0, rfl, ho, hi, hb⟩
  have HM := hide hi
  have A0 := hide (ImA.new (ho.showsR hi))
  have HB1 := hide (fr hb (Joins.below_alloc1 w1 (.cells #[.slice a0.ro M.refs.length a0.rc, .slice a0.tq M.table.length a0.tc, .slice a0.so M.snaps.length a0.sc, .slice a0.dq M.data.length a0.dc] 29)))
  clear ho hi hb HBS
  go_upto_region 4 with fail
  revert A0 HB1
  generalize w1.heap.size = y0
  generalize (w1.alloc _) = W1
  intro A0 HB1
  go_wp2_with fail
  refine (at_any bo m cb 0 13 _ hm' (by omega) (by omega) (by omega) (by omega) ((unhide HCS).below (unhide HB1))).mono ?_
  rintro e w2 ⟨r, rfl, hr0, hr1, hb⟩
  obtain ⟨q, rfl⟩ := Int.eq_ofNat_of_zero_le hr0
  have hq : q ≤ 12 := by omega
  have A02 := hide ((unhide A0).below hb)
  have HB2 := hide (fr (unhide HB1) hb)
  clear hb A0 HB1 hr0 hr1
  obtain ⟨X, HX⟩ : ∃ X, Hid (X = imResize M q) := ⟨_, hide rfl⟩
  have HXR : Hid (ImR X) := hide (by rw [unhide HX]; exact (unhide HM).resize hq)
  obtain ⟨c0, c1, c2, c3⟩ := (unhide A02).v.cells
  go_wp2_with fail
  refine (resizeA a0 M X q _ (unhide HM) hq (unhide HX) (unhide A02).s).mono ?_
  rintro e w3 ⟨a1, ts1, rfl, ho, hb⟩
  have A1 := hide (ImA.new (ho.showsR (unhide HXR)))
  have A03 := hide ((unhide A02).below (fr hb (Joins.below_alloc1 w3 (.cells #[.slice a1.ro X.refs.length a1.rc, .slice a1.tq X.table.length a1.tc, .slice a1.so X.snaps.length a1.sc, .slice a1.dq X.data.length a1.dc] 29))))
  have HB3 := hide (fr (unhide HB2) (fr hb (Joins.below_alloc1 w3 (.cells #[.slice a1.ro X.refs.length a1.rc, .slice a1.tq X.table.length a1.tc, .slice a1.so X.snaps.length a1.sc, .slice a1.dq X.data.length a1.dc] 29))))
  clear ho hb c0 c1 c2 c3 A02 HB2
  go_upto_region 6 with fail
  revert A1 A03 HB3
  generalize w3.heap.size = y1
  generalize (w3.alloc _) = W3
  intro A1 A03 HB3
  obtain ⟨Y, HY⟩ : ∃ Y, Hid (Y = imResize X 12) := ⟨_, hide rfl⟩
  have HYR : Hid (ImR Y) := hide (by rw [unhide HY]; exact (unhide HXR).resize (by omega))
  obtain ⟨c0, c1, c2, c3⟩ := (unhide A1).v.cells
  go_wp2_with fail
  refine (resizeA a1 X Y 12 _ (unhide HXR) (by omega) (unhide HY) (unhide A1).s).mono ?_
  rintro e w4 ⟨a2, ts2, rfl, ho, hb⟩
  have A2 := hide (ImA.new (ho.showsR (unhide HYR)))
  have hb4 := fr hb (Joins.below_alloc1 w4 (.cells #[.slice a2.ro Y.refs.length a2.rc, .slice a2.tq Y.table.length a2.tc, .slice a2.so Y.snaps.length a2.sc, .slice a2.dq Y.data.length a2.dc] 29))
  have A04 := hide ((unhide A03).below hb4)
  have A14 := hide ((unhide A1).below hb4)
  have HB4 := hide (fr (unhide HB3) hb4)
  clear ho hb hb4 c0 c1 c2 c3 A03 A1 HB3
  go_upto_region 7 with fail
  revert A2 A04 A14 HB4
  generalize w4.heap.size = y2
  generalize (w4.alloc _) = W4
  intro A2 A04 A14 HB4
  obtain ⟨c0, c1, c2, c3⟩ := (unhide A04).v.cells
  go_wp2_with fail
  refine (resizeS a0 M X q _ (unhide HM) hq (unhide HX) (unhide A04).s).mono ?_
  rintro e w5 ⟨a3, ts3, rfl, ho, hb⟩
  have A3 := hide (ImA.new (ho.showsR (unhide HXR)))
  have hb5 := fr hb (Joins.below_alloc1 w5 (.cells #[.slice a3.ro X.refs.length a3.rc, .slice a3.tq X.table.length a3.tc, .slice a3.so X.snaps.length a3.sc, .slice a3.dq X.data.length a3.dc] 29))
  have A05 := hide ((unhide A04).below hb5)
  have A15 := hide ((unhide A14).below hb5)
  have A25 := hide ((unhide A2).below hb5)
  have HB5 := hide (fr (unhide HB4) hb5)
  clear ho hb hb5 c0 c1 c2 c3 A04 A14 A2 HB4
  go_upto_region 8 with fail
  revert A3 A05 A15 A25 HB5
  generalize w5.heap.size = y3
  generalize (w5.alloc _) = W5
  intro A3 A05 A15 A25 HB5
  have hxl : (((X.table.length : Nat) : Int) != (q : Int)) = false := by rw [unhide HX, resize_len]; simp
  obtain ⟨c0, c1, c2, c3⟩ := (unhide A15).v.cells
  obtain ⟨d0, d1, d2, d3⟩ := (unhide A3).v.cells
  go_wp2_with fail
  refine (sameA a1 a3 X _ (unhide HXR) (unhide A15).s (unhide A3).s).mono ?_
  rintro e w6 ⟨rfl, hb⟩
  have A06 := hide ((unhide A05).below hb)
  have A16 := hide ((unhide A15).below hb)
  have A26 := hide ((unhide A25).below hb)
  have HB6 := hide (fr (unhide HB5) hb)
  clear hb c0 c1 c2 c3 d0 d1 d2 d3 A05 A15 A25 HB5 A3
  obtain ⟨c0, c1, c2, c3⟩ := (unhide A16).v.cells
  go_wp2_with fail
  refine (okA a1 X _ (unhide HXR) (unhide A16).s).mono ?_
  rintro e w7 ⟨rfl, hb⟩
  have A07 := hide ((unhide A06).below hb)
  have A17 := hide ((unhide A16).below hb)
  have A27 := hide ((unhide A26).below hb)
  have HB7 := hide (fr (unhide HB6) hb)
  clear hb c0 c1 c2 c3 A06 A16 A26 HB6
  obtain ⟨c0, c1, c2, c3⟩ := (unhide A27).v.cells
  go_wp2_with fail
  refine (okA a2 Y _ (unhide HYR) (unhide A27).s).mono ?_
  rintro e w8 ⟨rfl, hb⟩
  have A08 := hide ((unhide A07).below hb)
  have A28 := hide ((unhide A27).below hb)
  have HB8 := hide (fr (unhide HB7) hb)
  have A18 := hide ((unhide A17).below hb)
  clear hb c0 c1 c2 c3 A07 A17 A27 HB7
  obtain ⟨c0, c1, c2, c3⟩ := (unhide A18).v.cells
  have HYL : Hid (Y.table.length = 12) := hide (by rw [unhide HY, resize_len])
  have HAT : Hid (∀ k, k < 12 → imAt Y k = if k < q then (if k < M.table.length then imAt M k else 0) else 0) := hide (fun k hk => by
    have hxl2 : X.table.length = q := by rw [unhide HX, resize_len]
    rw [unhide HY, at_resize (unhide HXR) (by omega) hk, hxl2]
    by_cases hkq : k < q
    · rw [if_pos hkq, if_pos hkq, unhide HX, at_resize (unhide HM) hq hkq]
    · rw [if_neg hkq, if_neg hkq])
  clear HX HXR HY
  go_wp2
  clear c0 c1 c2 c3 A18 hxl
  go_loopw [13] (fun i wr => ∃ k : Nat, k ≤ 12 ∧ i = .int .i64 k ∧ Hid (Below w8.heap.size w8 wr)) (fun i _ => 12 - (intOf i).toNat)
  case atStart => exact ⟨0, by omega, rfl, hide (Below.refl _ _)⟩
  case round =>
    obtain ⟨k, hk, rfl, HW⟩ := hrel
    have A09 := hide ((unhide A08).below (unhide HW))
    have A29 := hide ((unhide A28).below (unhide HW))
    obtain ⟨d0, d1, d2, d3⟩ := (unhide A29).v.cells
    by_cases hlt : k < 12
    · have hlti : (k : Int) < 12 := by omega
      obtain ⟨V, HV⟩ : ∃ V, Hid (imAt Y k = V) := ⟨_, hide rfl⟩
      have HE := hide ((unhide HAT k hlt).symm.trans (unhide HV))
      go_wp2_with fail
      refine (readA a2 Y k V _ (unhide HYR) (by rw [unhide HYL]; exact hlt) (unhide HV) (unhide A29).s).mono ?_
      rintro e w10 ⟨rfl, hb⟩
      have HW2 := hide (fr (unhide HW) hb)
      have A010 := hide ((unhide A09).below hb)
      clear hb d0 d1 d2 d3 A29 A09 HV
      obtain ⟨c0, c1, c2, c3⟩ := (unhide A010).v.cells
      by_cases hkq : k < q
      · have hkqi : (k : Int) < (q : Int) := by omega
        by_cases hkm : k < M.table.length
        · have hkmi : (k : Int) < (M.table.length : Int) := by omega
          have HVM : Hid (imAt M k = V) := hide (by have := unhide HE; rwa [if_pos hkq, if_pos hkm] at this)
          clear HE hkq
          go_wp2_with fail
          refine (readA a0 M k V _ (unhide HM) hkm (unhide HVM) (unhide A010).s).mono ?_
          rintro e w11 ⟨rfl, hb⟩
          have HW3 := hide (fr (unhide HW2) hb)
          clear hb c0 c1 c2 c3 A010
          go_wp2
          go_roundw
          case rel => exact ⟨k + 1, by omega, by go_num, HW3⟩
          case measure => simp [intOf]; omega
        · have hkmi : ¬ (k : Int) < (M.table.length : Int) := by omega
          have e0 : V = 0 := by have := unhide HE; rw [if_pos hkq, if_neg hkm] at this; exact this.symm
          subst e0
          clear HE hkq hkm
          go_wp2
          go_roundw
          case rel => exact ⟨k + 1, by omega, by go_num, HW2⟩
          case measure => simp [intOf]; omega
      · have hkqi : ¬ (k : Int) < (q : Int) := by omega
        have e0 : V = 0 := by have := unhide HE; rw [if_neg hkq] at this; exact this.symm
        subst e0
        clear HE hkq
        go_wp2
        go_roundw
        case rel => exact ⟨k + 1, by omega, by go_num, HW2⟩
        case measure => simp [intOf]; omega
    · obtain rfl : k = 12 := by omega
      clear d0 d1 d2 d3 hlt
      have HB9 := hide (fr (unhide HB8) (unhide HW))
      obtain ⟨g, ⟨hg0, hg1⟩, hat⟩ := at_told bo m cb 1 12 wr hm' (by omega) (by omega) (by omega) (by omega) ((unhide HCS).below (unhide HB9))
      obtain ⟨gn, rfl⟩ := Int.eq_ofNat_of_zero_le hg0
      have HAT1 := hide hat
      have hgY : gn < Y.table.length := by rw [unhide HYL]; omega
      obtain ⟨Z, HZ⟩ : ∃ Z, Hid (Z = imZero Y gn) := ⟨_, hide rfl⟩
      have HZR : Hid (ImR Z) := hide (by rw [unhide HZ]; exact (unhide HYR).zero hgY)
      have HZ0 : Hid (imAt Z gn = 0 ∧ gn < Z.table.length) := hide (by rw [unhide HZ]; exact ⟨at_zero hgY, by rw [zero_len]; exact hgY⟩)
      have HGY := hide hgY
      clear hat hg0 hg1 hgY
      go_upto_region 22 with fail
      go_cut [19, 20] from 119 to 125 (fun c z wx => ∃ (C : Nat) (a5 : Im4), c = .pointer (some ⟨C, 0, none⟩) ∧ z = .int .i64 0 ∧ Hid (ImA wx C a5 Z) ∧ Hid (Below wr.heap.size wr wx))
      case first =>
        have hS0 : VarM wr.drew y2 29 (.slice a2.ro Y.refs.length a2.rc) (.slice a2.tq Y.table.length a2.tc) (.slice a2.so Y.snaps.length a2.sc) (.slice a2.dq Y.data.length a2.dc) := (unhide A29).v.below (Below.refl _ _).drew
        refine wp_region_tree (fun w' => VarM w' y2 29 (.slice a2.ro Y.refs.length a2.rc) (.slice a2.tq Y.table.length a2.tc) (.slice a2.so Y.snaps.length a2.sc) (.slice a2.dq Y.data.length a2.dc)) [0, 1, 2, 7] (by kernel_rfl) ?_
        refine tree_seg (n := 8) [(0, 0), (1, 0)] (by kernel_rfl) rfl (by kernel_rfl) ?_
        refine ord_read (.agg #[.slice a2.ro Y.refs.length a2.rc, .slice a2.tq Y.table.length a2.tc, .slice a2.so Y.snaps.length a2.sc, .slice a2.dq Y.data.length a2.dc]) rfl rfl hS0 (fun W hW => by obtain ⟨k0, k1, k2, k3⟩ := hW.cells; go_simp) ?_
        refine ord_read (.slice bo m cb) rfl rfl hS0 (fun W hW => by go_simp) ?_
        refine ord_end ?_
        have HBD : Hid (Below wr.heap.size wr wr.drew) := hide (Below.refl _ _).drew
        have HSD := hide ((unhide A29).below (unhide HBD))
        clear hS0
        refine tree_two (fuel := 7) (i := 2) (j := 7) rfl rfl rfl rfl (by kernel_rfl) ?ta ?tb
        case ta =>
          intro K hK
          unfold Oper.wp
          go_simp
          refine (unhide HAT1 _ (unhide HBD)).mono ?_
          rintro e w11 ⟨rfl, hb⟩
          have HB11 := hide (fr (unhide HBD) hb)
          have HS11 := hide ((unhide HSD).below hb)
          clear hb
          refine hK _ _ (fun _ => (unhide HS11).v) ?_
          clear hK K
          refine tree_two (fuel := 6) (i := 3) (j := 7) rfl rfl rfl rfl (by kernel_rfl) ?tc ?td
          case tc =>
            intro K hK
            unfold Oper.wp
            go_simp
            refine (zeroA a2 Y Z gn _ (unhide HYR) (unhide HGY) (unhide HZ) (unhide HS11).s).mono ?_
            rintro e w12 ⟨a5, ts5, rfl, ho, hb⟩
            have HO12 := hide ho
            have HB12 := hide (fr (unhide HB11) hb)
            have HS12 := hide ((unhide HS11).below hb)
            clear ho hb
            refine hK _ _ (fun h => absurd h (by decide)) ?_
            clear hK K
            refine tree_seg (n := 0) [(4, 4), (5, 4), (6, 4), (7, 2), (8, 3), (9, 4)] (by kernel_rfl) rfl (by kernel_rfl) ?_
            refine ord_val (.tuple #[imV a5 Z, .int .i64 0]) rfl rfl (fun W => by go_simp) ?_
            refine ord_val (imV a5 Z) rfl rfl (fun W => by go_simp) ?_
            refine ord_val (.int .i64 0) rfl rfl (fun W => by go_simp) ?_
            have hvC := VarM.new w12 29 (.slice none 0 0) (.slice none 0 0) (.slice none 0 0) (.slice none 0 0)
            have HOZ := hide ((unhide HO12).below (Joins.below_alloc1 w12 (.cells #[.slice none 0 0, .slice none 0 0, .slice none 0 0, .slice none 0 0] 29)))
            have HBE := hide (fr (unhide HB12) (Joins.below_alloc1 w12 (.cells #[.slice none 0 0, .slice none 0 0, .slice none 0 0, .slice none 0 0] 29)))
            have HSE := hide ((unhide HS12).v.below (Joins.below_alloc1 w12 (.cells #[.slice none 0 0, .slice none 0 0, .slice none 0 0, .slice none 0 0] 29)))
            have HCL := hide (unhide HB12).size
            refine ord_held rfl rfl ?_
            intro K hK
            unfold Oper.wp
            go_simp
            refine hK _ _ (unhide HSE) ?_
            clear hK K HSE
            revert hvC HOZ HBE HCL
            generalize w12.heap.size = C
            generalize (w12.alloc _) = W13
            intro hvC HOZ HBE HCL
            obtain ⟨z0, z1, z2, z3⟩ := hvC.cells
            obtain ⟨f0, f1, f2, f3⟩ := hvC.free
            have AF := hide (ImA.put hvC (unhide HOZ) (unhide HZR))
            have HBF := hide (belowPut (unhide HBE) (unhide HCL) a5 Z)
            unfold putI at AF HBF
            clear hvC
            refine ord_alone rfl rfl ?_
            intro K hK
            unfold Oper.wp
            go_simp
            refine hK _ _ ?_
            clear hK K z0 z1 z2 z3 f0 f1 f2 f3
            refine ord_val (.int .i64 0) rfl rfl (fun W => by go_simp) ?_
            refine ord_end ?_
            refine tree_done (by kernel_rfl) ?_
            go_wp2_with fail
            go_meet
            exact ⟨C, a5, rfl, rfl, AF, HBF⟩
          case td =>
            intro K hK
            unfold Oper.wp
            go_simp
            have HVC := hide (VarM.new w11 29 (.slice none 0 0) (.slice none 0 0) (.slice none 0 0) (.slice none 0 0))
            have HB12 := hide (fr (unhide HB11) (Joins.below_alloc1 w11 (.cells #[.slice none 0 0, .slice none 0 0, .slice none 0 0, .slice none 0 0] 29)))
            have HS12 := hide ((unhide HS11).below (Joins.below_alloc1 w11 (.cells #[.slice none 0 0, .slice none 0 0, .slice none 0 0, .slice none 0 0] 29)))
            have HCL := hide (unhide HB11).size
            refine hK _ _ (fun _ => (unhide HS12).v) ?_
            clear hK K
            revert HVC HB12 HS12 HCL
            generalize w11.heap.size = C
            generalize (w11.alloc _) = W12
            intro HVC HB12 HS12 HCL
            refine tree_seg (n := 0) [(3, 3), (4, 4), (5, 4), (6, 4), (8, 3), (9, 4)] (by kernel_rfl) rfl (by kernel_rfl) ?_
            refine ord_alone rfl rfl ?_
            intro K hK
            unfold Oper.wp
            go_simp
            refine (zeroA a2 Y Z gn _ (unhide HYR) (unhide HGY) (unhide HZ) (unhide HS12).s).mono ?_
            rintro e w13 ⟨a5, ts5, rfl, ho, hb⟩
            have HOZ := hide ho
            have HBE := hide (fr (unhide HB12) hb)
            have hvC := (unhide HVC).below hb
            clear ho hb
            refine hK _ _ ?_
            clear hK K
            refine ord_val (.tuple #[imV a5 Z, .int .i64 0]) rfl rfl (fun W => by go_simp) ?_
            refine ord_val (imV a5 Z) rfl rfl (fun W => by go_simp) ?_
            refine ord_val (.int .i64 0) rfl rfl (fun W => by go_simp) ?_
            obtain ⟨z0, z1, z2, z3⟩ := hvC.cells
            obtain ⟨f0, f1, f2, f3⟩ := hvC.free
            have AF := hide (ImA.put hvC (unhide HOZ) (unhide HZR))
            have HBF := hide (belowPut (unhide HBE) (unhide HCL) a5 Z)
            unfold putI at AF HBF
            clear hvC
            refine ord_alone rfl rfl ?_
            intro K hK
            unfold Oper.wp
            go_simp
            refine hK _ _ ?_
            clear hK K z0 z1 z2 z3 f0 f1 f2 f3
            refine ord_val (.int .i64 0) rfl rfl (fun W => by go_simp) ?_
            refine ord_end ?_
            refine tree_done (by kernel_rfl) ?_
            go_wp2_with fail
            go_meet
            exact ⟨C, a5, rfl, rfl, AF, HBF⟩
        case tb =>
          intro K hK
          unfold Oper.wp
          go_simp
          have HVC := hide ((VarM.new wr 29 (.slice none 0 0) (.slice none 0 0) (.slice none 0 0) (.slice none 0 0)).below (Below.refl _ _).drew)
          have HB11 := hide (Joins.below_alloc1 wr (.cells #[.slice none 0 0, .slice none 0 0, .slice none 0 0, .slice none 0 0] 29)).drew
          have HS11 := hide ((unhide A29).below (Joins.below_alloc1 wr (.cells #[.slice none 0 0, .slice none 0 0, .slice none 0 0, .slice none 0 0] 29)).drew)
          have HCL : Hid (wr.heap.size ≤ wr.heap.size) := hide (Nat.le_refl _)
          refine hK _ _ (fun _ => (unhide HS11).v) ?_
          clear hK K
          revert HVC HB11 HS11
          generalize (wr.alloc _).drew = W11
          intro HVC HB11 HS11
          refine tree_seg (n := 0) [(2, 2), (3, 3), (4, 4), (5, 4), (6, 4), (8, 3), (9, 4)] (by kernel_rfl) rfl (by kernel_rfl) ?_
          refine ord_held rfl rfl ?_
          intro K hK
          unfold Oper.wp
          go_simp
          refine (unhide HAT1 _ (unhide HB11)).mono ?_
          rintro e w12 ⟨rfl, hb⟩
          have HB12 := hide (fr (unhide HB11) hb)
          have HS12 := hide ((unhide HS11).below hb)
          have HVC2 := hide ((unhide HVC).below hb)
          clear hb
          refine hK _ _ (unhide HS12).v ?_
          clear hK K
          refine ord_alone rfl rfl ?_
          intro K hK
          unfold Oper.wp
          go_simp
          refine (zeroA a2 Y Z gn _ (unhide HYR) (unhide HGY) (unhide HZ) (unhide HS12).s).mono ?_
          rintro e w13 ⟨a5, ts5, rfl, ho, hb⟩
          have HOZ := hide ho
          have HBE := hide (fr (unhide HB12) hb)
          have hvC := (unhide HVC2).below hb
          clear ho hb
          refine hK _ _ ?_
          clear hK K
          refine ord_val (.tuple #[imV a5 Z, .int .i64 0]) rfl rfl (fun W => by go_simp) ?_
          refine ord_val (imV a5 Z) rfl rfl (fun W => by go_simp) ?_
          refine ord_val (.int .i64 0) rfl rfl (fun W => by go_simp) ?_
          obtain ⟨z0, z1, z2, z3⟩ := hvC.cells
          obtain ⟨f0, f1, f2, f3⟩ := hvC.free
          have AF := hide (ImA.put hvC (unhide HOZ) (unhide HZR))
          have HBF := hide (belowPut (unhide HBE) (unhide HCL) a5 Z)
          unfold putI at AF HBF
          clear hvC
          refine ord_alone rfl rfl ?_
          intro K hK
          unfold Oper.wp
          go_simp
          refine hK _ _ ?_
          clear hK K z0 z1 z2 z3 f0 f1 f2 f3
          refine ord_val (.int .i64 0) rfl rfl (fun W => by go_simp) ?_
          refine ord_end ?_
          refine tree_done (by kernel_rfl) ?_
          go_wp2_with fail
          go_meet
          exact ⟨_, a5, rfl, rfl, AF, HBF⟩

      case rest =>
        obtain ⟨C, a5, rfl, rfl, A5, HW10⟩ := hcut
        rename World => W10
        have HB10 := hide (fr (unhide HB9) (unhide HW10))
        clear A29 A09 A08 A28 HAT HYL
        go_upto_region 23 with fail
        have hS0 : VarM W10.drew C 29 (.slice a5.ro Z.refs.length a5.rc) (.slice a5.tq Z.table.length a5.tc) (.slice a5.so Z.snaps.length a5.sc) (.slice a5.dq Z.data.length a5.dc) := (unhide A5).v.below (Below.refl _ _).drew
        refine wp_region_ord (fun w' => VarM w' C 29 (.slice a5.ro Z.refs.length a5.rc) (.slice a5.tq Z.table.length a5.tc) (.slice a5.so Z.snaps.length a5.sc) (.slice a5.dq Z.data.length a5.dc)) [0, 1, 2] [(0, 0), (1, 0), (2, 2), (3, 3), (4, 4), (5, 4), (6, 4), (7, 4), (8, 4)] (by kernel_rfl) (by kernel_rfl) rfl (by kernel_rfl) ?_
        refine ord_read (.agg #[.slice a5.ro Z.refs.length a5.rc, .slice a5.tq Z.table.length a5.tc, .slice a5.so Z.snaps.length a5.sc, .slice a5.dq Z.data.length a5.dc]) rfl rfl hS0 (fun W hW => by obtain ⟨k0, k1, k2, k3⟩ := hW.cells; go_simp) ?_
        refine ord_read (.slice bo m cb) rfl rfl hS0 (fun W hW => by go_simp) ?_
        clear hS0
        refine ord_held rfl rfl ?_
        intro K hK
        unfold Oper.wp
        go_simp
        refine (unhide HAT1 _ (unhide HW10).drew).mono ?_
        rintro e w11 ⟨rfl, hb⟩
        have A51 := hide (((unhide A5).below (Below.refl _ _).drew).below hb)
        have HB11 := hide (fr (unhide HB10).drew hb)
        clear hb A5
        refine hK _ _ (unhide A51).v ?_
        clear hK K
        refine ord_alone rfl rfl ?_
        intro K hK
        unfold Oper.wp
        go_simp
        refine (readA a5 Z gn 0 _ (unhide HZR) (unhide HZ0).2 (unhide HZ0).1 (unhide A51).s).mono ?_
        rintro e w12 ⟨rfl, hb⟩
        have A52 := hide ((unhide A51).below hb)
        have HB12 := hide (fr (unhide HB11) hb)
        clear hb A51 HB11
        refine hK _ _ ?_
        clear hK K
        refine ord_val (.tuple #[.int .i64 0, .int .i64 0]) rfl rfl (fun W => by go_simp) ?_
        refine ord_val (.int .i64 0) rfl rfl (fun W => by go_simp) ?_
        refine ord_val (.int .i64 0) rfl rfl (fun W => by go_simp) ?_
        refine ord_val (.int .i64 0) rfl rfl (fun W => by go_simp) ?_
        refine ord_val (.int .i64 0) rfl rfl (fun W => by go_simp) ?_
        refine ord_done ?_
        obtain ⟨F, HF⟩ : ∃ F, Hid (F = imNew q) := ⟨_, hide rfl⟩
        have HFR : Hid (ImR F) := hide (by rw [unhide HF]; exact ImR.new hq)
        have hfl : (((F.table.length : Nat) : Int) == (q : Int)) = true := by rw [unhide HF]; simp [imNew]
        go_wp2_with fail
        refine (newA q F _ hq (unhide HF)).mono ?_
        rintro e w13 ⟨a6, ts6, rfl, ho, hb⟩
        have A6 := hide (ImA.new (ho.showsR (unhide HFR)))
        have hb13 := fr hb (Joins.below_alloc1 w13 (.cells #[.slice a6.ro F.refs.length a6.rc, .slice a6.tq F.table.length a6.tc, .slice a6.so F.snaps.length a6.sc, .slice a6.dq F.data.length a6.dc] 29))
        have A53 := hide ((unhide A52).below hb13)
        have HB13 := hide (fr (unhide HB12) hb13)
        clear ho hb hb13 A52 HB12
        go_upto_region 25 with fail
        revert A6 A53 HB13
        generalize w13.heap.size = y6
        generalize (w13.alloc _) = W13
        intro A6 A53 HB13
        obtain ⟨c0, c1, c2, c3⟩ := (unhide A53).v.cells
        go_wp2_with fail
        refine (okA a5 Z _ (unhide HZR) (unhide A53).s).mono ?_
        rintro e w14 ⟨rfl, hb⟩
        have A64 := hide ((unhide A6).below hb)
        have HB14 := hide (fr (unhide HB13) hb)
        clear hb c0 c1 c2 c3 A53 A6
        obtain ⟨c0, c1, c2, c3⟩ := (unhide A64).v.cells
        go_wp2_with fail
        refine (okA a6 F _ (unhide HFR) (unhide A64).s).mono ?_
        rintro e w15 ⟨rfl, hb⟩
        have HB15 := hide (fr (unhide HB14) hb)
        clear hb c0 c1 c2 c3
        go_wp2
        go_ret
        exact ⟨rfl, unhide HB15⟩

end Go.Proofs.Ytjoafbkcnnhdiac
