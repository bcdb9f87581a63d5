import Derived.Test.YtpdpnepnfhbonaaRows
import Derived.Test.YtpdpnepnfhbonaaLNamesPart1
import Derived.Test.YtpdpnepnfhbonaaLNamesPart2
import Derived.Test.YtpdpnepnfhbonaaLNamesPart10
import Derived.WalkKit
import Derived.WalkSpells
import Derived.KernelRfl
import Derived.LoopN
import Derived.Test.YtpdpnepnfhbonaaLNamesPart9
import Derived.Test.YtpdpnepnfhbonaaLNamesPart12
import Derived.Test.YtpdpnepnfhbonaaLNamesPart7
import Derived.Lib.ConvBytes

namespace Go.Proofs.Ytpdpnepnfhbonaa
open Go.RowKit
set_option linter.unusedVariables false
set_option maxRecDepth 100000

def nmK (t : ByteArray) (k : Nat) : Int := (t.data.toList.take k).foldl ch1 0
theorem nmK_succ {t : ByteArray} {k : Nat} (hk : k < t.size) : nmK t (k + 1) = ch1 (nmK t k) t.data.toList[k] := by
  unfold nmK
  rw [List.take_succ_eq_append_getElem (by simpa using hk), List.foldl_append]; rfl
theorem nmK_all (t : ByteArray) : nmK t t.size = nmN t := by
  unfold nmK nmN
  rw [List.take_of_length_le (by simp)]
theorem ch1_le {n : Int} {b : UInt8} (h0 : 0 ≤ n) : 0 ≤ ch1 n b ∧ ch1 n b ≤ 27 * n + 256 := by
  unfold ch1
  have h1 := Int.emod_nonneg ((b.toNat : Int) - 97) (show (256 : Int) ≠ 0 by decide)
  have h2 := Int.emod_lt_of_pos ((b.toNat : Int) - 97) (show (0 : Int) < 256 by decide)
  omega
theorem tl_lt {t : ByteArray} {k : Nat} (h : k + 1 ≤ t.size) : k < t.data.toList.length := by
  have : t.data.toList.length = t.size := by simp
  omega
def bd27 : Nat → Int
  | 0 => 0
  | k + 1 => 27 * bd27 k + 256
theorem nmK_le (t : ByteArray) : ∀ k, k ≤ t.size → 0 ≤ nmK t k ∧ nmK t k ≤ bd27 k
  | 0, _ => by simp [nmK, bd27]
  | k + 1, h => by
    have h1 := nmK_le t k (by omega)
    rw [nmK_succ (by omega)]
    have h2 := ch1_le (n := nmK t k) (b := t.data.toList[k]'(tl_lt h)) h1.1
    refine ⟨h2.1, Int.le_trans h2.2 ?_⟩
    rw [bd27]
    omega

theorem bd27_le : ∀ k, k ≤ 8 → 0 ≤ bd27 k ∧ bd27 k ≤ 10000000000000 := by
  intro k hk
  rcases (show k = 0 ∨ k = 1 ∨ k = 2 ∨ k = 3 ∨ k = 4 ∨ k = 5 ∨ k = 6 ∨ k = 7 ∨ k = 8 by omega) with rfl | rfl | rfl | rfl | rfl | rfl | rfl | rfl | rfl <;> decide

set_option maxHeartbeats 800000 in
theorem l11Name_any (t : ByteArray) (w : World) (hz : t.size ≤ 8) :
    Calls Try.prog 44 #[.string t] w fun e w' => e = .returned (.int .i64 (nmN t)) ∧ w' = w := by
  go_enter Try.func44, Try.ntmps44
  go_wp2
  go_loop [3, 4] (fun n i => ∃ k : Nat, k ≤ t.size ∧ i = .int .i64 k ∧ n = .int .i64 (nmK t k)) (fun _ i => t.size - (intOf i).toNat)
  case atStart => exact ⟨0, Nat.zero_le _, rfl, rfl⟩
  case round =>
    obtain ⟨k, hk, rfl, rfl⟩ := hrel
    by_cases hlt : k < t.size
    · have hlti : (k : Int) < (t.size : Int) := by omega
      have HS : Hid (nmK t (k + 1) = 27 * nmK t k + ((t[k].toNat : Int) - 97) % 256 + 1) := hide (by
        rw [nmK_succ hlt]
        have e : t.data.toList[k]'(by simpa using hlt) = t[k] := by have := snm_get hlt; rw [List.getElem?_eq_getElem (by simpa using hlt)] at this; exact Option.some.inj this
        rw [e]; rfl)
      obtain ⟨b0, b1⟩ := nmK_le t k hk
      obtain ⟨d0, d1⟩ := bd27_le k (by omega)
      have h1 := Int.emod_nonneg ((t[k].toNat : Int) - 97) (show (256 : Int) ≠ 0 by decide)
      have h2 := Int.emod_lt_of_pos ((t[k].toNat : Int) - 97) (show (0 : Int) < 256 by decide)
      have hu : IntKind.u8.wrap ((t[k].toNat : Int) - 97) = ((t[k].toNat : Int) - 97) % 256 := by simp [IntKind.wrap, IntKind.bits, IntKind.signed]
      generalize nmK t k = X at *
      generalize ((t[k].toNat : Int) - 97) % 256 = D at *
      have w1 : IntKind.i64.wrap (27 * X) = 27 * X := by rw [IntKind.wrap_i64]; omega
      have w2 : IntKind.i64.wrap D = D := by rw [IntKind.wrap_i64]; omega
      have w3 : IntKind.i64.wrap (27 * X + D) = 27 * X + D := by rw [IntKind.wrap_i64]; omega
      have w4 : IntKind.i64.wrap (27 * X + D + 1) = 27 * X + D + 1 := by rw [IntKind.wrap_i64]; omega
      go_wp2
      go_round
      case rel => exact ⟨k + 1, by omega, by go_num, by rw [unhide HS]⟩
      case measure => simp [intOf]; omega
    · obtain rfl : k = t.size := by omega
      have HF := hide (nmK_all t)
      go_wp2
      go_ret
      exact ⟨ret_int (unhide HF), rfl⟩

set_option maxHeartbeats 800000 in
theorem packName_spec (t : ByteArray) (w : World) (hz : t.size ≤ maxLen) :
    Calls Try.prog 16 #[.string t] w fun e w' => e = .returned (.tuple #[.int .i64 (pnN t), .int .i64 (pnF t)]) ∧ w' = w := by
  have HZ := hide hz
  unfold maxLen at hz
  by_cases hl : 65536 < t.size
  · have HF : Hid (pnF t = 2 ∧ pnN t = 0) := hide (by have e : pnF t = 2 := if_pos hl; exact ⟨e, by rw [pnN, e]; rfl⟩)
    go_enter Try.func16, Try.ntmps16
    go_wp2
    go_ret2
    rw [(unhide HF).1, (unhide HF).2]
    exact ⟨rfl, rfl⟩
  go_enter Try.func16, Try.ntmps16
  go_wp2_with fail
  refine (l10Name_any t _ (unhide HZ)).mono ?_
  rintro e w' ⟨rfl, hw⟩
  replace hw := hw.symm
  subst hw
  cases hn : snmB t
  · have HF : Hid (pnF t = 12 ∧ pnN t = 0) := hide (by have e : pnF t = 12 := by rw [pnF, if_neg hl, hn]; rfl
                                                       exact ⟨e, by rw [pnN, e]; rfl⟩)
    go_wp2
    go_ret2
    rw [(unhide HF).1, (unhide HF).2]
    exact ⟨rfl, rfl⟩
  · have HF : Hid (pnF t = 0 ∧ pnN t = nmN t) := hide (by have e : pnF t = 0 := by rw [pnF, if_neg hl, hn]; rfl
                                                          exact ⟨e, by rw [pnN, e]; rfl⟩)
    have HT := hide (snm_parts hn).2.2
    clear hn
    go_wp2_with fail
    refine (l11Name_any t _ (by have := unhide HT; omega)).mono ?_
    rintro e w' ⟨rfl, hw⟩
    replace hw := hw.symm
    subst hw
    go_wp2
    go_ret2
    rw [(unhide HF).1, (unhide HF).2]
    exact ⟨rfl, rfl⟩

end Go.Proofs.Ytpdpnepnfhbonaa

namespace Go.Proofs.Ytpdpnepnfhbonaa
open Go.RowKit
set_option linter.unusedVariables false
set_option maxRecDepth 100000

theorem snapCreateA (a : Im4) (m X : Img) (c : Int) (name : ByteArray) (W : World) (h : ImR m) (hz : name.size ≤ 65536) (hX : imCreate m name = (X, c)) (hs : ImS W a m) :
    Calls Try.prog 7 #[imV a m, .string name] W fun e w' => AnsI W w' e (X, c) := by
  have := snapCreate_impl a m name W hz h.L hs
  unfold scA at this
  rw [if_pos (imB_iff.2 h), hX] at this
  exact this
theorem snapCreateS (a : Im4) (m X : Img) (c : Int) (name : ByteArray) (W : World) (h : ImR m) (hz : name.size ≤ 65536) (hX : imCreate m name = (X, c)) (hs : ImS W a m) :
    Calls Try.prog 8 #[imV a m, .string name] W fun e w' => AnsI W w' e (X, c) := by
  have := snapCreate_spec a m name W hz h.L hs
  rw [if_pos (imB_iff.2 h), hX] at this
  exact this
theorem snapDeleteA (a : Im4) (m X : Img) (c : Int) (name : ByteArray) (W : World) (h : ImR m) (hz : name.size ≤ 65536) (hX : imDelete m name = (X, c)) (hs : ImS W a m) :
    Calls Try.prog 9 #[imV a m, .string name] W fun e w' => AnsI W w' e (X, c) := by
  have := snapDelete_impl a m name W hz h.L hs
  unfold sdA at this
  rw [if_pos (imB_iff.2 h), hX] at this
  exact this
theorem snapDeleteS (a : Im4) (m X : Img) (c : Int) (name : ByteArray) (W : World) (h : ImR m) (hz : name.size ≤ 65536) (hX : imDelete m name = (X, c)) (hs : ImS W a m) :
    Calls Try.prog 10 #[imV a m, .string name] W fun e w' => AnsI W w' e (X, c) := by
  have := snapDelete_spec a m name W hz h.L hs
  rw [if_pos (imB_iff.2 h), hX] at this
  exact this
theorem snapRevertA (a : Im4) (m X : Img) (c : Int) (name : ByteArray) (W : World) (h : ImR m) (hz : name.size ≤ 65536) (hX : imRevert m name = (X, c)) (hs : ImS W a m) :
    Calls Try.prog 11 #[imV a m, .string name] W fun e w' => AnsI W w' e (X, c) := by
  have := snapRevert_impl a m name W hz h.L hs
  unfold srA at this
  rw [if_pos (imB_iff.2 h), hX] at this
  exact this
theorem snapRevertS (a : Im4) (m X : Img) (c : Int) (name : ByteArray) (W : World) (h : ImR m) (hz : name.size ≤ 65536) (hX : imRevert m name = (X, c)) (hs : ImS W a m) :
    Calls Try.prog 12 #[imV a m, .string name] W fun e w' => AnsI W w' e (X, c) := by
  have := snapRevert_spec a m name W hz h.L hs
  rw [if_pos (imB_iff.2 h), hX] at this
  exact this

set_option maxHeartbeats 6400000 in
theorem lawNames (hpk : ∀ (t : ByteArray) (W : World), t.size ≤ 6 → Calls Try.prog 15 #[.string t] W fun e w' => e = .returned (.tuple #[.int .i64 (pnN t), .int .i64 (pnF t)]) ∧ Below W.heap.size W w')
    (ao : Option Addr) (ca n : Nat) (bo : Option Addr) (cb m : Nat) (w : World) (hn : n ≤ maxLen) (hB : Bs w ao n) (hm : m ≤ maxLen) (hC : Bs w bo m) :
    Calls Try.prog 3 #[.slice ao n ca, .slice bo m cb] w fun e w' => e = .returned (.bool true) ∧ Below w.heap.size w w' := by
  have HBS := hide hB
  have HCS := hide hC
  have HPK := hide hpk
  clear hB hC hpk
  unfold maxLen at hn hm
  by_cases h : 1048576 < n
  · go_enter Try.func3, Try.ntmps3
    go_wp2
    go_ret
    exact ⟨rfl, Below.refl _ _⟩
  by_cases h' : 1048576 < m
  · go_enter Try.func3, Try.ntmps3
    go_wp2
    go_ret
    exact ⟨rfl, Below.refl _ _⟩
  have hn' : n ≤ 1048576 := by omega
  have hm' : m ≤ 1048576 := by omega
  go_enter Try.func3, Try.ntmps3
  go_wp2_with fail
  refine (imageOf_any ao n ca _ hn' (unhide HBS)).mono ?_
  rintro e w1 ⟨a0, M, ts0, rfl, ho, hi, hb⟩
  have HM := hide hi
  have A0 := hide (ImA.new (ho.showsR hi))
  have HB := hide (fr hb (Joins.below_alloc1 w1 (.cells #[.slice a0.ro M.refs.length a0.rc, .slice a0.tq M.table.length a0.tc, .slice a0.so M.snaps.length a0.sc, .slice a0.dq M.data.length a0.dc] 26)))
  clear ho hi hb HBS
  go_upto_region 4 with fail
  revert A0
  revert HB
  generalize w1.heap.size = y0
  generalize (w1.alloc _) = W1
  intro HB A0
  go_wp2_with fail
  refine (snapNameOf_any bo m cb _ hm' ((unhide HCS).below (unhide HB))).mono ?_
  rintro e w2 ⟨name, rfl, hnm, hb⟩
  replace A0 := hide ((unhide A0).below hb)
  replace HB := hide (fr (unhide HB) hb)
  have HNM := hide hnm
  have HNZ : Hid (name.size ≤ 65536) := hide (by have := (snm_parts hnm).2.2; omega)
  obtain ⟨X, Y, Z, A, C, eX, eY, eZ, rX, rY, rZ, hcase⟩ := snaps_told (unhide HM) hnm
  have HX := hide (And.intro eX rX)
  have HY := hide (And.intro eY rY)
  have HZ := hide (And.intro eZ rZ)
  have HCASE := hide hcase
  clear hb hnm eX eY eZ rX rY rZ hcase
  obtain ⟨c0, c1, c2, c3⟩ := (unhide A0).v.cells
  go_wp2_with fail
  refine (snapCreateA a0 M X A name _ (unhide HM) (unhide HNZ) (unhide HX).1 (unhide A0).s).mono ?_
  rintro e v1 ⟨a1, ts1, rfl, ho, hb⟩
  have A1 := hide (ImA.new (ho.showsR (unhide HX).2))
  have hb1 := fr hb (Joins.below_alloc1 v1 (.cells #[.slice a1.ro X.refs.length a1.rc, .slice a1.tq X.table.length a1.tc, .slice a1.so X.snaps.length a1.sc, .slice a1.dq X.data.length a1.dc] 26))
  replace A0 := hide ((unhide A0).below hb1)
  replace HB := hide (fr (unhide HB) hb1)
  clear ho hb hb1 c0 c1 c2 c3
  go_upto_region 6 with fail
  revert A0
  revert A1
  revert HB
  generalize v1.heap.size = y1
  generalize (v1.alloc _) = V1
  intro HB A1 A0
  obtain ⟨c0, c1, c2, c3⟩ := (unhide A0).v.cells
  go_wp2_with fail
  refine (snapCreateS a0 M X A name _ (unhide HM) (unhide HNZ) (unhide HX).1 (unhide A0).s).mono ?_
  rintro e v2 ⟨a2, ts2, rfl, ho, hb⟩
  have A2 := hide (ImA.new (ho.showsR (unhide HX).2))
  have hb2 := fr hb (Joins.below_alloc1 v2 (.cells #[.slice a2.ro X.refs.length a2.rc, .slice a2.tq X.table.length a2.tc, .slice a2.so X.snaps.length a2.sc, .slice a2.dq X.data.length a2.dc] 26))
  replace A0 := hide ((unhide A0).below hb2)
  replace A1 := hide ((unhide A1).below hb2)
  replace HB := hide (fr (unhide HB) hb2)
  clear ho hb hb2 c0 c1 c2 c3
  go_upto_region 7 with fail
  revert A0
  revert A1
  revert A2
  revert HB
  generalize v2.heap.size = y2
  generalize (v2.alloc _) = V2
  intro HB A2 A1 A0
  obtain ⟨c0, c1, c2, c3⟩ := (unhide A0).v.cells
  go_wp2_with fail
  refine (snapDeleteA a0 M Y C name _ (unhide HM) (unhide HNZ) (unhide HY).1 (unhide A0).s).mono ?_
  rintro e v3 ⟨a3, ts3, rfl, ho, hb⟩
  have A3 := hide (ImA.new (ho.showsR (unhide HY).2))
  have hb3 := fr hb (Joins.below_alloc1 v3 (.cells #[.slice a3.ro Y.refs.length a3.rc, .slice a3.tq Y.table.length a3.tc, .slice a3.so Y.snaps.length a3.sc, .slice a3.dq Y.data.length a3.dc] 26))
  replace A0 := hide ((unhide A0).below hb3)
  replace A1 := hide ((unhide A1).below hb3)
  replace A2 := hide ((unhide A2).below hb3)
  replace HB := hide (fr (unhide HB) hb3)
  clear ho hb hb3 c0 c1 c2 c3
  go_upto_region 8 with fail
  revert A0
  revert A1
  revert A2
  revert A3
  revert HB
  generalize v3.heap.size = y3
  generalize (v3.alloc _) = V3
  intro HB A3 A2 A1 A0
  obtain ⟨c0, c1, c2, c3⟩ := (unhide A0).v.cells
  go_wp2_with fail
  refine (snapDeleteS a0 M Y C name _ (unhide HM) (unhide HNZ) (unhide HY).1 (unhide A0).s).mono ?_
  rintro e v4 ⟨a4, ts4, rfl, ho, hb⟩
  have A4 := hide (ImA.new (ho.showsR (unhide HY).2))
  have hb4 := fr hb (Joins.below_alloc1 v4 (.cells #[.slice a4.ro Y.refs.length a4.rc, .slice a4.tq Y.table.length a4.tc, .slice a4.so Y.snaps.length a4.sc, .slice a4.dq Y.data.length a4.dc] 26))
  replace A0 := hide ((unhide A0).below hb4)
  replace A1 := hide ((unhide A1).below hb4)
  replace A2 := hide ((unhide A2).below hb4)
  replace A3 := hide ((unhide A3).below hb4)
  replace HB := hide (fr (unhide HB) hb4)
  clear ho hb hb4 c0 c1 c2 c3
  go_upto_region 9 with fail
  revert A0
  revert A1
  revert A2
  revert A3
  revert A4
  revert HB
  generalize v4.heap.size = y4
  generalize (v4.alloc _) = V4
  intro HB A4 A3 A2 A1 A0
  obtain ⟨c0, c1, c2, c3⟩ := (unhide A0).v.cells
  go_wp2_with fail
  refine (snapRevertA a0 M Z C name _ (unhide HM) (unhide HNZ) (unhide HZ).1 (unhide A0).s).mono ?_
  rintro e v5 ⟨a5, ts5, rfl, ho, hb⟩
  have A5 := hide (ImA.new (ho.showsR (unhide HZ).2))
  have hb5 := fr hb (Joins.below_alloc1 v5 (.cells #[.slice a5.ro Z.refs.length a5.rc, .slice a5.tq Z.table.length a5.tc, .slice a5.so Z.snaps.length a5.sc, .slice a5.dq Z.data.length a5.dc] 26))
  replace A0 := hide ((unhide A0).below hb5)
  replace A1 := hide ((unhide A1).below hb5)
  replace A2 := hide ((unhide A2).below hb5)
  replace A3 := hide ((unhide A3).below hb5)
  replace A4 := hide ((unhide A4).below hb5)
  replace HB := hide (fr (unhide HB) hb5)
  clear ho hb hb5 c0 c1 c2 c3
  go_upto_region 10 with fail
  revert A0
  revert A1
  revert A2
  revert A3
  revert A4
  revert A5
  revert HB
  generalize v5.heap.size = y5
  generalize (v5.alloc _) = V5
  intro HB A5 A4 A3 A2 A1 A0
  obtain ⟨c0, c1, c2, c3⟩ := (unhide A0).v.cells
  go_wp2_with fail
  refine (snapRevertS a0 M Z C name _ (unhide HM) (unhide HNZ) (unhide HZ).1 (unhide A0).s).mono ?_
  rintro e v6 ⟨a6, ts6, rfl, ho, hb⟩
  have A6 := hide (ImA.new (ho.showsR (unhide HZ).2))
  have hb6 := fr hb (Joins.below_alloc1 v6 (.cells #[.slice a6.ro Z.refs.length a6.rc, .slice a6.tq Z.table.length a6.tc, .slice a6.so Z.snaps.length a6.sc, .slice a6.dq Z.data.length a6.dc] 26))
  replace A0 := hide ((unhide A0).below hb6)
  replace A1 := hide ((unhide A1).below hb6)
  replace A2 := hide ((unhide A2).below hb6)
  replace A3 := hide ((unhide A3).below hb6)
  replace A4 := hide ((unhide A4).below hb6)
  replace A5 := hide ((unhide A5).below hb6)
  replace HB := hide (fr (unhide HB) hb6)
  clear ho hb hb6 c0 c1 c2 c3
  go_upto_region 11 with fail
  revert A0
  revert A1
  revert A2
  revert A3
  revert A4
  revert A5
  revert A6
  revert HB
  generalize v6.heap.size = y6
  generalize (v6.alloc _) = V6
  intro HB A6 A5 A4 A3 A2 A1 A0
  obtain ⟨c0, c1, c2, c3⟩ := (unhide A1).v.cells
  obtain ⟨d0, d1, d2, d3⟩ := (unhide A2).v.cells
  go_wp2_with fail
  refine (sameA a1 a2 X _ (unhide HX).2 (unhide A1).s (unhide A2).s).mono ?_
  rintro e u1 ⟨rfl, hb⟩
  replace A0 := hide ((unhide A0).below hb)
  replace A1 := hide ((unhide A1).below hb)
  replace A2 := hide ((unhide A2).below hb)
  replace A3 := hide ((unhide A3).below hb)
  replace A4 := hide ((unhide A4).below hb)
  replace A5 := hide ((unhide A5).below hb)
  replace A6 := hide ((unhide A6).below hb)
  replace HB := hide (fr (unhide HB) hb)
  clear hb c0 c1 c2 c3 d0 d1 d2 d3
  obtain ⟨c0, c1, c2, c3⟩ := (unhide A3).v.cells
  obtain ⟨d0, d1, d2, d3⟩ := (unhide A4).v.cells
  go_wp2_with fail
  refine (sameA a3 a4 Y _ (unhide HY).2 (unhide A3).s (unhide A4).s).mono ?_
  rintro e u2 ⟨rfl, hb⟩
  replace A0 := hide ((unhide A0).below hb)
  replace A1 := hide ((unhide A1).below hb)
  replace A2 := hide ((unhide A2).below hb)
  replace A3 := hide ((unhide A3).below hb)
  replace A4 := hide ((unhide A4).below hb)
  replace A5 := hide ((unhide A5).below hb)
  replace A6 := hide ((unhide A6).below hb)
  replace HB := hide (fr (unhide HB) hb)
  clear hb c0 c1 c2 c3 d0 d1 d2 d3
  obtain ⟨c0, c1, c2, c3⟩ := (unhide A5).v.cells
  obtain ⟨d0, d1, d2, d3⟩ := (unhide A6).v.cells
  go_wp2_with fail
  refine (sameA a5 a6 Z _ (unhide HZ).2 (unhide A5).s (unhide A6).s).mono ?_
  rintro e u3 ⟨rfl, hb⟩
  replace A0 := hide ((unhide A0).below hb)
  replace A1 := hide ((unhide A1).below hb)
  replace A2 := hide ((unhide A2).below hb)
  replace A3 := hide ((unhide A3).below hb)
  replace A4 := hide ((unhide A4).below hb)
  replace A5 := hide ((unhide A5).below hb)
  replace A6 := hide ((unhide A6).below hb)
  replace HB := hide (fr (unhide HB) hb)
  clear hb c0 c1 c2 c3 d0 d1 d2 d3
  obtain ⟨c0, c1, c2, c3⟩ := (unhide A1).v.cells
  go_wp2_with fail
  refine (okA a1 X _ (unhide HX).2 (unhide A1).s).mono ?_
  rintro e u4 ⟨rfl, hb⟩
  replace A0 := hide ((unhide A0).below hb)
  replace A1 := hide ((unhide A1).below hb)
  replace A2 := hide ((unhide A2).below hb)
  replace A3 := hide ((unhide A3).below hb)
  replace A4 := hide ((unhide A4).below hb)
  replace A5 := hide ((unhide A5).below hb)
  replace A6 := hide ((unhide A6).below hb)
  replace HB := hide (fr (unhide HB) hb)
  clear hb c0 c1 c2 c3
  obtain ⟨c0, c1, c2, c3⟩ := (unhide A3).v.cells
  go_wp2_with fail
  refine (okA a3 Y _ (unhide HY).2 (unhide A3).s).mono ?_
  rintro e u5 ⟨rfl, hb⟩
  replace A0 := hide ((unhide A0).below hb)
  replace A1 := hide ((unhide A1).below hb)
  replace A2 := hide ((unhide A2).below hb)
  replace A3 := hide ((unhide A3).below hb)
  replace A4 := hide ((unhide A4).below hb)
  replace A5 := hide ((unhide A5).below hb)
  replace A6 := hide ((unhide A6).below hb)
  replace HB := hide (fr (unhide HB) hb)
  clear hb c0 c1 c2 c3
  obtain ⟨c0, c1, c2, c3⟩ := (unhide A5).v.cells
  go_wp2_with fail
  refine (okA a5 Z _ (unhide HZ).2 (unhide A5).s).mono ?_
  rintro e u6 ⟨rfl, hb⟩
  replace A0 := hide ((unhide A0).below hb)
  replace A1 := hide ((unhide A1).below hb)
  replace A2 := hide ((unhide A2).below hb)
  replace A3 := hide ((unhide A3).below hb)
  replace A4 := hide ((unhide A4).below hb)
  replace A5 := hide ((unhide A5).below hb)
  replace A6 := hide ((unhide A6).below hb)
  replace HB := hide (fr (unhide HB) hb)
  clear hb c0 c1 c2 c3
  rcases unhide HCASE with ⟨rfl, rfl, V, eV, rV, lV⟩ | ⟨rfl, hA⟩
  · have HV := hide (And.intro eV rV)
    have hvl : ((V.snaps.length : Int) == (M.snaps.length : Int)) = true := by rw [lV]; simp
    clear eV rV lV
    obtain ⟨c0, c1, c2, c3⟩ := (unhide A3).v.cells
    go_wp2_with fail
    refine (snapCreateA a3 Y V 0 name _ (unhide HY).2 (unhide HNZ) (unhide HV).1 (unhide A3).s).mono ?_
    rintro e v7 ⟨a7, ts7, rfl, ho, hb⟩
    have A7 := hide (ImA.new (ho.showsR (unhide HV).2))
    have hb7 := fr hb (Joins.below_alloc1 v7 (.cells #[.slice a7.ro V.refs.length a7.rc, .slice a7.tq V.table.length a7.tc, .slice a7.so V.snaps.length a7.sc, .slice a7.dq V.data.length a7.dc] 26))
    replace A0 := hide ((unhide A0).below hb7)
    replace HB := hide (fr (unhide HB) hb7)
    clear ho hb hb7 c0 c1 c2 c3
    go_upto_region 15 with fail
    revert A7
    revert A0
    revert HB
    generalize v7.heap.size = y7
    generalize (v7.alloc _) = V7
    intro HB A0 A7
    obtain ⟨c0, c1, c2, c3⟩ := (unhide A0).v.cells
    obtain ⟨d0, d1, d2, d3⟩ := (unhide A7).v.cells
    go_wp2
    go_ret
    exact ⟨rfl, unhide HB⟩
  · have HPN : Hid (pnF name = 0 ∧ pnN name = nmN name ∧ 0 < nmN name) := hide (by
      have e : pnF name = 0 := by rw [pnF, if_neg (by have := unhide HNZ; omega), unhide HNM]; rfl
      exact ⟨e, by rw [pnN, e]; rfl, nmN_pos (unhide HNM)⟩)
    go_wp2_with fail
    refine (unhide HPK name _ (snm_parts (unhide HNM)).2.2).mono ?_
    rintro e v7 ⟨rfl, hb⟩
    replace HB := hide (fr (unhide HB) hb)
    clear hb
    rw [(unhide HPN).1, (unhide HPN).2.1]
    go_wp2_with fail
    refine (packName_spec name _ (by have := unhide HNZ; unfold maxLen; omega)).mono ?_
    rintro e v8 ⟨rfl, hw⟩
    replace hw := hw.symm
    subst hw
    rw [(unhide HPN).1, (unhide HPN).2.1]
    have hpos := (unhide HPN).2.2
    generalize nmN name = NN at *
    rcases hA with rfl | rfl
    · go_wp2
      go_ret
      exact ⟨rfl, unhide HB⟩
    · go_wp2
      go_ret
      exact ⟨rfl, unhide HB⟩

end Go.Proofs.Ytpdpnepnfhbonaa

namespace Go.Proofs.Ytpdpnepnfhbonaa
open Go.RowKit
set_option linter.unusedVariables false
set_option maxRecDepth 100000

theorem nm1_at {t : ByteArray} (h : t.data.toList.all nm1 = true) {k : Nat} (hk : k < t.size) : nm1 t[k] = true := by
  have e : t.data.toList[k]'(by simpa using hk) = t[k] := by have := snm_get hk; rw [List.getElem?_eq_getElem (by simpa using hk)] at this; exact Option.some.inj this
  rw [← e]
  exact List.all_eq_true.1 h _ (List.getElem_mem _)

set_option maxHeartbeats 1600000 in
theorem packLetters_any (t : ByteArray) (w : World) (hn : snmB t = true) :
    Calls Try.prog 42 #[.string t] w fun e w' => e = .returned (.int .i64 (nmN t)) ∧ Below w.heap.size w w' := by
  obtain ⟨hal, h1, h6⟩ := snm_parts hn
  have HAL := hide hal
  clear hn hal
  have hcv := fun (W : World) => Lib.run_convert_string_bytes (P := Try.prog) W 9 22 5 t Try.underlying9 Try.underlying22 Try.underlying5
  have HB := hide (below_bytes w 5 t)
  have HCL := hide (Lib.bytesWorld_cell w 5 t)
  go_enter Try.func42, Try.ntmps42
  go_wp2
  revert HB HCL
  generalize Lib.bytesWorld w 5 t = w1
  generalize grownCap w t.size 0 5 = gc
  intro HB HCL
  clear hcv
  go_loop [3, 9] (fun n i => ∃ k : Nat, k ≤ t.size ∧ i = .int .i64 k ∧ n = .int .i64 (nmK t k)) (fun _ i => t.size - (intOf i).toNat)
  case atStart => exact ⟨0, Nat.zero_le _, rfl, rfl⟩
  case round =>
    obtain ⟨k, hk, rfl, rfl⟩ := hrel
    by_cases hlt : k < t.size
    · have hlti : (k : Int) < (t.size : Int) := by omega
      have hck := unhide HCL k hlt
      have eck : (t.data.toList.getD k 0) = t[k] := by simp [List.getD, snm_get hlt]
      rw [eck] at hck
      clear eck
      have hnm := nm1_at (unhide HAL) hlt
      simp only [nm1, Bool.and_eq_true, decide_eq_true_eq] at hnm
      have HS : Hid (nmK t (k + 1) = nmK t k * 27 + ((t[k].toNat : Int) - 96)) := hide (by
        rw [nmK_succ hlt]
        have e : t.data.toList[k]'(by simpa using hlt) = t[k] := by have := snm_get hlt; rw [List.getElem?_eq_getElem (by simpa using hlt)] at this; exact Option.some.inj this
        rw [e]
        unfold ch1
        omega)
      obtain ⟨b0, b1⟩ := nmK_le t k hk
      obtain ⟨d0, d1⟩ := bd27_le k (by omega)
      obtain ⟨c0, c1⟩ := hnm
      have hu : IntKind.u8.wrap ((t[k].toNat : Int) - 96) = ((t[k].toNat : Int) - 96) := by simp [IntKind.wrap, IntKind.bits, IntKind.signed]; omega
      generalize nmK t k = X at *
      generalize hD : ((t[k].toNat : Int) - 96) = D at *
      have w1 : IntKind.i64.wrap (X * 27) = X * 27 := by rw [IntKind.wrap_i64]; omega
      have w2 : IntKind.i64.wrap D = D := by rw [IntKind.wrap_i64]; omega
      have w3 : IntKind.i64.wrap (X * 27 + D) = X * 27 + D := by rw [IntKind.wrap_i64]; omega
      have HD := hide hD
      rw [← hD] at hu w2 w3
      go_wp2
      go_round
      case rel => exact ⟨k + 1, by omega, by go_num, by rw [unhide HS]⟩
      case measure => simp [intOf]; omega
    · obtain rfl : k = t.size := by omega
      have HF := hide (nmK_all t)
      go_wp2
      go_ret
      exact ⟨ret_int (unhide HF), unhide HB⟩

set_option maxHeartbeats 800000 in
theorem packName_impl (t : ByteArray) (w : World) (hz : t.size ≤ maxLen) :
    Calls Try.prog 15 #[.string t] w fun e w' => e = .returned (.tuple #[.int .i64 (pnN t), .int .i64 (pnF t)]) ∧ Below w.heap.size w w' := by
  have HZ := hide hz
  unfold maxLen at hz
  by_cases hl : 65536 < t.size
  · have HF : Hid (pnF t = 2 ∧ pnN t = 0) := hide (by have e : pnF t = 2 := if_pos hl; exact ⟨e, by rw [pnN, e]; rfl⟩)
    go_enter Try.func15, Try.ntmps15
    go_wp2
    go_ret2
    rw [(unhide HF).1, (unhide HF).2]
    exact ⟨rfl, Below.refl _ _⟩
  go_enter Try.func15, Try.ntmps15
  go_wp2_with fail
  refine (snapNameOK_any t _ (unhide HZ)).mono ?_
  rintro e w1 ⟨rfl, hb1⟩
  have HB1 := hide hb1
  clear hb1
  cases hn : snmB t
  · have HF : Hid (pnF t = 12 ∧ pnN t = 0) := hide (by have e : pnF t = 12 := by rw [pnF, if_neg hl, hn]; rfl
                                                       exact ⟨e, by rw [pnN, e]; rfl⟩)
    go_wp2
    go_ret2
    rw [(unhide HF).1, (unhide HF).2]
    exact ⟨rfl, unhide HB1⟩
  · have HF : Hid (pnF t = 0 ∧ pnN t = nmN t) := hide (by have e : pnF t = 0 := by rw [pnF, if_neg hl, hn]; rfl
                                                          exact ⟨e, by rw [pnN, e]; rfl⟩)
    have HT := hide hn
    clear hn
    go_wp2_with fail
    refine (packLetters_any t _ (unhide HT)).mono ?_
    rintro e w2 ⟨rfl, hb2⟩
    have HB2 := hide (fr (unhide HB1) hb2)
    clear hb2
    go_wp2
    go_ret2
    rw [(unhide HF).1, (unhide HF).2]
    exact ⟨rfl, unhide HB2⟩

end Go.Proofs.Ytpdpnepnfhbonaa

namespace Go.Proofs.Ytpdpnepnfhbonaa
open Go.RowKit
set_option linter.unusedVariables false
set_option maxRecDepth 100000

theorem wkNames (ao : Option Addr) (ca n : Nat) (bo : Option Addr) (cb m : Nat) (w : World) (hn : n ≤ maxLen) (hB : Bs w ao n) (hm : m ≤ maxLen) (hC : Bs w bo m) :
    Calls Try.prog 3 #[.slice ao n ca, .slice bo m cb] w fun e w' => e = .returned (.bool true) ∧ Below w.heap.size w w' :=
  lawNames (fun t W h => packName_impl t W (by unfold maxLen; omega)) ao ca n bo cb m w hn hB hm hC

end Go.Proofs.Ytpdpnepnfhbonaa
