import Derived.Test.YtlhinknmbgijeabDoorRows
import Derived.Test.YtlhinknmbgijeabDoorLUpdatesPart1
import Derived.Test.YtlhinknmbgijeabDoorLUpdatesPart2
import Derived.Test.YtlhinknmbgijeabDoorLUpdatesPart3
import Derived.Test.YtlhinknmbgijeabDoorLUpdatesPart5
import Derived.WalkKit
import Derived.WalkSpells
import Derived.KernelRfl
import Derived.Lib.SmallJoins
import Derived.Test.YtlhinknmbgijeabDoorLUpdatesPart4
import Derived.Deep.RegionWith
import Derived.Deep.RegionHeld3
import Derived.Laws.BytesArg
import Derived.Laws.CopyRow
import Derived.Laws.CopyOwn
import Derived.Deep.RegionLaw
import Derived.Deep.AppendLies

/- Contracts of spec's generations, the plain ones: l04Host, DeltaOK, l04Encode, l04Decode. -/
namespace Go.Proofs.YtlhinknmbgijeabDoor
open Go.RowKit
set_option linter.unusedVariables false
set_option maxRecDepth 100000

theorem l04Host_any (h : Int) (w : World) : Calls Tryd.prog 79 #[.int .i64 h] w fun e w' => e = .returned (.bool (inB h 0 3)) ∧ w' = w := by
  go_enter Tryd.func79, Tryd.ntmps79
  go_wp2_with fail
  refine (l01In_num h 0 3 _).mono ?_
  rintro e w1 ⟨rfl, rfl⟩
  go_wp2
  go_ret
  exact ⟨rfl, rfl⟩

set_option maxHeartbeats 1600000 in
theorem deltaOK_spec (h g s : Int) (w : World) : Calls Tryd.prog 42 #[dltV h g s] w fun e w' => e = .returned (.bool (dltB h g s)) ∧ Below w.heap.size w w' := by
  go_enter Tryd.func42, Tryd.ntmps42
  go_wp2_with fail
  refine (l04Host_any h _).mono ?_
  rintro e w1 ⟨rfl, rfl⟩
  by_cases h1 : inB h 0 3 = false
  · have hr := hide (dltB_1 (g := g) (s := s) h1)
    go_wp2
    go_ret
    rw [unhide hr]
    exact ⟨rfl, Joins.below_alloc1 _ _⟩
  rw [Bool.not_eq_false] at h1
  go_wp2_with fail
  refine (l01In_num g 1 1000000 _).mono ?_
  rintro e w1 ⟨rfl, rfl⟩
  by_cases h2 : inB g 1 1000000 = false
  · have hr := hide (dltB_2 (h := h) (s := s) h2)
    go_wp2
    go_ret
    rw [unhide hr]
    exact ⟨rfl, Joins.below_alloc1 _ _⟩
  rw [Bool.not_eq_false] at h2
  have hr := hide (dltB_3 (s := s) h1 h2)
  go_wp2_with fail
  refine (l01In_num s 0 10000000 _).mono ?_
  rintro e w1 ⟨rfl, rfl⟩
  go_wp2
  go_ret
  rw [unhide hr]
  exact ⟨rfl, Joins.below_alloc1 _ _⟩

theorem d3_nums {h g s : Int} (hd : dltB h g s = true) : ∀ j (hj : j < [h, g, s].length), 0 ≤ [h, g, s][j] ∧ [h, g, s][j] ≤ 2147483647 := by
  obtain ⟨h1, h2, h3⟩ := dltB_iff.1 hd
  intro j hj
  have hj' : j < 3 := hj
  rcases (show j = 0 ∨ j = 1 ∨ j = 2 by omega) with rfl | rfl | rfl <;> simp <;> omega
theorem is3 (w : World) (n : Nat) (t : TypeId) (a b c : Int) (hn : w.heap.size = n) : Is (w.alloc (.cells #[.int .i64 a, .int .i64 b, .int .i64 c] t)) (some ⟨n, 0, none⟩) [a, b, c] := by
  subst hn
  intro i hi
  have hi' : i < 3 := hi
  refine ⟨w.heap.size, 0, rfl, ?_⟩
  rcases (show i = 0 ∨ i = 1 ∨ i = 2 by omega) with rfl | rfl | rfl <;> simp [go_sem]

set_option maxHeartbeats 1600000 in
theorem l04Encode_any (h g s : Int) (w : World) (hd : dltB h g s = true) : Calls Tryd.prog 43 #[dltV h g s] w fun e w' => e = .returned (.string (encD h g s)) ∧ Below w.heap.size w w' := by
  have HD := hide (d3_nums hd)
  clear hd
  go_enter Tryd.func43, Tryd.ntmps43
  go_wp2_with fail
  refine (l02Seal_any 9 _ 3 [h, g, s] _ (by decide) (by simp) (unhide HD) (is3 _ _ _ _ _ _ (by simp))).mono ?_
  rintro e w1 ⟨rfl, hb⟩
  have HB := hide hb
  clear hb
  go_wp2
  go_ret
  exact ⟨rfl, fr (Joins.below_alloc2 _ _ _) (unhide HB)⟩

set_option maxHeartbeats 1600000 in
theorem encodeDelta_spec (h g s : Int) (w : World) : Calls Tryd.prog 13 #[dltV h g s] w fun e w' => e = .returned (.tuple #[.string (encR h g s), .int .i64 (encC h g s)]) ∧ Below w.heap.size w w' := by
  go_enter Tryd.func13, Tryd.ntmps13
  go_wp2_with fail
  refine (deltaOK_spec h g s _).mono ?_
  rintro e w1 ⟨rfl, hb⟩
  have HB := hide hb
  obtain ⟨hc0, hc1, hc2⟩ := ((VarT.new w 30 h g s).below hb).cells
  clear hb
  by_cases hd : dltB h g s = true
  · have HE : Hid (encR h g s = encD h g s ∧ encC h g s = 0) := hide ⟨if_pos hd, if_pos hd⟩
    have HD := hide hd
    go_wp2_with fail
    refine (l04Encode_any h g s _ (unhide HD)).mono ?_
    rintro e w2 ⟨rfl, hb⟩
    have HB2 := hide hb
    clear hb
    go_wp2
    go_ret2
    exact ⟨ret_sd (unhide HE).1.symm (unhide HE).2.symm, fr (fr (Joins.below_alloc1 _ _) (unhide HB)) (unhide HB2)⟩
  · have HE : Hid (encR h g s = ⟨#[]⟩ ∧ encC h g s = 1) := hide ⟨if_neg hd, if_neg hd⟩
    rw [Bool.not_eq_true] at hd
    go_wp2
    go_ret2
    exact ⟨ret_sd (unhide HE).1.symm (unhide HE).2.symm, fr (Joins.below_alloc1 _ _) (unhide HB)⟩

theorem ret_db {a b c a' b' c' : Int} {x y : Bool} (h1 : a = a') (h2 : b = b') (h3 : c = c') (k : x = y) : Ending.returned (.tuple #[dltV a b c, .bool x]) = .returned (.tuple #[dltV a' b' c', .bool y]) := by rw [h1, h2, h3, k]
end Go.Proofs.YtlhinknmbgijeabDoor

/- Contracts of spec's updates: l07Slot, SlotOf, l07Update, l07Encode, EncodeUpdate. -/
namespace Go.Proofs.YtlhinknmbgijeabDoor
open Go.RowKit
set_option linter.unusedVariables false
set_option maxRecDepth 100000

set_option maxHeartbeats 1600000 in
theorem l07Update_any (u : Up) (w : World) (hz : u.data.size ≤ maxLen) : Calls Tryd.prog 58 #[uV u] w fun e w' => e = .returned (.bool (upB u)) ∧ Below w.heap.size w w' := by
  unfold maxLen at hz
  go_enter Tryd.func58, Tryd.ntmps58
  go_wp2_with fail
  refine (l01In_num u.at_ 9 38 _).mono ?_
  rintro e w1 ⟨rfl, rfl⟩
  by_cases h1 : inB u.at_ 9 38 = false
  · have hr : Hid (upB u = false) := hide (by simp [upB, h1])
    go_wp2
    go_ret
    rw [unhide hr]
    exact ⟨rfl, Joins.below_alloc1 _ _⟩
  rw [Bool.not_eq_false] at h1
  have hr : Hid (upB u = decide ((u.data.size : Int) ≤ 72)) := hide (by simp [upB, h1]; omega)
  go_wp2
  go_ret
  rw [unhide hr]
  exact ⟨rfl, Joins.below_alloc1 _ _⟩

set_option maxHeartbeats 1600000 in
theorem l07Encode_any (u : Up) (w : World) (hd : upB u = true) : Calls Tryd.prog 59 #[uV u] w fun e w' => e = .returned (.string (encU u)) ∧ Below w.heap.size w w' := by
  have HD := hide (u1_nums hd)
  have hs1 : (sealS 8 [u.at_]).size = 8 := sealS_size 8 [u.at_]
  have hs2 : u.data.size ≤ 72 := (upB_iff.1 hd).2
  obtain ⟨c0, c1⟩ := (VarU.new w 52 u).cells
  clear hd
  go_enter Tryd.func59, Tryd.ntmps59
  go_wp2_with fail
  go_region_with
    ((go_at_call 81; refine (l02Seal_any 8 _ 1 [u.at_] _ (by decide) (by simp) (unhide HD) (by exact is1 (w.alloc (.cells #[.int .i64 u.at_, .string u.data] 52)) _ 3 u.at_ (by simp))).mono ?_; rintro e w1 ⟨rfl, hb⟩; have HB := hide (fr (belowAl (Joins.below_alloc1 w _) _).drew hb); obtain ⟨d0, d1⟩ := ((VarU.new w 52 u).below (fr (Joins.below_alloc1 _ _).drew hb)).cells; clear hb))
  all_goals
    go_wp2
    go_ret
    exact ⟨rfl, unhide HB⟩

set_option maxHeartbeats 1600000 in
theorem encodeUpdate_spec (u : Up) (w : World) (hz : u.data.size ≤ maxLen) : Calls Tryd.prog 22 #[uV u] w fun e w' => e = .returned (.tuple #[.string (euR u), .int .i64 (euC u)]) ∧ Below w.heap.size w w' := by
  have HZ := hide hz
  clear hz
  go_enter Tryd.func22, Tryd.ntmps22
  go_wp2_with fail
  refine (l07Update_any u _ (unhide HZ)).mono ?_
  rintro e w1 ⟨rfl, hb⟩
  have HB := hide hb
  obtain ⟨hc0, hc1⟩ := ((VarU.new w 52 u).below hb).cells
  clear hb
  by_cases hd : upB u = true
  · have HE : Hid (euR u = encU u ∧ euC u = 0) := hide ⟨if_pos hd, if_pos hd⟩
    have HD := hide hd
    go_wp2_with fail
    refine (l07Encode_any u _ (unhide HD)).mono ?_
    rintro e w2 ⟨rfl, hb⟩
    have HB2 := hide hb
    clear hb
    go_wp2
    go_ret2
    exact ⟨ret_su (unhide HE).1.symm (unhide HE).2.symm, fr (fr (Joins.below_alloc1 _ _) (unhide HB)) (unhide HB2)⟩
  · have HE : Hid (euR u = ⟨#[]⟩ ∧ euC u = 1) := hide ⟨if_neg hd, if_neg hd⟩
    rw [Bool.not_eq_true] at hd
    go_wp2
    go_ret2
    exact ⟨ret_su (unhide HE).1.symm (unhide HE).2.symm, fr (Joins.below_alloc1 _ _) (unhide HB)⟩

end Go.Proofs.YtlhinknmbgijeabDoor

/- Plain words of the clocks, and contracts of their tests: within, hourOK, configInBounds, l01In, l03Bounds. -/
namespace Go.Proofs.YtlhinknmbgijeabDoor
open Go.RowKit
set_option linter.unusedVariables false
set_option maxRecDepth 100000

theorem hidB {p : Prop} (h : p) : Hid p := h
theorem frB {a b c : World} (h : Below a.heap.size a b) (k : Below b.heap.size b c) : Below a.heap.size a c := h.trans (k.mono h.size)
/-- A number within bounds. -/
def betw (n low high : Int) : Bool := decide (low ≤ n) && decide (n ≤ high)
theorem betw_yes {n low high : Int} (h : low ≤ n) (h' : n ≤ high) : betw n low high = true := by simp [betw, h, h']
theorem betw_no {n low high : Int} (h : ¬ (low ≤ n ∧ n ≤ high)) : betw n low high = false := by simp only [betw, Bool.and_eq_false_iff, decide_eq_false_iff_not]; omega
theorem betw_iff {n low high : Int} : betw n low high = true ↔ low ≤ n ∧ n ≤ high := by simp [betw]
/-- A configuration within its bounds. -/
def cfgB (f d l r : Int) : Bool := betw f 1 10000 && betw d 1 100000 && betw l 0 1000 && betw r 0 500
theorem cfgB_iff {f d l r : Int} : cfgB f d l r = true ↔ (1 ≤ f ∧ f ≤ 10000) ∧ (1 ≤ d ∧ d ≤ 100000) ∧ (0 ≤ l ∧ l ≤ 1000) ∧ 0 ≤ r ∧ r ≤ 500 := by
  simp only [cfgB, Bool.and_eq_true, betw_iff, and_assoc]
/-- The bounds of true time. -/
def latQ (r x : Int) : Int := ((x + 1) * 1000 + 999 - r) / (1000 - r)
def earQ (r x : Int) : Int := (x - 1) * 1000 / (1000 + r)
def locQ (o r t : Int) : Int := o + t * (1000 + r) / 1000
abbrev cfgV (f d l r : Int) : Value := .agg #[.int .i64 f, .int .i64 d, .int .i64 l, .int .i64 r]
abbrev clkV (o r : Int) : Value := .agg #[.int .i64 o, .int .i64 r]

/-- A configuration in a variable. -/
abbrev Four (w : World) (b : Nat) (f d l r : Int) : Prop := w.cell? ⟨b, 0, none⟩ = some (.int .i64 f) ∧ w.cell? ⟨b, 1, none⟩ = some (.int .i64 d) ∧ w.cell? ⟨b, 2, none⟩ = some (.int .i64 l) ∧ w.cell? ⟨b, 3, none⟩ = some (.int .i64 r)
theorem Four.below {w w' : World} {b : Nat} {f d l r : Int} (h : Four w b f d l r) (hb : Below w.heap.size w w') : Four w' b f d l r :=
  ⟨(hb.cell (World.block_lt_of_cell? _ _ h.1)).trans h.1, (hb.cell (World.block_lt_of_cell? _ _ h.2.1)).trans h.2.1, (hb.cell (World.block_lt_of_cell? _ _ h.2.2.1)).trans h.2.2.1, (hb.cell (World.block_lt_of_cell? _ _ h.2.2.2)).trans h.2.2.2⟩
set_option maxHeartbeats 800000 in
theorem within_any (n low high : Int) (w : World) : Calls Tryd.prog 53 #[.int .i64 n, .int .i64 low, .int .i64 high] w fun e w' => e = .returned (.bool (betw n low high)) ∧ w' = w := by
  by_cases h1 : low ≤ n
  · by_cases h2 : n ≤ high
    · have hr := hidB (betw_yes h1 h2)
      go_enter Tryd.func53, Tryd.ntmps53
      go_wp2
      go_ret
      rw [show betw n low high = true from hr]
      exact ⟨rfl, rfl⟩
    · have hr := hidB (betw_no (n := n) (low := low) (high := high) (by omega))
      go_enter Tryd.func53, Tryd.ntmps53
      go_wp2
      go_ret
      rw [show betw n low high = false from hr]
      exact ⟨rfl, rfl⟩
  · have hr := hidB (betw_no (n := n) (low := low) (high := high) (by omega))
    go_enter Tryd.func53, Tryd.ntmps53
    go_wp2
    go_ret
    rw [show betw n low high = false from hr]
    exact ⟨rfl, rfl⟩
set_option maxHeartbeats 800000 in
theorem in_any (n low high : Int) (w : World) : Calls Tryd.prog 80 #[.int .i64 n, .int .i64 low, .int .i64 high] w fun e w' => e = .returned (.bool (betw n low high)) ∧ w' = w := by
  by_cases h1 : low ≤ n
  · by_cases h2 : n ≤ high
    · have hr := hidB (betw_yes h1 h2)
      go_enter Tryd.func80, Tryd.ntmps80
      go_wp2
      go_ret
      rw [show betw n low high = true from hr]
      exact ⟨rfl, rfl⟩
    · have hr := hidB (betw_no (n := n) (low := low) (high := high) (by omega))
      go_enter Tryd.func80, Tryd.ntmps80
      go_wp2
      go_ret
      rw [show betw n low high = false from hr]
      exact ⟨rfl, rfl⟩
  · have hr := hidB (betw_no (n := n) (low := low) (high := high) (by omega))
    go_enter Tryd.func80, Tryd.ntmps80
    go_wp2
    go_ret
    rw [show betw n low high = false from hr]
    exact ⟨rfl, rfl⟩

theorem cfg_1 {f d l r : Int} (h : betw f 1 10000 = false) : cfgB f d l r = false := by simp [cfgB, h]
theorem cfg_2 {f d l r : Int} (h : betw d 1 100000 = false) : cfgB f d l r = false := by simp [cfgB, h]
theorem cfg_3 {f d l r : Int} (h : betw l 0 1000 = false) : cfgB f d l r = false := by simp [cfgB, h]
theorem cfg_4 {f d l r : Int} (h1 : betw f 1 10000 = true) (h2 : betw d 1 100000 = true) (h3 : betw l 0 1000 = true) : cfgB f d l r = betw r 0 500 := by simp [cfgB, h1, h2, h3]

end Go.Proofs.YtlhinknmbgijeabDoor

/- Contract of impl.packNumbers. -/
namespace Go.Proofs.YtlhinknmbgijeabDoor
open Go.RowKit
set_option linter.unusedVariables false
set_option maxRecDepth 100000

theorem block_alloc {w : World} {g : Nat} {c : Array Value} {t : TypeId} {f : Nat × Nat} (h : w.heap[g]? = some (.cells c t f)) (o : Obj) : (w.alloc o).heap[g]? = some (.cells c t f) := by
  rw [(Joins.below_alloc1 w o).block g (Array.getElem?_eq_some_iff.1 h).1]; exact h

/-- The bytes that stand in the array when k numbers are in it. -/
def arrL (xs : List Int) (k : Nat) : List Value := byteV (packL (xs.take k)) ++ List.replicate (64 - k * 4) (.int .u8 0)
theorem arrL_zero (xs : List Int) : arrL xs 0 = List.replicate 64 (.int .u8 0) := by simp [arrL, packL, byteV]
theorem four_lit {n : Int} (h : 0 ≤ n) (h' : n ≤ 2147483647) : [Value.int .u8 (n % 256), .int .u8 (n / 256 % 256), .int .u8 (n / 65536 % 256), .int .u8 (n / 16777216)] = byteV (four n) := by
  have e : n / 16777216 = n / 16777216 % 256 := by omega
  have : byteV (four n) = [Value.int .u8 (n / (256 : Int) ^ 0 % 256), .int .u8 (n / (256 : Int) ^ 1 % 256), .int .u8 (n / (256 : Int) ^ 2 % 256), .int .u8 (n / (256 : Int) ^ 3 % 256)] := rfl
  rw [this, e]
  simp
theorem arrL_length {xs : List Int} {k : Nat} (hl : xs.length ≤ 16) (hk : k ≤ xs.length) : (arrL xs k).length = 64 := by
  rw [arrL, List.length_append, byteV_length, packL_length, List.length_replicate, List.length_take, Nat.min_eq_left hk]
  omega
theorem arrL_splice {xs : List Int} {k : Nat} (hl : xs.length ≤ 16) (hk : k < xs.length) : splice (arrL xs k) (k * 4) (byteV (four xs[k])) = arrL xs (k + 1) := by
  have h1 : (byteV (packL (xs.take k))).length = k * 4 := by rw [byteV_length, packL_length, List.length_take, Nat.min_eq_left (by omega)]
  have h4 : (byteV (four xs[k])).length = 4 := by rw [byteV_length, four, fourTo_length]
  unfold splice arrL
  rw [h4, List.take_append_of_le_length (by omega), List.take_of_length_le (by omega), List.drop_append, List.drop_of_length_le (by omega), List.nil_append, h1, packL_succ hk, List.drop_replicate]
  rw [show k * 4 + 4 - k * 4 = 4 by omega, show 64 - k * 4 - 4 = 64 - (k + 1) * 4 by omega]
  simp [byteV]
theorem arrL_cells {W : World} {g : Nat} {t : TypeId} {xs : List Int} (h : W.heap[g]? = some (.cells (arrL xs xs.length).toArray t (0, 0))) : ∀ i, i < xs.length * 4 → W.cell? ⟨g, 0 + i, none⟩ = some (.int .u8 ((packL xs).getD i 0)) := by
  intro i hi
  rw [Nat.zero_add, Joins.cell_of_block h]
  have hl : i < (packL xs).length := by rw [packL_length]; exact hi
  simp [arrL, byteV, List.getElem?_append_left, hl, List.getD]
theorem byteV_one (ns : List Int) : ∀ v ∈ byteV ns, v.oneCell' = true := by
  intro v hv
  simp only [byteV, List.mem_map] at hv
  obtain ⟨s, _, rfl⟩ := hv
  rfl
theorem lit_one (a b c d : Int) : ∀ v ∈ [Value.int .u8 a, .int .u8 b, .int .u8 c, .int .u8 d], v.oneCell' = true := by
  intro v hv
  simp at hv
  rcases hv with rfl | rfl | rfl | rfl <;> rfl
theorem sizeB : (Tryd.prog.info? 5).map (·.size) = some 1 := by kernel_rfl
theorem runB (W : World) : (Go.sizeOf 5).run Tryd.prog W = .ok 1 W := by
  have h := sizeB
  cases hq : Tryd.prog.info? 5 with
  | none => simp [hq] at h
  | some i =>
    have hi : i.size = 1 := by simpa [hq] using h
    simp [Go.sizeOf, typeInfo, hq, hi]
theorem arr64 : Tryd.prog.arrayLen 115 = 64 := by kernel_rfl
theorem und64 : Tryd.prog.underlying 115 = some (.array (Tryd.prog.arrayLen 115) (Tryd.prog.elem 115)) := by kernel_rfl
theorem elem64 : Tryd.prog.elem 115 = 5 := by kernel_rfl
theorem wrap4 (k : Nat) (hk : k ≤ 16) : IntKind.i64.wrap ((k : Int) * 4) = ((k * 4 : Nat) : Int) := by
  rw [IntKind.wrap_i64]
  omega
theorem slice64 (W : World) (g k : Nat) (hk : k < 16) : (Instr.sliceAt 115 (.pointer (some ⟨g, 0, none⟩)) (some (.int .i64 (IntKind.i64.wrap ((k : Int) * 4)))) none none).run Tryd.prog W = .ok (.slice (some ⟨g, k * 4, none⟩) (64 - k * 4) (64 - k * 4)) W := by
  rw [wrap4 k (by omega), run_sliceAt_array_l W _ _ und64 .i64 _ (by omega) (by rw [arr64]; omega), elem64, runB, arr64]
  simp only [Result.andThen, slicedAt, Int.toNat_natCast, Nat.mul_one]
  rw [if_neg (by omega), show Addr.add ⟨g, 0, none⟩ (k * 4) = ⟨g, k * 4, none⟩ from by unfold Addr.add; split <;> simp_all]
theorem slice64h (W : World) (g k : Nat) (hk : k ≤ 16) : (Instr.sliceAt 115 (.pointer (some ⟨g, 0, none⟩)) none (some (.int .i64 ((k : Int) * 4))) none).run Tryd.prog W = .ok (.slice (some ⟨g, 0, none⟩) (k * 4) 64) W := by
  rw [run_sliceAt_array_h W _ _ und64 .i64 _ (by omega) (by rw [arr64]; omega), elem64, runB, arr64]
  simp only [Result.andThen, slicedAt, Nat.mul_one, Nat.sub_zero]
  rw [if_neg (by omega), show ((k : Int) * 4).toNat = k * 4 by omega]
  rfl

set_option maxHeartbeats 1600000 in
theorem packNumbers_any (ao : Option Addr) (cap : Nat) (xs : List Int) (w : World) (hl : xs.length ≤ 16) (hn : ∀ j (h : j < xs.length), 0 ≤ xs[j] ∧ xs[j] ≤ 2147483647) (hc : Is w ao xs) :
    Calls Tryd.prog 74 #[.slice ao xs.length cap] w fun e w' => e = .returned (.string (packS xs)) ∧ Below w.heap.size w w' := by
  have HC := hide hc
  have HN := hide hn
  clear hc hn
  go_enter Tryd.func74, Tryd.ntmps74
  go_wp2
  go_loopw [9] (fun i wr => ∃ k : Nat, k ≤ xs.length ∧ i = .int .i64 k ∧ Hid (wr.heap[w.heap.size]? = some (.cells (arrL xs k).toArray 115 (0, 0))) ∧ Hid (Below w.heap.size w wr)) (fun i _ => xs.length - (intOf i).toNat)
  case atStart => exact ⟨0, Nat.zero_le _, rfl, hide (by rw [arrL_zero]; exact heap_alloc_new w _), hide (Joins.below_alloc1 _ _)⟩
  case round =>
    obtain ⟨k, hk, rfl, HO, HB⟩ := hrel
    by_cases hlt : k < xs.length
    · obtain ⟨b, off, rfl, hc⟩ := (unhide HC).below (unhide HB) k hlt
      obtain ⟨h0, h1⟩ := unhide HN k hlt
      have HBA := hide (fr (unhide HB) (Joins.below_alloc1 _ (.cells #[.int .u8 (xs[k] % 256), .int .u8 (xs[k] / 256 % 256), .int .u8 (xs[k] / 65536 % 256), .int .u8 (xs[k] / 16777216)] 102)))
      have HOA := hide (block_alloc (unhide HO) (.cells #[.int .u8 (xs[k] % 256), .int .u8 (xs[k] / 256 % 256), .int .u8 (xs[k] / 65536 % 256), .int .u8 (xs[k] / 16777216)] 102))
      have HL := hide (arrL_length hl hk)
      have HNW := hide (World.news_of_block (cs := #[.int .u8 (xs[k] % 256), .int .u8 (xs[k] / 256 % 256), .int .u8 (xs[k] / 65536 % 256), .int .u8 (xs[k] / 16777216)]) (heap_alloc_new wr (.cells #[.int .u8 (xs[k] % 256), .int .u8 (xs[k] / 256 % 256), .int .u8 (xs[k] / 65536 % 256), .int .u8 (xs[k] / 16777216)] 102)))
      have HE := hide (four_lit h0 h1)
      have HSP := hide (arrL_splice hl hlt)
      have hsl := fun W => slice64 W w.heap.size k (by omega)
      go_wp2
      go_region_law (refine step_copy_splice ?_ (.tmp 28) (.tmp 29) 22 22 ?_ 5 Tryd.underlying22 sizeB (some ⟨w.heap.size, k * 4, none⟩) (some ⟨wr.heap.size, 0, none⟩) (64 - k * 4) (64 - k * 4) 4 4 ?_ ?_ w.heap.size (k * 4) (arrL xs k) 115 ?_ [.int .u8 (xs[k] % 256), .int .u8 (xs[k] / 256 % 256), .int .u8 (xs[k] / 65536 % 256), .int .u8 (xs[k] / 16777216)] ?_ ?_ ?_ (lit_one _ _ _ _) w.heap.size w ?_ (Nat.le_refl _) ?_
                     · rfl
                     · rfl
                     · rfl
                     · rfl
                     · exact unhide HOA
                     · simp only [List.length_cons, List.length_nil]; exact (Nat.min_eq_left (by omega)).symm
                     · exact fun _ => ⟨rfl, _, rfl, unhide HNW⟩
                     · rw [unhide HL]; simp only [List.length_cons, List.length_nil]; omega
                     · exact (unhide HBA).drew
                     intro w4 hg4 hb4)
      all_goals
        have HSF : Hid (w4.heap[w.heap.size]? = some (.cells (arrL xs (k + 1)).toArray 115 (0, 0))) := by rw [← unhide HSP, ← unhide HE]; exact hg4
        have HBF := hide hb4
        clear hg4 hb4 hsl
        go_wp2
        go_roundw
        case rel => exact ⟨k + 1, by omega, by go_num, HSF, HBF⟩
        case measure => simp [intOf]; omega
    · have hkn : k = xs.length := by omega
      subst hkn
      have hsl := slice64h wr w.heap.size xs.length hl
      have hcv := run_convert_bytes_arg (P := Tryd.prog) wr 22 5 Tryd.underlying22 Tryd.underlying5 w.heap.size 0 (xs.length * 4) 64 (packL xs) (packL_length xs) (arrL_cells (unhide HO)) 9 Tryd.underlying9
      go_wp2
      go_ret
      exact ⟨rfl, unhide HB⟩

end Go.Proofs.YtlhinknmbgijeabDoor

/- Contract of impl.areNumbers. -/
namespace Go.Proofs.YtlhinknmbgijeabDoor
open Go.RowKit
set_option linter.unusedVariables false
set_option maxRecDepth 100000

theorem nums_no {xs : List Int} {k : Nat} (hk : k < xs.length) (h : numB xs[k] = false) : xs.all numB = false := all_not (p := numB) hk h
theorem nums_all {xs : List Int} (h : ∀ j (hj : j < xs.length), numB xs[j] = true) : xs.all numB = true := all_of (p := numB) (fun i hi _ => h i hi)

set_option maxHeartbeats 800000 in
theorem areNumbers_any (ao : Option Addr) (cap : Nat) (xs : List Int) (w : World) (hl : xs.length ≤ maxLen) (hc : Is w ao xs) :
    Calls Tryd.prog 94 #[.slice ao xs.length cap] w fun e w' => e = .returned (.bool (xs.all numB)) ∧ w' = w := by
  have HC := hide hc
  clear hc
  unfold maxLen at hl
  obtain ⟨R, HR⟩ : ∃ R, Hid (R = xs.all numB) := ⟨_, hide rfl⟩
  rw [← unhide HR]
  go_enter Tryd.func94, Tryd.ntmps94
  go_wp2
  go_loop [7] (fun i => ∃ k : Nat, k ≤ xs.length ∧ i = .int .i64 k ∧ Hid (∀ j (h : j < xs.length), j < k → numB xs[j] = true)) (fun i => xs.length - (intOf i).toNat)
  case atStart => exact ⟨0, Nat.zero_le _, rfl, hide (fun j _ h => by omega)⟩
  case round =>
    obtain ⟨k, hk, rfl, HA⟩ := hrel
    by_cases hlt : k < xs.length
    · obtain ⟨b, off, rfl, hc⟩ := unhide HC k hlt
      cases hn : numB xs[k]
      · have HF := hide (nums_no hlt hn)
        go_wp2_with (go_at_call 54; refine (isNumber_any _ _).mono ?_; rintro e w' ⟨rfl, hw⟩; replace hw := hw.symm; subst hw; rw [hn])
        go_ret
        exact ⟨ret_bool (by rw [unhide HR, unhide HF]), rfl⟩
      · have HN := hide (all_succ hlt (unhide HA) hn)
        go_wp2_with (go_at_call 54; refine (isNumber_any _ _).mono ?_; rintro e w' ⟨rfl, hw⟩; replace hw := hw.symm; subst hw; rw [hn])
        go_round
        case rel => exact ⟨k + 1, by omega, by go_num, HN⟩
        case measure => simp [intOf]; omega
    · have HF := hide (nums_all (fun j h => unhide HA j h (by omega)))
      go_wp2
      go_ret
      exact ⟨ret_bool (by rw [unhide HR, unhide HF]), rfl⟩

end Go.Proofs.YtlhinknmbgijeabDoor

/- Contract of impl.listFault (of the code since 38f1bd19e5ed: it calls areNumbers). -/
namespace Go.Proofs.YtlhinknmbgijeabDoor
open Go.RowKit
set_option linter.unusedVariables false
set_option maxRecDepth 100000

theorem intsB_all_no {xs : List Int} (h : xs.all numB = false) : intsB xs = false := by rw [intsB, allB, h]; rfl
theorem intsB_all {xs : List Int} (hl : xs.length ≤ 16) (h : xs.all numB = true) : intsB xs = true := by rw [intsB, allB, h, decide_eq_true hl]; rfl

set_option maxHeartbeats 800000 in
theorem listFault_any (ao : Option Addr) (cap : Nat) (xs : List Int) (w : World) (hl : xs.length ≤ 1048576) (hc : Is w ao xs) :
    Calls Tryd.prog 72 #[.slice ao xs.length cap] w fun e w' => e = .returned (.int .i64 (listC xs)) ∧ w' = w := by
  have HC := hide hc
  clear hc
  by_cases h1 : 4096 < xs.length
  · have HF := hide (listC_long h1)
    go_enter Tryd.func72, Tryd.ntmps72
    go_wp2
    go_ret
    exact ⟨ret_int (unhide HF).symm, rfl⟩
  by_cases h2 : 16 < xs.length
  · have HF := hide (listC_bad h1 (intsB_long h2))
    go_enter Tryd.func72, Tryd.ntmps72
    go_wp2
    go_ret
    exact ⟨ret_int (unhide HF).symm, rfl⟩
  cases hn : xs.all numB
  · have HF := hide (listC_bad h1 (intsB_all_no hn))
    go_enter Tryd.func72, Tryd.ntmps72
    go_wp2_with (go_at_call 94; refine (areNumbers_any _ _ _ _ (by unfold maxLen; omega) (unhide HC)).mono ?_; rintro e w' ⟨rfl, hw⟩; replace hw := hw.symm; subst hw; rw [hn])
    go_ret
    exact ⟨ret_int (unhide HF).symm, rfl⟩
  · have HF := hide (listC_ok (xs := xs) h1 (intsB_all (by omega) hn))
    go_enter Tryd.func72, Tryd.ntmps72
    go_wp2_with (go_at_call 94; refine (areNumbers_any _ _ _ _ (by unfold maxLen; omega) (unhide HC)).mono ?_; rintro e w' ⟨rfl, hw⟩; replace hw := hw.symm; subst hw; rw [hn])
    go_ret
    exact ⟨ret_int (unhide HF).symm, rfl⟩

end Go.Proofs.YtlhinknmbgijeabDoor

/- What PackInts answers, plain. -/
namespace Go.Proofs.YtlhinknmbgijeabDoor
set_option linter.unusedVariables false

/-- The answer's text. -/
def packT (xs : List Int) : ByteArray := if listC xs = 0 then packS xs else ⟨#[]⟩
theorem packT_ok {xs : List Int} (h : listC xs = 0) : packT xs = packS xs := if_pos h
theorem packT_no {xs : List Int} (h : listC xs ≠ 0) : packT xs = ⟨#[]⟩ := if_neg h
theorem ret_si {a b : ByteArray} {c d : Int} (h : a = b) (k : c = d) : Ending.returned (.tuple #[.string a, .int .i64 c]) = .returned (.tuple #[.string b, .int .i64 d]) := by rw [h, k]

end Go.Proofs.YtlhinknmbgijeabDoor

/- Contract of impl.kindOK. -/
namespace Go.Proofs.YtlhinknmbgijeabDoor
open Go.RowKit
set_option linter.unusedVariables false
set_option maxRecDepth 100000

theorem kindOK_any (n : Int) (w : World) : Calls Tryd.prog 73 #[.int .i64 n] w fun e w' => e = .returned (.bool (kindB n)) ∧ w' = w := by
  go_enter Tryd.func73, Tryd.ntmps73
  go_wp2
  all_goals
    go_ret
    exact ⟨ret_bool (by rw [Bool.eq_iff_iff]; simp [kindB, inB]; omega), rfl⟩

end Go.Proofs.YtlhinknmbgijeabDoor

/- Contracts of SealRecord, of the program and of its model. -/
namespace Go.Proofs.YtlhinknmbgijeabDoor
open Go.RowKit
set_option linter.unusedVariables false
set_option maxRecDepth 100000

/-- 'string(head[:2])', 'string(head[:])', head an array of four bytes. -/
theorem arr2 (W : World) (g : Nat) (a b c d : Int) (h : W.heap.size = g) : (convert 22 9 (.slice (some ⟨g, 0, none⟩) 2 4)).run Tryd.prog (W.alloc (.cells #[.int .u8 a, .int .u8 b, .int .u8 c, .int .u8 d] 102)) = .ok (.string (strOfNums [a, b])) (W.alloc (.cells #[.int .u8 a, .int .u8 b, .int .u8 c, .int .u8 d] 102)) := by
  subst h
  refine run_convert_bytes_arg _ 22 5 Tryd.underlying22 Tryd.underlying5 W.heap.size 0 2 4 [a, b] rfl ?_ 9 Tryd.underlying9
  intro i hi
  rcases (show i = 0 ∨ i = 1 by omega) with rfl | rfl <;> simp [go_sem, List.getD]
theorem arr4 (W : World) (g : Nat) (a b c d : Int) (h : W.heap.size = g) : (convert 22 9 (.slice (some ⟨g, 0, none⟩) 4 4)).run Tryd.prog (W.alloc (.cells #[.int .u8 a, .int .u8 b, .int .u8 c, .int .u8 d] 102)) = .ok (.string (strOfNums [a, b, c, d])) (W.alloc (.cells #[.int .u8 a, .int .u8 b, .int .u8 c, .int .u8 d] 102)) := by
  subst h
  refine run_convert_bytes_arg _ 22 5 Tryd.underlying22 Tryd.underlying5 W.heap.size 0 4 4 [a, b, c, d] rfl ?_ 9 Tryd.underlying9
  intro i hi
  rcases (show i = 0 ∨ i = 1 ∨ i = 2 ∨ i = 3 by omega) with rfl | rfl | rfl | rfl <;> simp [go_sem, List.getD]
theorem sum_impl (k : Int) (xs : List Int) (w : World) (hl : xs.length ≤ 16) : Calls Tryd.prog 75 #[.string (strOfNums [k, (xs.length : Int)] ++ packS xs)] w fun e w' => e = .returned (.int .i64 (sumR k xs)) ∧ w' = w := by
  have h := sumOf_impl (sumT k xs) w (by rw [sumT_size]; omega)
  rw [sumC_short (by rw [sumT_size]; omega)] at h
  exact h

set_option maxHeartbeats 1600000 in
theorem sealRecord_impl (k : Int) (ao : Option Addr) (cap : Nat) (xs : List Int) (w : World) (hl : xs.length ≤ 1048576) (hc : Is w ao xs) :
    Calls Tryd.prog 38 #[.int .i64 k, .slice ao xs.length cap] w fun e w' => e = .returned (.tuple #[.string (sealT k xs), .int .i64 (sealC k xs)]) ∧ Below w.heap.size w w' := by
  have HC := hide hc
  clear hc
  by_cases h2 : listC xs = 0
  · have HL := hide h2
    have hb : (listC xs != 0) = false := by simp [h2]
    have HP := hide (intsB_parts (listC_zero h2))
    clear h2
    by_cases h3 : kindB k = true
    · have HF := hide (sealC_ok (unhide HL) h3)
      obtain ⟨hk0, hk1⟩ := kindB_in h3
      have hl16 := (unhide HP).2
      have hp := packS_size xs
      have hs2 : (strOfNums [k, (xs.length : Int)]).size = 2 := strOfNums_size _
      have hs4 : (strOfNums [k, (xs.length : Int), sumR k xs, 0]).size = 4 := strOfNums_size _
      obtain ⟨hr0, hr1⟩ := sumR_in k xs
      go_enter Tryd.func38, Tryd.ntmps38
      go_wp2_with (first | (go_at_call 72; refine (listFault_any _ _ xs _ hl (unhide HC)).mono ?_; rintro e w' ⟨rfl, rfl⟩) | (go_at_call 73; refine (kindOK_any _ _).mono ?_; rintro e w' ⟨rfl, rfl⟩) | (go_at_call 74; refine (packNumbers_any _ _ xs _ (unhide HP).2 (unhide HP).1 (unhide HC)).mono ?_; rintro e w1 ⟨rfl, hb1⟩; have HB1 := hide hb1; clear hb1; have hc2 := arr2 w1 w1.heap.size k xs.length 0 0 rfl) | (go_at_call 75; refine (sum_impl k xs _ hl16).mono ?_; rintro e w' ⟨rfl, rfl⟩; have hc4 := arr4 w1 w1.heap.size k xs.length (sumR k xs) 0 rfl))
      go_ret2
      exact ⟨ret_si (sealT_ok (unhide HF)).symm (unhide HF).symm, fr (unhide HB1) (Joins.below_alloc1 _ _)⟩
    · have h4 : kindB k = false := by simpa using h3
      have HF := hide (sealC_kind (unhide HL) h4)
      clear h3
      go_enter Tryd.func38, Tryd.ntmps38
      go_wp2_with (first | (go_at_call 72; refine (listFault_any _ _ xs _ hl (unhide HC)).mono ?_; rintro e w' ⟨rfl, rfl⟩) | (go_at_call 73; refine (kindOK_any _ _).mono ?_; rintro e w' ⟨rfl, rfl⟩))
      go_ret2
      exact ⟨ret_si (sealT_no (by rw [unhide HF]; decide)).symm (unhide HF).symm, Below.refl _ _⟩
  · have HF := hide (sealC_list (k := k) h2)
    have HNE := hide h2
    have hb : (listC xs != 0) = true := by simp [h2]
    clear h2
    go_enter Tryd.func38, Tryd.ntmps38
    go_wp2_with (go_at_call 72; refine (listFault_any _ _ xs _ hl (unhide HC)).mono ?_; rintro e w' ⟨rfl, rfl⟩)
    go_ret2
    exact ⟨ret_si (sealT_no (by rw [unhide HF]; exact unhide HNE)).symm (unhide HF).symm, Below.refl _ _⟩

end Go.Proofs.YtlhinknmbgijeabDoor

/- Contracts of the program's updates: SlotOf, updateOK, text, EncodeUpdate. -/
namespace Go.Proofs.YtlhinknmbgijeabDoor
open Go.RowKit
set_option linter.unusedVariables false
set_option maxRecDepth 100000

theorem within_inJ (n low high : Int) (w : World) : Calls Tryd.prog 53 #[.int .i64 n, .int .i64 low, .int .i64 high] w fun e w' => e = .returned (.bool (inB n low high)) ∧ w' = w := within_any n low high w

theorem slotOf_impl (h : Int) (w : World) : Calls Tryd.prog 24 #[.int .i64 h] w fun e w' => e = .returned (.tuple #[.int .i64 (slR h), .int .i64 (slC h)]) ∧ w' = w := by
  go_enter Tryd.func24, Tryd.ntmps24
  go_wp2_with fail
  refine (hostOK_any h _).mono ?_
  rintro e w1 ⟨rfl, rfl⟩
  by_cases hh : inB h 0 3 = true
  · have HE : Hid (slR h = slN h ∧ slC h = 0) := hide ⟨if_pos hh, if_pos hh⟩
    have h1 : 0 ≤ h ∧ h ≤ 3 := by simpa [inB] using hh
    have wr1 : IntKind.i64.wrap (6 * h) = 6 * h := by rw [IntKind.wrap_i64]; omega
    have wr2 : IntKind.i64.wrap (39 + 6 * h) = 39 + 6 * h := by rw [IntKind.wrap_i64]; omega
    clear h1
    go_wp2
    go_ret2
    exact ⟨ret_two2 (unhide HE).1.symm (unhide HE).2.symm, rfl⟩
  · have HE : Hid (slR h = 0 ∧ slC h = 4) := hide ⟨if_neg hh, if_neg hh⟩
    rw [Bool.not_eq_true] at hh
    go_wp2
    go_ret2
    exact ⟨ret_two2 (unhide HE).1.symm (unhide HE).2.symm, rfl⟩

set_option maxHeartbeats 1600000 in
theorem updateOK_any (u : Up) (w : World) (hz : u.data.size ≤ maxLen) : Calls Tryd.prog 56 #[uV u] w fun e w' => e = .returned (.bool (upB u)) ∧ Below w.heap.size w w' := by
  unfold maxLen at hz
  go_enter Tryd.func56, Tryd.ntmps56
  go_wp2_with fail
  refine (within_inJ u.at_ 9 38 _).mono ?_
  rintro e w1 ⟨rfl, rfl⟩
  by_cases h1 : inB u.at_ 9 38 = false
  · have hr : Hid (upB u = false) := hide (by simp [upB, h1])
    go_wp2
    go_ret
    rw [unhide hr]
    exact ⟨rfl, Joins.below_alloc1 _ _⟩
  rw [Bool.not_eq_false] at h1
  have hr : Hid (upB u = decide ((u.data.size : Int) ≤ 72)) := hide (by simp [upB, h1]; omega)
  go_wp2
  go_ret
  rw [unhide hr]
  exact ⟨rfl, Joins.below_alloc1 _ _⟩

end Go.Proofs.YtlhinknmbgijeabDoor

/- Contracts of the program's updates: text, EncodeUpdate. -/
namespace Go.Proofs.YtlhinknmbgijeabDoor
open Go.RowKit
set_option linter.unusedVariables false
set_option maxRecDepth 100000

set_option maxHeartbeats 1600000 in
theorem text_any (u : Up) (w : World) (hd : upB u = true) : Calls Tryd.prog 57 #[uV u] w fun e w' => e = .returned (.string (encU u)) ∧ Below w.heap.size w w' := by
  have HD := hide (u1_seal hd)
  have hs1 : (sealS 8 [u.at_]).size = 8 := sealS_size 8 [u.at_]
  have hs2 : u.data.size ≤ 72 := (upB_iff.1 hd).2
  have HV := hide ((VarU.new w 52 u).below (Joins.below_alloc1 _ (.cells #[.int .i64 u.at_] 3)))
  clear hd
  go_enter Tryd.func57, Tryd.ntmps57
  go_wp2_with fail
  refine (sealRecord_impl 8 _ 1 [u.at_] _ (by simp) (is1 _ _ _ _ (by simp))).mono ?_
  rintro e w1 ⟨rfl, hb⟩
  have HB := hide hb
  obtain ⟨c0, c1⟩ := ((unhide HV).below hb).cells
  clear hb
  rw [(unhide HD).1, (unhide HD).2]
  go_wp2
  go_ret
  exact ⟨rfl, fr (Joins.below_alloc2 _ _ _) (unhide HB)⟩

set_option maxHeartbeats 1600000 in
theorem encodeUpdate_impl (u : Up) (w : World) (hz : u.data.size ≤ maxLen) : Calls Tryd.prog 21 #[uV u] w fun e w' => e = .returned (.tuple #[.string (euR u), .int .i64 (euC u)]) ∧ Below w.heap.size w w' := by
  have HZ := hide hz
  clear hz
  go_enter Tryd.func21, Tryd.ntmps21
  go_wp2_with fail
  refine (updateOK_any u _ (unhide HZ)).mono ?_
  rintro e w1 ⟨rfl, hb⟩
  have HB := hide hb
  obtain ⟨hc0, hc1⟩ := ((VarU.new w 52 u).below hb).cells
  clear hb
  by_cases hd : upB u = true
  · have HE : Hid (euR u = encU u ∧ euC u = 0) := hide ⟨if_pos hd, if_pos hd⟩
    have HD := hide hd
    go_wp2_with fail
    refine (text_any u _ (unhide HD)).mono ?_
    rintro e w2 ⟨rfl, hb⟩
    have HB2 := hide hb
    clear hb
    go_wp2
    go_ret2
    exact ⟨ret_su (unhide HE).1.symm (unhide HE).2.symm, fr (fr (Joins.below_alloc1 _ _) (unhide HB)) (unhide HB2)⟩
  · have HE : Hid (euR u = ⟨#[]⟩ ∧ euC u = 1) := hide ⟨if_neg hd, if_neg hd⟩
    rw [Bool.not_eq_true] at hd
    go_wp2
    go_ret2
    exact ⟨ret_su (unhide HE).1.symm (unhide HE).2.symm, fr (Joins.below_alloc1 _ _) (unhide HB)⟩

end Go.Proofs.YtlhinknmbgijeabDoor

/- Contract of impl.readNumbers. -/
namespace Go.Proofs.YtlhinknmbgijeabDoor
open Go.RowKit
set_option linter.unusedVariables false
set_option maxRecDepth 100000

def txt : Value → ByteArray
  | .string s => s
  | _ => ⟨#[]⟩
/-- What is left of a text behind some bytes. -/
def Rest (s u : ByteArray) (k : Nat) : Prop := u.size + k = s.size ∧ ∀ j, j < u.size → byteAt u j = byteAt s (k + j)
theorem Rest.zero (s : ByteArray) : Rest s s 0 := ⟨rfl, fun j _ => by rw [Nat.zero_add]⟩
theorem Rest.num {s u : ByteArray} {k : Nat} (h : Rest s u k) (h4 : 4 ≤ u.size) : numAt u 0 = numAt s k := by
  unfold numAt
  rw [h.2 0 (by omega), h.2 (0 + 1) (by omega), h.2 (0 + 2) (by omega), h.2 (0 + 3) (by omega)]
  simp

theorem cut_size {u : ByteArray} (a : Nat) : (u.extract a u.size).size = u.size - a := by simp
theorem cut_byte {u : ByteArray} {a j : Nat} (h : a + j < u.size) : byteAt (u.extract a u.size) j = byteAt u (a + j) := by
  have h' : a + j < u.data.size := h
  have e : (u.extract a u.size).data = u.data.extract a u.size := by simp
  unfold byteAt
  rw [e, Array.getElem?_extract]
  have : j < u.size - a := by omega
  simp [this]
theorem Rest.cut {s u : ByteArray} {k : Nat} (h : Rest s u k) (h4 : 4 ≤ u.size) : Rest s (u.extract 4 u.size) (k + 4) := by
  refine ⟨by rw [cut_size]; have := h.1; omega, fun j hj => ?_⟩
  rw [cut_size] at hj
  rw [cut_byte (by omega), h.2 (4 + j) (by omega), Nat.add_assoc]

set_option maxHeartbeats 1600000 in
theorem readNumbers_ok (s : ByteArray) (w : World) (h4 : s.size % 4 = 0) (hl : s.size ≤ 64) (hn : ∀ k, k < s.size / 4 → numB (numAt s (k * 4)) = true) :
    Calls Tryd.prog 105 #[.string s] w fun e w' => ∃ v, e = .returned v ∧ OwnN w' w.heap.size v (unL s) ∧ Below w.heap.size w w' := by
  obtain ⟨j0, hj, hy0, hy1, hy2⟩ := info_parts infoM
  have hb4 : ((s.size : Int) % 4 == 0) = true := by simp; omega
  have hli : (s.size : Int) ≤ 64 := by omega
  have HN := hide hn
  clear hn
  go_enter Tryd.func105, Tryd.ntmps105
  go_wp2_with (go_at_call 78; refine (demand_true _).mono ?_; rintro e w' ⟨rfl, hw⟩; replace hw := hw.symm; subst hw)
  go_loopw [0, 3] (fun t o wr => ∃ (k : Nat) (u : ByteArray) (qo : Option Addr) (qa : Nat), k ≤ s.size / 4 ∧ t = .string u ∧ o = .slice qo k qa ∧ u.size + k * 4 = s.size ∧ Hid (Rest s u (k * 4)) ∧ Hid (OwnR wr w.heap.size 3 1 (.slice qo k qa) k (intV ((unL s).take k))) ∧ Hid (Below w.heap.size w wr)) (fun t _ _ => (txt t).size)
  case atStart => exact ⟨0, s, _, _, Nat.zero_le _, rfl, rfl, rfl, hide (Rest.zero s), hide (.inl ⟨rfl, rfl, _, rfl⟩), hide (Below.refl _ _)⟩
  case round =>
    obtain ⟨k, u, qo, qa, hk, rfl, rfl, hu, HR, HO, HB⟩ := hrel
    by_cases hlt : k < s.size / 4
    · have hu4 : 4 ≤ u.size := by omega
      have HNU : Hid (numB (numAt u 0) = true) := hide (by rw [(unhide HR).num hu4]; exact unhide HN k hlt)
      have HNE := hide ((unhide HR).num hu4)
      have hu0 : 0 < u.size := by omega
      have HSZU := hide (cut_size (u := u) 4)
      go_wp2_with fail
      refine (readNumber_ok u _ hu4 (unhide HNU)).mono ?_
      rintro e w1 ⟨rfl, hb1⟩
      have HB1 := hide (fr (unhide HB) hb1)
      have HO1 := hide ((unhide HO).below hb1)
      clear hb1
      have HOA := hide ((unhide HO1).below (Joins.below_alloc1 _ (.cells #[.int .i64 (numAt u 0)] 3)))
      have HBA := hide (fr (unhide HB1) (Joins.below_alloc1 _ (.cells #[.int .i64 (numAt u 0)] 3)))
      have HSZ := hide (unhide HB1).size
      go_wp2_with (at_builtin; refine wpList_append_one rfl _ _ 70 rfl w.heap.size 3 j0 (.int .i64 0) 1 8 Tryd.underlying70 hj hy0 hy1 hy2 rfl (by omega) qo k qa (intV ((unL s).take k)) rfl (unhide HOA) (by have := unhide HSZ; simp; omega) ⟨w1.heap.size, 0, none⟩ _ [.int .i64 (numAt u 0)] rfl rfl (byte_news w1 _ _) (int_one _) (by unfold maxLen; omega) (by omega) ?_; intro g2 cap2 wA hoA hkA; have HSF := hide (And.intro hoA (keep_below (unhide HBA) (unhide HOA) (Nat.le_refl _) hkA)); clear hoA hkA)
      go_roundw
      case rel => exact ⟨k + 1, _, _, _, by omega, rfl, rfl, by rw [unhide HSZU]; omega, hide (by rw [show (k + 1) * 4 = k * 4 + 4 by omega]; exact (unhide HR).cut hu4), hide (.inr ⟨by omega, by rw [unL_succ hlt, intV_snoc, ← unhide HNE]; exact (unhide HSF).1⟩), hide (unhide HSF).2⟩
      case measure => show (u.extract 4 u.size).size < u.size; rw [unhide HSZU]; omega
    · have hke : k = (unL s).length := by rw [unL_length]; omega
      have hu0 : u.size = 0 := by omega
      have HT : Hid ((unL s).take k = unL s) := hide (List.take_of_length_le (by omega))
      have HON : Hid (OwnR wr w.heap.size 3 1 (.slice qo (unL s).length qa) (unL s).length (intV (unL s))) := hide (by have := unhide HO; rw [unhide HT, hke] at this; exact this)
      subst hke
      go_wp2
      go_ret
      exact ⟨.slice qo (unL s).length qa, rfl, ⟨qo, qa, rfl, unhide HON⟩, unhide HB⟩

set_option maxHeartbeats 1600000 in
theorem readNumbers_bad (s : ByteArray) (w : World) (k0 : Nat) (h4 : s.size % 4 = 0) (hl : s.size ≤ 64) (hk0 : k0 < s.size / 4) (hn : ∀ k, k < k0 → numB (numAt s (k * 4)) = true) (hn0 : numB (numAt s (k0 * 4)) = false) (hE : ErrW w) :
    Calls Tryd.prog 105 #[.string s] w fun e w' => (∃ u pv, e = .panicked [{ v := .iface u pv, recovered := false }]) ∧ Below w.heap.size w w' := by
  obtain ⟨j0, hj, hy0, hy1, hy2⟩ := info_parts infoM
  have hb4 : ((s.size : Int) % 4 == 0) = true := by simp; omega
  have hli : (s.size : Int) ≤ 64 := by omega
  have HN := hide hn
  have HN0 := hide hn0
  have HE := hide hE
  clear hn hn0 hE
  go_enter Tryd.func105, Tryd.ntmps105
  go_wp2_with (go_at_call 78; refine (demand_true _).mono ?_; rintro e w' ⟨rfl, hw⟩; replace hw := hw.symm; subst hw)
  go_loopw [0, 3] (fun t o wr => ∃ (k : Nat) (u : ByteArray) (qo : Option Addr) (qa : Nat), k ≤ k0 ∧ t = .string u ∧ o = .slice qo k qa ∧ u.size + k * 4 = s.size ∧ Hid (Rest s u (k * 4)) ∧ Hid (OwnR wr w.heap.size 3 1 (.slice qo k qa) k (intV ((unL s).take k))) ∧ Hid (Below w.heap.size w wr)) (fun t _ _ => (txt t).size)
  case atStart => exact ⟨0, s, _, _, Nat.zero_le _, rfl, rfl, rfl, hide (Rest.zero s), hide (.inl ⟨rfl, rfl, _, rfl⟩), hide (Below.refl _ _)⟩
  case round =>
    obtain ⟨k, u, qo, qa, hk, rfl, rfl, hu, HR, HO, HB⟩ := hrel
    have hlt0 : k < s.size / 4 := by omega
    by_cases hlt : k < k0
    · have hu4 : 4 ≤ u.size := by omega
      have HNU : Hid (numB (numAt u 0) = true) := hide (by rw [(unhide HR).num hu4]; exact unhide HN k hlt)
      have HNE := hide ((unhide HR).num hu4)
      have hu0 : 0 < u.size := by omega
      have HSZU := hide (cut_size (u := u) 4)
      go_wp2_with fail
      refine (readNumber_ok u _ hu4 (unhide HNU)).mono ?_
      rintro e w1 ⟨rfl, hb1⟩
      have HB1 := hide (fr (unhide HB) hb1)
      have HO1 := hide ((unhide HO).below hb1)
      clear hb1
      have HOA := hide ((unhide HO1).below (Joins.below_alloc1 _ (.cells #[.int .i64 (numAt u 0)] 3)))
      have HBA := hide (fr (unhide HB1) (Joins.below_alloc1 _ (.cells #[.int .i64 (numAt u 0)] 3)))
      have HSZ := hide (unhide HB1).size
      go_wp2_with (at_builtin; refine wpList_append_one rfl _ _ 70 rfl w.heap.size 3 j0 (.int .i64 0) 1 8 Tryd.underlying70 hj hy0 hy1 hy2 rfl (by omega) qo k qa (intV ((unL s).take k)) rfl (unhide HOA) (by have := unhide HSZ; simp; omega) ⟨w1.heap.size, 0, none⟩ _ [.int .i64 (numAt u 0)] rfl rfl (byte_news w1 _ _) (int_one _) (by unfold maxLen; omega) (by omega) ?_; intro g2 cap2 wA hoA hkA; have HSF := hide (And.intro hoA (keep_below (unhide HBA) (unhide HOA) (Nat.le_refl _) hkA)); clear hoA hkA)
      go_roundw
      case rel => exact ⟨k + 1, _, _, _, by omega, rfl, rfl, by rw [unhide HSZU]; omega, hide (by rw [show (k + 1) * 4 = k * 4 + 4 by omega]; exact (unhide HR).cut hu4), hide (.inr ⟨by omega, by rw [unL_succ hlt0, intV_snoc, ← unhide HNE]; exact (unhide HSF).1⟩), hide (unhide HSF).2⟩
      case measure => show (u.extract 4 u.size).size < u.size; rw [unhide HSZU]; omega
    · have hu4 : 4 ≤ u.size := by omega
      have hu0 : 0 < u.size := by omega
      have hke : k = k0 := by omega
      have HNU : Hid (numB (numAt u 0) = false) := hide (by rw [(unhide HR).num hu4, hke]; exact unhide HN0)
      go_wp2_with fail
      refine (readNumber_no u _ hu4 (unhide HNU) ((unhide HE).below (unhide HB))).mono ?_
      rintro e w1 ⟨⟨u1, pv, rfl⟩, hb1⟩
      have HB1 := hide (fr (unhide HB) hb1)
      clear hb1
      go_wp2
      exact ⟨rfl, ⟨u1, pv, rfl⟩, unhide HB1⟩

set_option maxHeartbeats 800000 in
theorem readNumbers_form (s : ByteArray) (w : World) (h : s.size % 4 ≠ 0 ∨ 64 < s.size) (hE : ErrW w) :
    Calls Tryd.prog 105 #[.string s] w fun e w' => (∃ u pv, e = .panicked [{ v := .iface u pv, recovered := false }]) ∧ Below w.heap.size w w' := by
  have HE := hide hE
  clear hE
  by_cases h4 : s.size % 4 = 0
  · have hb4 : ((s.size : Int) % 4 == 0) = true := by simp; omega
    have hli : ¬ (s.size : Int) ≤ 64 := by omega
    go_enter Tryd.func105, Tryd.ntmps105
    go_wp2_with (go_at_call 78; refine (demand_false _ (unhide HE)).mono ?_; rintro e w' ⟨⟨u1, pv, rfl⟩, hw⟩; replace hw := hw.symm; subst hw)
    exact ⟨rfl, ⟨_, _, rfl⟩, Below.refl _ _⟩
  · have hb4 : ((s.size : Int) % 4 == 0) = false := by simp; omega
    go_enter Tryd.func105, Tryd.ntmps105
    go_wp2_with (go_at_call 78; refine (demand_false _ (unhide HE)).mono ?_; rintro e w' ⟨⟨u1, pv, rfl⟩, hw⟩; replace hw := hw.symm; subst hw)
    exact ⟨rfl, ⟨_, _, rfl⟩, Below.refl _ _⟩

theorem first_bad {p : Nat → Bool} : ∀ n, (∀ k, k < n → p k = true) ∨ ∃ k0, k0 < n ∧ (∀ k, k < k0 → p k = true) ∧ p k0 = false
  | 0 => .inl (fun k hk => by omega)
  | n + 1 => by
    rcases first_bad (p := p) n with h | ⟨k0, h0, h1, h2⟩
    · cases hp : p n with
      | true => exact .inl (fun k hk => by
          by_cases e : k = n
          · subst e; exact hp
          · exact h k (by omega))
      | false => exact .inr ⟨n, by omega, h, hp⟩
    · exact .inr ⟨k0, by omega, h1, h2⟩

/-- readNumbers, by what the text is. -/
theorem readNumbers_yes (s : ByteArray) (w : World) (h : okU s = true) :
    Calls Tryd.prog 105 #[.string s] w fun e w' => ∃ v, e = .returned v ∧ OwnN w' w.heap.size v (unL s) ∧ Below w.heap.size w w' := by
  have h4 : s.size % 4 = 0 := by
    by_cases h4 : s.size % 4 = 0
    · exact h4
    · rw [okU_rest h4] at h; cases h
  have hl : s.size ≤ 64 := by
    by_cases hl : 64 < s.size
    · rw [okU_long hl] at h; cases h
    · omega
  refine readNumbers_ok s w h4 hl (fun k hk => ?_)
  cases hb : numB (numAt s (k * 4)) with
  | true => rfl
  | false => rw [okU_bad hk hb] at h; cases h
theorem readNumbers_no (s : ByteArray) (w : World) (h : okU s = false) (hE : ErrW w) :
    Calls Tryd.prog 105 #[.string s] w fun e w' => (∃ u pv, e = .panicked [{ v := .iface u pv, recovered := false }]) ∧ Below w.heap.size w w' := by
  by_cases h4 : s.size % 4 = 0
  · by_cases hl : s.size ≤ 64
    · rcases first_bad (p := fun k => numB (numAt s (k * 4))) (s.size / 4) with hg | ⟨k0, h0, h1, h2⟩
      · rw [okU_true h4 hl hg] at h; cases h
      · exact readNumbers_bad s w k0 h4 hl h0 h1 h2 hE
    · exact readNumbers_form s w (.inr (by omega)) hE
  · exact readNumbers_form s w (.inl h4) hE

end Go.Proofs.YtlhinknmbgijeabDoor
