import Derived.Test.YtefnapcegeojoaaGreatDoorXElectPart1
import Derived.WalkKit
import Derived.Test.YtefnapcegeojoaaGreatDoorXElectPart3
import Derived.Test.YtefnapcegeojoaaGreatDoorXElectPart4
import Derived.Test.YtefnapcegeojoaaGreatDoorRows
import Derived.WalkSpells
import Derived.KernelRfl
import Derived.Lib.SmallJoins
import Derived.Laws.BytesArg
import Derived.Laws.CopyRow
import Derived.Laws.CopyOwn
import Derived.Deep.RegionLaw
import Derived.Deep.AppendLies
import Derived.Deep.RegionWith
import Derived.Test.YtefnapcegeojoaaGreatDoorXElectPart2

namespace Go.Proofs.YtefnapcegeojoaaGreatDoor
open Go.RowKit
set_option linter.unusedVariables false

structure Ld where
  ver : Int
  own : Int
  gen : Int
abbrev lV (x : Ld) : Value := .agg #[.int .i64 x.ver, .int .i64 x.own, .int .i64 x.gen]
def ld0 : Ld := ⟨0, 0, 0⟩
def ldN (v : Int) : Ld := ⟨v, -1, 0⟩
def ldB (x : Ld) : Bool := inB x.ver 0 1000000 && ((decide (x.own = -1) && decide (x.gen = 0)) || (decide (0 < x.ver) && (inB x.own 0 3 && inB x.gen 1 1000000)))
theorem ldB_iff {x : Ld} : ldB x = true ↔ (0 ≤ x.ver ∧ x.ver ≤ 1000000) ∧ ((x.own = -1 ∧ x.gen = 0) ∨ (0 < x.ver ∧ (0 ≤ x.own ∧ x.own ≤ 3) ∧ 1 ≤ x.gen ∧ x.gen ≤ 1000000)) := by
  simp only [ldB, inB, Bool.and_eq_true, Bool.or_eq_true, decide_eq_true_eq]
theorem ldB_lo {x : Ld} (h : ldB x = true) : (0 ≤ x.ver ∧ x.ver ≤ 1000000) ∧ (-1 ≤ x.own ∧ x.own ≤ 3) ∧ 0 ≤ x.gen ∧ x.gen ≤ 1000000 := by
  obtain ⟨h1, h2⟩ := ldB_iff.1 h
  omega
theorem ldB_N (v : Int) (h0 : 0 ≤ v) (h1 : v ≤ 1000000) : ldB (ldN v) = true := ldB_iff.2 ⟨⟨h0, h1⟩, .inl ⟨rfl, rfl⟩⟩
def encL (x : Ld) : ByteArray := sealS 6 [x.ver, x.own + 1, x.gen]
theorem encL_size (x : Ld) : (encL x).size = 16 := by rw [encL, sealS_size]; rfl
def elC (x : Ld) : Int := if ldB x = true then 0 else 1
def elR (x : Ld) : ByteArray := if ldB x = true then encL x else ⟨#[]⟩
def ldL (t : ByteArray) : List Int := openL t 6
def ld3 (l : List Int) : Ld := ⟨l.getD 0 0, l.getD 1 0 - 1, l.getD 2 0⟩
def ldD (t : ByteArray) : Bool := openB t 6 && (decide ((ldL t).length = 3) && ldB (ld3 (ldL t)))
def ldK (t : ByteArray) : Ld := if ldD t = true then ld3 (ldL t) else ldN 0
theorem ldD_open {t : ByteArray} (h : openB t 6 = false) : ldD t = false := by simp [ldD, h]
theorem ldD_len {t : ByteArray} (h : ¬ (ldL t).length = 3) : ldD t = false := by simp [ldD, h]
theorem ldD_at {t : ByteArray} {a b c : Int} (h : openB t 6 = true) (hl : ldL t = [a, b, c]) : ldD t = ldB ⟨a, b - 1, c⟩ := by
  have e : ld3 (ldL t) = ⟨a, b - 1, c⟩ := by rw [hl]; rfl
  simp [ldD, h, e]
  rw [hl]; simp
theorem ld_no {t : ByteArray} (h : ldD t = false) : ldK t = ldN 0 := by simp [ldK, h]
theorem ld_yes {t : ByteArray} {a b c : Int} (h : ldD t = true) (hl : ldL t = [a, b, c]) : ldK t = ⟨a, b - 1, c⟩ := by rw [ldK, if_pos h, hl]; rfl
theorem ld_right (t : ByteArray) : ldB (ldK t) = true := by
  by_cases h : ldD t = true
  · have h' := h
    simp only [ldD, Bool.and_eq_true, decide_eq_true_eq] at h'
    rw [ldK, if_pos h]; exact h'.2.2
  · rw [Bool.not_eq_true] at h
    rw [ld_no h]; exact ldB_N 0 (by decide) (by decide)
def lcC (t : ByteArray) : Int := if 65536 < t.size then 2 else if ldD t = true then 0 else 3
def lcK (t : ByteArray) : Ld := if 65536 < t.size then ld0 else if ldD t = true then ldK t else ld0
theorem lc_long {t : ByteArray} (h : 65536 < t.size) : lcK t = ld0 ∧ lcC t = 2 := ⟨if_pos h, if_pos h⟩
theorem lc_no {t : ByteArray} (h : ¬ 65536 < t.size) (hd : ldD t = false) : lcK t = ld0 ∧ lcC t = 3 := ⟨(if_neg h).trans (if_neg (by simp [hd])), (if_neg h).trans (if_neg (by simp [hd]))⟩
theorem lc_yes {t : ByteArray} (h : ¬ 65536 < t.size) (hd : ldD t = true) : lcK t = ldK t ∧ lcC t = 0 := ⟨(if_neg h).trans (if_pos hd), (if_neg h).trans (if_pos hd)⟩
theorem ret_li {a b : Ld} {x y : Int} (h : a = b) (k : x = y) : Ending.returned (.tuple #[lV a, .int .i64 x]) = .returned (.tuple #[lV b, .int .i64 y]) := by rw [h, k]
theorem ret_lb {a b : Ld} {x y : Bool} (h : a = b) (k : x = y) : Ending.returned (.tuple #[lV a, .bool x]) = .returned (.tuple #[lV b, .bool y]) := by rw [h, k]
theorem ret_sl {a b : ByteArray} {c d : Int} (h : a = b) (k : c = d) : Ending.returned (.tuple #[.string a, .int .i64 c]) = .returned (.tuple #[.string b, .int .i64 d]) := by rw [h, k]
theorem l3_nums {x : Ld} (hd : ldB x = true) : ∀ j (hj : j < [x.ver, x.own + 1, x.gen].length), 0 ≤ [x.ver, x.own + 1, x.gen][j] ∧ [x.ver, x.own + 1, x.gen][j] ≤ 2147483647 := by
  obtain ⟨h1, h2, h3⟩ := ldB_lo hd
  intro j hj
  have hj' : j < 3 := hj
  rcases (show j = 0 ∨ j = 1 ∨ j = 2 by omega) with rfl | rfl | rfl <;> simp <;> omega
theorem l3_ints {x : Ld} (hd : ldB x = true) : intsB [x.ver, x.own + 1, x.gen] = true := by
  obtain ⟨h1, h2, h3⟩ := ldB_lo hd
  rw [intsB_len]
  · rfl
  · intro j hj
    have hj' : j < 3 := hj
    rcases (show j = 0 ∨ j = 1 ∨ j = 2 by omega) with rfl | rfl | rfl <;> simp [numB, inB] <;> omega
theorem l3_seal {x : Ld} (hd : ldB x = true) : sealC 6 [x.ver, x.own + 1, x.gen] = 0 ∧ sealT 6 [x.ver, x.own + 1, x.gen] = encL x := by
  have hc : sealC 6 [x.ver, x.own + 1, x.gen] = 0 := sealC_ok (listC_ok (by simp) (l3_ints hd)) rfl
  exact ⟨hc, sealT_ok hc⟩
theorem open_nums {t : ByteArray} {k : Int} (h : openB t k = true) : ∀ x ∈ openL t k, 0 ≤ x ∧ x ≤ 2147483647 := by
  intro x hx
  rw [openL_yes h] at hx
  simp only [openB, Bool.and_eq_true] at h
  obtain ⟨_, _, _, _, _, hu⟩ := recB_iff.1 h.1
  obtain ⟨j, hj, rfl⟩ := List.mem_iff_getElem.1 hx
  exact (intsB_parts (okU_parts hu).2.2).1 j hj
theorem open_mid {t : ByteArray} {a b c : Int} (h : openB t 6 = true) (hl : ldL t = [a, b, c]) : IntKind.i64.wrap (b - 1) = b - 1 := by
  have := open_nums h b (by rw [show openL t 6 = [a, b, c] from hl]; simp)
  rw [IntKind.wrap_i64]; omega
end Go.Proofs.YtefnapcegeojoaaGreatDoor

namespace Go.Proofs.YtefnapcegeojoaaGreatDoor
open Go.RowKit
set_option linter.unusedVariables false
set_option maxRecDepth 100000

theorem hidB {p : Prop} (h : p) : Hid p := h
def betw (n low high : Int) : Bool := decide (low ≤ n) && decide (n ≤ high)
theorem betw_yes {n low high : Int} (h : low ≤ n) (h' : n ≤ high) : betw n low high = true := by simp [betw, h, h']
theorem betw_no {n low high : Int} (h : ¬ (low ≤ n ∧ n ≤ high)) : betw n low high = false := by simp only [betw, Bool.and_eq_false_iff, decide_eq_false_iff_not]; omega
set_option maxHeartbeats 800000 in
theorem within_any (n low high : Int) (w : World) : Calls Tryz.prog 48 #[.int .i64 n, .int .i64 low, .int .i64 high] w fun e w' => e = .returned (.bool (betw n low high)) ∧ w' = w := by
  by_cases h1 : low ≤ n
  · by_cases h2 : n ≤ high
    · have hr := hidB (betw_yes h1 h2)
      go_enter Tryz.func48, Tryz.ntmps48
      go_wp2
      go_ret
      rw [show betw n low high = true from hr]
      exact ⟨rfl, rfl⟩
    · have hr := hidB (betw_no (n := n) (low := low) (high := high) (by omega))
      go_enter Tryz.func48, Tryz.ntmps48
      go_wp2
      go_ret
      rw [show betw n low high = false from hr]
      exact ⟨rfl, rfl⟩
  · have hr := hidB (betw_no (n := n) (low := low) (high := high) (by omega))
    go_enter Tryz.func48, Tryz.ntmps48
    go_wp2
    go_ret
    rw [show betw n low high = false from hr]
    exact ⟨rfl, rfl⟩
end Go.Proofs.YtefnapcegeojoaaGreatDoor

namespace Go.Proofs.YtefnapcegeojoaaGreatDoor
open Go.RowKit
set_option linter.unusedVariables false
set_option maxRecDepth 100000

theorem block_alloc {w : World} {g : Nat} {c : Array Value} {t : TypeId} {f : Nat × Nat} (h : w.heap[g]? = some (.cells c t f)) (o : Obj) : (w.alloc o).heap[g]? = some (.cells c t f) := by
  rw [(Joins.below_alloc1 w o).block g (Array.getElem?_eq_some_iff.1 h).1]; exact h

def arrL (xs : List Int) (k : Nat) : List Value := byteV (packL (xs.take k)) ++ List.replicate (64 - k * 4) (.int .u8 0)
theorem arrL_zero (xs : List Int) : arrL xs 0 = List.replicate 64 (.int .u8 0) := by simp [arrL, packL, byteV]
theorem four_lit {n : Int} (h : 0 ≤ n) (h' : n ≤ 2147483647) : [Value.int .u8 (n % 256), .int .u8 (n / 256 % 256), .int .u8 (n / 65536 % 256), .int .u8 (n / 16777216)] = byteV (four n) := by
  have e : n / 16777216 = n / 16777216 % 256 := by omega
  have : byteV (four n) = [Value.int .u8 (n / (256 : Int) ^ 0 % 256), .int .u8 (n / (256 : Int) ^ 1 % 256), .int .u8 (n / (256 : Int) ^ 2 % 256), .int .u8 (n / (256 : Int) ^ 3 % 256)] := rfl
  rw [this, e]
  simp
theorem arrL_length {xs : List Int} {k : Nat} (hl : xs.length ≤ 16) (hk : k ≤ xs.length) : (arrL xs k).length = 64 := by
  rw [arrL, List.length_append, byteV_length, packL_length, List.length_replicate, List.length_take, Nat.min_eq_left hk]
  omega
theorem arrL_splice {xs : List Int} {k : Nat} (hl : xs.length ≤ 16) (hk : k < xs.length) : splice (arrL xs k) (k * 4) (byteV (four xs[k])) = arrL xs (k + 1) := by
  have h1 : (byteV (packL (xs.take k))).length = k * 4 := by rw [byteV_length, packL_length, List.length_take, Nat.min_eq_left (by omega)]
  have h4 : (byteV (four xs[k])).length = 4 := by rw [byteV_length, four, fourTo_length]
  unfold splice arrL
  rw [h4, List.take_append_of_le_length (by omega), List.take_of_length_le (by omega), List.drop_append, List.drop_of_length_le (by omega), List.nil_append, h1, packL_succ hk, List.drop_replicate]
  rw [show k * 4 + 4 - k * 4 = 4 by omega, show 64 - k * 4 - 4 = 64 - (k + 1) * 4 by omega]
  simp [byteV]
theorem arrL_cells {W : World} {g : Nat} {t : TypeId} {xs : List Int} (h : W.heap[g]? = some (.cells (arrL xs xs.length).toArray t (0, 0))) : ∀ i, i < xs.length * 4 → W.cell? ⟨g, 0 + i, none⟩ = some (.int .u8 ((packL xs).getD i 0)) := by
  intro i hi
  rw [Nat.zero_add, Joins.cell_of_block h]
  have hl : i < (packL xs).length := by rw [packL_length]; exact hi
  simp [arrL, byteV, List.getElem?_append_left, hl, List.getD]
theorem lit_one (a b c d : Int) : ∀ v ∈ [Value.int .u8 a, .int .u8 b, .int .u8 c, .int .u8 d], v.oneCell' = true := by
  intro v hv
  simp at hv
  rcases hv with rfl | rfl | rfl | rfl <;> rfl
theorem sizeB : (Tryz.prog.info? 5).map (·.size) = some 1 := by kernel_rfl
theorem runB (W : World) : (Go.sizeOf 5).run Tryz.prog W = .ok 1 W := by
  have h := sizeB
  cases hq : Tryz.prog.info? 5 with
  | none => simp [hq] at h
  | some i =>
    have hi : i.size = 1 := by simpa [hq] using h
    simp [Go.sizeOf, typeInfo, hq, hi]
theorem arr64 : Tryz.prog.arrayLen 150 = 64 := by kernel_rfl
theorem und64 : Tryz.prog.underlying 150 = some (.array (Tryz.prog.arrayLen 150) (Tryz.prog.elem 150)) := by kernel_rfl
theorem elem64 : Tryz.prog.elem 150 = 5 := by kernel_rfl
theorem wrap4 (k : Nat) (hk : k ≤ 16) : IntKind.i64.wrap ((k : Int) * 4) = ((k * 4 : Nat) : Int) := by
  rw [IntKind.wrap_i64]
  omega
theorem slice64 (W : World) (g k : Nat) (hk : k < 16) : (Instr.sliceAt 150 (.pointer (some ⟨g, 0, none⟩)) (some (.int .i64 (IntKind.i64.wrap ((k : Int) * 4)))) none none).run Tryz.prog W = .ok (.slice (some ⟨g, k * 4, none⟩) (64 - k * 4) (64 - k * 4)) W := by
  rw [wrap4 k (by omega), run_sliceAt_array_l W _ _ und64 .i64 _ (by omega) (by rw [arr64]; omega), elem64, runB, arr64]
  simp only [Result.andThen, slicedAt, Int.toNat_natCast, Nat.mul_one]
  rw [if_neg (by omega), show Addr.add ⟨g, 0, none⟩ (k * 4) = ⟨g, k * 4, none⟩ from by unfold Addr.add; split <;> simp_all]
theorem slice64h (W : World) (g k : Nat) (hk : k ≤ 16) : (Instr.sliceAt 150 (.pointer (some ⟨g, 0, none⟩)) none (some (.int .i64 ((k : Int) * 4))) none).run Tryz.prog W = .ok (.slice (some ⟨g, 0, none⟩) (k * 4) 64) W := by
  rw [run_sliceAt_array_h W _ _ und64 .i64 _ (by omega) (by rw [arr64]; omega), elem64, runB, arr64]
  simp only [Result.andThen, slicedAt, Nat.mul_one, Nat.sub_zero]
  rw [if_neg (by omega), show ((k : Int) * 4).toNat = k * 4 by omega]
  rfl

set_option maxHeartbeats 1600000 in
theorem packNumbers_any (ao : Option Addr) (cap : Nat) (xs : List Int) (w : World) (hl : xs.length ≤ 16) (hn : ∀ j (h : j < xs.length), 0 ≤ xs[j] ∧ xs[j] ≤ 2147483647) (hc : Is w ao xs) :
    Calls Tryz.prog 91 #[.slice ao xs.length cap] w fun e w' => e = .returned (.string (packS xs)) ∧ Below w.heap.size w w' := by
  have HC := hide hc
  have HN := hide hn
  clear hc hn
  go_enter Tryz.func91, Tryz.ntmps91
  go_wp2
  go_loopw [9] (fun i wr => ∃ k : Nat, k ≤ xs.length ∧ i = .int .i64 k ∧ Hid (wr.heap[w.heap.size]? = some (.cells (arrL xs k).toArray 150 (0, 0))) ∧ Hid (Below w.heap.size w wr)) (fun i _ => xs.length - (intOf i).toNat)
  case atStart => exact ⟨0, Nat.zero_le _, rfl, hide (by rw [arrL_zero]; exact heap_alloc_new w _), hide (Joins.below_alloc1 _ _)⟩
  case round =>
    obtain ⟨k, hk, rfl, HO, HB⟩ := hrel
    by_cases hlt : k < xs.length
    · obtain ⟨b, off, rfl, hc⟩ := (unhide HC).below (unhide HB) k hlt
      obtain ⟨h0, h1⟩ := unhide HN k hlt
      have HBA := hide (fr (unhide HB) (Joins.below_alloc1 _ (.cells #[.int .u8 (xs[k] % 256), .int .u8 (xs[k] / 256 % 256), .int .u8 (xs[k] / 65536 % 256), .int .u8 (xs[k] / 16777216)] 113)))
      have HOA := hide (block_alloc (unhide HO) (.cells #[.int .u8 (xs[k] % 256), .int .u8 (xs[k] / 256 % 256), .int .u8 (xs[k] / 65536 % 256), .int .u8 (xs[k] / 16777216)] 113))
      have HL := hide (arrL_length hl hk)
      have HNW := hide (World.news_of_block (cs := #[.int .u8 (xs[k] % 256), .int .u8 (xs[k] / 256 % 256), .int .u8 (xs[k] / 65536 % 256), .int .u8 (xs[k] / 16777216)]) (heap_alloc_new wr (.cells #[.int .u8 (xs[k] % 256), .int .u8 (xs[k] / 256 % 256), .int .u8 (xs[k] / 65536 % 256), .int .u8 (xs[k] / 16777216)] 113)))
      have HE := hide (four_lit h0 h1)
      have HSP := hide (arrL_splice hl hlt)
      have hsl := fun W => slice64 W w.heap.size k (by omega)
      go_wp2
      go_region_law (refine step_copy_splice ?_ (.tmp 28) (.tmp 29) 22 22 ?_ 5 Tryz.underlying22 sizeB (some ⟨w.heap.size, k * 4, none⟩) (some ⟨wr.heap.size, 0, none⟩) (64 - k * 4) (64 - k * 4) 4 4 ?_ ?_ w.heap.size (k * 4) (arrL xs k) 150 ?_ [.int .u8 (xs[k] % 256), .int .u8 (xs[k] / 256 % 256), .int .u8 (xs[k] / 65536 % 256), .int .u8 (xs[k] / 16777216)] ?_ ?_ ?_ (lit_one _ _ _ _) w.heap.size w ?_ (Nat.le_refl _) ?_
                     · rfl
                     · rfl
                     · rfl
                     · rfl
                     · exact unhide HOA
                     · simp only [List.length_cons, List.length_nil]; exact (Nat.min_eq_left (by omega)).symm
                     · exact fun _ => ⟨rfl, _, rfl, unhide HNW⟩
                     · rw [unhide HL]; simp only [List.length_cons, List.length_nil]; omega
                     · exact (unhide HBA).drew
                     intro w4 hg4 hb4)
      all_goals
        have HSF : Hid (w4.heap[w.heap.size]? = some (.cells (arrL xs (k + 1)).toArray 150 (0, 0))) := by rw [← unhide HSP, ← unhide HE]; exact hg4
        have HBF := hide hb4
        clear hg4 hb4 hsl
        go_wp2
        go_roundw
        case rel => exact ⟨k + 1, by omega, by go_num, HSF, HBF⟩
        case measure => simp [intOf]; omega
    · have hkn : k = xs.length := by omega
      subst hkn
      have hsl := slice64h wr w.heap.size xs.length hl
      have hcv := run_convert_bytes_arg (P := Tryz.prog) wr 22 5 Tryz.underlying22 Tryz.underlying5 w.heap.size 0 (xs.length * 4) 64 (packL xs) (packL_length xs) (arrL_cells (unhide HO)) 9 Tryz.underlying9
      go_wp2
      go_ret
      exact ⟨rfl, unhide HB⟩

end Go.Proofs.YtefnapcegeojoaaGreatDoor

namespace Go.Proofs.YtefnapcegeojoaaGreatDoor
open Go.RowKit
set_option linter.unusedVariables false
set_option maxRecDepth 100000

theorem nums_no {xs : List Int} {k : Nat} (hk : k < xs.length) (h : numB xs[k] = false) : xs.all numB = false := all_not (p := numB) hk h
theorem nums_all {xs : List Int} (h : ∀ j (hj : j < xs.length), numB xs[j] = true) : xs.all numB = true := all_of (p := numB) (fun i hi _ => h i hi)

set_option maxHeartbeats 800000 in
theorem areNumbers_any (ao : Option Addr) (cap : Nat) (xs : List Int) (w : World) (hl : xs.length ≤ maxLen) (hc : Is w ao xs) :
    Calls Tryz.prog 124 #[.slice ao xs.length cap] w fun e w' => e = .returned (.bool (xs.all numB)) ∧ w' = w := by
  have HC := hide hc
  clear hc
  unfold maxLen at hl
  obtain ⟨R, HR⟩ : ∃ R, Hid (R = xs.all numB) := ⟨_, hide rfl⟩
  rw [← unhide HR]
  go_enter Tryz.func124, Tryz.ntmps124
  go_wp2
  go_loop [7] (fun i => ∃ k : Nat, k ≤ xs.length ∧ i = .int .i64 k ∧ Hid (∀ j (h : j < xs.length), j < k → numB xs[j] = true)) (fun i => xs.length - (intOf i).toNat)
  case atStart => exact ⟨0, Nat.zero_le _, rfl, hide (fun j _ h => by omega)⟩
  case round =>
    obtain ⟨k, hk, rfl, HA⟩ := hrel
    by_cases hlt : k < xs.length
    · obtain ⟨b, off, rfl, hc⟩ := unhide HC k hlt
      cases hn : numB xs[k]
      · have HF := hide (nums_no hlt hn)
        go_wp2_with (go_at_call 144; refine (isNumber_any _ _).mono ?_; rintro e w' ⟨rfl, hw⟩; replace hw := hw.symm; subst hw; rw [hn])
        go_ret
        exact ⟨ret_bool (by rw [unhide HR, unhide HF]), rfl⟩
      · have HN := hide (all_succ hlt (unhide HA) hn)
        go_wp2_with (go_at_call 144; refine (isNumber_any _ _).mono ?_; rintro e w' ⟨rfl, hw⟩; replace hw := hw.symm; subst hw; rw [hn])
        go_round
        case rel => exact ⟨k + 1, by omega, by go_num, HN⟩
        case measure => simp [intOf]; omega
    · have HF := hide (nums_all (fun j h => unhide HA j h (by omega)))
      go_wp2
      go_ret
      exact ⟨ret_bool (by rw [unhide HR, unhide HF]), rfl⟩

end Go.Proofs.YtefnapcegeojoaaGreatDoor

namespace Go.Proofs.YtefnapcegeojoaaGreatDoor
open Go.RowKit
set_option linter.unusedVariables false
set_option maxRecDepth 100000

theorem intsB_all_no {xs : List Int} (h : xs.all numB = false) : intsB xs = false := by rw [intsB, allB, h]; rfl
theorem intsB_all {xs : List Int} (hl : xs.length ≤ 16) (h : xs.all numB = true) : intsB xs = true := by rw [intsB, allB, h, decide_eq_true hl]; rfl

set_option maxHeartbeats 800000 in
theorem listFault_any (ao : Option Addr) (cap : Nat) (xs : List Int) (w : World) (hl : xs.length ≤ 1048576) (hc : Is w ao xs) :
    Calls Tryz.prog 89 #[.slice ao xs.length cap] w fun e w' => e = .returned (.int .i64 (listC xs)) ∧ w' = w := by
  have HC := hide hc
  clear hc
  by_cases h1 : 4096 < xs.length
  · have HF := hide (listC_long h1)
    go_enter Tryz.func89, Tryz.ntmps89
    go_wp2
    go_ret
    exact ⟨ret_int (unhide HF).symm, rfl⟩
  by_cases h2 : 16 < xs.length
  · have HF := hide (listC_bad h1 (intsB_long h2))
    go_enter Tryz.func89, Tryz.ntmps89
    go_wp2
    go_ret
    exact ⟨ret_int (unhide HF).symm, rfl⟩
  cases hn : xs.all numB
  · have HF := hide (listC_bad h1 (intsB_all_no hn))
    go_enter Tryz.func89, Tryz.ntmps89
    go_wp2_with (go_at_call 124; refine (areNumbers_any _ _ _ _ (by unfold maxLen; omega) (unhide HC)).mono ?_; rintro e w' ⟨rfl, hw⟩; replace hw := hw.symm; subst hw; rw [hn])
    go_ret
    exact ⟨ret_int (unhide HF).symm, rfl⟩
  · have HF := hide (listC_ok (xs := xs) h1 (intsB_all (by omega) hn))
    go_enter Tryz.func89, Tryz.ntmps89
    go_wp2_with (go_at_call 124; refine (areNumbers_any _ _ _ _ (by unfold maxLen; omega) (unhide HC)).mono ?_; rintro e w' ⟨rfl, hw⟩; replace hw := hw.symm; subst hw; rw [hn])
    go_ret
    exact ⟨ret_int (unhide HF).symm, rfl⟩

end Go.Proofs.YtefnapcegeojoaaGreatDoor

namespace Go.Proofs.YtefnapcegeojoaaGreatDoor
set_option linter.unusedVariables false

theorem ret_si {a b : ByteArray} {c d : Int} (h : a = b) (k : c = d) : Ending.returned (.tuple #[.string a, .int .i64 c]) = .returned (.tuple #[.string b, .int .i64 d]) := by rw [h, k]

end Go.Proofs.YtefnapcegeojoaaGreatDoor

namespace Go.Proofs.YtefnapcegeojoaaGreatDoor
open Go.RowKit
set_option linter.unusedVariables false
set_option maxRecDepth 100000

theorem kindOK_any (n : Int) (w : World) : Calls Tryz.prog 90 #[.int .i64 n] w fun e w' => e = .returned (.bool (kindB n)) ∧ w' = w := by
  go_enter Tryz.func90, Tryz.ntmps90
  go_wp2
  all_goals
    go_ret
    exact ⟨ret_bool (by rw [Bool.eq_iff_iff]; simp [kindB, inB]; omega), rfl⟩

end Go.Proofs.YtefnapcegeojoaaGreatDoor

namespace Go.Proofs.YtefnapcegeojoaaGreatDoor
open Go.RowKit
set_option linter.unusedVariables false
set_option maxRecDepth 100000

theorem arr2 (W : World) (g : Nat) (a b c d : Int) (h : W.heap.size = g) : (convert 22 9 (.slice (some ⟨g, 0, none⟩) 2 4)).run Tryz.prog (W.alloc (.cells #[.int .u8 a, .int .u8 b, .int .u8 c, .int .u8 d] 113)) = .ok (.string (strOfNums [a, b])) (W.alloc (.cells #[.int .u8 a, .int .u8 b, .int .u8 c, .int .u8 d] 113)) := by
  subst h
  refine run_convert_bytes_arg _ 22 5 Tryz.underlying22 Tryz.underlying5 W.heap.size 0 2 4 [a, b] rfl ?_ 9 Tryz.underlying9
  intro i hi
  rcases (show i = 0 ∨ i = 1 by omega) with rfl | rfl <;> simp [go_sem, List.getD]
theorem arr4 (W : World) (g : Nat) (a b c d : Int) (h : W.heap.size = g) : (convert 22 9 (.slice (some ⟨g, 0, none⟩) 4 4)).run Tryz.prog (W.alloc (.cells #[.int .u8 a, .int .u8 b, .int .u8 c, .int .u8 d] 113)) = .ok (.string (strOfNums [a, b, c, d])) (W.alloc (.cells #[.int .u8 a, .int .u8 b, .int .u8 c, .int .u8 d] 113)) := by
  subst h
  refine run_convert_bytes_arg _ 22 5 Tryz.underlying22 Tryz.underlying5 W.heap.size 0 4 4 [a, b, c, d] rfl ?_ 9 Tryz.underlying9
  intro i hi
  rcases (show i = 0 ∨ i = 1 ∨ i = 2 ∨ i = 3 by omega) with rfl | rfl | rfl | rfl <;> simp [go_sem, List.getD]
theorem sum_impl (k : Int) (xs : List Int) (w : World) (hl : xs.length ≤ 16) : Calls Tryz.prog 92 #[.string (strOfNums [k, (xs.length : Int)] ++ packS xs)] w fun e w' => e = .returned (.int .i64 (sumR k xs)) ∧ w' = w := by
  have h := sumOf_impl (sumT k xs) w (by rw [sumT_size]; omega)
  rw [sumC_short (by rw [sumT_size]; omega)] at h
  exact h

set_option maxHeartbeats 1600000 in
theorem sealRecord_impl (k : Int) (ao : Option Addr) (cap : Nat) (xs : List Int) (w : World) (hl : xs.length ≤ 1048576) (hc : Is w ao xs) :
    Calls Tryz.prog 43 #[.int .i64 k, .slice ao xs.length cap] w fun e w' => e = .returned (.tuple #[.string (sealT k xs), .int .i64 (sealC k xs)]) ∧ Below w.heap.size w w' := by
  have HC := hide hc
  clear hc
  by_cases h2 : listC xs = 0
  · have HL := hide h2
    have hb : (listC xs != 0) = false := by simp [h2]
    have HP := hide (intsB_parts (listC_zero h2))
    clear h2
    by_cases h3 : kindB k = true
    · have HF := hide (sealC_ok (unhide HL) h3)
      obtain ⟨hk0, hk1⟩ := kindB_in h3
      have hl16 := (unhide HP).2
      have hp := packS_size xs
      have hs2 : (strOfNums [k, (xs.length : Int)]).size = 2 := strOfNums_size _
      have hs4 : (strOfNums [k, (xs.length : Int), sumR k xs, 0]).size = 4 := strOfNums_size _
      obtain ⟨hr0, hr1⟩ := sumR_in k xs
      go_enter Tryz.func43, Tryz.ntmps43
      go_wp2_with (first | (go_at_call 89; refine (listFault_any _ _ xs _ hl (unhide HC)).mono ?_; rintro e w' ⟨rfl, rfl⟩) | (go_at_call 90; refine (kindOK_any _ _).mono ?_; rintro e w' ⟨rfl, rfl⟩) | (go_at_call 91; refine (packNumbers_any _ _ xs _ (unhide HP).2 (unhide HP).1 (unhide HC)).mono ?_; rintro e w1 ⟨rfl, hb1⟩; have HB1 := hide hb1; clear hb1; have hc2 := arr2 w1 w1.heap.size k xs.length 0 0 rfl) | (go_at_call 92; refine (sum_impl k xs _ hl16).mono ?_; rintro e w' ⟨rfl, rfl⟩; have hc4 := arr4 w1 w1.heap.size k xs.length (sumR k xs) 0 rfl))
      go_ret2
      exact ⟨ret_si (sealT_ok (unhide HF)).symm (unhide HF).symm, fr (unhide HB1) (Joins.below_alloc1 _ _)⟩
    · have h4 : kindB k = false := by simpa using h3
      have HF := hide (sealC_kind (unhide HL) h4)
      clear h3
      go_enter Tryz.func43, Tryz.ntmps43
      go_wp2_with (first | (go_at_call 89; refine (listFault_any _ _ xs _ hl (unhide HC)).mono ?_; rintro e w' ⟨rfl, rfl⟩) | (go_at_call 90; refine (kindOK_any _ _).mono ?_; rintro e w' ⟨rfl, rfl⟩))
      go_ret2
      exact ⟨ret_si (sealT_no (by rw [unhide HF]; decide)).symm (unhide HF).symm, Below.refl _ _⟩
  · have HF := hide (sealC_list (k := k) h2)
    have HNE := hide h2
    have hb : (listC xs != 0) = true := by simp [h2]
    clear h2
    go_enter Tryz.func43, Tryz.ntmps43
    go_wp2_with (go_at_call 89; refine (listFault_any _ _ xs _ hl (unhide HC)).mono ?_; rintro e w' ⟨rfl, rfl⟩)
    go_ret2
    exact ⟨ret_si (sealT_no (by rw [unhide HF]; exact unhide HNE)).symm (unhide HF).symm, Below.refl _ _⟩

end Go.Proofs.YtefnapcegeojoaaGreatDoor

namespace Go.Proofs.YtefnapcegeojoaaGreatDoor
open Go.RowKit
set_option linter.unusedVariables false
set_option maxRecDepth 100000

theorem genOK_any (n : Int) (w : World) : Calls Tryz.prog 75 #[.int .i64 n] w fun e w' => e = .returned (.bool (inB n 1 1000000)) ∧ w' = w := by
  go_enter Tryz.func75, Tryz.ntmps75
  go_wp2_with fail
  refine (within_any n 1 1000000 _).mono ?_
  rintro e w1 ⟨rfl, rfl⟩
  go_wp2
  go_ret
  exact ⟨rfl, rfl⟩
theorem is3i (w : World) (n : Nat) (t : TypeId) (a b c : Int) (hn : w.heap.size = n) : Is (w.alloc (.cells #[.int .i64 a, .int .i64 b, .int .i64 c] t)) (some ⟨n, 0, none⟩) [a, b, c] := by
  subst hn
  intro i hi
  have hi' : i < 3 := hi
  refine ⟨w.heap.size, 0, rfl, ?_⟩
  rcases (show i = 0 ∨ i = 1 ∨ i = 2 by omega) with rfl | rfl | rfl <;> simp [go_sem]

end Go.Proofs.YtefnapcegeojoaaGreatDoor

namespace Go.Proofs.YtefnapcegeojoaaGreatDoor
set_option linter.unusedVariables false

structure Bk where
  ver : Int
  mbal : Int
  bal : Int
  inp : Int
structure Pxs where
  host : Int
  ver : Int
  phase : Int
  ballot : Int
  value : Int
  next : Int
  best : Int
  bestBal : Int
def bk0 : Bk := ⟨0, 0, 0, 0⟩
def bkOf (b : Bk) (v : Int) : Bk := if b.ver < v then ⟨v, 0, 0, 0⟩ else b
def pxW1 (p : Pxs) (own : Bk) : Pxs := if p.phase = 1 then { p with phase := 2, next := 0, best := own.inp, bestBal := own.bal } else { p with phase := 4, next := 0 }
def pxW2 (p : Pxs) (own : Bk) : Bk := if p.phase = 1 then ⟨p.ver, p.ballot, own.bal, own.inp⟩ else ⟨p.ver, p.ballot, p.ballot, p.value⟩
def pxEnd (p : Pxs) : Pxs := if p.next < 4 then p else if p.phase = 4 then { p with phase := 5 } else { p with phase := 3, value := if 0 < p.bestBal then p.best else p.value }
def skip (p : Pxs) (n : Int) : Int := if n = p.host then n + 1 else n
def pxLook (p : Pxs) (b : Bk) : Pxs := { p with next := skip p (p.next + 1), best := if p.phase = 2 ∧ p.bestBal < b.bal then b.inp else p.best, bestBal := if p.phase = 2 ∧ p.bestBal < b.bal then b.bal else p.bestBal }
def pxRd (p0 : Pxs) (bs : List Bk) : Pxs :=
  let p := { p0 with next := skip p0 p0.next }
  if p.next < 4 then
    let b := bkOf (bs.getD p.next.toNat bk0) p.ver
    if p.ver < b.ver ∨ p.ballot < b.mbal then { p with phase := 6 } else pxEnd (pxLook p b)
  else pxEnd p
def pxOwn (p : Pxs) (bs : List Bk) : Bk := bkOf (bs.getD p.host.toNat bk0) p.ver
abbrev pxNo (p : Pxs) (own : Bk) : Prop := p.ver < own.ver ∨ p.ballot < own.mbal ∨ (p.phase = 1 ∧ own.mbal = p.ballot) ∨ (p.phase = 3 ∧ own.mbal ≠ p.ballot)

abbrev HS := Nat → Pxs
def pxStepP (p : Pxs) (bs : List Bk) : Pxs × List Bk :=
  if p.phase = 5 ∨ p.phase = 6 then (p, bs)
  else if p.phase = 2 ∨ p.phase = 4 then (pxRd p bs, bs)
  else if pxNo p (pxOwn p bs) then ({ p with phase := 6 }, bs)
  else (pxW1 p (pxOwn p bs), bs.set p.host.toNat (pxW2 p (pxOwn p bs)))
def nxMax (v : Int) : List Bk → Int → Int
  | [], n => n
  | b :: r, n => nxMax v r (max n (bkOf b v).mbal)
def nxBal (h v : Int) (bs : List Bk) : Int := (Int.tdiv (nxMax v bs 0) 4 + 1) * 4 + h
def px0 : Pxs := ⟨0, 0, 0, 0, 0, 0, 0, 0⟩
def runAt (vs : List Int) (st : List Pxs × List Bk) (h : Nat) : List Pxs × List Bk :=
  let p := st.1.getD h px0
  let p1 := if p.phase = 6 then ⟨h, 0, 1, nxBal h 0 st.2, vs.getD h 0, 0, 0, 0⟩ else p
  let r := pxStepP p1 st.2
  (st.1.set h r.1, r.2)
def run (vs : List Int) : List Nat → List Pxs × List Bk → List Pxs × List Bk
  | [], st => st
  | h :: r, st => run vs r (runAt vs st h)
theorem nxMax_ge (v : Int) : ∀ (bs : List Bk) (n : Int), n ≤ nxMax v bs n
  | [], n => Int.le_refl n
  | b :: r, n => by
    have := nxMax_ge v r (max n (bkOf b v).mbal)
    show n ≤ nxMax v r (max n (bkOf b v).mbal)
    omega
theorem nxMax_mem (v : Int) : ∀ (bs : List Bk) (n : Int) (i : Nat), i < bs.length → (bkOf (bs.getD i bk0) v).mbal ≤ nxMax v bs n
  | [], _, i, h => absurd h (Nat.not_lt_zero i)
  | b :: r, n, 0, _ => by
    have := nxMax_ge v r (max n (bkOf b v).mbal)
    show (bkOf b v).mbal ≤ nxMax v r (max n (bkOf b v).mbal)
    omega
  | b :: r, n, i + 1, h => nxMax_mem v r _ i (Nat.lt_of_succ_lt_succ h)
theorem pxEnd_lt {p : Pxs} (h : p.next < 4) : pxEnd p = p := if_pos h
theorem pxEnd_4 {p : Pxs} (h : ¬ p.next < 4) (e : p.phase = 4) : pxEnd p = { p with phase := 5 } := by unfold pxEnd; rw [if_neg h, if_pos e]
theorem pxEnd_2 {p : Pxs} (h : ¬ p.next < 4) (e : p.phase = 2) : pxEnd p = { p with phase := 3, value := if 0 < p.bestBal then p.best else p.value } := by unfold pxEnd; rw [if_neg h, if_neg (by rw [e]; decide)]

theorem pxStepP_end {p : Pxs} (bs : List Bk) (e : p.phase = 5 ∨ p.phase = 6) : pxStepP p bs = (p, bs) := if_pos e
theorem pxStepP_rd {p : Pxs} (bs : List Bk) (e : p.phase = 2 ∨ p.phase = 4) : pxStepP p bs = (pxRd p bs, bs) := by
  unfold pxStepP; rw [if_neg (by rcases e with e | e <;> rw [e] <;> decide), if_pos e]
theorem pxStepP_wr {p : Pxs} (bs : List Bk) (e : p.phase = 1 ∨ p.phase = 3) (c : ¬ pxNo p (pxOwn p bs)) : pxStepP p bs = (pxW1 p (pxOwn p bs), bs.set p.host.toNat (pxW2 p (pxOwn p bs))) := by
  unfold pxStepP; rw [if_neg (by rcases e with e | e <;> rw [e] <;> decide), if_neg (by rcases e with e | e <;> rw [e] <;> decide), if_neg c]
theorem pxStepP_no {p : Pxs} (bs : List Bk) (e : p.phase = 1 ∨ p.phase = 3) (c : pxNo p (pxOwn p bs)) : pxStepP p bs = ({ p with phase := 6 }, bs) := by
  unfold pxStepP; rw [if_neg (by rcases e with e | e <;> rw [e] <;> decide), if_neg (by rcases e with e | e <;> rw [e] <;> decide), if_pos c]
theorem nxBal_gt {bs : List Bk} (h : Nat) (i : Nat) (hi : i < bs.length) (v : Int) : (bkOf (bs.getD i bk0) v).mbal < nxBal h v bs := by
  have h1 := nxMax_mem v bs 0 i hi
  have h2 := nxMax_ge v bs 0
  unfold nxBal
  rw [Int.tdiv_eq_ediv_of_nonneg h2]
  omega
theorem nxBal_mod (bs : List Bk) {h : Nat} (hh : h < 4) (v : Int) : nxBal h v bs % 4 = h := by
  unfold nxBal; omega
end Go.Proofs.YtefnapcegeojoaaGreatDoor

namespace Go.Proofs.YtefnapcegeojoaaGreatDoor
open Go.RowKit
set_option linter.unusedVariables false

abbrev bV (x : Bk) : Value := .agg #[.int .i64 x.ver, .int .i64 x.mbal, .int .i64 x.bal, .int .i64 x.inp]
def bkB (x : Bk) : Bool := inB x.ver 0 1000000 && (inB x.mbal 0 1000000 && (inB x.bal 0 x.mbal && (numB x.inp && (decide (0 < x.bal) || decide (x.inp = 0)))))
theorem bkB_iff {x : Bk} : bkB x = true ↔ (0 ≤ x.ver ∧ x.ver ≤ 1000000) ∧ (0 ≤ x.mbal ∧ x.mbal ≤ 1000000) ∧ (0 ≤ x.bal ∧ x.bal ≤ x.mbal) ∧ (0 ≤ x.inp ∧ x.inp ≤ 2147483647) ∧ (0 < x.bal ∨ x.inp = 0) := by
  simp only [bkB, numB, inB, Bool.and_eq_true, Bool.or_eq_true, decide_eq_true_eq]
theorem bkB_1 {x : Bk} (e : inB x.ver 0 1000000 = false) : bkB x = false := by simp [bkB, e]
theorem bkB_2 {x : Bk} (e : inB x.mbal 0 1000000 = false) : bkB x = false := by simp [bkB, e]
theorem bkB_3 {x : Bk} (e : inB x.bal 0 x.mbal = false) : bkB x = false := by simp [bkB, e]
theorem bkB_4 {x : Bk} (e : numB x.inp = false) : bkB x = false := by simp [bkB, e]
theorem bkB_5 {x : Bk} (e1 : inB x.ver 0 1000000 = true) (e2 : inB x.mbal 0 1000000 = true) (e3 : inB x.bal 0 x.mbal = true) (e4 : numB x.inp = true) : bkB x = (decide (0 < x.bal) || decide (x.inp = 0)) := by simp [bkB, e1, e2, e3, e4]
def encB (x : Bk) : ByteArray := sealS 5 [x.ver, x.mbal, x.bal, x.inp]
theorem encB_size (x : Bk) : (encB x).size = 20 := by rw [encB, sealS_size]; rfl
def ebC (x : Bk) : Int := if bkB x = true then 0 else 1
def ebR (x : Bk) : ByteArray := if bkB x = true then encB x else ⟨#[]⟩
theorem ret_se {a b : ByteArray} {c d : Int} (h : a = b) (k : c = d) : Ending.returned (.tuple #[.string a, .int .i64 c]) = .returned (.tuple #[.string b, .int .i64 d]) := by rw [h, k]
def bdL (t : ByteArray) : List Int := openL t 5
def bk4 (l : List Int) : Bk := ⟨l.getD 0 0, l.getD 1 0, l.getD 2 0, l.getD 3 0⟩
def bdB (t : ByteArray) : Bool := openB t 5 && (decide ((bdL t).length = 4) && bkB (bk4 (bdL t)))
def bdK (t : ByteArray) : Bk := if bdB t = true then bk4 (bdL t) else bk0
theorem bdB_open {t : ByteArray} (h : openB t 5 = false) : bdB t = false := by simp [bdB, h]
theorem bdB_len {t : ByteArray} (h : ¬ (bdL t).length = 4) : bdB t = false := by simp [bdB, h]
theorem bdB_at {t : ByteArray} {a b c d : Int} (h : openB t 5 = true) (hl : bdL t = [a, b, c, d]) : bdB t = bkB ⟨a, b, c, d⟩ := by
  have e : bk4 (bdL t) = ⟨a, b, c, d⟩ := by rw [hl]; rfl
  simp [bdB, h, e]
  rw [hl]; simp
theorem bd_no {t : ByteArray} (h : bdB t = false) : bdK t = bk0 := by simp [bdK, h]
theorem bd_yes {t : ByteArray} {a b c d : Int} (h : bdB t = true) (hl : bdL t = [a, b, c, d]) : bdK t = ⟨a, b, c, d⟩ := by rw [bdK, if_pos h, hl]; rfl
theorem fourK {l : List Int} (h : l.length = 4) : ∃ a b c d, l = [a, b, c, d] := by
  match l, h with
  | [a, b, c, d], _ => exact ⟨a, b, c, d, rfl⟩
theorem bd_right {t : ByteArray} (h : bdB t = true) : bkB (bdK t) = true := by
  have h' := h
  simp only [bdB, Bool.and_eq_true, decide_eq_true_eq] at h'
  rw [bdK, if_pos h]; exact h'.2.2
def bcC (t : ByteArray) : Int := if 65536 < t.size then 2 else if bdB t = true then 0 else 3
def bcK (t : ByteArray) : Bk := if 65536 < t.size then bk0 else bdK t
theorem bc_long {t : ByteArray} (h : 65536 < t.size) : bcK t = bk0 ∧ bcC t = 2 := ⟨if_pos h, if_pos h⟩
theorem bc_no {t : ByteArray} (h : ¬ 65536 < t.size) (hd : bdB t = false) : bcK t = bk0 ∧ bcC t = 3 := ⟨(if_neg h).trans (bd_no hd), (if_neg h).trans (if_neg (by simp [hd]))⟩
theorem bc_yes {t : ByteArray} (h : ¬ 65536 < t.size) (hd : bdB t = true) : bcK t = bdK t ∧ bcC t = 0 := ⟨if_neg h, (if_neg h).trans (if_pos hd)⟩
theorem ret_bi {a b : Bk} {x y : Int} (h : a = b) (k : x = y) : Ending.returned (.tuple #[bV a, .int .i64 x]) = .returned (.tuple #[bV b, .int .i64 y]) := by rw [h, k]
theorem ret_bb {a b : Bk} {x y : Bool} (h : a = b) (k : x = y) : Ending.returned (.tuple #[bV a, .bool x]) = .returned (.tuple #[bV b, .bool y]) := by rw [h, k]

def VarB (w : World) (x : Nat) (t : TypeId) (b : Bk) : Prop := w.heap[x]? = some (.cells #[.int .i64 b.ver, .int .i64 b.mbal, .int .i64 b.bal, .int .i64 b.inp] t (0, 0))
theorem VarB.lt {w : World} {x t : Nat} {b : Bk} (k : VarB w x t b) : x < w.heap.size := (Array.getElem?_eq_some_iff.1 k).1
theorem VarB.cells {w : World} {x t : Nat} {b : Bk} (k : VarB w x t b) : w.cell? ⟨x, 0, none⟩ = some (.int .i64 b.ver) ∧ w.cell? ⟨x, 1, none⟩ = some (.int .i64 b.mbal) ∧ w.cell? ⟨x, 2, none⟩ = some (.int .i64 b.bal) ∧ w.cell? ⟨x, 3, none⟩ = some (.int .i64 b.inp) := ⟨by rw [Joins.cell_of_block k]; rfl, by rw [Joins.cell_of_block k]; rfl, by rw [Joins.cell_of_block k]; rfl, by rw [Joins.cell_of_block k]; rfl⟩
theorem VarB.free {w : World} {x t : Nat} {b : Bk} (k : VarB w x t b) : w.frozen? ⟨x, 0, none⟩ = false ∧ w.frozen? ⟨x, 1, none⟩ = false ∧ w.frozen? ⟨x, 2, none⟩ = false ∧ w.frozen? ⟨x, 3, none⟩ = false := ⟨Joins.unfrozen_of_block k 0, Joins.unfrozen_of_block k 1, Joins.unfrozen_of_block k 2, Joins.unfrozen_of_block k 3⟩
theorem VarB.below {w w' : World} {x t : Nat} {b : Bk} (k : VarB w x t b) (hb : Below w.heap.size w w') : VarB w' x t b := by
  unfold VarB; rw [hb.block x k.lt]; exact k
theorem VarB.keep {S : Nat → Prop} {w w' : World} {x t : Nat} {b : Bk} (k : VarB w x t b) (hk : Keep S w w') (hs : ¬ S x) : VarB w' x t b := by
  unfold VarB; rw [hk.block x k.lt hs]; exact k
theorem VarB.new (w : World) (t : TypeId) (b : Bk) : VarB (w.alloc (.cells #[.int .i64 b.ver, .int .i64 b.mbal, .int .i64 b.bal, .int .i64 b.inp] t)) w.heap.size t b := heap_alloc_new w _
theorem VarB.new0 (w : World) (t : TypeId) : VarB (w.alloc (.cells #[.int .i64 0, .int .i64 0, .int .i64 0, .int .i64 0] t)) w.heap.size t bk0 := heap_alloc_new w _
theorem below4 {w0 w : World} {B g : Nat} (h : Below B w0 w) (hg : B ≤ g) (i j k l : Nat) (u v x y : Value) : Below B w0 ((((w.setCell ⟨g, i, none⟩ u).setCell ⟨g, j, none⟩ v).setCell ⟨g, k, none⟩ x).setCell ⟨g, l, none⟩ y) :=
  (below3 h hg i j k u v x).setCell (p := ⟨g, l, none⟩) hg y
theorem is4 (w : World) (n : Nat) (t : TypeId) (a b c d : Int) (hn : w.heap.size = n) : Is (w.alloc (.cells #[.int .i64 a, .int .i64 b, .int .i64 c, .int .i64 d] t)) (some ⟨n, 0, none⟩) [a, b, c, d] := by
  subst hn
  intro i hi
  have hi' : i < 4 := hi
  refine ⟨w.heap.size, 0, rfl, ?_⟩
  rcases (show i = 0 ∨ i = 1 ∨ i = 2 ∨ i = 3 by omega) with rfl | rfl | rfl | rfl <;> simp [go_sem]
theorem b4_nums {x : Bk} (hd : bkB x = true) : ∀ j (hj : j < [x.ver, x.mbal, x.bal, x.inp].length), 0 ≤ [x.ver, x.mbal, x.bal, x.inp][j] ∧ [x.ver, x.mbal, x.bal, x.inp][j] ≤ 2147483647 := by
  obtain ⟨h1, h2, h3, h4, _⟩ := bkB_iff.1 hd
  intro j hj
  have hj' : j < 4 := hj
  rcases (show j = 0 ∨ j = 1 ∨ j = 2 ∨ j = 3 by omega) with rfl | rfl | rfl | rfl <;> simp <;> omega
theorem b4_ints {x : Bk} (hd : bkB x = true) : intsB [x.ver, x.mbal, x.bal, x.inp] = true := by
  obtain ⟨h1, h2, h3, h4, _⟩ := bkB_iff.1 hd
  rw [intsB_len]
  · rfl
  · intro j hj
    have hj' : j < 4 := hj
    rcases (show j = 0 ∨ j = 1 ∨ j = 2 ∨ j = 3 by omega) with rfl | rfl | rfl | rfl <;> simp [numB, inB] <;> omega
theorem b4_seal {x : Bk} (hd : bkB x = true) : sealC 5 [x.ver, x.mbal, x.bal, x.inp] = 0 ∧ sealT 5 [x.ver, x.mbal, x.bal, x.inp] = encB x := by
  have hc : sealC 5 [x.ver, x.mbal, x.bal, x.inp] = 0 := sealC_ok (listC_ok (by simp) (b4_ints hd)) rfl
  exact ⟨hc, sealT_ok hc⟩

end Go.Proofs.YtefnapcegeojoaaGreatDoor

namespace Go.Proofs.YtefnapcegeojoaaGreatDoor
open Go.RowKit
set_option linter.unusedVariables false
set_option maxRecDepth 100000

theorem verOK_any (n : Int) (w : World) : Calls Tryz.prog 47 #[.int .i64 n] w fun e w' => e = .returned (.bool (inB n 0 1000000)) ∧ w' = w := by
  go_enter Tryz.func47, Tryz.ntmps47
  go_wp2_with fail
  refine (within_any n 0 1000000 _).mono ?_
  rintro e w1 ⟨rfl, rfl⟩
  go_wp2
  go_ret
  exact ⟨rfl, rfl⟩
theorem within_in (n low high : Int) (w : World) : Calls Tryz.prog 48 #[.int .i64 n, .int .i64 low, .int .i64 high] w fun e w' => e = .returned (.bool (inB n low high)) ∧ w' = w := within_any n low high w

set_option maxHeartbeats 1600000 in
theorem blockOK_impl (x : Bk) (w : World) : Calls Tryz.prog 140 #[bV x] w fun e w' => e = .returned (.bool (bkB x)) ∧ Below w.heap.size w w' := by
  go_enter Tryz.func140, Tryz.ntmps140
  go_wp2_with fail
  refine (verOK_any x.ver _).mono ?_
  rintro e w1 ⟨rfl, rfl⟩
  by_cases h1 : inB x.ver 0 1000000 = false
  · have hr := hide (bkB_1 h1)
    go_wp2
    go_ret
    rw [unhide hr]
    exact ⟨rfl, Joins.below_alloc1 _ _⟩
  rw [Bool.not_eq_false] at h1
  go_wp2_with fail
  refine (within_in x.mbal 0 1000000 _).mono ?_
  rintro e w1 ⟨rfl, rfl⟩
  by_cases h2 : inB x.mbal 0 1000000 = false
  · have hr := hide (bkB_2 h2)
    go_wp2
    go_ret
    rw [unhide hr]
    exact ⟨rfl, Joins.below_alloc1 _ _⟩
  rw [Bool.not_eq_false] at h2
  go_wp2_with fail
  refine (within_in x.bal 0 x.mbal _).mono ?_
  rintro e w1 ⟨rfl, rfl⟩
  by_cases h3 : inB x.bal 0 x.mbal = false
  · have hr := hide (bkB_3 h3)
    go_wp2
    go_ret
    rw [unhide hr]
    exact ⟨rfl, Joins.below_alloc1 _ _⟩
  rw [Bool.not_eq_false] at h3
  go_wp2_with fail
  refine (isNumber_any x.inp _).mono ?_
  rintro e w1 ⟨rfl, rfl⟩
  by_cases h4 : numB x.inp = false
  · have hr := hide (bkB_4 h4)
    go_wp2
    go_ret
    rw [unhide hr]
    exact ⟨rfl, Joins.below_alloc1 _ _⟩
  rw [Bool.not_eq_false] at h4
  have hr := hide (bkB_5 h1 h2 h3 h4)
  clear h1 h2 h3
  by_cases h5 : 0 < x.bal
  · have hv : Hid (bkB x = true) := hide (by rw [unhide hr]; simp [h5])
    go_wp2
    go_ret
    rw [unhide hv]
    exact ⟨rfl, Joins.below_alloc1 _ _⟩
  · have hv : Hid (bkB x = decide (x.inp = 0)) := hide (by rw [unhide hr]; simp [h5])
    go_wp2
    go_ret
    rw [unhide hv]
    exact ⟨ret_bool (by rw [Bool.eq_iff_iff]; simp <;> omega), Joins.below_alloc1 _ _⟩

end Go.Proofs.YtefnapcegeojoaaGreatDoor

namespace Go.Proofs.YtefnapcegeojoaaGreatDoor
open Go.RowKit
set_option linter.unusedVariables false
set_option maxRecDepth 100000

theorem ownerOK_any (o g : Int) (w : World) : Calls Tryz.prog 35 #[.int .i64 o, .int .i64 g] w fun e w' => e = .returned (.bool (inB o 0 3 && inB g 1 1000000)) ∧ w' = w := by
  go_enter Tryz.func35, Tryz.ntmps35
  go_wp2_with fail
  refine (hostOK_any o _).mono ?_
  rintro e w1 ⟨rfl, rfl⟩
  by_cases h1 : inB o 0 3 = false
  · go_wp2
    go_ret
    rw [h1]
    exact ⟨rfl, rfl⟩
  rw [Bool.not_eq_false] at h1
  go_wp2_with fail
  refine (genOK_any g _).mono ?_
  rintro e w1 ⟨rfl, rfl⟩
  go_wp2
  go_ret
  rw [h1]
  exact ⟨rfl, rfl⟩

theorem pos_in (v : Int) : inB v 1 1000000 = (inB v 0 1000000 && decide (0 < v)) := by
  rw [Bool.eq_iff_iff]; simp only [inB, Bool.and_eq_true, decide_eq_true_eq]; omega
set_option maxHeartbeats 1600000 in
theorem leaderOK_impl (x : Ld) (w : World) : Calls Tryz.prog 16 #[lV x] w fun e w' => e = .returned (.bool (ldB x)) ∧ Below w.heap.size w w' := by
  obtain ⟨v, o, g⟩ := x
  go_enter Tryz.func16, Tryz.ntmps16
  by_cases ho : o = -1
  · have hob : (o == -1) = true := beq_iff_eq.2 ho
    replace ho := hide ho
    go_wp2_with fail
    refine (verOK_any v _).mono ?_
    rintro e w1 ⟨rfl, rfl⟩
    by_cases h1 : inB v 0 1000000 = false
    · have hr : Hid (ldB ⟨v, o, g⟩ = false) := hide (by simp [ldB, h1])
      go_wp2
      go_ret
      rw [unhide hr]
      exact ⟨rfl, Joins.below_alloc1 _ _⟩
    rw [Bool.not_eq_false] at h1
    have hr : Hid (ldB ⟨v, o, g⟩ = decide (g = 0)) := hide (by
      have ho' : o = -1 := unhide ho
      have : inB o 0 3 = false := by rw [ho']; rfl
      show (inB v 0 1000000 && ((decide (o = -1) && decide (g = 0)) || (decide (0 < v) && (inB o 0 3 && inB g 1 1000000)))) = _
      rw [h1, this, decide_eq_true ho']
      simp)
    go_wp2
    go_ret
    rw [unhide hr]
    exact ⟨ret_bool (by rw [Bool.eq_iff_iff]; simp), Joins.below_alloc1 _ _⟩
  · have hob : (o == -1) = false := by simp [ho]
    go_wp2_with fail
    refine (within_in v 1 1000000 _).mono ?_
    rintro e w1 ⟨rfl, rfl⟩
    by_cases h1 : inB v 1 1000000 = false
    · have hr : Hid (ldB ⟨v, o, g⟩ = false) := hide (by
        rw [pos_in] at h1
        cases h5 : inB v 0 1000000 with
        | false => simp [ldB, h5]
        | true => rw [h5, Bool.true_and] at h1; simp only [ldB, h1, h5, decide_eq_false ho]; rfl)
      go_wp2
      go_ret
      rw [unhide hr]
      exact ⟨rfl, Joins.below_alloc1 _ _⟩
    rw [Bool.not_eq_false] at h1
    have hr : Hid (ldB ⟨v, o, g⟩ = (inB o 0 3 && inB g 1 1000000)) := hide (by
      rw [pos_in, Bool.and_eq_true] at h1
      simp only [ldB, h1.1, h1.2, decide_eq_false ho, Bool.true_and, Bool.false_and, Bool.false_or])
    go_wp2_with fail
    refine (ownerOK_any o g _).mono ?_
    rintro e w1 ⟨rfl, rfl⟩
    go_wp2
    go_ret
    rw [unhide hr]
    exact ⟨rfl, Joins.below_alloc1 _ _⟩

set_option maxHeartbeats 1600000 in
theorem numbersL (x : Ld) (w : World) (hd : ldB x = true) : Calls Tryz.prog 44 #[lV x] w fun e w' => ∃ ao, e = .returned (.slice ao 3 3) ∧ Is w' ao [x.ver, x.own + 1, x.gen] ∧ Below w.heap.size w w' := by
  have wr1 : IntKind.i64.wrap (x.own + 1) = x.own + 1 := by have := ldB_lo hd; rw [IntKind.wrap_i64]; omega
  go_enter Tryz.func44, Tryz.ntmps44
  go_wp2
  go_ret
  exact ⟨_, rfl, is3i _ _ _ _ _ _ (by simp), Joins.below_alloc2 _ _ _⟩

set_option maxHeartbeats 1600000 in
theorem encodeLeader_impl (x : Ld) (w : World) : Calls Tryz.prog 14 #[lV x] w fun e w' => e = .returned (.tuple #[.string (elR x), .int .i64 (elC x)]) ∧ Below w.heap.size w w' := by
  have HA := hide (Joins.below_alloc1 w (.cells #[.int .i64 x.ver, .int .i64 x.own, .int .i64 x.gen] 30))
  have HV := hide (VarT.new w 30 x.ver x.own x.gen)
  go_enter Tryz.func14, Tryz.ntmps14
  go_wp2_with fail
  refine (leaderOK_impl x _).mono ?_
  rintro e w1 ⟨rfl, hb⟩
  have HB := hide (fr (unhide HA) hb)
  obtain ⟨hc0, hc1, hc2⟩ := ((unhide HV).below hb).cells
  clear hb
  by_cases hd : ldB x = true
  · have HE : Hid (elR x = encL x ∧ elC x = 0) := hide ⟨if_pos hd, if_pos hd⟩
    have HD := hide (l3_seal hd)
    have HX := hide hd
    go_wp2_with fail
    refine (numbersL x _ (unhide HX)).mono ?_
    rintro e w2 ⟨ao, rfl, hi, hb⟩
    have HB2 := hide (fr (unhide HB) hb)
    have HI := hide hi
    clear hb hi hc0 hc1 hc2
    go_wp2_with fail
    refine (sealRecord_impl 6 ao 3 [x.ver, x.own + 1, x.gen] _ (by simp) (unhide HI)).mono ?_
    rintro e w3 ⟨rfl, hb⟩
    have HB3 := hide (fr (unhide HB2) hb)
    clear hb
    rw [(unhide HD).1, (unhide HD).2]
    go_wp2
    go_ret2
    exact ⟨ret_sl (unhide HE).1.symm (unhide HE).2.symm, unhide HB3⟩
  · have HE : Hid (elR x = ⟨#[]⟩ ∧ elC x = 1) := hide ⟨if_neg hd, if_neg hd⟩
    rw [Bool.not_eq_true] at hd
    go_wp2
    go_ret2
    exact ⟨ret_sl (unhide HE).1.symm (unhide HE).2.symm, unhide HB⟩

end Go.Proofs.YtefnapcegeojoaaGreatDoor

namespace Go.Proofs.YtefnapcegeojoaaGreatDoor
open Go.RowKit
set_option linter.unusedVariables false

abbrev pV (p : Pxs) : Value := .agg #[.int .i64 p.host, .int .i64 p.ver, .int .i64 p.phase, .int .i64 p.ballot, .int .i64 p.value, .int .i64 p.next, .int .i64 p.best, .int .i64 p.bestBal]
def pxB (p : Pxs) : Bool := inB p.host 0 3 && (inB p.ver 0 1000000 && (inB p.phase 1 6 && (inB p.ballot 1 1000000 && (decide (p.ballot % 4 = p.host) && (numB p.value && (inB p.next 0 4 && (numB p.best && inB p.bestBal 0 1000000)))))))
theorem pxB_iff {p : Pxs} : pxB p = true ↔ (0 ≤ p.host ∧ p.host ≤ 3) ∧ (0 ≤ p.ver ∧ p.ver ≤ 1000000) ∧ (1 ≤ p.phase ∧ p.phase ≤ 6) ∧ (1 ≤ p.ballot ∧ p.ballot ≤ 1000000) ∧ p.ballot % 4 = p.host ∧ (0 ≤ p.value ∧ p.value ≤ 2147483647) ∧ (0 ≤ p.next ∧ p.next ≤ 4) ∧ (0 ≤ p.best ∧ p.best ≤ 2147483647) ∧ 0 ≤ p.bestBal ∧ p.bestBal ≤ 1000000 := by
  simp only [pxB, numB, inB, Bool.and_eq_true, decide_eq_true_eq]
def p00 : Pxs := ⟨0, 0, 0, 0, 0, 0, 0, 0⟩

def VarP (w : World) (x : Nat) (t : TypeId) (p : Pxs) : Prop := w.heap[x]? = some (.cells #[.int .i64 p.host, .int .i64 p.ver, .int .i64 p.phase, .int .i64 p.ballot, .int .i64 p.value, .int .i64 p.next, .int .i64 p.best, .int .i64 p.bestBal] t (0, 0))
theorem VarP.lt {w : World} {x t : Nat} {p : Pxs} (k : VarP w x t p) : x < w.heap.size := (Array.getElem?_eq_some_iff.1 k).1
theorem VarP.cells {w : World} {x t : Nat} {p : Pxs} (k : VarP w x t p) : w.cell? ⟨x, 0, none⟩ = some (.int .i64 p.host) ∧ w.cell? ⟨x, 1, none⟩ = some (.int .i64 p.ver) ∧ w.cell? ⟨x, 2, none⟩ = some (.int .i64 p.phase) ∧ w.cell? ⟨x, 3, none⟩ = some (.int .i64 p.ballot) ∧ w.cell? ⟨x, 4, none⟩ = some (.int .i64 p.value) ∧ w.cell? ⟨x, 5, none⟩ = some (.int .i64 p.next) ∧ w.cell? ⟨x, 6, none⟩ = some (.int .i64 p.best) ∧ w.cell? ⟨x, 7, none⟩ = some (.int .i64 p.bestBal) := ⟨by rw [Joins.cell_of_block k]; rfl, by rw [Joins.cell_of_block k]; rfl, by rw [Joins.cell_of_block k]; rfl, by rw [Joins.cell_of_block k]; rfl, by rw [Joins.cell_of_block k]; rfl, by rw [Joins.cell_of_block k]; rfl, by rw [Joins.cell_of_block k]; rfl, by rw [Joins.cell_of_block k]; rfl⟩
theorem VarP.free {w : World} {x t : Nat} {p : Pxs} (k : VarP w x t p) : w.frozen? ⟨x, 0, none⟩ = false ∧ w.frozen? ⟨x, 1, none⟩ = false ∧ w.frozen? ⟨x, 2, none⟩ = false ∧ w.frozen? ⟨x, 3, none⟩ = false ∧ w.frozen? ⟨x, 4, none⟩ = false ∧ w.frozen? ⟨x, 5, none⟩ = false ∧ w.frozen? ⟨x, 6, none⟩ = false ∧ w.frozen? ⟨x, 7, none⟩ = false := ⟨Joins.unfrozen_of_block k 0, Joins.unfrozen_of_block k 1, Joins.unfrozen_of_block k 2, Joins.unfrozen_of_block k 3, Joins.unfrozen_of_block k 4, Joins.unfrozen_of_block k 5, Joins.unfrozen_of_block k 6, Joins.unfrozen_of_block k 7⟩
theorem VarP.below {w w' : World} {x t : Nat} {p : Pxs} (k : VarP w x t p) (hb : Below w.heap.size w w') : VarP w' x t p := by
  unfold VarP; rw [hb.block x k.lt]; exact k
theorem VarP.keep {S : Nat → Prop} {w w' : World} {x t : Nat} {p : Pxs} (k : VarP w x t p) (hk : Keep S w w') (hs : ¬ S x) : VarP w' x t p := by
  unfold VarP; rw [hk.block x k.lt hs]; exact k
theorem VarP.new (w : World) (t : TypeId) (p : Pxs) : VarP (w.alloc (.cells #[.int .i64 p.host, .int .i64 p.ver, .int .i64 p.phase, .int .i64 p.ballot, .int .i64 p.value, .int .i64 p.next, .int .i64 p.best, .int .i64 p.bestBal] t)) w.heap.size t p := heap_alloc_new w _
theorem VarP.new0 (w : World) (t : TypeId) : VarP (w.alloc (.cells #[.int .i64 0, .int .i64 0, .int .i64 0, .int .i64 0, .int .i64 0, .int .i64 0, .int .i64 0, .int .i64 0] t)) w.heap.size t p00 := heap_alloc_new w _
theorem set_heap {w : World} {k t i : Nat} {a : Array Value} (h : w.heap[k]? = some (.cells a t (0, 0))) (v : Value) : (w.setCell ⟨k, i, none⟩ v).heap[k]? = some (.cells (a.setIfInBounds i v) t (0, 0)) := by
  obtain ⟨hk, hf⟩ := Array.getElem?_eq_some_iff.1 h
  unfold World.setCell
  simp [hk]
  rw [Array.getElem_modify]
  simp [hf]
theorem VarP.set0 {w : World} {x t : Nat} {p : Pxs} (k : VarP w x t p) (n : Int) : VarP (w.setCell ⟨x, 0, none⟩ (.int .i64 n)) x t { p with host := n } := set_heap (i := 0) k _
theorem VarP.set1 {w : World} {x t : Nat} {p : Pxs} (k : VarP w x t p) (n : Int) : VarP (w.setCell ⟨x, 1, none⟩ (.int .i64 n)) x t { p with ver := n } := set_heap (i := 1) k _
theorem VarP.set2 {w : World} {x t : Nat} {p : Pxs} (k : VarP w x t p) (n : Int) : VarP (w.setCell ⟨x, 2, none⟩ (.int .i64 n)) x t { p with phase := n } := set_heap (i := 2) k _
theorem VarP.set3 {w : World} {x t : Nat} {p : Pxs} (k : VarP w x t p) (n : Int) : VarP (w.setCell ⟨x, 3, none⟩ (.int .i64 n)) x t { p with ballot := n } := set_heap (i := 3) k _
theorem VarP.set4 {w : World} {x t : Nat} {p : Pxs} (k : VarP w x t p) (n : Int) : VarP (w.setCell ⟨x, 4, none⟩ (.int .i64 n)) x t { p with value := n } := set_heap (i := 4) k _
theorem VarP.set5 {w : World} {x t : Nat} {p : Pxs} (k : VarP w x t p) (n : Int) : VarP (w.setCell ⟨x, 5, none⟩ (.int .i64 n)) x t { p with next := n } := set_heap (i := 5) k _
theorem VarP.set6 {w : World} {x t : Nat} {p : Pxs} (k : VarP w x t p) (n : Int) : VarP (w.setCell ⟨x, 6, none⟩ (.int .i64 n)) x t { p with best := n } := set_heap (i := 6) k _
theorem VarP.set7 {w : World} {x t : Nat} {p : Pxs} (k : VarP w x t p) (n : Int) : VarP (w.setCell ⟨x, 7, none⟩ (.int .i64 n)) x t { p with bestBal := n } := set_heap (i := 7) k _
theorem VarP.put {w : World} {x t : Nat} {p : Pxs} (k : VarP w x t p) (q : Pxs) : VarP ((((((((w.setCell ⟨x, 0, none⟩ (.int .i64 q.host)).setCell ⟨x, 1, none⟩ (.int .i64 q.ver)).setCell ⟨x, 2, none⟩ (.int .i64 q.phase)).setCell ⟨x, 3, none⟩ (.int .i64 q.ballot)).setCell ⟨x, 4, none⟩ (.int .i64 q.value)).setCell ⟨x, 5, none⟩ (.int .i64 q.next)).setCell ⟨x, 6, none⟩ (.int .i64 q.best)).setCell ⟨x, 7, none⟩ (.int .i64 q.bestBal)) x t q := (((((((k.set0 q.host).set1 q.ver).set2 q.phase).set3 q.ballot).set4 q.value).set5 q.next).set6 q.best).set7 q.bestBal

theorem below8 {w0 w : World} {B g : Nat} (h : Below B w0 w) (hg : B ≤ g) (u0 u1 u2 u3 u4 u5 u6 u7 : Value) : Below B w0 ((((((((w.setCell ⟨g, 0, none⟩ u0).setCell ⟨g, 1, none⟩ u1).setCell ⟨g, 2, none⟩ u2).setCell ⟨g, 3, none⟩ u3).setCell ⟨g, 4, none⟩ u4).setCell ⟨g, 5, none⟩ u5).setCell ⟨g, 6, none⟩ u6).setCell ⟨g, 7, none⟩ u7) :=
  (((((((h.setCell (p := ⟨g, 0, none⟩) hg u0).setCell (p := ⟨g, 1, none⟩) hg u1).setCell (p := ⟨g, 2, none⟩) hg u2).setCell (p := ⟨g, 3, none⟩) hg u3).setCell (p := ⟨g, 4, none⟩) hg u4).setCell (p := ⟨g, 5, none⟩) hg u5).setCell (p := ⟨g, 6, none⟩) hg u6).setCell (p := ⟨g, 7, none⟩) hg u7
theorem keep8 {S : Nat → Prop} {w0 w : World} {g : Nat} (h : Keep S w0 w) (hg : S g) (u0 u1 u2 u3 u4 u5 u6 u7 : Value) : Keep S w0 ((((((((w.setCell ⟨g, 0, none⟩ u0).setCell ⟨g, 1, none⟩ u1).setCell ⟨g, 2, none⟩ u2).setCell ⟨g, 3, none⟩ u3).setCell ⟨g, 4, none⟩ u4).setCell ⟨g, 5, none⟩ u5).setCell ⟨g, 6, none⟩ u6).setCell ⟨g, 7, none⟩ u7) :=
  (((((((h.setCell (p := ⟨g, 0, none⟩) hg u0).setCell (p := ⟨g, 1, none⟩) hg u1).setCell (p := ⟨g, 2, none⟩) hg u2).setCell (p := ⟨g, 3, none⟩) hg u3).setCell (p := ⟨g, 4, none⟩) hg u4).setCell (p := ⟨g, 5, none⟩) hg u5).setCell (p := ⟨g, 6, none⟩) hg u6).setCell (p := ⟨g, 7, none⟩) hg u7

theorem keepN {S : Nat → Prop} {a b c : World} (h : Keep S a b) {T : Nat → Prop} (k : Keep T b c) (hT : ∀ i, T i → S i ∨ a.heap.size ≤ i) : Keep S a c :=
  ⟨k.os.trans h.os, k.tape.trans h.tape, k.output.trans h.output, Nat.le_trans h.size k.size, fun i hi hs => (k.block i (Nat.lt_of_lt_of_le hi h.size) (fun ht => by rcases hT i ht with h1 | h1; exact hs h1; omega)).trans (h.block i hi hs)⟩

def Bks (w : World) (ao : Option Addr) (xs : List Bk) : Prop := ∀ i (h : i < xs.length), ∃ b off, ao = some ⟨b, off, none⟩ ∧
  w.cell? ⟨b, off + i * 4, none⟩ = some (.int .i64 xs[i].ver) ∧ w.cell? ⟨b, off + i * 4 + 1, none⟩ = some (.int .i64 xs[i].mbal) ∧ w.cell? ⟨b, off + i * 4 + 2, none⟩ = some (.int .i64 xs[i].bal) ∧ w.cell? ⟨b, off + i * 4 + 3, none⟩ = some (.int .i64 xs[i].inp)
theorem Bks.below {w w' : World} {ao : Option Addr} {xs : List Bk} (h : Bks w ao xs) (hb : Below w.heap.size w w') : Bks w' ao xs := fun i hi => by
  obtain ⟨b, off, e, h0, h1, h2, h3⟩ := h i hi
  exact ⟨b, off, e, (hb.cell (p := ⟨b, off + i * 4, none⟩) (World.block_lt_of_cell? _ _ h0)).trans h0, (hb.cell (p := ⟨b, off + i * 4 + 1, none⟩) (World.block_lt_of_cell? _ _ h1)).trans h1, (hb.cell (p := ⟨b, off + i * 4 + 2, none⟩) (World.block_lt_of_cell? _ _ h2)).trans h2, (hb.cell (p := ⟨b, off + i * 4 + 3, none⟩) (World.block_lt_of_cell? _ _ h3)).trans h3⟩
def bksV (xs : List Bk) : List Value := xs.flatMap fun x => [.int .i64 x.ver, .int .i64 x.mbal, .int .i64 x.bal, .int .i64 x.inp]
theorem bksV_cons (x : Bk) (xs : List Bk) : bksV (x :: xs) = [.int .i64 x.ver, .int .i64 x.mbal, .int .i64 x.bal, .int .i64 x.inp] ++ bksV xs := rfl
theorem bksV_length (xs : List Bk) : (bksV xs).length = xs.length * 4 := by
  induction xs with
  | nil => rfl
  | cons x xs ih => simp only [bksV, List.flatMap_cons, List.length_append, List.length_cons, List.length_nil] at ih ⊢; omega
theorem bksV_get : ∀ {xs : List Bk} {i : Nat} (h : i < xs.length), (bksV xs)[i * 4]? = some (.int .i64 xs[i].ver) ∧ (bksV xs)[i * 4 + 1]? = some (.int .i64 xs[i].mbal) ∧ (bksV xs)[i * 4 + 2]? = some (.int .i64 xs[i].bal) ∧ (bksV xs)[i * 4 + 3]? = some (.int .i64 xs[i].inp)
  | [], _, h => absurd h (Nat.not_lt_zero _)
  | x :: xs, 0, _ => by simp [bksV_cons]
  | x :: xs, i + 1, h => by
    have ih := bksV_get (xs := xs) (i := i) (by simpa using h)
    rw [bksV_cons, show (i + 1) * 4 = i * 4 + 4 by omega]
    refine ⟨?_, ?_, ?_, ?_⟩
    · rw [List.getElem?_append_right (by simp)]; simpa using ih.1
    · rw [List.getElem?_append_right (by simp)]; simpa [Nat.add_right_comm] using ih.2.1
    · rw [List.getElem?_append_right (by simp)]; simpa [Nat.add_right_comm] using ih.2.2.1
    · rw [List.getElem?_append_right (by simp)]; simpa [Nat.add_right_comm] using ih.2.2.2
theorem bksV_set : ∀ {xs : List Bk} {i : Nat} (h : i < xs.length) (y : Bk), ((((bksV xs).set (i * 4) (.int .i64 y.ver)).set (i * 4 + 1) (.int .i64 y.mbal)).set (i * 4 + 2) (.int .i64 y.bal)).set (i * 4 + 3) (.int .i64 y.inp) = bksV (xs.set i y)
  | [], _, h, _ => absurd h (Nat.not_lt_zero _)
  | x :: xs, 0, _, y => by simp [bksV_cons]
  | x :: xs, i + 1, h, y => by
    have ih := bksV_set (xs := xs) (i := i) (by simpa using h) y
    rw [bksV_cons, List.set_cons_succ, bksV_cons, ← ih, show (i + 1) * 4 = i * 4 + 4 by omega]
    simp [List.set_cons_succ]
theorem bksV_one (xs : List Bk) : ∀ v ∈ bksV xs, v.oneCell' = true := by
  intro v hv
  simp only [bksV, List.mem_flatMap] at hv
  obtain ⟨x, _, hv⟩ := hv
  simp at hv
  rcases hv with rfl | rfl | rfl | rfl <;> rfl
theorem ownBks {w : World} {B e cap : Nat} {ao : Option Addr} {xs : List Bk} (h : OwnR w B e 4 (.slice ao xs.length cap) xs.length (bksV xs)) : Bks w ao xs := by
  rcases h with ⟨h0, _, _⟩ | ⟨h0, h⟩
  · intro i hi; omega
  rcases h.2 with ⟨e0, h0'⟩ | ⟨g, cap, cur, e0, hb, hg, hnc, hcm, hcs, ht⟩
  · omega
  · simp only [Value.slice.injEq, true_and] at e0
    obtain ⟨rfl, rfl⟩ := e0
    have g4 := fun i (hi : i < xs.length) => bksV_get hi
    refine fun i hi => ⟨g, 0, rfl, ?_, ?_, ?_, ?_⟩
    · rw [Nat.zero_add, h.cellAt _ (by omega)]; exact (g4 i hi).1
    · rw [Nat.zero_add, h.cellAt _ (by omega)]; exact (g4 i hi).2.1
    · rw [Nat.zero_add, h.cellAt _ (by omega)]; exact (g4 i hi).2.2.1
    · rw [Nat.zero_add, h.cellAt _ (by omega)]; exact (g4 i hi).2.2.2
theorem Bks.at {w : World} {ao : Option Addr} {xs : List Bk} (h : Bks w ao xs) (hp : 0 < xs.length) : ∃ b off, ao = some ⟨b, off, none⟩ ∧ b < w.heap.size ∧ ∀ j v, (bksV xs)[j]? = some v → w.cell? (Addr.add ⟨b, off, none⟩ j) = some v := by
  obtain ⟨b, off, rfl, h0, _⟩ := h 0 hp
  refine ⟨b, off, rfl, World.block_lt_of_cell? _ _ h0, fun j v hv => ?_⟩
  have hj : j < xs.length * 4 := by have := (List.getElem?_eq_some_iff.1 hv).1; rwa [bksV_length] at this
  obtain ⟨b', off', e, c0, c1, c2, c3⟩ := h (j / 4) (by omega)
  simp only [Option.some.injEq, Addr.mk.injEq, and_true] at e
  obtain ⟨rfl, rfl⟩ := e
  obtain ⟨g0, g1, g2, g3⟩ := bksV_get (xs := xs) (i := j / 4) (by omega)
  rw [show Addr.add ⟨b, off, none⟩ j = ⟨b, off + j, none⟩ from by unfold Addr.add; split <;> simp_all]
  rcases (show j = j / 4 * 4 ∨ j = j / 4 * 4 + 1 ∨ j = j / 4 * 4 + 2 ∨ j = j / 4 * 4 + 3 by omega) with e | e | e | e
  · rw [e] at hv ⊢; rw [g0] at hv; cases hv; exact c0
  · rw [e] at hv ⊢; rw [g1] at hv; cases hv; exact c1
  · rw [e] at hv ⊢; rw [g2] at hv; cases hv; exact c2
  · rw [e] at hv ⊢; rw [g3] at hv; cases hv; exact c3
theorem Bks.src {w : World} {ao : Option Addr} {xs : List Bk} (h : Bks w ao xs) : 0 < xs.length → ∃ ad, ao = some ad ∧ ∀ j u, (bksV xs)[j]? = some u → w.cell? (ad.add j) = some u := fun hp => by
  obtain ⟨b, off, rfl, _, hc⟩ := h.at hp
  exact ⟨_, rfl, hc⟩
theorem Bks.get {w : World} {ao : Option Addr} {xs : List Bk} (h : Bks w ao xs) (i : Nat) (hi : i < xs.length) : ∃ b off, ao = some ⟨b, off, none⟩ ∧ b < w.heap.size ∧ w.cell? ⟨b, off + i * 4, none⟩ = some (.int .i64 (xs.getD i bk0).ver) ∧ w.cell? ⟨b, off + i * 4 + 1, none⟩ = some (.int .i64 (xs.getD i bk0).mbal) ∧ w.cell? ⟨b, off + i * 4 + 2, none⟩ = some (.int .i64 (xs.getD i bk0).bal) ∧ w.cell? ⟨b, off + i * 4 + 3, none⟩ = some (.int .i64 (xs.getD i bk0).inp) := by
  obtain ⟨b, off, e, h0, h1, h2, h3⟩ := h i hi
  have : xs.getD i bk0 = xs[i] := by simp [hi]
  rw [this]
  exact ⟨b, off, e, World.block_lt_of_cell? _ _ h0, h0, h1, h2, h3⟩

structure Got (W0 W : World) (C : Nat) (t : TypeId) (b : Bk) : Prop where
  k : Below W0.heap.size W0 W
  v : VarB W C t b
  gt : W0.heap.size ≤ C
theorem Got.top {W0 W : World} (t : TypeId) (b : Bk) (h : Below W0.heap.size W0 W) : Got W0 (W.alloc (.cells #[.int .i64 b.ver, .int .i64 b.mbal, .int .i64 b.bal, .int .i64 b.inp] t)) W.heap.size t b :=
  ⟨fr h (Joins.below_alloc1 _ _), VarB.new _ _ _, h.size⟩
theorem VarB.put {w : World} {x t : Nat} {b : Bk} (k : VarB w x t b) (q : Bk) : VarB ((((w.setCell ⟨x, 0, none⟩ (.int .i64 q.ver)).setCell ⟨x, 1, none⟩ (.int .i64 q.mbal)).setCell ⟨x, 2, none⟩ (.int .i64 q.bal)).setCell ⟨x, 3, none⟩ (.int .i64 q.inp)) x t q := set_heap (i := 3) (set_heap (i := 2) (set_heap (i := 1) (set_heap (i := 0) k _) _) _) _
theorem Got.set {W0 W : World} {t : TypeId} {b : Bk} {C : Nat} (b0 : Bk) (h : Below W0.heap.size W0 W) (hv : VarB W C t b0) (hC : W0.heap.size ≤ C) : Got W0 ((((W.setCell ⟨C, 0, none⟩ (.int .i64 b.ver)).setCell ⟨C, 1, none⟩ (.int .i64 b.mbal)).setCell ⟨C, 2, none⟩ (.int .i64 b.bal)).setCell ⟨C, 3, none⟩ (.int .i64 b.inp)) C t b :=
  ⟨below4 h hC 0 1 2 3 _ _ _ _, hv.put b, hC⟩

end Go.Proofs.YtefnapcegeojoaaGreatDoor

namespace Go.Proofs.YtefnapcegeojoaaGreatDoor
set_option linter.unusedVariables false
theorem pxB_1 {p : Pxs} (e : inB p.host 0 3 = false) : pxB p = false := by simp [pxB, e]
theorem pxB_2 {p : Pxs} (e : inB p.ver 0 1000000 = false) : pxB p = false := by simp [pxB, e]
theorem pxB_3 {p : Pxs} (e : inB p.phase 1 6 = false) : pxB p = false := by simp [pxB, e]
theorem pxB_4 {p : Pxs} (e : inB p.ballot 1 1000000 = false) : pxB p = false := by simp [pxB, e]
theorem pxB_5 {p : Pxs} (e : ¬ p.ballot % 4 = p.host) : pxB p = false := by simp [pxB, e]
theorem pxB_6 {p : Pxs} (e : numB p.value = false) : pxB p = false := by simp [pxB, e]
theorem pxB_7 {p : Pxs} (e : inB p.next 0 4 = false) : pxB p = false := by simp [pxB, e]
theorem pxB_8 {p : Pxs} (e : numB p.best = false) : pxB p = false := by simp [pxB, e]
theorem pxB_9 {p : Pxs} (e1 : inB p.host 0 3 = true) (e2 : inB p.ver 0 1000000 = true) (e3 : inB p.phase 1 6 = true) (e4 : inB p.ballot 1 1000000 = true) (e5 : p.ballot % 4 = p.host) (e6 : numB p.value = true) (e7 : inB p.next 0 4 = true) (e8 : numB p.best = true) : pxB p = inB p.bestBal 0 1000000 := by simp [pxB, e1, e2, e3, e4, e5, e6, e7, e8]
def baB (b h : Int) : Bool := inB b 1 1000000 && decide (b % 4 = h)
theorem pxB_ba {p : Pxs} (e : baB p.ballot p.host = false) : pxB p = false := by
  simp only [baB, Bool.and_eq_false_iff] at e
  rcases e with e | e
  · exact pxB_4 e
  · exact pxB_5 (by simpa using e)
theorem pxB_9b {p : Pxs} (e1 : inB p.host 0 3 = true) (e2 : inB p.ver 0 1000000 = true) (e3 : inB p.phase 1 6 = true) (e4 : baB p.ballot p.host = true) (e6 : numB p.value = true) (e7 : inB p.next 0 4 = true) (e8 : numB p.best = true) : pxB p = inB p.bestBal 0 1000000 := by
  simp only [baB, Bool.and_eq_true, decide_eq_true_eq] at e4
  exact pxB_9 e1 e2 e3 e4.1 e4.2 e6 e7 e8
theorem ball_mod {b : Int} (h : inB b 1 1000000 = true) : Int.tmod b 4 = b % 4 := by
  simp only [inB, Bool.and_eq_true, decide_eq_true_eq] at h
  exact Int.tmod_eq_emod_of_nonneg (by omega)
theorem ret_pi {a b : Pxs} {x y : Int} (h : a = b) (k : x = y) : Go.Ending.returned (.tuple #[pV a, .int .i64 x]) = .returned (.tuple #[pV b, .int .i64 y]) := by rw [h, k]
def ps0 (h v b x : Int) : Pxs := ⟨h, v, 1, b, x, 0, 0, 0⟩
def psP (h v b x : Int) : Pxs := if pxB (ps0 h v b x) = true then ps0 h v b x else p00
def psC (h v b x : Int) : Int := if pxB (ps0 h v b x) = true then 0 else 4
end Go.Proofs.YtefnapcegeojoaaGreatDoor

namespace Go.Proofs.YtefnapcegeojoaaGreatDoor
set_option linter.unusedVariables false
def bksB (xs : List Bk) : Bool := decide (xs.length = 4) && xs.all bkB
theorem bksB_true {xs : List Bk} (h : xs.length = 4) (ha : ∀ j (h : j < xs.length), bkB xs[j] = true) : bksB xs = true := by
  unfold bksB
  rw [all_of (p := bkB) (fun i hi _ => ha i hi)]
  simp [h]
theorem bksB_false_len {xs : List Bk} (h : ¬ xs.length = 4) : bksB xs = false := by simp [bksB, h]
theorem bksB_false_at {xs : List Bk} {k : Nat} (hk : k < xs.length) (h : bkB xs[k] = false) : bksB xs = false := by
  unfold bksB
  rw [all_not (p := bkB) hk h]
  simp
theorem bksB_parts {xs : List Bk} (h : bksB xs = true) : xs.length = 4 ∧ ∀ i, i < xs.length → bkB (xs.getD i bk0) = true := by
  unfold bksB at h
  simp only [Bool.and_eq_true, decide_eq_true_eq, List.all_eq_true] at h
  refine ⟨h.1, fun i hi => ?_⟩
  have : xs.getD i bk0 = xs[i] := by simp [hi]
  rw [this]
  exact h.2 _ (List.getElem_mem hi)
def bfC (xs : List Bk) : Int := if 4096 < xs.length then 2 else if bksB xs = true then 0 else 1
theorem bfC_long {xs : List Bk} (h : 4096 < xs.length) : bfC xs = 2 := if_pos h
theorem bfC_ok {xs : List Bk} (h : ¬ 4096 < xs.length) (hb : bksB xs = true) : bfC xs = 0 := by rw [bfC, if_neg h, if_pos hb]
theorem bfC_bad {xs : List Bk} (h : ¬ 4096 < xs.length) (hb : bksB xs = false) : bfC xs = 1 := by rw [bfC, if_neg h, if_neg (by simp [hb])]
def stOK (p : Pxs) (xs : List Bk) : Bool := decide (¬ 4096 < xs.length) && (pxB p && bksB xs)
def stEnd (p : Pxs) : Int := if p.phase = 5 ∨ p.phase = 6 then 15 else 0
def stC (p : Pxs) (xs : List Bk) : Int := if 4096 < xs.length then 2 else if (pxB p && bksB xs) = true then stEnd p else 1
def stP (p : Pxs) (xs : List Bk) : Pxs := if stOK p xs = true then (pxStepP p xs).1 else p00
def stL (p : Pxs) (xs : List Bk) : List Bk := if stOK p xs = true then (pxStepP p xs).2 else []
theorem st_long {p : Pxs} {xs : List Bk} (h : 4096 < xs.length) : stP p xs = p00 ∧ stL p xs = [] ∧ stC p xs = 2 := by
  have e : stOK p xs = false := by simp [stOK]; intro h'; omega
  exact ⟨if_neg (by simp [e]), if_neg (by simp [e]), if_pos h⟩
theorem st_bad {p : Pxs} {xs : List Bk} (h : ¬ 4096 < xs.length) (hb : (pxB p && bksB xs) = false) : stP p xs = p00 ∧ stL p xs = [] ∧ stC p xs = 1 := by
  have e : stOK p xs = false := by rw [stOK, hb]; simp
  exact ⟨if_neg (by simp [e]), if_neg (by simp [e]), by rw [stC, if_neg h, if_neg (by simp [hb])]⟩
theorem st_ok {p : Pxs} {xs : List Bk} (h : ¬ 4096 < xs.length) (h1 : pxB p = true) (h2 : bksB xs = true) : stP p xs = (pxStepP p xs).1 ∧ stL p xs = (pxStepP p xs).2 ∧ stC p xs = stEnd p := by
  have e : stOK p xs = true := by simp [stOK, h1, h2]; omega
  exact ⟨if_pos e, if_pos e, by rw [stC, if_neg h, if_pos (by rw [h1, h2]; rfl)]⟩
def nbC (h v : Int) (xs : List Bk) : Int := if bfC xs ≠ 0 then bfC xs else if (inB h 0 3 && inB v 0 1000000) = true then (if 1000000 < nxBal h v xs then 6 else 0) else 4
def nbN (h v : Int) (xs : List Bk) : Int := if nbC h v xs = 0 then nxBal h v xs else 0
theorem nb_fault {h v : Int} {xs : List Bk} (e : bfC xs ≠ 0) : nbN h v xs = 0 ∧ nbC h v xs = bfC xs := by
  have hc : nbC h v xs = bfC xs := if_pos e
  exact ⟨by rw [nbN, if_neg (by rw [hc]; exact e)], hc⟩
theorem nb_range {h v : Int} {xs : List Bk} (e : bfC xs = 0) (hr : (inB h 0 3 && inB v 0 1000000) = false) : nbN h v xs = 0 ∧ nbC h v xs = 4 := by
  have hc : nbC h v xs = 4 := by rw [nbC, if_neg (by simp [e]), if_neg (by simp [hr])]
  exact ⟨by rw [nbN, if_neg (by rw [hc]; decide)], hc⟩
theorem nb_many {h v : Int} {xs : List Bk} (e : bfC xs = 0) (h1 : inB h 0 3 = true) (h2 : inB v 0 1000000 = true) (hm : 1000000 < nxBal h v xs) : nbN h v xs = 0 ∧ nbC h v xs = 6 := by
  have hc : nbC h v xs = 6 := by rw [nbC, if_neg (by simp [e]), if_pos (by rw [h1, h2]; rfl), if_pos hm]
  exact ⟨by rw [nbN, if_neg (by rw [hc]; decide)], hc⟩
theorem nb_ok {h v : Int} {xs : List Bk} (e : bfC xs = 0) (h1 : inB h 0 3 = true) (h2 : inB v 0 1000000 = true) (hm : ¬ 1000000 < nxBal h v xs) : nbN h v xs = nxBal h v xs ∧ nbC h v xs = 0 := by
  have hc : nbC h v xs = 0 := by rw [nbC, if_neg (by simp [e]), if_pos (by rw [h1, h2]; rfl), if_neg hm]
  exact ⟨if_pos hc, hc⟩
theorem bfC_zero {xs : List Bk} (h : bfC xs = 0) : bksB xs = true := by
  unfold bfC at h
  split at h
  · cases h
  · split at h
    · assumption
    · cases h
theorem bkOf_mbal (b : Bk) (v : Int) : (bkOf b v).mbal = 0 ∨ (bkOf b v).mbal = b.mbal := by
  unfold bkOf; split
  · exact .inl rfl
  · exact .inr rfl
theorem nxMax_drop {v : Int} {xs : List Bk} {k : Nat} (hk : k < xs.length) (n : Int) : nxMax v (xs.drop k) n = nxMax v (xs.drop (k + 1)) (max n (bkOf xs[k] v).mbal) := by
  rw [List.drop_eq_getElem_cons hk]; rfl
theorem nxMax_done {v : Int} {xs : List Bk} {k : Nat} (hk : ¬ k < xs.length) (n : Int) : nxMax v (xs.drop k) n = n := by
  rw [List.drop_of_length_le (by omega)]; rfl
end Go.Proofs.YtefnapcegeojoaaGreatDoor

namespace Go.Proofs.YtefnapcegeojoaaGreatDoor
set_option linter.unusedVariables false
theorem bkOf_right {b : Bk} {v : Int} (h : bkB b = true) (hv : 0 ≤ v ∧ v ≤ 1000000) : bkB (bkOf b v) = true := by
  unfold bkOf
  split
  · exact bkB_iff.2 ⟨hv, (by decide : (0 : Int) ≤ 0 ∧ (0 : Int) ≤ 1000000), (by decide : (0 : Int) ≤ 0 ∧ (0 : Int) ≤ 0), (by decide : (0 : Int) ≤ 0 ∧ (0 : Int) ≤ 2147483647), .inr rfl⟩
  · exact h
theorem skip_le {p : Pxs} {n : Int} (hh : 0 ≤ p.host ∧ p.host ≤ 3) (h0 : 0 ≤ n) (h4 : n ≤ 4) : 0 ≤ skip p n ∧ skip p n ≤ 4 := by unfold skip; split <;> omega
theorem look_right {p : Pxs} {b : Bk} (hp : pxB p = true) (hn : p.next < 4) (hb : bkB b = true) : pxB (pxLook p b) = true := by
  obtain ⟨h1, h2, h3, h4, h5, h6, h7, h8, h9⟩ := pxB_iff.1 hp
  obtain ⟨_, b2, b3, b4, _⟩ := bkB_iff.1 hb
  refine pxB_iff.2 ⟨h1, h2, h3, h4, h5, h6, skip_le h1 (by omega) (by omega), ?_, ?_⟩
  · show 0 ≤ (if p.phase = 2 ∧ p.bestBal < b.bal then b.inp else p.best) ∧ (if p.phase = 2 ∧ p.bestBal < b.bal then b.inp else p.best) ≤ 2147483647
    split
    · exact b4
    · exact h8
  · show 0 ≤ (if p.phase = 2 ∧ p.bestBal < b.bal then b.bal else p.bestBal) ∧ (if p.phase = 2 ∧ p.bestBal < b.bal then b.bal else p.bestBal) ≤ 1000000
    split
    · omega
    · exact h9
theorem end_right {p : Pxs} (hp : pxB p = true) : pxB (pxEnd p) = true := by
  obtain ⟨h1, h2, h3, h4, h5, h6, h7, h8, h9⟩ := pxB_iff.1 hp
  unfold pxEnd
  split
  · exact hp
  · split
    · exact pxB_iff.2 ⟨h1, h2, (by decide : (1 : Int) ≤ 5 ∧ (5 : Int) ≤ 6), h4, h5, h6, h7, h8, h9⟩
    · refine pxB_iff.2 ⟨h1, h2, (by decide : (1 : Int) ≤ 3 ∧ (3 : Int) ≤ 6), h4, h5, ?_, h7, h8, h9⟩
      show 0 ≤ (if 0 < p.bestBal then p.best else p.value) ∧ (if 0 < p.bestBal then p.best else p.value) ≤ 2147483647
      split
      · exact h8
      · exact h6
theorem rd_right {p : Pxs} {bs : List Bk} (hp : pxB p = true) (hb : bksB bs = true) : pxB (pxRd p bs) = true := by
  obtain ⟨h1, h2, h3, h4, h5, h6, h7, h8, h9⟩ := pxB_iff.1 hp
  obtain ⟨hl, hr⟩ := bksB_parts hb
  have hs := skip_le h1 h7.1 h7.2
  have hq : pxB { p with next := skip p p.next } = true := pxB_iff.2 ⟨h1, h2, h3, h4, h5, h6, hs, h8, h9⟩
  have e : pxRd p bs = (if skip p p.next < 4 then (if p.ver < (bkOf (bs.getD (skip p p.next).toNat bk0) p.ver).ver ∨ p.ballot < (bkOf (bs.getD (skip p p.next).toNat bk0) p.ver).mbal then { p with next := skip p p.next, phase := 6 } else pxEnd (pxLook { p with next := skip p p.next } (bkOf (bs.getD (skip p p.next).toNat bk0) p.ver))) else pxEnd { p with next := skip p p.next }) := rfl
  rw [e]
  by_cases hn : skip p p.next < 4
  · rw [if_pos hn]
    have hbk : bkB (bkOf (bs.getD (skip p p.next).toNat bk0) p.ver) = true := bkOf_right (hr _ (by omega)) h2
    by_cases ha : p.ver < (bkOf (bs.getD (skip p p.next).toNat bk0) p.ver).ver ∨ p.ballot < (bkOf (bs.getD (skip p p.next).toNat bk0) p.ver).mbal
    · rw [if_pos ha]
      exact pxB_iff.2 ⟨h1, h2, (by decide : (1 : Int) ≤ 6 ∧ (6 : Int) ≤ 6), h4, h5, h6, hs, h8, h9⟩
    · rw [if_neg ha]
      exact end_right (look_right hq hn hbk)
  · rw [if_neg hn]
    exact end_right hq
theorem set_right {bs : List Bk} {k : Nat} {y : Bk} (hb : bksB bs = true) (hy : bkB y = true) : bksB (bs.set k y) = true := by
  unfold bksB at hb ⊢
  simp only [Bool.and_eq_true, decide_eq_true_eq, List.all_eq_true] at hb ⊢
  refine ⟨by rw [List.length_set]; exact hb.1, fun x hx => ?_⟩
  rcases List.mem_or_eq_of_mem_set hx with h | h
  · exact hb.2 x h
  · rw [h]; exact hy
theorem px_right {p : Pxs} {bs : List Bk} (hp : pxB p = true) (hb : bksB bs = true) : pxB (pxStepP p bs).1 = true ∧ bksB (pxStepP p bs).2 = true := by
  obtain ⟨h1, h2, h3, h4, h5, h6, h7, h8, h9⟩ := pxB_iff.1 hp
  obtain ⟨hl, hr⟩ := bksB_parts hb
  unfold pxStepP
  split
  · exact ⟨hp, hb⟩
  · split
    · exact ⟨rd_right hp hb, hb⟩
    · have ho : bkB (pxOwn p bs) = true := bkOf_right (hr _ (by omega)) h2
      obtain ⟨b1, b2, b3, b4, b5⟩ := bkB_iff.1 ho
      split
      · exact ⟨pxB_iff.2 ⟨h1, h2, (by decide : (1 : Int) ≤ 6 ∧ (6 : Int) ≤ 6), h4, h5, h6, h7, h8, h9⟩, hb⟩
      · rename_i hno
        refine ⟨?_, set_right hb ?_⟩
        · show pxB (pxW1 p (pxOwn p bs)) = true
          unfold pxW1
          split
          · exact pxB_iff.2 ⟨h1, h2, (by decide : (1 : Int) ≤ 2 ∧ (2 : Int) ≤ 6), h4, h5, h6, (by decide : (0 : Int) ≤ 0 ∧ (0 : Int) ≤ 4), b4, by show 0 ≤ (pxOwn p bs).bal ∧ (pxOwn p bs).bal ≤ 1000000; omega⟩
          · exact pxB_iff.2 ⟨h1, h2, (by decide : (1 : Int) ≤ 4 ∧ (4 : Int) ≤ 6), h4, h5, h6, (by decide : (0 : Int) ≤ 0 ∧ (0 : Int) ≤ 4), h8, h9⟩
        · unfold pxW2
          split
          · refine bkB_iff.2 ⟨h2, by show 0 ≤ p.ballot ∧ p.ballot ≤ 1000000; omega, ?_, b4, b5⟩
            show 0 ≤ (pxOwn p bs).bal ∧ (pxOwn p bs).bal ≤ p.ballot
            have : ¬ p.ballot < (pxOwn p bs).mbal := fun h => hno (.inr (.inl h))
            omega
          · exact bkB_iff.2 ⟨h2, by show 0 ≤ p.ballot ∧ p.ballot ≤ 1000000; omega, by show 0 ≤ p.ballot ∧ p.ballot ≤ p.ballot; omega, h6, .inl (by show 0 < p.ballot; omega)⟩

end Go.Proofs.YtefnapcegeojoaaGreatDoor
