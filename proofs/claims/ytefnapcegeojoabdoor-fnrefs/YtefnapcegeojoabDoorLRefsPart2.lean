import Derived.Test.YtefnapcegeojoabDoorRows
import Derived.Test.YtefnapcegeojoabDoorLRefsPart1
import Derived.WalkKit
import Derived.WalkSpells
import Derived.Lib.LazyBuf
import Derived.KernelRfl
import Derived.Lib.SmallJoins
import Derived.BigQuiet
import Derived.Deep.QuietTactic
import Derived.Deep.RegionWith
import Derived.Deep.MidRow
import Derived.Laws.BytesArg

/- Contracts of the program's reader of numbers: demand, readNumber. -/
namespace Go.Proofs.YtefnapcegeojoabDoor
open Go.RowKit
set_option linter.unusedVariables false
set_option maxRecDepth 100000

def ErrW (w : World) : Prop := ∃ u pv, w.cell? ⟨1, 0, none⟩ = some (.iface u pv)

theorem demand_true (w : World) : Calls Tryd.prog 108 #[.bool true] w fun e w' => e = .returned (.tuple #[]) ∧ w' = w := by
  go_enter Tryd.func108, Tryd.ntmps108
  go_wp2
  go_end0
  exact ⟨rfl, rfl⟩
theorem run_panic_iface (P : Program) (w : World) (u : TypeId) (pv : Value) : (Instr.panic (.iface u pv)).run P w = .halt (.panic (.iface u pv)) w := by
  simp [Instr.panic, goPanic, go_sem]
theorem demand_false (w : World) (h : ErrW w) : Calls Tryd.prog 108 #[.bool false] w fun e w' => (∃ u pv, e = .panicked [{ v := .iface u pv, recovered := false }]) ∧ w' = w := by
  obtain ⟨u, pv, hc⟩ := h
  have hp := fun w => run_panic_iface Tryd.prog w u pv
  go_enter Tryd.func108, Tryd.ntmps108
  go_wp2
  exact ⟨rfl, ⟨u, pv, rfl⟩, rfl⟩

theorem demand_if (b : Bool) (w : World) (hb : b = true) : Calls Tryd.prog 108 #[.bool b] w fun e w' => e = .returned (.tuple #[]) ∧ w' = w := by
  subst hb; exact demand_true w
theorem demand_not (b : Bool) (w : World) (hb : b = false) (h : ErrW w) : Calls Tryd.prog 108 #[.bool b] w fun e w' => (∃ u pv, e = .panicked [{ v := .iface u pv, recovered := false }]) ∧ w' = w := by
  subst hb; exact demand_false w h

theorem alloc_row (w : World) (c d : Array Value) (t : TypeId) : (w.alloc (.cells c t)).setRow w.heap.size d = w.alloc (.cells d t) := by
  have h : ((w.heap.push (.cells c t)).modify w.heap.size fun | .cells _ elem frozen => .cells d elem frozen | o => o) = w.heap.push (.cells d t) := by
    apply Array.ext
    · simp
    · intro i h1 h2
      rw [Array.getElem_modify]
      by_cases hi : w.heap.size = i
      · subst hi; simp
      · rw [if_neg hi]
        simp at h1
        rw [Array.getElem_push_lt (by omega), Array.getElem_push_lt (by omega)]
  unfold World.setRow
  have h' : ∀ X : Array Obj, X = w.heap.push (.cells d t) → ({ w.alloc (.cells c t) with heap := X } : World) = w.alloc (.cells d t) := by
    rintro X rfl
    rfl
  exact h' _ h
theorem first4 {s : ByteArray} (hs : 4 ≤ s.size) : (s.data.toList.map fun b : UInt8 => Value.int .u8 (b.toNat : Int)).take 4 = [.int .u8 (byteAt s 0), .int .u8 (byteAt s 1), .int .u8 (byteAt s 2), .int .u8 (byteAt s 3)] := by
  have hl : 4 ≤ s.data.toList.length := by simpa using hs
  obtain ⟨a, b, c, d, r, e⟩ : ∃ a b c d r, s.data.toList = a :: b :: c :: d :: r := by
    match h : s.data.toList with
    | a :: b :: c :: d :: r => exact ⟨a, b, c, d, r, rfl⟩
    | [] => simp [h] at hl
    | [a] => simp [h] at hl
    | [a, b] => simp [h] at hl
    | [a, b, c] => simp [h] at hl
  have hb : ∀ k, byteAt s k = ((s.data.toList[k]?.getD 0).toNat : Int) := fun k => by simp [byteAt]
  rw [hb, hb, hb, hb, e]
  simp
theorem copy4 (w : World) (s : ByteArray) (hs : 4 ≤ s.size) : (Builtin.copy_ #[39, 9] 3 #[.slice (some ⟨w.heap.size, 0, none⟩) 4 4, .string s]).run Tryd.prog (w.alloc (.cells #[.int .u8 0, .int .u8 0, .int .u8 0, .int .u8 0] 159)) = .ok (.int .i64 4) (w.alloc (.cells #[.int .u8 (byteAt s 0), .int .u8 (byteAt s 1), .int .u8 (byteAt s 2), .int .u8 (byteAt s 3)] 159)) := by
  have hsz : (Tryd.prog.info? 5).map (·.size) = some 1 := by kernel_rfl
  have hst := run_storeCells_at Tryd.prog w.heap.size 0 159 [.int .u8 (byteAt s 0), .int .u8 (byteAt s 1), .int .u8 (byteAt s 2), .int .u8 (byteAt s 3)] 0 #[.int .u8 0, .int .u8 0, .int .u8 0, .int .u8 0] (w.alloc (.cells #[.int .u8 0, .int .u8 0, .int .u8 0, .int .u8 0] 159)) (heap_alloc_new w _) (by simp) (by
    intro v hv
    simp at hv
    rcases hv with rfl | rfl | rfl | rfl <;> rfl)
  have hmin : Nat.min s.size 4 = 4 := Nat.min_eq_right hs
  cases hq : Tryd.prog.info? 5 with
  | none => simp [hq] at hsz
  | some i =>
    simp [Builtin.copy_, run_underlying Tryd.underlying39, Builtin.lenOf, Builtin.firstCells, sizeOf, typeInfo, hq, hmin]
    rw [first4 hs, hst]
    simp [Result.andThen, alloc_row]
    rfl

theorem copy4_at (W : World) (g : Nat) (s : ByteArray) (hg : W.heap.size = g) (hs : 4 ≤ s.size) : (Builtin.copy_ #[39, 9] 3 #[.slice (some ⟨g, 0, none⟩) 4 4, .string s]).run Tryd.prog (W.alloc (.cells #[.int .u8 0, .int .u8 0, .int .u8 0, .int .u8 0] 159)) = .ok (.int .i64 4) (W.alloc (.cells #[.int .u8 (byteAt s 0), .int .u8 (byteAt s 1), .int .u8 (byteAt s 2), .int .u8 (byteAt s 3)] 159)) := by
  subst hg; exact copy4 W s hs

theorem readNumber_ok (s : ByteArray) (w : World) (hs : 4 ≤ s.size) (hn : numB (numAt s 0) = true) : Calls Tryd.prog 144 #[.string s] w fun e w' => e = .returned (.int .i64 (numAt s 0)) ∧ Below w.heap.size w w' := by
  have hc4 := copy4 w s hs
  have hnum := num_impl s
  go_enter Tryd.func144, Tryd.ntmps144
  go_wp2_with (first | (go_at_call 86; refine (isNumber_any _ _).mono ?_; rintro e w' ⟨rfl, rfl⟩) | (go_at_call 108; refine (demand_true _).mono ?_; rintro e w' ⟨rfl, rfl⟩))
  go_ret
  exact ⟨rfl, Joins.below_alloc1 _ _⟩
theorem ErrW.below {w w' : World} (h : ErrW w) (hb : Below w.heap.size w w') : ErrW w' := by
  obtain ⟨u, pv, hc⟩ := h
  exact ⟨u, pv, (hb.cell (World.block_lt_of_cell? _ _ hc)).trans hc⟩
theorem readNumber_no (s : ByteArray) (w : World) (hs : 4 ≤ s.size) (hn : numB (numAt s 0) = false) (hE : ErrW w) : Calls Tryd.prog 144 #[.string s] w fun e w' => (∃ u pv, e = .panicked [{ v := .iface u pv, recovered := false }]) ∧ Below w.heap.size w w' := by
  have hc4 := copy4 w s hs
  have hnum := num_impl s
  have HE := hide (hE.below (Joins.below_alloc1 w (.cells #[.int .u8 (byteAt s 0), .int .u8 (byteAt s 1), .int .u8 (byteAt s 2), .int .u8 (byteAt s 3)] 159)))
  clear hE
  go_enter Tryd.func144, Tryd.ntmps144
  go_wp2_with (first | (go_at_call 86; refine (isNumber_any _ _).mono ?_; rintro e w' ⟨rfl, rfl⟩) | (go_at_call 108; refine (demand_false _ (unhide HE)).mono ?_; rintro e w' ⟨⟨u, pv, rfl⟩, rfl⟩))
  exact ⟨rfl, ⟨_, _, rfl⟩, Joins.below_alloc1 _ _⟩

end Go.Proofs.YtefnapcegeojoabDoor

/- Rows of numbers that a call made; ends of calls. -/
namespace Go.Proofs.YtefnapcegeojoabDoor
open Go.RowKit
set_option linter.unusedVariables false

theorem infoM : (Tryd.prog.info? 3).map (fun i => (i.zero, i.size, i.bytes)) = some (some (.int .i64 0), 1, 8) := by kernel_rfl
theorem int_one (n : Int) : ∀ u ∈ [Value.int .i64 n], u.oneCell' = true := by
  intro u hu
  simp at hu
  subst hu
  rfl

/-- A row of numbers that the call made. -/
def OwnN (w : World) (B : Nat) (v : Value) (xs : List Int) : Prop := ∃ qo qa, v = .slice qo xs.length qa ∧ OwnR w B 3 1 (.slice qo xs.length qa) xs.length (intV xs)
theorem OwnN.below {w w' : World} {B : Nat} {v : Value} {xs : List Int} (h : OwnN w B v xs) (hb : Below w.heap.size w w') : OwnN w' B v xs := by
  obtain ⟨qo, qa, e, ho⟩ := h
  exact ⟨qo, qa, e, ho.below hb⟩
theorem OwnN.base {w : World} {B B' : Nat} {v : Value} {xs : List Int} (h : OwnN w B v xs) (hB : B' ≤ B) : OwnN w B' v xs := by
  obtain ⟨qo, qa, e, ho⟩ := h
  exact ⟨qo, qa, e, ho.base hB⟩
theorem OwnN.nil (w : World) (B : Nat) (ao : Option Addr) : OwnN w B (.slice ao 0 0) [] := ⟨ao, 0, rfl, .inl ⟨rfl, rfl, ao, rfl⟩⟩

theorem ret_nb {v u : Value} {a b : Bool} (h : v = u) (k : a = b) : Ending.returned (.tuple #[v, .bool a]) = .returned (.tuple #[u, .bool b]) := by rw [h, k]
theorem ret_ni {v u : Value} {a b : Int} (h : v = u) (k : a = b) : Ending.returned (.tuple #[v, .int .i64 a]) = .returned (.tuple #[u, .int .i64 b]) := by rw [h, k]

theorem ret_two2 {a b c d : Int} (h : a = b) (k : c = d) : Ending.returned (.tuple #[.int .i64 a, .int .i64 c]) = .returned (.tuple #[.int .i64 b, .int .i64 d]) := by rw [h, k]

theorem OwnN.setCell {w : World} {B : Nat} {v : Value} {xs : List Int} (h : OwnN w B v xs) {a : Addr} (ha : a.block < B) (u : Value) : OwnN (w.setCell a u) B v xs := by
  obtain ⟨qo, qa, e, ho⟩ := h
  exact ⟨qo, qa, e, ho.setCell ha u⟩

end Go.Proofs.YtefnapcegeojoabDoor

/- Plain words of the clocks, and contracts of their tests: within, hourOK, configInBounds, l01In, l03Bounds. -/
namespace Go.Proofs.YtefnapcegeojoabDoor
open Go.RowKit
set_option linter.unusedVariables false
set_option maxRecDepth 100000

theorem hidB {p : Prop} (h : p) : Hid p := h
theorem frB {a b c : World} (h : Below a.heap.size a b) (k : Below b.heap.size b c) : Below a.heap.size a c := h.trans (k.mono h.size)
/-- A number within bounds. -/
def betw (n low high : Int) : Bool := decide (low ≤ n) && decide (n ≤ high)
theorem betw_yes {n low high : Int} (h : low ≤ n) (h' : n ≤ high) : betw n low high = true := by simp [betw, h, h']
theorem betw_no {n low high : Int} (h : ¬ (low ≤ n ∧ n ≤ high)) : betw n low high = false := by simp only [betw, Bool.and_eq_false_iff, decide_eq_false_iff_not]; omega
theorem betw_iff {n low high : Int} : betw n low high = true ↔ low ≤ n ∧ n ≤ high := by simp [betw]
/-- A configuration within its bounds. -/
def cfgB (f d l r : Int) : Bool := betw f 1 10000 && betw d 1 100000 && betw l 0 1000 && betw r 0 500
theorem cfgB_iff {f d l r : Int} : cfgB f d l r = true ↔ (1 ≤ f ∧ f ≤ 10000) ∧ (1 ≤ d ∧ d ≤ 100000) ∧ (0 ≤ l ∧ l ≤ 1000) ∧ 0 ≤ r ∧ r ≤ 500 := by
  simp only [cfgB, Bool.and_eq_true, betw_iff, and_assoc]
/-- The bounds of true time. -/
def latQ (r x : Int) : Int := ((x + 1) * 1000 + 999 - r) / (1000 - r)
def earQ (r x : Int) : Int := (x - 1) * 1000 / (1000 + r)
def locQ (o r t : Int) : Int := o + t * (1000 + r) / 1000
abbrev cfgV (f d l r : Int) : Value := .agg #[.int .i64 f, .int .i64 d, .int .i64 l, .int .i64 r]
abbrev clkV (o r : Int) : Value := .agg #[.int .i64 o, .int .i64 r]

/-- A configuration in a variable. -/
abbrev Four (w : World) (b : Nat) (f d l r : Int) : Prop := w.cell? ⟨b, 0, none⟩ = some (.int .i64 f) ∧ w.cell? ⟨b, 1, none⟩ = some (.int .i64 d) ∧ w.cell? ⟨b, 2, none⟩ = some (.int .i64 l) ∧ w.cell? ⟨b, 3, none⟩ = some (.int .i64 r)
theorem Four.below {w w' : World} {b : Nat} {f d l r : Int} (h : Four w b f d l r) (hb : Below w.heap.size w w') : Four w' b f d l r :=
  ⟨(hb.cell (World.block_lt_of_cell? _ _ h.1)).trans h.1, (hb.cell (World.block_lt_of_cell? _ _ h.2.1)).trans h.2.1, (hb.cell (World.block_lt_of_cell? _ _ h.2.2.1)).trans h.2.2.1, (hb.cell (World.block_lt_of_cell? _ _ h.2.2.2)).trans h.2.2.2⟩
set_option maxHeartbeats 800000 in
theorem within_any (n low high : Int) (w : World) : Calls Tryd.prog 121 #[.int .i64 n, .int .i64 low, .int .i64 high] w fun e w' => e = .returned (.bool (betw n low high)) ∧ w' = w := by
  by_cases h1 : low ≤ n
  · by_cases h2 : n ≤ high
    · have hr := hidB (betw_yes h1 h2)
      go_enter Tryd.func121, Tryd.ntmps121
      go_wp2
      go_ret
      rw [show betw n low high = true from hr]
      exact ⟨rfl, rfl⟩
    · have hr := hidB (betw_no (n := n) (low := low) (high := high) (by omega))
      go_enter Tryd.func121, Tryd.ntmps121
      go_wp2
      go_ret
      rw [show betw n low high = false from hr]
      exact ⟨rfl, rfl⟩
  · have hr := hidB (betw_no (n := n) (low := low) (high := high) (by omega))
    go_enter Tryd.func121, Tryd.ntmps121
    go_wp2
    go_ret
    rw [show betw n low high = false from hr]
    exact ⟨rfl, rfl⟩
set_option maxHeartbeats 800000 in
theorem in_any (n low high : Int) (w : World) : Calls Tryd.prog 90 #[.int .i64 n, .int .i64 low, .int .i64 high] w fun e w' => e = .returned (.bool (betw n low high)) ∧ w' = w := by
  by_cases h1 : low ≤ n
  · by_cases h2 : n ≤ high
    · have hr := hidB (betw_yes h1 h2)
      go_enter Tryd.func90, Tryd.ntmps90
      go_wp2
      go_ret
      rw [show betw n low high = true from hr]
      exact ⟨rfl, rfl⟩
    · have hr := hidB (betw_no (n := n) (low := low) (high := high) (by omega))
      go_enter Tryd.func90, Tryd.ntmps90
      go_wp2
      go_ret
      rw [show betw n low high = false from hr]
      exact ⟨rfl, rfl⟩
  · have hr := hidB (betw_no (n := n) (low := low) (high := high) (by omega))
    go_enter Tryd.func90, Tryd.ntmps90
    go_wp2
    go_ret
    rw [show betw n low high = false from hr]
    exact ⟨rfl, rfl⟩

theorem cfg_1 {f d l r : Int} (h : betw f 1 10000 = false) : cfgB f d l r = false := by simp [cfgB, h]
theorem cfg_2 {f d l r : Int} (h : betw d 1 100000 = false) : cfgB f d l r = false := by simp [cfgB, h]
theorem cfg_3 {f d l r : Int} (h : betw l 0 1000 = false) : cfgB f d l r = false := by simp [cfgB, h]
theorem cfg_4 {f d l r : Int} (h1 : betw f 1 10000 = true) (h2 : betw d 1 100000 = true) (h3 : betw l 0 1000 = true) : cfgB f d l r = betw r 0 500 := by simp [cfgB, h1, h2, h3]

end Go.Proofs.YtefnapcegeojoabDoor

/- Contracts of the model's source of choices: byte, next. -/
namespace Go.Proofs.YtefnapcegeojoabDoor
open Go.RowKit
set_option linter.unusedVariables false

/-- A slice shows these bytes. -/
def Bs (w : World) (ao : Option Addr) (n : Nat) : Prop := ∀ i, i < n → ∃ b off x, ao = some ⟨b, off, none⟩ ∧ w.cell? ⟨b, off + i, none⟩ = some (.int .u8 x) ∧ 0 ≤ x ∧ x ≤ 255
theorem Bs.below {w w' : World} {ao : Option Addr} {n : Nat} (h : Bs w ao n) (hb : Below w.heap.size w w') : Bs w' ao n := fun i hi => by
  obtain ⟨b, off, x, e, hc, h0, h1⟩ := h i hi
  exact ⟨b, off, x, e, (hb.cell (p := ⟨b, off + i, none⟩) (World.block_lt_of_cell? _ _ hc)).trans hc, h0, h1⟩
/-- A source of choices: its variable, its code. -/
def SrcB (w : World) (b : Nat) (ao : Option Addr) (n cap m : Nat) : Prop := ∃ at_ seed : Int, 0 ≤ at_ ∧ at_ ≤ m ∧ 0 ≤ seed ∧ seed < 2147483648 ∧ w.heap[b]? = some (.cells #[.slice ao n cap, .int .i64 at_, .int .i64 seed] 123 (0, 0))

/-- The variable's cells. -/
theorem src_cells {w : World} {b : Nat} {v : Value} {x y : Int} (h : w.heap[b]? = some (.cells #[v, .int .i64 x, .int .i64 y] 123 (0, 0))) :
    w.cell? ⟨b, 0, none⟩ = some v ∧ w.cell? ⟨b, 1, none⟩ = some (.int .i64 x) ∧ w.cell? ⟨b, 2, none⟩ = some (.int .i64 y) ∧ w.frozen? ⟨b, 1, none⟩ = false ∧ w.frozen? ⟨b, 2, none⟩ = false :=
  ⟨by rw [Joins.cell_of_block h]; rfl, by rw [Joins.cell_of_block h]; rfl, by rw [Joins.cell_of_block h]; rfl, Joins.unfrozen_of_block h 1, Joins.unfrozen_of_block h 2⟩
theorem set_block {w : World} {b i : Nat} {c : Array Value} {t : TypeId} (h : w.heap[b]? = some (.cells c t (0, 0))) (v : Value) : (w.setCell ⟨b, i, none⟩ v).heap[b]? = some (.cells (c.setIfInBounds i v) t (0, 0)) := by
  have hb : b < w.heap.size := (Array.getElem?_eq_some_iff.1 h).1
  have hg : w.heap[b] = .cells c t (0, 0) := by rw [Array.getElem?_eq_getElem hb] at h; simpa using h
  have hm : b < (w.setCell ⟨b, i, none⟩ v).heap.size := by simpa using hb
  rw [Array.getElem?_eq_getElem hm]
  congr 1
  unfold World.setCell
  simp only [Array.getElem_modify, if_true, hg]
  simp
theorem Bs.keep {w w' : World} {b : Nat} {ao : Option Addr} {n : Nat} {v : Value} {x y : Int} (hB : Bs w ao n) (h : w.heap[b]? = some (.cells #[v, .int .i64 x, .int .i64 y] 123 (0, 0))) (hv : ∀ z, v ≠ .int .u8 z) (hk : Keep (fun k => k = b) w w') : Bs w' ao n := fun i hi => by
  obtain ⟨b', off, z, e, hc, h0, h1⟩ := hB i hi
  refine ⟨b', off, z, e, ?_, h0, h1⟩
  have hne : b' ≠ b := by
    rintro rfl
    rw [Joins.cell_of_block h] at hc
    match hoff : off + i, hc with
    | 0, hc => exact hv z (by simpa using hc)
    | 1, hc => simp at hc
    | 2, hc => simp at hc
    | k + 3, hc => simp at hc
  have hl := World.block_lt_of_cell? _ _ hc
  rw [← hc]
  unfold World.cell?
  simp only [hk.block b' hl hne]

theorem wrapI {x : Int} (h : -9223372036854775808 ≤ x) (h' : x ≤ 9223372036854775807) : IntKind.i64.wrap x = x := by rw [IntKind.wrap_i64]; omega

theorem Keep.drewN {S : Nat → Prop} {a b : World} (h : Keep S a b) (n : Nat) : Keep S a (b.drewN n) := ⟨h.os, h.tape, h.output, h.size, h.block⟩
theorem Keep.drew {S : Nat → Prop} {a b : World} (h : Keep S a b) : Keep S a b.drew := ⟨h.os, h.tape, h.output, h.size, h.block⟩

set_option maxHeartbeats 6400000 in
theorem byte_in (b : Nat) (ao : Option Addr) (n cap a : Nat) (seed : Int) (w : World) (ha' : a ≤ 1000000) (h0 : 0 ≤ seed) (h1 : seed < 2147483648) (hn : n ≤ 1048576) (hlt : a < n)
    (hblk : w.heap[b]? = some (.cells #[.slice ao n cap, .int .i64 a, .int .i64 seed] 123 (0, 0))) (hB : Bs w ao n) :
    Calls Tryd.prog 119 #[.pointer (some ⟨b, 0, none⟩)] w fun e w' => ∃ r : Int, e = .returned (.int .i64 r) ∧ 0 ≤ r ∧ r ≤ 255 ∧ SrcB w' b ao n cap (a + 1) ∧ Keep (fun k => k = b) w w' := by
  obtain ⟨hc0, hc1, hc2, hf1, hf2⟩ := src_cells hblk
  have HBL := hide (set_block (i := 1) hblk (.int .i64 ((a : Int) + 1)))
  have HK := hide (Keep.setCell (S := fun k => k = b) (Keep.refl _ w) (p := ⟨b, 1, none⟩) rfl (.int .i64 ((a : Int) + 1)))
  have HB := hide (hB.keep hblk (fun z h => by cases h) (unhide HK))
  have hle : (a : Int) + 1 ≤ n := by omega
  go_enter Tryd.func119, Tryd.ntmps119
  go_wp2
  clear hc0 hc1 hc2 hf1 hf2 hblk hB
  revert HBL HK HB
  generalize w.setCell ⟨b, 1, none⟩ (.int .i64 ((a : Int) + 1)) = W1
  intro HBL HK HB
  obtain ⟨hc0, hc1, hc2, hf1, hf2⟩ := src_cells (unhide HBL)
  obtain ⟨b', off, x, rfl, hcx, hx0, hx1⟩ := unhide HB a hlt
  go_quiet (fail)
  have hw1 : IntKind.i64.wrap ((a : Int) + 1 - 1) = (a : Int) := by rw [wrapI (by omega) (by omega)]; omega
  have hw2 : IntKind.i64.wrap (seed * 31) = seed * 31 := wrapI (by omega) (by omega)
  have hw3 : IntKind.i64.wrap x = x := wrapI (by omega) (by omega)
  have hw4 : IntKind.i64.wrap (seed * 31 + x) = seed * 31 + x := wrapI (by omega) (by omega)
  have hw5 : IntKind.i64.wrap (seed * 31 + x + 7) = seed * 31 + x + 7 := wrapI (by omega) (by omega)
  go_wp2
  have hs0 : 0 ≤ (seed * 31 + x + 7) % 2147483648 := by omega
  have hs1 : (seed * 31 + x + 7) % 2147483648 < 2147483648 := by omega
  go_region
  clear hc0 hc1 hc2 hf1 hf2
  have HBL2 : Hid (((W1.drewN (nq + 1)).setCell ⟨b, 2, none⟩ (.int .i64 ((seed * 31 + x + 7) % 2147483648))).heap[b]? = some (.cells #[.slice (some ⟨b', off, none⟩) n cap, .int .i64 ((a : Int) + 1), .int .i64 ((seed * 31 + x + 7) % 2147483648)] 123 (0, 0))) := hide (set_block (w := W1.drewN (nq + 1)) (i := 2) (unhide HBL) _)
  have HK2 : Hid (Keep (fun k => k = b) W1 ((W1.drewN (nq + 1)).setCell ⟨b, 2, none⟩ (.int .i64 ((seed * 31 + x + 7) % 2147483648)))) := hide (Keep.setCell (S := fun k => k = b) ((Keep.refl _ W1).drewN _) (p := ⟨b, 2, none⟩) rfl _)
  have HB2 := hide ((unhide HB).keep (unhide HBL) (fun z h => by cases h) (unhide HK2))
  revert HBL2 HK2 HB2
  generalize (W1.drewN (nq + 1)).setCell ⟨b, 2, none⟩ (.int .i64 ((seed * 31 + x + 7) % 2147483648)) = W2
  intro HBL2 HK2 HB2
  have HKK := hide ((unhide HK).trans (unhide HK2))
  clear HBL HB HK HK2 hcx
  obtain ⟨hc0, hc1, hc2, hf1, hf2⟩ := src_cells (unhide HBL2)
  obtain ⟨b2, off2, x2, he2, hcx, hy0, hy1⟩ := unhide HB2 a hlt
  simp only [Option.some.injEq, Addr.mk.injEq, and_true] at he2
  obtain ⟨rfl, rfl⟩ := he2
  have hw6 : IntKind.i64.wrap x2 = x2 := wrapI (by omega) (by omega)
  go_wp2
  go_quiet (fail)
  go_wp2
  go_ret
  exact ⟨x2, rfl, hy0, hy1, ⟨(a : Int) + 1, _, by omega, by omega, hs0, hs1, unhide HBL2⟩, (unhide HKK).drewN _⟩

set_option maxRecDepth 100000 in
set_option maxHeartbeats 6400000 in
theorem byte_out (b : Nat) (ao : Option Addr) (n cap a : Nat) (seed : Int) (w : World) (ha' : a ≤ 1000000) (h0 : 0 ≤ seed) (h1 : seed < 2147483648) (hn : n ≤ 1048576) (hlt : ¬ a < n)
    (hblk : w.heap[b]? = some (.cells #[.slice ao n cap, .int .i64 a, .int .i64 seed] 123 (0, 0))) :
    Calls Tryd.prog 119 #[.pointer (some ⟨b, 0, none⟩)] w fun e w' => ∃ r : Int, e = .returned (.int .i64 r) ∧ 0 ≤ r ∧ r ≤ 255 ∧ SrcB w' b ao n cap (a + 1) ∧ Keep (fun k => k = b) w w' := by
  obtain ⟨hc0, hc1, hc2, hf1, hf2⟩ := src_cells hblk
  have HBL := hide (set_block (i := 1) hblk (.int .i64 ((a : Int) + 1)))
  have HK := hide (Keep.setCell (S := fun k => k = b) (Keep.refl _ w) (p := ⟨b, 1, none⟩) rfl (.int .i64 ((a : Int) + 1)))
  have hle : ¬ (a : Int) + 1 ≤ n := by omega
  have hw2 : IntKind.i64.wrap (seed * 1103515245) = seed * 1103515245 := wrapI (by omega) (by omega)
  have hw4 : IntKind.i64.wrap (seed * 1103515245 + 12345) = seed * 1103515245 + 12345 := wrapI (by omega) (by omega)
  have hs0 : 0 ≤ (seed * 1103515245 + 12345) % 2147483648 := by omega
  have hs1 : (seed * 1103515245 + 12345) % 2147483648 < 2147483648 := by omega
  by_cases h3 : 3000 < a + 1
  · have h3i : (3000 : Int) < (a : Int) + 1 := by omega
    go_enter Tryd.func119, Tryd.ntmps119
    go_wp2
    clear hc0 hc1 hc2 hf1 hf2 hblk
    revert HBL HK
    generalize w.setCell ⟨b, 1, none⟩ (.int .i64 ((a : Int) + 1)) = W1
    intro HBL HK
    obtain ⟨hc0, hc1, hc2, hf1, hf2⟩ := src_cells (unhide HBL)
    go_quiet (fail)
    go_wp2
    go_ret
    exact ⟨0, rfl, by omega, by omega, ⟨(a : Int) + 1, seed, by omega, by omega, h0, h1, unhide HBL⟩, (unhide HK).drewN _⟩
  · have h3i : ¬ (3000 : Int) < (a : Int) + 1 := by omega
    go_enter Tryd.func119, Tryd.ntmps119
    go_wp2
    clear hc0 hc1 hc2 hf1 hf2 hblk
    revert HBL HK
    generalize w.setCell ⟨b, 1, none⟩ (.int .i64 ((a : Int) + 1)) = W1
    intro HBL HK
    obtain ⟨hc0, hc1, hc2, hf1, hf2⟩ := src_cells (unhide HBL)
    go_quiet (fail)
    have HS2 := hide (set_block (w := W1.drewN nq) (i := 2) (unhide HBL) (.int .i64 ((seed * 1103515245 + 12345) % 2147483648)))
    have HK2 := hide (Keep.setCell (S := fun k => k = b) ((unhide HK).drewN nq) (p := ⟨b, 2, none⟩) rfl (.int .i64 ((seed * 1103515245 + 12345) % 2147483648)))
    go_wp2
    go_ret
    exact ⟨_, rfl, by omega, by omega, ⟨(a : Int) + 1, _, by omega, by omega, hs0, hs1, unhide HS2⟩, unhide HK2⟩

theorem byte_any (b : Nat) (ao : Option Addr) (n cap m : Nat) (w : World) (hm : m ≤ 1000000) (hn : n ≤ 1048576) (hs : SrcB w b ao n cap m) (hB : Bs w ao n) :
    Calls Tryd.prog 119 #[.pointer (some ⟨b, 0, none⟩)] w fun e w' => ∃ r : Int, e = .returned (.int .i64 r) ∧ 0 ≤ r ∧ r ≤ 255 ∧ SrcB w' b ao n cap (m + 1) ∧ Keep (fun k => k = b) w w' := by
  obtain ⟨at_, seed, ha0, ha1, h0, h1, hblk⟩ := hs
  obtain ⟨a, rfl⟩ := Int.eq_ofNat_of_zero_le ha0
  have up : ∀ {w' : World}, SrcB w' b ao n cap (a + 1) → SrcB w' b ao n cap (m + 1) := by
    rintro w' ⟨x, y, c0, c1, c2, c3, c4⟩
    exact ⟨x, y, c0, by omega, c2, c3, c4⟩
  by_cases hlt : a < n
  · exact (byte_in b ao n cap a seed w (by omega) h0 h1 hn hlt hblk hB).mono fun e w' ⟨r, he, r0, r1, r2, r3⟩ => ⟨r, he, r0, r1, up r2, r3⟩
  · exact (byte_out b ao n cap a seed w (by omega) h0 h1 hn hlt hblk).mono fun e w' ⟨r, he, r0, r1, r2, r3⟩ => ⟨r, he, r0, r1, up r2, r3⟩

/-- A source as the walks hand it on. -/
structure SrcK (w : World) (b : Nat) (ao : Option Addr) (n cap m : Nat) : Prop where
  src : SrcB w b ao n cap m
  bytes : Bs w ao n
theorem SrcK.keep {w w' : World} {b : Nat} {ao : Option Addr} {n cap m m' : Nat} (h : SrcK w b ao n cap m) (hs : SrcB w' b ao n cap m') (hk : Keep (fun k => k = b) w w') : SrcK w' b ao n cap m' := by
  obtain ⟨x, y, _, _, _, _, hblk⟩ := h.src
  exact ⟨hs, h.bytes.keep hblk (fun z h => by cases h) hk⟩
theorem SrcK.more {w : World} {b : Nat} {ao : Option Addr} {n cap m m' : Nat} (h : SrcK w b ao n cap m) (hm : m ≤ m') : SrcK w b ao n cap m' := by
  obtain ⟨⟨x, y, c0, c1, c2, c3, c4⟩, hB⟩ := h
  exact ⟨⟨x, y, c0, by omega, c2, c3, c4⟩, hB⟩
theorem SrcK.below {w w' : World} {b : Nat} {ao : Option Addr} {n cap m : Nat} (h : SrcK w b ao n cap m) (hb : Below w.heap.size w w') : SrcK w' b ao n cap m := by
  obtain ⟨⟨x, y, c0, c1, c2, c3, c4⟩, hB⟩ := h
  exact ⟨⟨x, y, c0, c1, c2, c3, by rw [hb.block b (Array.getElem?_eq_some_iff.1 c4).1]; exact c4⟩, hB.below hb⟩
theorem SrcK.lt {w : World} {b : Nat} {ao : Option Addr} {n cap m : Nat} (h : SrcK w b ao n cap m) : b < w.heap.size := by
  obtain ⟨⟨x, y, c0, c1, c2, c3, c4⟩, hB⟩ := h
  exact (Array.getElem?_eq_some_iff.1 c4).1

theorem byte_k (b : Nat) (ao : Option Addr) (n cap m : Nat) (w : World) (hm : m ≤ 1000000) (hn : n ≤ 1048576) (hs : SrcK w b ao n cap m) :
    Calls Tryd.prog 119 #[.pointer (some ⟨b, 0, none⟩)] w fun e w' => ∃ r : Int, e = .returned (.int .i64 r) ∧ 0 ≤ r ∧ r ≤ 255 ∧ SrcK w' b ao n cap (m + 1) ∧ Keep (fun k => k = b) w w' :=
  (byte_any b ao n cap m w hm hn hs.src hs.bytes).mono fun e w' ⟨r, he, r0, r1, r2, r3⟩ => ⟨r, he, r0, r1, hs.keep r2 r3, r3⟩

set_option maxHeartbeats 1600000 in
theorem next_k (b : Nat) (ao : Option Addr) (n cap m : Nat) (k : Int) (w : World) (hk0 : 1 ≤ k) (hk1 : k ≤ 1000000) (hm : m ≤ 900000) (hn : n ≤ 1048576) (hs : SrcK w b ao n cap m) :
    Calls Tryd.prog 83 #[.pointer (some ⟨b, 0, none⟩), .int .i64 k] w fun e w' => ∃ r : Int, e = .returned (.int .i64 r) ∧ 0 ≤ r ∧ r < k ∧ SrcK w' b ao n cap (m + 3) ∧ Keep (fun k => k = b) w w' := by
  have HS := hide hs
  clear hs
  by_cases h1 : k ≤ 1
  · go_enter Tryd.func83, Tryd.ntmps83
    go_wp2
    go_ret
    exact ⟨0, rfl, by omega, by omega, (unhide HS).more (by omega), Keep.refl _ _⟩
  by_cases h2 : k ≤ 256
  · go_enter Tryd.func83, Tryd.ntmps83
    go_wp2_with fail
    refine (byte_k b ao n cap m _ (by omega) hn (unhide HS)).mono ?_
    rintro e w1 ⟨r, rfl, hr0, hr1, hs1, hk⟩
    have HS1 := hide hs1
    have HK1 := hide hk
    clear hs1 hk
    go_wp2
    go_ret
    have hr2 := Int.emod_nonneg r (show k ≠ 0 by omega)
    have hr3 := Int.emod_lt_of_pos r (show 0 < k by omega)
    exact ⟨r % k, rfl, hr2, hr3, (unhide HS1).more (by omega), unhide HK1⟩
  · go_enter Tryd.func83, Tryd.ntmps83
    go_wp2_with fail
    refine (byte_k b ao n cap m _ (by omega) hn (unhide HS)).mono ?_
    rintro e w1 ⟨r, rfl, hr0, hr1, hs1, hk⟩
    have HS1 := hide hs1
    have HK1 := hide hk
    clear hs1 hk
    go_wp2_with fail
    refine (byte_k b ao n cap (m + 1) _ (by omega) hn (unhide HS1)).mono ?_
    rintro e w2 ⟨r2, rfl, hr20, hr21, hs1, hk⟩
    have HS2 := hide hs1
    have HK2 := hide ((unhide HK1).trans hk)
    clear hs1 hk
    go_wp2_with fail
    refine (byte_k b ao n cap (m + 1 + 1) _ (by omega) hn (unhide HS2)).mono ?_
    rintro e w3 ⟨r3, rfl, hr30, hr31, hs1, hk⟩
    have HS3 := hide hs1
    have HK3 := hide ((unhide HK2).trans hk)
    clear hs1 hk
    go_wp2
    go_ret
    have hq2 := Int.emod_nonneg (r * 65536 + r2 * 256 + r3) (show k ≠ 0 by omega)
    have hq3 := Int.emod_lt_of_pos (r * 65536 + r2 * 256 + r3) (show 0 < k by omega)
    exact ⟨(r * 65536 + r2 * 256 + r3) % k, rfl, hq2, hq3, (unhide HS3).more (by omega), unhide HK3⟩

end Go.Proofs.YtefnapcegeojoabDoor

/- Arrays of numbers in variables: whole loads and stores. -/
namespace Go.Proofs.YtefnapcegeojoabDoor
open Go.RowKit
set_option linter.unusedVariables false
set_option maxRecDepth 100000

section
variable {P : Program}
theorem wpList_store_arr {ops : Array Oper} {rest : List Oper} {op : Oper} {a : Act} {w : World} {Q : Exit → Act → World → Prop} (hgd : op.guard = none) (ty : TypeId) (x y : Operand) (ho : op.op = .store ty x y)
    (g : Nat) (hx : a.eval x = .pointer (some ⟨g, 0, none⟩)) (c' : Array Value) (hy : a.eval y = .agg c') (c : Array Value) (t : TypeId) (hb : w.heap[g]? = some (.cells c t (0, 0)))
    (hi : (P.info? ty).map (·.size) = some c'.size) (hs : c.size = c'.size) (h1 : c'.all (·.oneCell') = true)
    (h : ∀ w', w'.heap[g]? = some (.cells c' t (0, 0)) → Keep (fun k => k = g) w w' → w'.heap.size = w.heap.size → wpList P ops Q rest (a.put op.dst undef) w') : wpList P ops Q (op :: rest) a w :=
  wpList_plain hgd fun _ hK => by
    unfold Oper.wp execOp
    simp only [ho, hx, hy, Instr.storeAt, Instr.sureAddr, Sem.run_bind, Sem.run_pure, Result.andThen_ok, run_storeVar_row w g t ty c c' hb hi hs h1]
    exact hK _ _ (h _ (setRow_heap w g c c' t (0, 0) hb) ⟨rfl, rfl, rfl, by simp, fun k _ hk => setRow_other w g k c' hk⟩ (setRow_size w g c'))
theorem wpList_load_arr {ops : Array Oper} {rest : List Oper} {op : Oper} {a : Act} {w : World} {Q : Exit → Act → World → Prop} (hgd : op.guard = none) (ty : TypeId) (x : Operand) (ho : op.op = .load ty x)
    (g : Nat) (hx : a.eval x = .pointer (some ⟨g, 0, none⟩)) (c : Array Value) (t : TypeId) (d : TypeDesc) (hb : w.heap[g]? = some (.cells c t (0, 0)))
    (hu : P.underlying ty = some d) (hd : (match d with | .struct _ | .array _ _ => true | _ => false) = true) (hi : (P.info? ty).map (·.size) = some c.size)
    (h : wpList P ops Q rest (a.put op.dst (.agg c)) w) : wpList P ops Q (op :: rest) a w :=
  wpList_plain hgd fun _ hK => by
    unfold Oper.wp execOp
    simp only [ho, hx, Instr.loadAt, Instr.sureAddr, Sem.run_bind, Sem.run_pure, Result.andThen_ok, run_loadVar_row w g t ty c (0, 0) d hb hu hd hi]
    exact hK _ _ h
end

theorem intV_one (xs : List Int) : (intV xs).toArray.all (·.oneCell') = true := by
  apply all_oneCell_toArray
  intro v hv
  simp only [intV, List.mem_map] at hv
  obtain ⟨n, _, rfl⟩ := hv
  rfl
theorem intV_size (xs : List Int) : (intV xs).toArray.size = xs.length := by simp [intV]
theorem Is.range {w : World} {ao : Option Addr} {xs : List Int} (h : Is w ao xs) (h0 : 0 < xs.length) : ∃ b off, ao = some ⟨b, off, none⟩ ∧ w.rangeAt b off (intV xs) := by
  obtain ⟨b, off, rfl, _⟩ := h 0 h0
  refine ⟨b, off, rfl, fun j v hv => ?_⟩
  have hj : j < xs.length := by have := (List.getElem?_eq_some_iff.1 hv).1; rw [intV_length] at this; exact this
  obtain ⟨b', off', e, hc⟩ := h j hj
  rw [intV_get hj] at hv
  cases e
  rw [hc]; exact hv
theorem Is.of_block {w : World} {g : Nat} {t : TypeId} {xs : List Int} (h : w.heap[g]? = some (.cells (intV xs).toArray t (0, 0))) : Is w (some ⟨g, 0, none⟩) xs := fun i hi => by
  refine ⟨g, 0, rfl, ?_⟩
  rw [Nat.zero_add, Joins.cell_of_block h]
  simpa using intV_get hi
theorem arr_cell {w : World} {g : Nat} {t : TypeId} {xs : List Int} (h : w.heap[g]? = some (.cells (intV xs).toArray t (0, 0))) {k : Nat} (hk : k < xs.length) : w.cell? ⟨g, k, none⟩ = some (.int .i64 xs[k]) := by
  rw [Joins.cell_of_block h]; simpa using intV_get hk
theorem intV_set (xs : List Int) (k : Nat) (n : Int) : (intV xs).toArray.setIfInBounds k (.int .i64 n) = (intV (xs.set k n)).toArray := by simp [intV, List.map_set]
theorem arr_set {w : World} {g : Nat} {t : TypeId} {xs : List Int} (h : w.heap[g]? = some (.cells (intV xs).toArray t (0, 0))) (k : Nat) (n : Int) : (w.setCell ⟨g, k, none⟩ (.int .i64 n)).heap[g]? = some (.cells (intV (xs.set k n)).toArray t (0, 0)) := by
  rw [set_block (i := k) h (.int .i64 n), intV_set]
theorem block_of_below {w w' : World} {g : Nat} {o : Obj} (h : w.heap[g]? = some o) (hb : Below w.heap.size w w') : w'.heap[g]? = some o := by
  rw [hb.block g (Array.getElem?_eq_some_iff.1 h).1]; exact h
theorem keep_one {w0 w w' : World} {g : Nat} (h : Below w0.heap.size w0 w) (hk : Keep (fun k => k = g) w w') (hg : w0.heap.size ≤ g) : Below w0.heap.size w0 w' :=
  h.trans (hk.below h.size (fun k e => by omega))

end Go.Proofs.YtefnapcegeojoabDoor

/- Plain facts on records, of no program: kinds, the text of a record. -/
namespace Go.Proofs.YtefnapcegeojoabDoor
open Go.RowKit

theorem nums_append (a b : List Int) : strOfNums (a ++ b) = strOfNums a ++ strOfNums b := by
  apply ByteArray.ext
  simp [strOfNums]

def kindB (k : Int) : Bool := inB k 1 9
theorem kindB_in {k : Int} (h : kindB k = true) : 1 ≤ k ∧ k ≤ 9 := by simpa [kindB, inB] using h
theorem kindB_out {k : Int} (h : kindB k = false) : ¬ (1 ≤ k ∧ k ≤ 9) := by simpa [kindB, inB] using h
/-- What a record's sum is taken of, its sum, its text. -/
def sumT (k : Int) (xs : List Int) : ByteArray := strOfNums [k, xs.length] ++ packS xs
def sumR (k : Int) (xs : List Int) : Int := sumS (sumT k xs)
def headR (k : Int) (xs : List Int) : List Int := [k, xs.length, sumR k xs, 0]
def sealS (k : Int) (xs : List Int) : ByteArray := strOfNums (headR k xs) ++ packS xs
theorem sumT_size (k : Int) (xs : List Int) : (sumT k xs).size = 2 + xs.length * 4 := by rw [sumT, ByteArray.size_append, strOfNums_size, packS_size]; rfl
theorem sealS_size (k : Int) (xs : List Int) : (sealS k xs).size = 4 + xs.length * 4 := by rw [sealS, ByteArray.size_append, strOfNums_size, packS_size]; rfl
theorem sumR_in (k : Int) (xs : List Int) : 0 ≤ sumR k xs ∧ sumR k xs ≤ 250 := sumTo_in _ _
theorem sealS_parts (k : Int) (xs : List Int) : strOfNums [k, (xs.length : Int)] ++ strOfNums [sumR k xs, 0] ++ packS xs = sealS k xs := by
  rw [← nums_append]; rfl

/-- The code of a record that is to be sealed, its text. -/
def sealC (k : Int) (xs : List Int) : Int := if listC xs = 0 then (if kindB k = true then 0 else 4) else listC xs
def sealT (k : Int) (xs : List Int) : ByteArray := if sealC k xs = 0 then sealS k xs else ⟨#[]⟩
theorem sealC_list {k : Int} {xs : List Int} (h : listC xs ≠ 0) : sealC k xs = listC xs := if_neg h
theorem sealC_kind {k : Int} {xs : List Int} (h : listC xs = 0) (hk : kindB k = false) : sealC k xs = 4 := by rw [sealC, if_pos h, if_neg (by simp [hk])]
theorem sealC_ok {k : Int} {xs : List Int} (h : listC xs = 0) (hk : kindB k = true) : sealC k xs = 0 := by rw [sealC, if_pos h, if_pos hk]
theorem sealT_ok {k : Int} {xs : List Int} (h : sealC k xs = 0) : sealT k xs = sealS k xs := if_pos h
theorem sealT_no {k : Int} {xs : List Int} (h : sealC k xs ≠ 0) : sealT k xs = ⟨#[]⟩ := if_neg h

end Go.Proofs.YtefnapcegeojoabDoor

/- Counts, plainly: when they are right, what is answered of them, their numbers and what a text says of them. -/
namespace Go.Proofs.YtefnapcegeojoabDoor
open Go.RowKit
set_option linter.unusedVariables false
set_option maxRecDepth 100000

def cnt1 (n : Int) : Bool := betw n 0 15
/-- Counts that are right. -/
def ctB (xs : List Int) : Bool := decide (xs.length = 24) && xs.all cnt1
/-- The code of counts. -/
def ctF (xs : List Int) : Int := if 4096 < xs.length then 2 else if ctB xs = true then 0 else 1
/-- The code of counts and a cluster. -/
def cwF (xs : List Int) (c : Int) : Int := if ctF xs = 0 then (if betw c 0 23 = true then 0 else 4) else ctF xs
def zero24 : List Int := List.replicate 24 0
/-- What countsOf and countsWith hand on. -/
def coR (xs : List Int) : List Int := if ctF xs = 0 then xs else zero24
def cwR (xs : List Int) (c : Int) : List Int := if cwF xs c = 0 then xs else zero24

theorem ctB_len {xs : List Int} (h : ctB xs = true) : xs.length = 24 := by
  simp only [ctB, Bool.and_eq_true, decide_eq_true_eq] at h; exact h.1
theorem ctB_at {xs : List Int} (h : ctB xs = true) : ∀ i (hi : i < xs.length), 0 ≤ xs[i] ∧ xs[i] ≤ 15 := by
  intro i hi
  simp only [ctB, Bool.and_eq_true, decide_eq_true_eq, List.all_eq_true] at h
  exact betw_iff.1 (h.2 xs[i] (List.getElem_mem hi))
theorem ctB_of {xs : List Int} (hl : xs.length = 24) (h : ∀ i (hi : i < xs.length), cnt1 xs[i] = true) : ctB xs = true := by
  rw [ctB, decide_eq_true hl, all_of (p := cnt1) (fun i hi _ => h i hi)]; rfl
theorem ctB_nolen {xs : List Int} (hl : ¬ xs.length = 24) : ctB xs = false := by rw [ctB, decide_eq_false hl]; rfl
theorem ctB_noat {xs : List Int} {k : Nat} (hk : k < xs.length) (h : cnt1 xs[k] = false) : ctB xs = false := by rw [ctB, all_not (p := cnt1) hk h]; simp
theorem ctB_all {xs : List Int} (h : ∀ i (hi : i < xs.length), cnt1 xs[i] = true) : ctB xs = decide (xs.length = 24) := by
  rw [ctB, all_of (p := cnt1) (fun i hi _ => h i hi)]; simp
theorem ctF_long {xs : List Int} (h : 4096 < xs.length) : ctF xs = 2 := if_pos h
theorem ctF_bad {xs : List Int} (h : ¬ 4096 < xs.length) (hb : ctB xs = false) : ctF xs = 1 := by rw [ctF, if_neg h, if_neg (by simp [hb])]
theorem ctF_ok {xs : List Int} (hb : ctB xs = true) : ctF xs = 0 := by
  have := ctB_len hb
  rw [ctF, if_neg (by omega), if_pos hb]
theorem ctF_cases (xs : List Int) : (4096 < xs.length ∧ ctF xs = 2 ∧ coR xs = zero24) ∨ (¬ 4096 < xs.length ∧ ctB xs = false ∧ ctF xs = 1 ∧ coR xs = zero24) ∨ (ctB xs = true ∧ ctF xs = 0 ∧ coR xs = xs) := by
  by_cases h : 4096 < xs.length
  · exact .inl ⟨h, ctF_long h, by rw [coR, ctF_long h]; rfl⟩
  · cases hb : ctB xs
    · exact .inr (.inl ⟨h, rfl, ctF_bad h hb, by rw [coR, ctF_bad h hb]; rfl⟩)
    · exact .inr (.inr ⟨rfl, ctF_ok hb, by rw [coR, ctF_ok hb]; rfl⟩)
theorem coR_len (xs : List Int) : (coR xs).length = 24 := by
  rcases ctF_cases xs with ⟨_, _, h⟩ | ⟨_, _, _, h⟩ | ⟨hb, _, h⟩
  · rw [h]; rfl
  · rw [h]; rfl
  · rw [h]; exact ctB_len hb
theorem cwR_len (xs : List Int) (c : Int) : (cwR xs c).length = 24 := by
  unfold cwR
  split
  · rename_i h
    rcases ctF_cases xs with ⟨_, h1, _⟩ | ⟨_, _, h1, _⟩ | ⟨hb, _, _⟩
    · simp [cwF, h1] at h
    · simp [cwF, h1] at h
    · exact ctB_len hb
  · rfl

/-- What RefUp and RefDown answer. -/
def upF (xs : List Int) (c : Int) : Int := if cwF xs c = 0 then (if xs.getD c.toNat 0 = 15 then 6 else 0) else cwF xs c
def upL (xs : List Int) (c : Int) : List Int := if cwF xs c = 0 then (if xs.getD c.toNat 0 = 15 then xs else xs.set c.toNat (xs.getD c.toNat 0 + 1)) else []
def dnF (xs : List Int) (c : Int) : Int := if cwF xs c = 0 then (if xs.getD c.toNat 0 = 0 then 5 else 0) else cwF xs c
def dnL (xs : List Int) (c : Int) : List Int := if cwF xs c = 0 then (if xs.getD c.toNat 0 = 0 then xs else xs.set c.toNat (xs.getD c.toNat 0 - 1)) else []
/-- The first cluster with none, if there is one. -/
def frN (xs : List Int) : Nat := xs.findIdx (fun n => decide (n = 0))
def frC (xs : List Int) : Int := if ctF xs = 0 then (if frN xs < xs.length then 0 else 7) else ctF xs
def frR (xs : List Int) : Int := if ctF xs = 0 then (if frN xs < xs.length then (frN xs : Int) else 0) else 0
def smR (xs : List Int) : Int := if ctF xs = 0 then xs.sum else 0

/-- The three ways of RefUp and RefDown. -/
theorem cw_cases (xs : List Int) (c : Int) : (cwF xs c ≠ 0 ∧ cwR xs c = zero24 ∧ upF xs c = cwF xs c ∧ upL xs c = [] ∧ dnF xs c = cwF xs c ∧ dnL xs c = []) ∨ (ctB xs = true ∧ cwF xs c = 0 ∧ cwR xs c = xs ∧ ∃ q : Nat, c = (q : Int) ∧ q < xs.length) := by
  by_cases h : cwF xs c = 0
  · refine .inr ?_
    rcases ctF_cases xs with ⟨_, h1, _⟩ | ⟨_, _, h1, _⟩ | ⟨hb, h1, _⟩
    · simp [cwF, h1] at h
    · simp [cwF, h1] at h
    · refine ⟨hb, h, by rw [cwR, if_pos h], ?_⟩
      rw [cwF, if_pos h1] at h
      have hc : betw c 0 23 = true := by
        cases hq : betw c 0 23
        · rw [hq] at h; simp at h
        · rfl
      obtain ⟨h0, h2⟩ := betw_iff.1 hc
      exact ⟨c.toNat, by omega, by have := ctB_len hb; omega⟩
  · exact .inl ⟨h, if_neg h, if_neg h, if_neg h, if_neg h, if_neg h⟩
theorem up_at {xs : List Int} {q : Nat} (h : cwF xs (q : Int) = 0) (hq : q < xs.length) : (xs[q] = 15 → upF xs q = 6 ∧ upL xs q = xs) ∧ (¬ xs[q] = 15 → upF xs q = 0 ∧ upL xs q = xs.set q (xs[q] + 1)) := by
  have e : xs.getD (q : Int).toNat 0 = xs[q] := by simp [List.getD, hq]
  constructor
  · intro h15
    rw [upF, upL, if_pos h, if_pos h, e, if_pos h15, if_pos h15]; exact ⟨rfl, rfl⟩
  · intro h15
    rw [upF, upL, if_pos h, if_pos h, e, if_neg h15, if_neg h15]; exact ⟨rfl, by simp⟩
theorem dn_at {xs : List Int} {q : Nat} (h : cwF xs (q : Int) = 0) (hq : q < xs.length) : (xs[q] = 0 → dnF xs q = 5 ∧ dnL xs q = xs) ∧ (¬ xs[q] = 0 → dnF xs q = 0 ∧ dnL xs q = xs.set q (xs[q] - 1)) := by
  have e : xs.getD (q : Int).toNat 0 = xs[q] := by simp [List.getD, hq]
  constructor
  · intro h15
    rw [dnF, dnL, if_pos h, if_pos h, e, if_pos h15, if_pos h15]; exact ⟨rfl, rfl⟩
  · intro h15
    rw [dnF, dnL, if_pos h, if_pos h, e, if_neg h15, if_neg h15]; exact ⟨rfl, by simp⟩
theorem upL_len (xs : List Int) (c : Int) : (upL xs c).length ≤ 24 := by
  rcases cw_cases xs c with ⟨_, _, _, h, _⟩ | ⟨hb, h, _, q, rfl, hq⟩
  · rw [h]; exact Nat.zero_le _
  · have := ctB_len hb
    by_cases h15 : xs[q] = 15
    · rw [((up_at h hq).1 h15).2]; omega
    · rw [((up_at h hq).2 h15).2, List.length_set]; omega
theorem dnL_len (xs : List Int) (c : Int) : (dnL xs c).length ≤ 24 := by
  rcases cw_cases xs c with ⟨_, _, _, _, _, h⟩ | ⟨hb, h, _, q, rfl, hq⟩
  · rw [h]; exact Nat.zero_le _
  · have := ctB_len hb
    by_cases h15 : xs[q] = 0
    · rw [((dn_at h hq).1 h15).2]; omega
    · rw [((dn_at h hq).2 h15).2, List.length_set]; omega

/-- Six counts from the i-th on as one number: from the last one on, and from the first one on. -/
def hx6 (xs : List Int) (i : Nat) : Nat → Int
  | 0 => 0
  | m + 1 => 16 * hx6 xs i m + xs.getD (i + (5 - m)) 0
def lo6 (xs : List Int) (i : Nat) : Nat → Int
  | 0 => 0
  | m + 1 => lo6 xs i m + xs.getD (i + m) 0 * 16 ^ m
theorem hx_lo (xs : List Int) (i : Nat) : hx6 xs i 6 = lo6 xs i 6 := by
  simp only [hx6, lo6, Nat.sub_zero, Nat.reduceSub, Nat.add_zero]
  simp only [show (16 : Int) ^ 0 = 1 from rfl, show (16 : Int) ^ 1 = 16 from rfl, show (16 : Int) ^ 2 = 256 from rfl, show (16 : Int) ^ 3 = 4096 from rfl, show (16 : Int) ^ 4 = 65536 from rfl, show (16 : Int) ^ 5 = 1048576 from rfl]
  omega
theorem lo_in (xs : List Int) (i : Nat) (h : ∀ j, 0 ≤ xs.getD j 0 ∧ xs.getD j 0 ≤ 15) : ∀ m, 0 ≤ lo6 xs i m ∧ lo6 xs i m < 16 ^ m
  | 0 => by simp [lo6]
  | m + 1 => by
    obtain ⟨h0, h1⟩ := lo_in xs i h m
    obtain ⟨g0, g1⟩ := h (i + m)
    rw [lo6, show (16 : Int) ^ (m + 1) = 16 ^ m * 16 from Int.pow_succ 16 m]
    generalize (16 : Int) ^ m = P at *
    have a0 : 0 ≤ xs.getD (i + m) 0 * P := Int.mul_nonneg g0 (by omega)
    have a1 : xs.getD (i + m) 0 * P ≤ 15 * P := Int.mul_le_mul_of_nonneg_right g1 (by omega)
    omega
theorem ctB_getD {xs : List Int} (h : ctB xs = true) (j : Nat) : 0 ≤ xs.getD j 0 ∧ xs.getD j 0 ≤ 15 := by
  by_cases hj : j < xs.length
  · rw [List.getD, List.getElem?_eq_getElem hj]; exact ctB_at h j hj
  · rw [List.getD, List.getElem?_eq_none (by omega)]; decide
/-- The four numbers of counts, and their record. -/
def ctNs (xs : List Int) : List Int := [lo6 xs 0 6, lo6 xs 6 6, lo6 xs 12 6, lo6 xs 18 6]
def encT (xs : List Int) : ByteArray := sealS 2 (ctNs xs)
def erR (xs : List Int) : ByteArray := if ctF xs = 0 then encT xs else ⟨#[]⟩
theorem ctNs_in {xs : List Int} (h : ctB xs = true) : ∀ j (hj : j < (ctNs xs).length), 0 ≤ (ctNs xs)[j] ∧ (ctNs xs)[j] ≤ 16777215 := by
  have k : ∀ i, 0 ≤ lo6 xs i 6 ∧ lo6 xs i 6 ≤ 16777215 := fun i => by
    have := lo_in xs i (ctB_getD h) 6
    rw [show (16 : Int) ^ 6 = 16777216 from rfl] at this
    omega
  intro j hj
  match j, hj with
  | 0, _ => exact k 0
  | 1, _ => exact k 6
  | 2, _ => exact k 12
  | 3, _ => exact k 18
theorem ct_seal {xs : List Int} (h : ctB xs = true) : sealC 2 (ctNs xs) = 0 ∧ sealT 2 (ctNs xs) = encT xs := by
  have hi : intsB (ctNs xs) = true := by
    rw [intsB_len]
    · rfl
    · intro j hj
      have := ctNs_in h j hj
      simp [numB, inB]; omega
  have hc : sealC 2 (ctNs xs) = 0 := sealC_ok (listC_ok (by simp [ctNs]) hi) rfl
  exact ⟨hc, sealT_ok hc⟩
/-- The numbers when k counts are in. -/
def txN (xs : List Int) (k : Nat) : List Int := (List.range 4).map (fun q => lo6 xs (6 * q) (min 6 (k - 6 * q)))
theorem txN_len (xs : List Int) (k : Nat) : (txN xs k).length = 4 := by simp [txN]
theorem txN_zero (xs : List Int) : txN xs 0 = [0, 0, 0, 0] := by simp [txN, List.range_succ, lo6]
theorem txN_end (xs : List Int) : txN xs 24 = ctNs xs := by simp [txN, ctNs, List.range_succ]
theorem txN_get (xs : List Int) (k q : Nat) (h : q < (txN xs k).length) : (txN xs k)[q] = lo6 xs (6 * q) (min 6 (k - 6 * q)) := by simp [txN]
theorem txN_step (xs : List Int) (k : Nat) (hk : k < 24) : txN xs (k + 1) = (txN xs k).set (k / 6) (lo6 xs (6 * (k / 6)) (k % 6) + xs.getD k 0 * 16 ^ (k % 6)) := by
  apply List.ext_getElem
  · rw [List.length_set, txN_len, txN_len]
  · intro q h1 h2
    rw [txN_get, List.getElem_set]
    rw [txN_len] at h1
    split
    · rename_i e
      subst e
      have e2 : min 6 (k + 1 - 6 * (k / 6)) = k % 6 + 1 := by omega
      have e3 : 6 * (k / 6) + k % 6 = k := by omega
      rw [e2, lo6, e3]
    · rename_i e
      rw [txN_get]
      have e2 : min 6 (k + 1 - 6 * q) = min 6 (k - 6 * q) := by omega
      rw [e2]
theorem txN_at (xs : List Int) (k : Nat) (hk : k < 24) (h : k / 6 < (txN xs k).length) : (txN xs k)[k / 6] = lo6 xs (6 * (k / 6)) (k % 6) := by
  rw [txN_get]
  have e2 : min 6 (k - 6 * (k / 6)) = k % 6 := by omega
  rw [e2]
/-- The count shifted to its place, and laid upon those below it. -/
theorem pow_two (r : Nat) : (16 : Int) ^ r = 2 ^ (r * 4) := by
  rw [Nat.mul_comm, Int.pow_mul]; rfl
theorem or_place {xs : List Int} (h : ctB xs = true) (i k r : Nat) (hr : r < 6) : bits .or .i64 (lo6 xs i r) (xs.getD k 0 * 16 ^ r) = lo6 xs i r + xs.getD k 0 * 16 ^ r := by
  obtain ⟨h0, h1⟩ := lo_in xs i (ctB_getD h) r
  obtain ⟨g0, g1⟩ := ctB_getD h k
  have hp : (16 : Int) ^ r ≤ 1048576 := by
    match r, hr with
    | 0, _ => decide
    | 1, _ => decide
    | 2, _ => decide
    | 3, _ => decide
    | 4, _ => decide
    | 5, _ => decide
  have hp0 : 0 < (16 : Int) ^ r := Int.pow_pos (by omega)
  have e := pow_two r
  refine or_low (r * 4) _ _ h0 (by rw [← e]; exact h1) ?_ ?_ ?_ ?_
  · generalize (16 : Int) ^ r = P at *; omega
  · exact Int.mul_nonneg g0 (by omega)
  · rw [← e]; exact Int.mul_emod_left _ _
  · have : xs.getD k 0 * 16 ^ r ≤ 15 * 16 ^ r := Int.mul_le_mul_of_nonneg_right g1 (by omega)
    generalize (16 : Int) ^ r = P at *; omega
theorem fr_here {xs : List Int} {k : Nat} (hk : k < xs.length) (h0 : xs[k] = 0) (h : ∀ j (hj : j < xs.length), j < k → decide (xs[j] ≠ 0) = true) : frN xs = k := by
  unfold frN
  rw [List.findIdx_eq hk]
  refine ⟨by simp [h0], fun j hj => ?_⟩
  have := h j (by omega) hj
  simp only [decide_eq_true_eq] at this
  simp [this]
theorem fr_none {xs : List Int} (h : ∀ j (hj : j < xs.length), decide (xs[j] ≠ 0) = true) : ¬ frN xs < xs.length := by
  unfold frN
  rw [List.findIdx_lt_length]
  rintro ⟨x, hx, h0⟩
  obtain ⟨j, hj, rfl⟩ := List.getElem_of_mem hx
  have := h j hj
  simp at this h0
  exact this h0
theorem frC_here {xs : List Int} {k : Nat} (hb : ctB xs = true) (hk : k < xs.length) (h : frN xs = k) : frC xs = 0 ∧ frR xs = (k : Int) := by
  rw [frC, frR, if_pos (ctF_ok hb), if_pos (ctF_ok hb), if_pos (by omega), if_pos (by omega), h]; exact ⟨rfl, rfl⟩
theorem frC_none {xs : List Int} (hb : ctB xs = true) (h : ¬ frN xs < xs.length) : frC xs = 7 ∧ frR xs = 0 := by
  rw [frC, frR, if_pos (ctF_ok hb), if_pos (ctF_ok hb), if_neg h, if_neg h]; exact ⟨rfl, rfl⟩
theorem frC_bad {xs : List Int} (h : ctF xs ≠ 0) : frC xs = ctF xs ∧ frR xs = 0 ∧ smR xs = 0 := ⟨if_neg h, if_neg h, if_neg h⟩
theorem sum_take {xs : List Int} {k : Nat} (hk : k < xs.length) : (xs.take (k + 1)).sum = (xs.take k).sum + xs[k] := by
  rw [List.take_succ_eq_append_getElem hk, List.sum_append]; simp
theorem sum_in {xs : List Int} (hb : ctB xs = true) : ∀ k, k ≤ xs.length → 0 ≤ (xs.take k).sum ∧ (xs.take k).sum ≤ 15 * (k : Int)
  | 0, _ => by simp
  | k + 1, h => by
    obtain ⟨h0, h1⟩ := sum_in hb k (by omega)
    obtain ⟨g0, g1⟩ := ctB_at hb k (by omega)
    rw [sum_take (by omega)]
    omega
theorem sum_all {xs : List Int} {k : Nat} (hb : ctB xs = true) (hk : ¬ k < xs.length) : smR xs = (xs.take k).sum := by
  rw [smR, if_pos (ctF_ok hb), List.take_of_length_le (by omega)]
end Go.Proofs.YtefnapcegeojoabDoor
