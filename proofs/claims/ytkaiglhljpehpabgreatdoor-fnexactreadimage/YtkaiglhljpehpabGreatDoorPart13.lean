import Derived.Test.YtkaiglhljpehpabGreatDoorRows
import Derived.Test.YtkaiglhljpehpabGreatDoorPart1
import Derived.WalkKit
import Derived.WalkSpells
import Derived.BigQuiet
import Derived.Deep.QuietTactic
import Derived.Deep.RegionWith
import Derived.Test.YtkaiglhljpehpabGreatDoorPart5
import Derived.Laws.CopyRow
import Derived.Laws.CopyOwn
import Derived.Outline

/- Contracts of the laws' comparisons of disks (eqDisk). -/
namespace Go.Proofs.YtkaiglhljpehpabGreatDoor
open Go.RowKit
set_option linter.unusedVariables false
set_option maxRecDepth 100000

theorem wr_ext {x y : Wr} (h : x.host = y.host ∧ x.at_ = y.at_ ∧ x.data = y.data) : x = y := by cases x; cases y; simp_all

set_option maxHeartbeats 800000 in
theorem eqIo_any (x y : Wr) (w : World) :
    Calls Tryz.prog 59 #[.agg #[.int .i64 x.host, .int .i64 x.at_, .string x.data], .agg #[.int .i64 y.host, .int .i64 y.at_, .string y.data]] w fun e w' => e = .returned (.bool (wrB x y)) ∧ Below w.heap.size w w' := by
  by_cases h0 : x.host = y.host
  · have b0 : (x.host != y.host) = false := by simp [h0]
    by_cases h1 : x.at_ = y.at_
    · have b1 : (x.at_ != y.at_) = false := by simp [h1]
      by_cases h2 : x.data = y.data
      · have H := hide (wrB_true h0 h1 h2)
        have b2 : (x.data.toList == y.data.toList) = true := by simp [h2]
        clear h0 h1 h2
        go_enter Tryz.func59, Tryz.ntmps59
        go_wp2
        go_ret
        exact ⟨ret_bool (unhide H).symm, ((Below.refl _ _).alloc (Nat.le_refl _) _).alloc (by simp) _⟩
      · have H := hide (wrB_false (x := x) (y := y) (fun h => h2 h.2.2))
        have b2 : (x.data.toList == y.data.toList) = false := str_beq_false h2
        clear h0 h1 h2
        go_enter Tryz.func59, Tryz.ntmps59
        go_wp2
        go_ret
        exact ⟨ret_bool (unhide H).symm, ((Below.refl _ _).alloc (Nat.le_refl _) _).alloc (by simp) _⟩
    · have H := hide (wrB_false (x := x) (y := y) (fun h => h1 h.2.1))
      have b1 : (x.at_ != y.at_) = true := by simp [h1]
      clear h0 h1
      go_enter Tryz.func59, Tryz.ntmps59
      go_wp2
      go_ret
      exact ⟨ret_bool (unhide H).symm, ((Below.refl _ _).alloc (Nat.le_refl _) _).alloc (by simp) _⟩
  · have H := hide (wrB_false (x := x) (y := y) (fun h => h0 h.1))
    have b0 : (x.host != y.host) = true := by simp [h0]
    clear h0
    go_enter Tryz.func59, Tryz.ntmps59
    go_wp2
    go_ret
    exact ⟨ret_bool (unhide H).symm, ((Below.refl _ _).alloc (Nat.le_refl _) _).alloc (by simp) _⟩

set_option maxHeartbeats 800000 in
theorem eqStringS_any (ao bo : Option Addr) (ca cb : Nat) (ss tt : List ByteArray) (w : World) (hl : ss.length ≤ maxLen) (hc : Ss w ao ss) (hd : Ss w bo tt) :
    Calls Tryz.prog 28 #[.slice ao ss.length ca, .slice bo tt.length cb] w fun e w' => e = .returned (.bool (eqSB ss tt)) ∧ Below w.heap.size w w' := by
  have HC := hide hc
  have HD := hide hd
  clear hc hd
  unfold maxLen at hl
  by_cases hle : ss.length = tt.length
  · have hb : ((ss.length : Int) != (tt.length : Int)) = false := by simp [hle]
    have HLE := hide hle
    clear hle
    go_enter Tryz.func28, Tryz.ntmps28
    go_wp2
    go_loopw [5] (fun i wr => ∃ k : Nat, k ≤ ss.length ∧ i = .int .i64 k ∧ Hid (∀ j (h : j < ss.length) (h' : j < tt.length), j < k → ss[j] = tt[j]) ∧ Hid (Below w.heap.size w wr)) (fun i _ => ss.length - (intOf i).toNat)
    case atStart => exact ⟨0, Nat.zero_le _, rfl, hide (fun j _ _ h => by omega), hide (Below.refl _ _)⟩
    case round =>
      obtain ⟨k, hk, rfl, HA, HB⟩ := hrel
      by_cases hlt : k < ss.length
      · have hlt' : k < tt.length := by rw [← unhide HLE]; exact hlt
        obtain ⟨b, off, rfl, hc, hz⟩ := (unhide HC).below (unhide HB) k hlt
        obtain ⟨b', off', rfl, hc', hz'⟩ := (unhide HD).below (unhide HB) k hlt'
        clear hz hz'
        by_cases he : ss[k] = tt[k]
        · have HN := hide (eq_succ hlt hlt' (unhide HA) he)
          have be : (ss[k].toList == tt[k].toList) = true := by simp [he]
          clear he
          go_wp2
          go_quiet (fail)
          go_wp2
          go_roundw
          case rel => exact ⟨k + 1, by omega, by go_num, HN, hide ((unhide HB).trans (Joins.below_draws _ _ _))⟩
          case measure => simp [intOf]; omega
        · have H := hide (eqSB_false hlt hlt' he)
          have be : (ss[k].toList == tt[k].toList) = false := str_beq_false he
          clear he
          go_wp2
          go_quiet (fail)
          go_wp2
          go_ret
          exact ⟨ret_bool (unhide H).symm, (unhide HB).trans (Joins.below_draws _ _ _)⟩
      · have H := hide (eqSB_true (unhide HLE) (fun j h h' => unhide HA j h h' (by omega)))
        go_wp2
        go_ret
        exact ⟨ret_bool (unhide H).symm, unhide HB⟩
  · have hb : ((ss.length : Int) != (tt.length : Int)) = true := by simp; omega
    have H := hide (eqSB_false_len hle)
    clear hle
    go_enter Tryz.func28, Tryz.ntmps28
    go_wp2
    go_ret
    exact ⟨ret_bool (unhide H).symm, Below.refl _ _⟩


set_option maxHeartbeats 1600000 in
theorem eqIoS_any (ao bo : Option Addr) (ca cb : Nat) (ss tt : List Wr) (w : World) (hl : ss.length ≤ maxLen) (hc : Ios w ao ss) (hd : Ios w bo tt) :
    Calls Tryz.prog 29 #[.slice ao ss.length ca, .slice bo tt.length cb] w fun e w' => e = .returned (.bool (eqWB ss tt)) ∧ Below w.heap.size w w' := by
  have HC := hide hc
  have HD := hide hd
  clear hc hd
  unfold maxLen at hl
  by_cases hle : ss.length = tt.length
  · have hb : ((ss.length : Int) != (tt.length : Int)) = false := by simp [hle]
    have HLE := hide hle
    clear hle
    go_enter Tryz.func29, Tryz.ntmps29
    go_wp2
    go_loopw [5] (fun i wr => ∃ k : Nat, k ≤ ss.length ∧ i = .int .i64 k ∧ Hid (∀ j (h : j < ss.length) (h' : j < tt.length), j < k → ss[j] = tt[j]) ∧ Hid (Below w.heap.size w wr)) (fun i _ => ss.length - (intOf i).toNat)
    case atStart => exact ⟨0, Nat.zero_le _, rfl, hide (fun j _ _ h => by omega), hide (Below.refl _ _)⟩
    case round =>
      obtain ⟨k, hk, rfl, HA, HB⟩ := hrel
      by_cases hlt : k < ss.length
      · have hlt' : k < tt.length := by rw [← unhide HLE]; exact hlt
        obtain ⟨b, off, rfl, hc0, hc1, hc2, hz⟩ := (unhide HC).below (unhide HB) k hlt
        obtain ⟨b', off', rfl, hd0, hd1, hd2, hz'⟩ := (unhide HD).below (unhide HB) k hlt'
        clear hz hz'
        by_cases he : ss[k] = tt[k]
        · have HN := hide (eq_succ hlt hlt' (unhide HA) he)
          have be : wrB ss[k] tt[k] = true := wrB_true (by rw [he]) (by rw [he]) (by rw [he])
          clear he
          go_wp2
          go_region_with (go_at_call 59; refine (eqIo_any _ _ _).mono ?_; rintro e w2 ⟨rfl, hb2⟩)
          all_goals
            have HB2 : Hid (Below w.heap.size w w2) := hide (Below.trans (by repeat (first | exact unhide HB | apply Below.drew)) (hb2.mono (unhide HB).size))
            clear hb2
            go_wp2
            go_roundw
            case rel => exact ⟨k + 1, by omega, by go_num, HN, HB2⟩
            case measure => simp [intOf]; omega
        · have H := hide (eqWB_false hlt hlt' he)
          have be : wrB ss[k] tt[k] = false := wrB_false (fun e => he (wr_ext e))
          clear he
          go_wp2
          go_region_with (go_at_call 59; refine (eqIo_any _ _ _).mono ?_; rintro e w2 ⟨rfl, hb2⟩)
          all_goals
            have HB2 : Hid (Below w.heap.size w w2) := hide (Below.trans (by repeat (first | exact unhide HB | apply Below.drew)) (hb2.mono (unhide HB).size))
            clear hb2
            go_wp2
            go_ret
            exact ⟨ret_bool (unhide H).symm, unhide HB2⟩
      · have H := hide (eqWB_true (unhide HLE) (fun j h h' => unhide HA j h h' (by omega)))
        go_wp2
        go_ret
        exact ⟨ret_bool (unhide H).symm, unhide HB⟩
  · have hb : ((ss.length : Int) != (tt.length : Int)) = true := by simp; omega
    have H := hide (eqWB_false_len hle)
    clear hle
    go_enter Tryz.func29, Tryz.ntmps29
    go_wp2
    go_ret
    exact ⟨ret_bool (unhide H).symm, Below.refl _ _⟩


set_option maxHeartbeats 800000 in
theorem eqDisk_any (ao bo co do_ : Option Addr) (ca cb cc cd : Nat) (ss tt : List ByteArray) (xs ys : List Wr) (w : World) (hl : ss.length ≤ maxLen) (hm : xs.length ≤ maxLen) (h1 : Ss w ao ss) (h2 : Ios w bo xs) (h3 : Ss w co tt) (h4 : Ios w do_ ys) :
    Calls Tryz.prog 9 #[.agg #[.slice ao ss.length ca, .slice bo xs.length cb], .agg #[.slice co tt.length cc, .slice do_ ys.length cd]] w fun e w' => e = .returned (.bool (eqSB ss tt && eqWB xs ys)) ∧ Below w.heap.size w w' := by
  have H1 := hide h1
  have H2 := hide h2
  have H3 := hide h3
  have H4 := hide h4
  have HL := hide hl
  have HM := hide hm
  clear h1 h2 h3 h4 hl hm
  have HA := hide (Joins.below_alloc2 w (.cells #[.slice ao ss.length ca, .slice bo xs.length cb] 35) (.cells #[.slice co tt.length cc, .slice do_ ys.length cd] 35))
  go_enter Tryz.func9, Tryz.ntmps9
  go_wp2_with fail
  refine (eqStringS_any ao co ca cc ss tt _ (unhide HL) ((unhide H1).below (unhide HA)) ((unhide H3).below (unhide HA))).mono ?_
  rintro e w1 ⟨rfl, hb1⟩
  have hc0 : w1.cell? ⟨w.heap.size, 1, none⟩ = some (.slice bo xs.length cb) := (hb1.cell (by simp; omega)).trans (by simp [go_sem])
  have hc1 : w1.cell? ⟨w.heap.size + 1, 1, none⟩ = some (.slice do_ ys.length cd) := (hb1.cell (by simp)).trans (by simp [go_sem])
  have HB := hide ((unhide HA).trans (hb1.mono (by simp; omega)))
  clear hb1
  cases h : eqSB ss tt
  · go_wp2
    go_ret
    exact ⟨ret_bool (by rw [h]; rfl), unhide HB⟩
  · go_wp2_with fail
    refine (eqIoS_any bo do_ cb cd xs ys _ (unhide HM) ((unhide H2).below (unhide HB)) ((unhide H4).below (unhide HB))).mono ?_
    rintro e w2 ⟨rfl, hb2⟩
    have HB2 := hide ((unhide HB).trans (hb2.mono (unhide HB).size))
    clear hb2
    cases h' : eqWB xs ys
    · go_wp2
      go_ret
      exact ⟨ret_bool (by rw [h, h']; rfl), unhide HB2⟩
    · go_wp2
      go_ret
      exact ⟨ret_bool (by rw [h, h']; rfl), unhide HB2⟩

end Go.Proofs.YtkaiglhljpehpabGreatDoor

/- A disk in rows of the call's own; variables that hold a disk. -/
namespace Go.Proofs.YtkaiglhljpehpabGreatDoor
open Go.RowKit
set_option linter.unusedVariables false

/-- A disk in rows of the call's own, at blocks from B on. -/
structure OwnD (w : World) (B : Nat) (ao : Option Addr) (n ca : Nat) (bo : Option Addr) (m cb : Nat) (ss : List ByteArray) (xs : List Wr) : Prop where
  s : OwnR w B 9 1 (.slice ao n ca) n (strV ss)
  i : OwnR w B 74 3 (.slice bo m cb) m (ioV xs)

def OwnB (ao : Option Addr) (n ca : Nat) (bo : Option Addr) (m cb : Nat) (k : Nat) : Prop := Own (.slice ao n ca) k ∨ Own (.slice bo m cb) k

theorem OwnD.below {w w' : World} {B n ca m cb : Nat} {ao bo : Option Addr} {ss : List ByteArray} {xs : List Wr} (h : OwnD w B ao n ca bo m cb ss xs) (hb : Below w.heap.size w w') : OwnD w' B ao n ca bo m cb ss xs := ⟨h.s.below hb, h.i.below hb⟩
theorem OwnD.base {w : World} {B B' n ca m cb : Nat} {ao bo : Option Addr} {ss : List ByteArray} {xs : List Wr} (h : OwnD w B ao n ca bo m cb ss xs) (hb : B' ≤ B) : OwnD w B' ao n ca bo m cb ss xs := ⟨h.s.base hb, h.i.base hb⟩
theorem OwnD.keep {S : Nat → Prop} {w w' : World} {B n ca m cb : Nat} {ao bo : Option Addr} {ss : List ByteArray} {xs : List Wr} (h : OwnD w B ao n ca bo m cb ss xs) (hk : Keep S w w') (hs : ∀ g, OwnB ao n ca bo m cb g → ¬ S g) : OwnD w' B ao n ca bo m cb ss xs :=
  ⟨h.s.keep hk (fun g hg => hs g (.inl hg)), h.i.keep hk (fun g hg => hs g (.inr hg))⟩
theorem OwnD.setCell {w : World} {B n ca m cb : Nat} {ao bo : Option Addr} {ss : List ByteArray} {xs : List Wr} (h : OwnD w B ao n ca bo m cb ss xs) {a : Addr} (ha : a.block < B) (u : Value) : OwnD (w.setCell a u) B ao n ca bo m cb ss xs := ⟨h.s.setCell ha u, h.i.setCell ha u⟩
theorem OwnD.ge {w : World} {B n ca m cb : Nat} {ao bo : Option Addr} {ss : List ByteArray} {xs : List Wr} (h : OwnD w B ao n ca bo m cb ss xs) : ∀ k, OwnB ao n ca bo m cb k → B ≤ k ∧ k < w.heap.size := by
  rintro k (hk | hk)
  · exact h.s.ge k hk
  · exact h.i.ge k hk
theorem OwnD.len {w : World} {B n ca m cb : Nat} {ao bo : Option Addr} {ss : List ByteArray} {xs : List Wr} (h : OwnD w B ao n ca bo m cb ss xs) : ss.length = n ∧ xs.length = m := by
  have h1 := h.s.len
  have h2 := h.i.len
  rw [strV_length] at h1
  rw [ioV_length] at h2
  exact ⟨by omega, by omega⟩
theorem OwnD.ss {w : World} {B n ca m cb : Nat} {ao bo : Option Addr} {ss : List ByteArray} {xs : List Wr} (h : OwnD w B ao n ca bo m cb ss xs) (hz : ∀ s ∈ ss, s.size ≤ maxLen) : Ss w ao ss := by
  obtain ⟨rfl, rfl⟩ := h.len
  rcases h.s with ⟨h0, _⟩ | ⟨_, h'⟩
  · intro i hi; omega
  · exact ownS h' hz
theorem OwnD.ios {w : World} {B n ca m cb : Nat} {ao bo : Option Addr} {ss : List ByteArray} {xs : List Wr} (h : OwnD w B ao n ca bo m cb ss xs) (hz : ∀ x ∈ xs, x.data.size ≤ maxLen) : Ios w bo xs := by
  obtain ⟨rfl, rfl⟩ := h.len
  rcases h.i with ⟨h0, _⟩ | ⟨_, h'⟩
  · intro i hi; omega
  · exact ownI h' hz
/-- A block of another type of cells is none of a disk's rows. -/
theorem OwnD.other {w : World} {B n ca m cb : Nat} {ao bo : Option Addr} {ss : List ByteArray} {xs : List Wr} (h : OwnD w B ao n ca bo m cb ss xs) {x t : Nat} {c : Array Value} {f : Nat × Nat} (hx : w.heap[x]? = some (.cells c t f)) (h1 : t ≠ 9) (h2 : t ≠ 74) : ¬ OwnB ao n ca bo m cb x := by
  rintro (hk | hk)
  · exact h.s.other hx h1 hk
  · exact h.i.other hx h2 hk

/-- A variable that holds a disk. -/
def VarD (w : World) (x : Nat) (a b : Value) : Prop := w.heap[x]? = some (.cells #[a, b] 35 (0, 0))
theorem VarD.lt {w : World} {x : Nat} {a b : Value} (h : VarD w x a b) : x < w.heap.size := (Array.getElem?_eq_some_iff.1 h).1
theorem VarD.cells {w : World} {x : Nat} {a b : Value} (h : VarD w x a b) : w.cell? ⟨x, 0, none⟩ = some a ∧ w.cell? ⟨x, 1, none⟩ = some b := ⟨by rw [Joins.cell_of_block h]; rfl, by rw [Joins.cell_of_block h]; rfl⟩
theorem VarD.below {w w' : World} {x : Nat} {a b : Value} (h : VarD w x a b) (hb : Below w.heap.size w w') : VarD w' x a b := by
  unfold VarD; rw [hb.block x h.lt]; exact h
theorem VarD.keep {S : Nat → Prop} {w w' : World} {x : Nat} {a b : Value} (h : VarD w x a b) (hk : Keep S w w') (hs : ¬ S x) : VarD w' x a b := by
  unfold VarD; rw [hk.block x h.lt hs]; exact h
theorem VarD.new (w : World) (a b : Value) : VarD (w.alloc (.cells #[a, b] 35)) w.heap.size a b := heap_alloc_new w _

end Go.Proofs.YtkaiglhljpehpabGreatDoor

/- A disk in the call's own memory; contracts of markDisk and heldDisk. -/
namespace Go.Proofs.YtkaiglhljpehpabGreatDoor
open Go.RowKit
set_option linter.unusedVariables false
set_option maxRecDepth 100000

set_option maxHeartbeats 1600000 in
theorem markDisk_any (ao bo : Option Addr) (n ca m cb k : Nat) (ss : List ByteArray) (xs : List Wr) (B : Nat) (w : World) (hn : n ≤ 2097152) (hm : m ≤ 2097152) (hk0 : 0 < k) (hk1 : k ≤ 134217728) (ho : OwnD w B ao n ca bo m cb ss xs) :
    Calls Tryz.prog 10 #[.agg #[.slice ao n ca, .slice bo m cb], .int .i64 k] w fun e w' => e = .returned (.int .i64 ((k + n + 3 * m : Nat) : Int)) ∧ OwnD w' B ao n ca bo m cb (mkS k n) (mkI (k + n) m) ∧ Keep (OwnB ao n ca bo m cb) w w' := by
  have HA := hide (Joins.below_alloc1 w (.cells #[.slice ao n ca, .slice bo m cb] 35))
  have HO := hide (ho.below (unhide HA))
  clear ho
  go_enter Tryz.func10, Tryz.ntmps10
  go_wp2_with fail
  refine (markStringS_any (.slice ao n ca) n k _ B _ (by omega) hk0 (by omega) (unhide HO).s).mono ?_
  rintro e w1 ⟨rfl, ho1, hk1'⟩
  have HX : Hid (¬ Own (.slice ao n ca) w.heap.size) := hide (fun h => (unhide HO).other (x := w.heap.size) (heap_alloc_new w _) (by decide) (by decide) (.inl h))
  have hb1 : w1.heap[w.heap.size]? = some (.cells #[.slice ao n ca, .slice bo m cb] 35) := (hk1'.block _ (by simp) (unhide HX)).trans (heap_alloc_new w _)
  have hc1 : w1.cell? ⟨w.heap.size, 1, none⟩ = some (.slice bo m cb) := by rw [Joins.cell_of_block hb1]; rfl
  have HI := hide (OwnR.keep (unhide HO).i hk1' (own_apart (unhide HO).i (unhide HO).s (by decide)))
  have HS := hide ho1
  have HK := hide (Keep.trans (S := OwnB ao n ca bo m cb) (Keep.of_below (unhide HA)) (hk1'.mono (fun j h => .inl h)))
  clear ho1 hk1' hb1
  go_wp2_with fail
  refine (markIoS_any (.slice bo m cb) m (k + n) _ B _ (by omega) (by omega) (by omega) (unhide HI)).mono ?_
  rintro e w2 ⟨rfl, ho2, hk2⟩
  have HS2 := hide (OwnR.keep (unhide HS) hk2 (own_apart (unhide HS) (unhide HI) (by decide)))
  have HI2 := hide ho2
  have HK2 := hide ((unhide HK).trans (hk2.mono (T := OwnB ao n ca bo m cb) (fun j h => .inr h)))
  clear ho2 hk2
  go_wp2
  go_ret
  exact ⟨rfl, ⟨unhide HS2, unhide HI2⟩, unhide HK2⟩

theorem markDisk_one (ao bo : Option Addr) (n ca m cb : Nat) (ss : List ByteArray) (xs : List Wr) (B : Nat) (w : World) (hn : n ≤ 2097152) (hm : m ≤ 2097152) (ho : OwnD w B ao n ca bo m cb ss xs) :
    Calls Tryz.prog 10 #[.agg #[.slice ao n ca, .slice bo m cb], .int .i64 1] w fun e w' => e = .returned (.int .i64 ((1 + n + 3 * m : Nat) : Int)) ∧ OwnD w' B ao n ca bo m cb (mkS 1 n) (mkI (1 + n) m) ∧ Keep (OwnB ao n ca bo m cb) w w' :=
  markDisk_any ao bo n ca m cb 1 ss xs B w hn hm (by omega) (by omega) ho
end Go.Proofs.YtkaiglhljpehpabGreatDoor

/- Contracts of DiskOK, of the program and of its model: both answer one plain function of the disk. -/
namespace Go.Proofs.YtkaiglhljpehpabGreatDoor
open Go.RowKit
set_option linter.unusedVariables false
set_option maxRecDepth 100000

theorem l01In_any (n low high : Int) (w : World) : Calls Tryz.prog 38 #[.int .i64 n, .int .i64 low, .int .i64 high] w fun e w' => e = .returned (.bool (inB n low high)) ∧ w' = w := by
  go_enter Tryz.func38, Tryz.ntmps38
  go_wp2
  all_goals
    go_ret
    exact ⟨ret_bool (by rw [Bool.eq_iff_iff]; simp [inB]; omega), rfl⟩

theorem hostOK_any (n : Int) (w : World) : Calls Tryz.prog 48 #[.int .i64 n] w fun e w' => e = .returned (.bool (inB n 0 3)) ∧ w' = w := by
  go_enter Tryz.func48, Tryz.ntmps48
  go_wp2
  all_goals
    go_ret
    exact ⟨ret_bool (by rw [Bool.eq_iff_iff]; simp [inB]; omega), rfl⟩

theorem placeOK_any (n : Int) (w : World) : Calls Tryz.prog 85 #[.int .i64 n] w fun e w' => e = .returned (.bool (inB n 0 63)) ∧ w' = w := by
  go_enter Tryz.func85, Tryz.ntmps85
  go_wp2
  all_goals
    go_ret
    exact ⟨ret_bool (by rw [Bool.eq_iff_iff]; simp [inB]; omega), rfl⟩

set_option maxHeartbeats 800000 in
theorem l01Io_any (x : Wr) (w : World) (hz : x.data.size ≤ maxLen) : Calls Tryz.prog 61 #[.agg #[.int .i64 x.host, .int .i64 x.at_, .string x.data]] w fun e w' => e = .returned (.bool (ioB x)) ∧ Below w.heap.size w w' := by
  unfold maxLen at hz
  have HE := hide (ioB_eq x)
  cases h0 : inB x.host 0 3
  · go_enter Tryz.func61, Tryz.ntmps61
    go_wp2_with (go_at_call 38; refine (l01In_any _ _ _ _).mono ?_; rintro e w' ⟨rfl, rfl⟩)
    go_ret
    exact ⟨ret_bool (by rw [unhide HE, h0]; rfl), (Below.refl _ _).alloc (Nat.le_refl _) _⟩
  · cases h1 : inB x.at_ 0 63
    · go_enter Tryz.func61, Tryz.ntmps61
      go_wp2_with (go_at_call 38; refine (l01In_any _ _ _ _).mono ?_; rintro e w' ⟨rfl, rfl⟩)
      go_ret
      exact ⟨ret_bool (by rw [unhide HE, h0, h1]; rfl), (Below.refl _ _).alloc (Nat.le_refl _) _⟩
    · go_enter Tryz.func61, Tryz.ntmps61
      go_wp2_with (go_at_call 38; refine (l01In_any _ _ _ _).mono ?_; rintro e w' ⟨rfl, rfl⟩)
      go_ret
      exact ⟨ret_bool (by rw [unhide HE, h0, h1, Bool.eq_iff_iff]; simp; omega), (Below.refl _ _).alloc (Nat.le_refl _) _⟩

set_option maxHeartbeats 800000 in
theorem sectorsOK_any (ao : Option Addr) (cap : Nat) (ss : List ByteArray) (w : World) (hl : ss.length ≤ maxLen) (hc : Ss w ao ss) :
    Calls Tryz.prog 69 #[.slice ao ss.length cap] w fun e w' => e = .returned (.bool (secB ss)) ∧ w' = w := by
  have HC := hide hc
  clear hc
  unfold maxLen at hl
  by_cases hle : ss.length = 64
  · have hb : ((ss.length : Int) != 64) = false := by simp; omega
    have HLE := hide hle
    clear hle
    go_enter Tryz.func69, Tryz.ntmps69
    go_wp2
    go_loop [4, 10] (fun _ i => ∃ k : Nat, k ≤ ss.length ∧ i = .int .i64 k ∧ Hid (∀ j (h : j < ss.length), j < k → decide (ss[j].size ≤ 80) = true)) (fun _ i => ss.length - (intOf i).toNat)
    case atStart => exact ⟨0, Nat.zero_le _, rfl, hide (fun j _ h => by omega)⟩
    case round =>
      obtain ⟨k, hk, rfl, HA⟩ := hrel
      by_cases hlt : k < ss.length
      · obtain ⟨b, off, rfl, hc, hz⟩ := unhide HC k hlt
        unfold maxLen at hz
        by_cases hs : 80 < ss[k].size
        · have H := hide (secB_false_at hlt hs)
          go_wp2
          go_ret
          exact ⟨ret_bool (unhide H).symm, rfl⟩
        · have HN := hide (all_succ (p := fun s : ByteArray => decide (s.size ≤ 80)) hlt (unhide HA) (by simp; omega))
          go_wp2
          go_round
          case rel => exact ⟨k + 1, by omega, by go_num, HN⟩
          case measure => simp [intOf]; omega
      · have H := hide (secB_true (unhide HLE) (fun j h => unhide HA j h (by omega)))
        go_wp2
        go_ret
        exact ⟨ret_bool (unhide H).symm, rfl⟩
  · have hb : ((ss.length : Int) != 64) = true := by simp; omega
    have H := hide (secB_false_len hle)
    clear hle
    go_enter Tryz.func69, Tryz.ntmps69
    go_wp2
    go_ret
    exact ⟨ret_bool (unhide H).symm, rfl⟩

set_option maxHeartbeats 1600000 in
theorem pendingOK_any (ao : Option Addr) (cap : Nat) (xs : List Wr) (w : World) (hl : xs.length ≤ maxLen) (hc : Ios w ao xs) :
    Calls Tryz.prog 70 #[.slice ao xs.length cap] w fun e w' => e = .returned (.bool (penB xs)) ∧ Below w.heap.size w w' := by
  have HC := hide hc
  clear hc
  unfold maxLen at hl
  by_cases hle : 200 < xs.length
  · have H := hide (penB_false_len (xs := xs) (by omega))
    go_enter Tryz.func70, Tryz.ntmps70
    go_wp2
    go_ret
    exact ⟨ret_bool (unhide H).symm, Below.refl _ _⟩
  go_enter Tryz.func70, Tryz.ntmps70
  go_wp2
  go_loopw [4, 10] (fun _ i wr => ∃ k : Nat, k ≤ xs.length ∧ i = .int .i64 k ∧ Hid (∀ j (h : j < xs.length), j < k → ioB xs[j] = true) ∧ Hid (Below w.heap.size w wr)) (fun _ i _ => xs.length - (intOf i).toNat)
  case atStart => exact ⟨0, Nat.zero_le _, rfl, hide (fun j _ h => by omega), hide (Below.refl _ _)⟩
  case round =>
    obtain ⟨k, hk, rfl, HA, HB⟩ := hrel
    by_cases hlt : k < xs.length
    · obtain ⟨b, off, rfl, hc0, hc1, hc2, hz⟩ := (unhide HC).below (unhide HB) k hlt
      unfold maxLen at hz
      have HE := hide (ioB_eq xs[k])
      have HBA := hide (fun o => (unhide HB).alloc (unhide HB).size o)
      cases h0 : inB xs[k].host 0 3
      · have H := hide (penB_false_at hlt (by rw [unhide HE, h0]; rfl))
        go_wp2_with (first | (go_at_call 48; refine (hostOK_any _ _).mono ?_; rintro e w' ⟨rfl, rfl⟩) | (go_at_call 85; refine (placeOK_any _ _).mono ?_; rintro e w' ⟨rfl, rfl⟩))
        go_ret
        exact ⟨ret_bool (unhide H).symm, unhide HBA _⟩
      · cases h1 : inB xs[k].at_ 0 63
        · have H := hide (penB_false_at hlt (by rw [unhide HE, h0, h1]; rfl))
          go_wp2_with (first | (go_at_call 48; refine (hostOK_any _ _).mono ?_; rintro e w' ⟨rfl, rfl⟩) | (go_at_call 85; refine (placeOK_any _ _).mono ?_; rintro e w' ⟨rfl, rfl⟩))
          go_ret
          exact ⟨ret_bool (unhide H).symm, unhide HBA _⟩
        · by_cases hs : 80 < xs[k].data.size
          · have H := hide (penB_false_at hlt (by rw [unhide HE, h0, h1]; simp; omega))
            go_wp2_with (first | (go_at_call 48; refine (hostOK_any _ _).mono ?_; rintro e w' ⟨rfl, rfl⟩) | (go_at_call 85; refine (placeOK_any _ _).mono ?_; rintro e w' ⟨rfl, rfl⟩))
            go_ret
            exact ⟨ret_bool (unhide H).symm, unhide HBA _⟩
          · have HN := hide (all_succ (p := ioB) hlt (unhide HA) (by rw [unhide HE, h0, h1]; simp; omega))
            go_wp2_with (first | (go_at_call 48; refine (hostOK_any _ _).mono ?_; rintro e w' ⟨rfl, rfl⟩) | (go_at_call 85; refine (placeOK_any _ _).mono ?_; rintro e w' ⟨rfl, rfl⟩))
            go_roundw
            case rel => exact ⟨k + 1, by omega, by go_num, HN, hide (unhide HBA _)⟩
            case measure => simp [intOf]; omega
    · have H := hide (penB_true (xs := xs) (by omega) (fun j h => unhide HA j h (by omega)))
      go_wp2
      go_ret
      exact ⟨ret_bool (unhide H).symm, unhide HB⟩

set_option maxHeartbeats 800000 in
theorem diskOK_impl (ao bo : Option Addr) (ca cb : Nat) (ss : List ByteArray) (xs : List Wr) (w : World) (hl : ss.length ≤ maxLen) (hm : xs.length ≤ maxLen) (h1 : Ss w ao ss) (h2 : Ios w bo xs) :
    Calls Tryz.prog 47 #[.agg #[.slice ao ss.length ca, .slice bo xs.length cb]] w fun e w' => e = .returned (.bool (diskB ss xs)) ∧ Below w.heap.size w w' := by
  have H1 := hide h1
  have H2 := hide h2
  have HL := hide hl
  have HM := hide hm
  clear h1 h2 hl hm
  have HA := hide (Joins.below_alloc1 w (.cells #[.slice ao ss.length ca, .slice bo xs.length cb] 35))
  cases h : secB ss
  · go_enter Tryz.func47, Tryz.ntmps47
    go_wp2_with fail
    refine (sectorsOK_any ao ca ss _ (unhide HL) ((unhide H1).below (unhide HA))).mono ?_
    rintro e w1 ⟨rfl, rfl⟩
    go_wp2
    go_ret
    exact ⟨ret_bool (by rw [diskB, h]; rfl), unhide HA⟩
  · go_enter Tryz.func47, Tryz.ntmps47
    go_wp2_with fail
    refine (sectorsOK_any ao ca ss _ (unhide HL) ((unhide H1).below (unhide HA))).mono ?_
    rintro e w1 ⟨rfl, rfl⟩
    go_wp2_with fail
    refine (pendingOK_any bo cb xs _ (unhide HM) ((unhide H2).below (unhide HA))).mono ?_
    rintro e w2 ⟨rfl, hb2⟩
    have HB := hide ((unhide HA).trans (hb2.mono (by simp)))
    clear hb2
    go_wp2
    go_ret
    exact ⟨ret_bool (by rw [diskB, h]; rfl), unhide HB⟩

set_option maxHeartbeats 1600000 in
theorem diskOK_spec (ao bo : Option Addr) (ca cb : Nat) (ss : List ByteArray) (xs : List Wr) (w : World) (hl : ss.length ≤ maxLen) (hm : xs.length ≤ maxLen) (h1 : Ss w ao ss) (h2 : Ios w bo xs) :
    Calls Tryz.prog 37 #[.agg #[.slice ao ss.length ca, .slice bo xs.length cb]] w fun e w' => e = .returned (.bool (diskB ss xs)) ∧ Below w.heap.size w w' := by
  have HA := hide (Joins.below_alloc1 w (.cells #[.slice ao ss.length ca, .slice bo xs.length cb] 35))
  have H1 := hide (h1.below (unhide HA))
  have H2 := hide h2
  clear h1 h2
  unfold maxLen at hl hm
  by_cases hle : ss.length = 64
  · have hb : ((ss.length : Int) != 64) = false := by simp; omega
    have HLE := hide hle
    clear hle
    by_cases hlx : 200 < xs.length
    · have H := hide (diskB_false2 ss (penB_false_len (xs := xs) (by omega)))
      go_enter Tryz.func37, Tryz.ntmps37
      go_wp2
      go_ret
      exact ⟨ret_bool (unhide H).symm, unhide HA⟩
    go_enter Tryz.func37, Tryz.ntmps37
    go_wp2
    go_loop [3] (fun i => ∃ k : Nat, k ≤ ss.length ∧ i = .int .i64 k ∧ Hid (∀ j (h : j < ss.length), j < k → decide (ss[j].size ≤ 80) = true)) (fun i => ss.length - (intOf i).toNat)
    case atStart => exact ⟨0, Nat.zero_le _, rfl, hide (fun j _ h => by omega)⟩
    case round =>
      obtain ⟨k, hk, rfl, HK⟩ := hrel
      by_cases hlt : k < ss.length
      · obtain ⟨b, off, rfl, hc, hz⟩ := unhide H1 k hlt
        unfold maxLen at hz
        by_cases hs : 80 < ss[k].size
        · have H := hide (diskB_false1 xs (secB_false_at hlt hs))
          go_wp2
          go_ret
          exact ⟨ret_bool (unhide H).symm, unhide HA⟩
        · have HN := hide (all_succ (p := fun s : ByteArray => decide (s.size ≤ 80)) hlt (unhide HK) (by simp; omega))
          go_wp2
          go_round
          case rel => exact ⟨k + 1, by omega, by go_num, HN⟩
          case measure => simp [intOf]; omega
      · have HSB := hide (secB_true (unhide HLE) (fun j h => unhide HK j h (by omega)))
        have HD := hide ((unhide H2).below (unhide HA))
        go_wp2
        go_loopw [4] (fun i wr => ∃ m : Nat, m ≤ xs.length ∧ i = .int .i64 m ∧ Hid (∀ j (h : j < xs.length), j < m → ioB xs[j] = true) ∧ Hid (Below (w.alloc (.cells #[.slice ao ss.length ca, .slice bo xs.length cb] 35)).heap.size (w.alloc (.cells #[.slice ao ss.length ca, .slice bo xs.length cb] 35)) wr)) (fun i _ => xs.length - (intOf i).toNat)
        case atStart => exact ⟨0, Nat.zero_le _, rfl, hide (fun j _ h => by omega), hide (Below.refl _ _)⟩
        case round =>
          obtain ⟨m, hm', rfl, HK', HB⟩ := hrel
          have hcell : wr.cell? ⟨w.heap.size, 1, none⟩ = some (.slice bo xs.length cb) := ((unhide HB).cell (by simp)).trans (by simp [go_sem])
          have HBB := hide ((unhide HA).trans ((unhide HB).mono (by simp)))
          by_cases hlt' : m < xs.length
          · obtain ⟨b, off, rfl, hc0, hc1, hc2, hz⟩ := (unhide HD).below (unhide HB) m hlt'
            have HZ := hide hz
            clear hz
            cases hio : ioB xs[m]
            · have H := hide (diskB_false2 ss (penB_false_at hlt' hio))
              go_wp2_with fail
              refine (l01Io_any xs[m] _ (unhide HZ)).mono ?_
              rintro e w2 ⟨rfl, hb2⟩
              have HB2 := hide ((unhide HBB).trans (hb2.mono (unhide HBB).size))
              clear hb2
              go_wp2
              go_ret
              exact ⟨ret_bool (unhide H).symm, unhide HB2⟩
            · have HN := hide (all_succ (p := ioB) hlt' (unhide HK') hio)
              go_wp2_with fail
              refine (l01Io_any xs[m] _ (unhide HZ)).mono ?_
              rintro e w2 ⟨rfl, hb2⟩
              have HB2 := hide ((unhide HB).trans (hb2.mono (unhide HB).size))
              clear hb2
              go_wp2
              go_roundw
              case rel => exact ⟨m + 1, by omega, by go_num, HN, HB2⟩
              case measure => simp [intOf]; omega
          · have H := hide (diskB_true (unhide HSB) (penB_true (xs := xs) (by omega) (fun j h => unhide HK' j h (by omega))))
            go_wp2
            go_ret
            exact ⟨ret_bool (unhide H).symm, unhide HBB⟩
  · have hb : ((ss.length : Int) != 64) = true := by simp; omega
    have H := hide (diskB_false1 xs (secB_false_len hle))
    clear hle
    go_enter Tryz.func37, Tryz.ntmps37
    go_wp2
    go_ret
    exact ⟨ret_bool (unhide H).symm, unhide HA⟩

end Go.Proofs.YtkaiglhljpehpabGreatDoor

/- Contracts of the disk's codes and of ReadSector, of the program and of its model. -/
namespace Go.Proofs.YtkaiglhljpehpabGreatDoor
open Go.RowKit
set_option linter.unusedVariables false
set_option maxRecDepth 100000

set_option maxHeartbeats 1600000 in
theorem hostFault_any (ao bo : Option Addr) (ca cb : Nat) (ss : List ByteArray) (xs : List Wr) (h : Int) (w : World) (hl : ss.length ≤ maxLen) (hm : xs.length ≤ maxLen) (h1 : Ss w ao ss) (h2 : Ios w bo xs) :
    Calls Tryz.prog 19 #[.agg #[.slice ao ss.length ca, .slice bo xs.length cb], .int .i64 h] w fun e w' => e = .returned (.int .i64 (hostC ss xs h)) ∧ Below w.heap.size w w' := by
  have HA := hide (Joins.below_alloc1 w (.cells #[.slice ao ss.length ca, .slice bo xs.length cb] 35))
  have H1 := hide (h1.below (unhide HA))
  have H2 := hide (h2.below (unhide HA))
  have HL := hide hl
  have HM := hide hm
  clear h1 h2 hl hm
  cases hd : diskB ss xs
  · have H := hide (hostC_bad (h := h) hd)
    go_enter Tryz.func19, Tryz.ntmps19
    go_wp2_with fail
    refine (diskOK_impl _ _ _ _ ss xs _ (unhide HL) (unhide HM) (unhide H1) (unhide H2)).mono ?_
    rintro e w1 ⟨rfl, hb⟩
    have HB := hide (fr (unhide HA) hb)
    clear hb
    go_wp2
    go_ret
    exact ⟨ret_int (unhide H).symm, unhide HB⟩
  · cases hh : inB h 0 3
    · have H := hide (hostC_range hd hh)
      go_enter Tryz.func19, Tryz.ntmps19
      go_wp2_with fail
      refine (diskOK_impl _ _ _ _ ss xs _ (unhide HL) (unhide HM) (unhide H1) (unhide H2)).mono ?_
      rintro e w1 ⟨rfl, hb⟩
      have HB := hide (fr (unhide HA) hb)
      clear hb
      go_wp2_with (go_at_call 48; refine (hostOK_any _ _).mono ?_; rintro e w' ⟨rfl, rfl⟩)
      go_ret
      exact ⟨ret_int (unhide H).symm, unhide HB⟩
    · have H := hide (hostC_ok hd hh)
      go_enter Tryz.func19, Tryz.ntmps19
      go_wp2_with fail
      refine (diskOK_impl _ _ _ _ ss xs _ (unhide HL) (unhide HM) (unhide H1) (unhide H2)).mono ?_
      rintro e w1 ⟨rfl, hb⟩
      have HB := hide (fr (unhide HA) hb)
      clear hb
      go_wp2_with (go_at_call 48; refine (hostOK_any _ _).mono ?_; rintro e w' ⟨rfl, rfl⟩)
      go_ret
      exact ⟨ret_int (unhide H).symm, unhide HB⟩

set_option maxHeartbeats 1600000 in
theorem l01Ask_any (ao bo : Option Addr) (ca cb : Nat) (ss : List ByteArray) (xs : List Wr) (h a : Int) (w : World) (hl : ss.length ≤ maxLen) (hm : xs.length ≤ maxLen) (h1 : Ss w ao ss) (h2 : Ios w bo xs) :
    Calls Tryz.prog 15 #[.agg #[.slice ao ss.length ca, .slice bo xs.length cb], .int .i64 h, .int .i64 a] w fun e w' => e = .returned (.int .i64 (askC ss xs h a)) ∧ Below w.heap.size w w' := by
  have HA := hide (Joins.below_alloc1 w (.cells #[.slice ao ss.length ca, .slice bo xs.length cb] 35))
  have H1 := hide (h1.below (unhide HA))
  have H2 := hide (h2.below (unhide HA))
  have HL := hide hl
  have HM := hide hm
  clear h1 h2 hl hm
  cases hd : diskB ss xs
  · have H := hide ((askC_host (a := a) (by rw [hostC_bad (h := h) hd]; decide)).trans (hostC_bad (h := h) hd))
    go_enter Tryz.func15, Tryz.ntmps15
    go_wp2_with fail
    refine (diskOK_spec _ _ _ _ ss xs _ (unhide HL) (unhide HM) (unhide H1) (unhide H2)).mono ?_
    rintro e w1 ⟨rfl, hb⟩
    have HB := hide (fr (unhide HA) hb)
    clear hb
    go_wp2
    go_ret
    exact ⟨ret_int (unhide H).symm, unhide HB⟩
  · cases hh : inB h 0 3
    · have H := hide ((askC_host (a := a) (by rw [hostC_range hd hh]; decide)).trans (hostC_range hd hh))
      go_enter Tryz.func15, Tryz.ntmps15
      go_wp2_with fail
      refine (diskOK_spec _ _ _ _ ss xs _ (unhide HL) (unhide HM) (unhide H1) (unhide H2)).mono ?_
      rintro e w1 ⟨rfl, hb⟩
      have HB := hide (fr (unhide HA) hb)
      clear hb
      go_wp2_with (go_at_call 38; refine (l01In_any _ _ _ _).mono ?_; rintro e w' ⟨rfl, rfl⟩)
      go_ret
      exact ⟨ret_int (unhide H).symm, unhide HB⟩
    · cases hp : inB a 0 63
      · have H := hide (askC_place (hostC_ok hd hh) hp)
        go_enter Tryz.func15, Tryz.ntmps15
        go_wp2_with fail
        refine (diskOK_spec _ _ _ _ ss xs _ (unhide HL) (unhide HM) (unhide H1) (unhide H2)).mono ?_
        rintro e w1 ⟨rfl, hb⟩
        have HB := hide (fr (unhide HA) hb)
        clear hb
        go_wp2_with (go_at_call 38; refine (l01In_any _ _ _ _).mono ?_; rintro e w' ⟨rfl, rfl⟩)
        go_ret
        exact ⟨ret_int (unhide H).symm, unhide HB⟩
      · have H := hide (askC_ok (hostC_ok hd hh) hp)
        go_enter Tryz.func15, Tryz.ntmps15
        go_wp2_with fail
        refine (diskOK_spec _ _ _ _ ss xs _ (unhide HL) (unhide HM) (unhide H1) (unhide H2)).mono ?_
        rintro e w1 ⟨rfl, hb⟩
        have HB := hide (fr (unhide HA) hb)
        clear hb
        go_wp2_with (go_at_call 38; refine (l01In_any _ _ _ _).mono ?_; rintro e w' ⟨rfl, rfl⟩)
        go_ret
        exact ⟨ret_int (unhide H).symm, unhide HB⟩

end Go.Proofs.YtkaiglhljpehpabGreatDoor

/- Contracts of copyList, at texts and at writes: what was there, in new memory. -/
namespace Go.Proofs.YtkaiglhljpehpabGreatDoor
open Go.RowKit
set_option linter.unusedVariables false
set_option maxRecDepth 100000

section
variable {P : Program}

/-- 'copy(out, src)', both of n elements of some cells each. -/
theorem run_copy_whole (w : World) (dT sT ty elem : TypeId) (size g n dCap : Nat) (a : Addr) (sCap : Nat) (cur : Array Value) (t : TypeId) (cs : List Value)
    (hu : P.underlying dT = some (.slice elem)) (hs : (P.info? elem).map (·.size) = some size)
    (hg : w.heap[g]? = some (.cells cur t (0, 0))) (hl : n * size = cs.length)
    (hsrc : ∀ j v, cs[j]? = some v → w.cell? (a.add j) = some v) (hfit : cs.length ≤ cur.size) (h1 : ∀ v ∈ cs, v.oneCell' = true) :
    (Builtin.copy_ #[dT, sT] ty #[.slice (some ⟨g, 0, none⟩) n dCap, .slice (some a) n sCap]).run P w = .ok (goInt n) (w.setRow g (cs ++ cur.toList.drop cs.length).toArray) := by
  have hld := run_loadCells_list (P := P) w a cs hsrc
  have hst := run_storeCells_at P g 0 t cs 0 cur w hg (by simpa using hfit) h1
  cases hq : P.info? elem with
  | none => simp [hq] at hs
  | some i =>
    have hi : i.size = size := by simpa [hq] using hs
    simp [Builtin.copy_, run_underlying hu, Builtin.lenOf, Builtin.firstCells, sizeOf, typeInfo, hq, hi, hl, hld, hst]

theorem wpList_copy_whole {w : World} {ops : Array Oper} {rest : List Oper} {o : Oper} {a : Act} {Q : Exit → Act → World → Prop} (hgd : o.guard = none) (d s : Operand) (dT sT : TypeId)
    (ho : o.op = .call { callee := .builtin .copy, args := #[d, s], argTypes := #[dT, sT] }) (elem : TypeId) (size : Nat) (hu : P.underlying dT = some (.slice elem)) (hsz : (P.info? elem).map (·.size) = some size)
    (B g n : Nat) (ad : Addr) (sCap : Nat) (hd : a.eval d = .slice (some ⟨g, 0, none⟩) n n) (hs : a.eval s = .slice (some ad) n sCap)
    (xs : List Value) (hown : w.ownsRow B elem size (.slice (some ⟨g, 0, none⟩) n n) n xs) (cs : List Value) (hn : cs.length = n * size)
    (hsrc : ∀ j v, cs[j]? = some v → w.cell? (ad.add j) = some v) (h1 : ∀ v ∈ cs, v.oneCell' = true)
    (h : ∀ w', w'.ownsRow B elem size (.slice (some ⟨g, 0, none⟩) n n) n cs → w.grownBy w' (some g) → wpList P ops Q rest (a.put o.dst (goInt n)) w') : wpList P ops Q (o :: rest) a w := by
  refine wpList_plain hgd fun K hK => ?_
  rcases hown.2 with ⟨e, _⟩ | ⟨g', cap', cur, e, hB, hg, hnc, hcm, hcs, ht⟩
  · simp at e
  · simp only [Value.slice.injEq, Option.some.injEq, Addr.mk.injEq, and_true, true_and] at e
    obtain ⟨rfl, rfl⟩ := e
    have hrun := run_copy_whole (P := P) w dT sT o.type elem size g n n ad sCap cur elem cs hu hsz hg hn.symm hsrc (by omega) h1
    unfold Oper.wp
    simp [execOp, ho, resolve, invoke, builtin, hd, hs, hrun, Result.andThen]
    refine hK _ _ (h _ ⟨hn, .inr ⟨g, n, _, rfl, hB, setRow_heap w g _ _ elem _ hg, hnc, hcm, ?_, ?_⟩⟩ ⟨rfl, rfl, rfl, by simp, fun k _ hk => setRow_other w g k _ (fun e => hk (by simp [e]))⟩)
    · simp; omega
    · rw [← hn]; simp
end

theorem infoS : (Tryz.prog.info? 9).map (fun i => (i.zero, i.size, i.bytes)) = some (some (.string ⟨#[]⟩), 1, 16) := by kernel_rfl
theorem infoW : (Tryz.prog.info? 74).map (fun i => (i.zero, i.size, i.bytes)) = some (some (.agg #[.int .i64 0, .int .i64 0, .string ⟨#[]⟩]), 3, 32) := by kernel_rfl
theorem sizeS : (Tryz.prog.info? 9).map (·.size) = some 1 := by kernel_rfl
theorem sizeW : (Tryz.prog.info? 74).map (·.size) = some 3 := by kernel_rfl

theorem strV_one (ss : List ByteArray) : ∀ v ∈ strV ss, v.oneCell' = true := by
  intro v hv
  simp only [strV, List.mem_map] at hv
  obtain ⟨s, _, rfl⟩ := hv
  rfl
theorem ioV_one (xs : List Wr) : ∀ v ∈ ioV xs, v.oneCell' = true := by
  intro v hv
  simp only [ioV, List.mem_flatMap] at hv
  obtain ⟨x, _, hv⟩ := hv
  simp at hv
  rcases hv with rfl | rfl | rfl <;> rfl
/-- A slice that is not empty has an address at which its cells lie. -/
theorem Ss.at {w : World} {ao : Option Addr} {ss : List ByteArray} (h : Ss w ao ss) (hp : 0 < ss.length) : ∃ b off, ao = some ⟨b, off, none⟩ ∧ ∀ j v, (strV ss)[j]? = some v → w.cell? (Addr.add ⟨b, off, none⟩ j) = some v := by
  obtain ⟨b, off, rfl, _⟩ := h 0 hp
  refine ⟨b, off, rfl, fun j v hv => ?_⟩
  have hj : j < ss.length := by have := (List.getElem?_eq_some_iff.1 hv).1; rwa [strV_length] at this
  obtain ⟨b', off', e, hc, _⟩ := h j hj
  simp only [Option.some.injEq, Addr.mk.injEq, and_true] at e
  obtain ⟨rfl, rfl⟩ := e
  rw [strV_get hj] at hv
  cases hv
  rw [show Addr.add ⟨b, off, none⟩ j = ⟨b, off + j, none⟩ from by unfold Addr.add; split <;> simp_all]
  exact hc
theorem ioV_at {xs : List Wr} {j : Nat} {v : Value} (h : (ioV xs)[j]? = some v) : ∃ i r, ∃ hi : i < xs.length, j = i * 3 + r ∧ ((r = 0 ∧ v = .int .i64 xs[i].host) ∨ (r = 1 ∧ v = .int .i64 xs[i].at_) ∨ (r = 2 ∧ v = .string xs[i].data)) := by
  have hj : j < xs.length * 3 := by have := (List.getElem?_eq_some_iff.1 h).1; rwa [ioV_length] at this
  have hi : j / 3 < xs.length := by omega
  obtain ⟨g0, g1, g2⟩ := ioV_get hi
  rcases (show j % 3 = 0 ∨ j % 3 = 1 ∨ j % 3 = 2 by omega) with e | e | e
  · rw [show j = j / 3 * 3 by omega, g0] at h; cases h
    exact ⟨j / 3, 0, hi, by omega, .inl ⟨rfl, rfl⟩⟩
  · rw [show j = j / 3 * 3 + 1 by omega, g1] at h; cases h
    exact ⟨j / 3, 1, hi, by omega, .inr (.inl ⟨rfl, rfl⟩)⟩
  · rw [show j = j / 3 * 3 + 2 by omega, g2] at h; cases h
    exact ⟨j / 3, 2, hi, by omega, .inr (.inr ⟨rfl, rfl⟩)⟩
theorem Ios.at {w : World} {ao : Option Addr} {xs : List Wr} (h : Ios w ao xs) (hp : 0 < xs.length) : ∃ b off, ao = some ⟨b, off, none⟩ ∧ ∀ j v, (ioV xs)[j]? = some v → w.cell? (Addr.add ⟨b, off, none⟩ j) = some v := by
  obtain ⟨b, off, rfl, _⟩ := h 0 hp
  refine ⟨b, off, rfl, fun j v hv => ?_⟩
  obtain ⟨i, r, hi, rfl, hr⟩ := ioV_at hv
  obtain ⟨b', off', e, h0, h1, h2, _⟩ := h i hi
  simp only [Option.some.injEq, Addr.mk.injEq, and_true] at e
  obtain ⟨rfl, rfl⟩ := e
  rw [show Addr.add ⟨b, off, none⟩ (i * 3 + r) = ⟨b, off + i * 3 + r, none⟩ from by unfold Addr.add; split <;> simp_all [Nat.add_assoc]]
  rcases hr with ⟨rfl, rfl⟩ | ⟨rfl, rfl⟩ | ⟨rfl, rfl⟩
  · exact h0
  · exact h1
  · exact h2

end Go.Proofs.YtkaiglhljpehpabGreatDoor

/- Contract of impl.copyDisk: the disk as it was, in new memory. -/
namespace Go.Proofs.YtkaiglhljpehpabGreatDoor
open Go.RowKit
set_option linter.unusedVariables false
set_option maxRecDepth 100000

theorem copyD_end {w wL : World} {po qo : Option Addr} {n pa m qa : Nat} {ss : List ByteArray} {xs : List Wr} (ho : OwnD wL (w.heap.size + 2) po n pa qo m qa ss xs) (hb : Below w.heap.size w wL) (a b : Value) :
    OwnD ((wL.setCell ⟨w.heap.size + 1, 0, none⟩ a).setCell ⟨w.heap.size + 1, 1, none⟩ b) w.heap.size po n pa qo m qa ss xs ∧ Below w.heap.size w ((wL.setCell ⟨w.heap.size + 1, 0, none⟩ a).setCell ⟨w.heap.size + 1, 1, none⟩ b) :=
  ⟨((ho.setCell (a := ⟨w.heap.size + 1, 0, none⟩) (by simp) a).setCell (a := ⟨w.heap.size + 1, 1, none⟩) (by simp) b).base (by omega),
    (hb.setCell (p := ⟨w.heap.size + 1, 0, none⟩) (by simp) a).setCell (p := ⟨w.heap.size + 1, 1, none⟩) (by simp) b⟩

end Go.Proofs.YtkaiglhljpehpabGreatDoor
