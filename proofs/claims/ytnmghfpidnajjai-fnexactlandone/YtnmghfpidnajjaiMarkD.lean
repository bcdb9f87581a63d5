/- A disk in the call's own memory; contracts of markDisk and heldDisk. -/
import Derived.Test.YtnmghfpidnajjaiRows
import Derived.Test.YtnmghfpidnajjaiGen
import Derived.Test.YtnmghfpidnajjaiKeep
import Derived.Test.YtnmghfpidnajjaiMark
import Derived.WalkKit
import Derived.WalkSpells
namespace Go.Proofs.Ytnmghfpidnajjai
open Go.RowKit
set_option linter.unusedVariables false

/-- A disk in rows of the call's own, at blocks from B on. -/
structure OwnD (w : World) (B : Nat) (ao : Option Addr) (n ca : Nat) (bo : Option Addr) (m cb : Nat) (ss : List ByteArray) (xs : List Wr) : Prop where
  s : OwnR w B 9 1 (.slice ao n ca) n (strV ss)
  i : OwnR w B 55 3 (.slice bo m cb) m (ioV xs)

def OwnB (ao : Option Addr) (n ca : Nat) (bo : Option Addr) (m cb : Nat) (k : Nat) : Prop := Own (.slice ao n ca) k ∨ Own (.slice bo m cb) k

theorem OwnD.below {w w' : World} {B n ca m cb : Nat} {ao bo : Option Addr} {ss : List ByteArray} {xs : List Wr} (h : OwnD w B ao n ca bo m cb ss xs) (hb : Below w.heap.size w w') : OwnD w' B ao n ca bo m cb ss xs := ⟨h.s.below hb, h.i.below hb⟩
theorem OwnD.base {w : World} {B B' n ca m cb : Nat} {ao bo : Option Addr} {ss : List ByteArray} {xs : List Wr} (h : OwnD w B ao n ca bo m cb ss xs) (hb : B' ≤ B) : OwnD w B' ao n ca bo m cb ss xs := ⟨h.s.base hb, h.i.base hb⟩
theorem OwnD.keep {S : Nat → Prop} {w w' : World} {B n ca m cb : Nat} {ao bo : Option Addr} {ss : List ByteArray} {xs : List Wr} (h : OwnD w B ao n ca bo m cb ss xs) (hk : Keep S w w') (hs : ∀ g, OwnB ao n ca bo m cb g → ¬ S g) : OwnD w' B ao n ca bo m cb ss xs :=
  ⟨h.s.keep hk (fun g hg => hs g (.inl hg)), h.i.keep hk (fun g hg => hs g (.inr hg))⟩
theorem OwnD.setCell {w : World} {B n ca m cb : Nat} {ao bo : Option Addr} {ss : List ByteArray} {xs : List Wr} (h : OwnD w B ao n ca bo m cb ss xs) {a : Addr} (ha : a.block < B) (u : Value) : OwnD (w.setCell a u) B ao n ca bo m cb ss xs := ⟨h.s.setCell ha u, h.i.setCell ha u⟩
theorem OwnD.ge {w : World} {B n ca m cb : Nat} {ao bo : Option Addr} {ss : List ByteArray} {xs : List Wr} (h : OwnD w B ao n ca bo m cb ss xs) : ∀ k, OwnB ao n ca bo m cb k → B ≤ k ∧ k < w.heap.size := by
  rintro k (hk | hk)
  · exact h.s.ge k hk
  · exact h.i.ge k hk
theorem OwnD.len {w : World} {B n ca m cb : Nat} {ao bo : Option Addr} {ss : List ByteArray} {xs : List Wr} (h : OwnD w B ao n ca bo m cb ss xs) : ss.length = n ∧ xs.length = m := by
  have h1 := h.s.len
  have h2 := h.i.len
  rw [strV_length] at h1
  rw [ioV_length] at h2
  exact ⟨by omega, by omega⟩
theorem OwnD.ss {w : World} {B n ca m cb : Nat} {ao bo : Option Addr} {ss : List ByteArray} {xs : List Wr} (h : OwnD w B ao n ca bo m cb ss xs) (hz : ∀ s ∈ ss, s.size ≤ maxLen) : Ss w ao ss := by
  obtain ⟨rfl, rfl⟩ := h.len
  rcases h.s with ⟨h0, _⟩ | ⟨_, h'⟩
  · intro i hi; omega
  · exact ownS h' hz
theorem OwnD.ios {w : World} {B n ca m cb : Nat} {ao bo : Option Addr} {ss : List ByteArray} {xs : List Wr} (h : OwnD w B ao n ca bo m cb ss xs) (hz : ∀ x ∈ xs, x.data.size ≤ maxLen) : Ios w bo xs := by
  obtain ⟨rfl, rfl⟩ := h.len
  rcases h.i with ⟨h0, _⟩ | ⟨_, h'⟩
  · intro i hi; omega
  · exact ownI h' hz
/-- A block of another type of cells is none of a disk's rows. -/
theorem OwnD.other {w : World} {B n ca m cb : Nat} {ao bo : Option Addr} {ss : List ByteArray} {xs : List Wr} (h : OwnD w B ao n ca bo m cb ss xs) {x t : Nat} {c : Array Value} {f : Nat × Nat} (hx : w.heap[x]? = some (.cells c t f)) (h1 : t ≠ 9) (h2 : t ≠ 55) : ¬ OwnB ao n ca bo m cb x := by
  rintro (hk | hk)
  · exact h.s.other hx h1 hk
  · exact h.i.other hx h2 hk

/-- A variable that holds a disk. -/
def VarD (w : World) (x : Nat) (a b : Value) : Prop := w.heap[x]? = some (.cells #[a, b] 31 (0, 0))
theorem VarD.lt {w : World} {x : Nat} {a b : Value} (h : VarD w x a b) : x < w.heap.size := (Array.getElem?_eq_some_iff.1 h).1
theorem VarD.cells {w : World} {x : Nat} {a b : Value} (h : VarD w x a b) : w.cell? ⟨x, 0, none⟩ = some a ∧ w.cell? ⟨x, 1, none⟩ = some b := ⟨by rw [Joins.cell_of_block h]; rfl, by rw [Joins.cell_of_block h]; rfl⟩
theorem VarD.below {w w' : World} {x : Nat} {a b : Value} (h : VarD w x a b) (hb : Below w.heap.size w w') : VarD w' x a b := by
  unfold VarD; rw [hb.block x h.lt]; exact h
theorem VarD.keep {S : Nat → Prop} {w w' : World} {x : Nat} {a b : Value} (h : VarD w x a b) (hk : Keep S w w') (hs : ¬ S x) : VarD w' x a b := by
  unfold VarD; rw [hk.block x h.lt hs]; exact h
theorem VarD.new (w : World) (a b : Value) : VarD (w.alloc (.cells #[a, b] 31)) w.heap.size a b := heap_alloc_new w _

set_option maxHeartbeats 1600000 in
theorem markDisk_any (ao bo : Option Addr) (n ca m cb k : Nat) (ss : List ByteArray) (xs : List Wr) (B : Nat) (w : World) (hn : n ≤ 2097152) (hm : m ≤ 2097152) (hk0 : 0 < k) (hk1 : k ≤ 134217728) (ho : OwnD w B ao n ca bo m cb ss xs) :
    Calls Try.prog 12 #[.agg #[.slice ao n ca, .slice bo m cb], .int .i64 k] w fun e w' => e = .returned (.int .i64 ((k + n + 3 * m : Nat) : Int)) ∧ OwnD w' B ao n ca bo m cb (mkS k n) (mkI (k + n) m) ∧ Keep (OwnB ao n ca bo m cb) w w' := by
  have HA := hide (Joins.below_alloc1 w (.cells #[.slice ao n ca, .slice bo m cb] 31))
  have HO := hide (ho.below (unhide HA))
  clear ho
  go_enter Try.func12, Try.ntmps12
  go_wp2_with fail
  refine (markStringS_any (.slice ao n ca) n k _ B _ (by omega) hk0 (by omega) (unhide HO).s).mono ?_
  rintro e w1 ⟨rfl, ho1, hk1'⟩
  have HX : Hid (¬ Own (.slice ao n ca) w.heap.size) := hide (fun h => (unhide HO).other (x := w.heap.size) (heap_alloc_new w _) (by decide) (by decide) (.inl h))
  have hb1 : w1.heap[w.heap.size]? = some (.cells #[.slice ao n ca, .slice bo m cb] 31) := (hk1'.block _ (by simp) (unhide HX)).trans (heap_alloc_new w _)
  have hc1 : w1.cell? ⟨w.heap.size, 1, none⟩ = some (.slice bo m cb) := by rw [Joins.cell_of_block hb1]; rfl
  have HI := hide (OwnR.keep (unhide HO).i hk1' (own_apart (unhide HO).i (unhide HO).s (by decide)))
  have HS := hide ho1
  have HK := hide (Keep.trans (S := OwnB ao n ca bo m cb) (Keep.of_below (unhide HA)) (hk1'.mono (fun j h => .inl h)))
  clear ho1 hk1' hb1
  go_wp2_with fail
  refine (markIoS_any (.slice bo m cb) m (k + n) _ B _ (by omega) (by omega) (by omega) (unhide HI)).mono ?_
  rintro e w2 ⟨rfl, ho2, hk2⟩
  have HS2 := hide (OwnR.keep (unhide HS) hk2 (own_apart (unhide HS) (unhide HI) (by decide)))
  have HI2 := hide ho2
  have HK2 := hide ((unhide HK).trans (hk2.mono (T := OwnB ao n ca bo m cb) (fun j h => .inr h)))
  clear ho2 hk2
  go_wp2
  go_ret
  exact ⟨rfl, ⟨unhide HS2, unhide HI2⟩, unhide HK2⟩

set_option maxHeartbeats 1600000 in
theorem heldDisk_any (ao bo : Option Addr) (n ca m cb k : Nat) (B : Nat) (w : World) (hn : n ≤ 2097152) (hm : m ≤ 2097152) (hk0 : 0 < k) (hk1 : k ≤ 134217728) (ho : OwnD w B ao n ca bo m cb (mkS k n) (mkI (k + n) m)) :
    Calls Try.prog 13 #[.agg #[.slice ao n ca, .slice bo m cb], .int .i64 k] w fun e w' => e = .returned (.int .i64 ((k + n + 3 * m : Nat) : Int)) ∧ Below w.heap.size w w' := by
  have HA := hide (Joins.below_alloc1 w (.cells #[.slice ao n ca, .slice bo m cb] 31))
  have HO := hide (ho.below (unhide HA))
  clear ho
  go_enter Try.func13, Try.ntmps13
  go_wp2_with fail
  refine (heldStringS_any (.slice ao n ca) n k B _ (by omega) hk0 (by omega) (unhide HO).s).mono ?_
  rintro e w1 ⟨rfl, hb1⟩
  have hc1 : w1.cell? ⟨w.heap.size, 1, none⟩ = some (.slice bo m cb) := (hb1.cell (by simp)).trans (by simp [go_sem])
  have HO1 := hide ((unhide HO).below hb1)
  have HB1 := hide (fr (unhide HA) hb1)
  clear hb1
  go_wp2_with fail
  refine (heldIoS_any (.slice bo m cb) m (k + n) B _ (by omega) (by omega) (by omega) (unhide HO1).i).mono ?_
  rintro e w2 ⟨rfl, hb2⟩
  have HB2 := hide (fr (unhide HB1) hb2)
  clear hb2
  go_wp2
  go_ret
  exact ⟨rfl, unhide HB2⟩

theorem markDisk_one (ao bo : Option Addr) (n ca m cb : Nat) (ss : List ByteArray) (xs : List Wr) (B : Nat) (w : World) (hn : n ≤ 2097152) (hm : m ≤ 2097152) (ho : OwnD w B ao n ca bo m cb ss xs) :
    Calls Try.prog 12 #[.agg #[.slice ao n ca, .slice bo m cb], .int .i64 1] w fun e w' => e = .returned (.int .i64 ((1 + n + 3 * m : Nat) : Int)) ∧ OwnD w' B ao n ca bo m cb (mkS 1 n) (mkI (1 + n) m) ∧ Keep (OwnB ao n ca bo m cb) w w' :=
  markDisk_any ao bo n ca m cb 1 ss xs B w hn hm (by omega) (by omega) ho
theorem heldDisk_one (ao bo : Option Addr) (n ca m cb : Nat) (B : Nat) (w : World) (hn : n ≤ 2097152) (hm : m ≤ 2097152) (ho : OwnD w B ao n ca bo m cb (mkS 1 n) (mkI (1 + n) m)) :
    Calls Try.prog 13 #[.agg #[.slice ao n ca, .slice bo m cb], .int .i64 1] w fun e w' => e = .returned (.int .i64 ((1 + n + 3 * m : Nat) : Int)) ∧ Below w.heap.size w w' :=
  heldDisk_any ao bo n ca m cb 1 B w hn hm (by omega) (by omega) ho

end Go.Proofs.Ytnmghfpidnajjai
