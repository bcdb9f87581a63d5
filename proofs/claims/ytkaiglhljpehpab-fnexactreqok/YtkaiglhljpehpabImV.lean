/- Images in memory, as slices show them. (Made ahead of stage 10.) -/
import Derived.Test.YtkaiglhljpehpabGen
import Derived.Test.YtkaiglhljpehpabKeep
import Derived.Test.YtkaiglhljpehpabInts
import Derived.Test.YtkaiglhljpehpabImP
import Derived.WalkKit
namespace Go.Proofs.Ytkaiglhljpehpab
open Go.RowKit
set_option linter.unusedVariables false
set_option maxRecDepth 100000

/-- A row of snapshots. -/
def Sns (w : World) (ao : Option Addr) (ss : List Snp) : Prop := ∀ i (h : i < ss.length), ∃ b off tq tc, ao = some ⟨b, off, none⟩ ∧ w.cell? ⟨b, off + i * 2, none⟩ = some (.string ss[i].name) ∧ w.cell? ⟨b, off + i * 2 + 1, none⟩ = some (.slice tq ss[i].table.length tc) ∧ Is w tq ss[i].table ∧ ss[i].name.size ≤ maxLen ∧ ss[i].table.length ≤ maxLen
theorem Sns.below {w w' : World} {ao : Option Addr} {ss : List Snp} (h : Sns w ao ss) (hb : Below w.heap.size w w') : Sns w' ao ss := fun i hi => by
  obtain ⟨b, off, tq, tc, e, h0, h1, h2, h3, h4⟩ := h i hi
  have hl := World.block_lt_of_cell? _ _ h0
  exact ⟨b, off, tq, tc, e, (hb.cell (p := ⟨b, off + i * 2, none⟩) hl).trans h0, (hb.cell (p := ⟨b, off + i * 2 + 1, none⟩) hl).trans h1, h2.below hb, h3, h4⟩
/-- Where an image's four lists lie. -/
structure Im4 where
  ro : Option Addr
  rc : Nat
  tq : Option Addr
  tc : Nat
  so : Option Addr
  sc : Nat
  dq : Option Addr
  dc : Nat
abbrev imV (a : Im4) (m : Img) : Value := .agg #[.slice a.ro m.refs.length a.rc, .slice a.tq m.table.length a.tc, .slice a.so m.snaps.length a.sc, .slice a.dq m.data.length a.dc]
abbrev snV (s : Snp) (tq : Option Addr) (tc : Nat) : Value := .agg #[.string s.name, .slice tq s.table.length tc]
/-- An image is shown. -/
structure ImS (w : World) (a : Im4) (m : Img) : Prop where
  r : Is w a.ro m.refs
  t : Is w a.tq m.table
  s : Sns w a.so m.snaps
  d : Is w a.dq m.data
theorem ImS.below {w w' : World} {a : Im4} {m : Img} (h : ImS w a m) (hb : Below w.heap.size w w') : ImS w' a m := ⟨h.r.below hb, h.t.below hb, h.s.below hb, h.d.below hb⟩
/-- How great an image is. -/
def sn1 (s : Snp) : Nat := s.name.size + s.table.length
def snSz (ss : List Snp) : Nat := (ss.map sn1).sum
def imSz (m : Img) : Nat := m.refs.length + m.table.length + (m.snaps.length + snSz m.snaps) + m.data.length
theorem snSz_take {ss : List Snp} {k : Nat} (h : k < ss.length) : snSz (ss.take (k + 1)) = snSz (ss.take k) + sn1 ss[k] := by
  unfold snSz
  rw [List.take_succ_eq_append_getElem h, List.map_append, List.sum_append]; simp
theorem sn_le {ss : List Snp} {k : Nat} (h : k < ss.length) : sn1 ss[k] ≤ snSz ss := by
  have e := snSz_take h
  have : ∀ (xs : List Snp) (n : Nat), snSz (xs.take n) ≤ snSz xs := by
    intro xs n
    have h2 : snSz xs = snSz (xs.take n) + snSz (xs.drop n) := by
      unfold snSz
      rw [← List.sum_append, ← List.map_append, List.take_append_drop]
    omega
  have := this ss (k + 1)
  omega

end Go.Proofs.Ytkaiglhljpehpab
