/- What a drawn disk keeps in its variable beside a source of choices. -/
import Derived.Test.YtoiclgeeaednnaaRows
import Derived.Test.YtoiclgeeaednnaaGen
import Derived.Test.YtoiclgeeaednnaaKeep
import Derived.Test.YtoiclgeeaednnaaDiskW
import Derived.Test.YtoiclgeeaednnaaOwnF
import Derived.Test.YtoiclgeeaednnaaVars
import Derived.Test.YtoiclgeeaednnaaLand
import Derived.Test.YtoiclgeeaednnaaLandS
import Derived.Test.YtoiclgeeaednnaaLandP
import Derived.Test.YtoiclgeeaednnaaSrc
import Derived.Test.YtoiclgeeaednnaaSrcG
import Derived.WalkKit
import Derived.WalkSpells
namespace Go.Proofs.Ytoiclgeeaednnaa
open Go.RowKit
set_option linter.unusedVariables false

def noStr (c : Array Value) : Prop := ∀ (i : Nat) (s : ByteArray), c[i]? ≠ some (Value.string s)
theorem cell_ne {w : World} {k t b' off : Nat} {c : Array Value} {s : ByteArray} (hx : w.heap[k]? = some (.cells c t (0, 0))) (hc : noStr c) (h : w.cell? ⟨b', off, none⟩ = some (.string s)) : b' ≠ k := by
  rintro rfl
  rw [Joins.cell_of_block hx] at h
  exact hc off s h
theorem Ss.keepX {w w' : World} {ao : Option Addr} {ss : List ByteArray} {k t : Nat} {c : Array Value} (h : Ss w ao ss) (hx : w.heap[k]? = some (.cells c t (0, 0))) (hc : noStr c) (hk : Keep (fun j => j = k) w w') : Ss w' ao ss := fun i hi => by
  obtain ⟨b, off, e, h0, hz⟩ := h i hi
  exact ⟨b, off, e, keep_cell hk (cell_ne hx hc h0) h0, hz⟩
theorem Ios.keepX {w w' : World} {ao : Option Addr} {xs : List Wr} {k t : Nat} {c : Array Value} (h : Ios w ao xs) (hx : w.heap[k]? = some (.cells c t (0, 0))) (hc : noStr c) (hk : Keep (fun j => j = k) w w') : Ios w' ao xs := fun i hi => by
  obtain ⟨b, off, e, h0, h1, h2, hz⟩ := h i hi
  have hb := cell_ne hx hc h2
  exact ⟨b, off, e, keep_cell hk hb h0, keep_cell hk hb h1, keep_cell hk hb h2, hz⟩
theorem noStr_src (v : Value) (x y : Int) (hv : ∀ s, v ≠ .string s) : noStr #[v, .int .i64 x, .int .i64 y] := by
  intro i s
  match i with
  | 0 => simpa using hv s
  | 1 => simp
  | 2 => simp
  | k + 3 => simp
theorem noStr_var (a b : Option Addr) (n m c d : Nat) : noStr #[.slice a n c, .slice b m d] := by
  intro i s
  match i with
  | 0 => simp
  | 1 => simp
  | k + 2 => simp

/-- A disk in a variable. -/
structure DV (w : World) (C : Nat) (ao : Option Addr) (ca : Nat) (bo : Option Addr) (cb : Nat) (ss : List ByteArray) (xs : List Wr) : Prop where
  var : VarD w C (.slice ao ss.length ca) (.slice bo xs.length cb)
  s : Ss w ao ss
  i : Ios w bo xs
theorem DV.below {w w' : World} {C ca cb : Nat} {ao bo : Option Addr} {ss : List ByteArray} {xs : List Wr} (h : DV w C ao ca bo cb ss xs) (hb : Below w.heap.size w w') : DV w' C ao ca bo cb ss xs := ⟨h.var.below hb, h.s.below hb, h.i.below hb⟩
theorem DV.src {w w' : World} {C ca cb b n cap m : Nat} {ao bo so : Option Addr} {ss : List ByteArray} {xs : List Wr} (h : DV w C ao ca bo cb ss xs) (hs : SrcK w b so n cap m) (hC : C ≠ b) (hk : Keep (fun j => j = b) w w') : DV w' C ao ca bo cb ss xs := by
  obtain ⟨x, y, _, _, _, _, hblk⟩ := hs.src
  have hn := noStr_src (.slice so n cap) x y (fun s e => by cases e)
  exact ⟨h.var.keep hk hC, h.s.keepX hblk hn hk, h.i.keepX hblk hn hk⟩
/-- Stored anew. -/
theorem DV.store {w : World} {C n1 m1 ca cb c1 d1 : Nat} {ao bo a1 b1 : Option Addr} {ss : List ByteArray} {xs : List Wr} (hv : VarD w C (.slice a1 n1 c1) (.slice b1 m1 d1)) (hs : Ss w ao ss) (hi : Ios w bo xs) :
    DV ((w.setCell ⟨C, 0, none⟩ (.slice ao ss.length ca)).setCell ⟨C, 1, none⟩ (.slice bo xs.length cb)) C ao ca bo cb ss xs ∧ Keep (fun j => j = C) w ((w.setCell ⟨C, 0, none⟩ (.slice ao ss.length ca)).setCell ⟨C, 1, none⟩ (.slice bo xs.length cb)) := by
  have hk : Keep (fun j => j = C) w ((w.setCell ⟨C, 0, none⟩ (.slice ao ss.length ca)).setCell ⟨C, 1, none⟩ (.slice bo xs.length cb)) := ((Keep.refl (fun j => j = C) w).setCell (p := ⟨C, 0, none⟩) rfl _).setCell (p := ⟨C, 1, none⟩) rfl _
  exact ⟨⟨(hv.set0 _).set1 _, hs.keepX hv (noStr_var _ _ _ _ _ _) hk, hi.keepX hv (noStr_var _ _ _ _ _ _) hk⟩, hk⟩

/-- The loop's world: the disk's variable, the answer's, the source. -/
structure DkSt (w W : World) (b : Nat) (so : Option Addr) (n cap m C : Nat) (ao : Option Addr) (ca : Nat) (bo : Option Addr) (cb : Nat) (ss : List ByteArray) (xs : List Wr) : Prop where
  dv : DV W C ao ca bo cb ss xs
  r : VarD W w.heap.size (.slice none 0 0) (.slice none 0 0)
  k : Keep (fun k => k = b ∨ w.heap.size ≤ k) w W
  s : SrcK W b so n cap m
  c : w.heap.size < C
theorem DkSt.below {w W W' : World} {b n cap m C ca cb : Nat} {so ao bo : Option Addr} {ss : List ByteArray} {xs : List Wr} (h : DkSt w W b so n cap m C ao ca bo cb ss xs) (hb : Below W.heap.size W W') : DkSt w W' b so n cap m C ao ca bo cb ss xs :=
  ⟨h.dv.below hb, h.r.below hb, h.k.trans (Keep.of_below hb), h.s.below hb, h.c⟩
theorem DkSt.src {w W W' : World} {b n cap m m' C ca cb : Nat} {so ao bo : Option Addr} {ss : List ByteArray} {xs : List Wr} (h : DkSt w W b so n cap m C ao ca bo cb ss xs) (hb : b < w.heap.size) (hs : SrcK W' b so n cap m') (hk : Keep (fun j => j = b) W W') : DkSt w W' b so n cap m' C ao ca bo cb ss xs :=
  ⟨h.dv.src h.s (by have := h.c; omega) hk, h.r.keep hk (by omega), h.k.trans (hk.mono (fun k h => .inl h)), hs, h.c⟩
theorem DkSt.more {w W : World} {b n cap m m' C ca cb : Nat} {so ao bo : Option Addr} {ss : List ByteArray} {xs : List Wr} (h : DkSt w W b so n cap m C ao ca bo cb ss xs) (hm : m ≤ m') : DkSt w W b so n cap m' C ao ca bo cb ss xs := ⟨h.dv, h.r, h.k, h.s.more hm, h.c⟩
/-- The variable is stored anew. -/
theorem DkSt.store {w W : World} {b n cap m m0 C ca cb ca' cb' : Nat} {so ao bo ao' bo' : Option Addr} {ss ss' : List ByteArray} {xs xs' : List Wr} (h : DkSt w W b so n cap m C ao ca bo cb ss xs) (h0 : SrcK w b so n cap m0) (hs : Ss W ao' ss') (hi : Ios W bo' xs') :
    DkSt w ((W.setCell ⟨C, 0, none⟩ (.slice ao' ss'.length ca')).setCell ⟨C, 1, none⟩ (.slice bo' xs'.length cb')) b so n cap m C ao' ca' bo' cb' ss' xs' := by
  obtain ⟨hd, hk⟩ := DV.store (ca := ca') (cb := cb') h.dv.var hs hi
  have hb := h0.lt
  have hK := h.k.trans (hk.mono (fun k e => .inr (by have := h.c; omega)))
  exact ⟨hd, h.r.keep hk (by have := h.c; omega), hK, h0.other h.s (keep_drop hK) hk (by have := h.c; omega), h.c⟩

end Go.Proofs.Ytoiclgeeaednnaa
