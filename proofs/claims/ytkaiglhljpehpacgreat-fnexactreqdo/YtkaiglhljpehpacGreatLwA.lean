/- What laws over right images carry along, and the program's and the model's calls at right images. -/
import Derived.Test.YtkaiglhljpehpacGreatRows
import Derived.Test.YtkaiglhljpehpacGreatPart13
import Derived.Test.YtkaiglhljpehpacGreatPart24
import Derived.Test.YtkaiglhljpehpacGreatPart33
import Derived.Test.YtkaiglhljpehpacGreatPart19
import Derived.Test.YtkaiglhljpehpacGreatPart23
import Derived.Test.YtkaiglhljpehpacGreatPart22
import Derived.Test.YtkaiglhljpehpacGreatPart25
import Derived.WalkKit

namespace Go.Proofs.YtkaiglhljpehpacGreat
open Go.RowKit
set_option linter.unusedVariables false
set_option maxRecDepth 100000

/-- A variable with an image. -/
structure ImA (W : World) (y : Nat) (a : Im4) (m : Img) : Prop where
  v : VarM W y 32 (.slice a.ro m.refs.length a.rc) (.slice a.tq m.table.length a.tc) (.slice a.so m.snaps.length a.sc) (.slice a.dq m.data.length a.dc)
  s : ImS W a m
theorem ImA.below {W W' : World} {y : Nat} {a : Im4} {m : Img} (h : ImA W y a m) (hb : Below W.heap.size W W') : ImA W' y a m := ⟨h.v.below hb, h.s.below hb⟩
theorem ImA.new {W : World} {a : Im4} {m : Img} (h : ImS W a m) : ImA (W.alloc (.cells #[.slice a.ro m.refs.length a.rc, .slice a.tq m.table.length a.tc, .slice a.so m.snaps.length a.sc, .slice a.dq m.data.length a.dc] 32)) W.heap.size a m := ⟨VarM.new _ _ _ _ _ _, h.below (Joins.below_alloc1 _ _)⟩
theorem ImR.L {m : Img} (h : ImR m) : ImL m := h.M.L
theorem OwnIm.showsR {w : World} {B : Nat} {a : Im4} {m : Img} {ts : List Value} (h : OwnIm w B a m ts) (hi : ImR m) : ImS w a m := h.shows hi.M.zs

theorem rsA_right {m : Img} (h : ImR m) {q : Nat} (hq : q ≤ 12) : rsA' m (q : Int) = (imResize m q, 0) := by
  unfold rsA'
  rw [if_pos (imB_iff.2 h), if_pos (betw_iff.2 ⟨by omega, by omega⟩), Int.toNat_natCast]
theorem resizeA (a : Im4) (m X : Img) (q : Nat) (W : World) (h : ImR m) (hq : q ≤ 12) (hX : X = imResize m q) (hs : ImS W a m) :
    Calls Tryz.prog 59 #[imV a m, .int .i64 (q : Int)] W fun e w' => AnsI W w' e (X, 0) := by
  have := resizeImage_impl a m (q : Int) W h.L hs
  rw [rsA_right h hq, ← hX] at this
  exact this
theorem resizeS (a : Im4) (m X : Img) (q : Nat) (W : World) (h : ImR m) (hq : q ≤ 12) (hX : X = imResize m q) (hs : ImS W a m) :
    Calls Tryz.prog 45 #[imV a m, .int .i64 (q : Int)] W fun e w' => AnsI W w' e (X, 0) := by
  have := resizeImage_spec a m (q : Int) W h.L hs
  rw [rsA_right h hq, ← hX] at this
  exact this
theorem betw_tab {n g : Nat} (hg : g < n) : betw (g : Int) 0 ((n : Int) - 1) = true := betw_iff.2 ⟨by omega, by omega⟩
theorem zeroA (a : Im4) (m X : Img) (g : Nat) (W : World) (h : ImR m) (hg : g < m.table.length) (hX : X = imZero m g) (hs : ImS W a m) :
    Calls Tryz.prog 58 #[imV a m, .int .i64 (g : Int)] W fun e w' => AnsI W w' e (X, 0) := by
  have := zeroCluster_impl a m (g : Int) W h.L hs
  have e : zcA m (g : Int) = (X, 0) := by
    unfold zcA
    rw [if_pos (imB_iff.2 h), if_pos (betw_tab hg), Int.toNat_natCast, hX]
  rw [e] at this
  exact this
theorem readA (a : Im4) (m : Img) (g : Nat) (v : Int) (W : World) (h : ImR m) (hg : g < m.table.length) (hv : imAt m g = v) (hs : ImS W a m) :
    Calls Tryz.prog 54 #[imV a m, .int .i64 (g : Int)] W fun e w' => e = .returned (.tuple #[.int .i64 v, .int .i64 0]) ∧ Below W.heap.size W w' := by
  have := readCluster_impl a m (g : Int) W h.L hs
  have e : rcA m (g : Int) = (v, 0) := by
    unfold rcA
    rw [if_pos (imB_iff.2 h), if_pos (betw_tab hg), Int.toNat_natCast, ← hv]; rfl
  rw [e] at this
  exact this
theorem okA (a : Im4) (m : Img) (W : World) (h : ImR m) (hs : ImS W a m) :
    Calls Tryz.prog 24 #[imV a m] W fun e w' => e = .returned (.bool true) ∧ Below W.heap.size W w' := by
  have := imageOK_impl a m W h.L hs
  rw [imB_iff.2 h] at this
  exact this
end Go.Proofs.YtkaiglhljpehpacGreat
