/- Plain: what is right of a ballot, limb by limb. -/
import Derived.Test.YtdigphemaccodabPxP
namespace Go.Proofs.Ytdigphemaccodab
set_option linter.unusedVariables false
theorem pxB_1 {p : Pxs} (e : inB p.host 0 3 = false) : pxB p = false := by simp [pxB, e]
theorem pxB_2 {p : Pxs} (e : inB p.ver 0 1000000 = false) : pxB p = false := by simp [pxB, e]
theorem pxB_3 {p : Pxs} (e : inB p.phase 1 6 = false) : pxB p = false := by simp [pxB, e]
theorem pxB_4 {p : Pxs} (e : inB p.ballot 1 1000000 = false) : pxB p = false := by simp [pxB, e]
theorem pxB_5 {p : Pxs} (e : ¬ p.ballot % 4 = p.host) : pxB p = false := by simp [pxB, e]
theorem pxB_6 {p : Pxs} (e : numB p.value = false) : pxB p = false := by simp [pxB, e]
theorem pxB_7 {p : Pxs} (e : inB p.next 0 4 = false) : pxB p = false := by simp [pxB, e]
theorem pxB_8 {p : Pxs} (e : numB p.best = false) : pxB p = false := by simp [pxB, e]
theorem pxB_9 {p : Pxs} (e1 : inB p.host 0 3 = true) (e2 : inB p.ver 0 1000000 = true) (e3 : inB p.phase 1 6 = true) (e4 : inB p.ballot 1 1000000 = true) (e5 : p.ballot % 4 = p.host) (e6 : numB p.value = true) (e7 : inB p.next 0 4 = true) (e8 : numB p.best = true) : pxB p = inB p.bestBal 0 1000000 := by simp [pxB, e1, e2, e3, e4, e5, e6, e7, e8]
def baB (b h : Int) : Bool := inB b 1 1000000 && decide (b % 4 = h)
theorem pxB_ba {p : Pxs} (e : baB p.ballot p.host = false) : pxB p = false := by
  simp only [baB, Bool.and_eq_false_iff] at e
  rcases e with e | e
  · exact pxB_4 e
  · exact pxB_5 (by simpa using e)
theorem pxB_9b {p : Pxs} (e1 : inB p.host 0 3 = true) (e2 : inB p.ver 0 1000000 = true) (e3 : inB p.phase 1 6 = true) (e4 : baB p.ballot p.host = true) (e6 : numB p.value = true) (e7 : inB p.next 0 4 = true) (e8 : numB p.best = true) : pxB p = inB p.bestBal 0 1000000 := by
  simp only [baB, Bool.and_eq_true, decide_eq_true_eq] at e4
  exact pxB_9 e1 e2 e3 e4.1 e4.2 e6 e7 e8
theorem ball_mod {b : Int} (h : inB b 1 1000000 = true) : Int.tmod b 4 = b % 4 := by
  simp only [inB, Bool.and_eq_true, decide_eq_true_eq] at h
  exact Int.tmod_eq_emod_of_nonneg (by omega)
theorem ret_pi {a b : Pxs} {x y : Int} (h : a = b) (k : x = y) : Go.Ending.returned (.tuple #[pV a, .int .i64 x]) = .returned (.tuple #[pV b, .int .i64 y]) := by rw [h, k]
/-- What PxStart answers. -/
def ps0 (h v b x : Int) : Pxs := ⟨h, v, 1, b, x, 0, 0, 0⟩
def psP (h v b x : Int) : Pxs := if pxB (ps0 h v b x) = true then ps0 h v b x else p00
def psC (h v b x : Int) : Int := if pxB (ps0 h v b x) = true then 0 else 4
end Go.Proofs.Ytdigphemaccodab
