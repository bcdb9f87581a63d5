/- The walk of laws.FnExactNextBallot. -/
import Derived.Test.YtdigphemaccodabRows
import Derived.Test.YtdigphemaccodabGen
import Derived.Test.YtdigphemaccodabPxP
import Derived.Test.YtdigphemaccodabPxN
import Derived.Test.YtdigphemaccodabToBks
import Derived.WalkKit
import Derived.WalkSpells
import Derived.KernelRfl
import Derived.Lib.SmallJoins
namespace Go.Proofs.Ytdigphemaccodab
open Go.RowKit
set_option linter.unusedVariables false
set_option maxRecDepth 100000

theorem ownK {W : World} {B t n cap g : Nat} {xs : List Bk} (h : W.ownsRow B t 4 (.slice (some ⟨g, 0, none⟩) n cap) n (bksV xs)) (hn : xs.length = n) : Bks W (some ⟨g, 0, none⟩) xs := by
  subst hn
  rcases Nat.eq_zero_or_pos xs.length with h0 | h0
  · intro i hi; omega
  · exact ownBks (.inr ⟨h0, h⟩)

set_option maxHeartbeats 3200000 in
theorem lawNextBallot (h v : Int) (ao : Option Addr) (ca : Nat) (xs : List Bk) (w : World) (hl : xs.length ≤ maxLen) (hc : Bks w ao xs) : Calls Try.prog 6 #[.int .i64 h, .int .i64 v, .slice ao xs.length ca] w fun e w' => e = .returned (.bool true) ∧ Below w.heap.size w w' := by
  have HC := hide hc
  clear hc
  have HZ : Hid (xs.length ≤ 9223372036854775807) := hide (by unfold maxLen at hl; omega)
  clear hl
  by_cases hs : ¬ xs.length ≤ 1048576
  · go_enter Try.func6, Try.ntmps6
    go_wp2_with fail
    refine (szBlockS_any ao xs.length ca 1048576 _ rfl (unhide HZ)).mono ?_
    rintro e w1 ⟨rfl, hb⟩
    have HB := hide hb
    clear hb
    rw [if_neg hs]
    go_wp2
    go_ret
    exact ⟨rfl, unhide HB⟩
  rw [Decidable.not_not] at hs
  have HS := hide hs
  have hs2 : ¬ (1048576 - (xs.length : Int) < 0) := by omega
  go_enter Try.func6, Try.ntmps6
  go_wp2_with fail
  refine (szBlockS_any ao xs.length ca 1048576 _ rfl (unhide HZ)).mono ?_
  rintro e w1 ⟨rfl, hb⟩
  have HB1 := hide hb
  clear hb
  rw [if_pos hs]
  clear hs
  go_wp2_with fail
  refine (toBlockS_any ao ca xs _ (unhide HS) ((unhide HC).below (unhide HB1))).mono ?_
  rintro e w2 ⟨g1, rfl, ho1, hb⟩
  have HB2 := hide (fr (unhide HB1) hb)
  have HO1 := hide ho1
  clear hb ho1
  have HNS := hide (fun ao W hx => nextBallot_spec h v ao xs.length xs W (unhide HS) hx)
  have HNI := hide (fun ao W hx => nextBallot_impl h v ao xs.length xs W (unhide HS) hx)
  revert HNS HNI
  generalize nbN h v xs = N1
  generalize nbC h v xs = C1
  intro HNS HNI
  go_wp2_with fail
  refine (unhide HNS (some ⟨g1, 0, none⟩) _ (ownK (unhide HO1) rfl)).mono ?_
  rintro e w3 ⟨rfl, hb⟩
  have HB3 := hide (fr (unhide HB2) hb)
  clear hb HO1
  go_wp2_with fail
  refine (toBlockS_any ao ca xs _ (unhide HS) ((unhide HC).below (unhide HB3))).mono ?_
  rintro e w4 ⟨g2, rfl, ho2, hb⟩
  have HB4 := hide (fr (unhide HB3) hb)
  have HX2 := hide (ownK ho2 rfl)
  clear hb ho2
  go_wp2_with fail
  refine (unhide HNI (some ⟨g2, 0, none⟩) _ (unhide HX2)).mono ?_
  rintro e w5 ⟨rfl, hb⟩
  have HB5 := hide (fr (unhide HB4) hb)
  have HX3 := hide ((unhide HX2).below hb)
  clear hb
  go_wp2_with fail
  refine (toBlockS_any ao ca xs _ (unhide HS) ((unhide HC).below (unhide HB5))).mono ?_
  rintro e w6 ⟨g3, rfl, ho3, hb⟩
  have HB6 := hide (fr (unhide HB5) hb)
  have HX4 := hide ((unhide HX3).below hb)
  have HX5 := hide (ownK ho3 rfl)
  clear hb ho3
  go_wp2_with fail
  refine (eqBlockS_same _ _ _ _ xs _ (unhide HS) (unhide HX4) (unhide HX5)).mono ?_
  rintro e w7 ⟨rfl, hb⟩
  have HB7 := hide (fr (unhide HB6) hb)
  clear hb
  go_wp2
  go_ret
  exact ⟨rfl, unhide HB7⟩

end Go.Proofs.Ytdigphemaccodab
