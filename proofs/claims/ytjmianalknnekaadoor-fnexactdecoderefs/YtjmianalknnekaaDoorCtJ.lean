/- Contract of impl.RefUp. -/
import Derived.Test.YtjmianalknnekaaDoorRows
import Derived.Test.YtjmianalknnekaaDoorGen
import Derived.Test.YtjmianalknnekaaDoorKeep
import Derived.Test.YtjmianalknnekaaDoorInts
import Derived.Test.YtjmianalknnekaaDoorOwnN
import Derived.Test.YtjmianalknnekaaDoorClkB
import Derived.Test.YtjmianalknnekaaDoorArrV
import Derived.Test.YtjmianalknnekaaDoorCtP
import Derived.Test.YtjmianalknnekaaDoorCtI
import Derived.WalkKit
import Derived.WalkSpells
import Derived.KernelRfl
import Derived.LoopN
import Derived.BigQuiet
import Derived.Deep.QuietTactic
import Derived.Deep.CutRange
import Derived.Deep.RegionWith
import Derived.Laws.ResultCell
import Derived.Deep.MidRow
namespace Go.Proofs.YtjmianalknnekaaDoor
open Go.RowKit
set_option linter.unusedVariables false
set_option maxRecDepth 100000

/-- What the program's own lists of counts are like. -/
theorem own24 {W : World} {B g : Nat} {xs : List Int} (h : W.ownsRow B 3 1 (.slice (some ⟨g, 0, none⟩) 24 24) 24 (intV xs)) (hl : xs.length = 24) : OwnN W B (.slice (some ⟨g, 0, none⟩) 24 24) xs := by
  refine ⟨some ⟨g, 0, none⟩, 24, by rw [hl], ?_⟩
  rw [hl]
  exact .inr ⟨by omega, h⟩
theorem cw_ne {n : Int} (h : n ≠ 0) : (n != 0) = true := by simpa using h

set_option maxHeartbeats 1600000 in
theorem refUp_impl (ao : Option Addr) (cap : Nat) (xs : List Int) (c : Int) (w : World) (hl : xs.length ≤ maxLen) (hc : Is w ao xs) :
    Calls Tryd.prog 12 #[.slice ao xs.length cap, .int .i64 c] w fun e w' => ∃ v, e = .returned (.tuple #[v, .int .i64 (upF xs c)]) ∧ OwnN w' w.heap.size v (upL xs c) ∧ Below w.heap.size w w' := by
  have HC := hide hc
  have HL := hide hl
  have HLC := hide (cwR_len xs c)
  clear hc
  go_enter Tryd.func12, Tryd.ntmps12
  go_wp2_with fail
  refine (countsWith_any ao cap xs c _ (unhide HL) (unhide HC)).mono ?_
  rintro e w1 ⟨rfl, hb⟩
  have HB1 := hide hb
  have HSZ := hide hb.size
  clear hb HC
  have HNN := hide (arr_new w1)
  have HBB := hide (fr (unhide HB1) (Joins.below_alloc1 w1 (.cells #[.int .i64 0, .int .i64 0, .int .i64 0, .int .i64 0, .int .i64 0, .int .i64 0, .int .i64 0, .int .i64 0, .int .i64 0, .int .i64 0, .int .i64 0, .int .i64 0, .int .i64 0, .int .i64 0, .int .i64 0, .int .i64 0, .int .i64 0, .int .i64 0, .int .i64 0, .int .i64 0, .int .i64 0, .int .i64 0, .int .i64 0, .int .i64 0] 43)))
  rcases cw_cases xs c with ⟨h0, h1, h2, h3, _, _⟩ | ⟨hb, h0, h1, q, rfl, hq⟩
  · have hne := cw_ne h0
    have HE := hide (And.intro h2 h3)
    clear h0 h1 h2 h3
    go_upto_region 2 with (refine wpList_store_arr rfl 43 _ _ rfl w1.heap.size rfl (intV (cwR xs c)).toArray rfl _ _ (unhide HNN) (sizeA (unhide HLC)) (by rw [intV_size, intV_size, unhide HLC]; rfl) (intV_one _) ?_; intro w2 hn2 hk2 hs2; have HN2 := hide hn2; have HB2 := hide (keep_one (unhide HBB) hk2 (unhide HSZ)); clear hn2 hk2 hs2 HNN HBB HB1)
    go_wp2
    go_ret2
    exact ⟨.slice none 0 0, ret_ni rfl (unhide HE).1.symm, by rw [(unhide HE).2]; exact OwnN.nil _ _ _, unhide HB2⟩
  · have H24 := hide (ctB_len hb)
    have HAT := hide (ctB_at hb q hq)
    have HUP := hide (up_at h0 hq)
    have H1 := hide h1
    rw [h0]
    clear h1 h0
    go_upto_region 2 with (refine wpList_store_arr rfl 43 _ _ rfl w1.heap.size rfl (intV (cwR xs q)).toArray rfl _ _ (unhide HNN) (sizeA (unhide HLC)) (by rw [intV_size, intV_size, unhide HLC]; rfl) (intV_one _) ?_; intro w2 hn2 hk2 hs2; have HN2 := hide hn2; have HB2 := hide (keep_one (unhide HBB) hk2 (unhide HSZ)); clear hn2 hk2 hs2 HNN HBB HB1)
    have HN3 : Hid (VarC w2 w1.heap.size xs) := hide (by rw [← unhide H1]; exact unhide HN2)
    replace HN2 := HN3
    clear HN3 hb HLC
    generalize w1.heap.size = G at *
    have hcell := arr_cell (unhide HN2) hq
    have hfz := Joins.unfrozen_of_block (unhide HN2) q
    have hq24 : (q : Int) < 24 := by have := unhide H24; omega
    have hq24' : q < 24 := by have := unhide H24; omega
    have hgl := (Array.getElem?_eq_some_iff.1 (unhide HN2)).1
    by_cases h15 : xs[q] = 15
    · have HE := hide ((unhide HUP).1 h15)
      have b15 : (xs[q] == 15) = true := by simp [h15]
      clear h15
      go_wp2_with (first | (refine wpList_load_arr rfl 43 _ rfl G rfl (intV xs).toArray _ _ (unhide HN2) und24 rfl (sizeA (unhide H24)) ?_) | fail)
      refine (list_any xs _ (unhide H24)).mono ?_
      rintro e w3 ⟨g3, rfl, ho, hb⟩
      have HO := hide (own24 (own_base ho (unhide HB2).size) (unhide H24))
      have HB3 := hide (fr (unhide HB2) hb)
      clear ho hb
      go_wp2
      go_ret2
      exact ⟨_, ret_ni rfl (unhide HE).1.symm, by rw [(unhide HE).2]; exact unhide HO, unhide HB3⟩
    · have HE := hide ((unhide HUP).2 h15)
      have b15 : (xs[q] == 15) = false := by simp [h15]
      have hwr : IntKind.i64.wrap (xs[q] + 1) = xs[q] + 1 := by have := unhide HAT; rw [IntKind.wrap_i64]; omega
      have HS3 := hide (arr_set (unhide HN2) q (xs[q] + 1))
      have HL3 : Hid ((xs.set q (xs[q] + 1)).length = 24) := hide (by rw [List.length_set]; exact unhide H24)
      have HB3 := hide ((unhide HB2).setCell (p := ⟨G, q, none⟩) (unhide HSZ) (.int .i64 (xs[q] + 1)))
      clear h15
      go_upto_region 7 with fail
      revert HS3 HB3
      generalize w2.setCell _ _ = W3
      intro HS3 HB3
      go_wp2_with (first | (refine wpList_load_arr rfl 43 _ rfl G rfl (intV (xs.set q (xs[q] + 1))).toArray _ _ (unhide HS3) und24 rfl (sizeA (unhide HL3)) ?_) | fail)
      refine (list_any (xs.set q (xs[q] + 1)) _ (unhide HL3)).mono ?_
      rintro e w3 ⟨g3, rfl, ho, hb⟩
      have HO := hide (own24 (own_base ho (unhide HB3).size) (unhide HL3))
      have HB4 := hide (fr (unhide HB3) hb)
      clear ho hb
      go_wp2
      go_ret2
      exact ⟨_, ret_ni rfl (unhide HE).1.symm, by rw [(unhide HE).2]; exact unhide HO, unhide HB4⟩

end Go.Proofs.YtjmianalknnekaaDoor
