/- The walk of laws.FnExactReadSector. -/
import Derived.Test.YtoiclgeeaednnacRows
import Derived.Test.YtoiclgeeaednnacGen
import Derived.Test.YtoiclgeeaednnacBase
import Derived.Test.YtoiclgeeaednnacEq
import Derived.Test.YtoiclgeeaednnacDiskOK
import Derived.Test.YtoiclgeeaednnacAsk
import Derived.Test.YtoiclgeeaednnacPlace
import Derived.Test.YtoiclgeeaednnacRead2
import Derived.WalkKit
import Derived.WalkSpells
import Derived.Deep.RegionWith
namespace Go.Proofs.Ytoiclgeeaednnac
open Go.RowKit
set_option linter.unusedVariables false
set_option maxRecDepth 100000

set_option maxHeartbeats 1600000 in
theorem lawReadSector (ao bo : Option Addr) (ca cb : Nat) (ss : List ByteArray) (xs : List Wr) (h a : Int) (w : World) (hl : ss.length ≤ maxLen) (hm : xs.length ≤ maxLen) (hc : Ss w ao ss) (hd : Ios w bo xs) (_ : (Lit.int .i64 h).wf = true) (_ : (Lit.int .i64 a).wf = true) :
    Calls Try.prog 3 #[.agg #[.slice ao ss.length ca, .slice bo xs.length cb], .int .i64 h, .int .i64 a] w fun e w' => e = .returned (.bool true) ∧ Below w.heap.size w w' := by
  have HA := hide (Joins.below_alloc1 w (.cells #[.slice ao ss.length ca, .slice bo xs.length cb] 25))
  have HC := hide (hc.below (unhide HA))
  have HD := hide (hd.below (unhide HA))
  have HL := hide hl
  have HM := hide hm
  clear hc hd hl hm
  go_enter Try.func3, Try.ntmps3
  go_wp2_with fail
  refine (szDisk_any ao bo ca cb ss xs 1048576 _ (unhide HL) (unhide HM) (unhide HC) (unhide HD) (by omega) (by omega)).mono ?_
  rintro e w1 ⟨r, rfl, hr0, hr1, hr2, hb1⟩
  have hcell : ∀ w', Below (w.alloc (.cells #[.slice ao ss.length ca, .slice bo xs.length cb] 25)).heap.size (w.alloc (.cells #[.slice ao ss.length ca, .slice bo xs.length cb] 25)) w' → w'.cell? ⟨w.heap.size, 0, none⟩ = some (.slice ao ss.length ca) ∧ w'.cell? ⟨w.heap.size, 1, none⟩ = some (.slice bo xs.length cb) :=
    fun w' h => ⟨(h.cell (by simp)).trans (by simp [go_sem]), (h.cell (by simp)).trans (by simp [go_sem])⟩
  have HCELL := hide hcell
  clear hcell
  have HB1 := hide hb1
  clear hb1
  by_cases hr : r < 0
  · go_wp2
    go_ret
    exact ⟨rfl, fr (unhide HA) (unhide HB1)⟩
  have hq := hr2 (by omega)
  have hls : ss.length ≤ 1048576 := by omega
  have hlx : xs.length ≤ 1048576 := by omega
  clear hr2 hq
  obtain ⟨hc0, hc1⟩ := unhide HCELL _ (unhide HB1)
  have HZS := hide (unhide HC).sizes
  have HZX := hide (unhide HD).sizes
  -- the first copy, and the model's answer
  go_wp2_with fail
  refine (toDisk_any ao bo ca cb ss xs _ hls hlx ((unhide HC).below (unhide HB1)) ((unhide HD).below (unhide HB1))).mono ?_
  rintro e w2 ⟨g, k, rfl, ho, hp, hb2⟩
  have HS2 := hide (ownS ho (unhide HZS))
  have HX2 := hide (ownI hp (unhide HZX))
  have HB2 := hide (fr (unhide HB1) hb2)
  clear ho hp hb2 hc0 hc1
  go_wp2_with fail
  refine (readSector_spec _ _ _ _ ss xs h a _ (unhide HL) (unhide HM) (unhide HS2) (unhide HX2)).mono ?_
  rintro e w3 ⟨rfl, hb3⟩
  have HB3 := hide (fr (unhide HB2) hb3)
  clear hb3
  obtain ⟨hc0, hc1⟩ := unhide HCELL _ (unhide HB3)
  -- the second copy, which the program gets
  go_wp2_with fail
  refine (toDisk_any ao bo ca cb ss xs _ hls hlx ((unhide HC).below (unhide HB3)) ((unhide HD).below (unhide HB3))).mono ?_
  rintro e w4 ⟨g', k', rfl, ho, hp, hb4⟩
  have HA4 := hide (Joins.below_alloc1 w4 (.cells #[.slice (some ⟨g', 0, none⟩) ss.length ss.length, .slice (some ⟨k', 0, none⟩) xs.length xs.length] 31))
  have HS4 := hide ((ownS ho (unhide HZS)).below (unhide HA4))
  have HX4 := hide ((ownI hp (unhide HZX)).below (unhide HA4))
  have HB4 := hide (fr (unhide HB3) hb4)
  have HB4' := hide (fr (unhide HB4) (unhide HA4))
  clear ho hp hb4 hc0 hc1
  go_wp2_with fail
  refine (readSector_impl _ _ _ _ ss xs h a _ (unhide HL) (unhide HM) (unhide HS4) (unhide HX4)).mono ?_
  rintro e w5 ⟨rfl, hb5⟩
  have hx0 : w5.cell? ⟨w4.heap.size, 0, none⟩ = some (.slice (some ⟨g', 0, none⟩) ss.length ss.length) := (hb5.cell (by simp)).trans (by simp [go_sem])
  have hx1 : w5.cell? ⟨w4.heap.size, 1, none⟩ = some (.slice (some ⟨k', 0, none⟩) xs.length xs.length) := (hb5.cell (by simp)).trans (by simp [go_sem])
  have HS5 := hide ((unhide HS4).below hb5)
  have HX5 := hide ((unhide HX4).below hb5)
  have HB5 := hide (fr (unhide HB4') hb5)
  clear hb5
  obtain ⟨hc0, hc1⟩ := unhide HCELL _ (unhide HB5)
  have he := eqB_self ss xs
  go_wp2
  have HCT := hide ((unhide HC).below (unhide HB5).drew)
  have HDT := hide ((unhide HD).below (unhide HB5).drew)
  have HST := hide ((unhide HS5).below (Below.refl _ _).drew)
  have HXT := hide ((unhide HX5).below (Below.refl _ _).drew)
  have HBT := hide (unhide HB5).drew
  have hlt4 : w4.heap.size < w5.heap.size := World.block_lt_of_cell? _ _ hx0
  go_region_with (first | (go_at_call 11; (refine (toDisk_any ao bo ca cb ss xs _ hls hlx (unhide HCT) (unhide HDT)).mono ?_; rintro e w6 ⟨g6, k6, rfl, ho6, hp6, hb6⟩; have hy0 := (hb6.cell (p := ⟨w4.heap.size, 0, none⟩) hlt4).trans hx0; have hy1 := (hb6.cell (p := ⟨w4.heap.size, 1, none⟩) hlt4).trans hx1)) | (go_at_call 13; (refine (eqDisk_any _ _ _ _ _ _ _ _ ss ss xs xs _ (unhide HL) (unhide HM) (by exact (unhide HST).below hb6) (by exact (unhide HXT).below hb6) (by exact ownS ho6 (unhide HZS)) (by exact ownI hp6 (unhide HZX))).mono ?_; rintro e w7 ⟨rfl, hb7⟩)))
  all_goals
    have HB7 := hide (fr (unhide HA) (fr (unhide HBT) (fr hb6 hb7)))
    clear hb6 hb7 ho6 hp6
    go_wp2
    go_ret
    exact ⟨rfl, unhide HB7⟩

end Go.Proofs.Ytoiclgeeaednnac
