import Derived.Test.YtefnapcegeojoabRows
import Derived.Test.YtefnapcegeojoabXJournalPlanPart1
import Derived.Test.YtefnapcegeojoabXJournalPlanPart2
import Derived.Test.YtefnapcegeojoabXJournalPlanPart4
import Derived.WalkKit
import Derived.WalkSpells
import Derived.KernelRfl
import Derived.Lib.SmallJoins
import Derived.Test.YtefnapcegeojoabXJournalPlanPart3
import Derived.Deep.RegionWith
import Derived.Deep.RegionHeld3
import Derived.LoopN
import Derived.Deep.RegionLawGrows
import Derived.Laws.BytesArg
import Derived.Laws.CopyRow
import Derived.Laws.CopyOwn
import Derived.Deep.RegionLaw
import Derived.Deep.AppendLies

/- Contracts of spec's generations, the plain ones: l04Host, DeltaOK, l04Encode, l04Decode. -/
namespace Go.Proofs.Ytefnapcegeojoab
open Go.RowKit
set_option linter.unusedVariables false
set_option maxRecDepth 100000

theorem l04Host_any (h : Int) (w : World) : Calls Try.prog 14 #[.int .i64 h] w fun e w' => e = .returned (.bool (inB h 0 3)) ∧ w' = w := by
  go_enter Try.func14, Try.ntmps14
  go_wp2_with fail
  refine (l01In_num h 0 3 _).mono ?_
  rintro e w1 ⟨rfl, rfl⟩
  go_wp2
  go_ret
  exact ⟨rfl, rfl⟩

theorem d3_nums {h g s : Int} (hd : dltB h g s = true) : ∀ j (hj : j < [h, g, s].length), 0 ≤ [h, g, s][j] ∧ [h, g, s][j] ≤ 2147483647 := by
  obtain ⟨h1, h2, h3⟩ := dltB_iff.1 hd
  intro j hj
  have hj' : j < 3 := hj
  rcases (show j = 0 ∨ j = 1 ∨ j = 2 by omega) with rfl | rfl | rfl <;> simp <;> omega
theorem is3 (w : World) (n : Nat) (t : TypeId) (a b c : Int) (hn : w.heap.size = n) : Is (w.alloc (.cells #[.int .i64 a, .int .i64 b, .int .i64 c] t)) (some ⟨n, 0, none⟩) [a, b, c] := by
  subst hn
  intro i hi
  have hi' : i < 3 := hi
  refine ⟨w.heap.size, 0, rfl, ?_⟩
  rcases (show i = 0 ∨ i = 1 ∨ i = 2 by omega) with rfl | rfl | rfl <;> simp [go_sem]

theorem ret_db {a b c a' b' c' : Int} {x y : Bool} (h1 : a = a') (h2 : b = b') (h3 : c = c') (k : x = y) : Ending.returned (.tuple #[dltV a b c, .bool x]) = .returned (.tuple #[dltV a' b' c', .bool y]) := by rw [h1, h2, h3, k]
end Go.Proofs.Ytefnapcegeojoab

/- Contracts of spec's updates: l07Slot, SlotOf, l07Update, l07Encode, EncodeUpdate. -/
namespace Go.Proofs.Ytefnapcegeojoab
open Go.RowKit
set_option linter.unusedVariables false
set_option maxRecDepth 100000

theorem l07Slot_any (h : Int) (w : World) (hh : inB h 0 3 = true) : Calls Try.prog 27 #[.int .i64 h] w fun e w' => e = .returned (.int .i64 (slN h)) ∧ w' = w := by
  have h1 : 0 ≤ h ∧ h ≤ 3 := by simpa [inB] using hh
  have wr1 : IntKind.i64.wrap (6 * h) = 6 * h := by rw [IntKind.wrap_i64]; omega
  have wr2 : IntKind.i64.wrap (39 + 6 * h) = 39 + 6 * h := by rw [IntKind.wrap_i64]; omega
  clear hh h1
  go_enter Try.func27, Try.ntmps27
  go_wp2
  go_ret
  exact ⟨rfl, rfl⟩

set_option maxHeartbeats 1600000 in
theorem l07Update_any (u : Up) (w : World) (hz : u.data.size ≤ maxLen) : Calls Try.prog 26 #[uV u] w fun e w' => e = .returned (.bool (upB u)) ∧ Below w.heap.size w w' := by
  unfold maxLen at hz
  go_enter Try.func26, Try.ntmps26
  go_wp2_with fail
  refine (l01In_num u.at_ 9 38 _).mono ?_
  rintro e w1 ⟨rfl, rfl⟩
  by_cases h1 : inB u.at_ 9 38 = false
  · have hr : Hid (upB u = false) := hide (by simp [upB, h1])
    go_wp2
    go_ret
    rw [unhide hr]
    exact ⟨rfl, Joins.below_alloc1 _ _⟩
  rw [Bool.not_eq_false] at h1
  have hr : Hid (upB u = decide ((u.data.size : Int) ≤ 72)) := hide (by simp [upB, h1]; omega)
  go_wp2
  go_ret
  rw [unhide hr]
  exact ⟨rfl, Joins.below_alloc1 _ _⟩

set_option maxHeartbeats 1600000 in
theorem l07Encode_any (u : Up) (w : World) (hd : upB u = true) : Calls Try.prog 28 #[uV u] w fun e w' => e = .returned (.string (encU u)) ∧ Below w.heap.size w w' := by
  have HD := hide (u1_nums hd)
  have hs1 : (sealS 8 [u.at_]).size = 8 := sealS_size 8 [u.at_]
  have hs2 : u.data.size ≤ 72 := (upB_iff.1 hd).2
  obtain ⟨c0, c1⟩ := (VarU.new w 40 u).cells
  clear hd
  go_enter Try.func28, Try.ntmps28
  go_wp2_with fail
  go_region_with
    ((go_at_call 39; refine (l02Seal_any 8 _ 1 [u.at_] _ (by decide) (by simp) (unhide HD) (by exact is1 (w.alloc (.cells #[.int .i64 u.at_, .string u.data] 40)) _ 3 u.at_ (by simp))).mono ?_; rintro e w1 ⟨rfl, hb⟩; have HB := hide (fr (belowAl (Joins.below_alloc1 w _) _).drew hb); obtain ⟨d0, d1⟩ := ((VarU.new w 40 u).below (fr (Joins.below_alloc1 _ _).drew hb)).cells; clear hb))
  all_goals
    go_wp2
    go_ret
    exact ⟨rfl, unhide HB⟩

end Go.Proofs.Ytefnapcegeojoab

/- Contracts of spec's plans: l07Head, l07Apply. -/
namespace Go.Proofs.Ytefnapcegeojoab
open Go.RowKit
set_option linter.unusedVariables false
set_option maxRecDepth 100000

theorem infoMw : (Try.prog.info? 50).map (fun i => (i.zero, i.size, i.bytes)) = some (some (.agg #[.int .i64 0, .int .i64 0, .string ⟨#[]⟩]), 3, 32) := by kernel_rfl
abbrev mV (x : Wr) : Value := .agg #[.int .i64 x.host, .int .i64 x.at_, .string x.data]

set_option maxHeartbeats 1600000 in
theorem l07Head_any (h n seq : Int) (w : World) (hh : inB h 0 3 = true) (hn : 0 ≤ n ∧ n ≤ 5) (hs : numB seq = true) :
    Calls Try.prog 29 #[.int .i64 h, .int .i64 n, .int .i64 seq] w fun e w' => e = .returned (mV (mvH (slN h) n seq)) ∧ Below w.heap.size w w' := by
  have HN := hide (hd_nums hn hs)
  have HH := hide hh
  have HA := hide (Joins.below_alloc1 w (.cells #[.int .i64 0, .int .i64 0, .string ⟨#[]⟩] 50))
  have hblk := heap_alloc_new w (.cells #[.int .i64 0, .int .i64 0, .string ⟨#[]⟩] 50)
  have HV : Hid ((w.alloc (.cells #[.int .i64 0, .int .i64 0, .string ⟨#[]⟩] 50)).heap[w.heap.size]? = some (.cells #[.int .i64 0, .int .i64 0, .string ⟨#[]⟩] 50 (0, 0))) := hide hblk
  clear hh hn hs hblk
  go_enter Try.func29, Try.ntmps29
  go_wp2_with fail
  refine (l07Slot_any h _ (unhide HH)).mono ?_
  rintro e w1 ⟨rfl, rfl⟩
  go_wp2_with fail
  refine (l02Seal_any 7 _ 2 [n, seq] _ (by decide) (by simp) (unhide HN) (is2 _ _ _ _ _ (by simp))).mono ?_
  rintro e w1 ⟨rfl, hb⟩
  have hblk : w1.heap[w.heap.size]? = some (.cells #[.int .i64 0, .int .i64 0, .string ⟨#[]⟩] 50 (0, 0)) := by
    rw [hb.block _ (by simp; omega), (Joins.below_alloc1 (w.alloc (.cells #[.int .i64 0, .int .i64 0, .string ⟨#[]⟩] 50)) (.cells #[.int .i64 n, .int .i64 seq] 3)).block _ (by simp)]
    exact unhide HV
  have c0 := Joins.cell_of_block hblk 0
  have c1 := Joins.cell_of_block hblk 1
  have c2 := Joins.cell_of_block hblk 2
  have f0 := Joins.unfrozen_of_block hblk 0
  have f1 := Joins.unfrozen_of_block hblk 1
  have f2 := Joins.unfrozen_of_block hblk 2
  simp at c0 c1 c2
  have HB := hide (fun u v x => below3 (fr (unhide HA) (fr (Joins.below_alloc1 _ _) hb)) (Nat.le_refl _) 0 1 2 u v x)
  clear hb hblk
  go_wp2
  exact bodyPost_ret (v := mV (mvH (slN h) n seq)) (by simp [results, Try.results29, go_sem, c0, c1, c2, mvH, hdT]) rfl ⟨rfl, unhide HB _ _ _⟩

set_option maxHeartbeats 3200000 in
theorem l07Apply_any (h seq : Int) (ao : Option Addr) (cap : Nat) (us : List Up) (w : World) (hh : inB h 0 3 = true) (hs : numB seq = true) (hl : us.length ≤ 5) (hu : Ups w ao us) :
    Calls Try.prog 30 #[.int .i64 h, .int .i64 seq, .slice ao us.length cap] w fun e w' => ∃ qo qa, e = .returned (.slice qo (us.length + 3) qa) ∧ ApS w w' qo (us.length + 3) qa (apL (slN h) seq us) := by
  have HU := hide hu
  have HH := hide hh
  have HS := hide hs
  clear hu hh hs
  obtain ⟨i0, hi, hz0, hz1, hz2⟩ := info_parts infoMw
  have H0 : Hid (ApS w (w.alloc (.cells #[] 50)) (some ⟨w.heap.size, 0, none⟩) 0 0 []) := hide ⟨.inl ⟨rfl, rfl, _, rfl⟩, Joins.below_alloc1 _ _⟩
  go_enter Try.func30, Try.ntmps30
  go_wp2
  go_loopw [7, 8] (fun o i wr => ∃ (k : Nat) (qo : Option Addr) (qa : Nat), k ≤ us.length ∧ i = .int .i64 k ∧ o = .slice qo k qa ∧ Hid (ApS w wr qo k qa ((chL us).take k))) (fun _ i _ => us.length - (intOf i).toNat)
  case atStart => exact ⟨0, _, _, Nat.zero_le _, rfl, rfl, H0⟩
  case round =>
    obtain ⟨k, qo, qa, hk, rfl, rfl, HA⟩ := hrel
    by_cases hlt : k < us.length
    · obtain ⟨b, off, rfl, hc0, hc1, hcz⟩ := (unhide HU).below (unhide HA).k k hlt
      have hbl := World.block_lt_of_cell? _ _ hc0
      clear hcz
      have HAA := hide ((unhide HA).next ((Joins.below_alloc1 wr (.cells #[.int .i64 1, .int .i64 us[k].at_, .string us[k].data] 50)).drew))
      have HSZ := hide (unhide HAA).sz
      go_wp2
      go_region_law
        (refine (step_append_at ?_ (.tmp 16) (.tmp 28) 24 ?_ w.heap.size 50 i0 (.agg #[.int .i64 0, .int .i64 0, .string ⟨#[]⟩]) 3 32 Try.underlying24 hi hz0 hz1 hz2 ?_ ?_ qo k qa (ioV ((chL us).take k)) ?_ ?_ ?_ (wrV (mvW us[k])) ?_ ?_ ?_ ?_ ?_ ?_)
         · rfl
         · rfl
         · rfl
         · omega
         · rfl
         · exact (unhide HAA).o
         · exact unhide HSZ
         · exact ⟨_, _, rfl, news3 wr (mvW us[k]) _⟩
         · rfl
         · exact wrV_one _
         · unfold maxLen; omega
         · omega
         intro g2 cap2 wA hoA hkA
         have HN := hide (ApS.one (unhide HAA) hoA hkA)
         clear hoA hkA)
      all_goals
        go_wp2
        go_roundw
        case rel => exact ⟨k + 1, _, _, by omega, by go_num, rfl, hide (by rw [chL_take hlt]; exact unhide HN)⟩
        case measure => simp [intOf]; omega
    · have hke : k = us.length := by omega
      subst hke
      have HA1 : Hid (ApS w wr qo us.length qa (chL us)) := hide (by have := unhide HA; rwa [chL_done (Nat.le_refl _)] at this)
      clear HA
      have HAA := hide ((unhide HA1).next (Joins.below_alloc1 wr (.cells #[.int .i64 2, .int .i64 0, .string ⟨#[]⟩] 50)))
      have HSZ := hide (unhide HAA).sz
      go_wp2_with (at_builtin; refine wpList_append_one rfl _ _ 24 rfl w.heap.size 50 i0 (.agg #[.int .i64 0, .int .i64 0, .string ⟨#[]⟩]) 3 32 Try.underlying24 hi hz0 hz1 hz2 rfl (by omega) qo us.length qa (ioV (chL us)) rfl (unhide HAA).o (unhide HSZ) ⟨wr.heap.size, 0, none⟩ _ (wrV mvF) rfl rfl (news3 wr mvF _) (wrV_one _) (by unfold maxLen; omega) (by omega) ?_; intro g2 cap2 wA hoA hkA; have HB1 := hide (ApS.one (unhide HAA) hoA hkA); clear hoA hkA)
      refine (l07Head_any h 0 seq _ (unhide HH) (by omega) (unhide HS)).mono ?_
      rintro e w2 ⟨rfl, hb⟩
      have HB2 := hide ((unhide HB1).next hb)
      clear hb
      have HBB := hide ((unhide HB2).next (Joins.below_alloc1 w2 (.cells #[.int .i64 (mvH (slN h) 0 seq).host, .int .i64 (mvH (slN h) 0 seq).at_, .string (mvH (slN h) 0 seq).data] 50)))
      have HSZ2 := hide (unhide HBB).sz
      go_wp2_with (first | (at_builtin; refine wpList_append_one rfl _ _ 24 rfl w.heap.size 50 i0 (.agg #[.int .i64 0, .int .i64 0, .string ⟨#[]⟩]) 3 32 Try.underlying24 hi hz0 hz1 hz2 rfl (by omega) (some ⟨g2, 0, none⟩) (us.length + 1) cap2 (ioV (chL us ++ [mvF])) rfl (unhide HBB).o (unhide HSZ2) ⟨w2.heap.size, 0, none⟩ _ (wrV (mvH (slN h) 0 seq)) rfl rfl (news3 w2 _ _) (wrV_one _) (by unfold maxLen; omega) (by omega) ?_; intro g3 cap3 wB hoA hkA; have HC1 := hide (ApS.one (unhide HBB) hoA hkA); clear hoA hkA) | (at_builtin; have HCC := hide ((unhide HC1).next (Joins.below_alloc1 wB (.cells #[.int .i64 2, .int .i64 0, .string ⟨#[]⟩] 50))); have HSZ3 := hide (unhide HCC).sz; refine wpList_append_one rfl _ _ 24 rfl w.heap.size 50 i0 (.agg #[.int .i64 0, .int .i64 0, .string ⟨#[]⟩]) 3 32 Try.underlying24 hi hz0 hz1 hz2 rfl (by omega) (some ⟨g3, 0, none⟩) (us.length + 1 + 1) cap3 (ioV (chL us ++ [mvF] ++ [mvH (slN h) 0 seq])) rfl (unhide HCC).o (unhide HSZ3) ⟨wB.heap.size, 0, none⟩ _ (wrV mvF) rfl rfl (news3 wB mvF _) (wrV_one _) (by unfold maxLen; omega) (by omega) ?_; intro g4 cap4 wC hoA hkA; have HD1 := hide (ApS.one (unhide HCC) hoA hkA); clear hoA hkA))
      go_ret
      exact ⟨_, _, rfl, unhide HD1⟩

end Go.Proofs.Ytefnapcegeojoab

/- Contracts of spec's plans: l07Plan, l07Updates, JournalPlan. -/
namespace Go.Proofs.Ytefnapcegeojoab
open Go.RowKit
set_option linter.unusedVariables false
set_option maxRecDepth 100000

theorem slN_in {h : Int} (hh : inB h 0 3 = true) : 39 ≤ slN h ∧ slN h ≤ 57 := by
  have : 0 ≤ h ∧ h ≤ 3 := by simpa [inB] using hh
  unfold slN; omega

set_option maxHeartbeats 6400000 in
theorem l07Plan_any (h seq : Int) (ao : Option Addr) (cap : Nat) (us : List Up) (w : World) (hh : inB h 0 3 = true) (hs : numB seq = true) (hl : us.length ≤ 5) (hub : upsB us = true) (hu : Ups w ao us) :
    Calls Try.prog 17 #[.int .i64 h, .int .i64 seq, .slice ao us.length cap] w fun e w' => ∃ qo qa n, e = .returned (.slice qo n qa) ∧ ApS w w' qo n qa (plL (slN h) seq us) := by
  have HU := hide hu
  have HH := hide hh
  have HS := hide hs
  have HUB := hide hub
  obtain ⟨hs0, hs1⟩ := slN_in hh
  clear hu hh hs hub
  obtain ⟨i0, hi, hz0, hz1, hz2⟩ := info_parts infoMw
  have H0 : Hid (ApS w (w.alloc (.cells #[] 50)) (some ⟨w.heap.size, 0, none⟩) 0 0 []) := hide ⟨.inl ⟨rfl, rfl, _, rfl⟩, Joins.below_alloc1 _ _⟩
  by_cases h0 : us.length = 0
  · have hb0 : (((us.length : Nat) : Int) == 0) = true := by simp [h0]
    have HE : Hid (plL (slN h) seq us = []) := hide (if_pos h0)
    clear h0
    go_enter Try.func17, Try.ntmps17
    go_wp2
    go_ret
    exact ⟨_, _, _, rfl, by rw [unhide HE]; exact unhide H0⟩
  have hb0 : (((us.length : Nat) : Int) == 0) = false := by rw [beq_eq_false_iff_ne]; omega
  have HE : Hid (plL (slN h) seq us = bgL (slN h) seq us ++ apL (slN h) seq us) := hide (if_neg h0)
  have wr1 : IntKind.i64.wrap (slN h + 1) = slN h + 1 := by rw [IntKind.wrap_i64]; omega
  go_enter Try.func17, Try.ntmps17
  go_wp2
  go_loopw [7, 8] (fun o i wr => ∃ (k : Nat) (qo : Option Addr) (qa : Nat), k ≤ us.length ∧ i = .int .i64 k ∧ o = .slice qo k qa ∧ Hid (ApS w wr qo k qa ((txL (slN h) us).take k))) (fun _ i _ => us.length - (intOf i).toNat)
  case atStart => exact ⟨0, _, _, Nat.zero_le _, rfl, rfl, H0⟩
  case round =>
    obtain ⟨k, qo, qa, hk, rfl, rfl, HA⟩ := hrel
    by_cases hlt : k < us.length
    · obtain ⟨b, off, rfl, hc0, hc1, hcz⟩ := unhide HU k hlt
      have hbl := World.block_lt_of_cell? _ _ hc0
      have HUP := hide (upsB_at (unhide HUB) hlt)
      have HC := hide (And.intro hc0 hc1)
      have HBL := hide hbl
      have hr0 := ((unhide HA).k.cell (p := ⟨b, off + k * 2, none⟩) hbl).trans hc0
      have hr1 := ((unhide HA).k.cell (p := ⟨b, off + k * 2 + 1, none⟩) hbl).trans hc1
      have wr2 : IntKind.i64.wrap (slN h + 1 + (k : Int)) = slN h + 1 + (k : Int) := by rw [IntKind.wrap_i64]; omega
      have hki : (k : Int) < (us.length : Int) := by omega
      have hk0 : (0 : Int) ≤ (k : Int) := by omega
      clear hcz hc0 hc1 hbl
      go_wp2
      go_region_held3 (fun w' => w'.cell? ⟨b, off + k * 2, none⟩ = some (.int .i64 us[k].at_) ∧ w'.cell? ⟨b, off + k * 2 + 1, none⟩ = some (.string us[k].data)) (go_keep)
        (first
          | (go_at_call 27; refine (l07Slot_any h _ (unhide HH)).mono ?_; rintro e w1 ⟨rfl, hw⟩; replace hw := hw.symm; subst hw)
          | (go_at_call 28; refine (l07Encode_any us[k] _ (unhide HUP)).mono ?_; rintro e w2 ⟨rfl, hb⟩; have HA2 := hide ((unhide HA).next (fr (Below.refl _ _).drew hb)); have HAA := hide ((unhide HA2).next (Joins.below_alloc1 w2 (.cells #[.int .i64 1, .int .i64 (slN h + 1 + (k : Int)), .string (encU us[k])] 50))); have HSZ := hide (unhide HAA).sz; have d0 := ((unhide HA2).k.cell (p := ⟨b, off + k * 2, none⟩) (unhide HBL)).trans (unhide HC).1; have d1 := ((unhide HA2).k.cell (p := ⟨b, off + k * 2 + 1, none⟩) (unhide HBL)).trans (unhide HC).2; have hlw := World.block_lt_of_cell? _ _ d0; clear hb)
          | (refine (step_append_at rfl (.tmp 20) (.tmp 32) 24 rfl w.heap.size 50 i0 (.agg #[.int .i64 0, .int .i64 0, .string ⟨#[]⟩]) 3 32 Try.underlying24 hi hz0 hz1 hz2 ?_ ?_ qo k qa (ioV ((txL (slN h) us).take k)) ?_ ?_ ?_ (wrV (mvT (slN h) k us[k])) ?_ ?_ ?_ ?_ ?_ ?_)
             · rfl
             · omega
             · rfl
             · exact (unhide HAA).o
             · exact unhide HSZ
             · exact ⟨_, _, rfl, news3 w2 (mvT (slN h) k us[k]) _⟩
             · rfl
             · exact wrV_one _
             · unfold maxLen; omega
             · omega
             intro g2 cap2 wA hoA hkA
             have HN := hide (ApS.one (unhide HAA) hoA hkA)
             have e0 := ((unhide HN).k.cell (p := ⟨b, off + k * 2, none⟩) (unhide HBL)).trans (unhide HC).1
             have e1 := ((unhide HN).k.cell (p := ⟨b, off + k * 2 + 1, none⟩) (unhide HBL)).trans (unhide HC).2
             clear hoA hkA))
      all_goals
        go_wp2
        go_roundw
        case rel => exact ⟨k + 1, _, _, by omega, by go_num, rfl, hide (by rw [txL_take hlt]; exact unhide HN)⟩
        case measure => simp [intOf]; omega
    · have hke : k = us.length := by omega
      subst hke
      have HA1 : Hid (ApS w wr qo us.length qa (txL (slN h) us)) := hide (by have := unhide HA; rwa [txL_done (Nat.le_refl _)] at this)
      clear HA
      have HAA := hide ((unhide HA1).next (Joins.below_alloc1 wr (.cells #[.int .i64 2, .int .i64 0, .string ⟨#[]⟩] 50)))
      have HSZ := hide (unhide HAA).sz
      go_wp2_with (at_builtin; refine wpList_append_one rfl _ _ 24 rfl w.heap.size 50 i0 (.agg #[.int .i64 0, .int .i64 0, .string ⟨#[]⟩]) 3 32 Try.underlying24 hi hz0 hz1 hz2 rfl (by omega) qo us.length qa (ioV (txL (slN h) us)) rfl (unhide HAA).o (unhide HSZ) ⟨wr.heap.size, 0, none⟩ _ (wrV mvF) rfl rfl (news3 wr mvF _) (wrV_one _) (by unfold maxLen; omega) (by omega) ?_; intro g2 cap2 wA hoA hkA; have HB1 := hide (ApS.one (unhide HAA) hoA hkA); clear hoA hkA)
      refine (l07Head_any h us.length seq _ (unhide HH) (by omega) (unhide HS)).mono ?_
      rintro e w2 ⟨rfl, hb⟩
      have HB2 := hide ((unhide HB1).next hb)
      clear hb
      have HBB := hide ((unhide HB2).next (Joins.below_alloc1 w2 (.cells #[.int .i64 (mvH (slN h) us.length seq).host, .int .i64 (mvH (slN h) us.length seq).at_, .string (mvH (slN h) us.length seq).data] 50)))
      have HSZ2 := hide (unhide HBB).sz
      go_wp2_with (first
        | (at_builtin; refine wpList_append_one rfl _ _ 24 rfl w.heap.size 50 i0 (.agg #[.int .i64 0, .int .i64 0, .string ⟨#[]⟩]) 3 32 Try.underlying24 hi hz0 hz1 hz2 rfl (by omega) (some ⟨g2, 0, none⟩) (us.length + 1) cap2 (ioV (txL (slN h) us ++ [mvF])) rfl (unhide HBB).o (unhide HSZ2) ⟨w2.heap.size, 0, none⟩ _ (wrV (mvH (slN h) us.length seq)) rfl rfl (news3 w2 _ _) (wrV_one _) (by unfold maxLen; omega) (by omega) ?_; intro g3 cap3 wB hoA hkA; have HC1 := hide (ApS.one (unhide HBB) hoA hkA); clear hoA hkA)
        | (at_builtin; have HCC := hide ((unhide HC1).next (Joins.below_alloc1 wB (.cells #[.int .i64 2, .int .i64 0, .string ⟨#[]⟩] 50))); have HSZ3 := hide (unhide HCC).sz; refine wpList_append_one rfl _ _ 24 rfl w.heap.size 50 i0 (.agg #[.int .i64 0, .int .i64 0, .string ⟨#[]⟩]) 3 32 Try.underlying24 hi hz0 hz1 hz2 rfl (by omega) (some ⟨g3, 0, none⟩) (us.length + 1 + 1) cap3 (ioV (txL (slN h) us ++ [mvF] ++ [mvH (slN h) us.length seq])) rfl (unhide HCC).o (unhide HSZ3) ⟨wB.heap.size, 0, none⟩ _ (wrV mvF) rfl rfl (news3 wB mvF _) (wrV_one _) (by unfold maxLen; omega) (by omega) ?_; intro g4 cap4 wC hoA hkA; have HD1 := hide (ApS.one (unhide HCC) hoA hkA); clear hoA hkA))
      refine (l07Apply_any h seq ao cap us _ (unhide HH) (unhide HS) hl ((unhide HU).below (unhide HD1).k)).mono ?_
      rintro e w5 ⟨qo5, qa5, rfl, ha5⟩
      have HD2 := hide ((unhide HD1).next ha5.k)
      have HI5 : Hid (Ios w5 qo5 (apL (slN h) seq us)) := hide (ownMv (by have := ha5.o; rwa [← apL_length (slN h) seq us] at this) (short_ap (unhide HUB)).sizes)
      have HL5 : Hid ((ioV (apL (slN h) seq us)).length = (us.length + 3) * 3) := hide (by rw [ioV_length, apL_length])
      have HP5 : Hid (0 < (apL (slN h) seq us).length) := hide (by rw [apL_length]; omega)
      have HSZ5 := hide (unhide HD2).sz
      clear ha5
      go_wp2_with (at_builtin; refine wpList_append_many rfl _ _ 24 rfl w.heap.size 50 i0 (.agg #[.int .i64 0, .int .i64 0, .string ⟨#[]⟩]) 3 32 Try.underlying24 hi hz0 hz1 hz2 rfl (by omega) (some ⟨g4, 0, none⟩) (us.length + 1 + 1 + 1) cap4 (ioV (txL (slN h) us ++ [mvF] ++ [mvH (slN h) us.length seq] ++ [mvF])) rfl (unhide HD2).o (unhide HSZ5) qo5 (us.length + 3) qa5 (ioV (apL (slN h) seq us)) rfl (by omega) (unhide HL5) (fun _ => (unhide HI5).src (unhide HP5)) (ioV_one _) (by unfold maxLen; omega) (by omega) ?_; intro g6 cap6 w6 hoA hkA; have HE1 := hide (ApS.app (unhide HD2) rfl (by omega) hoA hkA); clear hoA hkA)
      go_ret
      exact ⟨_, _, _, rfl, by rw [unhide HE]; exact unhide HE1⟩

set_option maxHeartbeats 1600000 in
theorem l07Updates_any (ao : Option Addr) (cap : Nat) (us : List Up) (w : World) (hl : us.length ≤ 4096) (hu : Ups w ao us) :
    Calls Try.prog 16 #[.slice ao us.length cap] w fun e w' => e = .returned (.int .i64 (fuC us)) ∧ Below w.heap.size w w' := by
  have HU := hide hu
  clear hu
  by_cases h5 : 5 < us.length
  · have HF := hide (fuC_many h5)
    go_enter Try.func16, Try.ntmps16
    go_wp2
    go_ret
    exact ⟨ret_int (unhide HF).symm, Below.refl _ _⟩
  go_enter Try.func16, Try.ntmps16
  go_wp2
  go_loopw [3] (fun i wr => ∃ (k : Nat), k ≤ us.length ∧ i = .int .i64 k ∧ Hid (∀ j (h : j < us.length), j < k → upB us[j] = true) ∧ Hid (Below w.heap.size w wr)) (fun i _ => us.length - (intOf i).toNat)
  case atStart => exact ⟨0, Nat.zero_le _, rfl, hide (fun j h hj => by omega), hide (Below.refl _ _)⟩
  case round =>
    obtain ⟨k, hk, rfl, HP, HB⟩ := hrel
    by_cases hlt : k < us.length
    · obtain ⟨b, off, rfl, hc0, hc1, hcz⟩ := (unhide HU).below (unhide HB) k hlt
      have HZ := hide hcz
      clear hcz
      go_wp2_with fail
      refine (l07Update_any us[k] _ (unhide HZ)).mono ?_
      rintro e w2 ⟨rfl, hb⟩
      have HB2 := hide (fr (unhide HB) hb)
      clear hb
      by_cases hp : upB us[k] = true
      · have HPP := hide (all_succ hlt (unhide HP) hp)
        go_wp2
        go_roundw
        case rel => exact ⟨k + 1, by omega, by go_num, HPP, HB2⟩
        case measure => simp [intOf]; omega
      · rw [Bool.not_eq_true] at hp
        have HF := hide (fuC_bad h5 (all_not hlt hp))
        go_wp2
        go_ret
        exact ⟨ret_int (unhide HF).symm, unhide HB2⟩
    · have HF := hide (fuC_ok h5 (all_of (fun i hi _ => unhide HP i hi (by omega))))
      go_wp2
      go_ret
      exact ⟨ret_int (unhide HF).symm, unhide HB⟩

set_option maxHeartbeats 1600000 in
theorem journalPlan_spec (h seq : Int) (ao : Option Addr) (cap : Nat) (us : List Up) (w : World) (hl : us.length ≤ 1048576) (hu : Ups w ao us) :
    Calls Try.prog 5 #[.int .i64 h, .int .i64 seq, .slice ao us.length cap] w fun e w' => ∃ qo qa n, e = .returned (.tuple #[.slice qo n qa, .int .i64 (jpC h seq us)]) ∧ ApS w w' qo n qa (jpL h seq us) := by
  have HU := hide hu
  have H0 : Hid (ApS w (w.alloc (.cells #[] 50)) (some ⟨w.heap.size, 0, none⟩) 0 0 []) := hide ⟨.inl ⟨rfl, rfl, _, rfl⟩, Joins.below_alloc1 _ _⟩
  clear hu
  by_cases h1 : 4096 < us.length
  · have HE : Hid (jpC h seq us = 2) := hide (jpC_long h1)
    have HL := hide (jpL_no (show jpC h seq us ≠ 0 by rw [unhide HE]; decide))
    go_enter Try.func5, Try.ntmps5
    go_wp2
    go_ret2
    exact ⟨_, _, _, ret_ni rfl (unhide HE).symm, by rw [unhide HL]; exact unhide H0⟩
  by_cases h2 : inB h 0 3 = false
  · have HE : Hid (jpC h seq us = 4) := hide (jpC_host h1 h2)
    have HL := hide (jpL_no (show jpC h seq us ≠ 0 by rw [unhide HE]; decide))
    go_enter Try.func5, Try.ntmps5
    go_wp2_with fail
    refine (l04Host_any h _).mono ?_
    rintro e w1 ⟨rfl, hw⟩
    replace hw := hw.symm
    subst hw
    rw [h2]
    go_wp2
    go_ret2
    exact ⟨_, _, _, ret_ni rfl (unhide HE).symm, by rw [unhide HL]; exact unhide H0⟩
  rw [Bool.not_eq_false] at h2
  by_cases h3 : numB seq = false
  · have HE : Hid (jpC h seq us = 4) := hide (jpC_seq h1 h2 h3)
    have HL := hide (jpL_no (show jpC h seq us ≠ 0 by rw [unhide HE]; decide))
    go_enter Try.func5, Try.ntmps5
    go_wp2_with fail
    refine (l04Host_any h _).mono ?_
    rintro e w1 ⟨rfl, hw⟩
    replace hw := hw.symm
    subst hw
    rw [h2]
    go_wp2_with fail
    refine (l02Int_any seq _).mono ?_
    rintro e w1 ⟨rfl, hw⟩
    replace hw := hw.symm
    subst hw
    rw [h3]
    go_wp2
    go_ret2
    exact ⟨_, _, _, ret_ni rfl (unhide HE).symm, by rw [unhide HL]; exact unhide H0⟩
  rw [Bool.not_eq_false] at h3
  have HQ := hide (jpC_list h1 h2 h3)
  have H2 := hide h2
  have H3 := hide h3
  go_enter Try.func5, Try.ntmps5
  go_wp2_with fail
  refine (l04Host_any h _).mono ?_
  rintro e w1 ⟨rfl, hw⟩
  replace hw := hw.symm
  subst hw
  rw [h2]
  go_wp2_with fail
  refine (l02Int_any seq _).mono ?_
  rintro e w1 ⟨rfl, hw⟩
  replace hw := hw.symm
  subst hw
  rw [h3]
  go_wp2_with fail
  refine (l07Updates_any ao cap us _ (by omega) (unhide HU)).mono ?_
  rintro e w1 ⟨rfl, hb⟩
  have HB := hide hb
  clear hb
  by_cases hc : fuC us = 0
  · have hcb : (fuC us != 0) = false := by simp [hc]
    have HC : Hid (jpC h seq us = 0) := hide ((unhide HQ).trans hc)
    obtain ⟨h5, hub⟩ := fuC_zero hc
    have HUB := hide hub
    have HL := hide (jpL_yes (unhide HC))
    clear hc hub
    go_wp2_with fail
    refine (l07Plan_any h seq ao cap us _ (unhide H2) (unhide H3) h5 (unhide HUB) ((unhide HU).below (unhide HB))).mono ?_
    rintro e w2 ⟨qo, qa, n, rfl, ha⟩
    have HA : Hid (ApS w w2 qo n qa (plL (slN h) seq us)) := hide ⟨ha.o.base (unhide HB).size, fr (unhide HB) ha.k⟩
    clear ha
    go_wp2
    go_ret2
    exact ⟨_, _, _, ret_ni rfl (unhide HC).symm, by rw [unhide HL]; exact unhide HA⟩
  · have hcb : (fuC us != 0) = true := by simp [hc]
    have HL := hide (jpL_no (show jpC h seq us ≠ 0 by rw [unhide HQ]; exact hc))
    have H1 : Hid (ApS w (w1.alloc (.cells #[] 50)) (some ⟨w1.heap.size, 0, none⟩) 0 0 []) := hide ⟨.inl ⟨rfl, rfl, _, rfl⟩, belowAl (unhide HB) _⟩
    clear hc
    go_wp2
    go_ret2
    exact ⟨_, _, _, ret_ni rfl (unhide HQ).symm, by rw [unhide HL]; exact unhide H1⟩

end Go.Proofs.Ytefnapcegeojoab

/- Plain words of the clocks, and contracts of their tests: within, hourOK, configInBounds, l01In, l03Bounds. -/
namespace Go.Proofs.Ytefnapcegeojoab
open Go.RowKit
set_option linter.unusedVariables false
set_option maxRecDepth 100000

theorem hidB {p : Prop} (h : p) : Hid p := h
theorem frB {a b c : World} (h : Below a.heap.size a b) (k : Below b.heap.size b c) : Below a.heap.size a c := h.trans (k.mono h.size)
/-- A number within bounds. -/
def betw (n low high : Int) : Bool := decide (low ≤ n) && decide (n ≤ high)
theorem betw_yes {n low high : Int} (h : low ≤ n) (h' : n ≤ high) : betw n low high = true := by simp [betw, h, h']
theorem betw_no {n low high : Int} (h : ¬ (low ≤ n ∧ n ≤ high)) : betw n low high = false := by simp only [betw, Bool.and_eq_false_iff, decide_eq_false_iff_not]; omega
theorem betw_iff {n low high : Int} : betw n low high = true ↔ low ≤ n ∧ n ≤ high := by simp [betw]
/-- A configuration within its bounds. -/
def cfgB (f d l r : Int) : Bool := betw f 1 10000 && betw d 1 100000 && betw l 0 1000 && betw r 0 500
theorem cfgB_iff {f d l r : Int} : cfgB f d l r = true ↔ (1 ≤ f ∧ f ≤ 10000) ∧ (1 ≤ d ∧ d ≤ 100000) ∧ (0 ≤ l ∧ l ≤ 1000) ∧ 0 ≤ r ∧ r ≤ 500 := by
  simp only [cfgB, Bool.and_eq_true, betw_iff, and_assoc]
/-- The bounds of true time. -/
def latQ (r x : Int) : Int := ((x + 1) * 1000 + 999 - r) / (1000 - r)
def earQ (r x : Int) : Int := (x - 1) * 1000 / (1000 + r)
def locQ (o r t : Int) : Int := o + t * (1000 + r) / 1000
abbrev cfgV (f d l r : Int) : Value := .agg #[.int .i64 f, .int .i64 d, .int .i64 l, .int .i64 r]
abbrev clkV (o r : Int) : Value := .agg #[.int .i64 o, .int .i64 r]

/-- A configuration in a variable. -/
abbrev Four (w : World) (b : Nat) (f d l r : Int) : Prop := w.cell? ⟨b, 0, none⟩ = some (.int .i64 f) ∧ w.cell? ⟨b, 1, none⟩ = some (.int .i64 d) ∧ w.cell? ⟨b, 2, none⟩ = some (.int .i64 l) ∧ w.cell? ⟨b, 3, none⟩ = some (.int .i64 r)
theorem Four.below {w w' : World} {b : Nat} {f d l r : Int} (h : Four w b f d l r) (hb : Below w.heap.size w w') : Four w' b f d l r :=
  ⟨(hb.cell (World.block_lt_of_cell? _ _ h.1)).trans h.1, (hb.cell (World.block_lt_of_cell? _ _ h.2.1)).trans h.2.1, (hb.cell (World.block_lt_of_cell? _ _ h.2.2.1)).trans h.2.2.1, (hb.cell (World.block_lt_of_cell? _ _ h.2.2.2)).trans h.2.2.2⟩
set_option maxHeartbeats 800000 in
theorem within_any (n low high : Int) (w : World) : Calls Try.prog 40 #[.int .i64 n, .int .i64 low, .int .i64 high] w fun e w' => e = .returned (.bool (betw n low high)) ∧ w' = w := by
  by_cases h1 : low ≤ n
  · by_cases h2 : n ≤ high
    · have hr := hidB (betw_yes h1 h2)
      go_enter Try.func40, Try.ntmps40
      go_wp2
      go_ret
      rw [show betw n low high = true from hr]
      exact ⟨rfl, rfl⟩
    · have hr := hidB (betw_no (n := n) (low := low) (high := high) (by omega))
      go_enter Try.func40, Try.ntmps40
      go_wp2
      go_ret
      rw [show betw n low high = false from hr]
      exact ⟨rfl, rfl⟩
  · have hr := hidB (betw_no (n := n) (low := low) (high := high) (by omega))
    go_enter Try.func40, Try.ntmps40
    go_wp2
    go_ret
    rw [show betw n low high = false from hr]
    exact ⟨rfl, rfl⟩
set_option maxHeartbeats 800000 in
theorem in_any (n low high : Int) (w : World) : Calls Try.prog 25 #[.int .i64 n, .int .i64 low, .int .i64 high] w fun e w' => e = .returned (.bool (betw n low high)) ∧ w' = w := by
  by_cases h1 : low ≤ n
  · by_cases h2 : n ≤ high
    · have hr := hidB (betw_yes h1 h2)
      go_enter Try.func25, Try.ntmps25
      go_wp2
      go_ret
      rw [show betw n low high = true from hr]
      exact ⟨rfl, rfl⟩
    · have hr := hidB (betw_no (n := n) (low := low) (high := high) (by omega))
      go_enter Try.func25, Try.ntmps25
      go_wp2
      go_ret
      rw [show betw n low high = false from hr]
      exact ⟨rfl, rfl⟩
  · have hr := hidB (betw_no (n := n) (low := low) (high := high) (by omega))
    go_enter Try.func25, Try.ntmps25
    go_wp2
    go_ret
    rw [show betw n low high = false from hr]
    exact ⟨rfl, rfl⟩

theorem cfg_1 {f d l r : Int} (h : betw f 1 10000 = false) : cfgB f d l r = false := by simp [cfgB, h]
theorem cfg_2 {f d l r : Int} (h : betw d 1 100000 = false) : cfgB f d l r = false := by simp [cfgB, h]
theorem cfg_3 {f d l r : Int} (h : betw l 0 1000 = false) : cfgB f d l r = false := by simp [cfgB, h]
theorem cfg_4 {f d l r : Int} (h1 : betw f 1 10000 = true) (h2 : betw d 1 100000 = true) (h3 : betw l 0 1000 = true) : cfgB f d l r = betw r 0 500 := by simp [cfgB, h1, h2, h3]

end Go.Proofs.Ytefnapcegeojoab

/- Contract of impl.packNumbers. -/
namespace Go.Proofs.Ytefnapcegeojoab
open Go.RowKit
set_option linter.unusedVariables false
set_option maxRecDepth 100000

theorem block_alloc {w : World} {g : Nat} {c : Array Value} {t : TypeId} {f : Nat × Nat} (h : w.heap[g]? = some (.cells c t f)) (o : Obj) : (w.alloc o).heap[g]? = some (.cells c t f) := by
  rw [(Joins.below_alloc1 w o).block g (Array.getElem?_eq_some_iff.1 h).1]; exact h

/-- The bytes that stand in the array when k numbers are in it. -/
def arrL (xs : List Int) (k : Nat) : List Value := byteV (packL (xs.take k)) ++ List.replicate (64 - k * 4) (.int .u8 0)
theorem arrL_zero (xs : List Int) : arrL xs 0 = List.replicate 64 (.int .u8 0) := by simp [arrL, packL, byteV]
theorem four_lit {n : Int} (h : 0 ≤ n) (h' : n ≤ 2147483647) : [Value.int .u8 (n % 256), .int .u8 (n / 256 % 256), .int .u8 (n / 65536 % 256), .int .u8 (n / 16777216)] = byteV (four n) := by
  have e : n / 16777216 = n / 16777216 % 256 := by omega
  have : byteV (four n) = [Value.int .u8 (n / (256 : Int) ^ 0 % 256), .int .u8 (n / (256 : Int) ^ 1 % 256), .int .u8 (n / (256 : Int) ^ 2 % 256), .int .u8 (n / (256 : Int) ^ 3 % 256)] := rfl
  rw [this, e]
  simp
theorem arrL_length {xs : List Int} {k : Nat} (hl : xs.length ≤ 16) (hk : k ≤ xs.length) : (arrL xs k).length = 64 := by
  rw [arrL, List.length_append, byteV_length, packL_length, List.length_replicate, List.length_take, Nat.min_eq_left hk]
  omega
theorem arrL_splice {xs : List Int} {k : Nat} (hl : xs.length ≤ 16) (hk : k < xs.length) : splice (arrL xs k) (k * 4) (byteV (four xs[k])) = arrL xs (k + 1) := by
  have h1 : (byteV (packL (xs.take k))).length = k * 4 := by rw [byteV_length, packL_length, List.length_take, Nat.min_eq_left (by omega)]
  have h4 : (byteV (four xs[k])).length = 4 := by rw [byteV_length, four, fourTo_length]
  unfold splice arrL
  rw [h4, List.take_append_of_le_length (by omega), List.take_of_length_le (by omega), List.drop_append, List.drop_of_length_le (by omega), List.nil_append, h1, packL_succ hk, List.drop_replicate]
  rw [show k * 4 + 4 - k * 4 = 4 by omega, show 64 - k * 4 - 4 = 64 - (k + 1) * 4 by omega]
  simp [byteV]
theorem arrL_cells {W : World} {g : Nat} {t : TypeId} {xs : List Int} (h : W.heap[g]? = some (.cells (arrL xs xs.length).toArray t (0, 0))) : ∀ i, i < xs.length * 4 → W.cell? ⟨g, 0 + i, none⟩ = some (.int .u8 ((packL xs).getD i 0)) := by
  intro i hi
  rw [Nat.zero_add, Joins.cell_of_block h]
  have hl : i < (packL xs).length := by rw [packL_length]; exact hi
  simp [arrL, byteV, List.getElem?_append_left, hl, List.getD]
theorem byteV_one (ns : List Int) : ∀ v ∈ byteV ns, v.oneCell' = true := by
  intro v hv
  simp only [byteV, List.mem_map] at hv
  obtain ⟨s, _, rfl⟩ := hv
  rfl
theorem lit_one (a b c d : Int) : ∀ v ∈ [Value.int .u8 a, .int .u8 b, .int .u8 c, .int .u8 d], v.oneCell' = true := by
  intro v hv
  simp at hv
  rcases hv with rfl | rfl | rfl | rfl <;> rfl
theorem sizeB : (Try.prog.info? 5).map (·.size) = some 1 := by kernel_rfl
theorem runB (W : World) : (Go.sizeOf 5).run Try.prog W = .ok 1 W := by
  have h := sizeB
  cases hq : Try.prog.info? 5 with
  | none => simp [hq] at h
  | some i =>
    have hi : i.size = 1 := by simpa [hq] using h
    simp [Go.sizeOf, typeInfo, hq, hi]
theorem arr64 : Try.prog.arrayLen 78 = 64 := by kernel_rfl
theorem und64 : Try.prog.underlying 78 = some (.array (Try.prog.arrayLen 78) (Try.prog.elem 78)) := by kernel_rfl
theorem elem64 : Try.prog.elem 78 = 5 := by kernel_rfl
theorem wrap4 (k : Nat) (hk : k ≤ 16) : IntKind.i64.wrap ((k : Int) * 4) = ((k * 4 : Nat) : Int) := by
  rw [IntKind.wrap_i64]
  omega
theorem slice64 (W : World) (g k : Nat) (hk : k < 16) : (Instr.sliceAt 78 (.pointer (some ⟨g, 0, none⟩)) (some (.int .i64 (IntKind.i64.wrap ((k : Int) * 4)))) none none).run Try.prog W = .ok (.slice (some ⟨g, k * 4, none⟩) (64 - k * 4) (64 - k * 4)) W := by
  rw [wrap4 k (by omega), run_sliceAt_array_l W _ _ und64 .i64 _ (by omega) (by rw [arr64]; omega), elem64, runB, arr64]
  simp only [Result.andThen, slicedAt, Int.toNat_natCast, Nat.mul_one]
  rw [if_neg (by omega), show Addr.add ⟨g, 0, none⟩ (k * 4) = ⟨g, k * 4, none⟩ from by unfold Addr.add; split <;> simp_all]
theorem slice64h (W : World) (g k : Nat) (hk : k ≤ 16) : (Instr.sliceAt 78 (.pointer (some ⟨g, 0, none⟩)) none (some (.int .i64 ((k : Int) * 4))) none).run Try.prog W = .ok (.slice (some ⟨g, 0, none⟩) (k * 4) 64) W := by
  rw [run_sliceAt_array_h W _ _ und64 .i64 _ (by omega) (by rw [arr64]; omega), elem64, runB, arr64]
  simp only [Result.andThen, slicedAt, Nat.mul_one, Nat.sub_zero]
  rw [if_neg (by omega), show ((k : Int) * 4).toNat = k * 4 by omega]
  rfl

set_option maxHeartbeats 1600000 in
theorem packNumbers_any (ao : Option Addr) (cap : Nat) (xs : List Int) (w : World) (hl : xs.length ≤ 16) (hn : ∀ j (h : j < xs.length), 0 ≤ xs[j] ∧ xs[j] ≤ 2147483647) (hc : Is w ao xs) :
    Calls Try.prog 52 #[.slice ao xs.length cap] w fun e w' => e = .returned (.string (packS xs)) ∧ Below w.heap.size w w' := by
  have HC := hide hc
  have HN := hide hn
  clear hc hn
  go_enter Try.func52, Try.ntmps52
  go_wp2
  go_loopw [9] (fun i wr => ∃ k : Nat, k ≤ xs.length ∧ i = .int .i64 k ∧ Hid (wr.heap[w.heap.size]? = some (.cells (arrL xs k).toArray 78 (0, 0))) ∧ Hid (Below w.heap.size w wr)) (fun i _ => xs.length - (intOf i).toNat)
  case atStart => exact ⟨0, Nat.zero_le _, rfl, hide (by rw [arrL_zero]; exact heap_alloc_new w _), hide (Joins.below_alloc1 _ _)⟩
  case round =>
    obtain ⟨k, hk, rfl, HO, HB⟩ := hrel
    by_cases hlt : k < xs.length
    · obtain ⟨b, off, rfl, hc⟩ := (unhide HC).below (unhide HB) k hlt
      obtain ⟨h0, h1⟩ := unhide HN k hlt
      have HBA := hide (fr (unhide HB) (Joins.below_alloc1 _ (.cells #[.int .u8 (xs[k] % 256), .int .u8 (xs[k] / 256 % 256), .int .u8 (xs[k] / 65536 % 256), .int .u8 (xs[k] / 16777216)] 75)))
      have HOA := hide (block_alloc (unhide HO) (.cells #[.int .u8 (xs[k] % 256), .int .u8 (xs[k] / 256 % 256), .int .u8 (xs[k] / 65536 % 256), .int .u8 (xs[k] / 16777216)] 75))
      have HL := hide (arrL_length hl hk)
      have HNW := hide (World.news_of_block (cs := #[.int .u8 (xs[k] % 256), .int .u8 (xs[k] / 256 % 256), .int .u8 (xs[k] / 65536 % 256), .int .u8 (xs[k] / 16777216)]) (heap_alloc_new wr (.cells #[.int .u8 (xs[k] % 256), .int .u8 (xs[k] / 256 % 256), .int .u8 (xs[k] / 65536 % 256), .int .u8 (xs[k] / 16777216)] 75)))
      have HE := hide (four_lit h0 h1)
      have HSP := hide (arrL_splice hl hlt)
      have hsl := fun W => slice64 W w.heap.size k (by omega)
      go_wp2
      go_region_law (refine step_copy_splice ?_ (.tmp 28) (.tmp 29) 60 60 ?_ 5 Try.underlying60 sizeB (some ⟨w.heap.size, k * 4, none⟩) (some ⟨wr.heap.size, 0, none⟩) (64 - k * 4) (64 - k * 4) 4 4 ?_ ?_ w.heap.size (k * 4) (arrL xs k) 78 ?_ [.int .u8 (xs[k] % 256), .int .u8 (xs[k] / 256 % 256), .int .u8 (xs[k] / 65536 % 256), .int .u8 (xs[k] / 16777216)] ?_ ?_ ?_ (lit_one _ _ _ _) w.heap.size w ?_ (Nat.le_refl _) ?_
                     · rfl
                     · rfl
                     · rfl
                     · rfl
                     · exact unhide HOA
                     · simp only [List.length_cons, List.length_nil]; exact (Nat.min_eq_left (by omega)).symm
                     · exact fun _ => ⟨rfl, _, rfl, unhide HNW⟩
                     · rw [unhide HL]; simp only [List.length_cons, List.length_nil]; omega
                     · exact (unhide HBA).drew
                     intro w4 hg4 hb4)
      all_goals
        have HSF : Hid (w4.heap[w.heap.size]? = some (.cells (arrL xs (k + 1)).toArray 78 (0, 0))) := by rw [← unhide HSP, ← unhide HE]; exact hg4
        have HBF := hide hb4
        clear hg4 hb4 hsl
        go_wp2
        go_roundw
        case rel => exact ⟨k + 1, by omega, by go_num, HSF, HBF⟩
        case measure => simp [intOf]; omega
    · have hkn : k = xs.length := by omega
      subst hkn
      have hsl := slice64h wr w.heap.size xs.length hl
      have hcv := run_convert_bytes_arg (P := Try.prog) wr 60 5 Try.underlying60 Try.underlying5 w.heap.size 0 (xs.length * 4) 64 (packL xs) (packL_length xs) (arrL_cells (unhide HO)) 9 Try.underlying9
      go_wp2
      go_ret
      exact ⟨rfl, unhide HB⟩

end Go.Proofs.Ytefnapcegeojoab

/- Contract of impl.areNumbers. -/
namespace Go.Proofs.Ytefnapcegeojoab
open Go.RowKit
set_option linter.unusedVariables false
set_option maxRecDepth 100000

theorem nums_no {xs : List Int} {k : Nat} (hk : k < xs.length) (h : numB xs[k] = false) : xs.all numB = false := all_not (p := numB) hk h
theorem nums_all {xs : List Int} (h : ∀ j (hj : j < xs.length), numB xs[j] = true) : xs.all numB = true := all_of (p := numB) (fun i hi _ => h i hi)

set_option maxHeartbeats 800000 in
theorem areNumbers_any (ao : Option Addr) (cap : Nat) (xs : List Int) (w : World) (hl : xs.length ≤ maxLen) (hc : Is w ao xs) :
    Calls Try.prog 54 #[.slice ao xs.length cap] w fun e w' => e = .returned (.bool (xs.all numB)) ∧ w' = w := by
  have HC := hide hc
  clear hc
  unfold maxLen at hl
  obtain ⟨R, HR⟩ : ∃ R, Hid (R = xs.all numB) := ⟨_, hide rfl⟩
  rw [← unhide HR]
  go_enter Try.func54, Try.ntmps54
  go_wp2
  go_loop [7] (fun i => ∃ k : Nat, k ≤ xs.length ∧ i = .int .i64 k ∧ Hid (∀ j (h : j < xs.length), j < k → numB xs[j] = true)) (fun i => xs.length - (intOf i).toNat)
  case atStart => exact ⟨0, Nat.zero_le _, rfl, hide (fun j _ h => by omega)⟩
  case round =>
    obtain ⟨k, hk, rfl, HA⟩ := hrel
    by_cases hlt : k < xs.length
    · obtain ⟨b, off, rfl, hc⟩ := unhide HC k hlt
      cases hn : numB xs[k]
      · have HF := hide (nums_no hlt hn)
        go_wp2_with (go_at_call 32; refine (isNumber_any _ _).mono ?_; rintro e w' ⟨rfl, hw⟩; replace hw := hw.symm; subst hw; rw [hn])
        go_ret
        exact ⟨ret_bool (by rw [unhide HR, unhide HF]), rfl⟩
      · have HN := hide (all_succ hlt (unhide HA) hn)
        go_wp2_with (go_at_call 32; refine (isNumber_any _ _).mono ?_; rintro e w' ⟨rfl, hw⟩; replace hw := hw.symm; subst hw; rw [hn])
        go_round
        case rel => exact ⟨k + 1, by omega, by go_num, HN⟩
        case measure => simp [intOf]; omega
    · have HF := hide (nums_all (fun j h => unhide HA j h (by omega)))
      go_wp2
      go_ret
      exact ⟨ret_bool (by rw [unhide HR, unhide HF]), rfl⟩

end Go.Proofs.Ytefnapcegeojoab

/- Contract of impl.listFault (of the code since 38f1bd19e5ed: it calls areNumbers). -/
namespace Go.Proofs.Ytefnapcegeojoab
open Go.RowKit
set_option linter.unusedVariables false
set_option maxRecDepth 100000

theorem intsB_all_no {xs : List Int} (h : xs.all numB = false) : intsB xs = false := by rw [intsB, allB, h]; rfl
theorem intsB_all {xs : List Int} (hl : xs.length ≤ 16) (h : xs.all numB = true) : intsB xs = true := by rw [intsB, allB, h, decide_eq_true hl]; rfl

set_option maxHeartbeats 800000 in
theorem listFault_any (ao : Option Addr) (cap : Nat) (xs : List Int) (w : World) (hl : xs.length ≤ 1048576) (hc : Is w ao xs) :
    Calls Try.prog 50 #[.slice ao xs.length cap] w fun e w' => e = .returned (.int .i64 (listC xs)) ∧ w' = w := by
  have HC := hide hc
  clear hc
  by_cases h1 : 4096 < xs.length
  · have HF := hide (listC_long h1)
    go_enter Try.func50, Try.ntmps50
    go_wp2
    go_ret
    exact ⟨ret_int (unhide HF).symm, rfl⟩
  by_cases h2 : 16 < xs.length
  · have HF := hide (listC_bad h1 (intsB_long h2))
    go_enter Try.func50, Try.ntmps50
    go_wp2
    go_ret
    exact ⟨ret_int (unhide HF).symm, rfl⟩
  cases hn : xs.all numB
  · have HF := hide (listC_bad h1 (intsB_all_no hn))
    go_enter Try.func50, Try.ntmps50
    go_wp2_with (go_at_call 54; refine (areNumbers_any _ _ _ _ (by unfold maxLen; omega) (unhide HC)).mono ?_; rintro e w' ⟨rfl, hw⟩; replace hw := hw.symm; subst hw; rw [hn])
    go_ret
    exact ⟨ret_int (unhide HF).symm, rfl⟩
  · have HF := hide (listC_ok (xs := xs) h1 (intsB_all (by omega) hn))
    go_enter Try.func50, Try.ntmps50
    go_wp2_with (go_at_call 54; refine (areNumbers_any _ _ _ _ (by unfold maxLen; omega) (unhide HC)).mono ?_; rintro e w' ⟨rfl, hw⟩; replace hw := hw.symm; subst hw; rw [hn])
    go_ret
    exact ⟨ret_int (unhide HF).symm, rfl⟩

end Go.Proofs.Ytefnapcegeojoab

/- What PackInts answers, plain. -/
namespace Go.Proofs.Ytefnapcegeojoab
set_option linter.unusedVariables false

/-- The answer's text. -/
def packT (xs : List Int) : ByteArray := if listC xs = 0 then packS xs else ⟨#[]⟩
theorem packT_ok {xs : List Int} (h : listC xs = 0) : packT xs = packS xs := if_pos h
theorem packT_no {xs : List Int} (h : listC xs ≠ 0) : packT xs = ⟨#[]⟩ := if_neg h
theorem ret_si {a b : ByteArray} {c d : Int} (h : a = b) (k : c = d) : Ending.returned (.tuple #[.string a, .int .i64 c]) = .returned (.tuple #[.string b, .int .i64 d]) := by rw [h, k]

end Go.Proofs.Ytefnapcegeojoab

/- Contract of impl.kindOK. -/
namespace Go.Proofs.Ytefnapcegeojoab
open Go.RowKit
set_option linter.unusedVariables false
set_option maxRecDepth 100000

theorem kindOK_any (n : Int) (w : World) : Calls Try.prog 51 #[.int .i64 n] w fun e w' => e = .returned (.bool (kindB n)) ∧ w' = w := by
  go_enter Try.func51, Try.ntmps51
  go_wp2
  all_goals
    go_ret
    exact ⟨ret_bool (by rw [Bool.eq_iff_iff]; simp [kindB, inB]; omega), rfl⟩

end Go.Proofs.Ytefnapcegeojoab

/- Contracts of SealRecord, of the program and of its model. -/
namespace Go.Proofs.Ytefnapcegeojoab
open Go.RowKit
set_option linter.unusedVariables false
set_option maxRecDepth 100000

/-- 'string(head[:2])', 'string(head[:])', head an array of four bytes. -/
theorem arr2 (W : World) (g : Nat) (a b c d : Int) (h : W.heap.size = g) : (convert 60 9 (.slice (some ⟨g, 0, none⟩) 2 4)).run Try.prog (W.alloc (.cells #[.int .u8 a, .int .u8 b, .int .u8 c, .int .u8 d] 75)) = .ok (.string (strOfNums [a, b])) (W.alloc (.cells #[.int .u8 a, .int .u8 b, .int .u8 c, .int .u8 d] 75)) := by
  subst h
  refine run_convert_bytes_arg _ 60 5 Try.underlying60 Try.underlying5 W.heap.size 0 2 4 [a, b] rfl ?_ 9 Try.underlying9
  intro i hi
  rcases (show i = 0 ∨ i = 1 by omega) with rfl | rfl <;> simp [go_sem, List.getD]
theorem arr4 (W : World) (g : Nat) (a b c d : Int) (h : W.heap.size = g) : (convert 60 9 (.slice (some ⟨g, 0, none⟩) 4 4)).run Try.prog (W.alloc (.cells #[.int .u8 a, .int .u8 b, .int .u8 c, .int .u8 d] 75)) = .ok (.string (strOfNums [a, b, c, d])) (W.alloc (.cells #[.int .u8 a, .int .u8 b, .int .u8 c, .int .u8 d] 75)) := by
  subst h
  refine run_convert_bytes_arg _ 60 5 Try.underlying60 Try.underlying5 W.heap.size 0 4 4 [a, b, c, d] rfl ?_ 9 Try.underlying9
  intro i hi
  rcases (show i = 0 ∨ i = 1 ∨ i = 2 ∨ i = 3 by omega) with rfl | rfl | rfl | rfl <;> simp [go_sem, List.getD]
theorem sum_impl (k : Int) (xs : List Int) (w : World) (hl : xs.length ≤ 16) : Calls Try.prog 53 #[.string (strOfNums [k, (xs.length : Int)] ++ packS xs)] w fun e w' => e = .returned (.int .i64 (sumR k xs)) ∧ w' = w := by
  have h := sumOf_impl (sumT k xs) w (by rw [sumT_size]; omega)
  rw [sumC_short (by rw [sumT_size]; omega)] at h
  exact h

set_option maxHeartbeats 1600000 in
theorem sealRecord_impl (k : Int) (ao : Option Addr) (cap : Nat) (xs : List Int) (w : World) (hl : xs.length ≤ 1048576) (hc : Is w ao xs) :
    Calls Try.prog 45 #[.int .i64 k, .slice ao xs.length cap] w fun e w' => e = .returned (.tuple #[.string (sealT k xs), .int .i64 (sealC k xs)]) ∧ Below w.heap.size w w' := by
  have HC := hide hc
  clear hc
  by_cases h2 : listC xs = 0
  · have HL := hide h2
    have hb : (listC xs != 0) = false := by simp [h2]
    have HP := hide (intsB_parts (listC_zero h2))
    clear h2
    by_cases h3 : kindB k = true
    · have HF := hide (sealC_ok (unhide HL) h3)
      obtain ⟨hk0, hk1⟩ := kindB_in h3
      have hl16 := (unhide HP).2
      have hp := packS_size xs
      have hs2 : (strOfNums [k, (xs.length : Int)]).size = 2 := strOfNums_size _
      have hs4 : (strOfNums [k, (xs.length : Int), sumR k xs, 0]).size = 4 := strOfNums_size _
      obtain ⟨hr0, hr1⟩ := sumR_in k xs
      go_enter Try.func45, Try.ntmps45
      go_wp2_with (first | (go_at_call 50; refine (listFault_any _ _ xs _ hl (unhide HC)).mono ?_; rintro e w' ⟨rfl, rfl⟩) | (go_at_call 51; refine (kindOK_any _ _).mono ?_; rintro e w' ⟨rfl, rfl⟩) | (go_at_call 52; refine (packNumbers_any _ _ xs _ (unhide HP).2 (unhide HP).1 (unhide HC)).mono ?_; rintro e w1 ⟨rfl, hb1⟩; have HB1 := hide hb1; clear hb1; have hc2 := arr2 w1 w1.heap.size k xs.length 0 0 rfl) | (go_at_call 53; refine (sum_impl k xs _ hl16).mono ?_; rintro e w' ⟨rfl, rfl⟩; have hc4 := arr4 w1 w1.heap.size k xs.length (sumR k xs) 0 rfl))
      go_ret2
      exact ⟨ret_si (sealT_ok (unhide HF)).symm (unhide HF).symm, fr (unhide HB1) (Joins.below_alloc1 _ _)⟩
    · have h4 : kindB k = false := by simpa using h3
      have HF := hide (sealC_kind (unhide HL) h4)
      clear h3
      go_enter Try.func45, Try.ntmps45
      go_wp2_with (first | (go_at_call 50; refine (listFault_any _ _ xs _ hl (unhide HC)).mono ?_; rintro e w' ⟨rfl, rfl⟩) | (go_at_call 51; refine (kindOK_any _ _).mono ?_; rintro e w' ⟨rfl, rfl⟩))
      go_ret2
      exact ⟨ret_si (sealT_no (by rw [unhide HF]; decide)).symm (unhide HF).symm, Below.refl _ _⟩
  · have HF := hide (sealC_list (k := k) h2)
    have HNE := hide h2
    have hb : (listC xs != 0) = true := by simp [h2]
    clear h2
    go_enter Try.func45, Try.ntmps45
    go_wp2_with (go_at_call 50; refine (listFault_any _ _ xs _ hl (unhide HC)).mono ?_; rintro e w' ⟨rfl, rfl⟩)
    go_ret2
    exact ⟨ret_si (sealT_no (by rw [unhide HF]; exact unhide HNE)).symm (unhide HF).symm, Below.refl _ _⟩

end Go.Proofs.Ytefnapcegeojoab

/- Contracts of the program's updates: SlotOf, updateOK, text, EncodeUpdate. -/
namespace Go.Proofs.Ytefnapcegeojoab
open Go.RowKit
set_option linter.unusedVariables false
set_option maxRecDepth 100000

theorem within_inJ (n low high : Int) (w : World) : Calls Try.prog 40 #[.int .i64 n, .int .i64 low, .int .i64 high] w fun e w' => e = .returned (.bool (inB n low high)) ∧ w' = w := within_any n low high w

theorem slotOf_impl (h : Int) (w : World) : Calls Try.prog 19 #[.int .i64 h] w fun e w' => e = .returned (.tuple #[.int .i64 (slR h), .int .i64 (slC h)]) ∧ w' = w := by
  go_enter Try.func19, Try.ntmps19
  go_wp2_with fail
  refine (hostOK_any h _).mono ?_
  rintro e w1 ⟨rfl, rfl⟩
  by_cases hh : inB h 0 3 = true
  · have HE : Hid (slR h = slN h ∧ slC h = 0) := hide ⟨if_pos hh, if_pos hh⟩
    have h1 : 0 ≤ h ∧ h ≤ 3 := by simpa [inB] using hh
    have wr1 : IntKind.i64.wrap (6 * h) = 6 * h := by rw [IntKind.wrap_i64]; omega
    have wr2 : IntKind.i64.wrap (39 + 6 * h) = 39 + 6 * h := by rw [IntKind.wrap_i64]; omega
    clear h1
    go_wp2
    go_ret2
    exact ⟨ret_two2 (unhide HE).1.symm (unhide HE).2.symm, rfl⟩
  · have HE : Hid (slR h = 0 ∧ slC h = 4) := hide ⟨if_neg hh, if_neg hh⟩
    rw [Bool.not_eq_true] at hh
    go_wp2
    go_ret2
    exact ⟨ret_two2 (unhide HE).1.symm (unhide HE).2.symm, rfl⟩

set_option maxHeartbeats 1600000 in
theorem updateOK_any (u : Up) (w : World) (hz : u.data.size ≤ maxLen) : Calls Try.prog 33 #[uV u] w fun e w' => e = .returned (.bool (upB u)) ∧ Below w.heap.size w w' := by
  unfold maxLen at hz
  go_enter Try.func33, Try.ntmps33
  go_wp2_with fail
  refine (within_inJ u.at_ 9 38 _).mono ?_
  rintro e w1 ⟨rfl, rfl⟩
  by_cases h1 : inB u.at_ 9 38 = false
  · have hr : Hid (upB u = false) := hide (by simp [upB, h1])
    go_wp2
    go_ret
    rw [unhide hr]
    exact ⟨rfl, Joins.below_alloc1 _ _⟩
  rw [Bool.not_eq_false] at h1
  have hr : Hid (upB u = decide ((u.data.size : Int) ≤ 72)) := hide (by simp [upB, h1]; omega)
  go_wp2
  go_ret
  rw [unhide hr]
  exact ⟨rfl, Joins.below_alloc1 _ _⟩

end Go.Proofs.Ytefnapcegeojoab
