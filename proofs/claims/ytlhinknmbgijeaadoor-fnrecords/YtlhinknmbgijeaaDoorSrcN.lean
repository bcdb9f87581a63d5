/- Contracts of the model's drawn numbers: number, numbers, NumbersOf. -/
import Derived.Test.YtlhinknmbgijeaaDoorRows
import Derived.Test.YtlhinknmbgijeaaDoorGen
import Derived.Test.YtlhinknmbgijeaaDoorKeep
import Derived.Test.YtlhinknmbgijeaaDoorApp
import Derived.Test.YtlhinknmbgijeaaDoorInts
import Derived.Test.YtlhinknmbgijeaaDoorOwnN
import Derived.Test.YtlhinknmbgijeaaDoorSrc
import Derived.Test.YtlhinknmbgijeaaDoorSrcG
import Derived.WalkKit
import Derived.WalkSpells
import Derived.BigQuiet
import Derived.Deep.QuietTactic
import Derived.Deep.RegionWith
namespace Go.Proofs.YtlhinknmbgijeaaDoor
open Go.RowKit
set_option linter.unusedVariables false
set_option maxRecDepth 100000

set_option maxHeartbeats 1600000 in
theorem number_k (b : Nat) (ao : Option Addr) (n cap m : Nat) (w : World) (hm : m ≤ 800000) (hn : n ≤ 1048576) (hs : SrcK w b ao n cap m) :
    Calls Tryd.prog 62 #[.pointer (some ⟨b, 0, none⟩)] w fun e w' => ∃ r : Int, e = .returned (.int .i64 r) ∧ 0 ≤ r ∧ r ≤ 2147483647 ∧ SrcK w' b ao n cap (m + 9) ∧ Keep (fun k => k = b) w w' := by
  have HS := hide hs
  clear hs
  go_enter Tryd.func62, Tryd.ntmps62
  go_wp2_with fail
  refine (next_k b ao n cap m 9 _ (by omega) (by omega) (by omega) hn (unhide HS)).mono ?_
  rintro e w1 ⟨r1, rfl, hr10, hr11, hs1, hk1⟩
  have HS1 := hide hs1
  have HK1 := hide hk1
  clear hs1 hk1
  go_wp2_with fail
  refine (next_k b ao n cap (m + 3) 70000 _ (by omega) (by omega) (by omega) hn (unhide HS1)).mono ?_
  rintro e w2 ⟨r2, rfl, hr20, hr21, hs2, hk2⟩
  have HS2 := hide (hs2.below (Joins.below_alloc1 _ (.cells #[.int .i64 r1, .int .i64 r2, .int .i64 2147483647] 3)))
  have HK2 := hide (((unhide HK1).trans hk2).trans (Keep.of_below (Joins.below_alloc1 _ (.cells #[.int .i64 r1, .int .i64 r2, .int .i64 2147483647] 3))))
  have hbl := hs2.lt
  clear hs2 hk2
  go_wp2_with fail
  refine (next_k b ao n cap (m + 3 + 3) 9 _ (by omega) (by omega) (by omega) hn (unhide HS2)).mono ?_
  rintro e w3 ⟨r3, rfl, hr30, hr31, hs3, hk3⟩
  have hcA := keep_cell (a := ⟨w2.heap.size, 0, none⟩) (v := .int .i64 r1) hk3 (by simp; omega) (by simp [go_sem])
  have hcB := keep_cell (a := ⟨w2.heap.size, 1, none⟩) (v := .int .i64 r2) hk3 (by simp; omega) (by simp [go_sem])
  have hcC := keep_cell (a := ⟨w2.heap.size, 2, none⟩) (v := .int .i64 2147483647) hk3 (by simp; omega) (by simp [go_sem])
  have HS3 := hide (hs3.more (m' := m + 9) (by omega))
  have HK3 := hide ((unhide HK2).trans hk3)
  clear hs3 hk3
  have hq : r3 / 4 = 0 ∨ r3 / 4 = 1 ∨ r3 / 4 = 2 := by omega
  rcases hq with hq | hq | hq
  · go_wp2
    go_ret
    exact ⟨r1, rfl, by omega, by omega, unhide HS3, unhide HK3⟩
  · go_wp2
    go_ret
    exact ⟨r2, rfl, by omega, by omega, unhide HS3, unhide HK3⟩
  · go_wp2
    go_ret
    exact ⟨2147483647, rfl, by omega, by omega, unhide HS3, unhide HK3⟩

set_option maxHeartbeats 3200000 in
theorem numbers_k (b : Nat) (ao : Option Addr) (n cap m : Nat) (w : World) (hm : m ≤ 700000) (hn : n ≤ 1048576) (hs : SrcK w b ao n cap m) :
    Calls Tryd.prog 27 #[.pointer (some ⟨b, 0, none⟩)] w fun e w' => ∃ v xs, e = .returned v ∧ OwnN w' w.heap.size v xs ∧ allB xs = true ∧ xs.length ≤ 6 ∧ Keep (fun k => k = b) w w' := by
  have hbl := hs.lt
  have HS0 := hide hs
  clear hs
  obtain ⟨j0, hj, hy0, hy1, hy2⟩ := info_parts infoM
  have HSA := hide ((unhide HS0).below (Joins.below_alloc1 w (.cells #[] 3)))
  have HKA : Hid (Keep (fun k => k = b) w (w.alloc (.cells #[] 3))) := hide (Keep.of_below (Joins.below_alloc1 _ _))
  go_enter Tryd.func27, Tryd.ntmps27
  go_wp2_with fail
  refine (next_k b ao n cap m 7 _ (by omega) (by omega) (by omega) hn (unhide HSA)).mono ?_
  rintro e w1 ⟨r1, rfl, hr10, hr11, hs1, hk1⟩
  have HS1 := hide hs1
  have HK1 := hide ((unhide HKA).trans hk1)
  clear hs1 hk1
  obtain ⟨q, rfl⟩ := Int.eq_ofNat_of_zero_le hr10
  go_wp2
  go_loopw [3, 4] (fun o i wr => ∃ (j : Nat) (xs : List Int) (qo : Option Addr) (qa : Nat), xs.length + j ≤ 6 ∧ i = .int .i64 j ∧ o = .slice qo xs.length qa ∧ Hid (allB xs = true) ∧ Hid (OwnR wr w.heap.size 3 1 (.slice qo xs.length qa) xs.length (intV xs)) ∧ Hid (Keep (fun k => k = b) w wr) ∧ Hid (SrcK wr b ao n cap (m + 3 + 9 * xs.length))) (fun _ i _ => (intOf i).toNat)
  case atStart => exact ⟨q, [], _, _, by simp; omega, rfl, rfl, hide rfl, hide (.inl ⟨rfl, rfl, _, rfl⟩), HK1, HS1⟩
  case round =>
    obtain ⟨j, xs, qo, qa, hxj, rfl, rfl, HA, HO, HK, HS⟩ := hrel
    by_cases hlt : 0 < j
    · go_wp2_with fail
      refine (number_k b ao n cap _ _ (by omega) hn (unhide HS)).mono ?_
      rintro e w2 ⟨r, rfl, hr0, hr1, hs2, hk2⟩
      have HO2 := hide ((unhide HO).keep hk2 (fun g hg e => by have := ((unhide HO).ge g hg).1; omega))
      have HK2 := hide ((unhide HK).trans hk2)
      have HS2 := hide hs2
      clear hs2 hk2
      have HOA := hide ((unhide HO2).below (Joins.below_alloc1 _ (.cells #[.int .i64 r] 3)))
      have HKB := hide ((unhide HK2).trans (Keep.of_below (Joins.below_alloc1 _ (.cells #[.int .i64 r] 3))))
      have HSB := hide ((unhide HS2).below (Joins.below_alloc1 _ (.cells #[.int .i64 r] 3)))
      have HSZ := hide (unhide HK2).size
      go_wp2_with (at_builtin; refine wpList_append_one rfl _ _ 23 rfl w.heap.size 3 j0 (.int .i64 0) 1 8 Tryd.underlying23 hj hy0 hy1 hy2 rfl (by omega) qo xs.length qa (intV xs) rfl (unhide HOA) (by have := unhide HSZ; simp; omega) ⟨w2.heap.size, 0, none⟩ _ [.int .i64 r] rfl rfl (byte_news w2 _ _) (int_one _) (by unfold maxLen; omega) (by omega) ?_; intro g2 cap2 wA hoA hkA; have HSF := hide (And.intro hoA (keep_new (unhide HKB) hkA (fun k hk => .inl ((unhide HOA).ge k hk).1))); have HSC := hide ((unhide HS0).other (unhide HSB) (unhide HSF).2 hkA (fun hk => by have := ((unhide HOA).ge _ hk).1; omega)); clear hoA hkA)
      go_roundw
      case rel => exact ⟨j - 1, xs ++ [r], some ⟨g2, 0, none⟩, cap2, by simp; omega, by go_num, by simp, hide (by simp only [allB, List.all_append, Bool.and_eq_true]; exact ⟨unhide HA, by simp [numB, inB]; omega⟩), hide (by rw [List.length_append, intV_snoc]; exact .inr ⟨by simp, (unhide HSF).1⟩), hide (unhide HSF).2, hide (by rw [List.length_append]; exact (unhide HSC).more (by simp; omega))⟩
      case measure => simp [intOf]; omega
    · go_wp2
      go_ret
      exact ⟨.slice qo xs.length qa, xs, rfl, ⟨qo, qa, rfl, unhide HO⟩, unhide HA, by omega, unhide HK⟩

theorem numbersOf_any (ao : Option Addr) (n cap : Nat) (w : World) (hn : n ≤ 1048576) (hB : Bs w ao n) :
    Calls Tryd.prog 6 #[.slice ao n cap] w fun e w' => ∃ v xs, e = .returned v ∧ OwnN w' w.heap.size v xs ∧ allB xs = true ∧ xs.length ≤ 6 ∧ Below w.heap.size w w' := by
  go_enter Tryd.func6, Tryd.ntmps6
  go_wp2_with fail
  refine (source_any ao n cap _ hn hB).mono ?_
  rintro e w1 ⟨rfl, hs1, hb1, hz⟩
  go_wp2_with fail
  refine (numbers_k _ ao n cap 0 _ (by omega) hn hs1).mono ?_
  rintro e w2 ⟨v, xs, rfl, ho, ha, hl, hk⟩
  have HO := hide (ho.base (B' := w.heap.size) (by omega))
  have HB := hide (hb1.trans (hk.below (B := w.heap.size) (by omega) (fun k hk => by omega)))
  clear ho hb1 hk hs1
  go_wp2
  go_ret
  exact ⟨v, xs, rfl, unhide HO, ha, hl, unhide HB⟩

end Go.Proofs.YtlhinknmbgijeaaDoor
