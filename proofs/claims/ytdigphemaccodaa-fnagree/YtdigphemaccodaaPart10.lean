import Derived.Test.YtdigphemaccodaaRows
import Derived.Test.YtdigphemaccodaaPart1
import Derived.Test.YtdigphemaccodaaPart3
import Derived.Test.YtdigphemaccodaaPart4
import Derived.WalkKit
import Derived.WalkSpells
import Derived.BigQuiet
import Derived.Deep.QuietTactic
import Derived.Deep.RegionWith
import Derived.Test.YtdigphemaccodaaPart2
import Derived.Test.YtdigphemaccodaaPart9

/- The laws' own look at two lists of blocks that are the same. -/
namespace Go.Proofs.Ytdigphemaccodaa
open Go.RowKit
set_option linter.unusedVariables false
set_option maxRecDepth 100000

set_option maxHeartbeats 1600000 in
theorem sameBlocks_same (ao bo : Option Addr) (ca cb n : Nat) (xs : List Bk) (w : World) (hn : xs.length = n) (hl : n ≤ 1048576) (hc : Bks w ao xs) (hd : Bks w bo xs) :
    Calls Try.prog 13 #[.slice ao n ca, .slice bo n cb] w fun e w' => e = .returned (.bool true) ∧ Below w.heap.size w w' := by
  subst hn
  have HC := hide hc
  have HD := hide hd
  clear hc hd
  have hb : ((xs.length : Int) != (xs.length : Int)) = false := by simp
  go_enter Try.func13, Try.ntmps13
  go_wp2
  go_loopw [5] (fun i wr => ∃ k : Nat, k ≤ xs.length ∧ i = .int .i64 k ∧ Hid (Below w.heap.size w wr)) (fun i _ => xs.length - (intOf i).toNat)
  case atStart => exact ⟨0, Nat.zero_le _, rfl, hide (Below.refl _ _)⟩
  case round =>
    obtain ⟨k, hk, rfl, HB⟩ := hrel
    by_cases hlt : k < xs.length
    · obtain ⟨b, off, rfl, hc0, hc1, hc2, hc3⟩ := (unhide HC).below (unhide HB) k hlt
      obtain ⟨b', off', rfl, hd0, hd1, hd2, hd3⟩ := (unhide HD).below (unhide HB) k hlt
      go_wp2
      go_quiet (fail)
      go_wp2
      go_roundw
      case rel => exact ⟨k + 1, by omega, by go_num, hide ((unhide HB).trans (Joins.below_draws _ _ _))⟩
      case measure => simp [intOf]; omega
    · go_wp2
      go_ret
      exact ⟨rfl, unhide HB⟩
end Go.Proofs.Ytdigphemaccodaa

/- What stays beside a source of choices; contract of spec.l00Source. -/
namespace Go.Proofs.Ytdigphemaccodaa
open Go.RowKit
set_option linter.unusedVariables false
set_option maxRecDepth 100000

theorem keep_cell {S : Nat → Prop} {w w' : World} {a : Addr} {v : Value} (hk : Keep S w w') (ha : ¬ S a.block) (h : w.cell? a = some v) : w'.cell? a = some v := by
  have hl := World.block_lt_of_cell? _ _ h
  rw [← h]
  unfold World.cell?
  simp only [hk.block a.block hl ha]
theorem keep_new {w w1 w2 : World} {b : Nat} {S : Nat → Prop} (h : Keep (fun k => k = b) w w1) (hk : Keep S w1 w2) (hs : ∀ k, S k → w.heap.size ≤ k ∨ k = b) : Keep (fun k => k = b) w w2 :=
  ⟨hk.os.trans h.os, hk.tape.trans h.tape, hk.output.trans h.output, Nat.le_trans h.size hk.size, fun k hl hn => (hk.block k (Nat.lt_of_lt_of_le hl h.size) (fun hS => by
    rcases hs k hS with h1 | h1
    · omega
    · exact hn h1)).trans (h.block k hl hn)⟩
theorem SrcK.other {w w1 w2 : World} {b : Nat} {ao : Option Addr} {n cap m m0 : Nat} {S : Nat → Prop} (h0 : SrcK w b ao n cap m0) (h : SrcK w1 b ao n cap m) (hw : Keep (fun k => k = b) w w2) (hk : Keep S w1 w2) (hs : ¬ S b) : SrcK w2 b ao n cap m := by
  obtain ⟨x0, y0, _, _, _, _, hblk0⟩ := h0.src
  obtain ⟨x, y, c0, c1, c2, c3, c4⟩ := h.src
  refine ⟨⟨x, y, c0, c1, c2, c3, ?_⟩, h0.bytes.keep hblk0 (fun z h => by cases h) hw⟩
  rw [hk.block b (Array.getElem?_eq_some_iff.1 c4).1 hs]; exact c4

theorem source_any (ao : Option Addr) (n cap : Nat) (w : World) (hn : n ≤ 1048576) (hB : Bs w ao n) :
    Calls Try.prog 26 #[.slice ao n cap] w fun e w' => e = .returned (.pointer (some ⟨w.heap.size, 0, none⟩)) ∧ SrcK w' w.heap.size ao n cap 0 ∧ Below w.heap.size w w' ∧ w'.heap.size = w.heap.size + 1 := by
  go_enter Try.func26, Try.ntmps26
  go_wp2
  go_ret
  exact ⟨rfl, ⟨⟨0, (n : Int) % 1000, by omega, by omega, by omega, by omega, heap_alloc_new w _⟩, hB.below (Joins.below_alloc1 _ _)⟩, Joins.below_alloc1 _ _, by simp⟩

theorem keep_drop {w w' : World} {b : Nat} (h : Keep (fun k => k = b ∨ w.heap.size ≤ k) w w') : Keep (fun k => k = b) w w' :=
  ⟨h.os, h.tape, h.output, h.size, fun k hl hn => h.block k hl (fun e => by
    rcases e with e | e
    · exact hn e
    · omega)⟩
theorem blk_keep {S : Nat → Prop} {w w' : World} {k : Nat} {o : Obj} (hk : Keep S w w') (hs : ¬ S k) (h : w.heap[k]? = some o) : w'.heap[k]? = some o := by
  rw [hk.block k (Array.getElem?_eq_some_iff.1 h).1 hs]; exact h
theorem blk_below {w w' : World} {k : Nat} {o : Obj} (hk : Below w.heap.size w w') (h : w.heap[k]? = some o) : w'.heap[k]? = some o := by
  rw [hk.block k (Array.getElem?_eq_some_iff.1 h).1]; exact h
theorem blk_lt {w : World} {k : Nat} {o : Obj} (h : w.heap[k]? = some o) : k < w.heap.size := (Array.getElem?_eq_some_iff.1 h).1

end Go.Proofs.Ytdigphemaccodaa

/- Contracts of the model's drawn schedules: size, schedule, ScheduleOf. -/
namespace Go.Proofs.Ytdigphemaccodaa
open Go.RowKit
set_option linter.unusedVariables false
set_option maxRecDepth 100000

set_option maxHeartbeats 1600000 in
theorem size_k (b : Nat) (ao : Option Addr) (n cap m : Nat) (w : World) (hn : n ≤ 1048576) (hs : SrcK w b ao n cap m) :
    Calls Try.prog 53 #[.pointer (some ⟨b, 0, none⟩), .int .i64 90] w fun e w' => ∃ r : Int, e = .returned (.int .i64 r) ∧ 1 ≤ r ∧ r ≤ 90 ∧ Below w.heap.size w w' := by
  obtain ⟨⟨x, y, c0, c1, c2, c3, c4⟩, hB⟩ := hs
  obtain ⟨hc0, hc1, hc2, hf1, hf2⟩ := src_cells c4
  have hq : (n : Int).tdiv 12 = n / 12 := Int.tdiv_eq_ediv_of_nonneg (by omega)
  have hw1 : IntKind.i64.wrap ((n : Int) / 12) = (n : Int) / 12 := wrapI (by omega) (by omega)
  have hw2 : IntKind.i64.wrap (1 + (n : Int) / 12) = 1 + (n : Int) / 12 := wrapI (by omega) (by omega)
  clear c4 hc1 hc2 hf1 hf2 hB
  go_enter Try.func53, Try.ntmps53
  go_wp2
  · go_ret
    exact ⟨90, rfl, by omega, by omega, Below.refl _ _⟩
  · go_ret
    exact ⟨_, rfl, by omega, by omega, Below.refl _ _⟩

set_option maxHeartbeats 3200000 in
theorem schedule_k (b : Nat) (ao : Option Addr) (n cap m : Nat) (w : World) (hm : m ≤ 700000) (hn : n ≤ 1048576) (hs : SrcK w b ao n cap m) :
    Calls Try.prog 27 #[.pointer (some ⟨b, 0, none⟩)] w fun e w' => ∃ v xs, e = .returned v ∧ OwnN w' w.heap.size v xs ∧ xs.all hostB = true ∧ xs.length ≤ 654 ∧ Keep (fun k => k = b) w w' := by
  have hbl := hs.lt
  have HS0 := hide hs
  clear hs
  obtain ⟨j0, hj, hy0, hy1, hy2⟩ := info_parts infoM
  have HSA := hide ((unhide HS0).below (Joins.below_alloc1 w (.cells #[] 3)))
  have HKA : Hid (Keep (fun k => k = b) w (w.alloc (.cells #[] 3))) := hide (Keep.of_below (Joins.below_alloc1 _ _))
  go_enter Try.func27, Try.ntmps27
  go_wp2_with fail
  refine (size_k b ao n cap m _ hn (unhide HSA)).mono ?_
  rintro e w1 ⟨sz, rfl, hz0, hz1, hb1⟩
  have HS1 := hide ((unhide HSA).below hb1)
  have HK1 := hide ((unhide HKA).trans (Keep.of_below hb1))
  clear hb1 HSA HKA
  have hw1 : IntKind.i64.wrap (sz + 20) = sz + 20 := wrapI (by omega) (by omega)
  go_wp2_with fail
  refine (next_k b ao n cap m (sz + 20) _ (by omega) (by omega) (by omega) hn (unhide HS1)).mono ?_
  rintro e w2 ⟨r1, rfl, hr10, hr11, hs1, hk1⟩
  have HS2 := hide (hs1.more (m' := m + 900 - 6 * r1.toNat) (by omega))
  have HK2 := hide ((unhide HK1).trans hk1)
  clear hs1 hk1 HS1 HK1 hw1
  obtain ⟨q, rfl⟩ := Int.eq_ofNat_of_zero_le hr10
  have hq : q ≤ 109 := by omega
  go_wp2
  go_loopw [3, 4, 5, 6] (fun o i _ _ wr => ∃ (j : Nat) (xs : List Int) (qo : Option Addr) (qa : Nat), xs.length + 6 * j ≤ 654 ∧ i = .int .i64 j ∧ o = .slice qo xs.length qa ∧ Hid (xs.all hostB = true) ∧ Hid (OwnR wr w.heap.size 3 1 (.slice qo xs.length qa) xs.length (intV xs)) ∧ Hid (Keep (fun k => k = b) w wr) ∧ Hid (SrcK wr b ao n cap (m + 900 - 6 * j))) (fun _ i _ _ _ => (intOf i).toNat)
  case atStart => exact ⟨q, [], _, _, by simp; omega, rfl, rfl, hide rfl, hide (.inl ⟨rfl, rfl, _, rfl⟩), HK2, HS2⟩
  case round =>
    obtain ⟨j, xs, qo, qa, hxj, rfl, rfl, HA, HO, HK, HS⟩ := hrel
    by_cases hlt : 0 < j
    · go_wp2_with fail
      refine (next_k b ao n cap _ 4 _ (by omega) (by omega) (by omega) hn (unhide HS)).mono ?_
      rintro e w3 ⟨h, rfl, hh0, hh1, hs3, hk3⟩
      have HO3 := hide ((unhide HO).keep hk3 (fun g hg e => by have := ((unhide HO).ge g hg).1; omega))
      have HK3 := hide ((unhide HK).trans hk3)
      have HS3 := hide hs3
      clear hs3 hk3
      go_wp2_with fail
      refine (next_k b ao n cap _ 6 _ (by omega) (by omega) (by omega) hn (unhide HS3)).mono ?_
      rintro e w4 ⟨r2, rfl, hr20, hr21, hs4, hk4⟩
      have HO4 := hide ((unhide HO3).keep hk4 (fun g hg e => by have := ((unhide HO3).ge g hg).1; omega))
      have HK4 := hide ((unhide HK3).trans hk4)
      have HS4 := hide (hs4.more (m' := m + 900 - 6 * (j - 1)) (by omega))
      clear hs4 hk4 HS3 HK3 HO3 HS HK HO
      obtain ⟨q2, rfl⟩ := Int.eq_ofNat_of_zero_le hr20
      go_wp2
      go_loopw [3, 6] (fun o i wr => ∃ (k : Nat) (ys : List Int) (qo : Option Addr) (qa : Nat), ys.length + k + 6 * (j - 1) ≤ 654 ∧ k ≤ 6 ∧ i = .int .i64 ((k : Int) - 1) ∧ o = .slice qo ys.length qa ∧ Hid (ys.all hostB = true) ∧ Hid (OwnR wr w.heap.size 3 1 (.slice qo ys.length qa) ys.length (intV ys)) ∧ Hid (Keep (fun k => k = b) w wr) ∧ Hid (SrcK wr b ao n cap (m + 900 - 6 * (j - 1)))) (fun _ i _ => (intOf i + 1).toNat)
      case atStart => exact ⟨q2 + 1, xs, _, _, by omega, by omega, by go_num, rfl, HA, HO4, HK4, HS4⟩
      case round =>
        obtain ⟨k, ys, qo, qa, hyk, hk6, rfl, rfl, HA, HO, HK, HS⟩ := hrel
        by_cases hlt2 : 0 < k
        · have hge : (0 : Int) ≤ (k : Int) - 1 := by omega
          have HOA := hide ((unhide HO).below (Joins.below_alloc1 wr (.cells #[.int .i64 h] 3)))
          have HKB := hide ((unhide HK).trans (Keep.of_below (Joins.below_alloc1 wr (.cells #[.int .i64 h] 3))))
          have HSB := hide ((unhide HS).below (Joins.below_alloc1 wr (.cells #[.int .i64 h] 3)))
          have HSZ := hide (unhide HK).size
          go_wp2_with (at_builtin; refine wpList_append_one rfl _ _ 24 rfl w.heap.size 3 j0 (.int .i64 0) 1 8 Try.underlying24 hj hy0 hy1 hy2 rfl (by omega) qo ys.length qa (intV ys) rfl (unhide HOA) (by have := unhide HSZ; simp; omega) ⟨wr.heap.size, 0, none⟩ _ [.int .i64 h] rfl rfl (byte_news wr _ _) (int_one _) (by unfold maxLen; omega) (by omega) ?_; intro g2 cap2 wA hoA hkA; have HSF := hide (And.intro hoA (keep_new (unhide HKB) hkA (fun k hk => .inl ((unhide HOA).ge k hk).1))); have HSC := hide ((unhide HS0).other (unhide HSB) (unhide HSF).2 hkA (fun hk => by have := ((unhide HOA).ge _ hk).1; omega)); clear hoA hkA)
          go_roundw
          case rel => exact ⟨k - 1, ys ++ [h], some ⟨g2, 0, none⟩, cap2, by simp; omega, by omega, by go_num, by simp, hide (by simp only [List.all_append, Bool.and_eq_true]; exact ⟨unhide HA, by simp [hostB, inB]; omega⟩), hide (by rw [List.length_append, intV_snoc]; exact .inr ⟨by simp, (unhide HSF).1⟩), hide (unhide HSF).2, HSC⟩
          case measure => simp [intOf]; omega
        · have hk0 : k = 0 := by omega
          subst hk0
          go_wp2
          go_roundw
          case rel => exact ⟨j - 1, ys, qo, qa, by omega, by go_num, rfl, HA, HO, HK, HS⟩
          case measure => simp [intOf]; omega
    · go_wp2
      go_ret
      exact ⟨.slice qo xs.length qa, xs, rfl, ⟨qo, qa, rfl, unhide HO⟩, unhide HA, by omega, unhide HK⟩

theorem scheduleOf_any (ao : Option Addr) (n cap : Nat) (w : World) (hn : n ≤ 1048576) (hB : Bs w ao n) :
    Calls Try.prog 9 #[.slice ao n cap] w fun e w' => ∃ v xs, e = .returned v ∧ OwnN w' w.heap.size v xs ∧ xs.all hostB = true ∧ xs.length ≤ 654 ∧ Below w.heap.size w w' := by
  go_enter Try.func9, Try.ntmps9
  go_wp2_with fail
  refine (source_any ao n cap _ hn hB).mono ?_
  rintro e w1 ⟨rfl, hs1, hb1, hz⟩
  go_wp2_with fail
  refine (schedule_k _ ao n cap 0 _ (by omega) hn hs1).mono ?_
  rintro e w2 ⟨v, xs, rfl, ho, ha, hl, hk⟩
  have HO := hide (ho.base (B' := w.heap.size) (by omega))
  have HB := hide (hb1.trans (hk.below (B := w.heap.size) (by omega) (fun k hk => by omega)))
  clear ho hb1 hk hs1
  go_wp2
  go_ret
  exact ⟨v, xs, rfl, unhide HO, ha, hl, unhide HB⟩
end Go.Proofs.Ytdigphemaccodaa

/- Runs of ballots where nothing is wrong, and what a law reads of them (the same hands as in LawAlone: never import both). -/
namespace Go.Proofs.Ytdigphemaccodaa
open Go.RowKit
set_option linter.unusedVariables false
set_option maxRecDepth 100000

theorem runPaxos_ok (ao bo : Option Addr) (ca cb n m : Nat) (vs sc : List Int) (w : World) (hn : vs.length = n) (hm : sc.length = m) (hf : rfC vs sc = 0) (h1 : Is w ao vs) (h2 : Is w bo sc) :
    Calls Try.prog 10 #[.slice ao n ca, .slice bo m cb] w fun e w' => ∃ oo qa po qb, e = .returned (.tuple #[.slice oo 4 qa, .slice po 4 qb, .int .i64 0]) ∧ OwnR w' w.heap.size 3 1 (.slice oo 4 qa) 4 (intV (told (rnS vs sc).1)) ∧ OwnR w' w.heap.size 42 4 (.slice po 4 qb) 4 (bksV (rnS vs sc).2) ∧ Below w.heap.size w w' := by
  subst hn hm
  obtain ⟨z1, z2, _, _⟩ := rf_zero hf
  refine (runPaxos_impl ao bo ca cb vs sc w (by omega) (by omega) h1 h2).mono ?_
  rintro e w' ⟨oo, qa, po, qb, he, ho, hp, hk⟩
  obtain ⟨y1, y2⟩ := rn_yes hf
  obtain ⟨l1, l2⟩ := rn_len hf
  rw [y1, y2, hf, told_len, l1, l2] at he
  rw [y1, told_len, l1] at ho
  rw [y2, l2] at hp
  exact ⟨oo, qa, po, qb, he, ho, hp, hk⟩
theorem hostsN_all (sc : List Int) : hostsN sc sc.length = sc.map Int.toNat := by unfold hostsN; rw [List.take_length]
theorem rf_right {vs sc : List Int} (h4 : vs.length = 4) (hv : ∀ x ∈ vs, 0 ≤ x ∧ x ≤ 2147483647) (hl : sc.length ≤ 4096) (hs : ∀ x ∈ sc, 0 ≤ x ∧ x ≤ 3) : rfC vs sc = 0 := by
  refine rf_ok (by omega) ?_ ?_
  · rw [decide_eq_true h4, Bool.true_and]
    exact List.all_eq_true.2 (fun x hx => by have := hv x hx; simp [numB, inB]; omega)
  · exact List.all_eq_true.2 (fun x hx => by have := hs x hx; simp [hostB, inB]; omega)
theorem Is.getD {w : World} {ao : Option Addr} {xs : List Int} (hI : Is w ao xs) {i : Nat} (hi : i < xs.length) : ∃ b off, ao = some ⟨b, off, none⟩ ∧ w.cell? ⟨b, off + i, none⟩ = some (.int .i64 (xs.getD i 0)) := by
  obtain ⟨b, off, e, hc⟩ := hI i hi
  exact ⟨b, off, e, by rw [hc]; simp [hi]⟩
/-- Where a row of the call's own lies. -/
theorem OwnR.lies {w : World} {B e size n cap : Nat} {ao : Option Addr} {xs : List Value} (h : OwnR w B e size (.slice ao n cap) n xs) (hn : 0 < n) :
    ∃ g, ao = some ⟨g, 0, none⟩ ∧ B ≤ g ∧ g < w.heap.size ∧ w.ownsRow B e size (.slice (some ⟨g, 0, none⟩) n cap) n xs := by
  rcases h with ⟨h0, _⟩ | ⟨h0, h⟩
  · omega
  · obtain ⟨g, c, cur, e0, hB, hg⟩ := own_form h0 h
    simp only [Value.slice.injEq, true_and] at e0
    obtain ⟨rfl, rfl⟩ := e0
    exact ⟨g, rfl, hB, (Array.getElem?_eq_some_iff.1 hg).1, h⟩
theorem own_cell {w : World} {B e n cap g : Nat} {xs : List Int} (h : OwnR w B e 1 (.slice (some ⟨g, 0, none⟩) n cap) n (intV xs)) (hx : xs.length = n) {i : Nat} (hi : i < n) : w.cell? ⟨g, i, none⟩ = some (.int .i64 (xs.getD i 0)) := by
  subst hx
  obtain ⟨b, off, e0, hc⟩ := Is.getD (ownRN h) hi
  simp only [Option.some.injEq, Addr.mk.injEq] at e0
  obtain ⟨rfl, rfl, _⟩ := e0
  rw [Nat.zero_add] at hc
  exact hc

end Go.Proofs.Ytdigphemaccodaa

/- The walk of laws.FnAgree: the theorem of ballots. -/
namespace Go.Proofs.Ytdigphemaccodaa
open Go.RowKit
set_option linter.unusedVariables false
set_option maxRecDepth 100000

theorem runPaxos_ok2 (ao bo : Option Addr) (ca cb n m : Nat) (vs sc : List Int) (w : World) (hn : vs.length = n) (hm : sc.length = m) (hf : rfC vs sc = 0) (h1 : Is w ao vs) (h2 : Is w bo sc) :
    Calls Try.prog 11 #[.slice ao n ca, .slice bo m cb] w fun e w' => ∃ oo qa po qb, e = .returned (.tuple #[.slice oo 4 qa, .slice po 4 qb, .int .i64 0]) ∧ OwnR w' w.heap.size 3 1 (.slice oo 4 qa) 4 (intV (told (rnS vs sc).1)) ∧ OwnR w' w.heap.size 42 4 (.slice po 4 qb) 4 (bksV (rnS vs sc).2) ∧ Below w.heap.size w w' := by
  subst hn hm
  obtain ⟨z1, z2, _, _⟩ := rf_zero hf
  refine (runPaxos_spec ao bo ca cb vs sc w (by omega) (by omega) h1 h2).mono ?_
  rintro e w' ⟨oo, qa, po, qb, he, ho, hp, hk⟩
  obtain ⟨y1, y2⟩ := rn_yes hf
  obtain ⟨l1, l2⟩ := rn_len hf
  rw [y1, y2, hf, told_len, l1, l2] at he
  rw [y1, told_len, l1] at ho
  rw [y2, l2] at hp
  exact ⟨oo, qa, po, qb, he, ho, hp, hk⟩
/-- Whoever decides decides the same, and a value that somebody had. -/
theorem agree_told {vs sc : List Int} (hf : rfC vs sc = 0) {p q : Nat} (hp : p < 4) (hq : q < 4) (ep : 0 ≤ (told (rnS vs sc).1).getD p 0) (eq : 0 ≤ (told (rnS vs sc).1).getD q 0) :
    (told (rnS vs sc).1).getD p 0 = (told (rnS vs sc).1).getD q 0 ∧ ∃ k, k < 4 ∧ (told (rnS vs sc).1).getD p 0 = vs.getD k 0 := by
  obtain ⟨l1, l2⟩ := rn_len hf
  obtain ⟨z1, z2, z3, z4⟩ := rf_zero hf
  have hg : ∀ i, i < 4 → (told (rnS vs sc).1).getD i 0 = if (hsOf (rnS vs sc).1 i).phase = 5 then (hsOf (rnS vs sc).1 i).value else -1 := by
    intro i hi
    have hl : i < (rnS vs sc).1.length := by omega
    simp [told, hsOf, List.getD_eq_getElem?_getD, hl]
  have h5 : ∀ i, i < 4 → 0 ≤ (told (rnS vs sc).1).getD i 0 → (hsOf (rnS vs sc).1 i).phase = 5 := by
    intro i hi h0
    rw [hg i hi] at h0
    split at h0
    · assumption
    · omega
  have hG := run_agree vs (hostsN sc sc.length) (by
    intro h hh
    rw [hostsN_all] at hh
    obtain ⟨x, hx, rfl⟩ := List.mem_map.1 hh
    obtain ⟨j, hj, rfl⟩ := List.getElem_of_mem hx
    have := z4 j hj
    omega)
  have ha := hG.agree hp hq (h5 p hp ep) (h5 q hq eq)
  rw [hg p hp, hg q hq, if_pos (h5 p hp ep), if_pos (h5 q hq eq)]
  exact ha

theorem sameInts_same (ao bo : Option Addr) (ca cb n : Nat) (xs : List Int) (w : World) (hn : xs.length = n) (hl : n ≤ maxLen) (hc : Is w ao xs) (hd : Is w bo xs) :
    Calls Try.prog 12 #[.slice ao n ca, .slice bo n cb] w fun e w' => e = .returned (.bool true) ∧ Below w.heap.size w w' := by
  subst hn
  refine (sameInts_any ao bo ca cb xs xs w hl hc hd).mono ?_
  rintro e w' ⟨rfl, hb⟩
  exact ⟨by rw [eqNB_true rfl (fun j _ _ => rfl)], hb⟩
theorem is_cell {w : World} {g : Nat} {xs : List Int} (hI : Is w (some ⟨g, 0, none⟩) xs) {i : Nat} (hi : i < xs.length) : w.cell? ⟨g, i, none⟩ = some (.int .i64 (xs.getD i 0)) := by
  obtain ⟨b, off, e0, hc⟩ := Is.getD hI hi
  simp only [Option.some.injEq, Addr.mk.injEq] at e0
  obtain ⟨rfl, rfl, _⟩ := e0
  rw [Nat.zero_add] at hc
  exact hc
/-- Whether somebody up to there had it. -/
def knownB (vs : List Int) (x : Int) (j : Nat) : Bool := (List.range j).any (fun i => vs.getD i 0 == x)
theorem known_succ (vs : List Int) (x : Int) (j : Nat) : knownB vs x (j + 1) = (knownB vs x j || (vs.getD j 0 == x)) := by simp [knownB, List.range_succ]
theorem known_all {vs : List Int} {x : Int} (h : ∃ k, k < 4 ∧ x = vs.getD k 0) : knownB vs x 4 = true := by
  obtain ⟨k, hk, rfl⟩ := h
  exact List.any_eq_true.2 ⟨k, List.mem_range.2 hk, by simp⟩

set_option maxHeartbeats 6400000 in
theorem lawAgree (ao : Option Addr) (ca n : Nat) (bo : Option Addr) (cb l : Nat) (w : World) (hn : n ≤ maxLen) (hB : Bs w ao n) (hl : l ≤ maxLen) (hC : Bs w bo l) :
    Calls Try.prog 3 #[.slice ao n ca, .slice bo l cb] w fun e w' => e = .returned (.bool true) ∧ Below w.heap.size w w' := by
  have HBS := hide hB
  have HCS := hide hC
  clear hB hC
  unfold maxLen at hn hl
  by_cases h : 1048576 < n
  · go_enter Try.func3, Try.ntmps3
    go_wp2
    go_ret
    exact ⟨rfl, Below.refl _ _⟩
  by_cases h2 : 1048576 < l
  · go_enter Try.func3, Try.ntmps3
    go_wp2
    go_ret
    exact ⟨rfl, Below.refl _ _⟩
  have hn' : n ≤ 1048576 := by omega
  have hl' : l ≤ 1048576 := by omega
  go_enter Try.func3, Try.ntmps3
  go_wp2_with fail
  refine (at_any bo l cb 0 50 _ hl' (by omega) (by omega) (by omega) (by omega) (unhide HCS)).mono ?_
  rintro e w3 ⟨a, rfl, ha0, ha1, hb⟩
  have HB3 := hide hb
  clear hb
  have wa : IntKind.i64.wrap (10 + a) = 10 + a := by rw [IntKind.wrap_i64]; omega
  go_wp2_with fail
  refine (at_any bo l cb 1 50 _ hl' (by omega) (by omega) (by omega) (by omega) ((unhide HCS).below (unhide HB3))).mono ?_
  rintro e w4 ⟨b, rfl, hb0, hb1, hb⟩
  have HB4 := hide (fr (unhide HB3) hb)
  clear hb HB3
  have wb : IntKind.i64.wrap (100 + b) = 100 + b := by rw [IntKind.wrap_i64]; omega
  go_wp2_with fail
  refine (at_any bo l cb 2 50 _ hl' (by omega) (by omega) (by omega) (by omega) ((unhide HCS).below (unhide HB4))).mono ?_
  rintro e w5 ⟨c, rfl, hc0, hc1, hb⟩
  have HB5 := hide (fr (unhide HB4) hb)
  clear hb HB4
  have wc : IntKind.i64.wrap (200 + c) = 200 + c := by rw [IntKind.wrap_i64]; omega
  go_wp2_with fail
  refine (at_any bo l cb 3 50 _ hl' (by omega) (by omega) (by omega) (by omega) ((unhide HCS).below (unhide HB5))).mono ?_
  rintro e w6 ⟨d, rfl, hd0, hd1, hb⟩
  have wd : IntKind.i64.wrap (300 + d) = 300 + d := by rw [IntKind.wrap_i64]; omega
  have HB6 := hide (fr (fr (unhide HB5) hb) (Joins.below_alloc1 w6 (.cells #[.int .i64 (10 + a), .int .i64 (100 + b), .int .i64 (200 + c), .int .i64 (300 + d)] 3)))
  have HI6 := hide (is4 w6 w6.heap.size 3 (10 + a) (100 + b) (200 + c) (300 + d) rfl)
  have HVB : Hid (∀ x ∈ [10 + a, 100 + b, 200 + c, 300 + d], 0 ≤ x ∧ x ≤ 2147483647) := hide (by simp; omega)
  have HV4 : Hid ([10 + a, 100 + b, 200 + c, 300 + d].length = 4) := hide rfl
  clear hb HB5 ha0 ha1 hb0 hb1 hc0 hc1 hd0 hd1
  go_upto_region 4 with fail
  revert HB6 HI6
  generalize w6.alloc (.cells #[.int .i64 (10 + a), .int .i64 (100 + b), .int .i64 (200 + c), .int .i64 (300 + d)] 3) = W6
  generalize w6.heap.size = V
  intro HB6 HI6
  generalize [10 + a, 100 + b, 200 + c, 300 + d] = vs at HI6 HVB HV4
  go_wp2_with fail
  refine (scheduleOf_any ao n ca _ hn' ((unhide HBS).below (unhide HB6))).mono ?_
  rintro e w7 ⟨sv, sc, rfl, ⟨so, sa, rfl, hso⟩, hsa, hsl, hb⟩
  have HRF : Hid (rfC vs sc = 0) := hide (rf_right (unhide HV4) (unhide HVB) (by omega) (fun x hx => by have := List.all_eq_true.1 hsa x hx; simp [hostB, inB] at this; omega))
  have HB7 := hide (fr (unhide HB6) hb)
  have HI7 := hide ((unhide HI6).below hb)
  have HSC : Hid (Is w7 so sc) := hide (ownRN hso)
  obtain ⟨sl, HSL⟩ : ∃ sl, Hid (sc.length = sl) := ⟨_, hide rfl⟩
  rw [unhide HSL]
  clear hb hso hsa hsl HB6 HI6
  go_wp2_with fail
  refine (runPaxos_ok (some ⟨V, 0, none⟩) so 4 sa 4 sl vs sc _ (unhide HV4) (unhide HSL) (unhide HRF) (unhide HI7) (unhide HSC)).mono ?_
  rintro e w8 ⟨o1, q1, p1, qb1, rfl, ho1, hp1, hb⟩
  obtain ⟨g1, rfl, _, _, _⟩ := ho1.lies (by omega)
  have HO8 := hide ho1
  have HP8 := hide hp1
  have HB8 := hide (fr (unhide HB7) hb)
  have HI8 := hide ((unhide HI7).below hb)
  have HS8 := hide ((unhide HSC).below hb)
  clear ho1 hp1 hb HB7 HI7 HSC
  go_wp2_with fail
  refine (runPaxos_ok2 (some ⟨V, 0, none⟩) so 4 sa 4 sl vs sc _ (unhide HV4) (unhide HSL) (unhide HRF) (unhide HI8) (unhide HS8)).mono ?_
  rintro e w9 ⟨o2, q2, p2, qb2, rfl, ho2, hp2, hb⟩
  have HAG := hide (fun p q hp hq => agree_told (unhide HRF) (p := p) (q := q) hp hq)
  have HL1 : Hid ((told (rnS vs sc).1).length = 4) := hide (by rw [told_len]; exact (rn_len (unhide HRF)).1)
  have HL2 : Hid ((rnS vs sc).2.length = 4) := hide (rn_len (unhide HRF)).2
  have HO9 := hide ((unhide HO8).below hb)
  have HP9 := hide ((unhide HP8).below hb)
  have HQ9 := hide ho2
  have HR9 := hide hp2
  have HB9 := hide (fr (unhide HB8) hb)
  have HI9 := hide ((unhide HI8).below hb)
  clear ho2 hp2 hb HB8 HI8 HS8 HO8 HP8
  revert HAG HL1 HL2 HO9 HP9 HQ9 HR9
  generalize told (rnS vs sc).1 = T
  generalize (rnS vs sc).2 = Y
  generalize w7.heap.size = B7
  generalize w8.heap.size = B8
  intro HAG HL1 HL2 HO9 HP9 HQ9 HR9
  have HA1 : Hid (Is w9 (some ⟨g1, 0, none⟩) T) := hide (ownRN (by rw [unhide HL1]; exact unhide HO9))
  have HA2 : Hid (Is w9 o2 T) := hide (ownRN (by rw [unhide HL1]; exact unhide HQ9))
  have HK1 : Hid (Bks w9 p1 Y) := hide (ownBks (by rw [unhide HL2]; exact unhide HP9))
  have HK2 : Hid (Bks w9 p2 Y) := hide (ownBks (by rw [unhide HL2]; exact unhide HR9))
  clear HO9 HP9 HQ9 HR9
  have h4m : 4 ≤ maxLen := by unfold maxLen; omega
  go_wp2_with fail
  refine (sameInts_same (some ⟨g1, 0, none⟩) o2 q1 q2 4 T _ (unhide HL1) h4m (unhide HA1) (unhide HA2)).mono ?_
  rintro e w10 ⟨rfl, hb⟩
  have HA10 := hide ((unhide HA1).below hb)
  have HK10 := hide ((unhide HK1).below hb)
  have HM10 := hide ((unhide HK2).below hb)
  have HB10 := hide (fr (unhide HB9) hb)
  have HI10 := hide ((unhide HI9).below hb)
  clear hb HA1 HA2 HK1 HK2 HB9 HI9
  go_wp2_with fail
  refine (sameBlocks_same p1 p2 qb1 qb2 4 Y _ (unhide HL2) (by omega) (unhide HK10) (unhide HM10)).mono ?_
  rintro e w11 ⟨rfl, hb⟩
  have HA := hide ((unhide HA10).below hb)
  have HBB := hide (fr (unhide HB10) hb)
  have HI := hide ((unhide HI10).below hb)
  clear hb HA10 HK10 HM10 HB10 HI10
  go_wp2
  go_loopw [13, 14, 15, 16] (fun ch i _ _ wr => ∃ (k : Nat) (x : Int), k ≤ 4 ∧ i = .int .i64 k ∧ ch = .int .i64 x ∧ Hid (x = -1 ∨ 0 ≤ x ∧ ∃ p, p < 4 ∧ x = T.getD p 0) ∧ Hid (Below w11.heap.size w11 wr)) (fun _ i _ _ _ => 4 - (intOf i).toNat)
  case atStart => exact ⟨0, -1, by omega, rfl, rfl, hide (.inl rfl), hide (Below.refl _ _)⟩
  case round =>
    obtain ⟨k, x, hk, rfl, rfl, HX, HB⟩ := hrel
    by_cases hlt : k < 4
    · have e1 := is_cell ((unhide HA).below (unhide HB)) (i := k) (by rw [unhide HL1]; exact hlt)
      have hi1 : (k : Int) < 4 := by omega
      by_cases hneg : T.getD k 0 < 0
      · revert e1 hneg
        generalize T.getD k 0 = t
        intro e1 hneg
        go_wp2
        go_roundw
        case rel => exact ⟨k + 1, x, by omega, by go_num, rfl, HX, HB⟩
        case measure => simp [intOf]; omega
      · have hpos : 0 ≤ T.getD k 0 := by omega
        have HT := hide (unhide HAG k k hlt hlt hpos hpos).2
        have HXX : Hid (x = -1 ∨ 0 ≤ x ∧ x = T.getD k 0) := hide (by
          rcases unhide HX with h | ⟨h0, p, hp, rfl⟩
          · exact .inl h
          · exact .inr ⟨h0, (unhide HAG p k hp hlt h0 hpos).1⟩)
        have HNX : Hid (T.getD k 0 = -1 ∨ 0 ≤ T.getD k 0 ∧ ∃ p, p < 4 ∧ T.getD k 0 = T.getD p 0) := hide (.inr ⟨hpos, k, hlt, rfl⟩)
        obtain ⟨t, HTT⟩ : ∃ t, Hid (T.getD k 0 = t) := ⟨_, hide rfl⟩
        rw [unhide HTT] at e1 HT HXX HNX hneg hpos
        clear HX
        go_wp2
        go_loopw [15, 16] (fun kb i wx => ∃ (j : Nat), j ≤ 4 ∧ i = .int .i64 j ∧ kb = .bool (knownB vs t j) ∧ Hid (Below w11.heap.size w11 wx)) (fun _ i _ => 4 - (intOf i).toNat)
        case atStart => exact ⟨0, by omega, rfl, rfl, HB⟩
        case round =>
          clear e1 HB
          obtain ⟨j, hj, rfl, rfl, HB⟩ := hrel
          have e1 := is_cell ((unhide HA).below (unhide HB)) (i := k) (by rw [unhide HL1]; exact hlt)
          rw [unhide HTT] at e1
          by_cases hjl : j < 4
          · have e3 := is_cell ((unhide HI).below (unhide HB)) (i := j) (by rw [unhide HV4]; exact hjl)
            have hj1 : (j : Int) < 4 := by omega
            have HKS := hide (known_succ vs t j)
            revert HKS
            generalize knownB vs t j = kb
            intro HKS
            by_cases hv : vs.getD j 0 = t
            · have HKT : Hid (knownB vs t (j + 1) = true) := hide (by rw [unhide HKS, hv]; simp)
              have be : (vs.getD j 0 == t) = true := beq_iff_eq.2 hv
              clear hv HKS
              revert e3 be
              generalize vs.getD j 0 = u
              intro e3 be
              cases kb
              · go_wp2
                go_quiet (fail)
                go_wp2
                go_roundw
                case rel => exact ⟨j + 1, by omega, by go_num, by rw [unhide HKT], hide ((unhide HB).trans (Joins.below_draws _ _ _))⟩
                case measure => simp [intOf]; omega
              · go_wp2
                go_quiet (fail)
                go_wp2
                go_roundw
                case rel => exact ⟨j + 1, by omega, by go_num, by rw [unhide HKT], hide ((unhide HB).trans (Joins.below_draws _ _ _))⟩
                case measure => simp [intOf]; omega
            · have HKT : Hid (knownB vs t (j + 1) = kb) := hide (by rw [unhide HKS, beq_eq_false_iff_ne.2 hv, Bool.or_false])
              have be : (vs.getD j 0 == t) = false := beq_eq_false_iff_ne.2 hv
              clear hv HKS
              revert e3 be
              generalize vs.getD j 0 = u
              intro e3 be
              cases kb
              · go_wp2
                go_quiet (fail)
                go_wp2
                go_roundw
                case rel => exact ⟨j + 1, by omega, by go_num, by rw [unhide HKT], hide ((unhide HB).trans (Joins.below_draws _ _ _))⟩
                case measure => simp [intOf]; omega
              · go_wp2
                go_quiet (fail)
                go_wp2
                go_roundw
                case rel => exact ⟨j + 1, by omega, by go_num, by rw [unhide HKT], hide ((unhide HB).trans (Joins.below_draws _ _ _))⟩
                case measure => simp [intOf]; omega
          · have hj4 : j = 4 := by omega
            subst hj4
            rw [known_all (unhide HT)]
            rcases unhide HXX with hx | ⟨hx0, hx⟩
            · subst hx
              go_wp2
              go_roundw
              case rel => exact ⟨k + 1, t, by omega, by go_num, rfl, HNX, HB⟩
              case measure => simp [intOf]; omega
            · subst hx
              have be : (x != x) = false := by simp
              go_wp2
              go_roundw
              case rel => exact ⟨k + 1, x, by omega, by go_num, rfl, HNX, HB⟩
              case measure => simp [intOf]; omega
    · go_wp2
      go_ret
      exact ⟨rfl, fr (unhide HBB) (unhide HB)⟩
end Go.Proofs.Ytdigphemaccodaa
