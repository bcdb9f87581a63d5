import Derived.Test.YtjoafbkcnnhdiaaDoorRows
import Derived.Test.YtjoafbkcnnhdiaaDoorLTablePart1
import Derived.Test.YtjoafbkcnnhdiaaDoorLTablePart2
import Derived.Test.YtjoafbkcnnhdiaaDoorLTablePart4
import Derived.Test.YtjoafbkcnnhdiaaDoorLTablePart3
import Derived.WalkKit
import Derived.WalkSpells
import Derived.Defers
import Derived.Recover
import Derived.KernelRfl
import Derived.LoopN
import Derived.Deep.RegionWith
import Derived.BigQuiet
import Derived.Deep.QuietTactic
import Derived.Deep.RegionHeld3

/- Contracts of impl.readTable, impl.readText at a table's reader, impl.DecodeTable. -/
namespace Go.Proofs.YtjoafbkcnnhdiaaDoor
open Go.RowKit
set_option linter.unusedVariables false
set_option maxRecDepth 100000

theorem open_yes3 {s : ByteArray} (h : openB s 3 = true) : RecP s ∧ byteAt s 0 = 3 := by
  simp only [openB, Bool.and_eq_true, decide_eq_true_eq] at h
  exact ⟨recB_iff.1 h.1, h.2⟩
theorem open_no3 {s : ByteArray} (h : openB s 3 = false) : ¬ (RecP s ∧ byteAt s 0 = 3) := by
  rintro ⟨a, b⟩
  rw [openB_yes a b] at h
  cases h
theorem openL_short (s : ByteArray) (hs : s.size ≤ 65536) : (openL s 3).length ≤ maxLen := by
  have h1 := unL_length (bodyT s)
  have h2 := bodyT_size s
  unfold openL maxLen
  split
  · rw [h1]; omega
  · simp

set_option maxHeartbeats 1600000 in
theorem readTable_yes (s : ByteArray) (w : World) (hs : s.size ≤ 65536) (hok : tdB s = true) :
    Calls Tryd.prog 21 #[.string s] w fun e w' => ∃ v, e = .returned v ∧ OwnN w' w.heap.size v (openL s 3) ∧ Below w.heap.size w w' := by
  obtain ⟨ho, ht⟩ := tdB_parts hok
  have HYE := hide (open_yes3 ho)
  have HLE := hide (openL_yes ho)
  have HSH := hide (openL_short s hs)
  clear ho hok
  go_enter Tryd.func21, Tryd.ntmps21
  go_wp2_with fail
  refine (readKind_yes s 3 _ hs (unhide HYE).1 (unhide HYE).2).mono ?_
  rintro e w1 ⟨v, rfl, ⟨qo, qa, rfl, ho⟩, hb⟩
  rw [← unhide HLE] at ho ⊢
  have HO := hide ho
  have HB := hide hb
  clear ho hb HLE HYE
  generalize hN : openL s 3 = ns at *
  have HN := hide hN
  clear hN
  go_wp2_with (first | (go_at_call 28; refine (tableOK_impl _ _ ns _ (unhide HSH) (ownRN (unhide HO))).mono ?_; rintro e w' ⟨rfl, hw⟩; replace hw := hw.symm; subst hw; rw [ht]) | (go_at_call 37; refine (demand_true _).mono ?_; rintro e w' ⟨rfl, hw⟩; replace hw := hw.symm; subst hw))
  go_ret
  exact ⟨.slice qo ns.length qa, rfl, by rw [unhide HN]; exact ⟨qo, qa, rfl, unhide HO⟩, unhide HB⟩

set_option maxHeartbeats 1600000 in
theorem readTable_no (s : ByteArray) (w : World) (hs : s.size ≤ 65536) (hok : tdB s = false) (hE : ErrW w) :
    Calls Tryd.prog 21 #[.string s] w fun e w' => (∃ u pv, e = .panicked [{ v := .iface u pv, recovered := false }]) ∧ Below w.heap.size w w' := by
  have HE := hide hE
  clear hE
  cases ho : openB s 3
  · have HNO := hide (open_no3 ho)
    go_enter Tryd.func21, Tryd.ntmps21
    go_wp2_with fail
    refine (readKind_no s 3 _ hs (unhide HNO) (unhide HE)).mono ?_
    rintro e w1 ⟨⟨u, pv, rfl⟩, hb⟩
    have HB := hide hb
    clear hb
    go_wp2
    exact ⟨rfl, ⟨_, _, rfl⟩, unhide HB⟩
  · have ht : tbB (openL s 3) = false := by rw [tdB, ho] at hok; simpa using hok
    have HYE := hide (open_yes3 ho)
    have HLE := hide (openL_yes ho)
    have HSH := hide (openL_short s hs)
    clear ho hok
    go_enter Tryd.func21, Tryd.ntmps21
    go_wp2_with fail
    refine (readKind_yes s 3 _ hs (unhide HYE).1 (unhide HYE).2).mono ?_
    rintro e w1 ⟨v, rfl, ⟨qo, qa, rfl, ho⟩, hb⟩
    rw [← unhide HLE] at ho ⊢
    have HO := hide ho
    have HB := hide hb
    clear ho hb HLE HYE
    generalize openL s 3 = ns at *
    go_wp2_with (first | (go_at_call 28; refine (tableOK_impl _ _ ns _ (unhide HSH) (ownRN (unhide HO))).mono ?_; rintro e w' ⟨rfl, hw⟩; replace hw := hw.symm; subst hw; rw [ht]) | (go_at_call 37; refine (demand_false _ ((unhide HE).below (unhide HB))).mono ?_; rintro e w' ⟨⟨u, pv, rfl⟩, hw⟩; replace hw := hw.symm; subst hw))
    exact ⟨rfl, ⟨_, _, rfl⟩, unhide HB⟩

set_option maxHeartbeats 1600000 in
theorem readTextT_yes (s : ByteArray) (w : World) (hs : s.size ≤ 65536) (hok : tdB s = true) :
    Calls Tryd.prog 20 #[.string s, .func (.func 21) #[] #[]] w fun e w' => ∃ v, e = .returned (.tuple #[v, .int .i64 0]) ∧ OwnN w' w.heap.size v (openL s 3) ∧ Below w.heap.size w w' := by
  have hmf : ∀ (fn : Fn) (first cap : Array Value) (w : World), (Instr.makeFunc fn first cap).run Tryd.prog w = .ok (.func fn first cap) w := fun _ _ _ _ => rfl
  go_enter_defers Tryd.func20, Tryd.ntmps20
  go_wp2_with fail
  refine (readTable_yes s _ hs hok).mono ?_
  rintro e w1 ⟨v, rfl, ho1, hb1⟩
  have hblk := code_block hb1
  have hc0 := Joins.cell_of_block hblk 0
  have hf0 := Joins.unfrozen_of_block hblk 0
  simp only [List.size_toArray, List.length_cons, List.length_nil, Nat.zero_add, Nat.lt_add_one, getElem?_pos, List.getElem_toArray, List.getElem_cons_zero] at hc0
  have HO := hide (ho1.base (B' := w.heap.size + 1) (by simp))
  have HB := hide (fr (Joins.below_alloc1 w _) hb1)
  clear ho1 hb1 hblk
  go_wp2
  refine leaves_cons (f := 35) (args := #[.pointer (some ⟨w.heap.size, 0, none⟩)]) (by simp) (by simp [go_sem]) ?_
  refine (catch_idle ⟨w.heap.size, 0, none⟩ _).mono ?_
  rintro e u' w'' ⟨rfl, rfl, rfl⟩
  have hcs : (w1.setCell ⟨w.heap.size, 0, none⟩ (.int .i64 0)).cell? ⟨w.heap.size, 0, none⟩ = some (.int .i64 0) := by simp [go_sem, hc0]
  simp only [Leaves, settle, results, Tryd.results20]
  exact ⟨.tuple #[v, .int .i64 0], by simp [go_sem, hcs], v, rfl, ((unhide HO).setCell (a := ⟨w.heap.size, 0, none⟩) (Nat.lt_succ_self _) _).base (Nat.le_succ _), (unhide HB).setCell (p := ⟨w.heap.size, 0, none⟩) (Nat.le_refl _) _⟩

theorem readTextT_no (s : ByteArray) (w : World) (hs : s.size ≤ 65536) (hok : tdB s = false) (hE : ErrW w) :
    Calls Tryd.prog 20 #[.string s, .func (.func 21) #[] #[]] w fun e w' => e = .returned (.tuple #[.slice none 0 0, .int .i64 3]) ∧ Below w.heap.size w w' := by
  have hmf : ∀ (fn : Fn) (first cap : Array Value) (w : World), (Instr.makeFunc fn first cap).run Tryd.prog w = .ok (.func fn first cap) w := fun _ _ _ _ => rfl
  have HE := hide (hE.below (Joins.below_alloc1 w (.cells #[.int .i64 0] 3)))
  clear hE
  go_enter_defers Tryd.func20, Tryd.ntmps20
  go_wp2_with fail
  refine (readTable_no s _ hs hok (unhide HE)).mono ?_
  rintro e w1 ⟨⟨u, pv, rfl⟩, hb1⟩
  have hblk := code_block hb1
  have hc0 := Joins.cell_of_block hblk 0
  have hf0 := Joins.unfrozen_of_block hblk 0
  simp only [List.size_toArray, List.length_cons, List.length_nil, Nat.zero_add, Nat.lt_add_one, getElem?_pos, List.getElem_toArray, List.getElem_cons_zero] at hc0
  have HB := hide (fr (Joins.below_alloc1 w _) hb1)
  clear hb1 hblk
  go_wp2
  refine leaves_cons (f := 35) (args := #[.pointer (some ⟨w.heap.size, 0, none⟩)]) (by simp) (by simp [go_sem]) ?_
  refine (catch_panicking ⟨w.heap.size, 0, none⟩ 0 u pv [] _ hc0 hf0).mono ?_
  rintro e u' w'' ⟨rfl, rfl, rfl⟩
  have hcs : (w1.setCell ⟨w.heap.size, 0, none⟩ (.int .i64 3)).cell? ⟨w.heap.size, 0, none⟩ = some (.int .i64 3) := by simp [go_sem, hc0]
  simp [Leaves, settle, results, Tryd.results20, go_sem, hcs]
  exact (unhide HB).setCell (p := ⟨w.heap.size, 0, none⟩) (Nat.le_refl _) _

set_option maxHeartbeats 800000 in
theorem decodeTable_impl (s : ByteArray) (w : World) (hE : ErrW w) : Calls Tryd.prog 7 #[.string s] w fun e w' => ∃ v, e = .returned (.tuple #[v, .int .i64 (tdC s)]) ∧ OwnN w' w.heap.size v (tdR s) ∧ Below w.heap.size w w' := by
  have hmf : ∀ (fn : Fn) (first cap : Array Value) (w : World), (Instr.makeFunc fn first cap).run Tryd.prog w = .ok (.func fn first cap) w := fun _ _ _ _ => rfl
  have HE := hide hE
  clear hE
  by_cases h1 : 65536 < s.size
  · have HF := hide (td_long h1)
    go_enter Tryd.func7, Tryd.ntmps7
    go_wp2_with fail
    refine (readText_long s _ h1 _).mono ?_
    rintro e w1 ⟨rfl, hb⟩
    have HB := hide hb
    clear hb
    go_wp2
    go_ret2
    exact ⟨.slice none 0 0, ret_ni rfl (unhide HF).1.symm, by rw [(unhide HF).2]; exact OwnN.nil _ _ _, unhide HB⟩
  have h2 : s.size ≤ 65536 := by omega
  cases hok : tdB s with
  | true =>
    have HF := hide (td_ok h1 hok)
    go_enter Tryd.func7, Tryd.ntmps7
    go_wp2_with fail
    refine (readTextT_yes s _ h2 hok).mono ?_
    rintro e w1 ⟨v, rfl, ho, hb⟩
    have HO := hide ho
    have HB := hide hb
    clear ho hb
    go_wp2
    go_ret2
    exact ⟨v, ret_ni rfl (unhide HF).1.symm, by rw [(unhide HF).2]; exact unhide HO, unhide HB⟩
  | false =>
    have HF := hide (td_no h1 hok)
    go_enter Tryd.func7, Tryd.ntmps7
    go_wp2_with fail
    refine (readTextT_no s _ h2 hok (unhide HE)).mono ?_
    rintro e w1 ⟨rfl, hb⟩
    have HB := hide hb
    clear hb
    go_wp2
    go_ret2
    exact ⟨.slice none 0 0, ret_ni rfl (unhide HF).1.symm, by rw [(unhide HF).2]; exact OwnN.nil _ _ _, unhide HB⟩

end Go.Proofs.YtjoafbkcnnhdiaaDoor

/- Contracts of the model's tables: TableOK, EncodeTable, DecodeTable, EntryOf, ResizeTable, ClustersOf. -/
namespace Go.Proofs.YtjoafbkcnnhdiaaDoor
open Go.RowKit
set_option linter.unusedVariables false
set_option maxRecDepth 100000

set_option maxHeartbeats 800000 in
theorem tableOK_spec (ao : Option Addr) (cap : Nat) (xs : List Int) (w : World) (hl : xs.length ≤ maxLen) (hc : Is w ao xs) :
    Calls Tryd.prog 18 #[.slice ao xs.length cap] w fun e w' => e = .returned (.bool (tbB xs)) ∧ w' = w := by
  have HC := hide hc
  clear hc
  unfold maxLen at hl
  by_cases hlong : 4096 < xs.length
  · have HF := hide (tbB_nolen (xs := xs) (by omega))
    go_enter Tryd.func18, Tryd.ntmps18
    go_wp2
    go_ret
    exact ⟨ret_bool (unhide HF).symm, rfl⟩
  go_enter Tryd.func18, Tryd.ntmps18
  go_wp2
  go_loop [3] (fun i => ∃ k : Nat, k ≤ xs.length ∧ i = .int .i64 k ∧ Hid (∀ j (h : j < xs.length), j < k → ent1 xs[j] = true)) (fun i => xs.length - (intOf i).toNat)
  case atStart => exact ⟨0, Nat.zero_le _, rfl, hide (fun j _ h => by omega)⟩
  case round =>
    obtain ⟨k, hk, rfl, HA⟩ := hrel
    by_cases hlt : k < xs.length
    · obtain ⟨b, off, rfl, hc⟩ := unhide HC k hlt
      by_cases hn : ent1 xs[k] = true
      · have HN := hide (all_succ hlt (unhide HA) hn)
        have hn' : betw xs[k] 0 25 = true := hn
        clear hn
        go_wp2_with (go_at_call 33; refine (in_any _ _ _ _).mono ?_; rintro e w' ⟨rfl, rfl⟩)
        go_round
        case rel => exact ⟨k + 1, by omega, by go_num, HN⟩
        case measure => simp [intOf]; omega
      · have hn0 : ent1 xs[k] = false := by simpa using hn
        have hn' : betw xs[k] 0 25 = false := hn0
        have HF := hide (tbB_noat hlt hn0)
        clear hn hn0
        go_wp2_with (go_at_call 33; refine (in_any _ _ _ _).mono ?_; rintro e w' ⟨rfl, rfl⟩)
        go_ret
        exact ⟨ret_bool (unhide HF).symm, rfl⟩
    · have HF := hide (tbB_all (fun j h => unhide HA j h (by omega)))
      go_wp2
      go_ret
      exact ⟨ret_bool (by rw [unhide HF, Bool.eq_iff_iff]; simp; omega), rfl⟩

theorem l09Encode_any (ao : Option Addr) (cap : Nat) (xs : List Int) (w : World) (hb : tbB xs = true) (hc : Is w ao xs) :
    Calls Tryd.prog 19 #[.slice ao xs.length cap] w fun e w' => e = .returned (.string (encTb xs)) ∧ Below w.heap.size w w' := by
  have HL := hide (tbB_len hb)
  have HIN : Hid (∀ j (h : j < xs.length), 0 ≤ xs[j] ∧ xs[j] ≤ 2147483647) := hide (fun j h => by have := tbB_at hb j h; omega)
  have HC := hide hc
  clear hb hc
  go_enter Tryd.func19, Tryd.ntmps19
  go_wp2_with fail
  refine (l02Seal_any 3 ao cap xs _ (by omega) (by have := unhide HL; omega) (unhide HIN) (unhide HC)).mono ?_
  rintro e w1 ⟨rfl, hb⟩
  have HB := hide hb
  clear hb
  go_wp2
  go_ret
  exact ⟨rfl, unhide HB⟩

set_option maxHeartbeats 1600000 in
theorem encodeTable_spec (ao : Option Addr) (cap : Nat) (xs : List Int) (w : World) (hl : xs.length ≤ maxLen) (hc : Is w ao xs) :
    Calls Tryd.prog 6 #[.slice ao xs.length cap] w fun e w' => e = .returned (.tuple #[.string (etR xs), .int .i64 (tbF xs)]) ∧ Below w.heap.size w w' := by
  have HC := hide hc
  have HL := hide hl
  unfold maxLen at hl
  clear hc
  rcases tbF_cases xs with ⟨h1, h2⟩ | ⟨h1, hb, h2⟩ | ⟨hb, h2⟩
  · have HE : Hid (etR xs = ⟨#[]⟩ ∧ tbF xs = 2) := hide ⟨by rw [etR, h2]; rfl, h2⟩
    clear h2
    go_enter Tryd.func6, Tryd.ntmps6
    go_wp2
    go_ret2
    exact ⟨ret_si (unhide HE).1.symm (unhide HE).2.symm, Below.refl _ _⟩
  · have HE : Hid (etR xs = ⟨#[]⟩ ∧ tbF xs = 1) := hide ⟨by rw [etR, h2]; rfl, h2⟩
    clear h2
    go_enter Tryd.func6, Tryd.ntmps6
    go_wp2_with (go_at_call 18; refine (tableOK_spec _ _ xs _ (unhide HL) (unhide HC)).mono ?_; rintro e w' ⟨rfl, hw⟩; replace hw := hw.symm; subst hw; rw [hb])
    go_ret2
    exact ⟨ret_si (unhide HE).1.symm (unhide HE).2.symm, Below.refl _ _⟩
  · have HE : Hid (etR xs = encTb xs ∧ tbF xs = 0) := hide ⟨by rw [etR, h2]; rfl, h2⟩
    have h4 : ¬ (4096 : Int) < (xs.length : Int) := by have := tbB_len hb; omega
    clear h2
    go_enter Tryd.func6, Tryd.ntmps6
    go_wp2_with (go_at_call 18; refine (tableOK_spec _ _ xs _ (unhide HL) (unhide HC)).mono ?_; rintro e w' ⟨rfl, hw⟩; replace hw := hw.symm; subst hw; rw [hb])
    refine (l09Encode_any ao cap xs _ hb (unhide HC)).mono ?_
    rintro e w1 ⟨rfl, hb1⟩
    have HB := hide hb1
    clear hb1
    go_wp2
    go_ret2
    exact ⟨ret_si (unhide HE).1.symm (unhide HE).2.symm, unhide HB⟩

def tdO (s : ByteArray) : List Int := if tdB s = true then openL s 3 else []
set_option maxHeartbeats 1600000 in
theorem l09Clusters_any (ao : Option Addr) (cap : Nat) (xs : List Int) (w : World) (hl : xs.length ≤ 1048576) (hi : ∀ j (h : j < xs.length), -1000 ≤ xs[j] ∧ xs[j] ≤ 1000) (hc : Is w ao xs) :
    Calls Tryd.prog 25 #[.slice ao xs.length cap] w fun e w' => ∃ v, e = .returned v ∧ OwnN w' w.heap.size v (clA xs) ∧ Below w.heap.size w w' := by
  obtain ⟨j0, hj, hy0, hy1, hy2⟩ := info_parts infoM
  have HC := hide hc
  have HI := hide hi
  have HA : Hid (Below w.heap.size w (w.alloc (.cells #[] 3))) := hide (Joins.below_alloc1 _ _)
  clear hc hi
  go_enter Tryd.func25, Tryd.ntmps25
  go_wp2
  go_loopw [3, 4] (fun o i wr => ∃ (k : Nat) (ys : List Int) (qo : Option Addr) (qa : Nat), k ≤ xs.length ∧ i = .int .i64 k ∧ o = .slice qo ys.length qa ∧ Hid (ys = clTo xs k) ∧ Hid (OwnR wr w.heap.size 3 1 (.slice qo ys.length qa) ys.length (intV ys)) ∧ Hid (Below w.heap.size w wr)) (fun _ i _ => xs.length - (intOf i).toNat)
  case atStart => exact ⟨0, [], _, _, Nat.zero_le _, rfl, rfl, hide rfl, hide (.inl ⟨rfl, rfl, _, rfl⟩), HA⟩
  case round =>
    obtain ⟨k, ys, qo, qa, hk, rfl, rfl, HE, HO, HB⟩ := hrel
    by_cases hlt : k < xs.length
    · obtain ⟨b, off, rfl, hcl⟩ := (unhide HC).below (unhide HB) k hlt
      obtain ⟨i0, i1⟩ := unhide HI k hlt
      by_cases h2 : 2 ≤ xs[k]
      · have HS := hide (clTo_data hlt h2)
        have HYL : Hid (ys.length ≤ 1048576) := hide (by rw [unhide HE]; have := clTo_len xs k; omega)
        have hyl := unhide HYL
        have HOA := hide ((unhide HO).below (Joins.below_alloc1 _ (.cells #[.int .i64 (xs[k] - 2)] 3)))
        have HBA := hide (fr (unhide HB) (Joins.below_alloc1 _ (.cells #[.int .i64 (xs[k] - 2)] 3)))
        have HSZ := hide (unhide HB).size
        go_wp2_with (at_builtin; refine wpList_append_one rfl _ _ 23 rfl w.heap.size 3 j0 (.int .i64 0) 1 8 Tryd.underlying23 hj hy0 hy1 hy2 rfl (by omega) qo ys.length qa (intV ys) rfl (unhide HOA) (by have := unhide HSZ; simp; omega) ⟨wr.heap.size, 0, none⟩ _ [.int .i64 (xs[k] - 2)] rfl rfl (byte_news wr _ _) (int_one _) (by unfold maxLen; omega) (by omega) ?_; intro g2 cap2 wA hoA hkA; have HSF := hide (And.intro hoA (keep_below (unhide HBA) (unhide HOA) (Nat.le_refl _) hkA)); clear hoA hkA)
        go_roundw
        case rel => exact ⟨k + 1, ys ++ [xs[k] - 2], some ⟨g2, 0, none⟩, cap2, by omega, by go_num, by simp, hide (by rw [unhide HS, unhide HE]), hide (by rw [List.length_append, intV_snoc]; exact .inr ⟨by simp, (unhide HSF).1⟩), hide (unhide HSF).2⟩
        case measure => simp [intOf]; omega
      · have HS := hide (clTo_none hlt h2)
        go_wp2
        go_roundw
        case rel => exact ⟨k + 1, ys, qo, qa, by omega, by go_num, rfl, hide (by rw [unhide HS, unhide HE]), HO, HB⟩
        case measure => simp [intOf]; omega
    · have HS : Hid (clA xs = ys) := hide (by rw [unhide HE, clA, show k = xs.length by omega])
      go_wp2
      go_ret
      exact ⟨.slice qo ys.length qa, rfl, by rw [unhide HS]; exact ⟨qo, qa, rfl, unhide HO⟩, unhide HB⟩

set_option maxHeartbeats 1600000 in
theorem clustersOf_spec (ao : Option Addr) (cap : Nat) (xs : List Int) (w : World) (hl : xs.length ≤ maxLen) (hc : Is w ao xs) :
    Calls Tryd.prog 11 #[.slice ao xs.length cap] w fun e w' => ∃ v, e = .returned (.tuple #[v, .int .i64 (tbF xs)]) ∧ OwnN w' w.heap.size v (clL xs) ∧ Below w.heap.size w w' := by
  have HC := hide hc
  have HL := hide hl
  unfold maxLen at hl
  clear hc
  rcases tbF_cases xs with ⟨h1, h2⟩ | ⟨h1, hb, h2⟩ | ⟨hb, h2⟩
  · have HE : Hid (clL xs = [] ∧ tbF xs = 2) := hide ⟨by rw [clL, h2]; rfl, h2⟩
    clear h2
    go_enter Tryd.func11, Tryd.ntmps11
    go_wp2
    go_ret2
    exact ⟨.slice (some ⟨w.heap.size, 0, none⟩) 0 0, ret_ni rfl (unhide HE).2.symm, by rw [(unhide HE).1]; exact OwnN.nil _ _ _, Joins.below_alloc1 _ _⟩
  · have HE : Hid (clL xs = [] ∧ tbF xs = 1) := hide ⟨by rw [clL, h2]; rfl, h2⟩
    clear h2
    go_enter Tryd.func11, Tryd.ntmps11
    go_wp2_with (go_at_call 18; refine (tableOK_spec _ _ xs _ (unhide HL) (unhide HC)).mono ?_; rintro e w' ⟨rfl, hw⟩; replace hw := hw.symm; subst hw; rw [hb])
    go_ret2
    exact ⟨.slice (some ⟨w.heap.size, 0, none⟩) 0 0, ret_ni rfl (unhide HE).2.symm, by rw [(unhide HE).1]; exact OwnN.nil _ _ _, Joins.below_alloc1 _ _⟩
  · have HE : Hid (clL xs = clA xs ∧ tbF xs = 0) := hide ⟨by rw [clL, h2]; rfl, h2⟩
    have hx := tbB_len hb
    have h4 : ¬ (4096 : Int) < (xs.length : Int) := by omega
    have HIN : Hid (∀ j (h : j < xs.length), -1000 ≤ xs[j] ∧ xs[j] ≤ 1000) := hide (fun j h => by have := tbB_at hb j h; omega)
    clear h2
    go_enter Tryd.func11, Tryd.ntmps11
    go_wp2_with (go_at_call 18; refine (tableOK_spec _ _ xs _ (unhide HL) (unhide HC)).mono ?_; rintro e w' ⟨rfl, hw⟩; replace hw := hw.symm; subst hw; rw [hb])
    refine (l09Clusters_any ao cap xs _ (by omega) (unhide HIN) (unhide HC)).mono ?_
    rintro e w1 ⟨v, rfl, ho, hb1⟩
    have HB := hide hb1
    have HO := hide ho
    clear hb1 ho
    go_wp2
    go_ret2
    exact ⟨v, ret_ni rfl (unhide HE).2.symm, by rw [(unhide HE).1]; exact unhide HO, unhide HB⟩

end Go.Proofs.YtjoafbkcnnhdiaaDoor

/- What stays beside a source of choices; contract of spec.l00Source. -/
namespace Go.Proofs.YtjoafbkcnnhdiaaDoor
open Go.RowKit
set_option linter.unusedVariables false
set_option maxRecDepth 100000

theorem keep_cell {S : Nat → Prop} {w w' : World} {a : Addr} {v : Value} (hk : Keep S w w') (ha : ¬ S a.block) (h : w.cell? a = some v) : w'.cell? a = some v := by
  have hl := World.block_lt_of_cell? _ _ h
  rw [← h]
  unfold World.cell?
  simp only [hk.block a.block hl ha]
theorem keep_new {w w1 w2 : World} {b : Nat} {S : Nat → Prop} (h : Keep (fun k => k = b) w w1) (hk : Keep S w1 w2) (hs : ∀ k, S k → w.heap.size ≤ k ∨ k = b) : Keep (fun k => k = b) w w2 :=
  ⟨hk.os.trans h.os, hk.tape.trans h.tape, hk.output.trans h.output, Nat.le_trans h.size hk.size, fun k hl hn => (hk.block k (Nat.lt_of_lt_of_le hl h.size) (fun hS => by
    rcases hs k hS with h1 | h1
    · omega
    · exact hn h1)).trans (h.block k hl hn)⟩
theorem SrcK.other {w w1 w2 : World} {b : Nat} {ao : Option Addr} {n cap m m0 : Nat} {S : Nat → Prop} (h0 : SrcK w b ao n cap m0) (h : SrcK w1 b ao n cap m) (hw : Keep (fun k => k = b) w w2) (hk : Keep S w1 w2) (hs : ¬ S b) : SrcK w2 b ao n cap m := by
  obtain ⟨x0, y0, _, _, _, _, hblk0⟩ := h0.src
  obtain ⟨x, y, c0, c1, c2, c3, c4⟩ := h.src
  refine ⟨⟨x, y, c0, c1, c2, c3, ?_⟩, h0.bytes.keep hblk0 (fun z h => by cases h) hw⟩
  rw [hk.block b (Array.getElem?_eq_some_iff.1 c4).1 hs]; exact c4

theorem source_any (ao : Option Addr) (n cap : Nat) (w : World) (hn : n ≤ 1048576) (hB : Bs w ao n) :
    Calls Tryd.prog 14 #[.slice ao n cap] w fun e w' => e = .returned (.pointer (some ⟨w.heap.size, 0, none⟩)) ∧ SrcK w' w.heap.size ao n cap 0 ∧ Below w.heap.size w w' ∧ w'.heap.size = w.heap.size + 1 := by
  go_enter Tryd.func14, Tryd.ntmps14
  go_wp2
  go_ret
  exact ⟨rfl, ⟨⟨0, (n : Int) % 1000, by omega, by omega, by omega, by omega, heap_alloc_new w _⟩, hB.below (Joins.below_alloc1 _ _)⟩, Joins.below_alloc1 _ _, by simp⟩

theorem keep_drop {w w' : World} {b : Nat} (h : Keep (fun k => k = b ∨ w.heap.size ≤ k) w w') : Keep (fun k => k = b) w w' :=
  ⟨h.os, h.tape, h.output, h.size, fun k hl hn => h.block k hl (fun e => by
    rcases e with e | e
    · exact hn e
    · omega)⟩
theorem blk_keep {S : Nat → Prop} {w w' : World} {k : Nat} {o : Obj} (hk : Keep S w w') (hs : ¬ S k) (h : w.heap[k]? = some o) : w'.heap[k]? = some o := by
  rw [hk.block k (Array.getElem?_eq_some_iff.1 h).1 hs]; exact h
theorem blk_below {w w' : World} {k : Nat} {o : Obj} (hk : Below w.heap.size w w') (h : w.heap[k]? = some o) : w'.heap[k]? = some o := by
  rw [hk.block k (Array.getElem?_eq_some_iff.1 h).1]; exact h
theorem blk_lt {w : World} {k : Nat} {o : Obj} (h : w.heap[k]? = some o) : k < w.heap.size := (Array.getElem?_eq_some_iff.1 h).1

end Go.Proofs.YtjoafbkcnnhdiaaDoor

/- Contracts of the model's drawn tables: table, TableOf. -/
namespace Go.Proofs.YtjoafbkcnnhdiaaDoor
open Go.RowKit
set_option linter.unusedVariables false
set_option maxRecDepth 100000

theorem ent_snoc {xs : List Int} {n : Int} (h : xs.all ent1 = true) (hn : ent1 n = true) : (xs ++ [n]).all ent1 = true := by simp [List.all_append, h, hn]

set_option maxHeartbeats 3200000 in
theorem table_k (b : Nat) (ao : Option Addr) (n cap m : Nat) (w : World) (hm : m ≤ 700000) (hn : n ≤ 1048576) (hs : SrcK w b ao n cap m) :
    Calls Tryd.prog 15 #[.pointer (some ⟨b, 0, none⟩)] w fun e w' => ∃ v xs, e = .returned v ∧ OwnN w' w.heap.size v xs ∧ tbB xs = true ∧ Keep (fun k => k = b) w w' := by
  have hbl := hs.lt
  have HS0 := hide hs
  clear hs
  obtain ⟨j0, hj, hy0, hy1, hy2⟩ := info_parts infoM
  have HSA := hide ((unhide HS0).below (Joins.below_alloc1 w (.cells #[] 3)))
  have HKA : Hid (Keep (fun k => k = b) w (w.alloc (.cells #[] 3))) := hide (Keep.of_below (Joins.below_alloc1 _ _))
  go_enter Tryd.func15, Tryd.ntmps15
  go_wp2_with fail
  refine (next_k b ao n cap m 13 _ (by omega) (by omega) (by omega) hn (unhide HSA)).mono ?_
  rintro e w1 ⟨r1, rfl, hr10, hr11, hs1, hk1⟩
  have HS1 := hide hs1
  have HK1 := hide ((unhide HKA).trans hk1)
  clear hs1 hk1
  obtain ⟨q, rfl⟩ := Int.eq_ofNat_of_zero_le hr10
  go_wp2
  go_loopw [3, 4] (fun o i wr => ∃ (j : Nat) (xs : List Int) (qo : Option Addr) (qa : Nat), xs.length + j ≤ 12 ∧ i = .int .i64 j ∧ o = .slice qo xs.length qa ∧ Hid (xs.all ent1 = true) ∧ Hid (OwnR wr w.heap.size 3 1 (.slice qo xs.length qa) xs.length (intV xs)) ∧ Hid (Keep (fun k => k = b) w wr) ∧ Hid (SrcK wr b ao n cap (m + 3 + 6 * xs.length))) (fun _ i _ => (intOf i).toNat)
  case atStart => exact ⟨q, [], _, _, by simp; omega, rfl, rfl, hide rfl, hide (.inl ⟨rfl, rfl, _, rfl⟩), HK1, HS1⟩
  case round =>
    obtain ⟨j, xs, qo, qa, hxj, rfl, rfl, HA, HO, HK, HS⟩ := hrel
    by_cases hlt : 0 < j
    · go_wp2_with fail
      refine (next_k b ao n cap (m + 3 + 6 * xs.length) 24 _ (by omega) (by omega) (by omega) hn (unhide HS)).mono ?_
      rintro e w2 ⟨r2, rfl, hr20, hr21, hs2, hk2⟩
      have HO2 := hide (((unhide HO).keep hk2 (fun g hg e => by have := ((unhide HO).ge g hg).1; omega)).below (Joins.below_alloc1 _ (.cells #[.int .i64 0, .int .i64 1, .int .i64 (2 + r2)] 3)))
      have HS2 := hide (hs2.below (Joins.below_alloc1 _ (.cells #[.int .i64 0, .int .i64 1, .int .i64 (2 + r2)] 3)))
      have HK2 := hide (((unhide HK).trans hk2).trans (Keep.of_below (Joins.below_alloc1 _ (.cells #[.int .i64 0, .int .i64 1, .int .i64 (2 + r2)] 3))))
      have hbl2 := hs2.lt
      clear hs2 hk2
      go_wp2_with fail
      refine (next_k b ao n cap (m + 3 + 6 * xs.length + 3) 3 _ (by omega) (by omega) (by omega) hn (unhide HS2)).mono ?_
      rintro e w3 ⟨r3, rfl, hr30, hr31, hs3, hk3⟩
      have hcA := keep_cell (a := ⟨w2.heap.size, 0, none⟩) (v := .int .i64 0) hk3 (by simp; omega) (by simp [go_sem])
      have hcB := keep_cell (a := ⟨w2.heap.size, 1, none⟩) (v := .int .i64 1) hk3 (by simp; omega) (by simp [go_sem])
      have hcC := keep_cell (a := ⟨w2.heap.size, 2, none⟩) (v := .int .i64 (2 + r2)) hk3 (by simp; omega) (by simp [go_sem])
      have HO3 := hide ((unhide HO2).keep hk3 (fun g hg e => by have := ((unhide HO2).ge g hg).1; omega))
      have HK3 := hide ((unhide HK2).trans hk3)
      have HS3 := hide hs3
      clear hs3 hk3
      have key : ∀ v : Int, 0 ≤ v → v ≤ 25 → Hid (ent1 v = true) := fun v h0 h1 => hide (betw_yes h0 h1)
      have HKEY := hide key
      clear key
      have hq : r3 = 0 ∨ r3 = 1 ∨ r3 = 2 := by omega
      rcases hq with rfl | rfl | rfl
      · have HCN := unhide HKEY 0 (by omega) (by omega)
        have HOA := hide ((unhide HO3).below (Joins.below_alloc1 _ (.cells #[.int .i64 0] 3)))
        have HKB := hide ((unhide HK3).trans (Keep.of_below (Joins.below_alloc1 _ (.cells #[.int .i64 0] 3))))
        have HSB := hide ((unhide HS3).below (Joins.below_alloc1 _ (.cells #[.int .i64 0] 3)))
        have HSZ := hide (unhide HK3).size
        go_wp2_with (at_builtin; refine wpList_append_one rfl _ _ 23 rfl w.heap.size 3 j0 (.int .i64 0) 1 8 Tryd.underlying23 hj hy0 hy1 hy2 rfl (by omega) qo xs.length qa (intV xs) rfl (unhide HOA) (by have := unhide HSZ; simp; omega) ⟨w3.heap.size, 0, none⟩ _ [.int .i64 0] rfl rfl (byte_news w3 _ _) (int_one _) (by unfold maxLen; omega) (by omega) ?_; intro g2 cap2 wA hoA hkA; have HSF := hide (And.intro hoA (keep_new (unhide HKB) hkA (fun k hk => .inl ((unhide HOA).ge k hk).1))); have HSC := hide ((unhide HS0).other (unhide HSB) (unhide HSF).2 hkA (fun hk => by have := ((unhide HOA).ge _ hk).1; omega)); clear hoA hkA)
        go_roundw
        case rel => exact ⟨j - 1, xs ++ [0], some ⟨g2, 0, none⟩, cap2, by simp; omega, by go_num, by simp, hide (ent_snoc (unhide HA) (unhide HCN)), hide (by rw [List.length_append, intV_snoc]; exact .inr ⟨by simp, (unhide HSF).1⟩), hide (unhide HSF).2, hide (by rw [List.length_append]; exact (unhide HSC).more (by simp; omega))⟩
        case measure => simp [intOf]; omega
      · have HCN := unhide HKEY 1 (by omega) (by omega)
        have HOA := hide ((unhide HO3).below (Joins.below_alloc1 _ (.cells #[.int .i64 1] 3)))
        have HKB := hide ((unhide HK3).trans (Keep.of_below (Joins.below_alloc1 _ (.cells #[.int .i64 1] 3))))
        have HSB := hide ((unhide HS3).below (Joins.below_alloc1 _ (.cells #[.int .i64 1] 3)))
        have HSZ := hide (unhide HK3).size
        go_wp2_with (at_builtin; refine wpList_append_one rfl _ _ 23 rfl w.heap.size 3 j0 (.int .i64 0) 1 8 Tryd.underlying23 hj hy0 hy1 hy2 rfl (by omega) qo xs.length qa (intV xs) rfl (unhide HOA) (by have := unhide HSZ; simp; omega) ⟨w3.heap.size, 0, none⟩ _ [.int .i64 1] rfl rfl (byte_news w3 _ _) (int_one _) (by unfold maxLen; omega) (by omega) ?_; intro g2 cap2 wA hoA hkA; have HSF := hide (And.intro hoA (keep_new (unhide HKB) hkA (fun k hk => .inl ((unhide HOA).ge k hk).1))); have HSC := hide ((unhide HS0).other (unhide HSB) (unhide HSF).2 hkA (fun hk => by have := ((unhide HOA).ge _ hk).1; omega)); clear hoA hkA)
        go_roundw
        case rel => exact ⟨j - 1, xs ++ [1], some ⟨g2, 0, none⟩, cap2, by simp; omega, by go_num, by simp, hide (ent_snoc (unhide HA) (unhide HCN)), hide (by rw [List.length_append, intV_snoc]; exact .inr ⟨by simp, (unhide HSF).1⟩), hide (unhide HSF).2, hide (by rw [List.length_append]; exact (unhide HSC).more (by simp; omega))⟩
        case measure => simp [intOf]; omega
      · have HCN := unhide HKEY (2 + r2) (by omega) (by omega)
        have HOA := hide ((unhide HO3).below (Joins.below_alloc1 _ (.cells #[.int .i64 (2 + r2)] 3)))
        have HKB := hide ((unhide HK3).trans (Keep.of_below (Joins.below_alloc1 _ (.cells #[.int .i64 (2 + r2)] 3))))
        have HSB := hide ((unhide HS3).below (Joins.below_alloc1 _ (.cells #[.int .i64 (2 + r2)] 3)))
        have HSZ := hide (unhide HK3).size
        go_wp2_with (at_builtin; refine wpList_append_one rfl _ _ 23 rfl w.heap.size 3 j0 (.int .i64 0) 1 8 Tryd.underlying23 hj hy0 hy1 hy2 rfl (by omega) qo xs.length qa (intV xs) rfl (unhide HOA) (by have := unhide HSZ; simp; omega) ⟨w3.heap.size, 0, none⟩ _ [.int .i64 (2 + r2)] rfl rfl (byte_news w3 _ _) (int_one _) (by unfold maxLen; omega) (by omega) ?_; intro g2 cap2 wA hoA hkA; have HSF := hide (And.intro hoA (keep_new (unhide HKB) hkA (fun k hk => .inl ((unhide HOA).ge k hk).1))); have HSC := hide ((unhide HS0).other (unhide HSB) (unhide HSF).2 hkA (fun hk => by have := ((unhide HOA).ge _ hk).1; omega)); clear hoA hkA)
        go_roundw
        case rel => exact ⟨j - 1, xs ++ [2 + r2], some ⟨g2, 0, none⟩, cap2, by simp; omega, by go_num, by simp, hide (ent_snoc (unhide HA) (unhide HCN)), hide (by rw [List.length_append, intV_snoc]; exact .inr ⟨by simp, (unhide HSF).1⟩), hide (unhide HSF).2, hide (by rw [List.length_append]; exact (unhide HSC).more (by simp; omega))⟩
        case measure => simp [intOf]; omega
    · go_wp2
      go_ret
      exact ⟨.slice qo xs.length qa, xs, rfl, ⟨qo, qa, rfl, unhide HO⟩, by rw [tbB, unhide HA, decide_eq_true (show xs.length ≤ 12 by omega)]; rfl, unhide HK⟩

theorem tableOf_any (ao : Option Addr) (n cap : Nat) (w : World) (hn : n ≤ 1048576) (hB : Bs w ao n) :
    Calls Tryd.prog 4 #[.slice ao n cap] w fun e w' => ∃ v xs, e = .returned v ∧ OwnN w' w.heap.size v xs ∧ tbB xs = true ∧ Below w.heap.size w w' := by
  go_enter Tryd.func4, Tryd.ntmps4
  go_wp2_with fail
  refine (source_any ao n cap _ hn hB).mono ?_
  rintro e w1 ⟨rfl, hs1, hb1, hz⟩
  go_wp2_with fail
  refine (table_k _ ao n cap 0 _ (by omega) hn hs1).mono ?_
  rintro e w2 ⟨v, xs, rfl, ho, ha, hk⟩
  have HO := hide (ho.base (B' := w.heap.size) (by omega))
  have HB := hide (hb1.trans (hk.below (B := w.heap.size) (by omega) (fun k hk => by omega)))
  clear ho hb1 hk hs1
  go_wp2
  go_ret
  exact ⟨v, xs, rfl, unhide HO, ha, unhide HB⟩

end Go.Proofs.YtjoafbkcnnhdiaaDoor

/- The walk of laws.FnTable. -/
namespace Go.Proofs.YtjoafbkcnnhdiaaDoor
open Go.RowKit
set_option linter.unusedVariables false
set_option maxRecDepth 100000

theorem same_rows (ao bo : Option Addr) (ca cb n m : Nat) (xs ys : List Int) (w : World) (he : ys = xs) (hn : xs.length = n) (hm : ys.length = m) (hl : n ≤ maxLen) (hc : Is w ao ys) (hd : Is w bo xs) :
    Calls Tryd.prog 12 #[.slice ao m ca, .slice bo n cb] w fun e w' => e = .returned (.bool true) ∧ Below w.heap.size w w' := by
  subst he hn hm
  refine (sameInts_any ao bo ca cb ys ys w hl hc hd).mono ?_
  rintro e w' ⟨rfl, hb⟩
  rw [eqNB_self]
  exact ⟨rfl, hb⟩

theorem rzTo_get {xs : List Int} {q k : Nat} (hk : k < q) : (rzTo xs q)[k]? = some (xs.getD k 0) := by simp [rzTo, hk]
theorem rzTo_ok {xs : List Int} {q : Nat} (h : tbB xs = true) (hq : q ≤ 12) : tbB (rzTo xs q) = true := by
  refine tbB_of (by rw [rzTo_len]; exact hq) (fun i hi => ?_)
  have hiq : i < q := by rwa [rzTo_len] at hi
  have e := rzTo_get (xs := xs) hiq
  rw [List.getElem?_eq_getElem hi] at e
  rw [Option.some.inj e]
  by_cases hx : i < xs.length
  · have := tbB_at h i hx
    simp only [List.getD, List.getElem?_eq_getElem hx, Option.getD_some]
    exact betw_yes this.1 this.2
  · simp only [List.getD, List.getElem?_eq_none (show xs.length ≤ i by omega), Option.getD_none]
    rfl
/-- What EntryOf answers of a table of another size. -/
theorem rz_entry {xs : List Int} {q k : Nat} (h : tbB xs = true) (hq : q ≤ 12) (hk : k < q) : enF (rzTo xs q) (k : Int) = 0 ∧ enK (rzTo xs q) (k : Int) = min (xs.getD k 0) 2 ∧ enC (rzTo xs q) (k : Int) = max 0 (xs.getD k 0 - 2) := by
  have hl := rzTo_len xs q
  rcases en_cases (rzTo xs q) (k : Int) with ⟨h0, _⟩ | ⟨_, hg, _⟩ | ⟨_, p, e, hp, h1, h2, h3⟩
  · exact absurd (tbF_ok (rzTo_ok h hq)) h0
  · rw [betw_yes (by omega) (by rw [hl]; omega)] at hg; cases hg
  · obtain rfl : k = p := by omega
    have e2 := rzTo_get (xs := xs) hk
    rw [List.getElem?_eq_getElem hp] at e2
    rw [Option.some.inj e2] at h2 h3
    exact ⟨h1, h2, h3⟩

set_option maxHeartbeats 1600000 in
theorem lawTable (ao : Option Addr) (ca n : Nat) (bo : Option Addr) (cb m : Nat) (w : World) (hn : n ≤ maxLen) (hB : Bs w ao n) (hm : m ≤ maxLen) (hC : Bs w bo m) (hE : ErrW w) :
    Calls Tryd.prog 3 #[.slice ao n ca, .slice bo m cb] w fun e w' => e = .returned (.bool true) ∧ Below w.heap.size w w' := by
  have HE := hide hE
  have HBS := hide hB
  have HCS := hide hC
  clear hE hB hC
  unfold maxLen at hn hm
  by_cases h : 1048576 < n
  · go_enter Tryd.func3, Tryd.ntmps3
    go_wp2
    go_ret
    exact ⟨rfl, Below.refl _ _⟩
  by_cases h' : 1048576 < m
  · go_enter Tryd.func3, Tryd.ntmps3
    go_wp2
    go_ret
    exact ⟨rfl, Below.refl _ _⟩
  have hn' : n ≤ 1048576 := by omega
  have hm' : m ≤ 1048576 := by omega
  go_enter Tryd.func3, Tryd.ntmps3
  go_wp2_with fail
  refine (tableOf_any ao n ca _ hn' (unhide HBS)).mono ?_
  rintro e w1 ⟨v, xs, rfl, ⟨qo, qa, rfl, ho⟩, htb, hb1⟩
  have HB1 := hide hb1
  have HI1 := hide (ownRN ho)
  have HTB := hide htb
  have H12 := hide (tbB_len htb)
  have HM : Hid (xs.length ≤ maxLen) := hide (by have := tbB_len htb; unfold maxLen; omega)
  have HEC : Hid (etR xs = encTb xs ∧ tbF xs = 0 ∧ clL xs = clA xs) := hide ⟨if_pos (tbF_ok htb), tbF_ok htb, if_pos (tbF_ok htb)⟩
  have HDC := hide (enc_td htb)
  clear ho hb1 htb
  go_wp2_with fail
  refine (encodeTable_impl qo qa xs _ (unhide HM) (unhide HI1)).mono ?_
  rintro e w2 ⟨rfl, hb⟩
  rw [(unhide HEC).1, (unhide HEC).2.1]
  have HB2 := hide (fr (unhide HB1) hb)
  have HI2 := hide ((unhide HI1).below hb)
  clear hb HB1 HI1
  go_wp2_with fail
  refine (encodeTable_spec qo qa xs _ (unhide HM) (unhide HI2)).mono ?_
  rintro e w3 ⟨rfl, hb⟩
  rw [(unhide HEC).1, (unhide HEC).2.1]
  have HB3 := hide (fr (unhide HB2) hb)
  have HI3 := hide ((unhide HI2).below hb)
  clear hb HB2 HI2
  go_wp2_with fail
  refine (decodeTable_impl (encTb xs) _ ((unhide HE).below (unhide HB3))).mono ?_
  rintro e w4 ⟨v4, rfl, ⟨do4, da4, rfl, ho⟩, hb⟩
  rw [(unhide HDC).1]
  have HJ4 := hide (ownRN ho)
  have HB4 := hide (fr (unhide HB3) hb)
  have HI4 := hide ((unhide HI3).below hb)
  have HLL : Hid (tdR (encTb xs) = xs) := hide (unhide HDC).2
  clear hb ho HB3 HI3 HDC
  generalize tdR (encTb xs) = L4 at *
  generalize encTb xs = T4 at *
  go_wp2_with fail
  refine (at_any bo m cb 0 13 _ hm' (by omega) (by omega) (by omega) (by omega) ((unhide HCS).below (unhide HB4))).mono ?_
  rintro e w5 ⟨r, rfl, hr0, hr1, hb⟩
  obtain ⟨q, rfl⟩ := Int.eq_ofNat_of_zero_le hr0
  have HB5 := hide (fr (unhide HB4) hb)
  have HI5 := hide ((unhide HI4).below hb)
  have HJ5 := hide ((unhide HJ4).below hb)
  clear hb HB4 HI4 HJ4
  have hq12 : q ≤ 12 := by omega
  have HRZ : Hid (rzF xs (q : Int) = 0 ∧ rzL xs (q : Int) = rzTo xs q) := hide (by
    rcases rz_cases xs (q : Int) with ⟨h0, _⟩ | ⟨_, hg, _⟩ | ⟨_, p, e, hp, h1, h2⟩
    · exact absurd (unhide HEC).2.1 h0
    · rw [betw_yes (by omega) (by omega)] at hg; cases hg
    · obtain rfl : q = p := by omega
      exact ⟨h1, h2⟩)
  go_wp2_with fail
  refine (resizeTable_impl qo qa xs q _ (unhide HM) (unhide HI5)).mono ?_
  rintro e w6 ⟨v6, rfl, ho6, hb⟩
  rw [(unhide HRZ).2] at ho6
  obtain ⟨uo, ua, rfl, ho⟩ := ho6
  rw [(unhide HRZ).1]
  have HU6 := hide (ownRN ho)
  have HB6 := hide (fr (unhide HB5) hb)
  have HI6 := hide ((unhide HI5).below hb)
  have HJ6 := hide ((unhide HJ5).below hb)
  clear hb ho HB5 HI5 HJ5
  have HZL := hide (rzTo_len xs q)
  have HZM : Hid ((rzTo xs q).length ≤ maxLen) := hide (by rw [unhide HZL]; unfold maxLen; omega)
  have HEN : Hid (∀ k, k < q → enF (rzTo xs q) (k : Int) = 0 ∧ enK (rzTo xs q) (k : Int) = min (xs.getD k 0) 2 ∧ enC (rzTo xs q) (k : Int) = max 0 (xs.getD k 0 - 2)) := hide (fun k hk => rz_entry (unhide HTB) hq12 hk)
  have bul : (((rzTo xs q).length : Int) != (q : Int)) = false := by rw [unhide HZL]; simp
  generalize rzTo xs q = Z at *
  go_wp2_with fail
  refine (clustersOf_impl qo qa xs _ (unhide HM) (unhide HI6)).mono ?_
  rintro e w7 ⟨v7, rfl, ⟨co, cca, rfl, ho⟩, hb⟩
  rw [(unhide HEC).2.1]
  have HC7 := hide (ownRN ho)
  have HB7 := hide (fr (unhide HB6) hb)
  have HI7 := hide ((unhide HI6).below hb)
  have HJ7 := hide ((unhide HJ6).below hb)
  have HU7 := hide ((unhide HU6).below hb)
  clear hb ho HB6 HI6 HJ6 HU6
  go_wp2_with fail
  refine (clustersOf_spec qo qa xs _ (unhide HM) (unhide HI7)).mono ?_
  rintro e w8 ⟨v8, rfl, ⟨eo, eca, rfl, ho⟩, hb⟩
  rw [(unhide HEC).2.1]
  have HD8 := hide (ownRN ho)
  have HC8 := hide ((unhide HC7).below hb)
  have HB8 := hide (fr (unhide HB7) hb)
  have HI8 := hide ((unhide HI7).below hb)
  have HJ8 := hide ((unhide HJ7).below hb)
  have HU8 := hide ((unhide HU7).below hb)
  have HCM : Hid ((clL xs).length ≤ maxLen) := hide (by have := clL_len xs; unfold maxLen; omega)
  clear hb ho HB7 HI7 HJ7 HU7 HC7
  generalize clL xs = K at *
  go_wp2_with fail
  refine (same_rows do4 _ da4 _ _ _ xs L4 _ (unhide HLL) rfl rfl (unhide HM) (unhide HJ8) (unhide HI8)).mono ?_
  rintro e w9 ⟨rfl, hb⟩
  have HD9 := hide ((unhide HD8).below hb)
  have HC9 := hide ((unhide HC8).below hb)
  have HB9 := hide (fr (unhide HB8) hb)
  have HI9 := hide ((unhide HI8).below hb)
  have HU9 := hide ((unhide HU8).below hb)
  clear hb HB8 HI8 HJ8 HU8 HC8 HD8
  go_wp2_with fail
  refine (same_rows co _ cca _ _ _ K K _ rfl rfl rfl (unhide HCM) (unhide HC9) (unhide HD9)).mono ?_
  rintro e w10 ⟨rfl, hb⟩
  have HB10 := hide (fr (unhide HB9) hb)
  have HI10 := hide ((unhide HI9).below hb)
  have HU10 := hide ((unhide HU9).below hb)
  clear hb HB9 HI9 HU9 HC9 HD9
  go_wp2
  go_loopw [19] (fun i wr => ∃ k : Nat, k ≤ q ∧ i = .int .i64 k ∧ Hid (Below w10.heap.size w10 wr)) (fun i _ => q - (intOf i).toNat)
  case atStart => exact ⟨0, Nat.zero_le _, rfl, hide (Below.refl _ _)⟩
  case round =>
    obtain ⟨k, hk, rfl, HBR⟩ := hrel
    by_cases hlt : k < q
    · have hlti : (k : Int) < (q : Int) := by omega
      have HEK := hide (unhide HEN k hlt)
      by_cases hx : k < xs.length
      · obtain ⟨b, off, rfl, hcl0⟩ := (unhide HI10).below (unhide HBR) k hx
        have hxi : (k : Int) < (xs.length : Int) := by omega
        have hge : xs.getD k 0 = xs[k] := by simp [List.getD, hx]
        rw [hge] at HEK
        have HAT := hide (tbB_at (unhide HTB) k hx)
        clear hge
        go_wp2_with fail
        refine (entryOf_impl uo ua Z k _ (unhide HZM) ((unhide HU10).below (unhide HBR))).mono ?_
        rintro e w11 ⟨rfl, hb⟩
        rw [(unhide HEK).1, (unhide HEK).2.1, (unhide HEK).2.2]
        have HB11 := hide (fr (unhide HBR) hb)
        have hcl := (hb.cell (World.block_lt_of_cell? _ _ hcl0)).trans hcl0
        clear hb hcl0
        obtain ⟨i0, i1⟩ := unhide HAT
        generalize xs[k] = X at *
        have hw2 : IntKind.i64.wrap (X - 2) = X - 2 := by rw [IntKind.wrap_i64]; omega
        by_cases h2 : 2 ≤ X
        · have e1 : min X 2 = 2 := by omega
          have e2 : max 0 (X - 2) = X - 2 := by omega
          rw [e1, e2]
          go_wp2
          go_roundw
          case rel => exact ⟨k + 1, by omega, by go_num, HB11⟩
          case measure => simp [intOf]; omega
        · have e1 : min X 2 = X := by omega
          have e2 : max 0 (X - 2) = 0 := by omega
          have e3 : (X == 2) = false := beq_eq_false_iff_ne.2 (by omega)
          have e4 : (X != 2) = true := by simp; omega
          rw [e1, e2]
          go_wp2
          go_roundw
          case rel => exact ⟨k + 1, by omega, by go_num, HB11⟩
          case measure => simp [intOf]; omega
      · have hxi : ¬ (k : Int) < (xs.length : Int) := by omega
        have hge : xs.getD k 0 = 0 := by simp [List.getD, List.getElem?_eq_none (show xs.length ≤ k by omega)]
        rw [hge] at HEK
        clear hge
        go_wp2_with fail
        refine (entryOf_impl uo ua Z k _ (unhide HZM) ((unhide HU10).below (unhide HBR))).mono ?_
        rintro e w11 ⟨rfl, hb⟩
        rw [(unhide HEK).1, (unhide HEK).2.1, (unhide HEK).2.2]
        have HB11 := hide (fr (unhide HBR) hb)
        clear hb
        rw [show min (0 : Int) 2 = 0 from rfl, show max (0 : Int) (0 - 2) = 0 from rfl]
        go_wp2
        go_roundw
        case rel => exact ⟨k + 1, by omega, by go_num, HB11⟩
        case measure => simp [intOf]; omega
    · go_wp2
      go_ret
      exact ⟨rfl, fr (unhide HB10) (unhide HBR)⟩

end Go.Proofs.YtjoafbkcnnhdiaaDoor
