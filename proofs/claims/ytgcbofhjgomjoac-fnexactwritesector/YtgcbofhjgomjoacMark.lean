/- Contracts of the laws' marks: markText, markDisk, heldDisk. -/
import Derived.Test.YtgcbofhjgomjoacRows
import Derived.Test.YtgcbofhjgomjoacGen
import Derived.Test.YtgcbofhjgomjoacKeep
import Derived.WalkKit
import Derived.WalkSpells
import Derived.BigQuiet
import Derived.Deep.QuietTactic
import Derived.Deep.RegionWith
import Derived.Laws.BytesArg
namespace Go.Proofs.Ytgcbofhjgomjoac
open Go.RowKit
set_option linter.unusedVariables false

/-- The decimal digits of a number, as bytes; none of 0. -/
def digsF : Nat → Nat → List UInt8
  | 0, _ => []
  | f + 1, n => if n = 0 then [] else digsF f (n / 10) ++ [UInt8.ofNat (48 + n % 10)]
theorem digsF_more : ∀ (f n g : Nat), n ≤ f → n ≤ g → digsF f n = digsF g n
  | 0, n, g, h, _ => by
    have : n = 0 := by omega
    subst this
    cases g <;> simp [digsF]
  | f + 1, n, 0, _, h => by
    have : n = 0 := by omega
    subst this
    simp [digsF]
  | f + 1, n, g + 1, h1, h2 => by
    by_cases h : n = 0
    · subst h; simp [digsF]
    · rw [digsF, digsF, if_neg h, if_neg h, digsF_more f (n / 10) g (by omega) (by omega)]
def digs (n : Nat) : List UInt8 := digsF n n
theorem digs_zero : digs 0 = [] := rfl
theorem digs_pos {n : Nat} (h : n ≠ 0) : digs n = digs (n / 10) ++ [UInt8.ofNat (48 + n % 10)] := by
  obtain ⟨m, rfl⟩ : ∃ m, n = m + 1 := ⟨n - 1, by omega⟩
  rw [digs, digsF, if_neg h, digs, digsF_more m ((m + 1) / 10) ((m + 1) / 10) (by omega) (Nat.le_refl _)]
theorem ret_str1 {a b : ByteArray} (h : a = b) : Ending.returned (.string a) = .returned (.string b) := by rw [h]
def mtB (k : Nat) : ByteArray := ⟨(109 :: digs k).toArray⟩

set_option maxHeartbeats 1600000 in
theorem markText_any (k : Nat) (w : World) (h0 : 0 < k) (h1 : k ≤ 1073741824) :
    Calls Try.prog 62 #[.int .i64 k] w fun e w' => e = .returned (.string (mtB k)) ∧ Below w.heap.size w w' := by
  go_enter Try.func62, Try.ntmps62
  go_wp2
  go_loopw [0, 3] (fun n o wr => ∃ (m : Nat) (s : ByteArray), n = .int .i64 m ∧ o = .string s ∧ m ≤ k ∧ s.size + m ≤ k ∧ Hid (digs m ++ s.data.toList = digs k) ∧ Hid (Below w.heap.size w wr)) (fun n _ _ => (intOf n).toNat)
  case atStart => exact ⟨k, ⟨#[]⟩, rfl, rfl, Nat.le_refl _, by show 0 + k ≤ k; omega, hide (by simp), hide (Below.refl _ _)⟩
  case round =>
    obtain ⟨m, s, rfl, rfl, hm, hs, HD, HB⟩ := hrel
    by_cases hp : 0 < m
    · obtain ⟨d1, Hd1, hsz, hcv⟩ : ∃ d1 : ByteArray, Hid (d1.data.toList = [UInt8.ofNat (48 + m % 10)]) ∧ d1.size = 1 ∧ (convert 75 9 (.slice (some ⟨wr.heap.size, 0, none⟩) 1 1)).run Try.prog (wr.alloc (.cells #[.int .u8 (48 + (m : Int) % 10)] 5)) = .ok (.string d1) (wr.alloc (.cells #[.int .u8 (48 + (m : Int) % 10)] 5)) := by
        refine ⟨_, ?_, ?_, run_convert_bytes_arg _ 75 5 Try.underlying75 Try.underlying5 wr.heap.size 0 1 1 [48 + (m : Int) % 10] rfl ?_ 9 Try.underlying9⟩
        · have e : (48 + (m : Int) % 10).toNat = 48 + m % 10 := by omega
          exact hide (by simp [strOfNums, e])
        · simp [strOfNums, ByteArray.size]
        · intro i hi
          have : i = 0 := by omega
          subst this
          simp [go_sem]
      have HBA := hide (fun o => (unhide HB).alloc (unhide HB).size o)
      have hsum : (d1 ++ s).size = 1 + s.size := by rw [ByteArray.size_append, hsz]
      have hlist : (d1 ++ s).data.toList = d1.data.toList ++ s.data.toList := by simp
      have HSUM := hide hsum
      have HLIST := hide hlist
      clear hsum hlist
      go_wp2
      go_roundw
      case rel =>
        refine ⟨m / 10, d1 ++ s, ?_, rfl, by omega, by rw [unhide HSUM]; omega, hide ?_, hide (unhide HBA _)⟩
        · go_num
        · rw [unhide HLIST, unhide Hd1, ← List.append_assoc, ← digs_pos (by omega)]
          exact unhide HD
      case measure => simp [intOf]; omega
    · have H : Hid (({ data := #[109] } : ByteArray) ++ s = mtB k) := by
        have hm0 : m = 0 := by omega
        subst hm0
        have := unhide HD
        rw [digs_zero, List.nil_append] at this
        refine hide ?_
        unfold mtB
        rw [← this]
        apply ByteArray.ext
        simp
      go_wp2
      go_ret
      exact ⟨ret_str1 (unhide H), unhide HB⟩

/-- The marks of a row of texts, of a row of writes. -/
def mkS (k n : Nat) : List ByteArray := (List.range n).map fun i => mtB (k + i)
def mkI (k n : Nat) : List Wr := (List.range n).map fun i => ⟨(k + 3 * i : Nat), (k + 3 * i + 1 : Nat), mtB (k + 3 * i + 2)⟩
theorem mkS_length (k n : Nat) : (mkS k n).length = n := by simp [mkS]
theorem mkI_length (k n : Nat) : (mkI k n).length = n := by simp [mkI]
theorem mkS_get {k n j : Nat} (h : j < n) : (strV (mkS k n))[j]? = some (.string (mtB (k + j))) := by simp [strV, mkS, h]
theorem mkI_get {k n j : Nat} (h : j < (mkI k n).length) : (mkI k n)[j] = ⟨(k + 3 * j : Nat), (k + 3 * j + 1 : Nat), mtB (k + 3 * j + 2)⟩ := by simp [mkI]

set_option maxHeartbeats 1600000 in
theorem markStringS_any (v : Value) (n k : Nat) (xs : List Value) (B : Nat) (w : World) (hn : n ≤ 4194304) (hk0 : 0 < k) (hk1 : k ≤ 268435456) (ho : OwnR w B 9 1 v n xs) :
    Calls Try.prog 39 #[v, .int .i64 k] w fun e w' => e = .returned (.int .i64 ((k + n : Nat) : Int)) ∧ OwnR w' B 9 1 v n (strV (mkS k n)) ∧ Keep (Own v) w w' := by
  rcases ho with ⟨rfl, rfl, ao, rfl⟩ | ⟨hpos, ho'⟩
  · go_enter Try.func39, Try.ntmps39
    go_wp2
    refine wp_loop_rounds 1 ?_
    rw [rounds_succ]
    go_wp2
    go_ret
    refine ⟨ret_int (by simp), .inl ⟨rfl, rfl, ao, rfl⟩, Keep.refl _ _⟩
  · obtain ⟨g, cap, cur, rfl, _, _⟩ := own_form hpos ho'
    have HO := hide ho'
    clear ho'
    go_enter Try.func39, Try.ntmps39
    go_wp2
    go_loopw [1, 5] (fun kk i wr => ∃ (j : Nat) (ys : List Value), j ≤ n ∧ i = .int .i64 j ∧ kk = .int .i64 ((k + j : Nat) : Int) ∧ Hid (ys.length = n) ∧ Hid (ys.take j = (strV (mkS k n)).take j) ∧ Hid (wr.ownsRow B 9 1 (.slice (some ⟨g, 0, none⟩) n cap) n ys) ∧ Hid (Keep (Own (.slice (some ⟨g, 0, none⟩) n cap)) w wr)) (fun _ i _ => n - (intOf i).toNat)
    case atStart => exact ⟨0, xs, Nat.zero_le _, rfl, by simp, hide (by rw [(unhide HO).1]; omega), hide (by simp), HO, hide (Keep.refl _ _)⟩
    case round =>
      obtain ⟨j, ys, hj, rfl, rfl, HL, HT, HO, HK⟩ := hrel
      by_cases hlt : j < n
      · go_wp2_with fail
        refine (markText_any (k + j) _ (by omega) (by omega)).mono ?_
        rintro e w2 ⟨rfl, hb2⟩
        have HO2 := hide (own_below (unhide HO) hb2)
        have HK2 := hide ((unhide HK).trans (Keep.of_below hb2))
        clear hb2
        have hfr := (unhide HO2).frozenAt j
        obtain ⟨x0, hcx⟩ : ∃ x, w2.cell? ⟨g, j, none⟩ = some x := ⟨_, ((unhide HO2).cellAt j (by omega)).trans (List.getElem?_eq_getElem (by rw [unhide HL]; exact hlt))⟩
        have HST := hide ((unhide HO2).stored j (.string (mtB (k + j))))
        have HKS := hide ((unhide HK2).setCell (p := ⟨g, j, none⟩) (own_of hpos rfl) (.string (mtB (k + j))))
        go_wp2
        go_roundw
        case rel => exact ⟨j + 1, ys.set j (.string (mtB (k + j))), by omega, by go_num, by go_num, hide (by rw [List.length_set]; exact unhide HL), hide (set_take' (by rw [unhide HL, strV_length, mkS_length]) (mkS_get hlt) (unhide HT)), hide (unhide HST).1, HKS⟩
        case measure => simp [intOf]; omega
      · go_wp2
        go_ret
        have hjn : j = n := by omega
        subst hjn
        have hxs : ys = strV (mkS k j) := by
          have := unhide HT
          rwa [List.take_of_length_le (by rw [unhide HL]; exact Nat.le_refl _), List.take_of_length_le (by rw [strV_length, mkS_length]; exact Nat.le_refl _)] at this
        subst hxs
        exact ⟨rfl, .inr ⟨hpos, unhide HO⟩, unhide HK⟩

set_option maxHeartbeats 1600000 in
theorem heldStringS_any (v : Value) (n k : Nat) (B : Nat) (w : World) (hn : n ≤ 4194304) (hk0 : 0 < k) (hk1 : k ≤ 268435456) (ho : OwnR w B 9 1 v n (strV (mkS k n))) :
    Calls Try.prog 41 #[v, .int .i64 k] w fun e w' => e = .returned (.int .i64 ((k + n : Nat) : Int)) ∧ Below w.heap.size w w' := by
  rcases ho with ⟨rfl, _, ao, rfl⟩ | ⟨hpos, ho'⟩
  · go_enter Try.func41, Try.ntmps41
    go_wp2
    refine wp_loop_rounds 1 ?_
    rw [rounds_succ]
    go_wp2
    go_ret
    exact ⟨ret_int (by simp), Below.refl _ _⟩
  · obtain ⟨g, cap, cur, rfl, _, _⟩ := own_form hpos ho'
    have HO := hide ho'
    clear ho'
    go_enter Try.func41, Try.ntmps41
    go_wp2
    go_loopw [1, 5] (fun kk i wr => ∃ (j : Nat), j ≤ n ∧ i = .int .i64 j ∧ kk = .int .i64 ((k + j : Nat) : Int) ∧ Hid (Below w.heap.size w wr)) (fun _ i _ => n - (intOf i).toNat)
    case atStart => exact ⟨0, Nat.zero_le _, rfl, by simp, hide (Below.refl _ _)⟩
    case round =>
      obtain ⟨j, hj, rfl, rfl, HB⟩ := hrel
      by_cases hlt : j < n
      · have hcx : wr.cell? ⟨g, j, none⟩ = some (.string (mtB (k + j))) := ((own_below (unhide HO) (unhide HB)).cellAt j (by omega)).trans (mkS_get hlt)
        have hgl : g < wr.heap.size := World.block_lt_of_cell? _ _ hcx
        go_wp2
        go_region_with (go_at_call 62; refine (markText_any (k + j) _ (by omega) (by omega)).mono ?_; rintro e w2 ⟨rfl, hb2⟩; have hcy := (hb2.cell (p := ⟨g, j, none⟩) hgl).trans hcx)
        all_goals
          have HB2 : Hid (Below w.heap.size w w2) := hide (Below.trans (by repeat (first | exact unhide HB | apply Below.drew)) (hb2.mono (unhide HB).size))
          clear hb2 hcy hcx hgl
          go_wp2
          go_roundw
          case rel => exact ⟨j + 1, by omega, by go_num, by go_num, HB2⟩
          case measure => simp [intOf]; omega
      · go_wp2
        go_ret
        have hjn : j = n := by omega
        subst hjn
        exact ⟨rfl, unhide HB⟩

theorem mk_take {ys : List Value} {k n j : Nat} (hj : j < n) (hl : ys.length = n * 3) (h : ys.take (j * 3) = (ioV (mkI k n)).take (j * 3)) :
    (((ys.set (j * 3) (.int .i64 ((k : Int) + 3 * (j : Int)))).set (j * 3 + 1) (.int .i64 ((k : Int) + 3 * (j : Int) + 1))).set (j * 3 + 2) (.string (mtB (k + 3 * j + 2)))).take ((j + 1) * 3) = (ioV (mkI k n)).take ((j + 1) * 3) := by
  have hj' : j < (mkI k n).length := by rw [mkI_length]; exact hj
  have e := io_take hj' (by rw [mkI_length]; exact hl) h
  have e0 : (mkI k n)[j].host = (k : Int) + 3 * (j : Int) := by rw [mkI_get hj']; simp
  have e1 : (mkI k n)[j].at_ = (k : Int) + 3 * (j : Int) + 1 := by rw [mkI_get hj']; simp
  have e2 : (mkI k n)[j].data = mtB (k + 3 * j + 2) := by rw [mkI_get hj']
  rw [e0, e1, e2] at e
  exact e

set_option maxHeartbeats 3200000 in
theorem markIoS_any (v : Value) (n k : Nat) (xs : List Value) (B : Nat) (w : World) (hn : n ≤ 4194304) (hk0 : 0 < k) (hk1 : k ≤ 268435456) (ho : OwnR w B 54 3 v n xs) :
    Calls Try.prog 40 #[v, .int .i64 k] w fun e w' => e = .returned (.int .i64 ((k + 3 * n : Nat) : Int)) ∧ OwnR w' B 54 3 v n (ioV (mkI k n)) ∧ Keep (Own v) w w' := by
  rcases ho with ⟨rfl, rfl, ao, rfl⟩ | ⟨hpos, ho'⟩
  · go_enter Try.func40, Try.ntmps40
    go_wp2
    refine wp_loop_rounds 1 ?_
    rw [rounds_succ]
    go_wp2
    go_ret
    refine ⟨ret_int (by simp), .inl ⟨rfl, rfl, ao, rfl⟩, Keep.refl _ _⟩
  · obtain ⟨g, cap, cur, rfl, _, _⟩ := own_form hpos ho'
    have HO := hide ho'
    clear ho'
    go_enter Try.func40, Try.ntmps40
    go_wp2
    go_loopw [1, 5] (fun kk i wr => ∃ (j : Nat) (ys : List Value), j ≤ n ∧ i = .int .i64 j ∧ kk = .int .i64 ((k + 3 * j : Nat) : Int) ∧ Hid (ys.length = n * 3) ∧ Hid (ys.take (j * 3) = (ioV (mkI k n)).take (j * 3)) ∧ Hid (wr.ownsRow B 54 3 (.slice (some ⟨g, 0, none⟩) n cap) n ys) ∧ Hid (Keep (Own (.slice (some ⟨g, 0, none⟩) n cap)) w wr)) (fun _ i _ => n - (intOf i).toNat)
    case atStart => exact ⟨0, xs, Nat.zero_le _, rfl, by simp, hide (by rw [(unhide HO).1]), hide (by simp), HO, hide (Keep.refl _ _)⟩
    case round =>
      obtain ⟨j, ys, hj, rfl, rfl, HL, HT, HO, HK⟩ := hrel
      by_cases hlt : j < n
      · have hf0 := (unhide HO).frozenAt (j * 3)
        have hf1 := (unhide HO).frozenAt (j * 3 + 1)
        have hf2 := (unhide HO).frozenAt (j * 3 + 2)
        obtain ⟨x0, hx0⟩ : ∃ x, wr.cell? ⟨g, j * 3, none⟩ = some x := ⟨_, ((unhide HO).cellAt (j * 3) (by omega)).trans (List.getElem?_eq_getElem (by rw [unhide HL]; omega))⟩
        obtain ⟨x1, hx1⟩ : ∃ x, wr.cell? ⟨g, j * 3 + 1, none⟩ = some x := ⟨_, ((unhide HO).cellAt (j * 3 + 1) (by omega)).trans (List.getElem?_eq_getElem (by rw [unhide HL]; omega))⟩
        obtain ⟨x2, hx2⟩ : ∃ x, wr.cell? ⟨g, j * 3 + 2, none⟩ = some x := ⟨_, ((unhide HO).cellAt (j * 3 + 2) (by omega)).trans (List.getElem?_eq_getElem (by rw [unhide HL]; omega))⟩
        have HO' := hide (((unhide HO).stored (j * 3) (.int .i64 ((k : Int) + 3 * (j : Int)))).1.stored (j * 3 + 1) (.int .i64 ((k : Int) + 3 * (j : Int) + 1))).1
        have HK' := hide (((unhide HK).setCell (p := ⟨g, j * 3, none⟩) (own_of hpos rfl) (.int .i64 ((k : Int) + 3 * (j : Int)))).setCell (p := ⟨g, j * 3 + 1, none⟩) (own_of hpos rfl) (.int .i64 ((k : Int) + 3 * (j : Int) + 1)))
        go_wp2_with fail
        rw [show ((k : Int) + 3 * (j : Int) + 1 + 1) = ((k + 3 * j + 2 : Nat) : Int) from by omega]
        refine (markText_any (k + 3 * j + 2) _ (by omega) (by omega)).mono ?_
        rintro e w2 ⟨rfl, hb2⟩
        have HO2 := hide (own_below (unhide HO') hb2)
        have HK2 := hide ((unhide HK').trans (Keep.of_below hb2))
        clear hb2 hf0 hf1 hf2 hx0 hx1 hx2
        have hf2 := (unhide HO2).frozenAt (j * 3 + 2)
        obtain ⟨x2, hx2⟩ : ∃ x, w2.cell? ⟨g, j * 3 + 2, none⟩ = some x := ⟨_, ((unhide HO2).cellAt (j * 3 + 2) (by omega)).trans (List.getElem?_eq_getElem (by rw [List.length_set, List.length_set, unhide HL]; omega))⟩
        have HST := hide ((unhide HO2).stored (j * 3 + 2) (.string (mtB (k + 3 * j + 2)))).1
        have HKS := hide ((unhide HK2).setCell (p := ⟨g, j * 3 + 2, none⟩) (own_of hpos rfl) (.string (mtB (k + 3 * j + 2))))
        go_wp2
        go_roundw
        case rel => exact ⟨j + 1, _, by omega, by go_num, by go_num, hide (by rw [List.length_set, List.length_set, List.length_set]; exact unhide HL), hide (mk_take hlt (unhide HL) (unhide HT)), HST, HKS⟩
        case measure => simp [intOf]; omega
      · go_wp2
        go_ret
        have hjn : j = n := by omega
        subst hjn
        have hxs : ys = ioV (mkI k j) := by
          have := unhide HT
          rwa [List.take_of_length_le (by rw [unhide HL]; exact Nat.le_refl _), List.take_of_length_le (by rw [ioV_length, mkI_length]; exact Nat.le_refl _)] at this
        subst hxs
        exact ⟨rfl, .inr ⟨hpos, unhide HO⟩, unhide HK⟩

theorem mkI_cells {k n j : Nat} (hj : j < n) : (ioV (mkI k n))[j * 3]? = some (.int .i64 ((k : Int) + 3 * (j : Int))) ∧ (ioV (mkI k n))[j * 3 + 1]? = some (.int .i64 ((k : Int) + 3 * (j : Int) + 1)) ∧ (ioV (mkI k n))[j * 3 + 2]? = some (.string (mtB (k + 3 * j + 2))) := by
  have hj' : j < (mkI k n).length := by rw [mkI_length]; exact hj
  have e := ioV_get hj'
  have e0 : (mkI k n)[j].host = (k : Int) + 3 * (j : Int) := by rw [mkI_get hj']; simp
  have e1 : (mkI k n)[j].at_ = (k : Int) + 3 * (j : Int) + 1 := by rw [mkI_get hj']; simp
  have e2 : (mkI k n)[j].data = mtB (k + 3 * j + 2) := by rw [mkI_get hj']
  rw [e0, e1, e2] at e
  exact e

set_option maxHeartbeats 3200000 in
theorem heldIoS_any (v : Value) (n k : Nat) (B : Nat) (w : World) (hn : n ≤ 4194304) (hk0 : 0 < k) (hk1 : k ≤ 268435456) (ho : OwnR w B 54 3 v n (ioV (mkI k n))) :
    Calls Try.prog 42 #[v, .int .i64 k] w fun e w' => e = .returned (.int .i64 ((k + 3 * n : Nat) : Int)) ∧ Below w.heap.size w w' := by
  rcases ho with ⟨rfl, _, ao, rfl⟩ | ⟨hpos, ho'⟩
  · go_enter Try.func42, Try.ntmps42
    go_wp2
    refine wp_loop_rounds 1 ?_
    rw [rounds_succ]
    go_wp2
    go_ret
    exact ⟨ret_int (by simp), Below.refl _ _⟩
  · obtain ⟨g, cap, cur, rfl, _, _⟩ := own_form hpos ho'
    have HO := hide ho'
    clear ho'
    go_enter Try.func42, Try.ntmps42
    go_wp2
    go_loopw [1, 5] (fun kk i wr => ∃ (j : Nat), j ≤ n ∧ i = .int .i64 j ∧ kk = .int .i64 ((k + 3 * j : Nat) : Int) ∧ Hid (Below w.heap.size w wr)) (fun _ i _ => n - (intOf i).toNat)
    case atStart => exact ⟨0, Nat.zero_le _, rfl, by simp, hide (Below.refl _ _)⟩
    case round =>
      obtain ⟨j, hj, rfl, rfl, HB⟩ := hrel
      by_cases hlt : j < n
      · obtain ⟨g0, g1, g2⟩ := mkI_cells (k := k) hlt
        have hc0 : wr.cell? ⟨g, j * 3, none⟩ = some (.int .i64 ((k : Int) + 3 * (j : Int))) := ((own_below (unhide HO) (unhide HB)).cellAt (j * 3) (by omega)).trans g0
        have hc1 : wr.cell? ⟨g, j * 3 + 1, none⟩ = some (.int .i64 ((k : Int) + 3 * (j : Int) + 1)) := ((own_below (unhide HO) (unhide HB)).cellAt (j * 3 + 1) (by omega)).trans g1
        have hc2 : wr.cell? ⟨g, j * 3 + 2, none⟩ = some (.string (mtB (k + 3 * j + 2))) := ((own_below (unhide HO) (unhide HB)).cellAt (j * 3 + 2) (by omega)).trans g2
        have hgl : g < wr.heap.size := World.block_lt_of_cell? _ _ hc2
        clear g0 g1 g2
        have HMT := hide (fun W => markText_any (k + 3 * j + 2) W (by omega) (by omega))
        go_wp2
        go_region_with (go_at_call 62; rw [show ((k : Int) + 3 * (j : Int) + 1 + 1) = ((k + 3 * j + 2 : Nat) : Int) from by omega]; refine (unhide HMT _).mono ?_; rintro e w2 ⟨rfl, hb2⟩; have hcy := (hb2.cell (p := ⟨g, j * 3 + 2, none⟩) hgl).trans hc2)
        all_goals
          have HB2 : Hid (Below w.heap.size w w2) := hide (Below.trans (by repeat (first | exact unhide HB | apply Below.drew)) (hb2.mono (unhide HB).size))
          clear hb2 hcy hc0 hc1 hc2 hgl
          go_wp2
          go_roundw
          case rel => exact ⟨j + 1, by omega, by go_num, by go_num, HB2⟩
          case measure => simp [intOf]; omega
      · go_wp2
        go_ret
        have hjn : j = n := by omega
        subst hjn
        exact ⟨rfl, unhide HB⟩

end Go.Proofs.Ytgcbofhjgomjoac
