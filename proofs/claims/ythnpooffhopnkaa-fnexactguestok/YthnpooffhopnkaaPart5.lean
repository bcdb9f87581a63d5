import Derived.Test.YthnpooffhopnkaaRows
import Derived.Test.YthnpooffhopnkaaPart1
import Derived.WalkKit
import Derived.WalkSpells
import Derived.BigQuiet
import Derived.Deep.QuietTactic
import Derived.Deep.RegionWith
import Derived.Laws.BytesArg
import Derived.LoopN
import Derived.Test.YthnpooffhopnkaaPart3
import Derived.Test.YthnpooffhopnkaaPart4
import Derived.Test.YthnpooffhopnkaaPart2

/- Contracts of the laws' marks: markText, markDisk, heldDisk. -/
namespace Go.Proofs.Ythnpooffhopnkaa
open Go.RowKit
set_option linter.unusedVariables false
set_option maxRecDepth 100000

/-- The decimal digits of a number, as bytes; none of 0. -/
def digsF : Nat → Nat → List UInt8
  | 0, _ => []
  | f + 1, n => if n = 0 then [] else digsF f (n / 10) ++ [UInt8.ofNat (48 + n % 10)]
theorem digsF_more : ∀ (f n g : Nat), n ≤ f → n ≤ g → digsF f n = digsF g n
  | 0, n, g, h, _ => by
    have : n = 0 := by omega
    subst this
    cases g <;> simp [digsF]
  | f + 1, n, 0, _, h => by
    have : n = 0 := by omega
    subst this
    simp [digsF]
  | f + 1, n, g + 1, h1, h2 => by
    by_cases h : n = 0
    · subst h; simp [digsF]
    · rw [digsF, digsF, if_neg h, if_neg h, digsF_more f (n / 10) g (by omega) (by omega)]
def digs (n : Nat) : List UInt8 := digsF n n
theorem digs_zero : digs 0 = [] := rfl
theorem digs_pos {n : Nat} (h : n ≠ 0) : digs n = digs (n / 10) ++ [UInt8.ofNat (48 + n % 10)] := by
  obtain ⟨m, rfl⟩ : ∃ m, n = m + 1 := ⟨n - 1, by omega⟩
  rw [digs, digsF, if_neg h, digs, digsF_more m ((m + 1) / 10) ((m + 1) / 10) (by omega) (Nat.le_refl _)]
theorem ret_str1 {a b : ByteArray} (h : a = b) : Ending.returned (.string a) = .returned (.string b) := by rw [h]
def mtB (k : Nat) : ByteArray := ⟨(109 :: digs k).toArray⟩

set_option maxHeartbeats 1600000 in
theorem markText_any (k : Nat) (w : World) (h0 : 0 < k) (h1 : k ≤ 1073741824) :
    Calls Try.prog 78 #[.int .i64 k] w fun e w' => e = .returned (.string (mtB k)) ∧ Below w.heap.size w w' := by
  go_enter Try.func78, Try.ntmps78
  go_wp2
  go_loopw [0, 3] (fun n o wr => ∃ (m : Nat) (s : ByteArray), n = .int .i64 m ∧ o = .string s ∧ m ≤ k ∧ s.size + m ≤ k ∧ Hid (digs m ++ s.data.toList = digs k) ∧ Hid (Below w.heap.size w wr)) (fun n _ _ => (intOf n).toNat)
  case atStart => exact ⟨k, ⟨#[]⟩, rfl, rfl, Nat.le_refl _, by show 0 + k ≤ k; omega, hide (by simp), hide (Below.refl _ _)⟩
  case round =>
    obtain ⟨m, s, rfl, rfl, hm, hs, HD, HB⟩ := hrel
    by_cases hp : 0 < m
    · obtain ⟨d1, Hd1, hsz, hcv⟩ : ∃ d1 : ByteArray, Hid (d1.data.toList = [UInt8.ofNat (48 + m % 10)]) ∧ d1.size = 1 ∧ (convert 138 9 (.slice (some ⟨wr.heap.size, 0, none⟩) 1 1)).run Try.prog (wr.alloc (.cells #[.int .u8 (48 + (m : Int) % 10)] 5)) = .ok (.string d1) (wr.alloc (.cells #[.int .u8 (48 + (m : Int) % 10)] 5)) := by
        refine ⟨_, ?_, ?_, run_convert_bytes_arg _ 138 5 Try.underlying138 Try.underlying5 wr.heap.size 0 1 1 [48 + (m : Int) % 10] rfl ?_ 9 Try.underlying9⟩
        · have e : (48 + (m : Int) % 10).toNat = 48 + m % 10 := by omega
          exact hide (by simp [strOfNums, e])
        · simp [strOfNums, ByteArray.size]
        · intro i hi
          have : i = 0 := by omega
          subst this
          simp [go_sem]
      have HBA := hide (fun o => (unhide HB).alloc (unhide HB).size o)
      have hsum : (d1 ++ s).size = 1 + s.size := by rw [ByteArray.size_append, hsz]
      have hlist : (d1 ++ s).data.toList = d1.data.toList ++ s.data.toList := by simp
      have HSUM := hide hsum
      have HLIST := hide hlist
      clear hsum hlist
      go_wp2
      go_roundw
      case rel =>
        refine ⟨m / 10, d1 ++ s, ?_, rfl, by omega, by rw [unhide HSUM]; omega, hide ?_, hide (unhide HBA _)⟩
        · go_num
        · rw [unhide HLIST, unhide Hd1, ← List.append_assoc, ← digs_pos (by omega)]
          exact unhide HD
      case measure => simp [intOf]; omega
    · have H : Hid (({ data := #[109] } : ByteArray) ++ s = mtB k) := by
        have hm0 : m = 0 := by omega
        subst hm0
        have := unhide HD
        rw [digs_zero, List.nil_append] at this
        refine hide ?_
        unfold mtB
        rw [← this]
        apply ByteArray.ext
        simp
      go_wp2
      go_ret
      exact ⟨ret_str1 (unhide H), unhide HB⟩

/-- The marks of a row of texts, of a row of writes. -/
def mkS (k n : Nat) : List ByteArray := (List.range n).map fun i => mtB (k + i)
def mkI (k n : Nat) : List Wr := (List.range n).map fun i => ⟨(k + 3 * i : Nat), (k + 3 * i + 1 : Nat), mtB (k + 3 * i + 2)⟩
theorem mkS_length (k n : Nat) : (mkS k n).length = n := by simp [mkS]
theorem mkI_length (k n : Nat) : (mkI k n).length = n := by simp [mkI]
theorem mkS_get {k n j : Nat} (h : j < n) : (strV (mkS k n))[j]? = some (.string (mtB (k + j))) := by simp [strV, mkS, h]
theorem mkI_get {k n j : Nat} (h : j < (mkI k n).length) : (mkI k n)[j] = ⟨(k + 3 * j : Nat), (k + 3 * j + 1 : Nat), mtB (k + 3 * j + 2)⟩ := by simp [mkI]

set_option maxHeartbeats 1600000 in
theorem markStringS_any (v : Value) (n k : Nat) (xs : List Value) (B : Nat) (w : World) (hn : n ≤ 4194304) (hk0 : 0 < k) (hk1 : k ≤ 268435456) (ho : OwnR w B 9 1 v n xs) :
    Calls Try.prog 64 #[v, .int .i64 k] w fun e w' => e = .returned (.int .i64 ((k + n : Nat) : Int)) ∧ OwnR w' B 9 1 v n (strV (mkS k n)) ∧ Keep (Own v) w w' := by
  rcases ho with ⟨rfl, rfl, ao, rfl⟩ | ⟨hpos, ho'⟩
  · go_enter Try.func64, Try.ntmps64
    go_wp2
    refine wp_loop_rounds 1 ?_
    rw [rounds_succ]
    go_wp2
    go_ret
    refine ⟨ret_int (by simp), .inl ⟨rfl, rfl, ao, rfl⟩, Keep.refl _ _⟩
  · obtain ⟨g, cap, cur, rfl, _, _⟩ := own_form hpos ho'
    have HO := hide ho'
    clear ho'
    go_enter Try.func64, Try.ntmps64
    go_wp2
    go_loopw [1, 5] (fun kk i wr => ∃ (j : Nat) (ys : List Value), j ≤ n ∧ i = .int .i64 j ∧ kk = .int .i64 ((k + j : Nat) : Int) ∧ Hid (ys.length = n) ∧ Hid (ys.take j = (strV (mkS k n)).take j) ∧ Hid (wr.ownsRow B 9 1 (.slice (some ⟨g, 0, none⟩) n cap) n ys) ∧ Hid (Keep (Own (.slice (some ⟨g, 0, none⟩) n cap)) w wr)) (fun _ i _ => n - (intOf i).toNat)
    case atStart => exact ⟨0, xs, Nat.zero_le _, rfl, by simp, hide (by rw [(unhide HO).1]; omega), hide (by simp), HO, hide (Keep.refl _ _)⟩
    case round =>
      obtain ⟨j, ys, hj, rfl, rfl, HL, HT, HO, HK⟩ := hrel
      by_cases hlt : j < n
      · go_wp2_with fail
        refine (markText_any (k + j) _ (by omega) (by omega)).mono ?_
        rintro e w2 ⟨rfl, hb2⟩
        have HO2 := hide (own_below (unhide HO) hb2)
        have HK2 := hide ((unhide HK).trans (Keep.of_below hb2))
        clear hb2
        have hfr := (unhide HO2).frozenAt j
        obtain ⟨x0, hcx⟩ : ∃ x, w2.cell? ⟨g, j, none⟩ = some x := ⟨_, ((unhide HO2).cellAt j (by omega)).trans (List.getElem?_eq_getElem (by rw [unhide HL]; exact hlt))⟩
        have HST := hide ((unhide HO2).stored j (.string (mtB (k + j))))
        have HKS := hide ((unhide HK2).setCell (p := ⟨g, j, none⟩) (own_of hpos rfl) (.string (mtB (k + j))))
        go_wp2
        go_roundw
        case rel => exact ⟨j + 1, ys.set j (.string (mtB (k + j))), by omega, by go_num, by go_num, hide (by rw [List.length_set]; exact unhide HL), hide (set_take' (by rw [unhide HL, strV_length, mkS_length]) (mkS_get hlt) (unhide HT)), hide (unhide HST).1, HKS⟩
        case measure => simp [intOf]; omega
      · go_wp2
        go_ret
        have hjn : j = n := by omega
        subst hjn
        have hxs : ys = strV (mkS k j) := by
          have := unhide HT
          rwa [List.take_of_length_le (by rw [unhide HL]; exact Nat.le_refl _), List.take_of_length_le (by rw [strV_length, mkS_length]; exact Nat.le_refl _)] at this
        subst hxs
        exact ⟨rfl, .inr ⟨hpos, unhide HO⟩, unhide HK⟩

set_option maxHeartbeats 1600000 in
theorem heldStringS_any (v : Value) (n k : Nat) (B : Nat) (w : World) (hn : n ≤ 4194304) (hk0 : 0 < k) (hk1 : k ≤ 268435456) (ho : OwnR w B 9 1 v n (strV (mkS k n))) :
    Calls Try.prog 65 #[v, .int .i64 k] w fun e w' => e = .returned (.int .i64 ((k + n : Nat) : Int)) ∧ Below w.heap.size w w' := by
  rcases ho with ⟨rfl, _, ao, rfl⟩ | ⟨hpos, ho'⟩
  · go_enter Try.func65, Try.ntmps65
    go_wp2
    refine wp_loop_rounds 1 ?_
    rw [rounds_succ]
    go_wp2
    go_ret
    exact ⟨ret_int (by simp), Below.refl _ _⟩
  · obtain ⟨g, cap, cur, rfl, _, _⟩ := own_form hpos ho'
    have HO := hide ho'
    clear ho'
    go_enter Try.func65, Try.ntmps65
    go_wp2
    go_loopw [1, 5] (fun kk i wr => ∃ (j : Nat), j ≤ n ∧ i = .int .i64 j ∧ kk = .int .i64 ((k + j : Nat) : Int) ∧ Hid (Below w.heap.size w wr)) (fun _ i _ => n - (intOf i).toNat)
    case atStart => exact ⟨0, Nat.zero_le _, rfl, by simp, hide (Below.refl _ _)⟩
    case round =>
      obtain ⟨j, hj, rfl, rfl, HB⟩ := hrel
      by_cases hlt : j < n
      · have hcx : wr.cell? ⟨g, j, none⟩ = some (.string (mtB (k + j))) := ((own_below (unhide HO) (unhide HB)).cellAt j (by omega)).trans (mkS_get hlt)
        have hgl : g < wr.heap.size := World.block_lt_of_cell? _ _ hcx
        go_wp2
        go_region_with (go_at_call 78; refine (markText_any (k + j) _ (by omega) (by omega)).mono ?_; rintro e w2 ⟨rfl, hb2⟩; have hcy := (hb2.cell (p := ⟨g, j, none⟩) hgl).trans hcx)
        all_goals
          have HB2 : Hid (Below w.heap.size w w2) := hide (Below.trans (by repeat (first | exact unhide HB | apply Below.drew)) (hb2.mono (unhide HB).size))
          clear hb2 hcy hcx hgl
          go_wp2
          go_roundw
          case rel => exact ⟨j + 1, by omega, by go_num, by go_num, HB2⟩
          case measure => simp [intOf]; omega
      · go_wp2
        go_ret
        have hjn : j = n := by omega
        subst hjn
        exact ⟨rfl, unhide HB⟩

theorem mk_take {ys : List Value} {k n j : Nat} (hj : j < n) (hl : ys.length = n * 3) (h : ys.take (j * 3) = (ioV (mkI k n)).take (j * 3)) :
    (((ys.set (j * 3) (.int .i64 ((k : Int) + 3 * (j : Int)))).set (j * 3 + 1) (.int .i64 ((k : Int) + 3 * (j : Int) + 1))).set (j * 3 + 2) (.string (mtB (k + 3 * j + 2)))).take ((j + 1) * 3) = (ioV (mkI k n)).take ((j + 1) * 3) := by
  have hj' : j < (mkI k n).length := by rw [mkI_length]; exact hj
  have e := io_take hj' (by rw [mkI_length]; exact hl) h
  have e0 : (mkI k n)[j].host = (k : Int) + 3 * (j : Int) := by rw [mkI_get hj']; simp
  have e1 : (mkI k n)[j].at_ = (k : Int) + 3 * (j : Int) + 1 := by rw [mkI_get hj']; simp
  have e2 : (mkI k n)[j].data = mtB (k + 3 * j + 2) := by rw [mkI_get hj']
  rw [e0, e1, e2] at e
  exact e

theorem mkI_cells {k n j : Nat} (hj : j < n) : (ioV (mkI k n))[j * 3]? = some (.int .i64 ((k : Int) + 3 * (j : Int))) ∧ (ioV (mkI k n))[j * 3 + 1]? = some (.int .i64 ((k : Int) + 3 * (j : Int) + 1)) ∧ (ioV (mkI k n))[j * 3 + 2]? = some (.string (mtB (k + 3 * j + 2))) := by
  have hj' : j < (mkI k n).length := by rw [mkI_length]; exact hj
  have e := ioV_get hj'
  have e0 : (mkI k n)[j].host = (k : Int) + 3 * (j : Int) := by rw [mkI_get hj']; simp
  have e1 : (mkI k n)[j].at_ = (k : Int) + 3 * (j : Int) + 1 := by rw [mkI_get hj']; simp
  have e2 : (mkI k n)[j].data = mtB (k + 3 * j + 2) := by rw [mkI_get hj']
  rw [e0, e1, e2] at e
  exact e

end Go.Proofs.Ythnpooffhopnkaa

/- Contracts of the laws' marks on lists of numbers: markIntS, heldIntS. -/
namespace Go.Proofs.Ythnpooffhopnkaa
open Go.RowKit
set_option linter.unusedVariables false
set_option maxRecDepth 100000

/-- The marks of a row of numbers. -/
def mkN (k n : Nat) : List Int := (List.range n).map fun i => ((k + i : Nat) : Int)
theorem mkN_length (k n : Nat) : (mkN k n).length = n := by simp [mkN]
theorem mkN_get {k n j : Nat} (h : j < n) : (intV (mkN k n))[j]? = some (.int .i64 ((k + j : Nat) : Int)) := by simp [intV, mkN, h]

set_option maxHeartbeats 1600000 in
theorem markIntS_any (v : Value) (n k : Nat) (xs : List Value) (B : Nat) (w : World) (hn : n ≤ 4194304) (hk0 : 0 < k) (hk1 : k ≤ 268435456) (ho : OwnR w B 3 1 v n xs) :
    Calls Try.prog 44 #[v, .int .i64 k] w fun e w' => e = .returned (.int .i64 ((k + n : Nat) : Int)) ∧ OwnR w' B 3 1 v n (intV (mkN k n)) ∧ Keep (Own v) w w' := by
  rcases ho with ⟨rfl, rfl, ao, rfl⟩ | ⟨hpos, ho'⟩
  · go_enter Try.func44, Try.ntmps44
    go_wp2
    refine wp_loop_rounds 1 ?_
    rw [rounds_succ]
    go_wp2
    go_ret
    refine ⟨ret_int (by simp), .inl ⟨rfl, rfl, ao, rfl⟩, Keep.refl _ _⟩
  · obtain ⟨g, cap, cur, rfl, _, _⟩ := own_form hpos ho'
    have HO := hide ho'
    clear ho'
    go_enter Try.func44, Try.ntmps44
    go_wp2
    go_loopw [1, 5] (fun kk i wr => ∃ (j : Nat) (ys : List Value), j ≤ n ∧ i = .int .i64 j ∧ kk = .int .i64 ((k + j : Nat) : Int) ∧ Hid (ys.length = n) ∧ Hid (ys.take j = (intV (mkN k n)).take j) ∧ Hid (wr.ownsRow B 3 1 (.slice (some ⟨g, 0, none⟩) n cap) n ys) ∧ Hid (Keep (Own (.slice (some ⟨g, 0, none⟩) n cap)) w wr)) (fun _ i _ => n - (intOf i).toNat)
    case atStart => exact ⟨0, xs, Nat.zero_le _, rfl, by simp, hide (by rw [(unhide HO).1]; omega), hide (by simp), HO, hide (Keep.refl _ _)⟩
    case round =>
      obtain ⟨j, ys, hj, rfl, rfl, HL, HT, HO, HK⟩ := hrel
      by_cases hlt : j < n
      · have hfr := (unhide HO).frozenAt j
        obtain ⟨x0, hcx⟩ : ∃ x, wr.cell? ⟨g, j, none⟩ = some x := ⟨_, ((unhide HO).cellAt j (by omega)).trans (List.getElem?_eq_getElem (by rw [unhide HL]; exact hlt))⟩
        have HST := hide ((unhide HO).stored j (.int .i64 ((k + j : Nat) : Int)))
        have HKS := hide ((unhide HK).setCell (p := ⟨g, j, none⟩) (own_of hpos rfl) (.int .i64 ((k + j : Nat) : Int)))
        go_wp2
        go_roundw
        case rel => exact ⟨j + 1, ys.set j (.int .i64 ((k + j : Nat) : Int)), by omega, by go_num, by go_num, hide (by rw [List.length_set]; exact unhide HL), hide (set_take' (by rw [unhide HL, intV_length, mkN_length]) (mkN_get hlt) (unhide HT)), hide (unhide HST).1, HKS⟩
        case measure => simp [intOf]; omega
      · go_wp2
        go_ret
        have hjn : j = n := by omega
        subst hjn
        have hxs : ys = intV (mkN k j) := by
          have := unhide HT
          rwa [List.take_of_length_le (by rw [unhide HL]; exact Nat.le_refl _), List.take_of_length_le (by rw [intV_length, mkN_length]; exact Nat.le_refl _)] at this
        subst hxs
        exact ⟨rfl, .inr ⟨hpos, unhide HO⟩, unhide HK⟩

set_option maxHeartbeats 1600000 in
theorem heldIntS_any (v : Value) (n k : Nat) (B : Nat) (w : World) (hn : n ≤ 4194304) (hk0 : 0 < k) (hk1 : k ≤ 268435456) (ho : OwnR w B 3 1 v n (intV (mkN k n))) :
    Calls Try.prog 46 #[v, .int .i64 k] w fun e w' => e = .returned (.int .i64 ((k + n : Nat) : Int)) ∧ Below w.heap.size w w' := by
  rcases ho with ⟨rfl, _, ao, rfl⟩ | ⟨hpos, ho'⟩
  · go_enter Try.func46, Try.ntmps46
    go_wp2
    refine wp_loop_rounds 1 ?_
    rw [rounds_succ]
    go_wp2
    go_ret
    exact ⟨ret_int (by simp), Below.refl _ _⟩
  · obtain ⟨g, cap, cur, rfl, _, _⟩ := own_form hpos ho'
    have HO := hide ho'
    clear ho'
    go_enter Try.func46, Try.ntmps46
    go_wp2
    go_loopw [1, 5] (fun kk i wr => ∃ (j : Nat), j ≤ n ∧ i = .int .i64 j ∧ kk = .int .i64 ((k + j : Nat) : Int) ∧ Hid (Below w.heap.size w wr)) (fun _ i _ => n - (intOf i).toNat)
    case atStart => exact ⟨0, Nat.zero_le _, rfl, by simp, hide (Below.refl _ _)⟩
    case round =>
      obtain ⟨j, hj, rfl, rfl, HB⟩ := hrel
      by_cases hlt : j < n
      · have hcx : wr.cell? ⟨g, j, none⟩ = some (.int .i64 ((k + j : Nat) : Int)) := ((own_below (unhide HO) (unhide HB)).cellAt j (by omega)).trans (mkN_get hlt)
        go_wp2
        go_roundw
        case rel => exact ⟨j + 1, by omega, by go_num, by go_num, HB⟩
        case measure => simp [intOf]; omega
      · go_wp2
        go_ret
        have hjn : j = n := by omega
        subst hjn
        exact ⟨rfl, unhide HB⟩

end Go.Proofs.Ythnpooffhopnkaa

/- The laws' marks on images: what they are, plainly. (Made ahead of stage 10.) -/
namespace Go.Proofs.Ythnpooffhopnkaa
open Go.RowKit
set_option linter.unusedVariables false
set_option maxRecDepth 100000

/-- How many marks a row of snapshots takes. -/
def snK (ss : List Snp) : Nat := (ss.map (fun s => 1 + s.table.length)).sum
theorem snK_take {ss : List Snp} {k : Nat} (h : k < ss.length) : snK (ss.take (k + 1)) = snK (ss.take k) + (1 + ss[k].table.length) := by
  unfold snK
  rw [List.take_succ_eq_append_getElem h, List.map_append, List.sum_append]; simp
theorem snK_le (ss : List Snp) (n : Nat) : snK (ss.take n) ≤ snK ss := by
  have h2 : snK ss = snK (ss.take n) + snK (ss.drop n) := by
    unfold snK
    rw [← List.sum_append, ← List.map_append, List.take_append_drop]
  omega
/-- The marks of one, and of a row. -/
def mk1 (k : Nat) (s : Snp) : Snp := ⟨mtB k, mkN (k + 1) s.table.length⟩
def mkSn : Nat → List Snp → List Snp
  | _, [] => []
  | k, s :: ss => mk1 k s :: mkSn (k + (1 + s.table.length)) ss
theorem mkSn_length : ∀ (k : Nat) (ss : List Snp), (mkSn k ss).length = ss.length
  | _, [] => rfl
  | k, s :: ss => by rw [mkSn, List.length_cons, mkSn_length, List.length_cons]
theorem mkSn_snoc : ∀ (k : Nat) (ss : List Snp) (s : Snp), mkSn k (ss ++ [s]) = mkSn k ss ++ [mk1 (k + snK ss) s]
  | k, [], s => rfl
  | k, x :: ss, s => by
    rw [List.cons_append, mkSn, mkSn_snoc, mkSn, List.cons_append]
    congr 4
    simp only [snK, List.map_cons, List.sum_cons]; omega
/-- As far as its first ones have been marked. -/
def snMid (k : Nat) (ss : List Snp) (j : Nat) : List Snp := mkSn k (ss.take j) ++ ss.drop j
theorem snMid_zero (k : Nat) (ss : List Snp) : snMid k ss 0 = ss := by simp [snMid, mkSn]
theorem snMid_all (k : Nat) (ss : List Snp) : snMid k ss ss.length = mkSn k ss := by simp [snMid]
theorem snMid_length (k : Nat) (ss : List Snp) (j : Nat) : (snMid k ss j).length = ss.length := by
  rw [snMid, List.length_append, mkSn_length, List.length_take, List.length_drop]; omega
theorem snMid_get {k : Nat} {ss : List Snp} {j : Nat} (h : j < ss.length) : (snMid k ss j)[j]? = some ss[j] := by
  rw [snMid, List.getElem?_append_right (by rw [mkSn_length, List.length_take]; omega), mkSn_length, List.length_take, Nat.min_eq_left (by omega), Nat.sub_self, List.getElem?_drop, Nat.add_zero, List.getElem?_eq_getElem h]
theorem snMid_succ {k : Nat} {ss : List Snp} {j : Nat} (h : j < ss.length) : (snMid k ss j).set j (mk1 (k + snK (ss.take j)) ss[j]) = snMid k ss (j + 1) := by
  rw [snMid, snMid, List.take_succ_eq_append_getElem h, mkSn_snoc, List.set_append_right _ _ (by rw [mkSn_length, List.length_take]; omega), mkSn_length, List.length_take, Nat.min_eq_left (by omega), Nat.sub_self, List.drop_eq_getElem_cons h, List.set_cons_zero, List.append_assoc]
  rfl
theorem snC_get : ∀ {cs : List Snp} {ts : List Value} {j : Nat} {s : Snp} {t : Value}, cs[j]? = some s → ts[j]? = some t → (snC cs ts)[j * 2]? = some (.string s.name) ∧ (snC cs ts)[j * 2 + 1]? = some t
  | [], _, _, _, _, h, _ => by simp at h
  | _ :: _, [], _, _, _, _, h => by simp at h
  | c :: cs, b :: ts, 0, s, t, h, h' => by
    simp at h h'
    subst h; subst h'
    exact ⟨rfl, rfl⟩
  | c :: cs, b :: ts, j + 1, s, t, h, h' => by
    rw [List.getElem?_cons_succ] at h h'
    have := snC_get h h'
    rw [show (j + 1) * 2 = j * 2 + 1 + 1 by omega]
    exact this
theorem snC_set : ∀ (cs : List Snp) (ts : List Value) (j : Nat) (s : Snp), j < ts.length → snC (cs.set j s) ts = (snC cs ts).set (j * 2) (.string s.name)
  | [], [], _, _, _ => rfl
  | [], _ :: _, _, _, _ => rfl
  | c :: cs, [], j, s, h => by simp at h
  | c :: cs, b :: ts, 0, s, _ => rfl
  | c :: cs, b :: ts, j + 1, s, h => by
    rw [List.set_cons_succ, snC, snC, snC_set cs ts j s (by simpa using h), show (j + 1) * 2 = j * 2 + 1 + 1 by omega]
    rfl
theorem zip_set1 : ∀ (ts : List Value) (cs : List Snp) (j : Nat) (s : Snp) (t : Value), ts[j]? = some t → ts.zip ((cs.set j s).map (·.table)) = (ts.zip (cs.map (·.table))).set j (t, s.table)
  | [], cs, j, s, t, h => by simp at h
  | b :: ts, [], j, s, t, h => by simp
  | b :: ts, c :: cs, 0, s, t, h => by
    simp at h
    subst h
    rfl
  | b :: ts, c :: cs, j + 1, s, t, h => by
    rw [List.getElem?_cons_succ] at h
    have := zip_set1 ts cs j s t h
    rw [List.set_cons_succ, List.map_cons, List.zip_cons_cons, this]
    rfl
theorem OwnA.turn {w w' : World} {B : Nat} {rs : List (Value × List Int)} {j : Nat} {v : Value} {xs ys : List Int} (h : OwnA w B rs) (hj : rs[j]? = some (v, xs)) (hk : Keep (Own v) w w') (hn : OwnN w' B v ys) : OwnA w' B (rs.set j (v, ys)) := by
  obtain ⟨hjl, hje⟩ := List.getElem?_eq_some_iff.1 hj
  refine ⟨fun r hr => ?_, ?_⟩
  · obtain ⟨i, hi, rfl⟩ := List.mem_iff_getElem.1 hr
    rw [List.length_set] at hi
    rw [List.getElem_set]
    split
    · exact hn
    · rename_i hne
      refine (h.own _ (List.getElem_mem hi)).keep hk (fun g hg hv => ?_)
      have hp := List.pairwise_iff_getElem.1 h.apart
      rcases Nat.lt_or_gt_of_ne hne with hlt | hlt
      · exact hp j i hjl hi hlt g (by rw [hje]; exact hv) hg
      · exact hp i j hi hjl hlt g hg (by rw [hje]; exact hv)
  · have e : (rs.set j (v, ys)).map Prod.fst = rs.map Prod.fst := by
      rw [List.map_set]
      have : (rs.map Prod.fst)[j]'(by simpa using hjl) = v := by rw [List.getElem_map, hje]
      conv => lhs; rw [show (v, ys).1 = (rs.map Prod.fst)[j]'(by simpa using hjl) from this.symm]
      rw [List.set_getElem_self]
    have hp := List.pairwise_map (f := Prod.fst) (R := fun a b => ∀ g, Own a g → ¬ Own b g) |>.2 h.apart
    rw [← e] at hp
    exact List.pairwise_map.1 hp
theorem OwnR.row {w : World} {B e size n : Nat} {v : Value} {xs : List Value} (h : OwnR w B e size v n xs) (hp : 0 < n) : w.ownsRow B e size v n xs := by
  rcases h with ⟨h0, _⟩ | ⟨_, h⟩
  · omega
  · exact h

end Go.Proofs.Ythnpooffhopnkaa

/- Contracts of the laws' marks on images: markSnapS, heldSnapS. (Made ahead of stage 10.) -/
namespace Go.Proofs.Ythnpooffhopnkaa
open Go.RowKit
set_option linter.unusedVariables false
set_option maxRecDepth 100000

set_option maxHeartbeats 3200000 in
theorem markSnapS_any (v : Value) (k B : Nat) (ss : List Snp) (ts : List Value) (w : World) (hn : ss.length ≤ 4194304) (hm : ∀ s ∈ ss, s.table.length ≤ 4194304) (hk0 : 0 < k) (hk1 : k + snK ss ≤ 268435456) (hl : ss.length = ts.length)
    (ho : OwnS w B 83 2 v ss.length (snC ss ts)) (ha : OwnA w B (ts.zip (ss.map (·.table)))) :
    Calls Try.prog 55 #[v, .int .i64 k] w fun e w' => e = .returned (.int .i64 ((k + snK ss : Nat) : Int)) ∧ OwnS w' B 83 2 v ss.length (snC (mkSn k ss) ts) ∧ OwnA w' B (ts.zip ((mkSn k ss).map (·.table))) ∧ Keep (fun g => Own v g ∨ ∃ t ∈ ts, Own t g) w w' := by
  rcases Nat.eq_zero_or_pos ss.length with h0 | hpos
  · have e0 : ss = [] := List.eq_nil_of_length_eq_zero h0
    subst e0
    rcases ho with ⟨_, _, ao, c0, rfl⟩ | ⟨h, _⟩
    · go_enter Try.func55, Try.ntmps55
      go_wp2
      refine wp_loop_rounds 1 ?_
      rw [rounds_succ]
      go_wp2
      go_ret
      exact ⟨ret_int (by simp [snK]), .inl ⟨rfl, by simp [mkSn, snC], ao, c0, rfl⟩, ha, Keep.refl _ _⟩
    · simp at h
  · obtain ⟨g, cap, cur, rfl, _, _⟩ := own_form hpos (ho.row hpos)
    have HO := hide (ho.toR (fun h => absurd h (by omega)))
    have HA := hide ha
    have HM := hide hm
    have HK1 := hide hk1
    have HLL := hide hl
    clear ho ha hm hk1 hl
    go_enter Try.func55, Try.ntmps55
    go_wp2
    go_loopw [1, 5] (fun kk i wr => ∃ (j : Nat), j ≤ ss.length ∧ i = .int .i64 j ∧ kk = .int .i64 ((k + snK (ss.take j) : Nat) : Int) ∧ Hid (OwnR wr B 83 2 (.slice (some ⟨g, 0, none⟩) ss.length cap) ss.length (snC (snMid k ss j) ts)) ∧ Hid (OwnA wr B (ts.zip ((snMid k ss j).map (·.table)))) ∧ Hid (Keep (fun x => Own (.slice (some ⟨g, 0, none⟩) ss.length cap) x ∨ ∃ t ∈ ts, Own t x) w wr)) (fun _ i _ => ss.length - (intOf i).toNat)
    case atStart => exact ⟨0, Nat.zero_le _, rfl, by simp [snK], by rw [snMid_zero]; exact HO, by rw [snMid_zero]; exact HA, hide (Keep.refl _ _)⟩
    case round =>
      obtain ⟨j, hj, rfl, rfl, HO, HA, HK⟩ := hrel
      by_cases hlt : j < ss.length
      · have HJ := hide (snK_take hlt)
        have HJL := hide (snK_le ss (j + 1))
        obtain ⟨q, hq, hq0, hqb⟩ : ∃ q : Nat, q = k + snK (ss.take j) ∧ 0 < q ∧ q + 1 + ss[j].table.length ≤ 268435456 := ⟨_, rfl, by omega, by have a := unhide HJ; have b := unhide HJL; have c := unhide HK1; omega⟩
        rw [← hq]
        have HQ := hide hq
        clear hq
        have hlj : j < ts.length := by rw [← unhide HLL]; exact hlt
        have hmj : ss[j].table.length ≤ 4194304 := unhide HM _ (List.getElem_mem hlt)
        have HRJ := hide (show (ts.zip ((snMid k ss j).map (·.table)))[j]? = some (ts[j], ss[j].table) by
          rw [List.getElem?_zip_eq_some]
          exact ⟨List.getElem?_eq_getElem hlj, by rw [List.getElem?_map, snMid_get hlt]; rfl⟩)
        go_wp2_with fail
        refine (markText_any q _ (by omega) (by omega)).mono ?_
        rintro e w2 ⟨rfl, hb2⟩
        have HO2 := hide ((unhide HO).below hb2)
        have HA2 := hide ((unhide HA).below hb2)
        have HK2 := hide ((unhide HK).trans (Keep.of_below hb2))
        clear hb2
        obtain ⟨qo, qa, hts, hrow⟩ := (unhide HA2).own _ (List.mem_of_getElem? (unhide HRJ))
        simp only at hts
        have HTS := hide hts
        have hcell := ((unhide HO2).row hpos).cellAt
        have hgs := snC_get (snMid_get (k := k) hlt) (List.getElem?_eq_getElem hlj)
        have hx0 : w2.cell? ⟨g, j * 2, none⟩ = some (.string ss[j].name) := (hcell (j * 2) (by omega)).trans hgs.1
        have hx1 : w2.cell? ⟨g, j * 2 + 1, none⟩ = some (.slice qo ss[j].table.length qa) := (hcell (j * 2 + 1) (by omega)).trans (by rw [hgs.2, hts])
        have hf0 := ((unhide HO2).row hpos).frozenAt (j * 2)
        clear hcell hgs hts hrow
        have HOS : Hid (OwnR (w2.setCell ⟨g, j * 2, none⟩ (.string (mtB q))) B 83 2 (.slice (some ⟨g, 0, none⟩) ss.length cap) ss.length (snC (snMid k ss (j + 1)) ts)) := hide (by
          rw [← snMid_succ hlt, snC_set _ _ _ _ hlj, ← unhide HQ]
          exact .inr ⟨hpos, (((unhide HO2).row hpos).stored (j * 2) (.string (mtB q))).1⟩)
        have HAS := hide ((unhide HA2).keep (S := fun x => x = g) ((Keep.refl (fun x => x = g) w2).setCell (p := ⟨g, j * 2, none⟩) rfl (.string (mtB q))) (fun r hr x hx he => by
          obtain ⟨_, _, e, hr'⟩ := (unhide HA2).own r hr
          rw [e] at hx
          exact own_apart (unhide HO2) hr' (by decide) x (own_of hpos he.symm) hx))
        have HKS := hide ((unhide HK2).setCell (p := ⟨g, j * 2, none⟩) (.inl (own_of hpos rfl)) (.string (mtB q)))
        obtain ⟨ro, rc, hre, hrow⟩ := (unhide HAS).own _ (List.mem_of_getElem? (unhide HRJ))
        simp only at hre hrow
        have hee : Value.slice qo ss[j].table.length qa = .slice ro ss[j].table.length rc := (unhide HTS).symm.trans hre
        rw [← hee] at hrow
        have HW := hide hrow
        clear hrow hre hee
        go_wp2_with fail
        refine (markIntS_any (.slice qo ss[j].table.length qa) ss[j].table.length (q + 1) _ B _ hmj (by omega) (by omega) (unhide HW)).mono ?_
        rintro e w4 ⟨rfl, ho4, hk4⟩
        have HA4 : Hid (OwnA w4 B (ts.zip ((snMid k ss (j + 1)).map (·.table)))) := hide (by
          rw [← snMid_succ hlt, zip_set1 _ _ _ _ _ (List.getElem?_eq_getElem hlj), ← unhide HQ]
          refine (unhide HAS).turn (unhide HRJ) (by rw [unhide HTS]; exact hk4) ?_
          rw [unhide HTS]
          exact ⟨qo, qa, by simp [mk1, mkN_length], by simpa only [mk1, mkN_length] using ho4⟩)
        have HO4 := hide ((unhide HOS).keep hk4 (own_apart (unhide HOS) (unhide HW) (by decide)))
        have HK4 := hide ((unhide HKS).trans (hk4.mono (fun x hx => Or.inr ⟨ts[j], List.getElem_mem hlj, by rw [unhide HTS]; exact hx⟩)))
        have hqn : q + 1 + ss[j].table.length = k + snK (ss.take (j + 1)) := by rw [unhide HJ, unhide HQ]; omega
        clear ho4 hk4
        go_wp2
        go_roundw
        case rel => exact ⟨j + 1, by omega, by go_num, by go_num, HO4, HA4, HK4⟩
        case measure => simp [intOf]; omega
      · have hjn : j = ss.length := by omega
        subst hjn
        have ho := unhide HO
        have ha := unhide HA
        rw [snMid_all] at ho ha
        have HO' := hide ho
        have HA' := hide ha
        have he : snK (ss.take ss.length) = snK ss := by rw [List.take_length]
        clear ho ha
        go_wp2
        go_ret
        exact ⟨by rw [he]; rfl, (unhide HO').toS, unhide HA', unhide HK⟩

theorem mkSn_get : ∀ {k : Nat} {ss : List Snp} {j : Nat} (h : j < ss.length), (mkSn k ss)[j]? = some (mk1 (k + snK (ss.take j)) ss[j])
  | k, [], j, h => by simp at h
  | k, s :: ss, 0, h => by simp [mkSn, snK]
  | k, s :: ss, j + 1, h => by
    rw [mkSn, List.getElem?_cons_succ, mkSn_get (by simpa using h)]
    simp only [List.take_succ_cons, List.getElem_cons_succ, snK, List.map_cons, List.sum_cons, Nat.add_assoc]

end Go.Proofs.Ythnpooffhopnkaa

/- Contracts of the laws' marks on images: markImage, heldImage. (Made ahead of stage 10.) -/
namespace Go.Proofs.Ythnpooffhopnkaa
open Go.RowKit
set_option linter.unusedVariables false
set_option maxRecDepth 100000

/-- An image that was marked, and how many marks it takes. -/
def mkIm (k : Nat) (m : Img) : Img := ⟨mkN k m.refs.length, mkN (k + m.refs.length) m.table.length, mkSn (k + m.refs.length + m.table.length) m.snaps, mkN (k + m.refs.length + m.table.length + snK m.snaps) m.data.length⟩
def imK (m : Img) : Nat := m.refs.length + m.table.length + snK m.snaps + m.data.length
theorem OwnN.row {w : World} {B : Nat} {v : Value} {xs : List Int} (h : OwnN w B v xs) : OwnR w B 3 1 v xs.length (intV xs) := by
  obtain ⟨qo, qa, rfl, ho⟩ := h
  exact ho
theorem OwnN.mk' {w : World} {B n c : Nat} {ao : Option Addr} {xs : List Int} (h : OwnR w B 3 1 (.slice ao n c) n (intV xs)) (hn : xs.length = n) : OwnN w B (.slice ao n c) xs := by
  subst hn
  exact ⟨ao, c, rfl, h⟩
theorem blk_belowI {w w' : World} {k : Nat} {o : Obj} (h : w.heap[k]? = some o) (hb : Below w.heap.size w w') : w'.heap[k]? = some o := (hb.block k (Array.getElem?_eq_some_iff.1 h).1).trans h
/-- The rows behind the first three are others now. -/
theorem OwnA.retail {w w' : World} {B : Nat} {r0 r1 r2 : Value × List Int} {qs qs' : List (Value × List Int)} {S : Nat → Prop} (h : OwnA w B (r0 :: r1 :: r2 :: qs)) (hk : Keep S w w') (hs : ∀ r ∈ [r0, r1, r2], ∀ g, Own r.1 g → ¬ S g) (hq : OwnA w' B qs') (he : qs'.map Prod.fst = qs.map Prod.fst) : OwnA w' B (r0 :: r1 :: r2 :: qs') := by
  refine ⟨fun r hr => ?_, ?_⟩
  · simp only [List.mem_cons] at hr
    rcases hr with e | e | e | hr
    · subst e; exact (h.own _ (by simp)).keep hk (hs _ (by simp))
    · subst e; exact (h.own _ (by simp)).keep hk (hs _ (by simp))
    · subst e; exact (h.own _ (by simp)).keep hk (hs _ (by simp))
    · exact hq.own r hr
  · have hp := List.pairwise_map (f := Prod.fst) (R := fun a b => ∀ g, Own a g → ¬ Own b g) |>.2 h.apart
    refine List.pairwise_map (f := Prod.fst) (R := fun a b => ∀ g, Own a g → ¬ Own b g) |>.1 ?_
    simp only [List.map_cons, he] at hp ⊢
    exact hp
theorem zip_fst {α β : Type} : ∀ (xs : List α) (ys : List β), xs.length = ys.length → (xs.zip ys).map Prod.fst = xs
  | [], [], _ => rfl
  | x :: xs, y :: ys, h => by rw [List.zip_cons_cons, List.map_cons, zip_fst xs ys (by simpa using h)]
/-- A row of numbers lies apart from the tables behind. -/
theorem OwnA.apart3 {w : World} {B : Nat} {r0 r1 r2 : Value × List Int} {ts : List Value} {xs : List (List Int)} (h : OwnA w B (r0 :: r1 :: r2 :: ts.zip xs)) (hl : ts.length = xs.length) : ∀ r ∈ [r0, r1, r2], ∀ g, Own r.1 g → ¬ ∃ t ∈ ts, Own t g := by
  intro r hr g hg ⟨t, ht, hx⟩
  have hm : t ∈ (ts.zip xs).map Prod.fst := by rw [zip_fst _ _ hl]; exact ht
  obtain ⟨p, hp, rfl⟩ := List.mem_map.1 hm
  have ha := h.apart
  simp only [List.pairwise_cons, List.mem_cons] at ha
  simp only [List.mem_cons, List.not_mem_nil, or_false] at hr
  rcases hr with rfl | rfl | rfl
  · exact ha.1 p (.inr (.inr hp)) g hg hx
  · exact ha.2.1 p (.inr hp) g hg hx
  · exact ha.2.2.1 p hp g hg hx
theorem OwnA.tail {w : World} {B : Nat} {r0 r1 r2 : Value × List Int} {qs : List (Value × List Int)} (h : OwnA w B (r0 :: r1 :: r2 :: qs)) : OwnA w B qs := by
  refine ⟨fun r hr => h.own r (by simp [hr]), ?_⟩
  have ha := h.apart
  simp only [List.pairwise_cons] at ha
  exact ha.2.2.2
/-- The blocks that an image has. -/
def ImB (a : Im4) (m : Img) (ts : List Value) (g : Nat) : Prop := Own (.slice a.ro m.refs.length a.rc) g ∨ Own (.slice a.tq m.table.length a.tc) g ∨ Own (.slice a.dq m.data.length a.dc) g ∨ Own (.slice a.so m.snaps.length a.sc) g ∨ ∃ t ∈ ts, Own t g
theorem OwnIm.ge {w : World} {B : Nat} {a : Im4} {m : Img} {ts : List Value} (h : OwnIm w B a m ts) : ∀ g, ImB a m ts g → B ≤ g ∧ g < w.heap.size := by
  intro g hg
  rcases hg with h1 | h1 | h1 | h1 | ⟨t, ht, h1⟩
  · exact (h.rows.own (.slice a.ro m.refs.length a.rc, m.refs) (by simp [imRows])).ge g h1
  · exact (h.rows.own (.slice a.tq m.table.length a.tc, m.table) (by simp [imRows])).ge g h1
  · exact (h.rows.own (.slice a.dq m.data.length a.dc, m.data) (by simp [imRows])).ge g h1
  · exact h.s.ge g h1
  · have hm : t ∈ (ts.zip (m.snaps.map (·.table))).map Prod.fst := by rw [zip_fst _ _ (by rw [List.length_map, h.len])]; exact ht
    obtain ⟨p, hp, rfl⟩ := List.mem_map.1 hm
    exact (h.rows.own p (by simp [imRows, hp])).ge g h1
theorem OwnIm.keep {w w' : World} {B : Nat} {a : Im4} {m : Img} {ts : List Value} {S : Nat → Prop} (h : OwnIm w B a m ts) (hk : Keep S w w') (hs : ∀ g, ImB a m ts g → ¬ S g) : OwnIm w' B a m ts := by
  refine ⟨h.len, h.s.keep hk (fun g hg => hs g (.inr (.inr (.inr (.inl hg))))), h.rows.keep hk (fun r hr g hg => hs g ?_)⟩
  unfold imRows at hr
  simp only [List.mem_cons] at hr
  rcases hr with rfl | rfl | rfl | hr
  · exact .inl hg
  · exact .inr (.inl hg)
  · exact .inr (.inr (.inl hg))
  · exact .inr (.inr (.inr (.inr ⟨r.1, (List.of_mem_zip (a := r.1) (b := r.2) hr).1, hg⟩)))
theorem OwnIm.base {w : World} {B B' : Nat} {a : Im4} {m : Img} {ts : List Value} (h : OwnIm w B a m ts) (hB : B' ≤ B) : OwnIm w B' a m ts := ⟨h.len, h.s.base hB, h.rows.base hB⟩

set_option maxHeartbeats 3200000 in
theorem markImage_any (a : Im4) (m : Img) (ts : List Value) (k B : Nat) (w : World) (hr : m.refs.length ≤ 1048576) (ht : m.table.length ≤ 1048576) (hsn : m.snaps.length ≤ 1048576) (hd : m.data.length ≤ 1048576) (hm : ∀ s ∈ m.snaps, s.table.length ≤ 1048576) (hsk : snK m.snaps ≤ 4194304) (hk0 : 0 < k) (hk1 : k ≤ 1000) (ho : OwnIm w B a m ts) :
    Calls Try.prog 22 #[imV a m, .int .i64 k] w fun e w' => e = .returned (.int .i64 ((k + imK m : Nat) : Int)) ∧ OwnIm w' B a (mkIm k m) ts ∧ Keep (ImB a m ts) w w' := by
  have HA := hide (Joins.below_alloc1 w (.cells #[.slice a.ro m.refs.length a.rc, .slice a.tq m.table.length a.tc, .slice a.so m.snaps.length a.sc, .slice a.dq m.data.length a.dc] 45))
  have HX := hide (heap_alloc_new w (.cells #[.slice a.ro m.refs.length a.rc, .slice a.tq m.table.length a.tc, .slice a.so m.snaps.length a.sc, .slice a.dq m.data.length a.dc] 45))
  have HO := hide (ho.below (unhide HA))
  have HM := hide hm
  have HLN := hide ho.len
  have HR : Hid (OwnA _ B (imRows a m ts)) := hide (unhide HO).rows
  have HS := hide (unhide HO).s
  clear ho hm
  obtain ⟨nr, hnr⟩ : ∃ n, n = m.refs.length := ⟨_, rfl⟩
  obtain ⟨nt, hnt⟩ : ∃ n, n = m.table.length := ⟨_, rfl⟩
  obtain ⟨nd, hnd⟩ : ∃ n, n = m.data.length := ⟨_, rfl⟩
  have H0 := hide (unhide HR |>.own _ (List.mem_cons_self)).row
  go_enter Try.func22, Try.ntmps22
  go_wp2_with fail
  refine (markIntS_any _ m.refs.length k _ B _ (by omega) hk0 (by omega) (unhide H0)).mono ?_
  rintro e w1 ⟨rfl, ho1, hk1'⟩
  have HR1 := hide ((unhide HR).turn (j := 0) rfl hk1' (OwnN.mk' ho1 (mkN_length _ _)))
  have HS1 := hide ((unhide HS).keep hk1' (own_apartT (unhide HS) (unhide H0) (by decide)))
  have hX1 : w1.heap[w.heap.size]? = _ := (hk1'.block _ (by simp) ((unhide H0).other (unhide HX) (by decide))).trans (unhide HX)
  have HX1 := hide hX1
  have hc1 : w1.cell? ⟨w.heap.size, 1, none⟩ = some (.slice a.tq m.table.length a.tc) := by rw [Joins.cell_of_block hX1]; rfl
  have HK1 := hide (Keep.trans (S := ImB a m ts) (Keep.of_below (unhide HA)) (hk1'.mono (fun g h => .inl h)))
  clear ho1 hk1' hX1
  have H1 := hide (unhide HR1 |>.own (.slice a.tq m.table.length a.tc, m.table) (by simp [imRows])).row
  go_wp2_with fail
  refine (markIntS_any _ m.table.length (k + m.refs.length) _ B _ (by omega) (by omega) (by omega) (unhide H1)).mono ?_
  rintro e w2 ⟨rfl, ho2, hk2'⟩
  have HR2 := hide ((unhide HR1).turn (j := 1) rfl hk2' (OwnN.mk' ho2 (mkN_length _ _)))
  have HS2 := hide ((unhide HS1).keep hk2' (own_apartT (unhide HS1) (unhide H1) (by decide)))
  have hX2 : w2.heap[w.heap.size]? = _ := (hk2'.block _ (Array.getElem?_eq_some_iff.1 (unhide HX1)).1 ((unhide H1).other (unhide HX1) (by decide))).trans (unhide HX1)
  have HX2 := hide hX2
  have hc2 : w2.cell? ⟨w.heap.size, 2, none⟩ = some (.slice a.so m.snaps.length a.sc) := by rw [Joins.cell_of_block hX2]; rfl
  have HK2 := hide ((unhide HK1).trans (hk2'.mono (fun g h => .inr (.inl h))))
  clear ho2 hk2' hX2 hc1
  have HR2' : Hid (OwnA w2 B ((.slice a.ro m.refs.length a.rc, mkN k m.refs.length) :: (.slice a.tq m.table.length a.tc, mkN (k + m.refs.length) m.table.length) :: (.slice a.dq m.data.length a.dc, m.data) :: ts.zip (m.snaps.map (·.table)))) := hide (unhide HR2)
  go_wp2_with fail
  refine (markSnapS_any _ (k + m.refs.length + m.table.length) B m.snaps ts _ (by omega) (fun s hs => by have := unhide HM s hs; omega) (by omega) (by omega) (unhide HLN) (unhide HS2) (unhide HR2').tail).mono ?_
  rintro e w3 ⟨rfl, ho3, ha3, hk3⟩
  have HLM : Hid (ts.length = ((mkSn (k + m.refs.length + m.table.length) m.snaps).map (·.table)).length) := hide (by rw [List.length_map, mkSn_length, unhide HLN])
  have HR3 : Hid (OwnA w3 B ((.slice a.ro m.refs.length a.rc, mkN k m.refs.length) :: (.slice a.tq m.table.length a.tc, mkN (k + m.refs.length) m.table.length) :: (.slice a.dq m.data.length a.dc, m.data) :: ts.zip ((mkSn (k + m.refs.length + m.table.length) m.snaps).map (·.table)))) := hide ((unhide HR2').retail hk3 (fun r hr g hg hS => by
    rcases hS with hS | hS
    · exact own_apartS ((unhide HR2').own r (by simp only [List.mem_cons, List.not_mem_nil, or_false] at hr; rcases hr with rfl | rfl | rfl <;> simp)).row (unhide HS2) (by decide) g hg hS
    · exact (unhide HR2').apart3 (by rw [List.length_map, unhide HLN]) r hr g hg hS) ha3 (by rw [zip_fst _ _ (unhide HLM), zip_fst _ _ (by rw [List.length_map, unhide HLN])]))
  have HS3 := hide ho3
  have hX3 : w3.heap[w.heap.size]? = _ := (hk3.block _ (Array.getElem?_eq_some_iff.1 (unhide HX2)).1 (fun hS => by
    rcases hS with hS | ⟨t, ht, hS⟩
    · exact (unhide HS2).other (unhide HX2) (by decide) hS
    · have hm : t ∈ (ts.zip (m.snaps.map (·.table))).map Prod.fst := by rw [zip_fst _ _ (by rw [List.length_map, unhide HLN])]; exact ht
      obtain ⟨p, hp, rfl⟩ := List.mem_map.1 hm
      exact ((unhide HR2').own p (by simp [hp])).row.other (unhide HX2) (by decide) hS)).trans (unhide HX2)
  have HX3 := hide hX3
  have hc3 : w3.cell? ⟨w.heap.size, 3, none⟩ = some (.slice a.dq m.data.length a.dc) := by rw [Joins.cell_of_block hX3]; rfl
  have HK3 := hide ((unhide HK2).trans (hk3.mono (fun g h => h.elim (fun h => .inr (.inr (.inr (.inl h)))) (fun h => .inr (.inr (.inr (.inr h)))))))
  clear ho3 ha3 hk3 hX3 hc2 HR2
  have H3 := hide (unhide HR3 |>.own (.slice a.dq m.data.length a.dc, m.data) (by simp)).row
  go_wp2_with fail
  refine (markIntS_any _ m.data.length (k + m.refs.length + m.table.length + snK m.snaps) _ B _ (by omega) (by omega) (by omega) (unhide H3)).mono ?_
  rintro e w4 ⟨rfl, ho4, hk4⟩
  have HR4 := hide ((unhide HR3).turn (j := 2) rfl hk4 (OwnN.mk' ho4 (mkN_length _ _)))
  have HS4 := hide ((unhide HS3).keep hk4 (own_apartT (unhide HS3) (unhide H3) (by decide)))
  have HK4 := hide ((unhide HK3).trans (hk4.mono (fun g h => .inr (.inr (.inl h)))))
  clear ho4 hk4 hc3
  go_wp2
  go_ret
  refine ⟨ret_int (by unfold imK; omega), ⟨?_, ?_, ?_⟩, unhide HK4⟩
  · simp only [mkIm, mkSn_length]; exact unhide HLN
  · simp only [mkIm, mkSn_length]; exact unhide HS4
  · simp only [imRows, mkIm, mkN_length]
    exact unhide HR4

end Go.Proofs.Ythnpooffhopnkaa

/- Contract of impl.listFault. -/
namespace Go.Proofs.Ythnpooffhopnkaa
open Go.RowKit
set_option linter.unusedVariables false
set_option maxRecDepth 100000

end Go.Proofs.Ythnpooffhopnkaa

/- What PackInts answers, plain. -/
namespace Go.Proofs.Ythnpooffhopnkaa
set_option linter.unusedVariables false

/-- The answer's text. -/
def packT (xs : List Int) : ByteArray := if listC xs = 0 then packS xs else ⟨#[]⟩
theorem packT_ok {xs : List Int} (h : listC xs = 0) : packT xs = packS xs := if_pos h
theorem packT_no {xs : List Int} (h : listC xs ≠ 0) : packT xs = ⟨#[]⟩ := if_neg h
theorem ret_si {a b : ByteArray} {c d : Int} (h : a = b) (k : c = d) : Ending.returned (.tuple #[.string a, .int .i64 c]) = .returned (.tuple #[.string b, .int .i64 d]) := by rw [h, k]

end Go.Proofs.Ythnpooffhopnkaa
