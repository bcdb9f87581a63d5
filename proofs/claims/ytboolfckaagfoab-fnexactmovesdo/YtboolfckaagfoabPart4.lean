import Derived.Test.YtboolfckaagfoabRows
import Derived.Test.YtboolfckaagfoabPart1
import Derived.Test.YtboolfckaagfoabPart2
import Derived.Test.YtboolfckaagfoabPart3
import Derived.WalkKit
import Derived.WalkSpells
import Derived.Deep.RegionLawGrows
import Derived.Deep.RegionHeld3
import Derived.Deep.AppendLies
import Derived.BigQuiet
import Derived.Deep.QuietTactic
import Derived.Deep.RegionWith
import Derived.Laws.BytesArg

/- Contract of spec.l01Own: the disk as it was, in new memory. -/
namespace Go.Proofs.Ytboolfckaagfoab
open Go.RowKit
set_option linter.unusedVariables false
set_option maxRecDepth 100000

/-- The cells of a slice's texts, of its writes, for an append. -/
theorem Ss.src {w : World} {ao : Option Addr} {ss : List ByteArray} (h : Ss w ao ss) : 0 < ss.length → ∃ ad, ao = some ad ∧ ∀ j u, (strV ss)[j]? = some u → w.cell? (ad.add j) = some u := fun hp => by
  obtain ⟨b, off, rfl, hc⟩ := h.at hp
  exact ⟨_, rfl, hc⟩
theorem Ios.src {w : World} {ao : Option Addr} {xs : List Wr} (h : Ios w ao xs) : 0 < xs.length → ∃ ad, ao = some ad ∧ ∀ j u, (ioV xs)[j]? = some u → w.cell? (ad.add j) = some u := fun hp => by
  obtain ⟨b, off, rfl, hc⟩ := h.at hp
  exact ⟨_, rfl, hc⟩


theorem VarD.free {w : World} {x : Nat} {a b : Value} (h : VarD w x a b) (i : Nat) : w.frozen? ⟨x, i, none⟩ = false := Joins.unfrozen_of_block h i

set_option maxHeartbeats 6400000 in
theorem l01Own_any (ao bo : Option Addr) (ca cb : Nat) (ss : List ByteArray) (xs : List Wr) (w : World) (hl : ss.length ≤ 1048576) (hm : xs.length ≤ 1048576) (h1 : Ss w ao ss) (h2 : Ios w bo xs) :
    Calls Try.prog 20 #[.agg #[.slice ao ss.length ca, .slice bo xs.length cb]] w fun e w' => ∃ po pa qo qa, e = .returned (.agg #[.slice po ss.length pa, .slice qo xs.length qa]) ∧ OwnD w' w.heap.size po ss.length pa qo xs.length qa ss xs ∧ Below w.heap.size w w' := by
  have HA := hide (Joins.below_alloc2 w (.cells #[.slice ao ss.length ca, .slice bo xs.length cb] 31) (.cells #[.slice none 0 0, .slice none 0 0] 31))
  have HS := hide (h1.below (unhide HA))
  have HX := hide (h2.below (unhide HA))
  have HV := hide ((VarD.new w (.slice ao ss.length ca) (.slice bo xs.length cb)).below (Joins.below_alloc1 _ (.cells #[.slice none 0 0, .slice none 0 0] 31)))
  have HR : Hid (VarD ((w.alloc (.cells #[.slice ao ss.length ca, .slice bo xs.length cb] 31)).alloc (.cells #[.slice none 0 0, .slice none 0 0] 31)) (w.heap.size + 1) (.slice none 0 0) (.slice none 0 0)) := hide (by have := VarD.new (w.alloc (.cells #[.slice ao ss.length ca, .slice bo xs.length cb] 31)) (.slice none 0 0) (.slice none 0 0); simp only [World.size_alloc] at this; exact this)
  clear h1 h2
  obtain ⟨i0, hi, hz0, hz1, hz2⟩ := info_parts infoS
  obtain ⟨j0, hj, hy0, hy1, hy2⟩ := info_parts infoW
  go_enter Try.func20, Try.ntmps20
  go_wp2
  go_region_held3 (fun w' => w'.cell? ⟨w.heap.size, 0, none⟩ = some (.slice ao ss.length ca) ∧ w'.cell? ⟨w.heap.size, 1, none⟩ = some (.slice bo xs.length cb)) (go_keep)
    (first
      | (refine (step_append_fresh ?_ (.tmp 3) (.tmp 5) 22 ?_ 9 i0 (.string ⟨#[]⟩) 1 16 Try.underlying22 hi hz0 hz1 hz2 ?_ ?_ ?_ ao ss.length ca (strV ss) ?_ ?_ ?_ ?_ ?_ ?_)
         · rfl
         · rfl
         · rfl
         · omega
         · rfl
         · rfl
         · rw [strV_length]; omega
         · refine Ss.src ((unhide HS).below ?_)
           repeat (first | exact Below.refl _ _ | exact hbA | exact hbB | refine Below.drew ?_ | refine belowAl ?_ _)
         · unfold maxLen; omega
         · omega
         intro po pa wA hoA hgA
         have hbA : Below ((w.alloc (.cells #[.slice ao ss.length ca, .slice bo xs.length cb] 31)).alloc (.cells #[.slice none 0 0, .slice none 0 0] 31)).heap.size ((w.alloc (.cells #[.slice ao ss.length ca, .slice bo xs.length cb] 31)).alloc (.cells #[.slice none 0 0, .slice none 0 0] 31)) wA := belowGr (by repeat (first | exact Below.refl _ _ | exact hbA | exact hbB | refine Below.drew ?_ | refine belowAl ?_ _)) hgA
         obtain ⟨hA0, hA1⟩ := ((unhide HV).below hbA).cells
         obtain ⟨hA2, hA3⟩ := ((unhide HR).below hbA).cells
         have hA4 := ((unhide HR).below hbA).free 0
         have hA5 := ((unhide HR).below hbA).free 1)
      | (refine (step_append_fresh ?_ (.tmp 7) (.tmp 9) 29 ?_ 68 j0 (.agg #[.int .i64 0, .int .i64 0, .string ⟨#[]⟩]) 3 32 Try.underlying29 hj hy0 hy1 hy2 ?_ ?_ ?_ bo xs.length cb (ioV xs) ?_ ?_ ?_ ?_ ?_ ?_)
         · rfl
         · rfl
         · rfl
         · omega
         · rfl
         · rfl
         · rw [ioV_length]
         · refine Ios.src ((unhide HX).below ?_)
           repeat (first | exact Below.refl _ _ | exact hbA | exact hbB | refine Below.drew ?_ | refine belowAl ?_ _)
         · unfold maxLen; omega
         · omega
         intro qo qa wB hoB hgB
         have hbB : Below ((w.alloc (.cells #[.slice ao ss.length ca, .slice bo xs.length cb] 31)).alloc (.cells #[.slice none 0 0, .slice none 0 0] 31)).heap.size ((w.alloc (.cells #[.slice ao ss.length ca, .slice bo xs.length cb] 31)).alloc (.cells #[.slice none 0 0, .slice none 0 0] 31)) wB := belowGr (by repeat (first | exact Below.refl _ _ | exact hbA | exact hbB | refine Below.drew ?_ | refine belowAl ?_ _)) hgB
         obtain ⟨hB0, hB1⟩ := ((unhide HV).below hbB).cells
         obtain ⟨hB2, hB3⟩ := ((unhide HR).below hbB).cells
         have hB4 := ((unhide HR).below hbB).free 0
         have hB5 := ((unhide HR).below hbB).free 1))
  all_goals
    have hAB : Below wA.heap.size wA wB := belowGr (by repeat (first | exact Below.refl _ _ | refine Below.drew ?_ | refine belowAl ?_ _)) hgB
    have hsA : w.heap.size + 2 ≤ wA.heap.size := by have := hbA.size; simp at this; omega
    have HL := hide (copyD_end (w := w) (wL := wB) (po := po) (qo := qo) (n := ss.length) (pa := pa) (m := xs.length) (qa := qa) (ss := ss) (xs := xs) ⟨(hoA.below hAB).base (by first | omega | (simp <;> omega)), hoB.base (by first | omega | (simp <;> omega) | exact hsA)⟩ (fr (unhide HA) hbB) (.slice po ss.length pa) (.slice qo xs.length qa))
    clear hoA hoB hgA hgB hbA hbB hAB hA0 hA1 hA2 hA3 hA4 hA5
    go_wp2
    exact bodyPost_ret (v := .agg #[.slice po ss.length pa, .slice qo xs.length qa]) (by simp [results, Try.results20, go_sem, hB2, hB3]) rfl ⟨_, _, _, _, rfl, (unhide HL).1, (unhide HL).2⟩

end Go.Proofs.Ytboolfckaagfoab

/- Variables that hold a write; ends of calls that answer with a disk. -/
namespace Go.Proofs.Ytboolfckaagfoab
open Go.RowKit
set_option linter.unusedVariables false

def wrV (x : Wr) : List Value := [.int .i64 x.host, .int .i64 x.at_, .string x.data]
theorem wrV_one (x : Wr) : ∀ u ∈ wrV x, u.oneCell' = true := by
  intro u hu
  simp [wrV] at hu
  rcases hu with rfl | rfl | rfl <;> rfl
/-- A variable that holds a write. -/
def VarI (w : World) (y : Nat) (x : Wr) : Prop := w.heap[y]? = some (.cells #[.int .i64 x.host, .int .i64 x.at_, .string x.data] 68 (0, 0))
theorem VarI.lt {w : World} {y : Nat} {x : Wr} (h : VarI w y x) : y < w.heap.size := (Array.getElem?_eq_some_iff.1 h).1
theorem VarI.cells {w : World} {y : Nat} {x : Wr} (h : VarI w y x) : w.cell? ⟨y, 0, none⟩ = some (.int .i64 x.host) ∧ w.cell? ⟨y, 1, none⟩ = some (.int .i64 x.at_) ∧ w.cell? ⟨y, 2, none⟩ = some (.string x.data) := ⟨by rw [Joins.cell_of_block h]; rfl, by rw [Joins.cell_of_block h]; rfl, by rw [Joins.cell_of_block h]; rfl⟩
theorem VarI.below {w w' : World} {y : Nat} {x : Wr} (h : VarI w y x) (hb : Below w.heap.size w w') : VarI w' y x := by
  unfold VarI; rw [hb.block y h.lt]; exact h
theorem VarI.new (w : World) (x : Wr) : VarI (w.alloc (.cells #[.int .i64 x.host, .int .i64 x.at_, .string x.data] 68)) w.heap.size x := heap_alloc_new w _
theorem VarI.news {w : World} {y : Nat} {x : Wr} (h : VarI w y x) : ∀ j u, (wrV x)[j]? = some u → w.cell? ((⟨y, 0, none⟩ : Addr).add j) = some u := World.news_of_block (cs := #[.int .i64 x.host, .int .i64 x.at_, .string x.data]) h
theorem VarI.top {W : World} {y : Nat} {x : Wr} (h : W.heap.size = y) : VarI (W.alloc (.cells #[.int .i64 x.host, .int .i64 x.at_, .string x.data] 68)) y x := by rw [← h]; exact VarI.new W x
theorem VarI.under {W : World} {y : Nat} {x : Wr} (h : VarI W y x) (o : Obj) : VarI (W.alloc o) y x := h.below (Joins.below_alloc1 _ _)
theorem VarI.drew {W : World} {y : Nat} {x : Wr} (h : VarI W y x) : VarI W.drew y x := h
theorem VarI.grown {W W' : World} {y : Nat} {x : Wr} (h : VarI W y x) (hg : W.grownBy W' none) : VarI W' y x := by
  unfold VarI; rw [hg.block y h.lt (by simp)]; exact h
theorem ioV_snoc (xs : List Wr) (x : Wr) : ioV (xs ++ [x]) = ioV xs ++ wrV x := by simp [ioV, wrV]

theorem belowKp {W0 W W' : World} {S : Nat → Prop} (h : Below W0.heap.size W0 W) (hk : Keep S W W') (hs : ∀ j, S j → W0.heap.size ≤ j) : Below W0.heap.size W0 W' := h.trans (hk.below h.size hs)
theorem zeroD_own {w : World} {B : Nat} : OwnD w B none 0 0 none 0 0 [] [] := ⟨.inl ⟨rfl, rfl, none, rfl⟩, .inl ⟨rfl, rfl, none, rfl⟩⟩
theorem zero_end {w wL : World} (hb : Below w.heap.size w wL) (a b : Value) : Below w.heap.size w ((wL.setCell ⟨w.heap.size + 1, 0, none⟩ a).setCell ⟨w.heap.size + 1, 1, none⟩ b) :=
  (hb.setCell (p := ⟨w.heap.size + 1, 0, none⟩) (by simp) a).setCell (p := ⟨w.heap.size + 1, 1, none⟩) (by simp) b

theorem ask_zero (ss : List ByteArray) (xs : List Wr) (h : Int) : askC ss xs h 0 = hostC ss xs h := by
  unfold askC
  split
  · rename_i e; rw [e]; rfl
  · rfl
/-- A disk's answer through the cell of the result. -/
theorem land_end {w wL : World} {po qo : Option Addr} {n pa m qa : Nat} {ss : List ByteArray} {xs : List Wr} {B : Nat} (ho : OwnD wL B po n pa qo m qa ss xs) (hB : w.heap.size + 2 ≤ B) (hb : Below w.heap.size w wL) (a b : Value) :
    OwnD ((wL.setCell ⟨w.heap.size + 1, 0, none⟩ a).setCell ⟨w.heap.size + 1, 1, none⟩ b) w.heap.size po n pa qo m qa ss xs ∧ Below w.heap.size w ((wL.setCell ⟨w.heap.size + 1, 0, none⟩ a).setCell ⟨w.heap.size + 1, 1, none⟩ b) :=
  copyD_end (ho.base hB) hb a b

end Go.Proofs.Ytboolfckaagfoab

/- Contracts of the laws' marks: markText, markDisk, heldDisk. -/
namespace Go.Proofs.Ytboolfckaagfoab
open Go.RowKit
set_option linter.unusedVariables false
set_option maxRecDepth 100000

/-- The decimal digits of a number, as bytes; none of 0. -/
def digsF : Nat → Nat → List UInt8
  | 0, _ => []
  | f + 1, n => if n = 0 then [] else digsF f (n / 10) ++ [UInt8.ofNat (48 + n % 10)]
theorem digsF_more : ∀ (f n g : Nat), n ≤ f → n ≤ g → digsF f n = digsF g n
  | 0, n, g, h, _ => by
    have : n = 0 := by omega
    subst this
    cases g <;> simp [digsF]
  | f + 1, n, 0, _, h => by
    have : n = 0 := by omega
    subst this
    simp [digsF]
  | f + 1, n, g + 1, h1, h2 => by
    by_cases h : n = 0
    · subst h; simp [digsF]
    · rw [digsF, digsF, if_neg h, if_neg h, digsF_more f (n / 10) g (by omega) (by omega)]
def digs (n : Nat) : List UInt8 := digsF n n
theorem digs_zero : digs 0 = [] := rfl
theorem digs_pos {n : Nat} (h : n ≠ 0) : digs n = digs (n / 10) ++ [UInt8.ofNat (48 + n % 10)] := by
  obtain ⟨m, rfl⟩ : ∃ m, n = m + 1 := ⟨n - 1, by omega⟩
  rw [digs, digsF, if_neg h, digs, digsF_more m ((m + 1) / 10) ((m + 1) / 10) (by omega) (Nat.le_refl _)]
theorem ret_str1 {a b : ByteArray} (h : a = b) : Ending.returned (.string a) = .returned (.string b) := by rw [h]
def mtB (k : Nat) : ByteArray := ⟨(109 :: digs k).toArray⟩

set_option maxHeartbeats 1600000 in
theorem markText_any (k : Nat) (w : World) (h0 : 0 < k) (h1 : k ≤ 1073741824) :
    Calls Try.prog 34 #[.int .i64 k] w fun e w' => e = .returned (.string (mtB k)) ∧ Below w.heap.size w w' := by
  go_enter Try.func34, Try.ntmps34
  go_wp2
  go_loopw [0, 3] (fun n o wr => ∃ (m : Nat) (s : ByteArray), n = .int .i64 m ∧ o = .string s ∧ m ≤ k ∧ s.size + m ≤ k ∧ Hid (digs m ++ s.data.toList = digs k) ∧ Hid (Below w.heap.size w wr)) (fun n _ _ => (intOf n).toNat)
  case atStart => exact ⟨k, ⟨#[]⟩, rfl, rfl, Nat.le_refl _, by show 0 + k ≤ k; omega, hide (by simp), hide (Below.refl _ _)⟩
  case round =>
    obtain ⟨m, s, rfl, rfl, hm, hs, HD, HB⟩ := hrel
    by_cases hp : 0 < m
    · obtain ⟨d1, Hd1, hsz, hcv⟩ : ∃ d1 : ByteArray, Hid (d1.data.toList = [UInt8.ofNat (48 + m % 10)]) ∧ d1.size = 1 ∧ (convert 75 9 (.slice (some ⟨wr.heap.size, 0, none⟩) 1 1)).run Try.prog (wr.alloc (.cells #[.int .u8 (48 + (m : Int) % 10)] 5)) = .ok (.string d1) (wr.alloc (.cells #[.int .u8 (48 + (m : Int) % 10)] 5)) := by
        refine ⟨_, ?_, ?_, run_convert_bytes_arg _ 75 5 Try.underlying75 Try.underlying5 wr.heap.size 0 1 1 [48 + (m : Int) % 10] rfl ?_ 9 Try.underlying9⟩
        · have e : (48 + (m : Int) % 10).toNat = 48 + m % 10 := by omega
          exact hide (by simp [strOfNums, e])
        · simp [strOfNums, ByteArray.size]
        · intro i hi
          have : i = 0 := by omega
          subst this
          simp [go_sem]
      have HBA := hide (fun o => (unhide HB).alloc (unhide HB).size o)
      have hsum : (d1 ++ s).size = 1 + s.size := by rw [ByteArray.size_append, hsz]
      have hlist : (d1 ++ s).data.toList = d1.data.toList ++ s.data.toList := by simp
      have HSUM := hide hsum
      have HLIST := hide hlist
      clear hsum hlist
      go_wp2
      go_roundw
      case rel =>
        refine ⟨m / 10, d1 ++ s, ?_, rfl, by omega, by rw [unhide HSUM]; omega, hide ?_, hide (unhide HBA _)⟩
        · go_num
        · rw [unhide HLIST, unhide Hd1, ← List.append_assoc, ← digs_pos (by omega)]
          exact unhide HD
      case measure => simp [intOf]; omega
    · have H : Hid (({ data := #[109] } : ByteArray) ++ s = mtB k) := by
        have hm0 : m = 0 := by omega
        subst hm0
        have := unhide HD
        rw [digs_zero, List.nil_append] at this
        refine hide ?_
        unfold mtB
        rw [← this]
        apply ByteArray.ext
        simp
      go_wp2
      go_ret
      exact ⟨ret_str1 (unhide H), unhide HB⟩

/-- The marks of a row of texts, of a row of writes. -/
def mkS (k n : Nat) : List ByteArray := (List.range n).map fun i => mtB (k + i)
def mkI (k n : Nat) : List Wr := (List.range n).map fun i => ⟨(k + 3 * i : Nat), (k + 3 * i + 1 : Nat), mtB (k + 3 * i + 2)⟩
theorem mkS_length (k n : Nat) : (mkS k n).length = n := by simp [mkS]
theorem mkI_length (k n : Nat) : (mkI k n).length = n := by simp [mkI]
theorem mkS_get {k n j : Nat} (h : j < n) : (strV (mkS k n))[j]? = some (.string (mtB (k + j))) := by simp [strV, mkS, h]
theorem mkI_get {k n j : Nat} (h : j < (mkI k n).length) : (mkI k n)[j] = ⟨(k + 3 * j : Nat), (k + 3 * j + 1 : Nat), mtB (k + 3 * j + 2)⟩ := by simp [mkI]

set_option maxHeartbeats 1600000 in
theorem markStringS_any (v : Value) (n k : Nat) (xs : List Value) (B : Nat) (w : World) (hn : n ≤ 4194304) (hk0 : 0 < k) (hk1 : k ≤ 268435456) (ho : OwnR w B 9 1 v n xs) :
    Calls Try.prog 32 #[v, .int .i64 k] w fun e w' => e = .returned (.int .i64 ((k + n : Nat) : Int)) ∧ OwnR w' B 9 1 v n (strV (mkS k n)) ∧ Keep (Own v) w w' := by
  rcases ho with ⟨rfl, rfl, ao, rfl⟩ | ⟨hpos, ho'⟩
  · go_enter Try.func32, Try.ntmps32
    go_wp2
    refine wp_loop_rounds 1 ?_
    rw [rounds_succ]
    go_wp2
    go_ret
    refine ⟨ret_int (by simp), .inl ⟨rfl, rfl, ao, rfl⟩, Keep.refl _ _⟩
  · obtain ⟨g, cap, cur, rfl, _, _⟩ := own_form hpos ho'
    have HO := hide ho'
    clear ho'
    go_enter Try.func32, Try.ntmps32
    go_wp2
    go_loopw [1, 5] (fun kk i wr => ∃ (j : Nat) (ys : List Value), j ≤ n ∧ i = .int .i64 j ∧ kk = .int .i64 ((k + j : Nat) : Int) ∧ Hid (ys.length = n) ∧ Hid (ys.take j = (strV (mkS k n)).take j) ∧ Hid (wr.ownsRow B 9 1 (.slice (some ⟨g, 0, none⟩) n cap) n ys) ∧ Hid (Keep (Own (.slice (some ⟨g, 0, none⟩) n cap)) w wr)) (fun _ i _ => n - (intOf i).toNat)
    case atStart => exact ⟨0, xs, Nat.zero_le _, rfl, by simp, hide (by rw [(unhide HO).1]; omega), hide (by simp), HO, hide (Keep.refl _ _)⟩
    case round =>
      obtain ⟨j, ys, hj, rfl, rfl, HL, HT, HO, HK⟩ := hrel
      by_cases hlt : j < n
      · go_wp2_with fail
        refine (markText_any (k + j) _ (by omega) (by omega)).mono ?_
        rintro e w2 ⟨rfl, hb2⟩
        have HO2 := hide (own_below (unhide HO) hb2)
        have HK2 := hide ((unhide HK).trans (Keep.of_below hb2))
        clear hb2
        have hfr := (unhide HO2).frozenAt j
        obtain ⟨x0, hcx⟩ : ∃ x, w2.cell? ⟨g, j, none⟩ = some x := ⟨_, ((unhide HO2).cellAt j (by omega)).trans (List.getElem?_eq_getElem (by rw [unhide HL]; exact hlt))⟩
        have HST := hide ((unhide HO2).stored j (.string (mtB (k + j))))
        have HKS := hide ((unhide HK2).setCell (p := ⟨g, j, none⟩) (own_of hpos rfl) (.string (mtB (k + j))))
        go_wp2
        go_roundw
        case rel => exact ⟨j + 1, ys.set j (.string (mtB (k + j))), by omega, by go_num, by go_num, hide (by rw [List.length_set]; exact unhide HL), hide (set_take' (by rw [unhide HL, strV_length, mkS_length]) (mkS_get hlt) (unhide HT)), hide (unhide HST).1, HKS⟩
        case measure => simp [intOf]; omega
      · go_wp2
        go_ret
        have hjn : j = n := by omega
        subst hjn
        have hxs : ys = strV (mkS k j) := by
          have := unhide HT
          rwa [List.take_of_length_le (by rw [unhide HL]; exact Nat.le_refl _), List.take_of_length_le (by rw [strV_length, mkS_length]; exact Nat.le_refl _)] at this
        subst hxs
        exact ⟨rfl, .inr ⟨hpos, unhide HO⟩, unhide HK⟩

set_option maxHeartbeats 1600000 in
theorem heldStringS_any (v : Value) (n k : Nat) (B : Nat) (w : World) (hn : n ≤ 4194304) (hk0 : 0 < k) (hk1 : k ≤ 268435456) (ho : OwnR w B 9 1 v n (strV (mkS k n))) :
    Calls Try.prog 35 #[v, .int .i64 k] w fun e w' => e = .returned (.int .i64 ((k + n : Nat) : Int)) ∧ Below w.heap.size w w' := by
  rcases ho with ⟨rfl, _, ao, rfl⟩ | ⟨hpos, ho'⟩
  · go_enter Try.func35, Try.ntmps35
    go_wp2
    refine wp_loop_rounds 1 ?_
    rw [rounds_succ]
    go_wp2
    go_ret
    exact ⟨ret_int (by simp), Below.refl _ _⟩
  · obtain ⟨g, cap, cur, rfl, _, _⟩ := own_form hpos ho'
    have HO := hide ho'
    clear ho'
    go_enter Try.func35, Try.ntmps35
    go_wp2
    go_loopw [1, 5] (fun kk i wr => ∃ (j : Nat), j ≤ n ∧ i = .int .i64 j ∧ kk = .int .i64 ((k + j : Nat) : Int) ∧ Hid (Below w.heap.size w wr)) (fun _ i _ => n - (intOf i).toNat)
    case atStart => exact ⟨0, Nat.zero_le _, rfl, by simp, hide (Below.refl _ _)⟩
    case round =>
      obtain ⟨j, hj, rfl, rfl, HB⟩ := hrel
      by_cases hlt : j < n
      · have hcx : wr.cell? ⟨g, j, none⟩ = some (.string (mtB (k + j))) := ((own_below (unhide HO) (unhide HB)).cellAt j (by omega)).trans (mkS_get hlt)
        have hgl : g < wr.heap.size := World.block_lt_of_cell? _ _ hcx
        go_wp2
        go_region_with (go_at_call 34; refine (markText_any (k + j) _ (by omega) (by omega)).mono ?_; rintro e w2 ⟨rfl, hb2⟩; have hcy := (hb2.cell (p := ⟨g, j, none⟩) hgl).trans hcx)
        all_goals
          have HB2 : Hid (Below w.heap.size w w2) := hide (Below.trans (by repeat (first | exact unhide HB | apply Below.drew)) (hb2.mono (unhide HB).size))
          clear hb2 hcy hcx hgl
          go_wp2
          go_roundw
          case rel => exact ⟨j + 1, by omega, by go_num, by go_num, HB2⟩
          case measure => simp [intOf]; omega
      · go_wp2
        go_ret
        have hjn : j = n := by omega
        subst hjn
        exact ⟨rfl, unhide HB⟩

theorem mk_take {ys : List Value} {k n j : Nat} (hj : j < n) (hl : ys.length = n * 3) (h : ys.take (j * 3) = (ioV (mkI k n)).take (j * 3)) :
    (((ys.set (j * 3) (.int .i64 ((k : Int) + 3 * (j : Int)))).set (j * 3 + 1) (.int .i64 ((k : Int) + 3 * (j : Int) + 1))).set (j * 3 + 2) (.string (mtB (k + 3 * j + 2)))).take ((j + 1) * 3) = (ioV (mkI k n)).take ((j + 1) * 3) := by
  have hj' : j < (mkI k n).length := by rw [mkI_length]; exact hj
  have e := io_take hj' (by rw [mkI_length]; exact hl) h
  have e0 : (mkI k n)[j].host = (k : Int) + 3 * (j : Int) := by rw [mkI_get hj']; simp
  have e1 : (mkI k n)[j].at_ = (k : Int) + 3 * (j : Int) + 1 := by rw [mkI_get hj']; simp
  have e2 : (mkI k n)[j].data = mtB (k + 3 * j + 2) := by rw [mkI_get hj']
  rw [e0, e1, e2] at e
  exact e

set_option maxHeartbeats 3200000 in
theorem markIoS_any (v : Value) (n k : Nat) (xs : List Value) (B : Nat) (w : World) (hn : n ≤ 4194304) (hk0 : 0 < k) (hk1 : k ≤ 268435456) (ho : OwnR w B 68 3 v n xs) :
    Calls Try.prog 33 #[v, .int .i64 k] w fun e w' => e = .returned (.int .i64 ((k + 3 * n : Nat) : Int)) ∧ OwnR w' B 68 3 v n (ioV (mkI k n)) ∧ Keep (Own v) w w' := by
  rcases ho with ⟨rfl, rfl, ao, rfl⟩ | ⟨hpos, ho'⟩
  · go_enter Try.func33, Try.ntmps33
    go_wp2
    refine wp_loop_rounds 1 ?_
    rw [rounds_succ]
    go_wp2
    go_ret
    refine ⟨ret_int (by simp), .inl ⟨rfl, rfl, ao, rfl⟩, Keep.refl _ _⟩
  · obtain ⟨g, cap, cur, rfl, _, _⟩ := own_form hpos ho'
    have HO := hide ho'
    clear ho'
    go_enter Try.func33, Try.ntmps33
    go_wp2
    go_loopw [1, 5] (fun kk i wr => ∃ (j : Nat) (ys : List Value), j ≤ n ∧ i = .int .i64 j ∧ kk = .int .i64 ((k + 3 * j : Nat) : Int) ∧ Hid (ys.length = n * 3) ∧ Hid (ys.take (j * 3) = (ioV (mkI k n)).take (j * 3)) ∧ Hid (wr.ownsRow B 68 3 (.slice (some ⟨g, 0, none⟩) n cap) n ys) ∧ Hid (Keep (Own (.slice (some ⟨g, 0, none⟩) n cap)) w wr)) (fun _ i _ => n - (intOf i).toNat)
    case atStart => exact ⟨0, xs, Nat.zero_le _, rfl, by simp, hide (by rw [(unhide HO).1]), hide (by simp), HO, hide (Keep.refl _ _)⟩
    case round =>
      obtain ⟨j, ys, hj, rfl, rfl, HL, HT, HO, HK⟩ := hrel
      by_cases hlt : j < n
      · have hf0 := (unhide HO).frozenAt (j * 3)
        have hf1 := (unhide HO).frozenAt (j * 3 + 1)
        have hf2 := (unhide HO).frozenAt (j * 3 + 2)
        obtain ⟨x0, hx0⟩ : ∃ x, wr.cell? ⟨g, j * 3, none⟩ = some x := ⟨_, ((unhide HO).cellAt (j * 3) (by omega)).trans (List.getElem?_eq_getElem (by rw [unhide HL]; omega))⟩
        obtain ⟨x1, hx1⟩ : ∃ x, wr.cell? ⟨g, j * 3 + 1, none⟩ = some x := ⟨_, ((unhide HO).cellAt (j * 3 + 1) (by omega)).trans (List.getElem?_eq_getElem (by rw [unhide HL]; omega))⟩
        obtain ⟨x2, hx2⟩ : ∃ x, wr.cell? ⟨g, j * 3 + 2, none⟩ = some x := ⟨_, ((unhide HO).cellAt (j * 3 + 2) (by omega)).trans (List.getElem?_eq_getElem (by rw [unhide HL]; omega))⟩
        have HO' := hide (((unhide HO).stored (j * 3) (.int .i64 ((k : Int) + 3 * (j : Int)))).1.stored (j * 3 + 1) (.int .i64 ((k : Int) + 3 * (j : Int) + 1))).1
        have HK' := hide (((unhide HK).setCell (p := ⟨g, j * 3, none⟩) (own_of hpos rfl) (.int .i64 ((k : Int) + 3 * (j : Int)))).setCell (p := ⟨g, j * 3 + 1, none⟩) (own_of hpos rfl) (.int .i64 ((k : Int) + 3 * (j : Int) + 1)))
        go_wp2_with fail
        rw [show ((k : Int) + 3 * (j : Int) + 1 + 1) = ((k + 3 * j + 2 : Nat) : Int) from by omega]
        refine (markText_any (k + 3 * j + 2) _ (by omega) (by omega)).mono ?_
        rintro e w2 ⟨rfl, hb2⟩
        have HO2 := hide (own_below (unhide HO') hb2)
        have HK2 := hide ((unhide HK').trans (Keep.of_below hb2))
        clear hb2 hf0 hf1 hf2 hx0 hx1 hx2
        have hf2 := (unhide HO2).frozenAt (j * 3 + 2)
        obtain ⟨x2, hx2⟩ : ∃ x, w2.cell? ⟨g, j * 3 + 2, none⟩ = some x := ⟨_, ((unhide HO2).cellAt (j * 3 + 2) (by omega)).trans (List.getElem?_eq_getElem (by rw [List.length_set, List.length_set, unhide HL]; omega))⟩
        have HST := hide ((unhide HO2).stored (j * 3 + 2) (.string (mtB (k + 3 * j + 2)))).1
        have HKS := hide ((unhide HK2).setCell (p := ⟨g, j * 3 + 2, none⟩) (own_of hpos rfl) (.string (mtB (k + 3 * j + 2))))
        go_wp2
        go_roundw
        case rel => exact ⟨j + 1, _, by omega, by go_num, by go_num, hide (by rw [List.length_set, List.length_set, List.length_set]; exact unhide HL), hide (mk_take hlt (unhide HL) (unhide HT)), HST, HKS⟩
        case measure => simp [intOf]; omega
      · go_wp2
        go_ret
        have hjn : j = n := by omega
        subst hjn
        have hxs : ys = ioV (mkI k j) := by
          have := unhide HT
          rwa [List.take_of_length_le (by rw [unhide HL]; exact Nat.le_refl _), List.take_of_length_le (by rw [ioV_length, mkI_length]; exact Nat.le_refl _)] at this
        subst hxs
        exact ⟨rfl, .inr ⟨hpos, unhide HO⟩, unhide HK⟩

theorem mkI_cells {k n j : Nat} (hj : j < n) : (ioV (mkI k n))[j * 3]? = some (.int .i64 ((k : Int) + 3 * (j : Int))) ∧ (ioV (mkI k n))[j * 3 + 1]? = some (.int .i64 ((k : Int) + 3 * (j : Int) + 1)) ∧ (ioV (mkI k n))[j * 3 + 2]? = some (.string (mtB (k + 3 * j + 2))) := by
  have hj' : j < (mkI k n).length := by rw [mkI_length]; exact hj
  have e := ioV_get hj'
  have e0 : (mkI k n)[j].host = (k : Int) + 3 * (j : Int) := by rw [mkI_get hj']; simp
  have e1 : (mkI k n)[j].at_ = (k : Int) + 3 * (j : Int) + 1 := by rw [mkI_get hj']; simp
  have e2 : (mkI k n)[j].data = mtB (k + 3 * j + 2) := by rw [mkI_get hj']
  rw [e0, e1, e2] at e
  exact e

set_option maxHeartbeats 3200000 in
theorem heldIoS_any (v : Value) (n k : Nat) (B : Nat) (w : World) (hn : n ≤ 4194304) (hk0 : 0 < k) (hk1 : k ≤ 268435456) (ho : OwnR w B 68 3 v n (ioV (mkI k n))) :
    Calls Try.prog 36 #[v, .int .i64 k] w fun e w' => e = .returned (.int .i64 ((k + 3 * n : Nat) : Int)) ∧ Below w.heap.size w w' := by
  rcases ho with ⟨rfl, _, ao, rfl⟩ | ⟨hpos, ho'⟩
  · go_enter Try.func36, Try.ntmps36
    go_wp2
    refine wp_loop_rounds 1 ?_
    rw [rounds_succ]
    go_wp2
    go_ret
    exact ⟨ret_int (by simp), Below.refl _ _⟩
  · obtain ⟨g, cap, cur, rfl, _, _⟩ := own_form hpos ho'
    have HO := hide ho'
    clear ho'
    go_enter Try.func36, Try.ntmps36
    go_wp2
    go_loopw [1, 5] (fun kk i wr => ∃ (j : Nat), j ≤ n ∧ i = .int .i64 j ∧ kk = .int .i64 ((k + 3 * j : Nat) : Int) ∧ Hid (Below w.heap.size w wr)) (fun _ i _ => n - (intOf i).toNat)
    case atStart => exact ⟨0, Nat.zero_le _, rfl, by simp, hide (Below.refl _ _)⟩
    case round =>
      obtain ⟨j, hj, rfl, rfl, HB⟩ := hrel
      by_cases hlt : j < n
      · obtain ⟨g0, g1, g2⟩ := mkI_cells (k := k) hlt
        have hc0 : wr.cell? ⟨g, j * 3, none⟩ = some (.int .i64 ((k : Int) + 3 * (j : Int))) := ((own_below (unhide HO) (unhide HB)).cellAt (j * 3) (by omega)).trans g0
        have hc1 : wr.cell? ⟨g, j * 3 + 1, none⟩ = some (.int .i64 ((k : Int) + 3 * (j : Int) + 1)) := ((own_below (unhide HO) (unhide HB)).cellAt (j * 3 + 1) (by omega)).trans g1
        have hc2 : wr.cell? ⟨g, j * 3 + 2, none⟩ = some (.string (mtB (k + 3 * j + 2))) := ((own_below (unhide HO) (unhide HB)).cellAt (j * 3 + 2) (by omega)).trans g2
        have hgl : g < wr.heap.size := World.block_lt_of_cell? _ _ hc2
        clear g0 g1 g2
        have HMT := hide (fun W => markText_any (k + 3 * j + 2) W (by omega) (by omega))
        go_wp2
        go_region_with (go_at_call 34; rw [show ((k : Int) + 3 * (j : Int) + 1 + 1) = ((k + 3 * j + 2 : Nat) : Int) from by omega]; refine (unhide HMT _).mono ?_; rintro e w2 ⟨rfl, hb2⟩; have hcy := (hb2.cell (p := ⟨g, j * 3 + 2, none⟩) hgl).trans hc2)
        all_goals
          have HB2 : Hid (Below w.heap.size w w2) := hide (Below.trans (by repeat (first | exact unhide HB | apply Below.drew)) (hb2.mono (unhide HB).size))
          clear hb2 hcy hc0 hc1 hc2 hgl
          go_wp2
          go_roundw
          case rel => exact ⟨j + 1, by omega, by go_num, by go_num, HB2⟩
          case measure => simp [intOf]; omega
      · go_wp2
        go_ret
        have hjn : j = n := by omega
        subst hjn
        exact ⟨rfl, unhide HB⟩

end Go.Proofs.Ytboolfckaagfoab

/- A disk in the call's own memory; contracts of markDisk and heldDisk. -/
namespace Go.Proofs.Ytboolfckaagfoab
open Go.RowKit
set_option linter.unusedVariables false
set_option maxRecDepth 100000

set_option maxHeartbeats 1600000 in
theorem markDisk_any (ao bo : Option Addr) (n ca m cb k : Nat) (ss : List ByteArray) (xs : List Wr) (B : Nat) (w : World) (hn : n ≤ 2097152) (hm : m ≤ 2097152) (hk0 : 0 < k) (hk1 : k ≤ 134217728) (ho : OwnD w B ao n ca bo m cb ss xs) :
    Calls Try.prog 12 #[.agg #[.slice ao n ca, .slice bo m cb], .int .i64 k] w fun e w' => e = .returned (.int .i64 ((k + n + 3 * m : Nat) : Int)) ∧ OwnD w' B ao n ca bo m cb (mkS k n) (mkI (k + n) m) ∧ Keep (OwnB ao n ca bo m cb) w w' := by
  have HA := hide (Joins.below_alloc1 w (.cells #[.slice ao n ca, .slice bo m cb] 31))
  have HO := hide (ho.below (unhide HA))
  clear ho
  go_enter Try.func12, Try.ntmps12
  go_wp2_with fail
  refine (markStringS_any (.slice ao n ca) n k _ B _ (by omega) hk0 (by omega) (unhide HO).s).mono ?_
  rintro e w1 ⟨rfl, ho1, hk1'⟩
  have HX : Hid (¬ Own (.slice ao n ca) w.heap.size) := hide (fun h => (unhide HO).other (x := w.heap.size) (heap_alloc_new w _) (by decide) (by decide) (.inl h))
  have hb1 : w1.heap[w.heap.size]? = some (.cells #[.slice ao n ca, .slice bo m cb] 31) := (hk1'.block _ (by simp) (unhide HX)).trans (heap_alloc_new w _)
  have hc1 : w1.cell? ⟨w.heap.size, 1, none⟩ = some (.slice bo m cb) := by rw [Joins.cell_of_block hb1]; rfl
  have HI := hide (OwnR.keep (unhide HO).i hk1' (own_apart (unhide HO).i (unhide HO).s (by decide)))
  have HS := hide ho1
  have HK := hide (Keep.trans (S := OwnB ao n ca bo m cb) (Keep.of_below (unhide HA)) (hk1'.mono (fun j h => .inl h)))
  clear ho1 hk1' hb1
  go_wp2_with fail
  refine (markIoS_any (.slice bo m cb) m (k + n) _ B _ (by omega) (by omega) (by omega) (unhide HI)).mono ?_
  rintro e w2 ⟨rfl, ho2, hk2⟩
  have HS2 := hide (OwnR.keep (unhide HS) hk2 (own_apart (unhide HS) (unhide HI) (by decide)))
  have HI2 := hide ho2
  have HK2 := hide ((unhide HK).trans (hk2.mono (T := OwnB ao n ca bo m cb) (fun j h => .inr h)))
  clear ho2 hk2
  go_wp2
  go_ret
  exact ⟨rfl, ⟨unhide HS2, unhide HI2⟩, unhide HK2⟩

set_option maxHeartbeats 1600000 in
theorem heldDisk_any (ao bo : Option Addr) (n ca m cb k : Nat) (B : Nat) (w : World) (hn : n ≤ 2097152) (hm : m ≤ 2097152) (hk0 : 0 < k) (hk1 : k ≤ 134217728) (ho : OwnD w B ao n ca bo m cb (mkS k n) (mkI (k + n) m)) :
    Calls Try.prog 14 #[.agg #[.slice ao n ca, .slice bo m cb], .int .i64 k] w fun e w' => e = .returned (.int .i64 ((k + n + 3 * m : Nat) : Int)) ∧ Below w.heap.size w w' := by
  have HA := hide (Joins.below_alloc1 w (.cells #[.slice ao n ca, .slice bo m cb] 31))
  have HO := hide (ho.below (unhide HA))
  clear ho
  go_enter Try.func14, Try.ntmps14
  go_wp2_with fail
  refine (heldStringS_any (.slice ao n ca) n k B _ (by omega) hk0 (by omega) (unhide HO).s).mono ?_
  rintro e w1 ⟨rfl, hb1⟩
  have hc1 : w1.cell? ⟨w.heap.size, 1, none⟩ = some (.slice bo m cb) := (hb1.cell (by simp)).trans (by simp [go_sem])
  have HO1 := hide ((unhide HO).below hb1)
  have HB1 := hide (fr (unhide HA) hb1)
  clear hb1
  go_wp2_with fail
  refine (heldIoS_any (.slice bo m cb) m (k + n) B _ (by omega) (by omega) (by omega) (unhide HO1).i).mono ?_
  rintro e w2 ⟨rfl, hb2⟩
  have HB2 := hide (fr (unhide HB1) hb2)
  clear hb2
  go_wp2
  go_ret
  exact ⟨rfl, unhide HB2⟩

theorem markDisk_one (ao bo : Option Addr) (n ca m cb : Nat) (ss : List ByteArray) (xs : List Wr) (B : Nat) (w : World) (hn : n ≤ 2097152) (hm : m ≤ 2097152) (ho : OwnD w B ao n ca bo m cb ss xs) :
    Calls Try.prog 12 #[.agg #[.slice ao n ca, .slice bo m cb], .int .i64 1] w fun e w' => e = .returned (.int .i64 ((1 + n + 3 * m : Nat) : Int)) ∧ OwnD w' B ao n ca bo m cb (mkS 1 n) (mkI (1 + n) m) ∧ Keep (OwnB ao n ca bo m cb) w w' :=
  markDisk_any ao bo n ca m cb 1 ss xs B w hn hm (by omega) (by omega) ho
theorem heldDisk_one (ao bo : Option Addr) (n ca m cb : Nat) (B : Nat) (w : World) (hn : n ≤ 2097152) (hm : m ≤ 2097152) (ho : OwnD w B ao n ca bo m cb (mkS 1 n) (mkI (1 + n) m)) :
    Calls Try.prog 14 #[.agg #[.slice ao n ca, .slice bo m cb], .int .i64 1] w fun e w' => e = .returned (.int .i64 ((1 + n + 3 * m : Nat) : Int)) ∧ Below w.heap.size w w' :=
  heldDisk_any ao bo n ca m cb 1 B w hn hm (by omega) (by omega) ho

end Go.Proofs.Ytboolfckaagfoab

/- Contracts of the laws' own hands on lists of moves: markMoveS, heldMoveS. -/
namespace Go.Proofs.Ytboolfckaagfoab
open Go.RowKit
set_option linter.unusedVariables false
set_option maxRecDepth 100000


set_option maxHeartbeats 3200000 in
theorem markMoveS_any (v : Value) (n k : Nat) (xs : List Value) (B : Nat) (w : World) (hn : n ≤ 4194304) (hk0 : 0 < k) (hk1 : k ≤ 268435456) (ho : OwnR w B 49 3 v n xs) :
    Calls Try.prog 13 #[v, .int .i64 k] w fun e w' => e = .returned (.int .i64 ((k + 3 * n : Nat) : Int)) ∧ OwnR w' B 49 3 v n (ioV (mkI k n)) ∧ Keep (Own v) w w' := by
  rcases ho with ⟨rfl, rfl, ao, rfl⟩ | ⟨hpos, ho'⟩
  · go_enter Try.func13, Try.ntmps13
    go_wp2
    refine wp_loop_rounds 1 ?_
    rw [rounds_succ]
    go_wp2
    go_ret
    refine ⟨ret_int (by simp), .inl ⟨rfl, rfl, ao, rfl⟩, Keep.refl _ _⟩
  · obtain ⟨g, cap, cur, rfl, _, _⟩ := own_form hpos ho'
    have HO := hide ho'
    clear ho'
    go_enter Try.func13, Try.ntmps13
    go_wp2
    go_loopw [1, 5] (fun kk i wr => ∃ (j : Nat) (ys : List Value), j ≤ n ∧ i = .int .i64 j ∧ kk = .int .i64 ((k + 3 * j : Nat) : Int) ∧ Hid (ys.length = n * 3) ∧ Hid (ys.take (j * 3) = (ioV (mkI k n)).take (j * 3)) ∧ Hid (wr.ownsRow B 49 3 (.slice (some ⟨g, 0, none⟩) n cap) n ys) ∧ Hid (Keep (Own (.slice (some ⟨g, 0, none⟩) n cap)) w wr)) (fun _ i _ => n - (intOf i).toNat)
    case atStart => exact ⟨0, xs, Nat.zero_le _, rfl, by simp, hide (by rw [(unhide HO).1]), hide (by simp), HO, hide (Keep.refl _ _)⟩
    case round =>
      obtain ⟨j, ys, hj, rfl, rfl, HL, HT, HO, HK⟩ := hrel
      by_cases hlt : j < n
      · have hf0 := (unhide HO).frozenAt (j * 3)
        have hf1 := (unhide HO).frozenAt (j * 3 + 1)
        have hf2 := (unhide HO).frozenAt (j * 3 + 2)
        obtain ⟨x0, hx0⟩ : ∃ x, wr.cell? ⟨g, j * 3, none⟩ = some x := ⟨_, ((unhide HO).cellAt (j * 3) (by omega)).trans (List.getElem?_eq_getElem (by rw [unhide HL]; omega))⟩
        obtain ⟨x1, hx1⟩ : ∃ x, wr.cell? ⟨g, j * 3 + 1, none⟩ = some x := ⟨_, ((unhide HO).cellAt (j * 3 + 1) (by omega)).trans (List.getElem?_eq_getElem (by rw [unhide HL]; omega))⟩
        obtain ⟨x2, hx2⟩ : ∃ x, wr.cell? ⟨g, j * 3 + 2, none⟩ = some x := ⟨_, ((unhide HO).cellAt (j * 3 + 2) (by omega)).trans (List.getElem?_eq_getElem (by rw [unhide HL]; omega))⟩
        have HO' := hide (((unhide HO).stored (j * 3) (.int .i64 ((k : Int) + 3 * (j : Int)))).1.stored (j * 3 + 1) (.int .i64 ((k : Int) + 3 * (j : Int) + 1))).1
        have HK' := hide (((unhide HK).setCell (p := ⟨g, j * 3, none⟩) (own_of hpos rfl) (.int .i64 ((k : Int) + 3 * (j : Int)))).setCell (p := ⟨g, j * 3 + 1, none⟩) (own_of hpos rfl) (.int .i64 ((k : Int) + 3 * (j : Int) + 1)))
        go_wp2_with fail
        rw [show ((k : Int) + 3 * (j : Int) + 1 + 1) = ((k + 3 * j + 2 : Nat) : Int) from by omega]
        refine (markText_any (k + 3 * j + 2) _ (by omega) (by omega)).mono ?_
        rintro e w2 ⟨rfl, hb2⟩
        have HO2 := hide (own_below (unhide HO') hb2)
        have HK2 := hide ((unhide HK').trans (Keep.of_below hb2))
        clear hb2 hf0 hf1 hf2 hx0 hx1 hx2
        have hf2 := (unhide HO2).frozenAt (j * 3 + 2)
        obtain ⟨x2, hx2⟩ : ∃ x, w2.cell? ⟨g, j * 3 + 2, none⟩ = some x := ⟨_, ((unhide HO2).cellAt (j * 3 + 2) (by omega)).trans (List.getElem?_eq_getElem (by rw [List.length_set, List.length_set, unhide HL]; omega))⟩
        have HST := hide ((unhide HO2).stored (j * 3 + 2) (.string (mtB (k + 3 * j + 2)))).1
        have HKS := hide ((unhide HK2).setCell (p := ⟨g, j * 3 + 2, none⟩) (own_of hpos rfl) (.string (mtB (k + 3 * j + 2))))
        go_wp2
        go_roundw
        case rel => exact ⟨j + 1, _, by omega, by go_num, by go_num, hide (by rw [List.length_set, List.length_set, List.length_set]; exact unhide HL), hide (mk_take hlt (unhide HL) (unhide HT)), HST, HKS⟩
        case measure => simp [intOf]; omega
      · go_wp2
        go_ret
        have hjn : j = n := by omega
        subst hjn
        have hxs : ys = ioV (mkI k j) := by
          have := unhide HT
          rwa [List.take_of_length_le (by rw [unhide HL]; exact Nat.le_refl _), List.take_of_length_le (by rw [ioV_length, mkI_length]; exact Nat.le_refl _)] at this
        subst hxs
        exact ⟨rfl, .inr ⟨hpos, unhide HO⟩, unhide HK⟩

end Go.Proofs.Ytboolfckaagfoab
