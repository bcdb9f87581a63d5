import Derived.Test.YtkaiglhljpehpaaRows
import Derived.Test.YtkaiglhljpehpaaPart1
import Derived.Test.YtkaiglhljpehpaaPart2
import Derived.Test.YtkaiglhljpehpaaPart5
import Derived.Test.YtkaiglhljpehpaaPart10
import Derived.Test.YtkaiglhljpehpaaPart11
import Derived.Test.YtkaiglhljpehpaaPart7
import Derived.Test.YtkaiglhljpehpaaPart3
import Derived.WalkKit
import Derived.WalkSpells
import Derived.KernelRfl
import Derived.LoopN
import Derived.BigQuiet
import Derived.Deep.QuietTactic
import Derived.Deep.CutRange
import Derived.Deep.RegionWith
import Derived.Laws.CopyRow
import Derived.Laws.ResultCell
import Derived.Laws.Cover3
import Derived.Laws.CopyOwn
import Derived.Deep.MidRow
import Derived.Test.YtkaiglhljpehpaaPart6
import Derived.Test.YtkaiglhljpehpaaPart14
import Derived.Test.YtkaiglhljpehpaaPart19
import Derived.Lib.ConvBytes

/- Plain: what check and repair answer. -/
namespace Go.Proofs.Ytkaiglhljpehpaa
open Go.RowKit
set_option linter.unusedVariables false

/-- A right answer: a row of numbers and a code. -/
def AnsN (W w' : World) (e : Ending) (R : List Int × Int) : Prop := ∃ qo qa, e = .returned (.tuple #[.slice qo R.1.length qa, .int .i64 R.2]) ∧ OwnR w' W.heap.size 3 1 (.slice qo R.1.length qa) R.1.length (intV R.1) ∧ Below W.heap.size W w'
/-- Right but for counts and for data of clusters that no table has. -/
def ckB (m : Img) : Bool := imFm m && (imTabs m).all onceB
/-- Those of the first k clusters of which told and found are as is looked for. -/
def ckL (p : Int → Int → Bool) (ts fs : List Int) : Nat → List Int
  | 0 => []
  | k + 1 => ckL p ts fs k ++ (if p (ts.getD k 0) (fs.getD k 0) then [(k : Int)] else [])
theorem ckL_len (p : Int → Int → Bool) (ts fs : List Int) (k : Nat) : (ckL p ts fs k).length ≤ k := by
  induction k with
  | zero => simp [ckL]
  | succ k ih => simp only [ckL, List.length_append]; split <;> simp <;> omega
theorem ckL_yes {p : Int → Int → Bool} {ts fs : List Int} {k : Nat} (h1 : k < ts.length) (h2 : k < fs.length) (h : p ts[k] fs[k] = true) : ckL p ts fs (k + 1) = ckL p ts fs k ++ [(k : Int)] := by
  simp [ckL, List.getD, List.getElem?_eq_getElem h1, List.getElem?_eq_getElem h2, h]
theorem ckL_no {p : Int → Int → Bool} {ts fs : List Int} {k : Nat} (h1 : k < ts.length) (h2 : k < fs.length) (h : p ts[k] fs[k] = false) : ckL p ts fs (k + 1) = ckL p ts fs k := by
  simp [ckL, List.getD, List.getElem?_eq_getElem h1, List.getElem?_eq_getElem h2, h]
theorem ret_sn {q : Option Addr} {n n' c : Nat} {a b : Int} (h : n = n') (k : a = b) : Ending.returned (.tuple #[.slice q n c, .int .i64 a]) = .returned (.tuple #[.slice q n' c, .int .i64 b]) := by rw [h, k]
def neP (t f : Int) : Bool := t != f
def gtP (t f : Int) : Bool := decide (f < t)
/-- What CountRefs, WrongRefs, Leaks answer. -/
def crA (m : Img) : List Int × Int := if ckB m then (imCnt m, 0) else ([], 1)
def wlA (p : Int → Int → Bool) (m : Img) : List Int × Int := if ckB m then (ckL p m.refs (imCnt m) 24, 0) else ([], 1)
theorem crA_len (m : Img) : (crA m).1.length ≤ 1000 := by
  unfold crA
  split
  · rw [imCnt_len]; omega
  · simp
theorem wlA_len (p : Int → Int → Bool) (m : Img) : (wlA p m).1.length ≤ 1000 := by
  unfold wlA
  split
  · have := ckL_len p m.refs (imCnt m) 24; simp only; omega
  · simp
theorem ck_fm {m : Img} (h : imFm m = false) : ckB m = false := by simp [ckB, h]
theorem ck_once {m : Img} {t : List Int} (ht : t ∈ imTabs m) (h : onceB t = false) : ckB m = false := by
  have e : (imTabs m).all onceB = false := by
    cases hh : (imTabs m).all onceB with
    | false => rfl
    | true => rw [List.all_eq_true] at hh; rw [hh t ht] at h; cases h
  simp only [ckB, e, Bool.and_false]
theorem ck_yes {m : Img} (hf : imFm m = true) (h1 : ∀ t ∈ imTabs m, onceB t = true) : ckB m = true := by
  have e1 : (imTabs m).all onceB = true := List.all_eq_true.2 h1
  simp only [ckB, hf, e1, Bool.and_true]
theorem ck_parts {m : Img} (h : ckB m = true) : imFm m = true ∧ ∀ t ∈ imTabs m, onceB t = true := by
  simp only [ckB, Bool.and_eq_true, List.all_eq_true] at h
  exact h
/-- The data behind the first k clusters: what is counted by none is 0. -/
def rpD (fs ds : List Int) : Nat → List Int
  | 0 => ds
  | k + 1 => if fs.getD k 0 = 0 then (rpD fs ds k).set k 0 else rpD fs ds k
theorem rpD_len (fs ds : List Int) (k : Nat) : (rpD fs ds k).length = ds.length := by
  induction k with
  | zero => rfl
  | succ k ih => simp only [rpD]; split <;> simp [ih]
/-- What Repair answers. -/
def rpI (m : Img) : Img := { m with refs := imCnt m, data := rpD (imCnt m) m.data 24 }
def rpA (m : Img) : Img × Int := if ckB m then (rpI m, 0) else (⟨[], [], [], []⟩, 1)

end Go.Proofs.Ytkaiglhljpehpaa

/- Contracts of the program's counts: RefsOK, clusterOK, countsOf, countsWith, list, RefUp. -/
namespace Go.Proofs.Ytkaiglhljpehpaa
open Go.RowKit
set_option linter.unusedVariables false
set_option maxRecDepth 100000

theorem sizeA24 : (Try.prog.info? 46).map (·.size) = some 24 := by kernel_rfl
theorem arr24 : Try.prog.arrayLen 46 = 24 := by kernel_rfl
theorem und24 : Try.prog.underlying 46 = some (.array 24 3) := by kernel_rfl
theorem sizeA {xs : List Int} (h : xs.length = 24) : (Try.prog.info? 46).map (·.size) = some (intV xs).toArray.size := by rw [intV_size, h]; exact sizeA24
theorem sizeL {xs : List Int} (h : xs.length = 24) : (Try.prog.info? 46).map (·.size) = some (intV xs).length := by rw [intV_length, h]; exact sizeA24

set_option maxHeartbeats 800000 in
theorem refsOK_impl (ao : Option Addr) (cap : Nat) (xs : List Int) (w : World) (hl : xs.length ≤ maxLen) (hc : Is w ao xs) :
    Calls Try.prog 45 #[.slice ao xs.length cap] w fun e w' => e = .returned (.bool (ctB xs)) ∧ w' = w := by
  have HC := hide hc
  clear hc
  unfold maxLen at hl
  by_cases h24 : xs.length = 24
  · have hb : ((xs.length : Int) != 24) = false := by simp [h24]
    have H24 := hide h24
    clear h24
    go_enter Try.func45, Try.ntmps45
    go_wp2
    go_loop [10] (fun i => ∃ k : Nat, k ≤ xs.length ∧ i = .int .i64 k ∧ Hid (∀ j (h : j < xs.length), j < k → cnt1 xs[j] = true)) (fun i => xs.length - (intOf i).toNat)
    case atStart => exact ⟨0, Nat.zero_le _, rfl, hide (fun j _ h => by omega)⟩
    case round =>
      obtain ⟨k, hk, rfl, HA⟩ := hrel
      by_cases hlt : k < xs.length
      · obtain ⟨b, off, rfl, hc⟩ := unhide HC k hlt
        by_cases hn : cnt1 xs[k] = true
        · have HN := hide (all_succ hlt (unhide HA) hn)
          have hn' : betw xs[k] 0 15 = true := hn
          clear hn
          go_wp2_with (go_at_call 57; refine (within_any _ _ _ _).mono ?_; rintro e w' ⟨rfl, rfl⟩)
          go_round
          case rel => exact ⟨k + 1, by omega, by go_num, HN⟩
          case measure => simp [intOf]; omega
        · have hn0 : cnt1 xs[k] = false := by simpa using hn
          have hn' : betw xs[k] 0 15 = false := hn0
          have HF := hide (ctB_noat hlt hn0)
          clear hn hn0
          go_wp2_with (go_at_call 57; refine (within_any _ _ _ _).mono ?_; rintro e w' ⟨rfl, rfl⟩)
          go_ret
          exact ⟨ret_bool (unhide HF).symm, rfl⟩
      · have HF := hide (ctB_of (unhide H24) (fun j h => unhide HA j h (by omega)))
        go_wp2
        go_ret
        exact ⟨ret_bool (unhide HF).symm, rfl⟩
  · have hb : ((xs.length : Int) != 24) = true := by simp; omega
    have HF := hide (ctB_nolen h24)
    clear h24
    go_enter Try.func45, Try.ntmps45
    go_wp2
    go_ret
    exact ⟨ret_bool (unhide HF).symm, rfl⟩

/-- An array of counts as a value. -/
abbrev ctV (xs : List Int) : Value := .agg (intV xs).toArray
theorem zero_arr : (#[.int .i64 0, .int .i64 0, .int .i64 0, .int .i64 0, .int .i64 0, .int .i64 0, .int .i64 0, .int .i64 0, .int .i64 0, .int .i64 0, .int .i64 0, .int .i64 0, .int .i64 0, .int .i64 0, .int .i64 0, .int .i64 0, .int .i64 0, .int .i64 0, .int .i64 0, .int .i64 0, .int .i64 0, .int .i64 0, .int .i64 0, .int .i64 0] : Array Value) = (intV zero24).toArray := rfl
theorem ret_ci {xs ys : List Int} {a b : Int} (h : xs = ys) (k : a = b) : Ending.returned (.tuple #[ctV xs, .int .i64 a]) = .returned (.tuple #[ctV ys, .int .i64 b]) := by rw [h, k]
theorem arr_new (w : World) : (w.alloc (.cells #[.int .i64 0, .int .i64 0, .int .i64 0, .int .i64 0, .int .i64 0, .int .i64 0, .int .i64 0, .int .i64 0, .int .i64 0, .int .i64 0, .int .i64 0, .int .i64 0, .int .i64 0, .int .i64 0, .int .i64 0, .int .i64 0, .int .i64 0, .int .i64 0, .int .i64 0, .int .i64 0, .int .i64 0, .int .i64 0, .int .i64 0, .int .i64 0] 46)).heap[w.heap.size]? = some (.cells (intV zero24).toArray 46 (0, 0)) := heap_alloc_new w _
theorem load_ct (W : World) {g : Nat} {xs : List Int} (h : W.heap[g]? = some (.cells (intV xs).toArray 46 (0, 0))) (hl : xs.length = 24) : (loadVar 46 ⟨g, 0, none⟩).run Try.prog W = .ok (ctV xs) W :=
  run_loadVar_row W g 46 46 (intV xs).toArray (0, 0) _ h und24 rfl (sizeA hl)

theorem res_ct {W : World} {g : Nat} {xs : List Int} {p u : Value} (h : W.heap[g]? = some (.cells (intV xs).toArray 46 (0, 0))) (hl : xs.length = 24) (hp : p = .pointer (some ⟨g, 0, none⟩)) : (((asAddr p).run Try.prog W).andThen fun a w₁ => ((loadVar 46 a).run Try.prog w₁).andThen fun v w₂ => .ok (Value.tuple #[v, u]) w₂) = .ok (Value.tuple #[ctV xs, u]) W := by
  subst hp
  simp only [asAddr, Sem.run_pure, Result.andThen_ok, load_ct W h hl]

/-- An array of counts in a variable. -/
abbrev VarC (W : World) (g : Nat) (xs : List Int) : Prop := W.heap[g]? = some (.cells (intV xs).toArray 46 (0, 0))
theorem cw_bad {xs : List Int} {c : Int} (h : ctF xs ≠ 0) : cwF xs c = ctF xs ∧ cwR xs c = zero24 := by
  have e : cwF xs c = ctF xs := by rw [cwF, if_neg h]
  exact ⟨e, by rw [cwR, e, if_neg h]⟩
theorem cw_out {xs : List Int} {c : Int} (h : ctF xs = 0) (hc : betw c 0 23 = false) : cwF xs c = 4 ∧ cwR xs c = zero24 := by
  have e : cwF xs c = 4 := by rw [cwF, if_pos h, hc]; rfl
  exact ⟨e, by rw [cwR, e]; rfl⟩
theorem cw_in {xs : List Int} {c : Int} (h : ctF xs = 0) (hc : betw c 0 23 = true) : cwF xs c = 0 ∧ cwR xs c = xs := by
  have e : cwF xs c = 0 := by rw [cwF, if_pos h, hc]; rfl
  exact ⟨e, by rw [cwR, e]; rfl⟩
theorem ctF_ne (xs : List Int) (h : ctF xs ≠ 0) : (ctF xs != 0) = true := by simpa using h

theorem intV_ones (xs : List Int) : ∀ v ∈ intV xs, v.oneCell' = true := by
  intro v hv
  simp only [intV, List.mem_map] at hv
  obtain ⟨n, _, rfl⟩ := hv
  rfl
theorem sizeI1 : (Try.prog.info? 3).map (·.size) = some 1 := by kernel_rfl
theorem runI1 (W : World) : (Go.sizeOf 3).run Try.prog W = .ok 1 W := by
  have h := sizeI1
  cases hq : Try.prog.info? 3 with
  | none => simp [hq] at h
  | some i =>
    have hi : i.size = 1 := by simpa [hq] using h
    simp [Go.sizeOf, typeInfo, hq, hi]
set_option maxHeartbeats 1600000 in
theorem copyI_any (b off cap : Nat) (ss : List Int) (w : World) (hl : ss.length ≤ 1048576) (h0 : 0 < ss.length) (hbl : b < w.heap.size) (hc : w.rangeAt b off (intV ss)) :
    Calls Try.prog 50 #[.slice (some ⟨b, off, none⟩) ss.length cap] w fun e w' => e = .returned (.slice (some ⟨w.heap.size, 0, none⟩) ss.length ss.length) ∧ w'.ownsRow w.heap.size 3 1 (.slice (some ⟨w.heap.size, 0, none⟩) ss.length ss.length) ss.length (intV ss) ∧ Below w.heap.size w w' := by
  have hb : ((ss.length : Int) == 0) = false := beq_eq_false_iff_ne.2 (by omega)
  have HCS := hide hc
  have HP := hide h0
  clear hc h0
  obtain ⟨i0, hi, hz0, hz1, hz2⟩ := info_parts infoM
  go_enter Try.func50, Try.ntmps50
  go_wp2_with (first | (at_make; refine wpList_make_full _ rfl _ _ 23 rfl w.heap.size 3 i0 _ 1 Try.underlying23 hi hz0 hz1 _ _ _ _ ss.length rfl rfl rfl rfl ?c1 ?c2 ?c3 ?_))
  case c1 => rw [hz2]; omega
  case c2 => unfold maxLen; omega
  case c3 => exact Nat.le_refl _
  intro w1 hown hgrow
  have hB : Below w.heap.size w w1 := (Below.refl _ _).grown hgrow (Nat.le_refl _) (fun _ h => by cases h)
  have HO := hide hown
  have HB := hide hB
  have HC1 : Hid (∀ j v, (intV ss)[j]? = some v → w1.cell? (Addr.add ⟨b, off, none⟩ j) = some v) := hide (fun j v hv => ((unhide HB).cell (by unfold Addr.add; split <;> exact hbl)).trans (by rw [Addr.add_mid]; exact unhide HCS j v hv))
  clear hown hgrow hB
  go_wp2_with (refine wpList_copy_whole rfl _ _ 23 23 rfl 3 1 Try.underlying23 sizeI1 w.heap.size w.heap.size ss.length ⟨b, off, none⟩ _ rfl rfl _ (unhide HO) (intV ss) (by rw [intV_length]; omega) (unhide HC1) (intV_ones ss) ?_; intro w2 ho2 hg2)
  have HB2 := hide ((unhide HB).grown hg2 (unhide HB).size (fun k h => by cases h; exact Nat.le_refl _))
  have HO2 := hide ho2
  clear ho2 hg2
  go_ret
  exact ⟨rfl, unhide HO2, unhide HB2⟩

theorem slice24 (W : World) (g : Nat) : (Instr.sliceAt 46 (.pointer (some ⟨g, 0, none⟩)) none none none).run Try.prog W = .ok (.slice (some ⟨g, 0, none⟩) 24 24) W := by
  have hu : Try.prog.underlying 46 = some (.array (Try.prog.arrayLen 46) (Try.prog.elem 46)) := by kernel_rfl
  have he : Try.prog.elem 46 = 3 := by kernel_rfl
  rw [run_sliceAt_array_all W _ _ hu, he, runI1, arr24]
  simp only [Result.andThen, slicedAt, Nat.mul_one, Nat.sub_zero]
  rfl
set_option maxHeartbeats 1600000 in
theorem list_any (xs : List Int) (w : World) (hl : xs.length = 24) :
    Calls Try.prog 24 #[ctV xs] w fun e w' => ∃ g, e = .returned (.slice (some ⟨g, 0, none⟩) 24 24) ∧ w'.ownsRow w.heap.size 3 1 (.slice (some ⟨g, 0, none⟩) 24 24) 24 (intV xs) ∧ Below w.heap.size w w' := by
  have HN : Hid (VarC (w.alloc (.cells (intV xs).toArray 46)) w.heap.size xs) := hide (heap_alloc_new w _)
  have HA := hide (Joins.below_alloc1 w (.cells (intV xs).toArray 46))
  have HL := hide hl
  have hsl := fun W => slice24 W w.heap.size
  clear hl
  go_enter Try.func24, Try.ntmps24
  go_upto_region 1 with fail
  revert HN HA
  generalize (w.alloc _) = W1
  intro HN HA
  go_wp2_with fail
  have k := copyI_any w.heap.size 0 24 xs W1 (by rw [unhide HL]; omega) (by rw [unhide HL]; omega) (Array.getElem?_eq_some_iff.1 (unhide HN)).1 (fun j v hv => by rw [Nat.zero_add, Joins.cell_of_block (unhide HN)]; simpa using hv)
  rw [unhide HL] at k
  refine k.mono ?_
  rintro e w2 ⟨rfl, ho, hb⟩
  have HO := hide (own_base ho (unhide HA).size)
  have HB := hide (fr (unhide HA) hb)
  clear ho hb k
  go_wp2
  go_ret
  exact ⟨_, rfl, unhide HO, unhide HB⟩

theorem idx24 (W : World) (xs : List Int) (k : Nat) (hl : xs.length = 24) (hk : k < xs.length) : (Instr.index 46 (ctV xs) (.int .i64 k)).run Try.prog W = .ok (.int .i64 xs[k]) W := by
  have hu := und24
  have hk' : k < 24 := by omega
  have h2 := sizeI1
  cases hq : Try.prog.info? 3 with
  | none => simp [hq] at h2
  | some i =>
    have hi : i.size = 1 := by simpa [hq] using h2
    simp [Instr.index, run_underlying, hu, sizeOf, typeInfo, hq, hi, intV, asIntOf, part, hk]
    intro h
    omega

end Go.Proofs.Ytkaiglhljpehpaa

/- Contract of impl.RefUp. -/
namespace Go.Proofs.Ytkaiglhljpehpaa
open Go.RowKit
set_option linter.unusedVariables false
set_option maxRecDepth 100000

/-- What the program's own lists of counts are like. -/
theorem own24 {W : World} {B g : Nat} {xs : List Int} (h : W.ownsRow B 3 1 (.slice (some ⟨g, 0, none⟩) 24 24) 24 (intV xs)) (hl : xs.length = 24) : OwnN W B (.slice (some ⟨g, 0, none⟩) 24 24) xs := by
  refine ⟨some ⟨g, 0, none⟩, 24, by rw [hl], ?_⟩
  rw [hl]
  exact .inr ⟨by omega, h⟩
theorem cw_ne {n : Int} (h : n ≠ 0) : (n != 0) = true := by simpa using h

end Go.Proofs.Ytkaiglhljpehpaa

/- Contracts of impl.dataOK, impl.snapNameOK, impl.findSnap, impl.snapNamesOK. -/
namespace Go.Proofs.Ytkaiglhljpehpaa
open Go.RowKit
set_option linter.unusedVariables false
set_option maxRecDepth 100000

/-- Right data. -/
def datB (xs : List Int) : Bool := decide (xs.length = 24) && xs.all numB
theorem dat_len {xs : List Int} (h : ¬ xs.length = 24) : datB xs = false := by rw [datB, decide_eq_false h]; rfl
theorem dat_no {xs : List Int} {k : Nat} (hk : k < xs.length) (h : numB xs[k] = false) : datB xs = false := by rw [datB, all_not (p := numB) hk h]; simp
theorem dat_yes {xs : List Int} (hl : xs.length = 24) (h : ∀ j (hj : j < xs.length), numB xs[j] = true) : datB xs = true := by rw [datB, decide_eq_true hl, all_of (p := numB) (fun i hi _ => h i hi)]; rfl

set_option maxHeartbeats 800000 in
theorem dataOK_any (ao : Option Addr) (cap : Nat) (xs : List Int) (w : World) (hl : xs.length ≤ maxLen) (hc : Is w ao xs) :
    Calls Try.prog 46 #[.slice ao xs.length cap] w fun e w' => e = .returned (.bool (datB xs)) ∧ w' = w := by
  have HC := hide hc
  clear hc
  unfold maxLen at hl
  by_cases h24 : xs.length = 24
  · have HL := hide h24
    have hb24 : ((xs.length : Int) != 24) = false := by simp [h24]
    have hl24 : (xs.length : Int) ≤ 24 := by omega
    clear h24
    go_enter Try.func46, Try.ntmps46
    go_wp2
    go_loop [10] (fun i => ∃ k : Nat, k ≤ xs.length ∧ i = .int .i64 k ∧ Hid (∀ j (h : j < xs.length), j < k → numB xs[j] = true)) (fun i => xs.length - (intOf i).toNat)
    case atStart => exact ⟨0, Nat.zero_le _, rfl, hide (fun j _ h => by omega)⟩
    case round =>
      obtain ⟨k, hk, rfl, HA⟩ := hrel
      by_cases hlt : k < xs.length
      · obtain ⟨b, off, rfl, hc⟩ := unhide HC k hlt
        cases hn : numB xs[k]
        · have HF := hide (dat_no hlt hn)
          go_wp2_with (go_at_call 67; refine (isNumber_any _ _).mono ?_; rintro e w' ⟨rfl, hw⟩; replace hw := hw.symm; subst hw; rw [hn])
          go_ret
          exact ⟨ret_bool (unhide HF).symm, rfl⟩
        · have HN := hide (all_succ hlt (unhide HA) hn)
          go_wp2_with (go_at_call 67; refine (isNumber_any _ _).mono ?_; rintro e w' ⟨rfl, hw⟩; replace hw := hw.symm; subst hw; rw [hn])
          go_round
          case rel => exact ⟨k + 1, by omega, by go_num, HN⟩
          case measure => simp [intOf]; omega
      · have HF := hide (dat_yes (unhide HL) (fun j h => unhide HA j h (by omega)))
        go_wp2
        go_ret
        exact ⟨ret_bool (unhide HF).symm, rfl⟩
  · have HF := hide (dat_len h24)
    have hb24 : ((xs.length : Int) != 24) = true := by simp; omega
    clear h24
    go_enter Try.func46, Try.ntmps46
    go_wp2
    go_ret
    exact ⟨ret_bool (unhide HF).symm, rfl⟩

theorem below_bytes (w : World) (e : TypeId) (s : ByteArray) : Below w.heap.size w (Lib.bytesWorld w e s) :=
  ⟨rfl, rfl, rfl, by rw [Lib.bytesWorld_size]; omega, fun i hi => Lib.bytesWorld_at_old w e s i hi⟩

set_option maxHeartbeats 1600000 in
theorem snapNameOK_any (t : ByteArray) (w : World) (hz : t.size ≤ maxLen) :
    Calls Try.prog 68 #[.string t] w fun e w' => e = .returned (.bool (snmB t)) ∧ Below w.heap.size w w' := by
  unfold maxLen at hz
  cases hb : betw (t.size : Int) 1 6
  · have HF : Hid (snmB t = false) := hide (by rw [snmB, hb]; simp)
    go_enter Try.func68, Try.ntmps68
    go_wp2_with (go_at_call 57; refine (within_any _ _ _ _).mono ?_; rintro e w' ⟨rfl, hw⟩; replace hw := hw.symm; subst hw; rw [hb])
    go_ret
    exact ⟨ret_bool (unhide HF).symm, Below.refl _ _⟩
  have HBT := hide hb
  have h6 : t.size ≤ 6 := by have := betw_iff.1 hb; omega
  have hcv := fun (W : World) => Lib.run_convert_string_bytes (P := Try.prog) W 9 22 5 t Try.underlying9 Try.underlying22 Try.underlying5
  have HB := hide (below_bytes w 5 t)
  have HCL := hide (Lib.bytesWorld_cell w 5 t)
  go_enter Try.func68, Try.ntmps68
  go_wp2_with (go_at_call 57; refine (within_any _ _ _ _).mono ?_; rintro e w' ⟨rfl, hw⟩; replace hw := hw.symm; subst hw; rw [hb])
  revert HB HCL
  generalize Lib.bytesWorld w 5 t = w1
  generalize grownCap w t.size 0 5 = gc
  intro HB HCL
  clear hcv
  go_loop [12] (fun i => ∃ k : Nat, k ≤ t.size ∧ i = .int .i64 k ∧ Hid (∀ j (h : j < t.size), j < k → nm1 t[j] = true)) (fun i => t.size - (intOf i).toNat)
  case atStart => exact ⟨0, Nat.zero_le _, rfl, hide (fun j _ h => by omega)⟩
  case round =>
    obtain ⟨k, hk, rfl, HA⟩ := hrel
    by_cases hlt : k < t.size
    · have hck := unhide HCL k hlt
      have eck : (t.data.toList.getD k 0) = t[k] := by simp [List.getD, snm_get hlt]
      rw [eck] at hck
      clear eck
      by_cases hlo : 97 ≤ t[k].toNat
      · by_cases hhi : t[k].toNat ≤ 122
        · have HN : Hid (∀ j (h : j < t.size), j < k + 1 → nm1 t[j] = true) := hide (fun j h hj => by
            by_cases e : j = k
            · subst e; simp [nm1, hlo, hhi]
            · exact unhide HA j h (by omega))
          have h1 : ¬ ((t[k].toNat : Int) < 97) := by omega
          have h2 : ¬ (122 < (t[k].toNat : Int)) := by omega
          go_wp2
          go_round
          case rel => exact ⟨k + 1, by omega, by go_num, HN⟩
          case measure => simp [intOf]; omega
        · have HF := hide (snm_bad hlt (by simp [nm1]; omega))
          have h1 : ¬ ((t[k].toNat : Int) < 97) := by omega
          have h2 : (122 < (t[k].toNat : Int)) := by omega
          go_wp2
          go_ret
          exact ⟨ret_bool (unhide HF).symm, unhide HB⟩
      · have HF := hide (snm_bad hlt (by simp [nm1]; omega))
        have h1 : ((t[k].toNat : Int) < 97) := by omega
        go_wp2
        go_ret
        exact ⟨ret_bool (unhide HF).symm, unhide HB⟩
    · have HF := hide ((snm_all (fun j h => unhide HA j h (by omega))).trans (unhide HBT))
      go_wp2
      go_ret
      exact ⟨ret_bool (unhide HF).symm, unhide HB⟩

/-- A text in a variable. -/
def VarT1 (w : World) (x : Nat) (s : ByteArray) : Prop := w.cell? ⟨x, 0, none⟩ = some (.string s)
set_option maxHeartbeats 800000 in
theorem findSnapC_any (s : Snp) (tq : Option Addr) (tc x : Nat) (name : ByteArray) (w : World) (hx : VarT1 w x name) :
    Calls Try.prog 77 #[snV s tq tc, .pointer (some ⟨x, 0, none⟩)] w fun e w' => e = .returned (.bool (decide (s.name = name))) ∧ Below w.heap.size w w' := by
  have hxl := World.block_lt_of_cell? _ _ hx
  have hx' : w.cell? ⟨x, 0, none⟩ = some (.string name) := hx
  clear hx
  by_cases he : s.name = name
  · have be : (s.name.toList == name.toList) = true := by simp [he]
    have HE : Hid (decide (s.name = name) = true) := hide (decide_eq_true he)
    clear he
    go_enter Try.func77, Try.ntmps77
    go_wp2
    go_ret
    exact ⟨ret_bool (unhide HE).symm, Joins.below_alloc1 _ _⟩
  · have be : (s.name.toList == name.toList) = false := str_beq_false he
    have HE : Hid (decide (s.name = name) = false) := hide (decide_eq_false he)
    clear he
    go_enter Try.func77, Try.ntmps77
    go_wp2
    go_ret
    exact ⟨ret_bool (unhide HE).symm, Joins.below_alloc1 _ _⟩

/-- Where a name stands in a row of snapshots. -/
abbrev fdL (ss : List Snp) (name : ByteArray) : Int := fdI ⟨[], [], ss, []⟩ name
theorem fdL_here {ss : List Snp} {name : ByteArray} {k : Nat} (hk : k < ss.length) (h0 : ss[k].name = name) (h : ∀ j (hj : j < ss.length), j < k → ss[j].name ≠ name) : fdL ss name = (k : Int) := by
  have e := find_here (m := ⟨[], [], ss, []⟩) hk h0 h
  show fdI _ _ = _
  rw [fdI, if_pos (by rw [e]; exact hk), e]
theorem fdL_none {ss : List Snp} {name : ByteArray} (h : ∀ j (hj : j < ss.length), ss[j].name ≠ name) : fdL ss name = -1 := if_neg (find_none (m := ⟨[], [], ss, []⟩) h)

set_option maxHeartbeats 1600000 in
theorem indexFunc_any (so : Option Addr) (sc : Nat) (ss : List Snp) (x : Nat) (name : ByteArray) (w : World) (hs : ss.length ≤ maxLen) (hc : Sns w so ss) (hx : VarT1 w x name) :
    Calls Try.prog 76 #[.slice so ss.length sc, .func (.func 77) #[] #[.pointer (some ⟨x, 0, none⟩)]] w fun e w' => e = .returned (.int .i64 (fdL ss name)) ∧ Below w.heap.size w w' := by
  unfold maxLen at hs
  have HC := hide hc
  have HX := hide hx
  clear hc hx
  go_enter Try.func76, Try.ntmps76
  go_wp2
  go_loopw [8] (fun i wr => ∃ k : Nat, k ≤ ss.length ∧ i = .int .i64 k ∧ Hid (∀ j (hj : j < ss.length), j < k → ss[j].name ≠ name) ∧ Hid (Below w.heap.size w wr)) (fun i _ => ss.length - (intOf i).toNat)
  case atStart => exact ⟨0, Nat.zero_le _, rfl, hide (fun j _ h => by omega), hide (Below.refl _ _)⟩
  case round =>
    obtain ⟨k, hk, rfl, HN, HB⟩ := hrel
    by_cases hlt : k < ss.length
    · obtain ⟨b, off, tq, tc, rfl, hn0, ht0, _, _, _⟩ := ((unhide HC).below (unhide HB)) k hlt
      have HXR : Hid (VarT1 wr x name) := hide (((unhide HB).cell (World.block_lt_of_cell? _ _ (unhide HX))).trans (unhide HX))
      go_wp2_with fail
      refine (findSnapC_any ss[k] tq tc x name _ (unhide HXR)).mono ?_
      rintro e w2 ⟨rfl, hb⟩
      have HB2 := hide (fr (unhide HB) hb)
      clear hb hn0 ht0
      by_cases he : ss[k].name = name
      · have HF := hide (fdL_here hlt he (unhide HN))
        have be : decide (ss[k].name = name) = true := decide_eq_true he
        rw [be]
        clear he be
        go_wp2
        go_ret
        exact ⟨ret_int (unhide HF).symm, unhide HB2⟩
      · have HN' : Hid (∀ j (hj : j < ss.length), j < k + 1 → ss[j].name ≠ name) := hide (fun j hj h => by
          by_cases e : j = k
          · subst e; exact he
          · exact unhide HN j hj (by omega))
        have be : decide (ss[k].name = name) = false := decide_eq_false he
        rw [be]
        clear he be
        go_wp2
        go_roundw
        case rel => exact ⟨k + 1, by omega, by go_num, HN', HB2⟩
        case measure => simp [intOf]; omega
    · have HF := hide (fdL_none (fun j hj => unhide HN j hj (by omega)))
      go_wp2
      go_ret
      exact ⟨ret_int (unhide HF).symm, unhide HB⟩

set_option maxHeartbeats 1600000 in
theorem findSnap_any (so : Option Addr) (sc : Nat) (ss : List Snp) (name : ByteArray) (w : World) (hs : ss.length ≤ maxLen) (hc : Sns w so ss) :
    Calls Try.prog 69 #[.slice so ss.length sc, .string name] w fun e w' => e = .returned (.int .i64 (fdL ss name)) ∧ Below w.heap.size w w' := by
  have hmf : ∀ (fn : Fn) (first cap : Array Value) (w : World), (Instr.makeFunc fn first cap).run Try.prog w = .ok (.func fn first cap) w := fun _ _ _ _ => rfl
  have HA := hide (Joins.below_alloc1 w (.cells #[.string name] 9))
  have HC := hide (hc.below (unhide HA))
  have HX : Hid (VarT1 (w.alloc (.cells #[.string name] 9)) w.heap.size name) := hide (by unfold VarT1; rw [Joins.cell_of_block (heap_alloc_new w _)]; rfl)
  have HS := hide hs
  clear hc hs
  go_enter Try.func69, Try.ntmps69
  go_upto_region 1 with fail
  revert HA HC HX
  generalize (w.alloc _) = W0
  intro HA HC HX
  go_wp2_with fail
  refine (indexFunc_any so sc ss w.heap.size name _ (unhide HS) (unhide HC) (unhide HX)).mono ?_
  rintro e w2 ⟨rfl, hb⟩
  have HB := hide (fr (unhide HA) hb)
  clear hb
  go_wp2
  go_ret
  exact ⟨rfl, unhide HB⟩

/-- What snapNamesOK answers. -/
def snpsB (ss : List Snp) : Bool := decide (ss.length ≤ 3) && ss.all (fun s => snmB s.name) && namesB ss
theorem snps_many {ss : List Snp} (h : ¬ ss.length ≤ 3) : snpsB ss = false := by rw [snpsB, decide_eq_false h]; rfl
theorem snps_bad {ss : List Snp} {k : Nat} (hk : k < ss.length) (h : snmB ss[k].name = false) : snpsB ss = false := by
  rw [snpsB, all_not (p := fun s : Snp => snmB s.name) hk h]; simp
theorem snps_twice {ss : List Snp} {i k : Nat} (hi : i < ss.length) (hk : k < i) (h : ss[i].name = ss[k].name) : snpsB ss = false := by
  have e : namesB ss = false := decide_eq_false (not_nodup (xs := ss.map (·.name)) (i := i) (k := k) (by simpa using hi) hk (by simpa using h))
  rw [snpsB, e]; simp
theorem snps_yes {ss : List Snp} (h3 : ss.length ≤ 3) (h : ∀ j (hj : j < ss.length), snmB ss[j].name = true) (hn : (ss.map (·.name)).Nodup) : snpsB ss = true := by
  rw [snpsB, decide_eq_true h3, all_of (p := fun s : Snp => snmB s.name) (fun i hi _ => h i hi), namesB, decide_eq_true hn]; rfl
/-- Of a name that stands at k, either it is found there, or it stands ahead, too. -/
theorem fdL_at {ss : List Snp} {k : Nat} (hk : k < ss.length) : (fdL ss ss[k].name = (k : Int) ∧ ∀ j (hj : j < ss.length), j < k → ss[j].name ≠ ss[k].name) ∨ ((fdL ss ss[k].name != (k : Int)) = true ∧ ∃ j, ∃ hj : j < ss.length, j < k ∧ ss[k].name = ss[j].name) := by
  by_cases h : ∃ j, ∃ hj : j < ss.length, j < k ∧ ss[j].name = ss[k].name
  · right
    have hf : imFind ⟨[], [], ss, []⟩ ss[k].name < k := by
      obtain ⟨j, hj, hjk, e⟩ := h
      unfold imFind
      refine Nat.lt_of_le_of_lt (m := j) ?_ hjk
      refine Nat.le_of_not_lt fun h2 => ?_
      have := List.not_of_lt_findIdx h2
      simp [e] at this
    refine ⟨?_, ?_⟩
    · have e : fdL ss ss[k].name = (imFind ⟨[], [], ss, []⟩ ss[k].name : Int) := if_pos (show imFind ⟨[], [], ss, []⟩ ss[k].name < ss.length by omega)
      rw [e]; simp; omega
    · obtain ⟨j, hj, hjk, e⟩ := h
      exact ⟨j, hj, hjk, e.symm⟩
  · left
    have hn : ∀ j (hj : j < ss.length), j < k → ss[j].name ≠ ss[k].name := fun j hj hjk e => h ⟨j, hj, hjk, e⟩
    exact ⟨fdL_here hk rfl hn, hn⟩

set_option maxHeartbeats 1600000 in
theorem snapNamesOK_any (so : Option Addr) (sc : Nat) (ss : List Snp) (w : World) (hs : ss.length ≤ maxLen) (hc : Sns w so ss) :
    Calls Try.prog 47 #[.slice so ss.length sc] w fun e w' => e = .returned (.bool (snpsB ss)) ∧ Below w.heap.size w w' := by
  have HS := hide hs
  unfold maxLen at hs
  have HC := hide hc
  clear hc
  by_cases h3 : ss.length ≤ 3
  · have h3i : ¬ (3 : Int) < (ss.length : Int) := by omega
    go_enter Try.func47, Try.ntmps47
    go_wp2
    go_loopw [10] (fun i wr => ∃ k : Nat, k ≤ ss.length ∧ i = .int .i64 k ∧ Hid (∀ j (hj : j < ss.length), j < k → snmB ss[j].name = true) ∧ Hid (((ss.map (·.name)).take k).Nodup) ∧ Hid (Below w.heap.size w wr)) (fun i _ => ss.length - (intOf i).toNat)
    case atStart => exact ⟨0, Nat.zero_le _, rfl, hide (fun j _ h => by omega), hide (by simp), hide (Below.refl _ _)⟩
    case round =>
      obtain ⟨k, hk, rfl, HN, HD, HB⟩ := hrel
      by_cases hlt : k < ss.length
      · obtain ⟨b, off, tq, tc, rfl, hn0, ht0, _, hz, htl⟩ := ((unhide HC).below (unhide HB)) k hlt
        have HZ := hide hz
        have HX := hide (VarN.new wr ss[k].name (.slice tq ss[k].table.length tc))
        have HBX := hide (Joins.below_alloc1 wr (.cells #[.string ss[k].name, .slice tq ss[k].table.length tc] 55))
        clear hz htl
        go_upto_region 6 with fail
        revert HX HBX
        generalize (wr.alloc _) = w2
        intro HX HBX
        obtain ⟨x0, x1⟩ := (unhide HX).cells
        have HB2 := hide (fr (unhide HB) (unhide HBX))
        clear HBX hn0 ht0
        go_wp2_with fail
        refine (snapNameOK_any ss[k].name _ (unhide HZ)).mono ?_
        rintro e w3 ⟨rfl, hb⟩
        have HB3 := hide (fr (unhide HB2) hb)
        have x0' := (hb.cell (p := ⟨wr.heap.size, 0, none⟩) (World.block_lt_of_cell? _ _ x0)).trans x0
        clear hb x0 x1 HX
        cases hnm : snmB ss[k].name
        · have HF := hide (snps_bad hlt hnm)
          go_wp2
          go_ret
          exact ⟨ret_bool (unhide HF).symm, unhide HB3⟩
        have HN' := hide (all_succ (p := fun s : Snp => snmB s.name) hlt (unhide HN) hnm)
        have HC3 := hide ((unhide HC).below (unhide HB3))
        go_wp2_with fail
        refine (findSnap_any _ sc ss ss[k].name _ (unhide HS) (unhide HC3)).mono ?_
        rintro e w4 ⟨rfl, hb⟩
        have HB4 := hide (fr (unhide HB3) hb)
        clear hb x0'
        rcases fdL_at hlt with ⟨hf, hne⟩ | ⟨hf, j, hj, hjk, he⟩
        · have hb1 : (fdL ss ss[k].name != (k : Int)) = false := by rw [hf]; simp
          have HD' := hide (nodup_snoc (xs := ss.map (·.name)) (by simpa using hlt) (unhide HD) (fun j hj hjk => by
            have := hne j (by simpa using hj) hjk
            simpa using this))
          clear hf hne
          generalize fdL ss ss[k].name = F at *
          go_wp2
          go_roundw
          case rel => exact ⟨k + 1, by omega, by go_num, HN', HD', HB4⟩
          case measure => simp [intOf]; omega
        · have HF := hide (snps_twice hlt hjk he)
          clear he
          generalize fdL ss ss[k].name = F at *
          go_wp2
          go_ret
          exact ⟨ret_bool (unhide HF).symm, unhide HB4⟩
      · have HF := hide (snps_yes h3 (fun j hj => unhide HN j hj (by omega)) (by
          have := unhide HD
          rwa [List.take_of_length_le (by simp; omega)] at this))
        go_wp2
        go_ret
        exact ⟨ret_bool (unhide HF).symm, unhide HB⟩
  · have HF := hide (snps_many h3)
    have h3i : (3 : Int) < (ss.length : Int) := by omega
    go_enter Try.func47, Try.ntmps47
    go_wp2
    go_ret
    exact ⟨ret_bool (unhide HF).symm, Below.refl _ _⟩

end Go.Proofs.Ytkaiglhljpehpaa
