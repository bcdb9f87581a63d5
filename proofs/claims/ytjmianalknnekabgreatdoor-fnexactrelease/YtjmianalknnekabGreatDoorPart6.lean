import Derived.Test.YtjmianalknnekabGreatDoorRows
import Derived.Test.YtjmianalknnekabGreatDoorPart1
import Derived.Test.YtjmianalknnekabGreatDoorPart3
import Derived.Test.YtjmianalknnekabGreatDoorPart4
import Derived.Test.YtjmianalknnekabGreatDoorPart5
import Derived.WalkKit
import Derived.WalkSpells
import Derived.Test.YtjmianalknnekabGreatDoorPart2
import Derived.ProofKit
import Derived.OpenShut
import Derived.Lib.SmallJoins

/- Flush: contracts of the model and of the program. -/
namespace Go.Proofs.YtjmianalknnekabGreatDoor
open Go.RowKit
set_option linter.unusedVariables false

set_option maxRecDepth 100000 in
theorem l01Flush_any (ao bo : Option Addr) (ca cb : Nat) (ss : List ByteArray) (xs : List Wr) (h n : Int) (w : World) (hn0 : n = 200) (hn1 : n ≤ 1048576) (hl : ss.length ≤ 1048576) (hm : xs.length ≤ 200) (hat : ∀ i (hi : i < xs.length), 0 ≤ xs[i].at_ ∧ xs[i].at_ < ss.length) (h1 : Ss w ao ss) (h2 : Ios w bo xs) :
    Calls Tryz.prog 19 #[.agg #[.slice ao ss.length ca, .slice bo xs.length cb], .int .i64 h] w fun e w' => ∃ po pa qo qa, e = .returned (.agg #[.slice po ss.length pa, .slice qo (landF h false ss xs 200).2.1.length qa]) ∧ OwnD w' w.heap.size po ss.length pa qo (landF h false ss xs 200).2.1.length qa (landF h false ss xs 200).1 (landF h false ss xs 200).2.1 ∧ Below w.heap.size w w' := by
  have HA := hide (Joins.below_alloc2 w (.cells #[.slice ao ss.length ca, .slice bo xs.length cb] 31) (.cells #[.slice none 0 0, .slice none 0 0] 31))
  have H1 := hide (h1.below (unhide HA))
  have H2 := hide (h2.below (unhide HA))
  have HAT := hide hat
  have HLS := hide hl
  have HLX := hide hm
  have HR : Hid (VarD ((w.alloc (.cells #[.slice ao ss.length ca, .slice bo xs.length cb] 31)).alloc (.cells #[.slice none 0 0, .slice none 0 0] 31)) (w.heap.size + 1) (.slice none 0 0) (.slice none 0 0)) := hide (by have := VarD.new (w.alloc (.cells #[.slice ao ss.length ca, .slice bo xs.length cb] 31)) (.slice none 0 0) (.slice none 0 0); simp only [World.size_alloc] at this; exact this)
  clear h1 h2 hat hl hm hn0 hn1
  go_enter Tryz.func19, Tryz.ntmps19
  go_wp2_with fail
  refine (l01Land_any ao bo ca cb ss xs h 200 false _ (by omega) (by omega) (unhide HLS) (unhide HLX) (unhide HAT) (unhide H1) (unhide H2)).mono ?_
  rintro e w2 ⟨po, pa, qo, qa, rfl, ho2, hb2⟩
  have HO2 := hide (ho2.base (B' := w.heap.size + 2) (by simp))
  have HR2 := hide ((unhide HR).below hb2)
  have HB2 := hide (fr (unhide HA) hb2)
  clear ho2 hb2
  obtain ⟨hr0, hr1⟩ := (unhide HR2).cells
  have hr2 := (unhide HR2).free 0
  have hr3 := (unhide HR2).free 1
  obtain ⟨RX, HRX⟩ : ∃ RX, Hid ((landF h false ss xs 200).2.1 = RX) := ⟨_, hide rfl⟩
  rw [unhide HRX] at HO2 ⊢
  have HE := hide (land_end (w := w) (unhide HO2) (Nat.le_refl _) (unhide HB2) (.slice po ss.length pa) (.slice qo RX.length qa))
  go_wp2
  rw [unhide HRX]
  exact bodyPost_ret (v := .agg #[.slice po ss.length pa, .slice qo RX.length qa]) (by simp [results, Tryz.results19, go_sem, hr0, hr1]) rfl ⟨po, pa, qo, qa, rfl, (unhide HE).1, (unhide HE).2⟩

set_option maxRecDepth 100000 in
set_option maxHeartbeats 1600000 in
theorem flush_impl (ao bo : Option Addr) (ca cb : Nat) (ss : List ByteArray) (xs : List Wr) (h : Int) (w : World) (hl : ss.length ≤ maxLen) (hm : xs.length ≤ maxLen) (h1 : Ss w ao ss) (h2 : Ios w bo xs) :
    Calls Tryz.prog 92 #[.agg #[.slice ao ss.length ca, .slice bo xs.length cb], .int .i64 h] w fun e w' => ∃ po pa qo qa, e = .returned (.tuple #[.agg #[.slice po (flS ss xs h).length pa, .slice qo (flX ss xs h).length qa], .int .i64 (hostC ss xs h)]) ∧ OwnD w' w.heap.size po (flS ss xs h).length pa qo (flX ss xs h).length qa (flS ss xs h) (flX ss xs h) ∧ Below w.heap.size w w' := by
  have HA := hide (Joins.below_alloc2 w (.cells #[.slice ao ss.length ca, .slice bo xs.length cb] 31) (.cells #[.slice none 0 0, .slice none 0 0] 31))
  have H1 := hide (h1.below (unhide HA))
  have H2 := hide (h2.below (unhide HA))
  have HV := hide ((VarD.new w (.slice ao ss.length ca) (.slice bo xs.length cb)).below (Joins.below_alloc1 _ (.cells #[.slice none 0 0, .slice none 0 0] 31)))
  have HR : Hid (VarD ((w.alloc (.cells #[.slice ao ss.length ca, .slice bo xs.length cb] 31)).alloc (.cells #[.slice none 0 0, .slice none 0 0] 31)) (w.heap.size + 1) (.slice none 0 0) (.slice none 0 0)) := hide (by have := VarD.new (w.alloc (.cells #[.slice ao ss.length ca, .slice bo xs.length cb] 31)) (.slice none 0 0) (.slice none 0 0); simp only [World.size_alloc] at this; exact this)
  have HL := hide hl
  have HM := hide hm
  have HQ := hide (ask_zero ss xs h)
  clear h1 h2 hl hm
  by_cases hc : hostC ss xs h = 0
  · have hb : (hostC ss xs h != 0) = false := by simp [hc]
    have HW := hide (fl_ok hc)
    have HD := hide (hostC_eq hc).1
    have HC := hide hc
    have HLS : Hid (ss.length ≤ 1048576) := hide (by have := (diskB_len (unhide HD)).1; omega)
    have HLX := hide (diskB_len (unhide HD)).2
    clear hc
    go_enter Tryz.func92, Tryz.ntmps92
    go_wp2_with fail
    refine (hostFault_any _ _ _ _ ss xs h _ (unhide HL) (unhide HM) (unhide H1) (unhide H2)).mono ?_
    rintro e w1 ⟨rfl, hb1⟩
    have HV1 := hide ((unhide HV).below hb1)
    have HR1 := hide ((unhide HR).below hb1)
    have HB1 := hide (fr (unhide HA) hb1)
    have HS1 := hide ((unhide H1).below hb1)
    have HX1 := hide ((unhide H2).below hb1)
    have HZ1 := hide hb1.size
    clear hb1
    obtain ⟨hv0, hv1⟩ := (unhide HV1).cells
    go_wp2_with fail
    refine (landFirst_any ao bo ca cb ss xs h 200 _ (by omega) (by omega) (unhide HLS) (unhide HLX) (diskB_at (unhide HD)) (unhide HS1) (unhide HX1)).mono ?_
    rintro e w2 ⟨po, pa, qo, qa, rfl, ho2, hb2⟩
    have HO2 := hide (ho2.base (B' := w.heap.size + 2) (by have z1 := unhide HZ1; simp at z1; omega))
    have HR2 := hide ((unhide HR1).below hb2)
    have HB2 := hide (fr (unhide HB1) hb2)
    clear ho2 hb2 hv0 hv1
    obtain ⟨hr0, hr1⟩ := (unhide HR2).cells
    have hr2 := (unhide HR2).free 0
    have hr3 := (unhide HR2).free 1
    obtain ⟨RX, HRX⟩ : ∃ RX, Hid ((landF h false ss xs 200).2.1 = RX) := ⟨_, hide rfl⟩
    rw [unhide HRX] at HO2 ⊢
    have HE := hide (land_end (w := w) (unhide HO2) (Nat.le_refl _) (unhide HB2) (.slice po ss.length pa) (.slice qo RX.length qa))
    go_wp2
    obtain ⟨e1, e2⟩ := unhide HW
    rw [e1, e2, landF_slen, unhide HRX, unhide HC]
    exact bodyPost_ret (v := .tuple #[.agg #[.slice po ss.length pa, .slice qo RX.length qa], .int .i64 0]) (by simp [results, Tryz.results92, go_sem, hr0, hr1]) rfl ⟨po, pa, qo, qa, rfl, (unhide HE).1, (unhide HE).2⟩
  · have hb : (hostC ss xs h != 0) = true := by simp [hc]
    obtain ⟨e1, e2⟩ := fl_bad hc
    rw [e1, e2]
    clear e1 e2 hc
    go_enter Tryz.func92, Tryz.ntmps92
    go_wp2_with fail
    refine (hostFault_any _ _ _ _ ss xs h _ (unhide HL) (unhide HM) (unhide H1) (unhide H2)).mono ?_
    rintro e w1 ⟨rfl, hb1⟩
    have HR1 := hide ((unhide HR).below hb1)
    have HB1 := hide (fr (unhide HA) hb1)
    clear hb1
    obtain ⟨hr0, hr1⟩ := (unhide HR1).cells
    have hr2 := (unhide HR1).free 0
    have hr3 := (unhide HR1).free 1
    have HE := hide (zero_end (w := w) (wL := w1) (unhide HB1) (.slice none 0 0) (.slice none 0 0))
    go_wp2
    exact bodyPost_ret (v := .tuple #[.agg #[.slice none 0 0, .slice none 0 0], .int .i64 (hostC ss xs h)]) (by simp [results, Tryz.results92, go_sem, hr0, hr1]) rfl ⟨none, 0, none, 0, rfl, zeroD_own, unhide HE⟩

end Go.Proofs.YtjmianalknnekabGreatDoor

/- LoseHost: contracts of the model and of the program. -/
namespace Go.Proofs.YtjmianalknnekabGreatDoor
open Go.RowKit
set_option linter.unusedVariables false

/-- What LoseHost answers. -/
def loS (ss : List ByteArray) (xs : List Wr) (h k : Int) : List ByteArray := if hostC ss xs h = 0 then (if inB k 0 200 = true then (landF h true ss xs k).1 else []) else []
def loX (ss : List ByteArray) (xs : List Wr) (h k : Int) : List Wr := if hostC ss xs h = 0 then (if inB k 0 200 = true then (landF h true ss xs k).2.1 else []) else []
def loC (ss : List ByteArray) (xs : List Wr) (h k : Int) : Int := if hostC ss xs h = 0 then (if inB k 0 200 = true then 0 else 4) else hostC ss xs h
theorem lo_ok {ss : List ByteArray} {xs : List Wr} {h k : Int} (h1 : hostC ss xs h = 0) (h2 : inB k 0 200 = true) : loS ss xs h k = (landF h true ss xs k).1 ∧ loX ss xs h k = (landF h true ss xs k).2.1 ∧ loC ss xs h k = 0 := by simp [loS, loX, loC, h1, h2]
theorem lo_range {ss : List ByteArray} {xs : List Wr} {h k : Int} (h1 : hostC ss xs h = 0) (h2 : inB k 0 200 = false) : loS ss xs h k = [] ∧ loX ss xs h k = [] ∧ loC ss xs h k = 4 := by simp [loS, loX, loC, h1, h2]
theorem lo_bad {ss : List ByteArray} {xs : List Wr} {h k : Int} (h1 : ¬ hostC ss xs h = 0) : loS ss xs h k = [] ∧ loX ss xs h k = [] ∧ loC ss xs h k = hostC ss xs h := by simp [loS, loX, loC, h1]
theorem inB_eq {k a b : Int} (h : inB k a b = true) : a ≤ k ∧ k ≤ b := by simpa [inB] using h
theorem inB_ne {k a b : Int} (h : inB k a b = false) (hk : ¬ k < a) : b < k := by
  simp [inB] at h
  omega

end Go.Proofs.YtjmianalknnekabGreatDoor

/- Plain: what landing and losing leave of a disk, written out. -/
namespace Go.Proofs.YtjmianalknnekabGreatDoor
set_option linter.unusedVariables false

/-- A host's writes; sectors behind writes; what is left of writes without a host's first ones. -/
def ofH (h : Int) (xs : List Wr) : List Wr := xs.filter fun x => x.host == h
def putW (ss : List ByteArray) (fs : List Wr) : List ByteArray := fs.foldl (fun s x => s.set x.at_.toNat x.data) ss
def remH (h : Int) : Nat → List Wr → List Wr
  | _, [] => []
  | 0, x :: xs => x :: remH h 0 xs
  | n + 1, x :: xs => if x.host = h then remH h n xs else x :: remH h (n + 1) xs

theorem remH_zero (h : Int) : ∀ xs : List Wr, remH h 0 xs = xs
  | [] => rfl
  | x :: xs => by rw [remH, remH_zero h xs]
theorem ofH_cons_hit {h : Int} {x : Wr} (xs : List Wr) (hx : x.host = h) : ofH h (x :: xs) = x :: ofH h xs := by simp [ofH, hx]
theorem ofH_cons_miss {h : Int} {x : Wr} (xs : List Wr) (hx : ¬ x.host = h) : ofH h (x :: xs) = ofH h xs := by simp [ofH, hx]
theorem remH_hit {h : Int} {x : Wr} (n : Nat) (xs : List Wr) (hx : x.host = h) : remH h (n + 1) (x :: xs) = remH h n xs := by rw [remH, if_pos hx]
theorem remH_miss {h : Int} {x : Wr} (n : Nat) (xs : List Wr) (hx : ¬ x.host = h) : remH h n (x :: xs) = x :: remH h n xs := by
  cases n with
  | zero => rw [remH]
  | succ n => rw [remH, if_neg hx]

theorem fold_land (h : Int) : ∀ (xs : List Wr) (SS : List ByteArray) (LX : List Wr) (n : Nat),
    xs.foldl (stepF h false) (SS, LX, (n : Int)) = (putW SS ((ofH h xs).take n), LX ++ remH h n xs, ((n - (ofH h xs).length : Nat) : Int))
  | [], SS, LX, n => by simp [ofH, putW, remH]
  | x :: xs, SS, LX, n => by
    rw [List.foldl_cons]
    by_cases hx : x.host = h
    · cases n with
      | zero =>
        rw [step_keep hx SS LX (by simp), show ((0 : Nat) : Int) = ((0 : Nat) : Int) from rfl, fold_land h xs, remH_zero, remH_zero]
        simp [putW]
      | succ n =>
        rw [step_land hx SS LX (by omega), show ((n + 1 : Nat) : Int) - 1 = (n : Int) by omega, fold_land h xs, ofH_cons_hit xs hx, remH_hit n xs hx]
        rw [List.take_succ_cons, List.length_cons, show n + 1 - ((ofH h xs).length + 1) = n - (ofH h xs).length by omega]
        rfl
    · rw [step_other hx, fold_land h xs, ofH_cons_miss xs hx, remH_miss n xs hx]
      simp
theorem landF_put (h : Int) (ss : List ByteArray) (xs : List Wr) (n : Nat) : (landF h false ss xs (n : Int)).1 = putW ss ((ofH h xs).take n) ∧ (landF h false ss xs (n : Int)).2.1 = remH h n xs := by
  unfold landF
  rw [fold_land]
  exact ⟨rfl, by simp⟩

theorem cntW_of (xs : List Wr) (h : Int) : cntW xs h = (ofH h xs).length := rfl
theorem drop_rem (h : Int) : ∀ (n : Nat) (xs : List Wr), dropF h (remH h n xs) = dropF h xs
  | _, [] => by cases ‹Nat› <;> rfl
  | 0, x :: xs => by rw [remH_zero]
  | n + 1, x :: xs => by
    by_cases hx : x.host = h
    · rw [remH_hit n xs hx, drop_rem h n xs]; simp [dropF, hx]
    · rw [remH_miss _ xs hx]
      have := drop_rem h (n + 1) xs
      simp only [dropF, List.filter_cons] at this ⊢
      simp [hx, this]
theorem of_rem (h : Int) : ∀ (n : Nat) (xs : List Wr), ofH h (remH h n xs) = (ofH h xs).drop n
  | _, [] => by cases ‹Nat› <;> simp [remH, ofH]
  | 0, x :: xs => by rw [remH_zero]; rfl
  | n + 1, x :: xs => by
    by_cases hx : x.host = h
    · rw [remH_hit n xs hx, of_rem h n xs, ofH_cons_hit xs hx]; rfl
    · rw [remH_miss _ xs hx, ofH_cons_miss _ hx, ofH_cons_miss _ hx, of_rem h (n + 1) xs]
theorem rem_rem (h : Int) : ∀ (n : Nat) (xs : List Wr), remH h 1 (remH h n xs) = remH h (n + 1) xs
  | _, [] => by cases ‹Nat› <;> rfl
  | 0, x :: xs => by rw [remH_zero]
  | n + 1, x :: xs => by
    by_cases hx : x.host = h
    · rw [remH_hit n xs hx, rem_rem h n xs, remH_hit (n + 1) xs hx]
    · rw [remH_miss _ xs hx, remH_miss _ _ hx, rem_rem h (n + 1) xs, remH_miss _ xs hx]
theorem rem_none {h : Int} : ∀ (n : Nat) {xs : List Wr}, ofH h xs = [] → remH h n xs = xs
  | _, [], _ => by cases ‹Nat› <;> rfl
  | n, x :: xs, e => by
    have hx : ¬ x.host = h := fun hx => by rw [ofH_cons_hit xs hx] at e; cases e
    rw [ofH_cons_miss xs hx] at e
    rw [remH_miss n xs hx, rem_none n e]
theorem rem_all {h : Int} : ∀ (n : Nat) (xs : List Wr), (ofH h xs).length ≤ n → remH h n xs = dropF h xs
  | _, [], _ => by cases ‹Nat› <;> rfl
  | n, x :: xs, e => by
    by_cases hx : x.host = h
    · rw [ofH_cons_hit xs hx] at e
      cases n with
      | zero => simp at e
      | succ n =>
        rw [remH_hit n xs hx, rem_all n xs (by simpa using e)]; simp [dropF, hx]
    · rw [ofH_cons_miss xs hx] at e
      rw [remH_miss n xs hx, rem_all n xs e]; simp [dropF, hx]
theorem of_drop (h : Int) (xs : List Wr) : ofH h (dropF h xs) = [] := by
  simp [ofH, dropF, List.filter_filter]
theorem drop_len (h : Int) : ∀ xs : List Wr, (dropF h xs).length + (ofH h xs).length = xs.length
  | [] => rfl
  | x :: xs => by
    have := drop_len h xs
    by_cases hx : x.host = h
    · rw [ofH_cons_hit xs hx]; simp only [dropF, List.filter_cons] at this ⊢; simp [hx]; omega
    · rw [ofH_cons_miss xs hx]; simp only [dropF, List.filter_cons] at this ⊢; simp [hx]; omega

/-- Losing a host: the first writes are sure, the others gone. -/
theorem landF_gone (h : Int) (ss : List ByteArray) (xs : List Wr) (n : Nat) : (landF h true ss xs (n : Int)).1 = putW ss ((ofH h xs).take n) ∧ (landF h true ss xs (n : Int)).2.1 = dropF h xs := by
  obtain ⟨e1, e2⟩ := landF_lost h (n : Int) ss xs
  obtain ⟨p1, p2⟩ := landF_put h ss xs n
  rw [e1, e2, p1, p2, drop_rem]
  exact ⟨rfl, rfl⟩
theorem put_snoc (ss : List ByteArray) (fs : List Wr) (x : Wr) : putW ss (fs ++ [x]) = (putW ss fs).set x.at_.toNat x.data := by simp [putW]
theorem put_len (ss : List ByteArray) : ∀ fs : List Wr, (putW ss fs).length = ss.length := fun fs => by
  induction fs generalizing ss with
  | nil => rfl
  | cons x fs ih => simp only [putW, List.foldl_cons] at ih ⊢; rw [ih]; simp
theorem put_more (ss : List ByteArray) (fs : List Wr) (n : Nat) : putW (putW ss (fs.take n)) ((fs.drop n).take 1) = putW ss (fs.take (n + 1)) := by
  rw [List.take_add]
  simp [putW]

theorem diskB_parts {ss : List ByteArray} {xs : List Wr} : diskB ss xs = true ↔ (ss.length = 64 ∧ ∀ s ∈ ss, s.size ≤ 80) ∧ xs.length ≤ 200 ∧ ∀ x ∈ xs, ioB x = true := by
  simp only [diskB, secB, penB, Bool.and_eq_true, decide_eq_true_eq, List.all_eq_true]
theorem ioB_parts {x : Wr} : ioB x = true ↔ (0 ≤ x.host ∧ x.host ≤ 3) ∧ (0 ≤ x.at_ ∧ x.at_ ≤ 63) ∧ x.data.size ≤ 80 := by
  simp only [ioB, Bool.and_eq_true, decide_eq_true_eq]
  omega
theorem put_mem {P : ByteArray → Prop} : ∀ (fs : List Wr) (ss : List ByteArray), (∀ s ∈ ss, P s) → (∀ x ∈ fs, P x.data) → ∀ s ∈ putW ss fs, P s
  | [], ss, h1, _ => h1
  | x :: fs, ss, h1, h2 => by
    have := put_mem fs (ss.set x.at_.toNat x.data) (fun s hs => by
      rcases List.mem_or_eq_of_mem_set hs with h | h
      · exact h1 s h
      · rw [h]; exact h2 x (List.mem_cons_self ..)) (fun y hy => h2 y (List.mem_cons_of_mem _ hy))
    simpa [putW] using this
theorem of_mem {h : Int} {xs : List Wr} {x : Wr} (hx : x ∈ ofH h xs) : x ∈ xs := (List.mem_filter.1 hx).1
theorem drop_mem {h : Int} {xs : List Wr} {x : Wr} (hx : x ∈ dropF h xs) : x ∈ xs := (List.mem_filter.1 hx).1
theorem rem_mem {h : Int} : ∀ (n : Nat) {xs : List Wr} {x : Wr}, x ∈ remH h n xs → x ∈ xs
  | n, [], x, hx => by cases n <;> exact hx
  | 0, y :: ys, x, hx => by rwa [remH_zero] at hx
  | n + 1, y :: ys, x, hx => by
    by_cases hy : y.host = h
    · rw [remH_hit n ys hy] at hx; exact List.mem_cons_of_mem _ (rem_mem n hx)
    · rw [remH_miss _ ys hy] at hx
      rcases List.mem_cons.1 hx with rfl | hx
      · exact List.mem_cons_self ..
      · exact List.mem_cons_of_mem _ (rem_mem (n + 1) hx)
theorem rem_len {h : Int} (n : Nat) (xs : List Wr) : (remH h n xs).length ≤ xs.length := by
  induction xs generalizing n with
  | nil => cases n <;> exact Nat.le_refl _
  | cons x xs ih =>
    cases n with
    | zero => rw [remH_zero]; exact Nat.le_refl _
    | succ n =>
      by_cases hx : x.host = h
      · rw [remH_hit n xs hx]; have := ih n; simp; omega
      · rw [remH_miss _ xs hx]; have := ih (n + 1); simp; omega
/-- A right disk stays right where writes land, or are gone. -/
theorem diskB_put {ss : List ByteArray} {xs ys fs : List Wr} (hd : diskB ss xs = true) (hf : ∀ x ∈ fs, x ∈ xs) (hy : ∀ x ∈ ys, x ∈ xs) (hl : ys.length ≤ xs.length) : diskB (putW ss fs) ys = true := by
  obtain ⟨⟨a1, a2⟩, a3, a4⟩ := diskB_parts.1 hd
  refine diskB_parts.2 ⟨⟨by rw [put_len]; exact a1, put_mem fs ss a2 (fun x hx => (ioB_parts.1 (a4 x (hf x hx))).2.2)⟩, by omega, fun x hx => a4 x (hy x hx)⟩
theorem diskB_snoc {ss : List ByteArray} {xs : List Wr} {x : Wr} (hd : diskB ss xs = true) (hl : xs.length < 200) (hx : ioB x = true) : diskB ss (xs ++ [x]) = true := by
  obtain ⟨⟨a1, a2⟩, a3, a4⟩ := diskB_parts.1 hd
  refine diskB_parts.2 ⟨⟨a1, a2⟩, by simp; omega, fun y hy => ?_⟩
  rcases List.mem_append.1 hy with h | h
  · exact a4 y h
  · simp at h; subst h; exact hx
theorem drop_le (h : Int) (xs : List Wr) : (dropF h xs).length ≤ xs.length := by have := drop_len h xs; omega
theorem askC_right {ss : List ByteArray} {xs : List Wr} {h a : Int} (hd : diskB ss xs = true) (h0 : 0 ≤ h) (h1 : h ≤ 3) (a0 : 0 ≤ a) (a1 : a ≤ 63) : hostC ss xs h = 0 ∧ askC ss xs h a = 0 := by
  have e := hostC_ok (h := h) hd (by simp [inB]; omega)
  exact ⟨e, askC_ok e (by simp [inB]; omega)⟩

/-- What a host reads behind its own write, and what another one reads. -/
theorem read_own {ss : List ByteArray} {xs : List Wr} {h a : Int} {t : ByteArray} : readV ss (xs ++ [⟨h, a, t⟩]) h a = t := by
  have hk : xs.length < (xs ++ [(⟨h, a, t⟩ : Wr)]).length := by simp
  rw [readV_hit (k := xs.length) hk (by simp) (fun j hj hlt => by simp at hj; omega)]
  simp
theorem read_sure {ss : List ByteArray} {xs : List Wr} {h a : Int} (hn : ofH h xs = []) : readV ss xs h a = ss.getD a.toNat ⟨#[]⟩ := by
  refine readV_none fun j hj hm => ?_
  have : xs[j] ∈ ofH h xs := List.mem_filter.2 ⟨List.getElem_mem hj, by simp [hm.1]⟩
  rw [hn] at this
  cases this
theorem read_other {ss : List ByteArray} {xs : List Wr} {h o a b : Int} {t : ByteArray} (ho : o ≠ h) : readV ss (xs ++ [⟨h, a, t⟩]) o b = readV ss xs o b := by
  by_cases e : ∃ k, IsLast xs o b k
  · obtain ⟨k, ⟨hk, hm⟩, hn⟩ := e
    have hk' : k < (xs ++ [(⟨h, a, t⟩ : Wr)]).length := by simp; omega
    have hg : (xs ++ [(⟨h, a, t⟩ : Wr)])[k] = xs[k] := List.getElem_append_left hk
    rw [readV_hit hk hm hn, readV_hit hk' (by rw [hg]; exact hm) (fun j hj hlt => ?_), hg]
    by_cases hj' : j < xs.length
    · rw [List.getElem_append_left hj']; exact hn j hj' hlt
    · have : j = xs.length := by simp at hj; omega
      subst this
      simp only [mat]
      rw [List.getElem_append_right (Nat.le_refl _)]
      simp
      intro e2
      exact absurd e2.symm ho
  · have hn : ∀ j (hj : j < xs.length), ¬ mat xs[j] o b := by
      intro j hj hm
      -- the greatest such place
      have : ∀ d j, (hj : j < xs.length) → xs.length - j = d → mat xs[j] o b → ∃ k, IsLast xs o b k := by
        intro d
        induction d using Nat.strongRecOn with
        | ind d ih =>
          intro j hj hd hm
          by_cases more : ∃ i, ∃ hi : i < xs.length, j < i ∧ mat xs[i] o b
          · obtain ⟨i, hi, hlt, hmi⟩ := more
            exact ih (xs.length - i) (by omega) i hi rfl hmi
          · exact ⟨j, ⟨hj, hm⟩, fun i hi hlt hmi => more ⟨i, hi, hlt, hmi⟩⟩
      exact e (this _ j hj rfl hm)
    rw [readV_none hn, readV_none]
    intro j hj hm
    by_cases hj' : j < xs.length
    · rw [List.getElem_append_left hj'] at hm; exact hn j hj' hm
    · have : j = xs.length := by simp at hj; omega
      subst this
      simp only [mat] at hm
      rw [List.getElem_append_right (Nat.le_refl _)] at hm
      simp at hm
      exact ho hm.1.symm

end Go.Proofs.YtjmianalknnekabGreatDoor

/- Plain words of the generations: what a right one is, its text, what a text says. -/
namespace Go.Proofs.YtjmianalknnekabGreatDoor
open Go.RowKit
set_option linter.unusedVariables false

abbrev dltV (h g s : Int) : Value := .agg #[.int .i64 h, .int .i64 g, .int .i64 s]
def dltB (h g s : Int) : Bool := inB h 0 3 && (inB g 1 1000000 && inB s 0 10000000)
theorem dltB_iff {h g s : Int} : dltB h g s = true ↔ (0 ≤ h ∧ h ≤ 3) ∧ (1 ≤ g ∧ g ≤ 1000000) ∧ 0 ≤ s ∧ s ≤ 10000000 := by
  simp only [dltB, inB, Bool.and_eq_true, decide_eq_true_eq]
theorem dltB_1 {h g s : Int} (e : inB h 0 3 = false) : dltB h g s = false := by simp [dltB, e]
theorem dltB_2 {h g s : Int} (e : inB g 1 1000000 = false) : dltB h g s = false := by simp [dltB, e]
theorem dltB_3 {h g s : Int} (e1 : inB h 0 3 = true) (e2 : inB g 1 1000000 = true) : dltB h g s = inB s 0 10000000 := by simp [dltB, e1, e2]
/-- Its text. -/
def encD (h g s : Int) : ByteArray := sealS 9 [h, g, s]
theorem encD_size (h g s : Int) : (encD h g s).size = 16 := by rw [encD, sealS_size]; rfl
/-- What a text says. -/
def decL (t : ByteArray) : List Int := openL t 9
def decB (t : ByteArray) : Bool := openB t 9 && (decide ((decL t).length = 3) && dltB ((decL t).getD 0 0) ((decL t).getD 1 0) ((decL t).getD 2 0))
def decH (t : ByteArray) : Int := if decB t = true then (decL t).getD 0 0 else 0
def decG (t : ByteArray) : Int := if decB t = true then (decL t).getD 1 0 else 0
def decS (t : ByteArray) : Int := if decB t = true then (decL t).getD 2 0 else 0
theorem decB_open {t : ByteArray} (h : openB t 9 = false) : decB t = false := by simp [decB, h]
theorem decB_len {t : ByteArray} (h : ¬ (decL t).length = 3) : decB t = false := by simp [decB, h]
theorem decB_at {t : ByteArray} {a b c : Int} (h : openB t 9 = true) (hl : decL t = [a, b, c]) : decB t = dltB a b c := by simp [decB, h, hl]
theorem dec_no {t : ByteArray} (h : decB t = false) : decH t = 0 ∧ decG t = 0 ∧ decS t = 0 := by simp [decH, decG, decS, h]
theorem dec_yes {t : ByteArray} {a b c : Int} (h : decB t = true) (hl : decL t = [a, b, c]) : decH t = a ∧ decG t = b ∧ decS t = c := by simp [decH, decG, decS, h, hl]
theorem three {l : List Int} (h : l.length = 3) : ∃ a b c, l = [a, b, c] := by
  match l, h with
  | [a, b, c], _ => exact ⟨a, b, c, rfl⟩
theorem dec_right {t : ByteArray} (h : decB t = true) : dltB (decH t) (decG t) (decS t) = true := by
  by_cases hl : (decL t).length = 3
  · obtain ⟨a, b, c, e⟩ := three hl
    by_cases ho : openB t 9 = true
    · rw [decB_at ho e] at h
      have h' : decB t = true := by rw [decB_at ho e]; exact h
      obtain ⟨e1, e2, e3⟩ := dec_yes h' e
      rw [e1, e2, e3]; exact h
    · rw [Bool.not_eq_true] at ho
      rw [decB_open ho] at h; cases h
  · rw [decB_len hl] at h; cases h

/-- One in a variable. -/
def VarT (w : World) (x : Nat) (t : TypeId) (h g s : Int) : Prop := w.heap[x]? = some (.cells #[.int .i64 h, .int .i64 g, .int .i64 s] t (0, 0))
theorem VarT.lt {w : World} {x t : Nat} {h g s : Int} (k : VarT w x t h g s) : x < w.heap.size := (Array.getElem?_eq_some_iff.1 k).1
theorem VarT.cells {w : World} {x t : Nat} {h g s : Int} (k : VarT w x t h g s) : w.cell? ⟨x, 0, none⟩ = some (.int .i64 h) ∧ w.cell? ⟨x, 1, none⟩ = some (.int .i64 g) ∧ w.cell? ⟨x, 2, none⟩ = some (.int .i64 s) := ⟨by rw [Joins.cell_of_block k]; rfl, by rw [Joins.cell_of_block k]; rfl, by rw [Joins.cell_of_block k]; rfl⟩
theorem VarT.free {w : World} {x t : Nat} {h g s : Int} (k : VarT w x t h g s) : w.frozen? ⟨x, 0, none⟩ = false ∧ w.frozen? ⟨x, 1, none⟩ = false ∧ w.frozen? ⟨x, 2, none⟩ = false := ⟨Joins.unfrozen_of_block k 0, Joins.unfrozen_of_block k 1, Joins.unfrozen_of_block k 2⟩
theorem VarT.below {w w' : World} {x t : Nat} {h g s : Int} (k : VarT w x t h g s) (hb : Below w.heap.size w w') : VarT w' x t h g s := by
  unfold VarT; rw [hb.block x k.lt]; exact k
theorem VarT.keep {S : Nat → Prop} {w w' : World} {x t : Nat} {h g s : Int} (k : VarT w x t h g s) (hk : Keep S w w') (hs : ¬ S x) : VarT w' x t h g s := by
  unfold VarT; rw [hk.block x k.lt hs]; exact k
theorem VarT.new (w : World) (t : TypeId) (h g s : Int) : VarT (w.alloc (.cells #[.int .i64 h, .int .i64 g, .int .i64 s] t)) w.heap.size t h g s := heap_alloc_new w _

/-- What a host reads of another one's. -/
def redB (ss : List ByteArray) (xs : List Wr) (h o : Int) : Bool := decB (readV ss xs h (5 + o)) && decide (decH (readV ss xs h (5 + o)) = o)
def redG (ss : List ByteArray) (xs : List Wr) (h o : Int) : Int := if redB ss xs h o = true then decG (readV ss xs h (5 + o)) else 0
def redS (ss : List ByteArray) (xs : List Wr) (h o : Int) : Int := if redB ss xs h o = true then decS (readV ss xs h (5 + o)) else 0
theorem red_yes {ss : List ByteArray} {xs : List Wr} {h o : Int} (hb : decB (readV ss xs h (5 + o)) = true) (ho : decH (readV ss xs h (5 + o)) = o) : redB ss xs h o = true ∧ redG ss xs h o = decG (readV ss xs h (5 + o)) ∧ redS ss xs h o = decS (readV ss xs h (5 + o)) := by
  have e : redB ss xs h o = true := by simp [redB, hb, ho]
  exact ⟨e, if_pos e, if_pos e⟩
theorem red_no {ss : List ByteArray} {xs : List Wr} {h o : Int} (e : redB ss xs h o = false) : redG ss xs h o = 0 ∧ redS ss xs h o = 0 := ⟨if_neg (by simp [e]), if_neg (by simp [e])⟩
theorem red_none {ss : List ByteArray} {xs : List Wr} {h o : Int} (hb : decB (readV ss xs h (5 + o)) = false) : redB ss xs h o = false := by simp [redB, hb]
theorem red_other {ss : List ByteArray} {xs : List Wr} {h o : Int} (ho : decH (readV ss xs h (5 + o)) ≠ o) : redB ss xs h o = false := by simp [redB, ho]
theorem readV_size {ss : List ByteArray} {xs : List Wr} (hd : diskB ss xs = true) (h a : Int) : (readV ss xs h a).size ≤ 80 := by
  obtain ⟨⟨a1, a2⟩, a3, a4⟩ := diskB_parts.1 hd
  unfold readV
  cases hf : xs.reverse.find? (fun x => x.host == h && x.at_ == a) with
  | some x => exact (ioB_parts.1 (a4 x (List.mem_reverse.1 (List.mem_of_find?_eq_some hf)))).2.2
  | none =>
    simp only [Option.map_none, Option.getD_none]
    rw [List.getD_eq_getElem?_getD]
    cases hg : ss[a.toNat]? with
    | some s => exact a2 s (List.mem_of_getElem? hg)
    | none => exact Nat.zero_le _

def encC (h g s : Int) : Int := if dltB h g s = true then 0 else 1
def encR (h g s : Int) : ByteArray := if dltB h g s = true then encD h g s else ⟨#[]⟩
theorem ret_sd {a b : ByteArray} {c d : Int} (h : a = b) (k : c = d) : Ending.returned (.tuple #[.string a, .int .i64 c]) = .returned (.tuple #[.string b, .int .i64 d]) := by rw [h, k]

theorem ret_di {a b c a' b' c' : Int} {x y : Int} (h1 : a = a') (h2 : b = b') (h3 : c = c') (k : x = y) : Ending.returned (.tuple #[dltV a b c, .int .i64 x]) = .returned (.tuple #[dltV a' b' c', .int .i64 y]) := by rw [h1, h2, h3, k]

/-- What DecodeDelta answers. -/
def dcC (t : ByteArray) : Int := if 65536 < t.size then 2 else if decB t = true then 0 else 3
def dcH (t : ByteArray) : Int := if 65536 < t.size then 0 else decH t
def dcG (t : ByteArray) : Int := if 65536 < t.size then 0 else decG t
def dcS (t : ByteArray) : Int := if 65536 < t.size then 0 else decS t
theorem dc_long {t : ByteArray} (h : 65536 < t.size) : dcH t = 0 ∧ dcG t = 0 ∧ dcS t = 0 ∧ dcC t = 2 := ⟨if_pos h, if_pos h, if_pos h, if_pos h⟩
theorem dc_no {t : ByteArray} (h : ¬ 65536 < t.size) (hd : decB t = false) : dcH t = 0 ∧ dcG t = 0 ∧ dcS t = 0 ∧ dcC t = 3 := by
  obtain ⟨e1, e2, e3⟩ := dec_no hd
  exact ⟨(if_neg h).trans e1, (if_neg h).trans e2, (if_neg h).trans e3, (if_neg h).trans (if_neg (by simp [hd]))⟩
theorem dc_yes {t : ByteArray} (h : ¬ 65536 < t.size) (hd : decB t = true) : dcH t = decH t ∧ dcG t = decG t ∧ dcS t = decS t ∧ dcC t = 0 := ⟨if_neg h, if_neg h, if_neg h, (if_neg h).trans (if_pos hd)⟩


end Go.Proofs.YtjmianalknnekabGreatDoor

/- Plain words of the leader: what a right one is, its text, what a text says. -/
namespace Go.Proofs.YtjmianalknnekabGreatDoor
open Go.RowKit
set_option linter.unusedVariables false

structure Ld where
  ver : Int
  own : Int
  gen : Int
theorem Ld.eq_iff {x y : Ld} : x = y ↔ x.ver = y.ver ∧ x.own = y.own ∧ x.gen = y.gen := by
  cases x; cases y; simp
abbrev lV (x : Ld) : Value := .agg #[.int .i64 x.ver, .int .i64 x.own, .int .i64 x.gen]
def ld0 : Ld := ⟨0, 0, 0⟩
def ldN (v : Int) : Ld := ⟨v, -1, 0⟩
def ldB (x : Ld) : Bool := inB x.ver 0 1000000 && ((decide (x.own = -1) && decide (x.gen = 0)) || (decide (0 < x.ver) && (inB x.own 0 3 && inB x.gen 1 1000000)))
theorem ldB_iff {x : Ld} : ldB x = true ↔ (0 ≤ x.ver ∧ x.ver ≤ 1000000) ∧ ((x.own = -1 ∧ x.gen = 0) ∨ (0 < x.ver ∧ (0 ≤ x.own ∧ x.own ≤ 3) ∧ 1 ≤ x.gen ∧ x.gen ≤ 1000000)) := by
  simp only [ldB, inB, Bool.and_eq_true, Bool.or_eq_true, decide_eq_true_eq]
theorem ldB_lo {x : Ld} (h : ldB x = true) : (0 ≤ x.ver ∧ x.ver ≤ 1000000) ∧ (-1 ≤ x.own ∧ x.own ≤ 3) ∧ 0 ≤ x.gen ∧ x.gen ≤ 1000000 := by
  obtain ⟨h1, h2⟩ := ldB_iff.1 h
  omega
theorem ldB_N (v : Int) (h0 : 0 ≤ v) (h1 : v ≤ 1000000) : ldB (ldN v) = true := ldB_iff.2 ⟨⟨h0, h1⟩, .inl ⟨rfl, rfl⟩⟩
/-- Its text. -/
def encL (x : Ld) : ByteArray := sealS 6 [x.ver, x.own + 1, x.gen]
theorem encL_size (x : Ld) : (encL x).size = 16 := by rw [encL, sealS_size]; rfl
def elC (x : Ld) : Int := if ldB x = true then 0 else 1
def elR (x : Ld) : ByteArray := if ldB x = true then encL x else ⟨#[]⟩
/-- What a text says. -/
def ldL (t : ByteArray) : List Int := openL t 6
def ld3 (l : List Int) : Ld := ⟨l.getD 0 0, l.getD 1 0 - 1, l.getD 2 0⟩
def ldD (t : ByteArray) : Bool := openB t 6 && (decide ((ldL t).length = 3) && ldB (ld3 (ldL t)))
def ldK (t : ByteArray) : Ld := if ldD t = true then ld3 (ldL t) else ldN 0
theorem ldD_open {t : ByteArray} (h : openB t 6 = false) : ldD t = false := by simp [ldD, h]
theorem ldD_len {t : ByteArray} (h : ¬ (ldL t).length = 3) : ldD t = false := by simp [ldD, h]
theorem ldD_at {t : ByteArray} {a b c : Int} (h : openB t 6 = true) (hl : ldL t = [a, b, c]) : ldD t = ldB ⟨a, b - 1, c⟩ := by
  have e : ld3 (ldL t) = ⟨a, b - 1, c⟩ := by rw [hl]; rfl
  simp [ldD, h, e]
  rw [hl]; simp
theorem ld_no {t : ByteArray} (h : ldD t = false) : ldK t = ldN 0 := by simp [ldK, h]
theorem ld_yes {t : ByteArray} {a b c : Int} (h : ldD t = true) (hl : ldL t = [a, b, c]) : ldK t = ⟨a, b - 1, c⟩ := by rw [ldK, if_pos h, hl]; rfl
theorem ld_right (t : ByteArray) : ldB (ldK t) = true := by
  by_cases h : ldD t = true
  · have h' := h
    simp only [ldD, Bool.and_eq_true, decide_eq_true_eq] at h'
    rw [ldK, if_pos h]; exact h'.2.2
  · rw [Bool.not_eq_true] at h
    rw [ld_no h]; exact ldB_N 0 (by decide) (by decide)
/-- What DecodeLeader answers. -/
def lcC (t : ByteArray) : Int := if 65536 < t.size then 2 else if ldD t = true then 0 else 3
def lcK (t : ByteArray) : Ld := if 65536 < t.size then ld0 else if ldD t = true then ldK t else ld0
theorem lc_long {t : ByteArray} (h : 65536 < t.size) : lcK t = ld0 ∧ lcC t = 2 := ⟨if_pos h, if_pos h⟩
theorem lc_no {t : ByteArray} (h : ¬ 65536 < t.size) (hd : ldD t = false) : lcK t = ld0 ∧ lcC t = 3 := ⟨(if_neg h).trans (if_neg (by simp [hd])), (if_neg h).trans (if_neg (by simp [hd]))⟩
theorem lc_yes {t : ByteArray} (h : ¬ 65536 < t.size) (hd : ldD t = true) : lcK t = ldK t ∧ lcC t = 0 := ⟨(if_neg h).trans (if_pos hd), (if_neg h).trans (if_pos hd)⟩
theorem ret_li {a b : Ld} {x y : Int} (h : a = b) (k : x = y) : Ending.returned (.tuple #[lV a, .int .i64 x]) = .returned (.tuple #[lV b, .int .i64 y]) := by rw [h, k]
theorem ret_lb {a b : Ld} {x y : Bool} (h : a = b) (k : x = y) : Ending.returned (.tuple #[lV a, .bool x]) = .returned (.tuple #[lV b, .bool y]) := by rw [h, k]
theorem ret_sl {a b : ByteArray} {c d : Int} (h : a = b) (k : c = d) : Ending.returned (.tuple #[.string a, .int .i64 c]) = .returned (.tuple #[.string b, .int .i64 d]) := by rw [h, k]
/-- One in a variable. -/
abbrev VarL (w : World) (x : Nat) (t : TypeId) (a : Ld) : Prop := VarT w x t a.ver a.own a.gen

theorem l3_nums {x : Ld} (hd : ldB x = true) : ∀ j (hj : j < [x.ver, x.own + 1, x.gen].length), 0 ≤ [x.ver, x.own + 1, x.gen][j] ∧ [x.ver, x.own + 1, x.gen][j] ≤ 2147483647 := by
  obtain ⟨h1, h2, h3⟩ := ldB_lo hd
  intro j hj
  have hj' : j < 3 := hj
  rcases (show j = 0 ∨ j = 1 ∨ j = 2 by omega) with rfl | rfl | rfl <;> simp <;> omega
theorem l3_ints {x : Ld} (hd : ldB x = true) : intsB [x.ver, x.own + 1, x.gen] = true := by
  obtain ⟨h1, h2, h3⟩ := ldB_lo hd
  rw [intsB_len]
  · rfl
  · intro j hj
    have hj' : j < 3 := hj
    rcases (show j = 0 ∨ j = 1 ∨ j = 2 by omega) with rfl | rfl | rfl <;> simp [numB, inB] <;> omega
theorem l3_seal {x : Ld} (hd : ldB x = true) : sealC 6 [x.ver, x.own + 1, x.gen] = 0 ∧ sealT 6 [x.ver, x.own + 1, x.gen] = encL x := by
  have hc : sealC 6 [x.ver, x.own + 1, x.gen] = 0 := sealC_ok (listC_ok (by simp) (l3_ints hd)) rfl
  exact ⟨hc, sealT_ok hc⟩
/-- The numbers of a text are numbers. -/
theorem open_nums {t : ByteArray} {k : Int} (h : openB t k = true) : ∀ x ∈ openL t k, 0 ≤ x ∧ x ≤ 2147483647 := by
  intro x hx
  rw [openL_yes h] at hx
  simp only [openB, Bool.and_eq_true] at h
  obtain ⟨_, _, _, _, _, hu⟩ := recB_iff.1 h.1
  obtain ⟨j, hj, rfl⟩ := List.mem_iff_getElem.1 hx
  exact (intsB_parts (okU_parts hu).2.2).1 j hj
theorem open_mid {t : ByteArray} {a b c : Int} (h : openB t 6 = true) (hl : ldL t = [a, b, c]) : IntKind.i64.wrap (b - 1) = b - 1 := by
  have := open_nums h b (by rw [show openL t 6 = [a, b, c] from hl]; simp)
  rw [IntKind.wrap_i64]; omega
end Go.Proofs.YtjmianalknnekabGreatDoor

/- A leader that came in, opened. -/
namespace Go.Proofs.YtjmianalknnekabGreatDoor
open Go.ChangeShapes Go.WideShapes Go.ChangeAt Go.RowKit
set_option linter.unusedVariables false
set_option maxRecDepth 100000
theorem open_ld {H : Type} {enc : TypeId × Value → H} {w : World} {base b0 : Nat} {r : Reach} {spare : Nat → Bool} {held : Bool} {v : Value} {d : DataW H} {p : List MemPlace}
    (hv : Value.okWide Tryz.prog w r b0 27 v) (h : DataW.Trod enc Tryz.prog w base spare held 27 v d p) : ∃ x : Ld, v = lV x := by
  obtain ⟨c0, c1, c2, y0, y1, y2, n, rfl, _, _, t0, t1, t2⟩ := Joins.open_agg3 Tryz.underlying27 (by kernel_rfl) (by kernel_rfl) hv h
  obtain ⟨z0, q0, _⟩ := DataW.trod_int Tryz.underlying3 t0
  obtain ⟨z1, q1, _⟩ := DataW.trod_int Tryz.underlying3 t1
  obtain ⟨z2, q2, _⟩ := DataW.trod_int Tryz.underlying3 t2
  simp only [List.cons.injEq, and_true] at q0 q1 q2
  subst q0 q1 q2
  exact ⟨⟨z0, z1, z2⟩, rfl⟩
end Go.Proofs.YtjmianalknnekabGreatDoor
