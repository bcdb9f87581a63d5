import Derived.Test.YtjjkppknojecjaaGreatXPlainWorldPart1
import Derived.Test.YtjjkppknojecjaaGreatXPlainWorldPart7
import Derived.Test.YtjjkppknojecjaaGreatXPlainWorldPart8
import Derived.Test.YtjjkppknojecjaaGreatXPlainWorldPart2
import Derived.Test.YtjjkppknojecjaaGreatRows
import Derived.Test.YtjjkppknojecjaaGreatXPlainWorldPart3
import Derived.WalkKit
import Derived.WalkSpells
import Derived.KernelRfl
import Derived.LoopN
import Derived.Test.YtjjkppknojecjaaGreatXPlainWorldPart4
import Derived.OrdersHeld
import Derived.Deep.RegionHeld3
import Derived.Test.YtjjkppknojecjaaGreatXPlainWorldPart5
import Derived.Laws.OwnMore
import Derived.BigQuiet
import Derived.Deep.QuietTactic
import Derived.Test.YtjjkppknojecjaaGreatXPlainWorldPart6

namespace Go.Proofs.YtjjkppknojecjaaGreat
open Go.RowKit
set_option linter.unusedVariables false
set_option maxRecDepth 100000

def ch1 (n : Int) (b : UInt8) : Int := 27 * n + ((b.toNat : Int) - 97) % 256 + 1
def nmN (t : ByteArray) : Int := t.data.toList.foldl ch1 0
theorem ch1_in {n : Int} {b : UInt8} (hb : nm1 b = true) : ch1 n b = 27 * n + ((b.toNat : Int) - 96) := by
  simp only [nm1, Bool.and_eq_true, decide_eq_true_eq] at hb
  unfold ch1
  rw [Int.emod_eq_of_lt (by omega) (by omega)]; omega
theorem fold_lo : ∀ (l : List UInt8), l.all nm1 = true → ∀ n : Int, 0 ≤ n → 0 ≤ l.foldl ch1 n ∧ l.foldl ch1 n + 1 ≤ (n + 1) * 27 ^ l.length
  | [], _, n, hn => ⟨hn, by simp⟩
  | b :: l, h, n, hn => by
    simp only [List.all_cons, Bool.and_eq_true] at h
    have hb := h.1
    simp only [nm1, Bool.and_eq_true, decide_eq_true_eq] at hb
    rw [List.foldl_cons, ch1_in h.1]
    have := fold_lo l h.2 (27 * n + ((b.toNat : Int) - 96)) (by omega)
    refine ⟨this.1, Int.le_trans this.2 ?_⟩
    rw [List.length_cons, Int.pow_succ, Int.mul_comm _ 27, ← Int.mul_assoc]
    exact Int.mul_le_mul_of_nonneg_right (by omega) (Int.pow_nonneg (by omega))
theorem snm_parts {t : ByteArray} (h : snmB t = true) : t.data.toList.all nm1 = true ∧ 1 ≤ t.size ∧ t.size ≤ 6 := by
  simp only [snmB, Bool.and_eq_true] at h
  have := betw_iff.1 h.2
  exact ⟨h.1, by omega, by omega⟩
theorem nmN_in {t : ByteArray} (h : snmB t = true) : 0 ≤ nmN t ∧ nmN t ≤ 387420488 := by
  obtain ⟨h1, h2, h3⟩ := snm_parts h
  have h4 := fold_lo _ h1 0 (by omega)
  have hl : t.data.toList.length = t.size := by simp
  rw [hl] at h4
  refine ⟨h4.1, ?_⟩
  have : (27 : Int) ^ t.size ≤ 387420489 := by rcases (show t.size = 1 ∨ t.size = 2 ∨ t.size = 3 ∨ t.size = 4 ∨ t.size = 5 ∨ t.size = 6 by omega) with e | e | e | e | e | e <;> rw [e] <;> decide
  have h5 := h4.2
  unfold nmN
  omega
def supL (m : Img) : List Int := (m.snaps.length : Int) :: m.snaps.map (fun s => nmN s.name)
def tabU : Nat → List Snp → List Up
  | _, [] => []
  | i, s :: ss => ⟨12 + (i : Int), encTb s.table⟩ :: tabU (i + 1) ss
def datU (m : Img) (c : Nat) : List Up := if 0 < m.refs.getD c 0 then [⟨15 + (c : Int), sealS 4 [m.data.getD c 0]⟩] else []
def headU (m : Img) : List Up := [⟨9, sealS 1 (supL m)⟩, ⟨10, encT m.refs⟩, ⟨11, encTb m.table⟩]
def dataU (m : Img) (k : Nat) : List Up := (List.range k).flatMap (datU m)
def allU (m : Img) : List Up := headU m ++ tabU 0 m.snaps ++ dataU m 24
theorem tabU_len : ∀ (ss : List Snp) (i : Nat), (tabU i ss).length = ss.length
  | [], i => rfl
  | s :: ss, i => by simp only [tabU, List.length_cons, tabU_len ss (i + 1)]
theorem tabU_snoc : ∀ (ss : List Snp) (i : Nat) (s : Snp), tabU i (ss ++ [s]) = tabU i ss ++ [⟨12 + ((i + ss.length : Nat) : Int), encTb s.table⟩]
  | [], i, s => by simp [tabU]
  | a :: ss, i, s => by
    simp only [List.cons_append, tabU, tabU_snoc ss (i + 1) s, List.length_cons]
    rw [show i + 1 + ss.length = i + (ss.length + 1) by omega]
theorem dataU_succ (m : Img) (k : Nat) : dataU m (k + 1) = dataU m k ++ datU m k := by
  unfold dataU
  rw [List.range_succ, List.flatMap_append]; simp
end Go.Proofs.YtjjkppknojecjaaGreat

namespace Go.Proofs.YtjjkppknojecjaaGreat
open Go.RowKit
set_option linter.unusedVariables false
set_option maxRecDepth 100000

def nmK (t : ByteArray) (k : Nat) : Int := (t.data.toList.take k).foldl ch1 0
theorem nmK_succ {t : ByteArray} {k : Nat} (hk : k < t.size) : nmK t (k + 1) = ch1 (nmK t k) t.data.toList[k] := by
  unfold nmK
  rw [List.take_succ_eq_append_getElem (by simpa using hk), List.foldl_append]; rfl
theorem nmK_all (t : ByteArray) : nmK t t.size = nmN t := by
  unfold nmK nmN
  rw [List.take_of_length_le (by simp)]
theorem ch1_le {n : Int} {b : UInt8} (h0 : 0 ≤ n) : 0 ≤ ch1 n b ∧ ch1 n b ≤ 27 * n + 256 := by
  unfold ch1
  have h1 := Int.emod_nonneg ((b.toNat : Int) - 97) (show (256 : Int) ≠ 0 by decide)
  have h2 := Int.emod_lt_of_pos ((b.toNat : Int) - 97) (show (0 : Int) < 256 by decide)
  omega
theorem tl_lt {t : ByteArray} {k : Nat} (h : k + 1 ≤ t.size) : k < t.data.toList.length := by
  have : t.data.toList.length = t.size := by simp
  omega
def bd27 : Nat → Int
  | 0 => 0
  | k + 1 => 27 * bd27 k + 256
theorem nmK_le (t : ByteArray) : ∀ k, k ≤ t.size → 0 ≤ nmK t k ∧ nmK t k ≤ bd27 k
  | 0, _ => by simp [nmK, bd27]
  | k + 1, h => by
    have h1 := nmK_le t k (by omega)
    rw [nmK_succ (by omega)]
    have h2 := ch1_le (n := nmK t k) (b := t.data.toList[k]'(tl_lt h)) h1.1
    refine ⟨h2.1, Int.le_trans h2.2 ?_⟩
    rw [bd27]
    omega

theorem bd27_le : ∀ k, k ≤ 8 → 0 ≤ bd27 k ∧ bd27 k ≤ 10000000000000 := by
  intro k hk
  rcases (show k = 0 ∨ k = 1 ∨ k = 2 ∨ k = 3 ∨ k = 4 ∨ k = 5 ∨ k = 6 ∨ k = 7 ∨ k = 8 by omega) with rfl | rfl | rfl | rfl | rfl | rfl | rfl | rfl | rfl <;> decide

set_option maxHeartbeats 800000 in
theorem l11Name_any (t : ByteArray) (w : World) (hz : t.size ≤ 8) :
    Calls Tryz.prog 100 #[.string t] w fun e w' => e = .returned (.int .i64 (nmN t)) ∧ w' = w := by
  go_enter Tryz.func100, Tryz.ntmps100
  go_wp2
  go_loop [3, 4] (fun n i => ∃ k : Nat, k ≤ t.size ∧ i = .int .i64 k ∧ n = .int .i64 (nmK t k)) (fun _ i => t.size - (intOf i).toNat)
  case atStart => exact ⟨0, Nat.zero_le _, rfl, rfl⟩
  case round =>
    obtain ⟨k, hk, rfl, rfl⟩ := hrel
    by_cases hlt : k < t.size
    · have hlti : (k : Int) < (t.size : Int) := by omega
      have HS : Hid (nmK t (k + 1) = 27 * nmK t k + ((t[k].toNat : Int) - 97) % 256 + 1) := hide (by
        rw [nmK_succ hlt]
        have e : t.data.toList[k]'(by simpa using hlt) = t[k] := by have := snm_get hlt; rw [List.getElem?_eq_getElem (by simpa using hlt)] at this; exact Option.some.inj this
        rw [e]; rfl)
      obtain ⟨b0, b1⟩ := nmK_le t k hk
      obtain ⟨d0, d1⟩ := bd27_le k (by omega)
      have h1 := Int.emod_nonneg ((t[k].toNat : Int) - 97) (show (256 : Int) ≠ 0 by decide)
      have h2 := Int.emod_lt_of_pos ((t[k].toNat : Int) - 97) (show (0 : Int) < 256 by decide)
      have hu : IntKind.u8.wrap ((t[k].toNat : Int) - 97) = ((t[k].toNat : Int) - 97) % 256 := by simp [IntKind.wrap, IntKind.bits, IntKind.signed]
      generalize nmK t k = X at *
      generalize ((t[k].toNat : Int) - 97) % 256 = D at *
      have w1 : IntKind.i64.wrap (27 * X) = 27 * X := by rw [IntKind.wrap_i64]; omega
      have w2 : IntKind.i64.wrap D = D := by rw [IntKind.wrap_i64]; omega
      have w3 : IntKind.i64.wrap (27 * X + D) = 27 * X + D := by rw [IntKind.wrap_i64]; omega
      have w4 : IntKind.i64.wrap (27 * X + D + 1) = 27 * X + D + 1 := by rw [IntKind.wrap_i64]; omega
      go_wp2
      go_round
      case rel => exact ⟨k + 1, by omega, by go_num, by rw [unhide HS]⟩
      case measure => simp [intOf]; omega
    · obtain rfl : k = t.size := by omega
      have HF := hide (nmK_all t)
      go_wp2
      go_ret
      exact ⟨ret_int (unhide HF), rfl⟩

end Go.Proofs.YtjjkppknojecjaaGreat

namespace Go.Proofs.YtjjkppknojecjaaGreat
open Go.RowKit
set_option linter.unusedVariables false
set_option maxRecDepth 100000

theorem allB_snm {m : Img} (h : ImR m) : allB (supL m) = true := by
  have hs := h.few
  unfold allB supL
  rw [List.all_cons, Bool.and_eq_true]
  refine ⟨by simp [numB, inB]; omega, ?_⟩
  rw [List.all_eq_true]
  intro x hx
  obtain ⟨s, hs', rfl⟩ := List.mem_map.1 hx
  have := nmN_in (h.snaps s hs').1
  simp [numB, inB]; omega
end Go.Proofs.YtjjkppknojecjaaGreat

namespace Go.Proofs.YtjjkppknojecjaaGreat
open Go.RowKit
set_option linter.unusedVariables false

section
variable {P : Program} {Q : Exit → Act → World → Prop} {S S' : World → Prop} {C : Act → World → Prop} {l : List Oper} {hl : List Nat}

def wpAnyR (P : Program) (l : List Oper) (Q : Exit → Act → World → Prop) (S : World → Prop) (hl : List Nat) : Nat → Array Bool → Act → World → Prop
  | 0, listed, a, w => Region.ready .any l.toArray listed = [] ∧ Q .normal a w
  | fuel + 1, listed, a, w =>
    (Region.ready .any l.toArray listed = [] → Q .normal a w) ∧
    ∀ i ∈ Region.ready .any l.toArray listed, wpOp P l.toArray Q i (fun a' w' => (i ∈ hl → S w') ∧ wpAnyR P l Q S hl fuel (listed.setIfInBounds i true) a' w') a w
theorem wpAny_of_R : ∀ (fuel : Nat) (listed : Array Bool) (a : Act) (w : World), wpAnyR P l Q S hl fuel listed a w → wpAny P .any l.toArray Q fuel listed a w
  | 0, _, _, _, h => h
  | fuel + 1, _, _, _, h => ⟨h.1, fun i hi => wpOp_mono (fun a' w' h' => wpAny_of_R fuel _ a' w' h'.2) (h.2 i hi)⟩

abbrev lsD (listed : Array Bool) : Nat → Bool := fun j => listed.getD j false
theorem closed_set {listed : Array Bool} {i : Nat} (hc : Closed l (lsD listed)) (hi : i ∈ Region.ready .any l.toArray listed) : Closed l (lsD (listed.setIfInBounds i true)) := by
  intro j o ho hd e he hb
  by_cases hji : j = i
  · subst hji
    obtain ⟨_, o', ho', hp⟩ := mem_ready.1 hi
    have h2 : l.toArray[j]? = l[j]? := by simp
    rw [h2, ho] at ho'
    cases ho'
    exact getD_set_true (hp e he hb)
  · have : lsD listed j = true := by
      have hd' : (listed.setIfInBounds i true).getD j false = true := hd
      rwa [getD_set_ne false (Ne.symm hji)] at hd'
    exact getD_set_true (hc j o ho this e he hb)
def Anc (l : List Oper) (j i : Nat) : Prop := ∀ d : Nat → Bool, Closed l d → d j = true → d i = true
theorem rg_unlisted {listed : Array Bool} {i : Nat} (h : listed.getD i true = false) : i < listed.size ∧ listed.getD i false = false := by
  rw [Array.getD_eq_getD_getElem?] at h ⊢
  by_cases hi : i < listed.size
  · rw [Array.getElem?_eq_getElem hi] at h ⊢
    exact ⟨hi, by simpa using h⟩
  · rw [Array.getElem?_eq_none (Nat.le_of_not_lt hi)] at h
    simp at h
theorem ready_anc {listed : Array Bool} {i j : Nat} (hc : Closed l (lsD listed)) (hj : j ∈ Region.ready .any l.toArray listed) (hr : Anc l j i) (hne : j ≠ i) (hi : listed.getD i true = false) : False := by
  have h1 := (mem_ready.1 hj).1
  have h2 := hr _ (closed_set hc hj) (by
    show (listed.setIfInBounds j true).getD j false = true
    have := (rg_unlisted h1).1
    simp [Array.getD_eq_getD_getElem?, this])
  have h3 : (listed.setIfInBounds j true).getD i false = true := h2
  rw [getD_set_ne false hne, (rg_unlisted hi).2] at h3
  cases h3

theorem wpAnyR_first {i : Nat} {oi : Oper} {v : Value} (hi : l.toArray[i]? = some oi) (hsel : ∀ (j : Nat) (o : Oper) cs b, l.toArray[j]? = some o → o.op ≠ .select cs b)
    (hQ : ∀ c a w, Q (.panic c) (a.put oi.dst v) w → Q (.panic c) a w) (hSS : ∀ w, S w → S' w) (hst : ∀ j, j < l.length → j ∉ hl → j ≠ i → Anc l j i ∨ ((∀ w, S' w) ∧ i ∉ hl)) :
    ∀ (fuel : Nat) (listed : Array Bool) (a : Act) (w : World), Closed l (lsD listed) →
      (∀ j oj, l.toArray[j]? = some oj → j ≠ i → listed.getD j true = false → (∀ e ∈ oj.after, Region.binds .any e = true → e.on ≠ i) → oi.apart l.toArray oj = true) →
      i ∈ Region.ready .any l.toArray listed → YieldsIf P l.toArray S' oi v a → S' w → (i ∈ hl → S w) →
      wpAnyR P l Q S hl fuel (listed.setIfInBounds i true) (a.put oi.dst v) w → wpAnyR P l Q S hl (fuel + 1) listed a w := by
  intro fuel
  induction fuel with
  | zero =>
    intro listed a w hc _ hr hy hS hSw H
    refine ⟨fun h => (by rw [h] at hr; cases hr), fun j hj => ?_⟩
    by_cases hji : j = i
    · subst hji; exact hy.wpOp hi hS ⟨hSw, H⟩
    · have := ready_mono hj hji
      rw [H.1] at this
      cases this
  | succ fuel ih =>
    intro listed a w hc hfree hr hy hS hSw H
    refine ⟨fun h => (by rw [h] at hr; cases hr), fun j hj => ?_⟩
    by_cases hji : j = i
    · subst hji; exact hy.wpOp hi hS ⟨hSw, H⟩
    · have h1 := H.2 j (ready_mono hj hji)
      obtain ⟨hjun, oj, hoj, hall⟩ := mem_ready.1 hj
      have hiun := (mem_ready.1 hr).1
      have hnot : ∀ e ∈ oj.after, Region.binds .any e = true → e.on ≠ i := fun e he hb heq => by
        have h1 := hall e he hb
        rw [heq, (rg_unlisted hiun).2] at h1
        cases h1
      have h2 := wpOp_putIf hoj (hfree j oj hoj hji hjun hnot) (fun cs b => hsel i oi cs b hi) (fun cs b => hsel j oj cs b hoj) hQ hy h1
      have hfree' : ∀ k ok, l.toArray[k]? = some ok → k ≠ i → (listed.setIfInBounds j true).getD k true = false →
          (∀ e ∈ ok.after, Region.binds .any e = true → e.on ≠ i) → oi.apart l.toArray ok = true := fun k ok hk hki hun hno => by
        refine hfree k ok hk hki ?_ hno
        by_cases hjk : j = k
        · subst hjk; exact hjun
        · rw [getD_set_ne true hjk] at hun; exact hun
      have hjl : j < l.length := by have := (Array.getElem?_eq_some_iff.1 hoj).1; simpa using this
      have hkey : ∀ w', (j ∈ hl → S w') → S' w' ∧ (i ∈ hl → S w') := fun w' h => by
        by_cases hjh : j ∈ hl
        · exact ⟨hSS _ (h hjh), fun _ => h hjh⟩
        · rcases hst j hjl hjh hji with h5 | h5
          · exact (ready_anc hc hj h5 hji hiun).elim
          · exact ⟨h5.1 _, fun h6 => absurd h6 h5.2⟩
      refine wpOp_mono (fun a' w' h3 => ⟨h3.2.1, ih (listed.setIfInBounds j true) a' w' (closed_set hc hj) hfree' (ready_mono hr (Ne.symm hji)) h3.1 (hkey w' h3.2.1).1 (hkey w' h3.2.1).2 ?_⟩) h2
      rw [Array.setIfInBounds_comm _ _ hji]
      exact h3.2.2

def ancGo : List Oper → List (List Nat) → List (List Nat)
  | [], acc => acc
  | o :: r, acc => ancGo r (acc ++ [(o.after.toList.flatMap fun e => if Region.binds .any e then e.on :: acc.getD e.on [] else []).eraseDups])
def ancs (l : List Oper) : List (List Nat) := ancGo l []
theorem ancGo_spec (L : List Oper) : ∀ (r : List Oper) (acc : List (List Nat)), (∀ k, r[k]? = L[acc.length + k]?) → (∀ j, ∀ i ∈ acc.getD j [], Anc L j i) → ∀ j, ∀ i ∈ (ancGo r acc).getD j [], Anc L j i
  | [], acc, _, h => h
  | o :: r, acc, hr, h => by
    unfold ancGo
    refine ancGo_spec L r _ (fun k => ?_) (fun j i hi => ?_)
    · have := hr (k + 1)
      rw [List.length_append, List.length_singleton, Nat.add_assoc, Nat.add_comm 1 k]
      simpa using this
    · by_cases hj : j < acc.length
      · rw [List.getD_eq_getElem?_getD, List.getElem?_append_left hj, ← List.getD_eq_getElem?_getD] at hi
        exact h j i hi
      · by_cases hj2 : j = acc.length
        · subst hj2
          rw [List.getD_eq_getElem?_getD, List.getElem?_append_right (Nat.le_refl _), Nat.sub_self] at hi
          simp only [List.getElem?_cons_zero, Option.getD_some, List.mem_eraseDups, List.mem_flatMap] at hi
          obtain ⟨e, he, hie⟩ := hi
          have ho : L[acc.length]? = some o := by have := hr 0; simpa using this.symm
          intro d hc hd
          by_cases hb : Region.binds .any e = true
          · rw [if_pos hb] at hie
            have h1 := hc _ o ho hd e (by simpa using he) hb
            rcases List.mem_cons.1 hie with rfl | hie
            · exact h1
            · exact h e.on i hie d hc h1
          · rw [if_neg hb] at hie
            cases hie
        · rw [List.getD_eq_getElem?_getD, List.getElem?_eq_none (by rw [List.length_append, List.length_singleton]; omega)] at hi
          simp at hi
theorem ancs_spec {l : List Oper} {j i : Nat} (h : ((ancs l).getD j []).contains i = true) : Anc l j i :=
  ancGo_spec l l [] (fun k => by simp) (fun j i hi => by simp at hi) j i (by simpa [ancs] using h)

def rgFrB (l : List Oper) (listed : Array Bool) (i : Nat) : Bool := (Region.ready .any l.toArray listed).contains i && Region.free .any l.toArray listed i
def rgStB (l : List Oper) (hl : List Nat) (i : Nat) : Bool := (List.range l.length).all fun j => hl.contains j || j == i || ((ancs l).getD j []).contains i
def rgOrdB (l : List Oper) (hl : List Nat) : List (Nat × Nat) → Array Bool → Bool
  | [], _ => true
  | (i, k) :: r, listed => (match k with
      | 0 => rgFrB l listed i && rgStB l hl i
      | 2 => hl.contains i && (Region.ready .any l.toArray listed == [i])
      | 3 => !hl.contains i && (Region.ready .any l.toArray listed == [i])
      | 4 => !hl.contains i && rgFrB l listed i
      | 5 => rgFrB l listed i && rgStB l hl i
      | _ => !hl.contains i && rgFrB l listed i) && rgOrdB l hl r (listed.setIfInBounds i true)
def rgSet : List (Nat × Nat) → Array Bool → Array Bool
  | [], listed => listed
  | (i, _) :: r, listed => rgSet r (listed.setIfInBounds i true)
def wpOrd (P : Program) (l : List Oper) (Q : Exit → Act → World → Prop) (S : World → Prop) (C : Act → World → Prop) : List (Nat × Nat) → Act → World → Prop
  | [], a, w => C a w
  | (i, k) :: r, a, w => ∀ o, l[i]? = some o → match k with
      | 0 => Region.wanted o (yielded l.toArray a.tmps) = true ∧ S w ∧ ∃ v, (∀ w', S w' → (execOp a.eval o).run P w' = .ok (.value v) w') ∧ wpOrd P l Q S C r (a.put o.dst v) w
      | 2 => Region.wanted o (yielded l.toArray a.tmps) = true ∧ o.wp P a w (fun a' w' => S w' ∧ wpOrd P l Q S C r a' w') Q
      | 3 => Region.wanted o (yielded l.toArray a.tmps) = true ∧ o.wp P a w (wpOrd P l Q S C r) Q
      | 4 => Region.wanted o (yielded l.toArray a.tmps) = true ∧ ∃ v, (∀ w', (execOp a.eval o).run P w' = .ok (.value v) w') ∧ wpOrd P l Q S C r (a.put o.dst v) w
      | 5 => Region.wanted o (yielded l.toArray a.tmps) = false ∧ S w ∧ wpOrd P l Q S C r (a.put o.dst undef) w
      | _ => Region.wanted o (yielded l.toArray a.tmps) = false ∧ wpOrd P l Q S C r (a.put o.dst undef) w
theorem rgSt_spec {i : Nat} (h : rgStB l hl i = true) : ∀ j, j < l.length → j ∉ hl → j ≠ i → Anc l j i := fun j hj hh hne => by
  have := List.all_eq_true.1 h j (List.mem_range.2 hj)
  simp only [Bool.or_eq_true, List.contains_iff_mem, beq_iff_eq] at this
  rcases this with (h1 | h1) | h1
  · exact absurd h1 hh
  · exact absurd h1 hne
  · exact ancs_spec (by simpa using h1)
theorem anyR_of_ord (hs : Region.noSelect l.toArray = true) (hQ : ∀ c a w, Q (.panic c) a w → False) (fuel : Nat) : ∀ (ord : List (Nat × Nat)) (listed : Array Bool) (a : Act) (w : World), Closed l (lsD listed) → rgOrdB l hl ord listed = true → wpOrd P l Q S (fun a w => Closed l (lsD (rgSet ord listed)) → wpAnyR P l Q S hl fuel (rgSet ord listed) a w) ord a w → wpAnyR P l Q S hl (ord.length + fuel) listed a w
  | [], listed, a, w, hc, hB, h => by simpa [rgSet] using h hc
  | (i, k) :: r, listed, a, w, hc, hB, h => by
    rw [show ((i, k) :: r).length + fuel = (r.length + fuel) + 1 by simp only [List.length_cons]; omega]
    have hrs : rgSet ((i, k) :: r) listed = rgSet r (listed.setIfInBounds i true) := rfl
    rw [hrs] at h
    obtain ⟨C, hC⟩ : ∃ C, C = (fun a w => Closed l (lsD (rgSet r (listed.setIfInBounds i true))) → wpAnyR P l Q S hl fuel (rgSet r (listed.setIfInBounds i true)) a w) := ⟨_, rfl⟩
    rw [← hC] at h
    unfold rgOrdB at hB
    rw [Bool.and_eq_true] at hB
    obtain ⟨hB1, hB2⟩ := hB
    have hone : ∀ (hrd : Region.ready .any l.toArray listed = [i]) (hw : ∀ o, l[i]? = some o → Region.wanted o (yielded l.toArray a.tmps) = true ∧ o.wp P a w (fun a' w' => (i ∈ hl → S w') ∧ wpOrd P l Q S C r a' w') Q), wpAnyR P l Q S hl (r.length + fuel + 1) listed a w := by
      intro hrd hw
      refine ⟨fun h0 => (by rw [hrd] at h0; cases h0), fun j hj => ?_⟩
      have hji : j = i := by rw [hrd] at hj; simpa using hj
      subst hji
      obtain ⟨_, o, ho, _⟩ := mem_ready.1 hj
      have ho' : l[j]? = some o := by simpa using ho
      obtain ⟨h1, h2⟩ := hw o ho'
      unfold wpOp
      simp only [ho]
      rw [if_pos h1]
      exact .inl (Oper.wp_mono (fun a' w' h3 => ⟨h3.1, anyR_of_ord hs hQ fuel r _ a' w' (closed_set hc hj) hB2 (hC ▸ h3.2)⟩) h2)
    have hfirst : ∀ (v : Value) (S' : World → Prop) (hf : rgFrB l listed i = true) (hSS : ∀ w, S w → S' w) (hst : ∀ j, j < l.length → j ∉ hl → j ≠ i → Anc l j i ∨ ((∀ w, S' w) ∧ i ∉ hl)) (hS' : S' w) (hSw : i ∈ hl → S w)
        (hy : ∀ o, l[i]? = some o → YieldsIf P l.toArray S' o v a ∧ wpOrd P l Q S C r (a.put o.dst v) w), wpAnyR P l Q S hl (r.length + fuel + 1) listed a w := by
      intro v S' hf hSS hst hS' hSw hy
      unfold rgFrB at hf
      rw [Bool.and_eq_true] at hf
      have hir : i ∈ Region.ready .any l.toArray listed := by simpa using hf.1
      obtain ⟨_, o, ho, _⟩ := mem_ready.1 hir
      have ho' : l[i]? = some o := by simpa using ho
      obtain ⟨h1, h2⟩ := hy o ho'
      exact wpAnyR_first ho (Region.noSelect_spec hs) (fun c a w h => (hQ _ _ _ h).elim) hSS hst (r.length + fuel) listed a w hc (Region.free_spec ho hf.2) hir h1 hS' hSw (anyR_of_ord hs hQ fuel r _ _ _ (closed_set hc hir) hB2 (hC ▸ h2))
    match k, hB1, h with
    | 0, hB1, h =>
      simp only [Bool.and_eq_true] at hB1
      have hir : i ∈ Region.ready .any l.toArray listed := by have := hB1.1; unfold rgFrB at this; rw [Bool.and_eq_true] at this; simpa using this.1
      obtain ⟨_, o, ho, _⟩ := mem_ready.1 hir
      have ho' : l[i]? = some o := by simpa using ho
      obtain ⟨h1, h2, v, h3, h4⟩ := h o ho'
      exact hfirst v S hB1.1 (fun _ h => h) (fun j a b c => .inl (rgSt_spec hB1.2 j a b c)) h2 (fun _ => h2) (fun o2 ho2 => by
        rw [ho'] at ho2
        cases ho2
        exact ⟨.inl ⟨h1, h3⟩, h4⟩)
    | 1, hB1, h =>
      simp only [Bool.and_eq_true, Bool.not_eq_true'] at hB1
      exact hfirst undef (fun _ => True) hB1.2 (fun _ _ => trivial) (fun _ _ _ _ => .inr ⟨fun _ => trivial, by simpa using hB1.1⟩) trivial (fun h6 => absurd h6 (by simpa using hB1.1)) (fun o ho => ⟨.inr ⟨(h o ho).1, rfl⟩, (h o ho).2⟩)
    | 2, hB1, h =>
      simp only [Bool.and_eq_true, beq_iff_eq] at hB1
      exact hone hB1.2 (fun o ho => ⟨(h o ho).1, Oper.wp_mono (fun a' w' h3 => ⟨fun _ => h3.1, h3.2⟩) (h o ho).2⟩)
    | 3, hB1, h =>
      simp only [Bool.and_eq_true, beq_iff_eq, Bool.not_eq_true'] at hB1
      exact hone hB1.2 (fun o ho => ⟨(h o ho).1, Oper.wp_mono (fun a' w' h3 => ⟨fun h6 => absurd h6 (by simpa using hB1.1), h3⟩) (h o ho).2⟩)
    | 4, hB1, h =>
      simp only [Bool.and_eq_true, Bool.not_eq_true'] at hB1
      have hir : i ∈ Region.ready .any l.toArray listed := by have := hB1.2; unfold rgFrB at this; rw [Bool.and_eq_true] at this; simpa using this.1
      obtain ⟨_, o, ho, _⟩ := mem_ready.1 hir
      have ho' : l[i]? = some o := by simpa using ho
      obtain ⟨h1, v, h3, h4⟩ := h o ho'
      exact hfirst v (fun _ => True) hB1.2 (fun _ _ => trivial) (fun _ _ _ _ => .inr ⟨fun _ => trivial, by simpa using hB1.1⟩) trivial (fun h6 => absurd h6 (by simpa using hB1.1)) (fun o2 ho2 => by
        rw [ho'] at ho2
        cases ho2
        exact ⟨.inl ⟨h1, fun w' _ => h3 w'⟩, h4⟩)
    | 5, hB1, h =>
      simp only [Bool.and_eq_true] at hB1
      have hir : i ∈ Region.ready .any l.toArray listed := by have := hB1.1; unfold rgFrB at this; rw [Bool.and_eq_true] at this; simpa using this.1
      obtain ⟨_, o, ho, _⟩ := mem_ready.1 hir
      have ho' : l[i]? = some o := by simpa using ho
      obtain ⟨h1, h2, h4⟩ := h o ho'
      exact hfirst undef S hB1.1 (fun _ h => h) (fun j a b c => .inl (rgSt_spec hB1.2 j a b c)) h2 (fun _ => h2) (fun o2 ho2 => by
        rw [ho'] at ho2
        cases ho2
        exact ⟨.inr ⟨h1, rfl⟩, h4⟩)
    | n + 6, hB1, h =>
      simp only [Bool.and_eq_true, Bool.not_eq_true'] at hB1
      exact hfirst undef (fun _ => True) hB1.2 (fun _ _ => trivial) (fun _ _ _ _ => .inr ⟨fun _ => trivial, by simpa using hB1.1⟩) trivial (fun h6 => absurd h6 (by simpa using hB1.1)) (fun o ho => ⟨.inr ⟨(h o ho).1, rfl⟩, (h o ho).2⟩)

theorem closed_none (n : Nat) : Closed l (lsD (Array.replicate n false)) := fun j o _ hd => by
  have hd' : (Array.replicate n false).getD j false = true := hd
  rw [Array.getD_eq_getD_getElem?, Array.getElem?_replicate] at hd'
  split at hd' <;> simp at hd'
theorem ord_imp {C' : Act → World → Prop} (hC : ∀ a w, C a w → C' a w) : ∀ (ord : List (Nat × Nat)) (a : Act) (w : World), wpOrd P l Q S C ord a w → wpOrd P l Q S C' ord a w
  | [], a, w, h => hC a w h
  | (i, k) :: r, a, w, h => fun o ho => by
    have h1 := h o ho
    match k, h1 with
    | 0, h1 => exact ⟨h1.1, h1.2.1, h1.2.2.imp fun v hv => ⟨hv.1, ord_imp hC r _ _ hv.2⟩⟩
    | 1, h1 => exact ⟨h1.1, ord_imp hC r _ _ h1.2⟩
    | 2, h1 => exact ⟨h1.1, Oper.wp_mono (fun a' w' h3 => ⟨h3.1, ord_imp hC r _ _ h3.2⟩) h1.2⟩
    | 3, h1 => exact ⟨h1.1, Oper.wp_mono (fun a' w' h3 => ord_imp hC r _ _ h3) h1.2⟩
    | 4, h1 => exact ⟨h1.1, h1.2.imp fun v hv => ⟨hv.1, ord_imp hC r _ _ hv.2⟩⟩
    | 5, h1 => exact ⟨h1.1, h1.2.1, ord_imp hC r _ _ h1.2.2⟩
    | n + 6, h1 => exact ⟨h1.1, ord_imp hC r _ _ h1.2⟩
theorem wp_region_ord {id : Nat} {a : Act} {w : World} (S : World → Prop) (hl : List Nat) (ord : List (Nat × Nat)) (hm : P.follows .mixedOrders = true) (hs : Region.noSelect l.toArray = true) (hn : ord.length = l.length) (hB : (rgOrdB l hl ord (Array.replicate l.length false) && (Region.ready .any l.toArray (rgSet ord (Array.replicate l.length false))).isEmpty) = true)
    (h : wpOrd P l (NoPanic Q) S (fun a w => NoPanic Q .normal a w) ord a w.drew) : (Code.region id l.toArray true).wp P Q a w := by
  refine wp_region_noPanic (wp_region_any hm (wpAny_of_R (S := S) (hl := hl) _ _ _ _ ?_))
  rw [Bool.and_eq_true] at hB
  have := anyR_of_ord (P := P) (Q := NoPanic Q) (S := S) (hl := hl) hs (fun _ _ _ h => h) 0 ord _ a w.drew (closed_none _) hB.1 (ord_imp (fun a w h _ => ⟨by simpa using hB.2, h⟩) ord _ _ h)
  rw [Nat.add_zero, hn] at this
  simpa using this
def wpT (P : Program) (l : List Oper) (Q : Exit → Act → World → Prop) (S : World → Prop) (hl : List Nat) (fuel : Nat) (listed : Array Bool) (a : Act) (w : World) : Prop := Closed l (lsD listed) → wpAnyR P l Q S hl fuel listed a w
theorem wp_region_tree {id : Nat} {a : Act} {w : World} (S : World → Prop) (hl : List Nat) (hm : P.follows .mixedOrders = true) (h : wpT P l (NoPanic Q) S hl l.length (Array.replicate l.length false) a w.drew) : (Code.region id l.toArray true).wp P Q a w :=
  wp_region_noPanic (wp_region_any hm (wpAny_of_R (S := S) (hl := hl) _ _ _ _ (by simpa using h (closed_none _))))
theorem tree_seg {fuel n : Nat} {listed : Array Bool} {a : Act} {w : World} (ord : List (Nat × Nat)) (hs : Region.noSelect l.toArray = true) (hn : fuel = ord.length + n) (hB : rgOrdB l hl ord listed = true)
    (h : wpOrd P l (NoPanic Q) S (fun a w => wpT P l (NoPanic Q) S hl n (rgSet ord listed) a w) ord a w) : wpT P l (NoPanic Q) S hl fuel listed a w := fun hc => by
  rw [hn]
  exact anyR_of_ord hs (fun _ _ _ h => h) n ord listed a w hc hB h
theorem tree_two {fuel i j : Nat} {oi oj : Oper} {listed : Array Bool} {a : Act} {w : World} (hi : l[i]? = some oi) (hj : l[j]? = some oj) (gi : oi.guard = none) (gj : oj.guard = none) (hB : (Region.ready .any l.toArray listed == [i, j]) = true)
    (h1 : ∀ K : Act → World → Prop, (∀ a' w', (i ∈ hl → S w') → wpT P l Q S hl fuel (listed.setIfInBounds i true) a' w' → K a' w') → oi.wp P a w K Q)
    (h2 : ∀ K : Act → World → Prop, (∀ a' w', (j ∈ hl → S w') → wpT P l Q S hl fuel (listed.setIfInBounds j true) a' w' → K a' w') → oj.wp P a w K Q) : wpT P l Q S hl (fuel + 1) listed a w := fun hc => by
  have hr : Region.ready .any l.toArray listed = [i, j] := by simpa using hB
  refine ⟨fun h0 => (by rw [hr] at h0; cases h0), fun k hk => ?_⟩
  have hk' : k = i ∨ k = j := by rw [hr] at hk; simpa using hk
  rcases hk' with rfl | rfl
  · unfold wpOp
    have e : l.toArray[k]? = some oi := by simpa using hi
    simp only [e]
    rw [if_pos (by simp [Region.wanted, gi])]
    exact .inl (h1 _ (fun a' w' hS h3 => ⟨hS, h3 (closed_set hc hk)⟩))
  · unfold wpOp
    have e : l.toArray[k]? = some oj := by simpa using hj
    simp only [e]
    rw [if_pos (by simp [Region.wanted, gj])]
    exact .inl (h2 _ (fun a' w' hS h3 => ⟨hS, h3 (closed_set hc hk)⟩))
theorem tree_done {fuel : Nat} {listed : Array Bool} {a : Act} {w : World} (hB : (Region.ready .any l.toArray listed).isEmpty = true) (h : Q .normal a w) : wpT P l (NoPanic Q) S hl fuel listed a w := fun _ => by
  have hr : Region.ready .any l.toArray listed = [] := by simpa using hB
  cases fuel with
  | zero => exact ⟨hr, h⟩
  | succ n => exact ⟨fun _ => h, by rw [hr]; simp⟩

theorem ord_read {i : Nat} {o : Oper} {r : List (Nat × Nat)} {a : Act} {w : World} (v : Value) (ho : l[i]? = some o) (hg : o.guard = none) (hS : S w) (hv : ∀ w', S w' → (execOp a.eval o).run P w' = .ok (.value v) w') (h : wpOrd P l Q S C r (a.put o.dst v) w) : wpOrd P l Q S C ((i, 0) :: r) a w := by
  intro o2 ho2
  rw [ho] at ho2
  cases ho2
  exact ⟨by simp [Region.wanted, hg], hS, v, hv, h⟩
theorem ord_held {i : Nat} {o : Oper} {r : List (Nat × Nat)} {a : Act} {w : World} (ho : l[i]? = some o) (hg : o.guard = none) (h : ∀ K : Act → World → Prop, (∀ a' w', S w' → wpOrd P l Q S C r a' w' → K a' w') → o.wp P a w K Q) : wpOrd P l Q S C ((i, 2) :: r) a w := by
  intro o2 ho2
  rw [ho] at ho2
  cases ho2
  exact ⟨by simp [Region.wanted, hg], h _ (fun a' w' h1 h2 => ⟨h1, h2⟩)⟩
theorem ord_alone {i : Nat} {o : Oper} {r : List (Nat × Nat)} {a : Act} {w : World} (ho : l[i]? = some o) (hg : o.guard = none) (h : ∀ K : Act → World → Prop, (∀ a' w', wpOrd P l Q S C r a' w' → K a' w') → o.wp P a w K Q) : wpOrd P l Q S C ((i, 3) :: r) a w := by
  intro o2 ho2
  rw [ho] at ho2
  cases ho2
  exact ⟨by simp [Region.wanted, hg], h _ (fun a' w' h2 => h2)⟩
theorem ord_done {a : Act} {w : World} (h : Q .normal a w) : wpOrd P l (NoPanic Q) S (fun a w => NoPanic Q .normal a w) [] a w := h
theorem ord_end {a : Act} {w : World} (h : C a w) : wpOrd P l Q S C [] a w := h
end

end Go.Proofs.YtjjkppknojecjaaGreat

namespace Go.Proofs.YtjjkppknojecjaaGreat
open Go.RowKit
set_option linter.unusedVariables false
set_option maxRecDepth 100000

theorem infoUs : (Tryz.prog.info? 77).map (fun i => (i.zero, i.size, i.bytes)) = some (some (.agg #[.int .i64 0, .string ⟨#[]⟩]), 2, 24) := by kernel_rfl
theorem supL_take {m : Img} {k : Nat} (hk : k < m.snaps.length) : (supL m).take (k + 1 + 1) = (supL m).take (k + 1) ++ [nmN m.snaps[k].name] := by
  have hl : k + 1 < (supL m).length := by simp [supL]; exact hk
  rw [List.take_succ_eq_append_getElem hl]
  simp [supL]

set_option maxHeartbeats 1600000 in
theorem l11Super_any (a : Im4) (m : Img) (w : World) (hR : ImR m) (hc : ImS w a m) :
    Calls Tryz.prog 85 #[imV a m] w fun e w' => e = .returned (.string (sealS 1 (supL m))) ∧ Below w.heap.size w w' := by
  have HA := hide (Joins.below_alloc1 w (.cells #[.slice a.ro m.refs.length a.rc, .slice a.tq m.table.length a.tc, .slice a.so m.snaps.length a.sc, .slice a.dq m.data.length a.dc] 68))
  have HV := hide (VarM.new w 68 (.slice a.ro m.refs.length a.rc) (.slice a.tq m.table.length a.tc) (.slice a.so m.snaps.length a.sc) (.slice a.dq m.data.length a.dc))
  have HC := hide (hc.s.below (unhide HA))
  have HNS : Hid (∀ k (h : k < m.snaps.length), m.snaps[k].name.size ≤ 6) := hide (fun k h => (snm_parts (hR.snaps _ (List.getElem_mem h)).1).2.2)
  have HSU : Hid (∀ j (h : j < (supL m).length), 0 ≤ (supL m)[j] ∧ (supL m)[j] ≤ 2147483647) := hide (fun j h => by
    have := List.all_eq_true.1 (allB_snm hR) _ (List.getElem_mem h)
    simpa [numB, inB] using this)
  have hs3 := hR.few
  have HSL : Hid ((supL m).length = m.snaps.length + 1) := hide (by simp [supL])
  clear hc hR
  obtain ⟨j0, hj, hy0, hy1, hy2⟩ := info_parts infoM
  go_enter Tryz.func85, Tryz.ntmps85
  go_upto_region 1 with fail
  revert HA HV HC
  generalize (w.alloc _) = W0
  intro HA HV HC
  obtain ⟨c0, c1, c2, c3⟩ := (unhide HV).cells
  have H0 : Hid (OwnR (W0.alloc (.cells #[.int .i64 (m.snaps.length : Int)] 3)) W0.heap.size 3 1 (.slice (some ⟨W0.heap.size, 0, none⟩) 1 1) 1 (intV ((supL m).take 1)) ∧ Below W0.heap.size W0 (W0.alloc (.cells #[.int .i64 (m.snaps.length : Int)] 3))) := hide
    ⟨.inr ⟨by omega, by have := World.ownsRow_lit (base := W0.heap.size) (e := 3) (size := 1) W0 #[.int .i64 (m.snaps.length : Int)] 1 (Nat.le_refl _) (by unfold maxLen; omega) rfl; simpa [supL, intV] using this⟩, Joins.below_alloc1 _ _⟩
  go_wp2
  clear c0 c1 c2 c3
  go_loopw [3, 4] (fun o i wr => ∃ (k : Nat) (qo : Option Addr) (qa : Nat), k ≤ m.snaps.length ∧ i = .int .i64 k ∧ o = .slice qo (k + 1) qa ∧ Hid (OwnR wr W0.heap.size 3 1 (.slice qo (k + 1) qa) (k + 1) (intV ((supL m).take (k + 1))) ∧ Below W0.heap.size W0 wr)) (fun _ i _ => m.snaps.length - (intOf i).toNat)
  case atStart => exact ⟨0, _, _, Nat.zero_le _, rfl, rfl, H0⟩
  case round =>
    clear H0
    obtain ⟨k, qo, qa, hk, rfl, rfl, HO⟩ := hrel
    obtain ⟨c0, c1, c2, c3⟩ := ((unhide HV).below (unhide HO).2).cells
    by_cases hlt : k < m.snaps.length
    · obtain ⟨b, off, tq, tc, eb, hn0, _, _, _, _⟩ := ((unhide HC).below (unhide HO).2) k hlt
      rw [eb] at c2
      clear eb
      have hlti : (k : Int) < (m.snaps.length : Int) := by omega
      have HST : Hid (intV ((supL m).take (k + 1 + 1)) = intV ((supL m).take (k + 1)) ++ [.int .i64 (nmN m.snaps[k].name)]) := hide (by rw [supL_take hlt]; simp [intV])
      go_wp2_with fail
      refine (l11Name_any m.snaps[k].name _ (by have := unhide HNS k hlt; omega)).mono ?_
      rintro e w' ⟨rfl, hw⟩
      replace hw := hw.symm
      subst hw
      generalize nmN m.snaps[k].name = NN at *
      have HOA := hide ((unhide HO).1.below (Joins.below_alloc1 _ (.cells #[.int .i64 NN] 3)))
      have HBA := hide (fr (unhide HO).2 (Joins.below_alloc1 _ (.cells #[.int .i64 NN] 3)))
      have HSZ := hide (unhide HO).2.size
      go_wp2_with (at_builtin; refine wpList_append_one rfl _ _ 30 rfl W0.heap.size 3 j0 (.int .i64 0) 1 8 Tryz.underlying30 hj hy0 hy1 hy2 rfl (by omega) qo (k + 1) qa (intV ((supL m).take (k + 1))) rfl (unhide HOA) (by have := unhide HSZ; simp; omega) ⟨wr.heap.size, 0, none⟩ _ [.int .i64 NN] rfl rfl (byte_news wr _ _) (int_one _) (by unfold maxLen; omega) (by omega) ?_; intro g2 cap2 wA hoA hkA; have HSF := hide (And.intro hoA (keep_below (unhide HBA) (unhide HOA) (Nat.le_refl _) hkA)); clear hoA hkA)
      go_roundw
      case rel => exact ⟨k + 1, some ⟨g2, 0, none⟩, cap2, by omega, by go_num, rfl, hide ⟨.inr ⟨by omega, by rw [unhide HST]; exact (unhide HSF).1⟩, (unhide HSF).2⟩⟩
      case measure => simp [intOf]; omega
    · obtain rfl : k = m.snaps.length := by omega
      have HIS : Hid (Is wr qo (supL m)) := hide (by
        have h := (unhide HO).1
        rw [List.take_of_length_le (by rw [unhide HSL]; exact Nat.le_refl _), ← unhide HSL] at h
        exact ownRN h)
      have HCALL : Hid (Calls Tryz.prog 88 #[.int .i64 1, .slice qo (m.snaps.length + 1) qa] wr fun e w' => e = .returned (.string (sealS 1 (supL m))) ∧ Below wr.heap.size wr w') := hide (by
        rw [← unhide HSL]
        exact l02Seal_any 1 qo qa (supL m) wr (by omega) (by rw [unhide HSL]; omega) (unhide HSU) (unhide HIS))
      go_wp2_with fail
      refine (unhide HCALL).mono ?_
      rintro e w2 ⟨rfl, hb⟩
      have HB2 := hide (fr (unhide HA) (fr (unhide HO).2 hb))
      clear hb c0 c1 c2 c3
      go_wp2
      go_ret
      exact ⟨rfl, unhide HB2⟩

theorem tab_snoc {m : Img} {k : Nat} (hk : k < m.snaps.length) : tabU 0 (m.snaps.take (k + 1)) = tabU 0 (m.snaps.take k) ++ [⟨12 + (k : Int), encTb m.snaps[k].table⟩] := by
  rw [List.take_succ_eq_append_getElem hk, tabU_snoc, List.length_take, Nat.zero_add, Nat.min_eq_left (by omega)]
set_option maxHeartbeats 6400000 in
theorem l11All_any (a : Im4) (m : Img) (w : World) (hR : ImR m) (hc : ImS w a m) :
    Calls Tryz.prog 61 #[imV a m] w fun e w' => ∃ qo qa, e = .returned (.slice qo (allU m).length qa) ∧ UpS w w' qo (allU m).length qa (allU m) := by
  have HA := hide (Joins.below_alloc1 w (.cells #[.slice a.ro m.refs.length a.rc, .slice a.tq m.table.length a.tc, .slice a.so m.snaps.length a.sc, .slice a.dq m.data.length a.dc] 68))
  have HV := hide (VarM.new w 68 (.slice a.ro m.refs.length a.rc) (.slice a.tq m.table.length a.tc) (.slice a.so m.snaps.length a.sc) (.slice a.dq m.data.length a.dc))
  have HC := hide (hc.below (unhide HA))
  have HR := hide hR
  have hs3 := hR.few
  have HRL := hide hR.rl
  have HDL := hide hR.len
  clear hc hR
  obtain ⟨j0, hj, hy0, hy1, hy2⟩ := info_parts infoUs
  go_enter Tryz.func61, Tryz.ntmps61
  go_upto_region 1 with fail
  revert HA HV HC
  generalize (w.alloc _) = W0
  intro HA HV HC
  have HBD : Hid (Below W0.heap.size W0 W0.drew) := hide (Below.refl _ _).drew
  have hS0 : VarM W0.drew w.heap.size 68 (.slice a.ro m.refs.length a.rc) (.slice a.tq m.table.length a.tc) (.slice a.so m.snaps.length a.sc) (.slice a.dq m.data.length a.dc) := (unhide HV).below (unhide HBD)
  refine wp_region_ord (fun w' => VarM w' w.heap.size 68 (.slice a.ro m.refs.length a.rc) (.slice a.tq m.table.length a.tc) (.slice a.so m.snaps.length a.sc) (.slice a.dq m.data.length a.dc)) [0, 1, 2, 3, 4, 5, 6, 7, 8, 9, 10, 11, 12] [(0, 0), (3, 0), (4, 0), (7, 0), (8, 0), (1, 2), (2, 0), (5, 2), (6, 0), (9, 2), (10, 0), (11, 2), (12, 0)] (by kernel_rfl) (by kernel_rfl) rfl (by kernel_rfl) ?_
  refine ord_read (.agg #[.slice a.ro m.refs.length a.rc, .slice a.tq m.table.length a.tc, .slice a.so m.snaps.length a.sc, .slice a.dq m.data.length a.dc]) rfl rfl hS0 (fun W hW => by obtain ⟨k0, k1, k2, k3⟩ := hW.cells; go_simp) ?_
  refine ord_read (.pointer (some ⟨w.heap.size, 0, none⟩)) rfl rfl hS0 (fun W hW => by go_simp) ?_
  refine ord_read (.slice a.ro m.refs.length a.rc) rfl rfl hS0 (fun W hW => by obtain ⟨k0, k1, k2, k3⟩ := hW.cells; go_simp) ?_
  refine ord_read (.pointer (some ⟨w.heap.size, 1, none⟩)) rfl rfl hS0 (fun W hW => by go_simp) ?_
  refine ord_read (.slice a.tq m.table.length a.tc) rfl rfl hS0 (fun W hW => by obtain ⟨k0, k1, k2, k3⟩ := hW.cells; go_simp) ?_
  clear hS0
  refine ord_held rfl rfl ?_
  intro K hK
  unfold Oper.wp
  go_simp
  refine (l11Super_any a m _ (unhide HR) ((unhide HC).below (unhide HBD))).mono ?_
  rintro e w1 ⟨rfl, hb⟩
  have HB1 := hide (fr (unhide HBD) hb)
  clear hb
  refine hK _ _ ((unhide HV).below (unhide HB1)) ?_
  clear hK K
  refine ord_read (.agg #[.int .i64 9, .string (sealS 1 (supL m))]) rfl rfl ((unhide HV).below (unhide HB1)) (fun W hW => by go_simp) ?_
  refine ord_held rfl rfl ?_
  intro K hK
  unfold Oper.wp
  go_simp
  refine (l08Encode_any a.ro a.rc m.refs _ (unhide HR).refs ((unhide HC).r.below (unhide HB1))).mono ?_
  rintro e w2 ⟨rfl, hb⟩
  have HB2 := hide (fr (unhide HB1) hb)
  clear hb
  refine hK _ _ ((unhide HV).below (unhide HB2)) ?_
  clear hK K
  refine ord_read (.agg #[.int .i64 10, .string (encT m.refs)]) rfl rfl ((unhide HV).below (unhide HB2)) (fun W hW => by go_simp) ?_
  refine ord_held rfl rfl ?_
  intro K hK
  unfold Oper.wp
  go_simp
  refine (l09Encode_any a.tq a.tc m.table _ (unhide HR).table ((unhide HC).t.below (unhide HB2))).mono ?_
  rintro e w3 ⟨rfl, hb⟩
  have HB3 := hide (fr (unhide HB2) hb)
  clear hb
  refine hK _ _ ((unhide HV).below (unhide HB3)) ?_
  clear hK K
  refine ord_read (.agg #[.int .i64 11, .string (encTb m.table)]) rfl rfl ((unhide HV).below (unhide HB3)) (fun W hW => by go_simp) ?_
  have HB4 := hide (fr (unhide HB3) (Joins.below_alloc1 w3 (.cells #[.int .i64 9, .string (sealS 1 (supL m)), .int .i64 10, .string (encT m.refs), .int .i64 11, .string (encTb m.table)] 77)))
  have HU4 : Hid (UpS W0 (w3.alloc (.cells #[.int .i64 9, .string (sealS 1 (supL m)), .int .i64 10, .string (encT m.refs), .int .i64 11, .string (encTb m.table)] 77)) (some ⟨w3.heap.size, 0, none⟩) 3 3 (headU m)) := hide
    ⟨.inr ⟨by omega, World.ownsRow_lit (base := W0.heap.size) (e := 77) (size := 2) w3 #[.int .i64 9, .string (sealS 1 (supL m)), .int .i64 10, .string (encT m.refs), .int .i64 11, .string (encTb m.table)] 3 (unhide HB3).size (by unfold maxLen; omega) rfl⟩, unhide HB4⟩
  have HV4 := hide ((unhide HV).below (unhide HB4))
  refine ord_held rfl rfl ?_
  intro K hK
  unfold Oper.wp
  go_simp
  refine hK _ _ (unhide HV4) ?_
  clear hK K
  refine ord_read (.slice (some ⟨w3.heap.size, 0, none⟩) 3 3) rfl rfl (unhide HV4) (fun W hW => by go_simp) ?_
  refine ord_done ?_
  clear HB4 HV4
  revert HU4
  generalize w3.heap.size = g3
  generalize (w3.alloc _) = W4
  intro HU4
  clear HB1 HB2 HB3 HBD
  have HTS : Hid (∀ k (h : k < m.snaps.length), tbB m.snaps[k].table = true) := hide (fun k h => ((unhide HR).snaps _ (List.getElem_mem h)).2)
  go_wp2
  go_loopw [3, 4] (fun o i wr => ∃ (k : Nat) (qo : Option Addr) (qa : Nat), k ≤ m.snaps.length ∧ i = .int .i64 k ∧ o = .slice qo (3 + k) qa ∧ Hid (UpS W0 wr qo (3 + k) qa (headU m ++ tabU 0 (m.snaps.take k)))) (fun _ i _ => m.snaps.length - (intOf i).toNat)
  case atStart => exact ⟨0, _, _, Nat.zero_le _, rfl, rfl, by simpa [tabU] using HU4⟩
  case round =>
    clear HU4
    obtain ⟨k, qo, qa, hk, rfl, rfl, HU⟩ := hrel
    obtain ⟨c0, c1, c2, c3⟩ := ((unhide HV).below (unhide HU).k).cells
    by_cases hlt : k < m.snaps.length
    · obtain ⟨b, off, tq, tc, eb, _, ht0, hIs, _, _⟩ := ((unhide HC).s.below (unhide HU).k) k hlt
      rw [eb] at c2
      have HIS := hide hIs
      clear eb hIs
      have hlti : (k : Int) < (m.snaps.length : Int) := by omega
      have hw12 : IntKind.i64.wrap (12 + (k : Int)) = 12 + (k : Int) := by rw [IntKind.wrap_i64]; omega
      have HSN : Hid (headU m ++ tabU 0 (m.snaps.take (k + 1)) = headU m ++ tabU 0 (m.snaps.take k) ++ [⟨12 + (k : Int), encTb m.snaps[k].table⟩]) := hide (by rw [tab_snoc hlt, List.append_assoc])
      go_wp2_with fail
      refine (l09Encode_any tq tc m.snaps[k].table _ (unhide HTS k hlt) (unhide HIS)).mono ?_
      rintro e w5 ⟨rfl, hb⟩
      have HU5 := hide ((unhide HU).next hb)
      clear hb c0 c1 c2 c3 ht0 HIS
      generalize encTb m.snaps[k].table = TX at *
      have HUA := hide ((unhide HU5).next (Joins.below_alloc1 w5 (.cells #[.int .i64 (12 + (k : Int)), .string TX] 77)))
      have HSZ := hide (unhide HUA).sz
      go_wp2_with (at_builtin; refine wpList_append_one rfl _ _ 71 rfl W0.heap.size 77 j0 (.agg #[.int .i64 0, .string ⟨#[]⟩]) 2 24 Tryz.underlying71 hj hy0 hy1 hy2 rfl (by omega) qo (3 + k) qa (upsV (headU m ++ tabU 0 (m.snaps.take k))) rfl (unhide HUA).o (unhide HSZ) ⟨w5.heap.size, 0, none⟩ _ (upV ⟨12 + (k : Int), TX⟩) rfl rfl (news2_at w5 _ ⟨12 + (k : Int), TX⟩ _ rfl) (upV_one _) (by unfold maxLen; omega) (by omega) ?_; intro g2 cap2 wA hoA hkA; have HU6 := hide (UpS.one (unhide HUA) hoA hkA); clear hoA hkA)
      go_roundw
      case rel => exact ⟨k + 1, some ⟨g2, 0, none⟩, cap2, by omega, by go_num, rfl, by rw [unhide HSN]; exact HU6⟩
      case measure => simp [intOf]; omega
    · obtain rfl : k = m.snaps.length := by omega
      rw [List.take_length] at HU
      have HNN : Hid (3 + m.snaps.length = (headU m ++ tabU 0 m.snaps ++ dataU m 0).length ∧ headU m ++ tabU 0 m.snaps = headU m ++ tabU 0 m.snaps ++ dataU m 0) := hide (by
        have e : dataU m 0 = [] := rfl
        rw [e, List.append_nil, List.length_append, tabU_len]; exact ⟨rfl, rfl⟩)
      obtain ⟨N0, hN0⟩ : ∃ N0, N0 = 3 + m.snaps.length := ⟨_, rfl⟩
      have hN6 : N0 ≤ 6 := by omega
      rw [← hN0] at HU HNN ⊢
      rw [(unhide HNN).2] at HU
      clear hN0 hlt
      go_wp2
      clear c0 c1 c2 c3
      go_loopw [3, 5] (fun o i wr => ∃ (k N : Nat) (qo : Option Addr) (qa : Nat), k ≤ 24 ∧ N ≤ 6 + k ∧ i = .int .i64 k ∧ o = .slice qo N qa ∧ Hid (UpS W0 wr qo N qa (headU m ++ tabU 0 m.snaps ++ dataU m k))) (fun _ i _ => 24 - (intOf i).toNat)
      case atStart => exact ⟨0, N0, qo, qa, by omega, by omega, rfl, rfl, HU⟩
      case round =>
        clear HU HNN hN6
        obtain ⟨k, N, qo, qa, hk, hN, rfl, rfl, HU⟩ := hrel
        obtain ⟨c0, c1, c2, c3⟩ := ((unhide HV).below (unhide HU).k).cells
        by_cases hlt : k < 24
        · have hlti : (k : Int) < 24 := by omega
          have hkr : k < m.refs.length := by rw [unhide HRL]; exact hlt
          have hkd : k < m.data.length := by rw [unhide HDL]; exact hlt
          have hkri : (k : Int) < (m.refs.length : Int) := by omega
          have hkdi : (k : Int) < (m.data.length : Int) := by omega
          obtain ⟨br, or, er, hcr⟩ := ((unhide HC).r.below (unhide HU).k) k hkr
          rw [er] at c0
          by_cases hp : 0 < m.refs[k]
          · obtain ⟨bd, od, ed, hcd⟩ := ((unhide HC).d.below (unhide HU).k) k hkd
            rw [ed] at c3
            have HDS : Hid (headU m ++ tabU 0 m.snaps ++ dataU m (k + 1) = headU m ++ tabU 0 m.snaps ++ dataU m k ++ [⟨15 + (k : Int), sealS 4 [m.data[k]]⟩]) := hide (by
              rw [dataU_succ, ← List.append_assoc]
              congr 1
              unfold datU
              rw [if_pos (by simpa [List.getD, hkr] using hp)]
              simp [List.getD, hkd])
            have HNB : Hid (∀ j (h : j < [m.data[k]].length), 0 ≤ [m.data[k]][j] ∧ [m.data[k]][j] ≤ 2147483647) := hide (fun j h => by
              have hj : j = 0 := by simpa using h
              subst hj
              have := (unhide HR).nums _ (List.getElem_mem hkd)
              simpa [numB, inB] using this)
            have hw15 : IntKind.i64.wrap (15 + (k : Int)) = 15 + (k : Int) := by rw [IntKind.wrap_i64]; omega
            clear er ed
            generalize m.refs[k] = RV at *
            generalize m.data[k] = DV at *
            have HUB := hide ((unhide HU).next (Joins.below_alloc1 wr (.cells #[.int .i64 DV] 3)))
            go_wp2_with fail
            refine (l02Seal_any 4 (some ⟨wr.heap.size, 0, none⟩) 1 [DV] _ (by omega) (by simp) (unhide HNB) (is1 wr _ _ DV rfl)).mono ?_
            rintro e w5 ⟨rfl, hb⟩
            have HU5 := hide ((unhide HUB).next hb)
            clear hb c0 c1 c2 c3 hcr hcd HUB
            generalize sealS 4 [DV] = TX at *
            have HUA := hide ((unhide HU5).next (Joins.below_alloc1 w5 (.cells #[.int .i64 (15 + (k : Int)), .string TX] 77)))
            have HSZ := hide (unhide HUA).sz
            go_wp2_with (at_builtin; refine wpList_append_one rfl _ _ 71 rfl W0.heap.size 77 j0 (.agg #[.int .i64 0, .string ⟨#[]⟩]) 2 24 Tryz.underlying71 hj hy0 hy1 hy2 rfl (by omega) qo N qa (upsV (headU m ++ tabU 0 m.snaps ++ dataU m k)) rfl (unhide HUA).o (unhide HSZ) ⟨w5.heap.size, 0, none⟩ _ (upV ⟨15 + (k : Int), TX⟩) rfl rfl (news2_at w5 _ ⟨15 + (k : Int), TX⟩ _ rfl) (upV_one _) (by unfold maxLen; omega) (by omega) ?_; intro g2 cap2 wA hoA hkA; have HU6 := hide (UpS.one (unhide HUA) hoA hkA); clear hoA hkA)
            go_roundw
            case rel => exact ⟨k + 1, N + 1, some ⟨g2, 0, none⟩, cap2, by omega, by omega, by go_num, rfl, by rw [unhide HDS]; exact HU6⟩
            case measure => simp [intOf]; omega
          · have HDS : Hid (headU m ++ tabU 0 m.snaps ++ dataU m (k + 1) = headU m ++ tabU 0 m.snaps ++ dataU m k) := hide (by
              rw [dataU_succ]
              unfold datU
              rw [if_neg (by simpa [List.getD, hkr] using hp), List.append_nil])
            clear er
            generalize m.refs[k] = RV at *
            go_wp2
            go_roundw
            case rel => exact ⟨k + 1, N, qo, qa, by omega, by omega, by go_num, rfl, by rw [unhide HDS]; exact HU⟩
            case measure => simp [intOf]; omega
        · obtain rfl : k = 24 := by omega
          have hNl := (unhide HU).len
          have HF : Hid (UpS w wr qo (allU m).length qa (allU m)) := hide (by
            have h := unhide HU
            rw [hNl] at h
            exact ⟨h.o.base (unhide HA).size, fr (unhide HA) h.k⟩)
          have HL2 : Hid (N = (allU m).length) := hide hNl
          clear c0 c1 c2 c3 hNl HU
          go_wp2
          go_ret
          rw [unhide HL2]
          exact ⟨qo, qa, rfl, unhide HF⟩

end Go.Proofs.YtjjkppknojecjaaGreat

namespace Go.Proofs.YtjjkppknojecjaaGreat
open Go.RowKit
set_option linter.unusedVariables false
set_option maxRecDepth 100000

theorem tabU_sz : ∀ (ss : List Snp) (i : Nat), (∀ s ∈ ss, s.table.length ≤ 12) → ∀ u ∈ tabU i ss, u.data.size ≤ 80
  | [], i, _, u, hu => by simp [tabU] at hu
  | s :: ss, i, h, u, hu => by
    simp only [tabU, List.mem_cons] at hu
    rcases hu with rfl | hu
    · have := h s (by simp)
      have e : (encTb s.table).size = 4 + s.table.length * 4 := sealS_size 3 s.table
      simp only
      omega
    · exact tabU_sz ss (i + 1) (fun s hs => h s (by simp [hs])) u hu
theorem allU_sz {m : Img} (h : ImR m) : ∀ u ∈ allU m, u.data.size ≤ 80 := fun u hu => by
  unfold allU at hu
  rw [List.mem_append, List.mem_append] at hu
  rcases hu with (hu | hu) | hu
  · have h1 : (sealS 1 (supL m)).size = 4 + (supL m).length * 4 := sealS_size 1 _
    have h2 : (encT m.refs).size = 20 := sealS_size 2 (ctNs m.refs)
    have h3 : (encTb m.table).size = 4 + m.table.length * 4 := sealS_size 3 m.table
    have h4 : (supL m).length = m.snaps.length + 1 := by simp [supL]
    have h5 := h.few
    have h6 := tbB_len h.table
    simp only [headU, List.mem_cons, List.not_mem_nil, or_false] at hu
    rcases hu with rfl | rfl | rfl <;> simp only <;> omega
  · exact tabU_sz m.snaps 0 (fun s hs => tbB_len (h.snaps s hs).2) u hu
  · unfold dataU at hu
    obtain ⟨c, _, hc⟩ := List.mem_flatMap.1 hu
    unfold datU at hc
    split at hc
    · rw [List.mem_singleton] at hc
      subst hc
      have : (sealS 4 [m.data.getD c 0]).size = 8 := sealS_size 4 _
      simp only
      omega
    · simp at hc
end Go.Proofs.YtjjkppknojecjaaGreat

namespace Go.Proofs.YtjjkppknojecjaaGreat
open Go.RowKit
set_option linter.unusedVariables false
set_option maxRecDepth 100000

def fmW (h : Int) (us : List Up) : List Wr := us.map fun u => ⟨h, u.at_, u.data⟩
theorem fmW_len (h : Int) (us : List Up) : (fmW h us).length = us.length := by simp [fmW]
theorem fmW_succ {h : Int} {us : List Up} {k : Nat} (hk : k < us.length) (xs : List Wr) : xs ++ (fmW h us).take (k + 1) = xs ++ (fmW h us).take k ++ [⟨h, us[k].at_, us[k].data⟩] := by
  rw [List.take_succ_eq_append_getElem (by rw [fmW_len]; exact hk), List.append_assoc]
  simp [fmW]

theorem UpS.setC {W : World} {B : Nat} {qo : Option Addr} {n qa : Nat} {us : List Up} (h : OwnR W B 77 2 (.slice qo n qa) n (upsV us)) {x : Nat} (hx : x < B) (u v : Value) : OwnR ((W.setCell ⟨x, 0, none⟩ u).setCell ⟨x, 1, none⟩ v) B 77 2 (.slice qo n qa) n (upsV us) := (h.setCell (a := ⟨x, 0, none⟩) hx u).setCell (a := ⟨x, 1, none⟩) hx v

set_option maxHeartbeats 1600000 in
theorem l11Format_any (ao bo : Option Addr) (ca cb : Nat) (ss : List ByteArray) (xs : List Wr) (h : Int) (n : Nat) (S : List ByteArray) (Y : List Wr) (w : World) (hn : n ≤ 1000) (hR : ImR (imNew n)) (hd : diskB ss (xs ++ fmW h (allU (imNew n))) = true)
    (hS : putW ss (ofH h (xs ++ fmW h (allU (imNew n)))) = S) (hY : dropF h (xs ++ fmW h (allU (imNew n))) = Y) (h1 : Ss w ao ss) (h2 : Ios w bo xs) :
    Calls Tryz.prog 35 #[.agg #[.slice ao ss.length ca, .slice bo xs.length cb], .int .i64 h, .int .i64 n] w fun e w' => ∃ po pa qo qa, e = .returned (.agg #[.slice po ss.length pa, .slice qo Y.length qa]) ∧ OwnD w' w.heap.size po ss.length pa qo Y.length qa S Y ∧ Below w.heap.size w w' := by
  have HA := hide (Joins.below_alloc2 w (.cells #[.slice ao ss.length ca, .slice bo xs.length cb] 27) (.cells #[.slice none 0 0, .slice none 0 0] 27))
  have HR : Hid (VarD ((w.alloc (.cells #[.slice ao ss.length ca, .slice bo xs.length cb] 27)).alloc (.cells #[.slice none 0 0, .slice none 0 0] 27)) (w.heap.size + 1) (.slice none 0 0) (.slice none 0 0)) := hide (by have := VarD.new (w.alloc (.cells #[.slice ao ss.length ca, .slice bo xs.length cb] 27)) (.slice none 0 0) (.slice none 0 0); simpa using this)
  have H0 : Hid (DkA w ((w.alloc (.cells #[.slice ao ss.length ca, .slice bo xs.length cb] 27)).alloc (.cells #[.slice none 0 0, .slice none 0 0] 27)) w.heap.size ao ca bo cb ss xs) := hide ⟨(VarD.new w _ _).below (Joins.below_alloc1 _ _), h1.below (unhide HA), h2.below (unhide HA), unhide HA⟩
  have HIR := hide hR
  have HZA := hide (right_sz2 hd).2
  have HUZ : Hid (∀ u ∈ allU (imNew n), u.data.size ≤ maxLen) := hide (fun u hu => by have := allU_sz hR u hu; unfold maxLen; omega)
  have HDB := hide hd
  have HS := hide hS
  have HY := hide hY
  have hln : xs.length + (allU (imNew n)).length ≤ 200 := by have := (diskB_len hd).2; rw [List.length_append, fmW_len] at this; omega
  clear hR hd hS hY h1 h2
  go_enter Tryz.func35, Tryz.ntmps35
  go_upto_region 1 with fail
  revert H0
  revert HR
  revert HA
  generalize hW0 : ((w.alloc _).alloc _) = W0
  have hsz0 : w.heap.size + 1 < W0.heap.size := by rw [← hW0]; simp
  clear hW0
  intro HA HR H0
  go_wp2_with fail
  refine (l10New_any n _ hn).mono ?_
  rintro e w1 ⟨a, rfl, ho1, hb1⟩
  have HI1 := hide (ho1.shows (fun s hs => by cases hs))
  have HB1 := hide hb1
  clear ho1 hb1
  go_wp2_with fail
  refine (l11All_any a (imNew n) _ (unhide HIR) (unhide HI1)).mono ?_
  rintro e w2 ⟨uo, ua, rfl, hu⟩
  have HB2 := hide (fr (unhide HB1) hu.k)
  have HU2 := hide (hu.o.base (unhide HB1).size)
  clear hu HI1 HB1 HIR
  revert hln
  revert HY
  revert HS
  revert HDB
  revert HUZ
  revert HZA
  revert HU2
  generalize allU (imNew n) = us
  intro HU2 HZA HUZ HDB HS HY hln
  have HD2 := hide ((unhide H0).next (unhide HB2))
  have HR2 := hide ((unhide HR).below (unhide HB2))
  clear HB2 HA H0 HR
  go_wp2
  go_loopw [8] (fun i wr => ∃ (k : Nat) (XX : List Wr) (qo : Option Addr) (qa : Nat), k ≤ us.length ∧ i = .int .i64 k ∧ Hid (xs ++ (fmW h us).take k = XX) ∧ Hid (DkA w wr w.heap.size ao ca qo qa ss XX) ∧ Hid (VarD wr (w.heap.size + 1) (.slice none 0 0) (.slice none 0 0)) ∧ Hid (OwnR wr W0.heap.size 77 2 (.slice uo us.length ua) us.length (upsV us))) (fun i _ => us.length - (intOf i).toNat)
  case atStart => exact ⟨0, xs, bo, cb, Nat.zero_le _, rfl, hide (by simp), HD2, HR2, HU2⟩
  case round =>
    clear HD2 HR2 HU2
    obtain ⟨k, XX, qo, qa, hk, rfl, HE, HD, HR, HU⟩ := hrel
    by_cases hlt : k < us.length
    · have HN : Hid (xs ++ (fmW h us).take (k + 1) = XX ++ [⟨h, us[k].at_, us[k].data⟩]) := hide (by rw [fmW_succ hlt, unhide HE])
      have hXl : XX.length < 200 := by rw [← unhide HE, List.length_append, List.length_take, fmW_len]; omega
      have HZ : Hid (∀ y ∈ XX ++ [(⟨h, us[k].at_, us[k].data⟩ : Wr)], y.data.size ≤ maxLen) := hide (fun y hy => by
        rw [← unhide HN] at hy
        refine unhide HZA y ?_
        rcases List.mem_append.1 hy with h1 | h1
        · exact List.mem_append_left _ h1
        · exact List.mem_append_right _ (List.mem_of_mem_take h1))
      have hki : (k : Int) < (us.length : Int) := by omega
      have HUS := hide (ownUps (unhide HU) (unhide HUZ))
      obtain ⟨b, off, rfl, _, _, _⟩ := unhide HUS k hlt
      go_upto_region 5 with fail
      have hS0 : Below wr.heap.size wr wr.drew := (Below.refl _ _).drew
      have HCL : Hid (∀ W, Below wr.heap.size wr W → W.cell? ⟨w.heap.size, 0, none⟩ = some (.slice ao ss.length ca) ∧ W.cell? ⟨w.heap.size, 1, none⟩ = some (.slice qo XX.length qa) ∧ W.cell? ⟨b, off + k * 2, none⟩ = some (.int .i64 us[k].at_) ∧ W.cell? ⟨b, off + k * 2 + 1, none⟩ = some (.string us[k].data)) := hide (fun W hW => by
        obtain ⟨d0, d1⟩ := ((unhide HD).next hW).v.cells
        obtain ⟨b', off', e, c0, c1, _⟩ := (unhide HUS).below hW k hlt
        cases e
        exact ⟨d0, d1, c0, c1⟩)
      refine wp_region_ord (fun w' => Below wr.heap.size wr w') [0, 1, 2, 3, 4, 5, 6, 7, 8, 9, 10, 11, 12] [(0, 0), (1, 0), (2, 0), (3, 0), (4, 0), (5, 0), (6, 0), (7, 0), (8, 0), (9, 0), (10, 0), (11, 0), (12, 0), (13, 3), (14, 3)] (by kernel_rfl) (by kernel_rfl) rfl (by kernel_rfl) ?_
      refine ord_read (.agg #[.slice ao ss.length ca, .slice qo XX.length qa]) rfl rfl hS0 (fun W hW => by obtain ⟨k0, k1, k2, k3⟩ := unhide HCL W hW; go_simp) ?_
      refine ord_read (.int .i64 h) rfl rfl hS0 (fun W hW => by go_simp) ?_
      refine ord_read (.slice (some ⟨b, off, none⟩) us.length ua) rfl rfl hS0 (fun W hW => by go_simp) ?_
      refine ord_read (.int .i64 k) rfl rfl hS0 (fun W hW => by go_simp) ?_
      refine ord_read (.pointer (some ⟨b, off + k * 2, none⟩)) rfl rfl hS0 (fun W hW => by go_simp) ?_
      refine ord_read (.pointer (some ⟨b, off + k * 2, none⟩)) rfl rfl hS0 (fun W hW => by go_simp) ?_
      refine ord_read (.int .i64 us[k].at_) rfl rfl hS0 (fun W hW => by obtain ⟨k0, k1, k2, k3⟩ := unhide HCL W hW; go_simp) ?_
      refine ord_read (.slice (some ⟨b, off, none⟩) us.length ua) rfl rfl hS0 (fun W hW => by go_simp) ?_
      refine ord_read (.int .i64 k) rfl rfl hS0 (fun W hW => by go_simp) ?_
      refine ord_read (.pointer (some ⟨b, off + k * 2, none⟩)) rfl rfl hS0 (fun W hW => by go_simp) ?_
      refine ord_read (.pointer (some ⟨b, off + k * 2 + 1, none⟩)) rfl rfl hS0 (fun W hW => by go_simp) ?_
      refine ord_read (.string us[k].data) rfl rfl hS0 (fun W hW => by obtain ⟨k0, k1, k2, k3⟩ := unhide HCL W hW; go_simp) ?_
      refine ord_read (.agg #[.int .i64 h, .int .i64 us[k].at_, .string us[k].data]) rfl rfl hS0 (fun W hW => by go_simp) ?_
      refine ord_alone rfl rfl ?_
      intro K hK
      unfold Oper.wp
      go_simp
      refine (l01Write_len ao qo ss.length XX.length ca qa XX ⟨h, us[k].at_, us[k].data⟩ _ rfl (by omega) ((unhide HD).i.below hS0) (unhide HZ)).mono ?_
      rintro e w3 ⟨g3, cap3, rfl, hi3, hb3⟩
      have HB3 := hide (fr hS0 hb3)
      have HI3 := hide hi3
      clear hi3 hb3
      refine hK _ _ ?_
      clear hK K
      have HD3 := hide ((unhide HD).next (unhide HB3))
      have HR3 := hide ((unhide HR).below (unhide HB3))
      have HU3 := hide ((unhide HU).below (unhide HB3))
      obtain ⟨e0, e1⟩ := (unhide HD3).v.cells
      have f0 := (unhide HD3).v.free 0
      have f1 := (unhide HD3).v.free 1
      refine ord_alone rfl rfl ?_
      intro K hK
      unfold Oper.wp
      go_simp
      refine hK _ _ ?_
      clear hK K
      refine ord_done ?_
      have HP : Hid (DkA w ((w3.setCell ⟨w.heap.size, 0, none⟩ (.slice ao ss.length ca)).setCell ⟨w.heap.size, 1, none⟩ (.slice (some ⟨g3, 0, none⟩) (XX.length + 1) cap3)) w.heap.size ao ca (some ⟨g3, 0, none⟩) cap3 ss (XX ++ [⟨h, us[k].at_, us[k].data⟩])) := hide ((unhide HD3).put (Nat.le_refl _) rfl (by simp) (unhide HD3).s (unhide HI3))
      have HRP := hide (((unhide HR3).apart (y := w.heap.size) (by omega) 0 (.slice ao ss.length ca)).apart (y := w.heap.size) (by omega) 1 (.slice (some ⟨g3, 0, none⟩) (XX.length + 1) cap3))
      have HUP := hide (UpS.setC (unhide HU3) (x := w.heap.size) (by omega) (.slice ao ss.length ca) (.slice (some ⟨g3, 0, none⟩) (XX.length + 1) cap3))
      clear e0 e1 f0 f1 HD3 HR3 HU3 HB3 HI3 hS0 HCL HUS HD HR HU HZ HE
      go_wp2
      go_roundw
      case rel => exact ⟨k + 1, _, _, _, by omega, by go_num, HN, HP, HRP, HUP⟩
      case measure => simp [intOf]; omega
    · obtain rfl : k = us.length := by omega
      have hXX : xs ++ fmW h us = XX := by have := unhide HE; rwa [List.take_of_length_le (by rw [fmW_len]; exact Nat.le_refl _)] at this
      clear HE
      rw [hXX] at HS HY HDB
      clear hXX HZA
      obtain ⟨d0, d1⟩ := (unhide HD).v.cells
      go_wp2_with fail
      refine (l01Flush_put ao qo ca qa ss XX h ss.length XX.length S Y _ rfl rfl (unhide HS) (unhide HY) (unhide HDB) (unhide HD).s (unhide HD).i).mono ?_
      rintro e w3 ⟨po3, pa3, qo3, qa3, rfl, ho, hb⟩
      have HR3 := hide ((unhide HR).below hb)
      obtain ⟨r0, r1⟩ := (unhide HR3).cells
      have rf0 := (unhide HR3).free 0
      have rf1 := (unhide HR3).free 1
      have HO := hide (fun u v => md_end (unhide HR3) (fr (unhide HD).k hb) (Nat.le_succ _) (ho.base (unhide HD).k.size) u v)
      clear ho hb d0 d1
      go_wp2
      refine bodyPost_ret (v := .agg #[.slice po3 ss.length pa3, .slice qo3 Y.length qa3]) (by simp [results, Tryz.results35, go_sem, r0, r1]) rfl ?_
      exact ⟨po3, pa3, qo3, qa3, rfl, unhide HO _ _⟩

end Go.Proofs.YtjjkppknojecjaaGreat

namespace Go.Proofs.YtjjkppknojecjaaGreat
open Go.RowKit
set_option linter.unusedVariables false
set_option maxRecDepth 100000

def fuW (h : Int) (n : Nat) : List Wr := fmW h (allU (imNew n))
def foC (ss : List ByteArray) (xs : List Wr) (h n : Int) : Int := if hostC ss xs h = 0 then (if inB n 0 12 = true then (if 200 < xs.length + 3 then 7 else 0) else 4) else hostC ss xs h
def foS (ss : List ByteArray) (xs : List Wr) (h n : Int) : List ByteArray := if hostC ss xs h = 0 then (if inB n 0 12 = true then (if 200 < xs.length + 3 then ss else putW ss (ofH h (xs ++ fuW h n.toNat))) else []) else []
def foX (ss : List ByteArray) (xs : List Wr) (h n : Int) : List Wr := if hostC ss xs h = 0 then (if inB n 0 12 = true then (if 200 < xs.length + 3 then xs else dropF h (xs ++ fuW h n.toNat)) else []) else []
theorem fo_bad {ss : List ByteArray} {xs : List Wr} {h n : Int} (hc : ¬ hostC ss xs h = 0) : foS ss xs h n = [] ∧ foX ss xs h n = [] ∧ foC ss xs h n = hostC ss xs h := by simp [foS, foX, foC, hc]
theorem fo_range {ss : List ByteArray} {xs : List Wr} {h n : Int} (hc : hostC ss xs h = 0) (hp : inB n 0 12 = false) : foS ss xs h n = [] ∧ foX ss xs h n = [] ∧ foC ss xs h n = 4 := by simp [foS, foX, foC, hc, hp]
theorem fo_full {ss : List ByteArray} {xs : List Wr} {h n : Int} (hc : hostC ss xs h = 0) (hp : inB n 0 12 = true) (hf : 200 < xs.length + 3) : foS ss xs h n = ss ∧ foX ss xs h n = xs ∧ foC ss xs h n = 7 := by simp [foS, foX, foC, hc, hp, hf]
theorem fo_ok {ss : List ByteArray} {xs : List Wr} {h : Int} {n : Nat} (hc : hostC ss xs h = 0) (hp : inB n 0 12 = true) (hf : ¬ 200 < xs.length + 3) : foS ss xs h n = putW ss (ofH h (xs ++ fuW h n)) ∧ foX ss xs h n = dropF h (xs ++ fuW h n) ∧ foC ss xs h n = 0 := by simp [foS, foX, foC, hc, hp, hf]
theorem allU_new (n : Nat) : allU (imNew n) = headU (imNew n) := by
  have e : dataU (imNew n) 24 = [] := by rfl
  unfold allU
  rw [e]
  simp [imNew, tabU]
theorem fuW_len (h : Int) (n : Nat) : (fuW h n).length = 3 := by rw [fuW, fmW_len, allU_new]; rfl
theorem fuW_right {ss : List ByteArray} {xs : List Wr} {h : Int} {n : Nat} (hd : diskB ss xs = true) (hh : 0 ≤ h ∧ h ≤ 3) (hn : n ≤ 12) (hl : xs.length + 3 ≤ 200) : diskB ss (xs ++ fuW h n) = true := by
  obtain ⟨⟨a1, a2⟩, a3, a4⟩ := diskB_parts.1 hd
  refine diskB_parts.2 ⟨⟨a1, a2⟩, by rw [List.length_append, fuW_len]; exact hl, fun y hy => ?_⟩
  rcases List.mem_append.1 hy with h1 | h1
  · exact a4 y h1
  · unfold fuW fmW at h1
    obtain ⟨u, hu, rfl⟩ := List.mem_map.1 h1
    refine ioB_parts.2 ⟨hh, ?_, allU_sz (ImR.new hn) u hu⟩
    rw [allU_new] at hu
    simp only [headU, List.mem_cons, List.not_mem_nil, or_false] at hu
    rcases hu with rfl | rfl | rfl <;> simp

end Go.Proofs.YtjjkppknojecjaaGreat

namespace Go.Proofs.YtjjkppknojecjaaGreat
open Go.RowKit
set_option linter.unusedVariables false
set_option maxRecDepth 100000

def noSs : List ByteArray := List.replicate 64 ⟨#[]⟩
theorem noSs_cells : (madeCells #[Value.string ⟨#[]⟩] 64).toList = strV noSs := by rw [toList_madeCells_one]; simp [strV, noSs]
theorem noSs_len : noSs.length = 64 := by simp [noSs]
theorem info9' : (Tryz.prog.info? 9).map (fun i => (i.zero, i.size, i.bytes)) = some (some (.string ⟨#[]⟩), 1, 16) := by kernel_rfl

theorem noSs_own {w : World} {B g : Nat} (h : w.ownsRow B 9 1 (.slice (some ⟨g, 0, none⟩) 64 64) 64 (madeCells #[Value.string ⟨#[]⟩] 64).toList) : w.ownsRow B 9 1 (.slice (some ⟨g, 0, none⟩) 64 64) 64 (strV noSs) := by
  rw [noSs_cells] at h; exact h

set_option maxHeartbeats 1600000 in
theorem l01New_any (w : World) : Calls Tryz.prog 36 #[] w fun e w' => ∃ g k, e = .returned (.agg #[.slice (some ⟨g, 0, none⟩) 64 64, .slice (some ⟨k, 0, none⟩) 0 0]) ∧ OwnD w' w.heap.size (some ⟨g, 0, none⟩) 64 64 (some ⟨k, 0, none⟩) 0 0 noSs [] ∧ Below w.heap.size w w' := by
  obtain ⟨i0, hi, hz0, hz1, hz2⟩ := info_parts info9'
  go_enter Tryz.func36, Tryz.ntmps36
  go_wp2_with (first | (at_make; refine wpList_make_full _ rfl _ _ 24 rfl (w.heap.size + 1) 9 i0 _ 1 Tryz.underlying24 hi hz0 hz1 _ _ _ _ 64 rfl rfl rfl rfl ?c1 ?c2 ?c3 ?_))
  case c1 => rw [hz2]; omega
  case c2 => unfold maxLen; omega
  case c3 => simp
  intro w1 hown hgrow
  have hB : Below (w.heap.size + 1) (w.alloc (.cells #[.slice none 0 0, .slice none 0 0] 27)) w1 := (Below.refl _ _).grown hgrow (by simp) (fun _ h => by cases h)
  have hsz : w.heap.size < w1.heap.size := by have := hB.size; simp at this; omega
  have hc0 : w1.cell? ⟨w.heap.size, 0, none⟩ = some (.slice none 0 0) := (hB.cell (by simp)).trans (by simp [go_sem])
  have hc1 : w1.cell? ⟨w.heap.size, 1, none⟩ = some (.slice none 0 0) := (hB.cell (by simp)).trans (by simp [go_sem])
  have hf0 : w1.frozen? ⟨w.heap.size, 0, none⟩ = false := (hB.frozen (by simp)).trans (by simp [go_sem])
  have hf1 : w1.frozen? ⟨w.heap.size, 1, none⟩ = false := (hB.frozen (by simp)).trans (by simp [go_sem])
  have HO := hide (noSs_own hown)
  have HB := hide ((Joins.below_alloc1 w (.cells #[.slice none 0 0, .slice none 0 0] 27)).trans (hB.mono (by omega)))
  clear hown hgrow hB
  have HO2 := hide (own_below (own_base (ownsRow_setCell_below (ownsRow_setCell_below (unhide HO) (a := ⟨w.heap.size, 0, none⟩) (by simp) (.slice (some ⟨w.heap.size + 1, 0, none⟩) 64 64)) (a := ⟨w.heap.size, 1, none⟩) (by simp) (.slice (some ⟨w1.heap.size, 0, none⟩) 0 0)) (B' := w.heap.size) (by omega)) (Joins.below_alloc1 _ (.cells #[] 95)))
  have HB2 := hide ((((unhide HB).setCell (p := ⟨w.heap.size, 0, none⟩) (Nat.le_refl _) (.slice (some ⟨w.heap.size + 1, 0, none⟩) 64 64)).setCell (p := ⟨w.heap.size, 1, none⟩) (Nat.le_refl _) (.slice (some ⟨w1.heap.size, 0, none⟩) 0 0)).alloc (by simp; omega) (.cells #[] 95))
  go_wp2
  exact bodyPost_ret (v := .agg #[.slice (some ⟨w.heap.size + 1, 0, none⟩) 64 64, .slice (some ⟨w1.heap.size, 0, none⟩) 0 0]) (by simp [results, Tryz.results36, go_sem, hc0, hc1, hsz]) rfl ⟨_, _, rfl, ⟨OwnR.of (unhide HO2) (fun h => by cases h), .inl ⟨rfl, rfl, _, rfl⟩⟩, unhide HB2⟩

end Go.Proofs.YtjjkppknojecjaaGreat

namespace Go.Proofs.YtjjkppknojecjaaGreat
open Go.RowKit
set_option linter.unusedVariables false
set_option maxRecDepth 100000

set_option maxHeartbeats 1600000 in
theorem newDisk_impl (w : World) : Calls Tryz.prog 19 #[] w fun e w' => ∃ g, e = .returned (.agg #[.slice (some ⟨g, 0, none⟩) 64 64, .slice none 0 0]) ∧ OwnD w' w.heap.size (some ⟨g, 0, none⟩) 64 64 none 0 0 noSs [] ∧ Below w.heap.size w w' := by
  obtain ⟨i0, hi, hz0, hz1, hz2⟩ := info_parts info9'
  go_enter Tryz.func19, Tryz.ntmps19
  go_wp2_with (first | (at_make; refine wpList_make_full _ rfl _ _ 24 rfl (w.heap.size + 1) 9 i0 _ 1 Tryz.underlying24 hi hz0 hz1 _ _ _ _ 64 rfl rfl rfl rfl ?c1 ?c2 ?c3 ?_))
  case c1 => rw [hz2]; omega
  case c2 => unfold maxLen; omega
  case c3 => simp
  intro w1 hown hgrow
  have hB : Below (w.heap.size + 1) (w.alloc (.cells #[.slice none 0 0, .slice none 0 0] 27)) w1 := (Below.refl _ _).grown hgrow (by simp) (fun _ h => by cases h)
  have hc0 : w1.cell? ⟨w.heap.size, 0, none⟩ = some (.slice none 0 0) := (hB.cell (by simp)).trans (by simp [go_sem])
  have hc1 : w1.cell? ⟨w.heap.size, 1, none⟩ = some (.slice none 0 0) := (hB.cell (by simp)).trans (by simp [go_sem])
  have hf0 : w1.frozen? ⟨w.heap.size, 0, none⟩ = false := (hB.frozen (by simp)).trans (by simp [go_sem])
  have hf1 : w1.frozen? ⟨w.heap.size, 1, none⟩ = false := (hB.frozen (by simp)).trans (by simp [go_sem])
  have HO := hide (own_base (ownsRow_setCell_below (ownsRow_setCell_below (noSs_own hown) (a := ⟨w.heap.size, 0, none⟩) (by simp) (.slice (some ⟨w.heap.size + 1, 0, none⟩) 64 64)) (a := ⟨w.heap.size, 1, none⟩) (by simp) (.slice none 0 0)) (B' := w.heap.size) (by omega))
  have HB := hide ((((Joins.below_alloc1 w (.cells #[.slice none 0 0, .slice none 0 0] 27)).trans (hB.mono (by omega))).setCell (p := ⟨w.heap.size, 0, none⟩) (Nat.le_refl _) (.slice (some ⟨w.heap.size + 1, 0, none⟩) 64 64)).setCell (p := ⟨w.heap.size, 1, none⟩) (Nat.le_refl _) (.slice none 0 0))
  clear hown hgrow hB
  go_wp2
  exact bodyPost_ret (v := .agg #[.slice (some ⟨w.heap.size + 1, 0, none⟩) 64 64, .slice none 0 0]) (by simp [results, Tryz.results19, go_sem, hc0, hc1]) rfl ⟨_, rfl, ⟨OwnR.of (unhide HO) (fun h => by cases h), .inl ⟨rfl, rfl, none, rfl⟩⟩, unhide HB⟩

end Go.Proofs.YtjjkppknojecjaaGreat
