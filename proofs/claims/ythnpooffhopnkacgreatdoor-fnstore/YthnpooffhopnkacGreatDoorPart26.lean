import Derived.Test.YthnpooffhopnkacGreatDoorPart25
import Derived.Test.YthnpooffhopnkacGreatDoorPart23
import Derived.Test.YthnpooffhopnkacGreatDoorRows
import Derived.Test.YthnpooffhopnkacGreatDoorPart1
import Derived.Test.YthnpooffhopnkacGreatDoorPart2
import Derived.Test.YthnpooffhopnkacGreatDoorPart3
import Derived.Test.YthnpooffhopnkacGreatDoorPart7
import Derived.Test.YthnpooffhopnkacGreatDoorPart10
import Derived.Test.YthnpooffhopnkacGreatDoorPart9
import Derived.WalkKit
import Derived.WalkSpells
import Derived.KernelRfl
import Derived.LoopN
import Derived.BigQuiet
import Derived.Deep.QuietTactic
import Derived.Deep.CutRange
import Derived.Deep.RegionWith
import Derived.Deep.MidRow
import Derived.Test.YthnpooffhopnkacGreatDoorPart4
import Derived.Test.YthnpooffhopnkacGreatDoorPart6
import Derived.Test.YthnpooffhopnkacGreatDoorPart19
import Derived.Test.YthnpooffhopnkacGreatDoorPart13

/- The store, plainly: what sectors say; an image is read back from its sectors. (Made ahead of stage 11.) -/
namespace Go.Proofs.YthnpooffhopnkacGreatDoor
open Go.RowKit
set_option linter.unusedVariables false
set_option maxRecDepth 100000

/-- What sectors say of an image: each part, and whether it stands. -/
def srS (sec : Nat → ByteArray) : List Int := openL (sec 9) 1
def srN (sec : Nat → ByteArray) : Nat := ((srS sec).getD 0 0).toNat
def supB (sec : Nat → ByteArray) : Bool := openB (sec 9) 1 && decide (0 < (srS sec).length) && decide ((srS sec).getD 0 0 ≤ 3) && decide (((srS sec).length : Int) = 1 + (srS sec).getD 0 0)
def srR (sec : Nat → ByteArray) : List Int := if cdB (sec 10) = true then cdL (sec 10) else []
def srT (sec : Nat → ByteArray) : List Int := openL (sec 11) 3
def snB1 (sec : Nat → ByteArray) (i : Nat) : Bool := tdB (sec (12 + i)) && decide (nmN (unT ((srS sec).getD (1 + i) 0)) = (srS sec).getD (1 + i) 0)
def snR1 (sec : Nat → ByteArray) (i : Nat) : Snp := ⟨unT ((srS sec).getD (1 + i) 0), openL (sec (12 + i)) 3⟩
def srSn (sec : Nat → ByteArray) (k : Nat) : List Snp := (List.range k).map (snR1 sec)
def daB1 (sec : Nat → ByteArray) (c : Nat) : Bool := decide ((srR sec).getD c 0 = 0) || (openB (sec (15 + c)) 4 && decide ((openL (sec (15 + c)) 4).length = 1))
def daR1 (sec : Nat → ByteArray) (c : Nat) : Int := if (srR sec).getD c 0 = 0 then 0 else (openL (sec (15 + c)) 4).getD 0 0
def srM (sec : Nat → ByteArray) : Img := ⟨srR sec, srT sec, srSn sec (srN sec), (List.range 24).map (daR1 sec)⟩
def srP (sec : Nat → ByteArray) : Bool := supB sec && cdB (sec 10) && tdB (sec 11) && (List.range (srN sec)).all (snB1 sec) && (List.range 24).all (daB1 sec)
def srB (sec : Nat → ByteArray) : Bool := srP sec && imB (srM sec)

theorem open_seal1 {k : Int} {xs : List Int} (hk : 0 ≤ k ∧ k ≤ 255) (ha : allB xs = true) (hl : xs.length ≤ 16) (hk2 : 1 ≤ k ∧ k ≤ 9) : openB (sealS k xs) k = true ∧ openL (sealS k xs) k = xs := by
  have ho : openB (sealS k xs) k = true := openB_yes (rec_seal (by omega) ha (by omega)) (seal_kind (by omega) (by omega))
  exact ⟨ho, by rw [openL_yes ho, body_seal, un_pack ha]⟩
theorem tabU_mem : ∀ (ss : List Snp) (i : Nat) (j : Nat) (hj : j < ss.length), (⟨12 + ((i + j : Nat) : Int), encTb ss[j].table⟩ : Up) ∈ tabU i ss
  | s :: ss, i, 0, _ => by simp [tabU]
  | s :: ss, i, j + 1, hj => by
    have := tabU_mem ss (i + 1) j (by simpa using hj)
    simp only [tabU, List.mem_cons, List.getElem_cons_succ]
    right
    rwa [show i + (j + 1) = i + 1 + j by omega]
theorem allB_snm {m : Img} (h : ImR m) : allB (supL m) = true := by
  have hs := h.few
  unfold allB supL
  rw [List.all_cons, Bool.and_eq_true]
  refine ⟨by simp [numB, inB]; omega, ?_⟩
  rw [List.all_eq_true]
  intro x hx
  obtain ⟨s, hs', rfl⟩ := List.mem_map.1 hx
  have := nmN_in (h.snaps s hs').1
  simp [numB, inB]; omega
/-- An image is read back from its sectors. -/
theorem sr_all {m : Img} (h : ImR m) {sec : Nat → ByteArray} (hs : ∀ u ∈ allU m, sec u.at_.toNat = u.data) : srB sec = true ∧ srM sec = m := by
  have hmem : ∀ u, u ∈ headU m ∨ u ∈ tabU 0 m.snaps ∨ u ∈ dataU m 24 → sec u.at_.toNat = u.data := fun u hu => hs u (by unfold allU; rw [List.mem_append, List.mem_append]; rcases hu with h | h | h <;> simp [h])
  have e9 : sec 9 = sealS 1 (supL m) := hmem ⟨9, sealS 1 (supL m)⟩ (.inl (by simp [headU]))
  have e10 : sec 10 = encT m.refs := hmem ⟨10, encT m.refs⟩ (.inl (by simp [headU]))
  have e11 : sec 11 = encTb m.table := hmem ⟨11, encTb m.table⟩ (.inl (by simp [headU]))
  have hf := h.few
  obtain ⟨o9, l9⟩ := open_seal1 (k := 1) (by omega) (allB_snm h) (by simp [supL]; omega) (by omega)
  have hS : srS sec = supL m := by rw [srS, e9, l9]
  have hN : srN sec = m.snaps.length := by rw [srN, hS]; simp [supL]
  have hsup : supB sec = true := by
    unfold supB
    rw [e9, o9, hS]
    simp [supL]
    omega
  obtain ⟨c1, c2⟩ := enc_cd h.refs
  have hcd : cdB (sec 10) = true := by
    rw [e10]
    cases hb : cdB (encT m.refs) with
    | true => rfl
    | false =>
      unfold cdC at c1
      rw [hb] at c1
      split at c1 <;> simp at c1
  have hR : srR sec = m.refs := by
    rw [srR, if_pos hcd, e10]
    rw [cdR, if_pos c1] at c2
    exact c2
  have tb : ∀ t : List Int, tbB t = true → tdB (encTb t) = true ∧ openL (encTb t) 3 = t := fun t ht => by
    obtain ⟨ho, hl⟩ := open_seal1 (k := 3) (by omega) (tb_all ht) (by have := tbB_len ht; omega) (by omega)
    have hl' : openL (encTb t) 3 = t := hl
    exact ⟨by rw [tdB, hl', ht, Bool.and_true]; exact ho, hl'⟩
  obtain ⟨t1, t2⟩ := tb m.table h.table
  have hT : srT sec = m.table := by rw [srT, e11, t2]
  have hsn : ∀ i (hi : i < m.snaps.length), snB1 sec i = true ∧ snR1 sec i = m.snaps[i] := fun i hi => by
    have e := hmem ⟨12 + ((0 + i : Nat) : Int), encTb m.snaps[i].table⟩ (.inr (.inl (tabU_mem m.snaps 0 i hi)))
    have e' : sec (12 + i) = encTb m.snaps[i].table := by
      have e2 : sec (12 + ((0 + i : Nat) : Int)).toNat = encTb m.snaps[i].table := e
      rwa [show (12 + ((0 + i : Nat) : Int)).toNat = 12 + i by omega] at e2
    obtain ⟨s1, s2⟩ := tb _ (h.snaps _ (List.getElem_mem hi)).2
    have hv : (srS sec).getD (1 + i) 0 = nmN m.snaps[i].name := by
      rw [hS, Nat.add_comm]
      simp [supL, List.getD, hi]
    have hnm := (h.snaps _ (List.getElem_mem hi)).1
    unfold snB1 snR1
    rw [e', s1, s2, hv, un_nm hnm]
    exact ⟨by simp, rfl⟩
  have hSn : srSn sec (srN sec) = m.snaps := by
    rw [hN]
    refine List.ext_getElem (by simp [srSn]) (fun i h1 h2 => ?_)
    simp only [srSn, List.getElem_map, List.getElem_range]
    exact (hsn i h2).2
  have hda : ∀ c, c < 24 → daB1 sec c = true ∧ daR1 sec c = m.data.getD c 0 := fun c hc => by
    unfold daB1 daR1
    rw [hR]
    by_cases hz : m.refs.getD c 0 = 0
    · rw [if_pos hz, decide_eq_true hz, h.clear c hc hz]
      exact ⟨rfl, rfl⟩
    · have hp : 0 < m.refs.getD c 0 := by
        have hcl : c < m.refs.length := by rw [h.rl]; exact hc
        have := ctB_at h.refs c hcl
        rw [show m.refs.getD c 0 = m.refs[c] by simp [List.getD, hcl]] at hz ⊢
        omega
      have e := hmem ⟨15 + (c : Int), sealS 4 [m.data.getD c 0]⟩ (.inr (.inr (by
        unfold dataU
        rw [List.mem_flatMap]
        exact ⟨c, List.mem_range.2 hc, by unfold datU; rw [if_pos hp]; simp⟩)))
      have e' : sec (15 + c) = sealS 4 [m.data.getD c 0] := by
        have e2 : sec (15 + (c : Int)).toNat = sealS 4 [m.data.getD c 0] := e
        rwa [show (15 + (c : Int)).toNat = 15 + c by omega] at e2
      have hnum : numB (m.data.getD c 0) = true := by
        have hcl : c < m.data.length := by rw [h.len]; exact hc
        rw [show m.data.getD c 0 = m.data[c] by simp [List.getD, hcl]]
        exact h.nums _ (List.getElem_mem hcl)
      obtain ⟨ho, hl⟩ := open_seal1 (k := 4) (xs := [m.data.getD c 0]) (by omega) (by unfold allB; rw [List.all_cons, hnum]; rfl) (by simp) (by omega)
      rw [if_neg hz, e', ho, hl]
      exact ⟨by simp, rfl⟩
  have hD : (List.range 24).map (daR1 sec) = m.data := by
    refine getD_ext (by simp) h.len (fun i hi => ?_)
    rw [range_getD hi]
    exact (hda i hi).2
  have hM : srM sec = m := by
    unfold srM
    rw [hR, hT, hSn, hD]
  refine ⟨?_, hM⟩
  unfold srB srP
  rw [hM, imB_iff.2 h, hsup, hcd, e11, t1, hN]
  simp only [Bool.and_true, Bool.true_and, Bool.and_eq_true, List.all_eq_true, List.mem_range]
  exact ⟨fun i hi => (hsn i hi).1, fun c hc => (hda c hc).1⟩

end Go.Proofs.YthnpooffhopnkacGreatDoor

/- Contracts of the model's l08Encode, EncodeRefs. -/
namespace Go.Proofs.YthnpooffhopnkacGreatDoor
open Go.RowKit
set_option linter.unusedVariables false
set_option maxRecDepth 100000

theorem hx_in (xs : List Int) (i : Nat) (h : ∀ j, 0 ≤ xs.getD j 0 ∧ xs.getD j 0 ≤ 15) : ∀ m, 0 ≤ hx6 xs i m ∧ hx6 xs i m < 16 ^ m
  | 0 => by simp [hx6]
  | m + 1 => by
    obtain ⟨h0, h1⟩ := hx_in xs i h m
    obtain ⟨g0, g1⟩ := h (i + (5 - m))
    rw [hx6, show (16 : Int) ^ (m + 1) = 16 ^ m * 16 from Int.pow_succ 16 m]
    generalize (16 : Int) ^ m = P at *
    omega
theorem hx_le {xs : List Int} (hb : ctB xs = true) (i m : Nat) (hm : m ≤ 5) : 0 ≤ hx6 xs i m ∧ hx6 xs i m ≤ 1048576 := by
  obtain ⟨h0, h1⟩ := hx_in xs i (ctB_getD hb) m
  have hp : (16 : Int) ^ m ≤ 1048576 := by
    match m, hm with
    | 0, _ => decide
    | 1, _ => decide
    | 2, _ => decide
    | 3, _ => decide
    | 4, _ => decide
    | 5, _ => decide
  omega
theorem ctNs_get (xs : List Int) (q : Nat) (h : q < (ctNs xs).length) : (ctNs xs)[q] = lo6 xs (6 * q) 6 := by
  have h4 : q < 4 := h
  match q, h4 with
  | 0, _ => rfl
  | 1, _ => rfl
  | 2, _ => rfl
  | 3, _ => rfl
theorem take_snoc {xs : List Int} {q : Nat} {n : Int} (h : q < xs.length) (e : n = xs[q]) : xs.take (q + 1) = xs.take q ++ [n] := by
  rw [e, List.take_succ_eq_append_getElem h]

set_option maxHeartbeats 3200000 in
theorem l08Encode_any (ao : Option Addr) (cap : Nat) (xs : List Int) (w : World) (hb : ctB xs = true) (hc : Is w ao xs) :
    Calls Tryz.prog 67 #[.slice ao xs.length cap] w fun e w' => e = .returned (.string (encT xs)) ∧ Below w.heap.size w w' := by
  obtain ⟨j0, hj, hy0, hy1, hy2⟩ := info_parts infoM
  have HCB := hide hb
  have HL := hide (ctB_len hb)
  have HC := hide hc
  have HA : Hid (Below w.heap.size w (w.alloc (.cells #[] 3))) := hide (Joins.below_alloc1 _ _)
  clear hb hc
  go_enter Tryz.func67, Tryz.ntmps67
  go_wp2
  go_loopw [3, 4] (fun o i wr => ∃ (q : Nat) (qo : Option Addr) (qa : Nat), q ≤ 4 ∧ i = .int .i64 (6 * (q : Int)) ∧ o = .slice qo q qa ∧ Hid (OwnR wr w.heap.size 3 1 (.slice qo q qa) q (intV ((ctNs xs).take q))) ∧ Hid (Below w.heap.size w wr)) (fun _ i _ => 24 - (intOf i).toNat)
  case atStart => exact ⟨0, _, _, Nat.zero_le _, rfl, rfl, hide (.inl ⟨rfl, rfl, _, rfl⟩), HA⟩
  case round =>
    obtain ⟨q, qo, qa, hq, rfl, rfl, HO, HB⟩ := hrel
    by_cases hlt : q < 4
    · have hlt' : 6 * (q : Int) < 24 := by omega
      go_wp2
      go_loopw [5, 6] (fun n j wq => ∃ m : Nat, m ≤ 6 ∧ j = .int .i64 (5 - (m : Int)) ∧ n = .int .i64 (hx6 xs (6 * q) m) ∧ Hid (OwnR wq w.heap.size 3 1 (.slice qo q qa) q (intV ((ctNs xs).take q))) ∧ Hid (Below w.heap.size w wq)) (fun _ j _ => (intOf j + 1).toNat)
      case atStart => exact ⟨0, by omega, rfl, rfl, HO, HB⟩
      case round =>
        clear HO HB
        obtain ⟨m, hm, rfl, rfl, HO, HB⟩ := hrel
        by_cases hm5 : m ≤ 5
        · obtain ⟨hh0, hh1⟩ := hx_le (unhide HCB) (6 * q) m hm5
          have hk : 6 * q + (5 - m) < xs.length := by rw [unhide HL]; omega
          have hji : 6 * (q : Int) + (5 - (m : Int)) = ((6 * q + (5 - m) : Nat) : Int) := by omega
          have HS : Hid (hx6 xs (6 * q) (m + 1) = 16 * hx6 xs (6 * q) m + xs[6 * q + (5 - m)]) := hide (by rw [hx6]; simp [List.getD, hk])
          obtain ⟨g0, g1⟩ := ctB_at (unhide HCB) _ hk
          obtain ⟨b, off, rfl, hcl⟩ := (unhide HC).below (unhide HB) _ hk
          have hjl : ((6 * q + (5 - m) : Nat) : Int) < (xs.length : Int) := by omega
          generalize 6 * q + (5 - m) = J at *
          generalize hx6 xs (6 * q) m = V at *
          go_wp2
          go_roundw
          case rel => exact ⟨m + 1, by omega, by go_num, by rw [unhide HS], HO, HB⟩
          case measure => simp [intOf]; omega
        · have HE : Hid (hx6 xs (6 * q) m = (ctNs xs)[q]'(show q < 4 from hlt)) := hide (by rw [show m = 6 by omega, hx_lo]; exact (ctNs_get xs q hlt).symm)
          have HOA := hide ((unhide HO).below (Joins.below_alloc1 _ (.cells #[.int .i64 (hx6 xs (6 * q) m)] 3)))
          have HBA := hide (fr (unhide HB) (Joins.below_alloc1 _ (.cells #[.int .i64 (hx6 xs (6 * q) m)] 3)))
          have HSZ := hide (unhide HB).size
          go_wp2_with (at_builtin; refine wpList_append_one rfl _ _ 23 rfl w.heap.size 3 j0 (.int .i64 0) 1 8 Tryz.underlying23 hj hy0 hy1 hy2 rfl (by omega) qo q qa (intV ((ctNs xs).take q)) rfl (unhide HOA) (by have := unhide HSZ; simp; omega) ⟨wr.heap.size, 0, none⟩ _ [.int .i64 (hx6 xs (6 * q) m)] rfl rfl (byte_news wr _ _) (int_one _) (by unfold maxLen; omega) (by omega) ?_; intro g2 cap2 wA hoA hkA; have HSF := hide (And.intro hoA (keep_below (unhide HBA) (unhide HOA) (Nat.le_refl _) hkA)); clear hoA hkA)
          go_roundw
          case rel => exact ⟨q + 1, _, _, by omega, by go_num, rfl, hide (.inr ⟨by omega, by rw [take_snoc (show q < 4 from hlt) (unhide HE), intV_snoc]; exact (unhide HSF).1⟩), hide (unhide HSF).2⟩
          case measure => simp [intOf]; omega
    · have hq4 : q = 4 := by omega
      subst hq4
      have HT : Hid ((ctNs xs).take 4 = ctNs xs) := hide rfl
      have HON : Hid (Is wr qo (ctNs xs)) := hide (by have := unhide HO; rw [unhide HT] at this; exact ownRN (xs := ctNs xs) this)
      have HIN : Hid (∀ j (h : j < (ctNs xs).length), 0 ≤ (ctNs xs)[j] ∧ (ctNs xs)[j] ≤ 2147483647) := hide (fun j h => by have := ctNs_in (unhide HCB) j h; omega)
      go_wp2_with fail
      refine (l02Seal_any 2 qo qa (ctNs xs) _ (by omega) (show 4 ≤ 16 by omega) (unhide HIN) (unhide HON)).mono ?_
      rintro e w1 ⟨rfl, hb⟩
      have HBE := hide (fr (unhide HB) hb)
      clear hb
      go_wp2
      go_ret
      exact ⟨rfl, unhide HBE⟩

end Go.Proofs.YthnpooffhopnkacGreatDoor

/- Plain: what waits in a slot, as a host reads it. -/
namespace Go.Proofs.YthnpooffhopnkacGreatDoor
open Go.RowKit
set_option linter.unusedVariables false

theorem bytes0 {t : ByteArray} (h : t.size = 0) : t = ⟨#[]⟩ := by
  cases t with
  | mk a => cases a with
    | mk l => cases l with
      | nil => rfl
      | cons x xs => simp [ByteArray.size] at h
theorem text_full {t : ByteArray} (h : t.size ≠ 0) : t.toList.isEmpty = false := by
  rw [ByteArray.toList_eq]
  cases t with
  | mk a => cases a with
    | mk l => cases l with
      | nil => exact absurd rfl h
      | cons x xs => rfl
/-- What a slot's head says. -/
def sdL (t : ByteArray) : List Int := openL t 7
def sdB (t : ByteArray) : Bool := decide (t.size = 0) || (openB t 7 && (decide ((sdL t).length = 2) && decide ((sdL t).getD 0 0 ≤ 5)))
def sdN (t : ByteArray) : Nat := if t.size = 0 then 0 else ((sdL t).getD 0 0).toNat
def sdS (t : ByteArray) : Int := if t.size = 0 then 0 else (sdL t).getD 1 0
theorem two_ofJ {l : List Int} (h : l.length = 2) : ∃ a b, l = [a, b] := by
  match l, h with
  | [a, b], _ => exact ⟨a, b, rfl⟩
theorem open_numsJ {t : ByteArray} {k : Int} (h : openB t k = true) : ∀ x ∈ openL t k, 0 ≤ x ∧ x ≤ 2147483647 := by
  intro x hx
  rw [openL_yes h] at hx
  simp only [openB, Bool.and_eq_true] at h
  obtain ⟨_, _, _, _, _, hu⟩ := recB_iff.1 h.1
  obtain ⟨j, hj, rfl⟩ := List.mem_iff_getElem.1 hx
  exact (intsB_parts (okU_parts hu).2.2).1 j hj
theorem sd_empty {t : ByteArray} (h : t.size = 0) : sdB t = true ∧ sdN t = 0 ∧ sdS t = 0 := by simp [sdB, sdN, sdS, h]
theorem sd_shut {t : ByteArray} (h : t.size ≠ 0) (ho : openB t 7 = false) : sdB t = false := by simp [sdB, h, ho]
theorem sd_len {t : ByteArray} (h : t.size ≠ 0) (hl : ¬ (sdL t).length = 2) : sdB t = false := by simp [sdB, h, hl]
theorem sd_many {t : ByteArray} {a b : Int} (h : t.size ≠ 0) (hl : sdL t = [a, b]) (ha : ¬ a ≤ 5) : sdB t = false := by simp [sdB, h, hl, ha]
theorem sd_yes {t : ByteArray} {a b : Int} (h : t.size ≠ 0) (ho : openB t 7 = true) (hl : sdL t = [a, b]) (ha : a ≤ 5) : sdB t = true ∧ (sdN t : Int) = a ∧ sdN t ≤ 5 ∧ sdS t = b ∧ numB b = true := by
  have h0 := open_numsJ ho a (by rw [show openL t 7 = [a, b] from hl]; simp)
  have h1 := open_numsJ ho b (by rw [show openL t 7 = [a, b] from hl]; simp)
  have e : sdN t = a.toNat := by rw [sdN, if_neg h, hl]; rfl
  refine ⟨by simp [sdB, h, ho, hl, ha], ?_, ?_, ?_, ?_⟩
  · rw [e]; omega
  · rw [e]; omega
  · rw [sdS, if_neg h, hl]; rfl
  · simp [numB, inB]; omega
theorem sd_seq {t : ByteArray} (h : sdB t = true) (hn : sdN t ≠ 0) : numB (sdS t) = true ∧ sdN t ≤ 5 := by
  by_cases h0 : t.size = 0
  · exact absurd (sd_empty h0).2.1 hn
  · by_cases ho : openB t 7 = false
    · rw [sd_shut h0 ho] at h; cases h
    rw [Bool.not_eq_false] at ho
    by_cases hl : (sdL t).length = 2
    · obtain ⟨a, b, e⟩ := two_ofJ hl
      by_cases ha : a ≤ 5
      · obtain ⟨_, _, h3, h4, h5⟩ := sd_yes h0 ho e ha
        rw [h4]; exact ⟨h5, h3⟩
      · rw [sd_many h0 e ha] at h; cases h
    · rw [sd_len h0 hl] at h; cases h
theorem sdN_le {t : ByteArray} (h : sdB t = true) : sdN t ≤ 5 := by
  by_cases hn : sdN t = 0
  · omega
  · exact (sd_seq h hn).2
/-- The updates that wait, text by text. -/
def fuL (F : Nat → ByteArray) (n : Nat) : List Up := (List.range n).map fun i => duU (F i)
def fuB (F : Nat → ByteArray) (n : Nat) : Bool := (List.range n).all fun i => duB (F i)
theorem fuL_length (F : Nat → ByteArray) (n : Nat) : (fuL F n).length = n := by simp [fuL]
theorem fuL_take {F : Nat → ByteArray} {n k : Nat} (h : k < n) : (fuL F n).take (k + 1) = (fuL F n).take k ++ [duU (F k)] := by
  rw [List.take_succ_eq_append_getElem (by rw [fuL_length]; exact h)]; simp [fuL]
theorem fuL_done {F : Nat → ByteArray} {n k : Nat} (h : n ≤ k) : (fuL F n).take k = fuL F n := List.take_of_length_le (by rw [fuL_length]; exact h)
theorem fuB_yes {F : Nat → ByteArray} {n : Nat} (h : ∀ i, i < n → duB (F i) = true) : fuB F n = true := by
  simp only [fuB, List.all_eq_true, List.mem_range]; exact h
theorem fuB_no {F : Nat → ByteArray} {n k : Nat} (hk : k < n) (h : duB (F k) = false) : fuB F n = false := by
  cases hb : fuB F n with
  | false => rfl
  | true =>
    simp only [fuB, List.all_eq_true, List.mem_range] at hb
    rw [hb k hk] at h; cases h
theorem fuB_at {F : Nat → ByteArray} {n : Nat} (h : fuB F n = true) : ∀ i, i < n → duB (F i) = true := by
  simp only [fuB, List.all_eq_true, List.mem_range] at h; exact h
theorem fu_right {F : Nat → ByteArray} {n : Nat} (h : fuB F n = true) : upsB (fuL F n) = true := by
  simp only [upsB, fuL, List.all_map, List.all_eq_true, List.mem_range, Function.comp_apply]
  exact fun i hi => du_right (fuB_at h i hi)
def joF (ss : List ByteArray) (xs : List Wr) (h o : Int) : Nat → ByteArray := fun i => readV ss xs h (slN o + 1 + (i : Int))
def joH (ss : List ByteArray) (xs : List Wr) (h o : Int) : ByteArray := readV ss xs h (slN o)
/-- .. of a head's text T and the updates' texts F. -/
def jkB (T : ByteArray) (F : Nat → ByteArray) : Bool := sdB T && fuB F (sdN T)
def jkL (T : ByteArray) (F : Nat → ByteArray) : List Up := if jkB T F = true then fuL F (sdN T) else []
def jkS (T : ByteArray) (F : Nat → ByteArray) : Int := if jkB T F = true then sdS T else 0
theorem jk_shut {T : ByteArray} {F : Nat → ByteArray} (h : sdB T = false) : jkB T F = false ∧ jkL T F = [] ∧ jkS T F = 0 := by
  have e : jkB T F = false := by simp [jkB, h]
  exact ⟨e, if_neg (by simp [e]), if_neg (by simp [e])⟩
theorem jk_bad {T : ByteArray} {F : Nat → ByteArray} (h : fuB F (sdN T) = false) : jkB T F = false ∧ jkL T F = [] ∧ jkS T F = 0 := by
  have e : jkB T F = false := by simp [jkB, h]
  exact ⟨e, if_neg (by simp [e]), if_neg (by simp [e])⟩
theorem jk_yes {T : ByteArray} {F : Nat → ByteArray} (h : sdB T = true) (hf : fuB F (sdN T) = true) : jkB T F = true ∧ jkL T F = fuL F (sdN T) ∧ jkS T F = sdS T := by
  have e : jkB T F = true := by simp [jkB, h, hf]
  exact ⟨e, if_pos e, if_pos e⟩
theorem jk_right (T : ByteArray) (F : Nat → ByteArray) : upsB (jkL T F) = true ∧ (jkL T F).length ≤ 5 ∧ ((jkL T F).length ≠ 0 → numB (jkS T F) = true) := by
  by_cases h : jkB T F = true
  · have h' := h
    simp only [jkB, Bool.and_eq_true] at h'
    obtain ⟨_, e1, e2⟩ := jk_yes h'.1 h'.2
    rw [e1, e2, fuL_length]
    exact ⟨fu_right h'.2, sdN_le h'.1, fun hn => (sd_seq h'.1 hn).1⟩
  · have e1 : jkL T F = [] := if_neg h
    rw [e1]
    exact ⟨rfl, by simp, fun h => absurd rfl h⟩
/-- What JournalOf and ReplayPlan answer. -/
def joC (ss : List ByteArray) (xs : List Wr) (h o : Int) : Int := if hostC ss xs h = 0 then (if inB o 0 3 = true then (if jkB (joH ss xs h o) (joF ss xs h o) = true then 0 else 18) else 4) else hostC ss xs h
def joL (ss : List ByteArray) (xs : List Wr) (h o : Int) : List Up := if joC ss xs h o = 0 then jkL (joH ss xs h o) (joF ss xs h o) else []
def joS (ss : List ByteArray) (xs : List Wr) (h o : Int) : Int := if joC ss xs h o = 0 then jkS (joH ss xs h o) (joF ss xs h o) else 0
def joM (ss : List ByteArray) (xs : List Wr) (h o : Int) : List Wr := rpL (slN o) (joS ss xs h o) (joL ss xs h o)
theorem joC_host {ss : List ByteArray} {xs : List Wr} {h o : Int} (e : hostC ss xs h ≠ 0) : joC ss xs h o = hostC ss xs h := if_neg e
theorem joC_range {ss : List ByteArray} {xs : List Wr} {h o : Int} (e : hostC ss xs h = 0) (e1 : inB o 0 3 = false) : joC ss xs h o = 4 := by rw [joC, if_pos e, if_neg (by simp [e1])]
theorem joC_broken {ss : List ByteArray} {xs : List Wr} {h o : Int} (e : hostC ss xs h = 0) (e1 : inB o 0 3 = true) (e2 : jkB (joH ss xs h o) (joF ss xs h o) = false) : joC ss xs h o = 18 := by rw [joC, if_pos e, if_pos e1, if_neg (by simp [e2])]
theorem joC_ok {ss : List ByteArray} {xs : List Wr} {h o : Int} (e : hostC ss xs h = 0) (e1 : inB o 0 3 = true) (e2 : jkB (joH ss xs h o) (joF ss xs h o) = true) : joC ss xs h o = 0 := by rw [joC, if_pos e, if_pos e1, if_pos e2]
theorem jo_no {ss : List ByteArray} {xs : List Wr} {h o : Int} (e : joC ss xs h o ≠ 0) : joL ss xs h o = [] ∧ joS ss xs h o = 0 ∧ joM ss xs h o = [] := by
  have e1 : joL ss xs h o = [] := if_neg e
  exact ⟨e1, if_neg e, by rw [joM, e1]; rfl⟩
theorem jo_yes {ss : List ByteArray} {xs : List Wr} {h o : Int} (e : joC ss xs h o = 0) : joL ss xs h o = jkL (joH ss xs h o) (joF ss xs h o) ∧ joS ss xs h o = jkS (joH ss xs h o) (joF ss xs h o) := ⟨if_pos e, if_pos e⟩
theorem jo_right (ss : List ByteArray) (xs : List Wr) (h o : Int) : upsB (joL ss xs h o) = true ∧ (joL ss xs h o).length ≤ 5 ∧ ((joL ss xs h o).length ≠ 0 → numB (joS ss xs h o) = true) := by
  by_cases e : joC ss xs h o = 0
  · rw [(jo_yes e).1, (jo_yes e).2]; exact jk_right _ _
  · rw [(jo_no e).1]; exact ⟨rfl, by simp, fun h => absurd rfl h⟩
theorem upB_size {us : List Up} (h : upsB us = true) : ∀ x ∈ us, x.data.size ≤ maxLen := fun x hx => by
  have := (upB_iff.1 (List.all_eq_true.1 h x hx)).2
  unfold maxLen; omega
/-- A row of updates that grows, of the call's own. -/
structure UpS (w W : World) (qo : Option Addr) (n qa : Nat) (us : List Up) : Prop where
  o : OwnR W w.heap.size 43 2 (.slice qo n qa) n (upsV us)
  k : Below w.heap.size w W
theorem UpS.next {w W W' : World} {qo : Option Addr} {n qa : Nat} {us : List Up} (h : UpS w W qo n qa us) (hb : Below W.heap.size W W') : UpS w W' qo n qa us := ⟨h.o.below hb, fr h.k hb⟩
def upV (x : Up) : List Value := [.int .i64 x.at_, .string x.data]
theorem upV_one (x : Up) : ∀ u ∈ upV x, u.oneCell' = true := by
  intro u hu
  simp [upV] at hu
  rcases hu with rfl | rfl <;> rfl
theorem UpS.one {w W W' : World} {qo : Option Addr} {n qa g cap : Nat} {us : List Up} {x : Up} (h : UpS w W qo n qa us)
    (ho : W'.ownsRow w.heap.size 43 2 (.slice (some ⟨g, 0, none⟩) (n + 1) cap) (n + 1) (upsV us ++ upV x)) (hk : Keep (Own (.slice qo n qa)) W W') : UpS w W' (some ⟨g, 0, none⟩) (n + 1) cap (us ++ [x]) := by
  refine ⟨.inr ⟨by omega, ?_⟩, belowKp h.k hk (fun j hj => (h.o.ge j hj).1)⟩
  rw [upsV_append]; exact ho
theorem UpS.sz {w W : World} {qo : Option Addr} {n qa : Nat} {us : List Up} (h : UpS w W qo n qa us) : w.heap.size ≤ W.heap.size := h.k.size
theorem UpS.len {w W : World} {qo : Option Addr} {n qa : Nat} {us : List Up} (h : UpS w W qo n qa us) : n = us.length := by
  have := h.o.len; rw [upsV_length] at this; omega
theorem UpS.ups {w W : World} {qo : Option Addr} {n qa : Nat} {us : List Up} (h : UpS w W qo n qa us) (hz : upsB us = true) : Ups W qo us := by
  have e := h.len
  subst e
  exact ownUps h.o (upB_size hz)
theorem news2_at (w : World) (n : Nat) (x : Up) (t : TypeId) (hn : w.heap.size = n) : ∀ j u, (upV x)[j]? = some u → (w.alloc (.cells #[.int .i64 x.at_, .string x.data] t)).cell? ((⟨n, 0, none⟩ : Addr).add j) = some u := by
  subst hn
  exact World.news_of_block (cs := #[.int .i64 x.at_, .string x.data]) (heap_alloc_new w _)
/-- An update that a statement lays into a new variable. -/
structure GotU (W0 W : World) (C : Nat) (t : TypeId) (u : Up) : Prop where
  k : Below W0.heap.size W0 W
  v : VarU W C t u
  c : W0.heap.size ≤ C
theorem GotU.top {W0 W : World} (t : TypeId) (u : Up) (h : Below W0.heap.size W0 W) : GotU W0 (W.alloc (.cells #[.int .i64 u.at_, .string u.data] t)) W.heap.size t u := ⟨belowAl h _, VarU.new W t u, h.size⟩
theorem GotU.set {W0 W : World} {t : TypeId} {u u0 : Up} {C : Nat} (h : Below W0.heap.size W0 W) (hv : VarU W C t u0) (hC : W0.heap.size ≤ C) : GotU W0 ((W.setCell ⟨C, 0, none⟩ (.int .i64 u.at_)).setCell ⟨C, 1, none⟩ (.string u.data)) C t u :=
  ⟨below2 h hC 0 1 _ _, Joins.block_setCell (i := 1) (Joins.block_setCell (i := 0) hv _) _, hC⟩
end Go.Proofs.YthnpooffhopnkacGreatDoor

/- Contracts of the model's l11Name, PackName. (Made ahead of stage 11.) -/
namespace Go.Proofs.YthnpooffhopnkacGreatDoor
open Go.RowKit
set_option linter.unusedVariables false
set_option maxRecDepth 100000

/-- A name's number, as far as it has gone. -/
def nmK (t : ByteArray) (k : Nat) : Int := (t.data.toList.take k).foldl ch1 0
theorem nmK_succ {t : ByteArray} {k : Nat} (hk : k < t.size) : nmK t (k + 1) = ch1 (nmK t k) t.data.toList[k] := by
  unfold nmK
  rw [List.take_succ_eq_append_getElem (by simpa using hk), List.foldl_append]; rfl
theorem nmK_all (t : ByteArray) : nmK t t.size = nmN t := by
  unfold nmK nmN
  rw [List.take_of_length_le (by simp)]
theorem ch1_le {n : Int} {b : UInt8} (h0 : 0 ≤ n) : 0 ≤ ch1 n b ∧ ch1 n b ≤ 27 * n + 256 := by
  unfold ch1
  have h1 := Int.emod_nonneg ((b.toNat : Int) - 97) (show (256 : Int) ≠ 0 by decide)
  have h2 := Int.emod_lt_of_pos ((b.toNat : Int) - 97) (show (0 : Int) < 256 by decide)
  omega
theorem tl_lt {t : ByteArray} {k : Nat} (h : k + 1 ≤ t.size) : k < t.data.toList.length := by
  have : t.data.toList.length = t.size := by simp
  omega
/-- Bounds of a number of a short text. -/
def bd27 : Nat → Int
  | 0 => 0
  | k + 1 => 27 * bd27 k + 256
theorem nmK_le (t : ByteArray) : ∀ k, k ≤ t.size → 0 ≤ nmK t k ∧ nmK t k ≤ bd27 k
  | 0, _ => by simp [nmK, bd27]
  | k + 1, h => by
    have h1 := nmK_le t k (by omega)
    rw [nmK_succ (by omega)]
    have h2 := ch1_le (n := nmK t k) (b := t.data.toList[k]'(tl_lt h)) h1.1
    refine ⟨h2.1, Int.le_trans h2.2 ?_⟩
    rw [bd27]
    omega

theorem bd27_le : ∀ k, k ≤ 8 → 0 ≤ bd27 k ∧ bd27 k ≤ 10000000000000 := by
  intro k hk
  rcases (show k = 0 ∨ k = 1 ∨ k = 2 ∨ k = 3 ∨ k = 4 ∨ k = 5 ∨ k = 6 ∨ k = 7 ∨ k = 8 by omega) with rfl | rfl | rfl | rfl | rfl | rfl | rfl | rfl | rfl <;> decide

set_option maxHeartbeats 800000 in
theorem l11Name_any (t : ByteArray) (w : World) (hz : t.size ≤ 8) :
    Calls Tryz.prog 114 #[.string t] w fun e w' => e = .returned (.int .i64 (nmN t)) ∧ w' = w := by
  go_enter Tryz.func114, Tryz.ntmps114
  go_wp2
  go_loop [3, 4] (fun n i => ∃ k : Nat, k ≤ t.size ∧ i = .int .i64 k ∧ n = .int .i64 (nmK t k)) (fun _ i => t.size - (intOf i).toNat)
  case atStart => exact ⟨0, Nat.zero_le _, rfl, rfl⟩
  case round =>
    obtain ⟨k, hk, rfl, rfl⟩ := hrel
    by_cases hlt : k < t.size
    · have hlti : (k : Int) < (t.size : Int) := by omega
      have HS : Hid (nmK t (k + 1) = 27 * nmK t k + ((t[k].toNat : Int) - 97) % 256 + 1) := hide (by
        rw [nmK_succ hlt]
        have e : t.data.toList[k]'(by simpa using hlt) = t[k] := by have := snm_get hlt; rw [List.getElem?_eq_getElem (by simpa using hlt)] at this; exact Option.some.inj this
        rw [e]; rfl)
      obtain ⟨b0, b1⟩ := nmK_le t k hk
      obtain ⟨d0, d1⟩ := bd27_le k (by omega)
      have h1 := Int.emod_nonneg ((t[k].toNat : Int) - 97) (show (256 : Int) ≠ 0 by decide)
      have h2 := Int.emod_lt_of_pos ((t[k].toNat : Int) - 97) (show (0 : Int) < 256 by decide)
      have hu : IntKind.u8.wrap ((t[k].toNat : Int) - 97) = ((t[k].toNat : Int) - 97) % 256 := by simp [IntKind.wrap, IntKind.bits, IntKind.signed]
      generalize nmK t k = X at *
      generalize ((t[k].toNat : Int) - 97) % 256 = D at *
      have w1 : IntKind.i64.wrap (27 * X) = 27 * X := by rw [IntKind.wrap_i64]; omega
      have w2 : IntKind.i64.wrap D = D := by rw [IntKind.wrap_i64]; omega
      have w3 : IntKind.i64.wrap (27 * X + D) = 27 * X + D := by rw [IntKind.wrap_i64]; omega
      have w4 : IntKind.i64.wrap (27 * X + D + 1) = 27 * X + D + 1 := by rw [IntKind.wrap_i64]; omega
      go_wp2
      go_round
      case rel => exact ⟨k + 1, by omega, by go_num, by rw [unhide HS]⟩
      case measure => simp [intOf]; omega
    · obtain rfl : k = t.size := by omega
      have HF := hide (nmK_all t)
      go_wp2
      go_ret
      exact ⟨ret_int (unhide HF), rfl⟩

end Go.Proofs.YthnpooffhopnkacGreatDoor
