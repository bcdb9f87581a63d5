import Derived.Test.YtkaiglhljpehpabGreatDoorRows
import Derived.Test.YtkaiglhljpehpabGreatDoorPart1
import Derived.Test.YtkaiglhljpehpabGreatDoorPart2
import Derived.Test.YtkaiglhljpehpabGreatDoorPart3
import Derived.Test.YtkaiglhljpehpabGreatDoorPart24
import Derived.Test.YtkaiglhljpehpabGreatDoorPart4
import Derived.Test.YtkaiglhljpehpabGreatDoorPart15
import Derived.Test.YtkaiglhljpehpabGreatDoorPart20
import Derived.Test.YtkaiglhljpehpabGreatDoorPart17
import Derived.Test.YtkaiglhljpehpabGreatDoorPart25
import Derived.WalkKit
import Derived.WalkSpells
import Derived.KernelRfl
import Derived.LoopN
import Derived.Deep.RegionWith
import Derived.Test.YtkaiglhljpehpabGreatDoorPart13
import Derived.Test.YtkaiglhljpehpabGreatDoorPart7
import Derived.BigQuiet
import Derived.Deep.QuietTactic
import Derived.Deep.CutRange
import Derived.Laws.CopyRow
import Derived.Laws.ResultCell
import Derived.Laws.Cover3
import Derived.Laws.CopyOwn
import Derived.Deep.MidRow
import Derived.Defers
import Derived.Recover
import Derived.Lib.EndianBits

/- Contracts of the program's readNames, readValue; readers that answer or panic. -/
namespace Go.Proofs.YtkaiglhljpehpabGreatDoor
open Go.RowKit
set_option linter.unusedVariables false
set_option maxRecDepth 100000

theorem open_in {s : ByteArray} {k : Int} : openB s k = true ↔ RecP s ∧ byteAt s 0 = k := by
  simp only [openB, Bool.and_eq_true, decide_eq_true_eq]
  exact and_congr_left' recB_iff
theorem readKind_any (s : ByteArray) (k : Int) (w : World) (hs : s.size ≤ 65536) (hE : ErrW w) :
    Calls Tryz.prog 56 #[.string s, .int .i64 k] w fun e w' => ((openB s k = true ∧ ∃ v, e = .returned v ∧ OwnN w' w.heap.size v (openL s k)) ∨ (openB s k = false ∧ Pan e)) ∧ Below w.heap.size w w' := by
  cases ho : openB s k
  · refine (readKind_no s k w hs (fun h => by rw [open_in.2 h] at ho; cases ho) hE).mono ?_
    rintro e w' ⟨h, hb⟩
    exact ⟨.inr ⟨rfl, h⟩, hb⟩
  · have h := open_in.1 ho
    refine (readKind_yes s k w hs h.1 h.2).mono ?_
    rintro e w' ⟨v, he, hv, hb⟩
    rw [← openL_yes ho] at hv
    exact ⟨.inl ⟨rfl, v, he, hv⟩, hb⟩
theorem readTable_any (s : ByteArray) (w : World) (hs : s.size ≤ 65536) (hE : ErrW w) :
    Calls Tryz.prog 52 #[.string s] w fun e w' => ((tdB s = true ∧ ∃ v, e = .returned v ∧ OwnN w' w.heap.size v (openL s 3)) ∨ (tdB s = false ∧ Pan e)) ∧ Below w.heap.size w w' := by
  cases ho : tdB s
  · refine (readTable_no s w hs ho hE).mono ?_
    rintro e w' ⟨h, hb⟩
    exact ⟨.inr ⟨rfl, h⟩, hb⟩
  · refine (readTable_yes s w hs ho).mono ?_
    rintro e w' ⟨v, he, hv, hb⟩
    exact ⟨.inl ⟨rfl, v, he, hv⟩, hb⟩

/-- A row without its first number. -/
theorem cut_one {w : World} {B qa : Nat} {qo : Option Addr} {xs : List Int} (h : OwnR w B 3 1 (.slice qo xs.length qa) xs.length (intV xs)) (h1 : 1 ≤ xs.length) :
    ∃ qo', (∀ W : World, (Instr.sliceAt 27 (.slice qo xs.length qa) (some (.int .i64 1)) none none).run Tryz.prog W = .ok (.slice qo' (xs.length - 1) (qa - 1)) W) ∧ Is w qo' (xs.drop 1) := by
  have hI := ownRN h
  obtain ⟨b, off, e, _⟩ := hI 0 (by omega)
  subst e
  have hu : Tryz.prog.underlying 27 = some (.slice (Tryz.prog.elem 27)) := by kernel_rfl
  have hc : xs.length ≤ qa := by
    rcases h with ⟨h0, _⟩ | ⟨h0, h⟩
    · omega
    · rcases h.2 with ⟨_, h1⟩ | ⟨g, cap', cur, e, _, _, hc, _⟩
      · omega
      · simp only [Value.slice.injEq, true_and] at e
        omega
  refine ⟨if qa = 1 then some ⟨b, off, none⟩ else some ⟨b, off + 1, none⟩, fun W => ?_, ?_⟩
  · have hz : (Go.sizeOf (Tryz.prog.elem 27)).run Tryz.prog W = .ok 1 W := by kernel_rfl
    rw [run_sliceAt_slice _ _ _ _ _ _ hu, run_slice_l _ _ _ _ _ hu .i64 1 (by omega) (by omega), hz]
    simp only [Result.andThen, sliced]
    by_cases hq : qa = 1
    · simp [hq]
    · simp [hq, Addr.add]
  · intro i hi
    rw [List.length_drop] at hi
    have hq : qa ≠ 1 := by omega
    obtain ⟨b', off', e, hcl⟩ := hI (1 + i) (by omega)
    cases e
    refine ⟨b, off + 1, if_neg hq, ?_⟩
    rw [show off + 1 + i = off + (1 + i) by omega, hcl, List.getElem_drop]

theorem noSs_own2 {w : World} {B e cap : Nat} {ao : Option Addr} {ss : List ByteArray} (h : OwnR w B e 1 (.slice ao ss.length cap) ss.length (strV ss)) (hz : ∀ s ∈ ss, s.size ≤ maxLen) : Ss w ao ss := by
  rcases h with ⟨h0, _⟩ | ⟨_, h⟩
  · intro i hi; omega
  · exact ownS h hz
/-- What names a text tells, and whether it does. -/
def nmsL (s : ByteArray) : List ByteArray := ((openL s 1).drop 1).map (fun x => unI x.toNat)
def nmsH (s : ByteArray) : Bool := decide (0 < (openL s 1).length) && (decide ((openL s 1).getD 0 0 ≤ 3) && decide ((openL s 1).getD 0 0 = (openL s 1).length - 1))
def nmsB (s : ByteArray) : Bool := openB s 1 && (nmsH s && (nmsL s).all snmB)
theorem nms_no {s : ByteArray} (h : openB s 1 = false) : nmsB s = false := by rw [nmsB, h]; rfl
theorem nms_head {s : ByteArray} (h : nmsH s = false) : nmsB s = false := by rw [nmsB, h]; simp
theorem nms_bad {s : ByteArray} {k : Nat} (hk : k < (nmsL s).length) (h : snmB (nmsL s)[k] = false) : nmsB s = false := by rw [nmsB, all_not (p := snmB) hk h]; simp
theorem nms_yes {s : ByteArray} (h1 : openB s 1 = true) (h2 : nmsH s = true) (h3 : ∀ j (hj : j < (nmsL s).length), snmB (nmsL s)[j] = true) : nmsB s = true := by rw [nmsB, h1, h2, all_of (p := snmB) (fun i hi _ => h3 i hi)]; rfl

set_option maxHeartbeats 3200000 in
theorem readNames_any (s : ByteArray) (w : World) (hs : s.size ≤ 65536) (hE : ErrW w) :
    Calls Tryz.prog 25 #[.string s] w fun e w' => ((nmsB s = true ∧ ∃ qo qa, e = .returned (.slice qo (nmsL s).length qa) ∧ Ss w' qo (nmsL s)) ∨ (nmsB s = false ∧ Pan e)) ∧ Below w.heap.size w w' := by
  have HE := hide hE
  clear hE
  obtain ⟨j0, hj, hy0, hy1, hy2⟩ := info_parts infoS
  go_enter Tryz.func25, Tryz.ntmps25
  go_wp2_with fail
  refine (readKind_any s 1 _ hs (unhide HE)).mono ?_
  rintro e w1 ⟨⟨ho, v, rfl, qo, qa, rfl, hv⟩ | ⟨ho, u, pv, rfl⟩, hb⟩
  case inr =>
    have HF := hide (nms_no ho)
    have HB := hide hb
    clear hb ho
    go_wp2
    exact ⟨rfl, .inr ⟨unhide HF, _, _, rfl⟩, unhide HB⟩
  have HO := hide ho
  have HIN : Hid (∀ j (hj : j < (openL s 1).length), 0 ≤ (openL s 1)[j] ∧ (openL s 1)[j] ≤ 2147483647) := hide (openL_in ho)
  have HV := hide hv
  have HB := hide hb
  have HLEN : Hid ((openL s 1).length ≤ 16384) := hide (by
    have h1 := unL_length (bodyT s)
    have h2 := bodyT_size s
    rw [openL_yes ho, h1]; omega)
  have HE1 := hide ((unhide HE).below hb)
  clear hv hb ho HE
  obtain ⟨L, HLQ⟩ : ∃ L, Hid (openL s 1 = L) := ⟨_, hide rfl⟩
  rw [unhide HLQ] at HIN HV HLEN ⊢
  have hl16 := unhide HLEN
  have HIS := hide (ownRN (unhide HV))
  by_cases h0 : 0 < L.length
  case neg =>
    have HF : Hid (nmsB s = false) := hide (nms_head (by rw [nmsH, unhide HLQ, decide_eq_false h0]; rfl))
    have hl0 : L.length = 0 := by omega
    have hz : (L.length : Int) = 0 := by omega
    rw [hl0]
    go_wp2_with (go_at_call 54; refine (demand_false _ (unhide HE1)).mono ?_; rintro e w' ⟨⟨u, pv, rfl⟩, hw⟩; replace hw := hw.symm; subst hw)
    exact ⟨rfl, .inr ⟨unhide HF, _, _, rfl⟩, unhide HB⟩
  have h0i : (0 : Int) < (L.length : Int) := by omega
  obtain ⟨b, off, rfl, hc0⟩ := unhide HIS 0 h0
  rw [Nat.add_zero] at hc0
  have HG0 : Hid (L.getD 0 0 = L[0]) := hide (by simp [List.getD, h0])
  have hr0 := unhide HIN 0 h0
  by_cases h3 : L[0] ≤ 3
  case neg =>
    have HF : Hid (nmsB s = false) := hide (nms_head (by rw [nmsH, unhide HLQ, unhide HG0, decide_eq_false h3]; simp))
    generalize L[0] = X at *
    go_wp2_with (go_at_call 54; refine (demand_false _ (unhide HE1)).mono ?_; rintro e w' ⟨⟨u, pv, rfl⟩, hw⟩; replace hw := hw.symm; subst hw)
    exact ⟨rfl, .inr ⟨unhide HF, _, _, rfl⟩, unhide HB⟩
  have w1' : IntKind.i64.wrap ((L.length : Int) - 1) = (L.length : Int) - 1 := by rw [IntKind.wrap_i64]; omega
  by_cases he : L[0] = (L.length : Int) - 1
  case neg =>
    have HF : Hid (nmsB s = false) := hide (nms_head (by rw [nmsH, unhide HLQ, unhide HG0, decide_eq_false he]; simp))
    have heb : (L[0] == (L.length : Int) - 1) = false := by simp [he]
    generalize L[0] = X at *
    clear he
    go_wp2_with (go_at_call 54; refine (demand_false _ (unhide HE1)).mono ?_; rintro e w' ⟨⟨u, pv, rfl⟩, hw⟩; replace hw := hw.symm; subst hw)
    exact ⟨rfl, .inr ⟨unhide HF, _, _, rfl⟩, unhide HB⟩
  have HH : Hid (nmsH s = true) := hide (by rw [nmsH, unhide HLQ, unhide HG0, decide_eq_true h0, decide_eq_true h3, decide_eq_true he]; rfl)
  have heb : (L[0] == (L.length : Int) - 1) = true := by simp [he]
  have hl4 : L.length ≤ 4 := by omega
  obtain ⟨qo', hsl, hcut⟩ := cut_one (unhide HV) (by omega)
  have HCUT := hide hcut
  have HNM : Hid (nmsL s = (L.drop 1).map (fun x => unI x.toNat)) := hide (by rw [nmsL, unhide HLQ])
  have HLD : Hid ((L.drop 1).length = L.length - 1) := hide (by simp)
  have HID : Hid (∀ j (hj : j < (L.drop 1).length), 0 ≤ (L.drop 1)[j] ∧ (L.drop 1)[j] ≤ 2147483647) := hide (fun j hj => by rw [List.getElem_drop]; exact unhide HIN _ _)
  have HU0 : Hid (OwnR w1 w1.heap.size 9 1 (.slice none 0 0) 0 (strV (((L.drop 1).map (fun x => unI x.toNat)).take 0))) := hide (.inl ⟨rfl, by simp [strV], none, rfl⟩)
  clear hcut HG0 HIS hr0
  have hd1 : ((L.length - 1 : Nat) : Int) = (L.length : Int) - 1 := by omega
  have HLN : Hid (L.length - 1 ≤ 3) := hide (by omega)
  generalize L[0] = X at *
  generalize hDD : L.drop 1 = DD at *
  generalize hNN : L.length - 1 = NN at *
  clear he hDD
  go_wp2_with (go_at_call 54; refine (demand_true _).mono ?_; rintro e w' ⟨rfl, hw⟩; replace hw := hw.symm; subst hw)
  go_loopw [4, 31] (fun o i wr => ∃ (k : Nat) (ro : Option Addr) (ra : Nat), k ≤ NN ∧ i = .int .i64 k ∧ o = .slice ro k ra ∧ Hid (∀ j (hj : j < DD.length), j < k → snmB (unI DD[j].toNat) = true) ∧ Hid (OwnR wr w1.heap.size 9 1 (.slice ro k ra) k (strV ((DD.map (fun x => unI x.toNat)).take k))) ∧ Hid (Below w1.heap.size w1 wr)) (fun _ i _ => NN - (intOf i).toNat)
  case atStart => exact ⟨0, none, 0, Nat.zero_le _, rfl, rfl, hide (fun j _ h => by omega), HU0, hide (Below.refl _ _)⟩
  case round =>
    clear HU0
    obtain ⟨k, ro, ra, hk, rfl, rfl, HA, HU, HB2⟩ := hrel
    have hnn3 := unhide HLN
    by_cases hlt : k < NN
    · have hkd : k < DD.length := by rw [unhide HLD]; exact hlt
      have hlti : (k : Int) < (NN : Int) := by omega
      obtain ⟨b', off', rfl, hck⟩ := ((unhide HCUT).below (unhide HB2)) k hkd
      obtain ⟨x0, x1⟩ := unhide HID k hkd
      obtain ⟨N, hN⟩ := Int.eq_ofNat_of_zero_le x0
      have HNQ : Hid (unI DD[k].toNat = unI N) := hide (by rw [hN]; rfl)
      rw [hN] at hck
      have hN2 : N ≤ 2147483647 := by omega
      have hNM : k < (nmsL s).length := by rw [unhide HNM, List.length_map]; exact hkd
      have HAT : Hid ((nmsL s)[k] = unI N) := hide (by
        have : (nmsL s)[k]? = some (unI N) := by rw [unhide HNM, List.getElem?_map, List.getElem?_eq_getElem hkd, Option.map_some, unhide HNQ]
        rw [List.getElem?_eq_getElem hNM] at this
        exact Option.some.inj this)
      have HBAD : Hid (snmB (unI N) = false → nmsB s = false) := hide (fun h => nms_bad hNM (by rw [unhide HAT]; exact h))
      have HST : Hid (strV ((DD.map (fun x => unI x.toNat)).take (k + 1)) = strV ((DD.map (fun x => unI x.toNat)).take k) ++ [.string (unI N)]) := hide (by
        rw [List.take_succ_eq_append_getElem (by simpa using hkd)]
        simp only [strV, List.map_append, List.getElem_map, unhide HNQ]; rfl)
      clear hN x0 x1 hNM HAT
      go_wp2_with fail
      refine (readName_any N _ hN2 ((unhide HE1).below (unhide HB2))).mono ?_
      rintro e w3 ⟨⟨hs3, rfl⟩ | ⟨hs3, u, pv, rfl⟩, hb3⟩
      case inr =>
        have HF := hide (unhide HBAD hs3)
        have HB3 := hide (fr (unhide HB) (fr (unhide HB2) hb3))
        clear hb3 hs3
        go_wp2
        exact ⟨rfl, .inr ⟨unhide HF, _, _, rfl⟩, unhide HB3⟩
      have HA2 : Hid (∀ j (hj : j < DD.length), j < k + 1 → snmB (unI DD[j].toNat) = true) := hide (fun j hj h => by
        by_cases e : j = k
        · subst e; rw [unhide HNQ]; exact hs3
        · exact unhide HA j hj (by omega))
      have HU3 := hide ((unhide HU).below hb3)
      have HB3 := hide (fr (unhide HB2) hb3)
      clear hb3 hs3 hck HA HU HB2 HBAD
      have HOA := hide ((unhide HU3).below (Joins.below_alloc1 _ (.cells #[.string (unI N)] 9)))
      have HBA := hide (fr (unhide HB3) (Joins.below_alloc1 _ (.cells #[.string (unI N)] 9)))
      have HSZ := hide (unhide HB3).size
      go_wp2_with (at_builtin; refine wpList_append_one rfl _ _ 22 rfl w1.heap.size 9 j0 (.string ⟨#[]⟩) 1 16 Tryz.underlying22 hj hy0 hy1 hy2 rfl (by omega) ro k ra (strV ((DD.map (fun x => unI x.toNat)).take k)) rfl (unhide HOA) (by have := unhide HSZ; simp; omega) ⟨w3.heap.size, 0, none⟩ _ [.string (unI N)] rfl rfl (byte_news w3 _ _) (str_one _) (by unfold maxLen; omega) (by omega) ?_; intro g2 cap2 wA hoA hkA; have HSF := hide (And.intro hoA (keep_below (unhide HBA) (unhide HOA) (Nat.le_refl _) hkA)); clear hoA hkA)
      go_roundw
      case rel => exact ⟨k + 1, some ⟨g2, 0, none⟩, cap2, by omega, by go_num, rfl, HA2, hide (.inr ⟨by omega, by rw [unhide HST]; exact (unhide HSF).1⟩), hide (unhide HSF).2⟩
      case measure => simp [intOf]; omega
    · have hke : k = NN := by omega
      have HNL : Hid ((nmsL s).length = k) := hide (by rw [unhide HNM, List.length_map, unhide HLD, hke])
      have HAL : Hid (∀ j (hj : j < (nmsL s).length), snmB (nmsL s)[j] = true) := hide (fun j hj => by
        have hjd : j < DD.length := by rw [unhide HNM, List.length_map] at hj; exact hj
        have : (nmsL s)[j]? = some (unI DD[j].toNat) := by rw [unhide HNM, List.getElem?_map, List.getElem?_eq_getElem hjd, Option.map_some]
        rw [List.getElem?_eq_getElem hj] at this
        rw [Option.some.inj this]
        exact unhide HA j hjd (by rw [unhide HLD] at hjd; omega))
      have HSS : Hid (Ss wr ro (nmsL s)) := hide (by
        have h := unhide HU
        rw [List.take_of_length_le (by rw [List.length_map, unhide HLD, hke]; exact Nat.le_refl _), ← unhide HNM, ← unhide HNL] at h
        refine noSs_own2 h (fun x hx => ?_)
        obtain ⟨q, hq, rfl⟩ := List.mem_iff_getElem.1 hx
        have := (snm_parts (unhide HAL q hq)).2.2
        unfold maxLen; omega)
      have HF := hide (nms_yes (unhide HO) (unhide HH) (unhide HAL))
      have HBE := hide (fr (unhide HB) (unhide HB2))
      clear hke
      go_wp2
      go_ret
      exact ⟨.inl ⟨unhide HF, ro, ra, by rw [unhide HNL]; rfl, unhide HSS⟩, unhide HBE⟩

/-- The number that a text holds alone. -/
def vlB (s : ByteArray) : Bool := openB s 4 && decide ((openL s 4).length = 1)
set_option maxHeartbeats 1600000 in
theorem readValue_any (s : ByteArray) (w : World) (hs : s.size ≤ 65536) (hE : ErrW w) :
    Calls Tryz.prog 53 #[.string s] w fun e w' => ((vlB s = true ∧ e = .returned (.int .i64 ((openL s 4).getD 0 0))) ∨ (vlB s = false ∧ Pan e)) ∧ Below w.heap.size w w' := by
  have HE := hide hE
  clear hE
  go_enter Tryz.func53, Tryz.ntmps53
  go_wp2_with fail
  refine (readKind_any s 4 _ hs (unhide HE)).mono ?_
  rintro e w1 ⟨⟨ho, v, rfl, qo, qa, rfl, hv⟩ | ⟨ho, u, pv, rfl⟩, hb⟩
  case inr =>
    have HF : Hid (vlB s = false) := hide (by rw [vlB, ho]; rfl)
    have HB := hide hb
    clear hb ho
    go_wp2
    exact ⟨rfl, .inr ⟨unhide HF, _, _, rfl⟩, unhide HB⟩
  have HV := hide (ownRN hv)
  have HB := hide hb
  have HE1 := hide ((unhide HE).below hb)
  have HO := hide ho
  have HLEN : Hid ((openL s 4).length ≤ 16384) := hide (by
    have h1 := unL_length (bodyT s)
    have h2 := bodyT_size s
    rw [openL_yes ho, h1]; omega)
  clear hv hb ho HE
  have hl16 := unhide HLEN
  by_cases h1 : (openL s 4).length = 1
  case neg =>
    have HF : Hid (vlB s = false) := hide (by rw [vlB, decide_eq_false h1]; simp)
    have heb : (((openL s 4).length : Int) == 1) = false := by simp; omega
    clear h1
    generalize openL s 4 = L at *
    go_wp2_with (go_at_call 54; refine (demand_false _ (unhide HE1)).mono ?_; rintro e w' ⟨⟨u, pv, rfl⟩, hw⟩; replace hw := hw.symm; subst hw)
    exact ⟨rfl, .inr ⟨unhide HF, _, _, rfl⟩, unhide HB⟩
  have HF : Hid (vlB s = true) := hide (by rw [vlB, unhide HO, decide_eq_true h1]; rfl)
  obtain ⟨b, off, rfl, hc0⟩ := unhide HV 0 (by omega)
  rw [Nat.add_zero] at hc0
  have HG : Hid ((openL s 4).getD 0 0 = (openL s 4)[0]) := hide (by simp [List.getD, h1])
  rw [h1]
  generalize (openL s 4)[0] = X at *
  clear h1
  go_wp2_with (go_at_call 54; refine (demand_true _).mono ?_; rintro e w' ⟨rfl, hw⟩; replace hw := hw.symm; subst hw)
  go_ret
  exact ⟨.inl ⟨unhide HF, by rw [unhide HG]; rfl⟩, unhide HB⟩

end Go.Proofs.YtkaiglhljpehpabGreatDoor

/- Contracts of the program's counts: RefsOK, clusterOK, countsOf, countsWith, list, RefUp. -/
namespace Go.Proofs.YtkaiglhljpehpabGreatDoor
open Go.RowKit
set_option linter.unusedVariables false
set_option maxRecDepth 100000

theorem sizeA24 : (Tryz.prog.info? 78).map (·.size) = some 24 := by kernel_rfl
theorem arr24 : Tryz.prog.arrayLen 78 = 24 := by kernel_rfl
theorem und24 : Tryz.prog.underlying 78 = some (.array 24 3) := by kernel_rfl
theorem sizeA {xs : List Int} (h : xs.length = 24) : (Tryz.prog.info? 78).map (·.size) = some (intV xs).toArray.size := by rw [intV_size, h]; exact sizeA24
theorem sizeL {xs : List Int} (h : xs.length = 24) : (Tryz.prog.info? 78).map (·.size) = some (intV xs).length := by rw [intV_length, h]; exact sizeA24

set_option maxHeartbeats 800000 in
theorem refsOK_impl (ao : Option Addr) (cap : Nat) (xs : List Int) (w : World) (hl : xs.length ≤ maxLen) (hc : Is w ao xs) :
    Calls Tryz.prog 87 #[.slice ao xs.length cap] w fun e w' => e = .returned (.bool (ctB xs)) ∧ w' = w := by
  have HC := hide hc
  clear hc
  unfold maxLen at hl
  by_cases h24 : xs.length = 24
  · have hb : ((xs.length : Int) != 24) = false := by simp [h24]
    have H24 := hide h24
    clear h24
    go_enter Tryz.func87, Tryz.ntmps87
    go_wp2
    go_loop [10] (fun i => ∃ k : Nat, k ≤ xs.length ∧ i = .int .i64 k ∧ Hid (∀ j (h : j < xs.length), j < k → cnt1 xs[j] = true)) (fun i => xs.length - (intOf i).toNat)
    case atStart => exact ⟨0, Nat.zero_le _, rfl, hide (fun j _ h => by omega)⟩
    case round =>
      obtain ⟨k, hk, rfl, HA⟩ := hrel
      by_cases hlt : k < xs.length
      · obtain ⟨b, off, rfl, hc⟩ := unhide HC k hlt
        by_cases hn : cnt1 xs[k] = true
        · have HN := hide (all_succ hlt (unhide HA) hn)
          have hn' : betw xs[k] 0 15 = true := hn
          clear hn
          go_wp2_with (go_at_call 86; refine (within_any _ _ _ _).mono ?_; rintro e w' ⟨rfl, rfl⟩)
          go_round
          case rel => exact ⟨k + 1, by omega, by go_num, HN⟩
          case measure => simp [intOf]; omega
        · have hn0 : cnt1 xs[k] = false := by simpa using hn
          have hn' : betw xs[k] 0 15 = false := hn0
          have HF := hide (ctB_noat hlt hn0)
          clear hn hn0
          go_wp2_with (go_at_call 86; refine (within_any _ _ _ _).mono ?_; rintro e w' ⟨rfl, rfl⟩)
          go_ret
          exact ⟨ret_bool (unhide HF).symm, rfl⟩
      · have HF := hide (ctB_of (unhide H24) (fun j h => unhide HA j h (by omega)))
        go_wp2
        go_ret
        exact ⟨ret_bool (unhide HF).symm, rfl⟩
  · have hb : ((xs.length : Int) != 24) = true := by simp; omega
    have HF := hide (ctB_nolen h24)
    clear h24
    go_enter Tryz.func87, Tryz.ntmps87
    go_wp2
    go_ret
    exact ⟨ret_bool (unhide HF).symm, rfl⟩

/-- An array of counts as a value. -/
abbrev ctV (xs : List Int) : Value := .agg (intV xs).toArray
theorem zero_arr : (#[.int .i64 0, .int .i64 0, .int .i64 0, .int .i64 0, .int .i64 0, .int .i64 0, .int .i64 0, .int .i64 0, .int .i64 0, .int .i64 0, .int .i64 0, .int .i64 0, .int .i64 0, .int .i64 0, .int .i64 0, .int .i64 0, .int .i64 0, .int .i64 0, .int .i64 0, .int .i64 0, .int .i64 0, .int .i64 0, .int .i64 0, .int .i64 0] : Array Value) = (intV zero24).toArray := rfl
theorem ret_ci {xs ys : List Int} {a b : Int} (h : xs = ys) (k : a = b) : Ending.returned (.tuple #[ctV xs, .int .i64 a]) = .returned (.tuple #[ctV ys, .int .i64 b]) := by rw [h, k]
theorem arr_new (w : World) : (w.alloc (.cells #[.int .i64 0, .int .i64 0, .int .i64 0, .int .i64 0, .int .i64 0, .int .i64 0, .int .i64 0, .int .i64 0, .int .i64 0, .int .i64 0, .int .i64 0, .int .i64 0, .int .i64 0, .int .i64 0, .int .i64 0, .int .i64 0, .int .i64 0, .int .i64 0, .int .i64 0, .int .i64 0, .int .i64 0, .int .i64 0, .int .i64 0, .int .i64 0] 78)).heap[w.heap.size]? = some (.cells (intV zero24).toArray 78 (0, 0)) := heap_alloc_new w _
theorem load_ct (W : World) {g : Nat} {xs : List Int} (h : W.heap[g]? = some (.cells (intV xs).toArray 78 (0, 0))) (hl : xs.length = 24) : (loadVar 78 ⟨g, 0, none⟩).run Tryz.prog W = .ok (ctV xs) W :=
  run_loadVar_row W g 78 78 (intV xs).toArray (0, 0) _ h und24 rfl (sizeA hl)

theorem res_ct {W : World} {g : Nat} {xs : List Int} {p u : Value} (h : W.heap[g]? = some (.cells (intV xs).toArray 78 (0, 0))) (hl : xs.length = 24) (hp : p = .pointer (some ⟨g, 0, none⟩)) : (((asAddr p).run Tryz.prog W).andThen fun a w₁ => ((loadVar 78 a).run Tryz.prog w₁).andThen fun v w₂ => .ok (Value.tuple #[v, u]) w₂) = .ok (Value.tuple #[ctV xs, u]) W := by
  subst hp
  simp only [asAddr, Sem.run_pure, Result.andThen_ok, load_ct W h hl]

/-- An array of counts in a variable. -/
abbrev VarC (W : World) (g : Nat) (xs : List Int) : Prop := W.heap[g]? = some (.cells (intV xs).toArray 78 (0, 0))
theorem cw_bad {xs : List Int} {c : Int} (h : ctF xs ≠ 0) : cwF xs c = ctF xs ∧ cwR xs c = zero24 := by
  have e : cwF xs c = ctF xs := by rw [cwF, if_neg h]
  exact ⟨e, by rw [cwR, e, if_neg h]⟩
theorem cw_out {xs : List Int} {c : Int} (h : ctF xs = 0) (hc : betw c 0 23 = false) : cwF xs c = 4 ∧ cwR xs c = zero24 := by
  have e : cwF xs c = 4 := by rw [cwF, if_pos h, hc]; rfl
  exact ⟨e, by rw [cwR, e]; rfl⟩
theorem cw_in {xs : List Int} {c : Int} (h : ctF xs = 0) (hc : betw c 0 23 = true) : cwF xs c = 0 ∧ cwR xs c = xs := by
  have e : cwF xs c = 0 := by rw [cwF, if_pos h, hc]; rfl
  exact ⟨e, by rw [cwR, e]; rfl⟩
theorem ctF_ne (xs : List Int) (h : ctF xs ≠ 0) : (ctF xs != 0) = true := by simpa using h

theorem intV_ones (xs : List Int) : ∀ v ∈ intV xs, v.oneCell' = true := by
  intro v hv
  simp only [intV, List.mem_map] at hv
  obtain ⟨n, _, rfl⟩ := hv
  rfl
theorem sizeI1 : (Tryz.prog.info? 3).map (·.size) = some 1 := by kernel_rfl
theorem runI1 (W : World) : (Go.sizeOf 3).run Tryz.prog W = .ok 1 W := by
  have h := sizeI1
  cases hq : Tryz.prog.info? 3 with
  | none => simp [hq] at h
  | some i =>
    have hi : i.size = 1 := by simpa [hq] using h
    simp [Go.sizeOf, typeInfo, hq, hi]
set_option maxHeartbeats 1600000 in
theorem copyI_any (b off cap : Nat) (ss : List Int) (w : World) (hl : ss.length ≤ 1048576) (h0 : 0 < ss.length) (hbl : b < w.heap.size) (hc : w.rangeAt b off (intV ss)) :
    Calls Tryz.prog 71 #[.slice (some ⟨b, off, none⟩) ss.length cap] w fun e w' => e = .returned (.slice (some ⟨w.heap.size, 0, none⟩) ss.length ss.length) ∧ w'.ownsRow w.heap.size 3 1 (.slice (some ⟨w.heap.size, 0, none⟩) ss.length ss.length) ss.length (intV ss) ∧ Below w.heap.size w w' := by
  have hb : ((ss.length : Int) == 0) = false := beq_eq_false_iff_ne.2 (by omega)
  have HCS := hide hc
  have HP := hide h0
  clear hc h0
  obtain ⟨i0, hi, hz0, hz1, hz2⟩ := info_parts infoM
  go_enter Tryz.func71, Tryz.ntmps71
  go_wp2_with (first | (at_make; refine wpList_make_full _ rfl _ _ 27 rfl w.heap.size 3 i0 _ 1 Tryz.underlying27 hi hz0 hz1 _ _ _ _ ss.length rfl rfl rfl rfl ?c1 ?c2 ?c3 ?_))
  case c1 => rw [hz2]; omega
  case c2 => unfold maxLen; omega
  case c3 => exact Nat.le_refl _
  intro w1 hown hgrow
  have hB : Below w.heap.size w w1 := (Below.refl _ _).grown hgrow (Nat.le_refl _) (fun _ h => by cases h)
  have HO := hide hown
  have HB := hide hB
  have HC1 : Hid (∀ j v, (intV ss)[j]? = some v → w1.cell? (Addr.add ⟨b, off, none⟩ j) = some v) := hide (fun j v hv => ((unhide HB).cell (by unfold Addr.add; split <;> exact hbl)).trans (by rw [Addr.add_mid]; exact unhide HCS j v hv))
  clear hown hgrow hB
  go_wp2_with (refine wpList_copy_whole rfl _ _ 27 27 rfl 3 1 Tryz.underlying27 sizeI1 w.heap.size w.heap.size ss.length ⟨b, off, none⟩ _ rfl rfl _ (unhide HO) (intV ss) (by rw [intV_length]; omega) (unhide HC1) (intV_ones ss) ?_; intro w2 ho2 hg2)
  have HB2 := hide ((unhide HB).grown hg2 (unhide HB).size (fun k h => by cases h; exact Nat.le_refl _))
  have HO2 := hide ho2
  clear ho2 hg2
  go_ret
  exact ⟨rfl, unhide HO2, unhide HB2⟩

theorem slice24 (W : World) (g : Nat) : (Instr.sliceAt 78 (.pointer (some ⟨g, 0, none⟩)) none none none).run Tryz.prog W = .ok (.slice (some ⟨g, 0, none⟩) 24 24) W := by
  have hu : Tryz.prog.underlying 78 = some (.array (Tryz.prog.arrayLen 78) (Tryz.prog.elem 78)) := by kernel_rfl
  have he : Tryz.prog.elem 78 = 3 := by kernel_rfl
  rw [run_sliceAt_array_all W _ _ hu, he, runI1, arr24]
  simp only [Result.andThen, slicedAt, Nat.mul_one, Nat.sub_zero]
  rfl
set_option maxHeartbeats 1600000 in
theorem list_any (xs : List Int) (w : World) (hl : xs.length = 24) :
    Calls Tryz.prog 51 #[ctV xs] w fun e w' => ∃ g, e = .returned (.slice (some ⟨g, 0, none⟩) 24 24) ∧ w'.ownsRow w.heap.size 3 1 (.slice (some ⟨g, 0, none⟩) 24 24) 24 (intV xs) ∧ Below w.heap.size w w' := by
  have HN : Hid (VarC (w.alloc (.cells (intV xs).toArray 78)) w.heap.size xs) := hide (heap_alloc_new w _)
  have HA := hide (Joins.below_alloc1 w (.cells (intV xs).toArray 78))
  have HL := hide hl
  have hsl := fun W => slice24 W w.heap.size
  clear hl
  go_enter Tryz.func51, Tryz.ntmps51
  go_upto_region 1 with fail
  revert HN HA
  generalize (w.alloc _) = W1
  intro HN HA
  go_wp2_with fail
  have k := copyI_any w.heap.size 0 24 xs W1 (by rw [unhide HL]; omega) (by rw [unhide HL]; omega) (Array.getElem?_eq_some_iff.1 (unhide HN)).1 (fun j v hv => by rw [Nat.zero_add, Joins.cell_of_block (unhide HN)]; simpa using hv)
  rw [unhide HL] at k
  refine k.mono ?_
  rintro e w2 ⟨rfl, ho, hb⟩
  have HO := hide (own_base ho (unhide HA).size)
  have HB := hide (fr (unhide HA) hb)
  clear ho hb k
  go_wp2
  go_ret
  exact ⟨_, rfl, unhide HO, unhide HB⟩

theorem idx24 (W : World) (xs : List Int) (k : Nat) (hl : xs.length = 24) (hk : k < xs.length) : (Instr.index 78 (ctV xs) (.int .i64 k)).run Tryz.prog W = .ok (.int .i64 xs[k]) W := by
  have hu := und24
  have hk' : k < 24 := by omega
  have h2 := sizeI1
  cases hq : Tryz.prog.info? 3 with
  | none => simp [hq] at h2
  | some i =>
    have hi : i.size = 1 := by simpa [hq] using h2
    simp [Instr.index, run_underlying, hu, sizeOf, typeInfo, hq, hi, intV, asIntOf, part, hk]
    intro h
    omega

end Go.Proofs.YtkaiglhljpehpabGreatDoor

/- Contract of impl.RefUp. -/
namespace Go.Proofs.YtkaiglhljpehpabGreatDoor
open Go.RowKit
set_option linter.unusedVariables false
set_option maxRecDepth 100000

/-- What the program's own lists of counts are like. -/
theorem own24 {W : World} {B g : Nat} {xs : List Int} (h : W.ownsRow B 3 1 (.slice (some ⟨g, 0, none⟩) 24 24) 24 (intV xs)) (hl : xs.length = 24) : OwnN W B (.slice (some ⟨g, 0, none⟩) 24 24) xs := by
  refine ⟨some ⟨g, 0, none⟩, 24, by rw [hl], ?_⟩
  rw [hl]
  exact .inr ⟨by omega, h⟩
theorem cw_ne {n : Int} (h : n ≠ 0) : (n != 0) = true := by simpa using h

end Go.Proofs.YtkaiglhljpehpabGreatDoor

/- Contracts of impl.readCounts, impl.readText at counts, impl.DecodeRefs. -/
namespace Go.Proofs.YtkaiglhljpehpabGreatDoor
open Go.RowKit
set_option linter.unusedVariables false
set_option maxRecDepth 100000

theorem and15 {V : Int} (h0 : 0 ≤ V) (h1 : V ≤ 2147483647) : bits .and .i64 V 15 = V % 16 := by
  obtain ⟨n, rfl⟩ := Int.eq_ofNat_of_zero_le h0
  have h := (bits_nat .i64 63 (by decide) (fun n a b => wraps_i64 n a b) n 15 (by omega) (by omega)).1
  have e2 : (15 : Int) = ((15 : Nat) : Int) := rfl
  rw [e2, h, show (15 : Nat) = 2 ^ 4 - 1 from rfl, Nat.and_two_pow_sub_one_eq_mod]
  omega
theorem open_yes2 {s : ByteArray} (h : openB s 2 = true) : RecP s ∧ byteAt s 0 = 2 := by
  simp only [openB, Bool.and_eq_true, decide_eq_true_eq] at h
  exact ⟨recB_iff.1 h.1, h.2⟩
theorem open_no2 {s : ByteArray} (h : openB s 2 = false) : ¬ (RecP s ∧ byteAt s 0 = 2) := by
  rintro ⟨a, b⟩
  rw [openB_yes a b] at h
  cases h

theorem keep_cell1 {w w' : World} {S : Nat → Prop} {b off : Nat} {v : Value} (hk : Keep S w w') (hb : ¬ S b) (h : w.cell? ⟨b, off, none⟩ = some v) : w'.cell? ⟨b, off, none⟩ = some v := by
  have hl := World.block_lt_of_cell? _ _ h
  rw [← h]
  unfold World.cell?
  simp only [hk.block b hl hb]
theorem errW_keep {w w' : World} {S : Nat → Prop} (h : ErrW w) (hk : Keep S w w') (hs : ∀ k, S k → 0 ≠ k) : ErrW w' := by
  obtain ⟨u, pv, hc⟩ := h
  exact ⟨u, pv, keep_cell1 hk (fun hS => hs _ hS rfl) hc⟩
theorem errW_pos {w : World} (h : ErrW w) : 0 < w.heap.size := by
  obtain ⟨u, pv, hc⟩ := h
  exact World.block_lt_of_cell? _ _ hc
/-- What reading counts comes to. -/
def RdC (s : ByteArray) (e : Ending) : Prop := (cdB s = true ∧ e = .returned (ctV (cdL s))) ∨ (cdB s = false ∧ ∃ u pv, e = .panicked [{ v := .iface u pv, recovered := false }])

set_option maxHeartbeats 3200000 in
theorem readCounts_any (s : ByteArray) (w : World) (hs : s.size ≤ 65536) (hE : ErrW w) :
    Calls Tryz.prog 50 #[.string s] w fun e w' => RdC s e ∧ Below w.heap.size w w' := by
  have HN := hide (arr_new w)
  have HA := hide (Joins.below_alloc1 w (.cells #[.int .i64 0, .int .i64 0, .int .i64 0, .int .i64 0, .int .i64 0, .int .i64 0, .int .i64 0, .int .i64 0, .int .i64 0, .int .i64 0, .int .i64 0, .int .i64 0, .int .i64 0, .int .i64 0, .int .i64 0, .int .i64 0, .int .i64 0, .int .i64 0, .int .i64 0, .int .i64 0, .int .i64 0, .int .i64 0, .int .i64 0, .int .i64 0] 78))
  have HE := hide (hE.below (unhide HA))
  have HPS := hide (errW_pos hE)
  clear hE
  go_enter Tryz.func50, Tryz.ntmps50
  go_upto_region 1 with fail
  revert HN HA HE
  generalize (w.alloc _) = W0
  intro HN HA HE
  cases hop : openB s 2
  · have HNO := hide (open_no2 hop)
    have HF := hide (cd_open hop)
    clear hop
    go_wp2_with fail
    refine (readKind_no s 2 _ hs (unhide HNO) (unhide HE)).mono ?_
    rintro e w1 ⟨⟨u, pv, rfl⟩, hb⟩
    have HB := hide (fr (unhide HA) hb)
    clear hb
    go_wp2
    exact ⟨rfl, .inr ⟨unhide HF, _, _, rfl⟩, unhide HB⟩
  have HYE := hide (open_yes2 hop)
  have HLE := hide (openL_yes hop)
  have HIN := hide (openL_in hop)
  have HNUM : Hid (∀ k (hk : k < (openL s 2).length), cdN (openL s 2)[k] = false → cdB s = false) := hide (fun k hk h => cd_num hk h)
  have HYES : Hid ((openL s 2).length = 4 → (∀ j (hj : j < (openL s 2).length), cdN (openL s 2)[j] = true) → cdB s = true) := hide (fun h4 h => cd_yes hop h4 h)
  have HCL : Hid (cdL s = sxA (openL s 2) 4) := hide rfl
  have HLEN : Hid (¬ (openL s 2).length = 4 → cdB s = false) := hide cd_len
  clear hop
  go_wp2_with fail
  refine (readKind_yes s 2 _ hs (unhide HYE).1 (unhide HYE).2).mono ?_
  rintro e w1 ⟨v, rfl, ⟨qo, qa, rfl, ho⟩, hb⟩
  rw [← unhide HLE] at ho ⊢
  have HI := hide (ownRN ho)
  have HB := hide (fr (unhide HA) hb)
  have HN1 := hide (block_of_below (unhide HN) hb)
  have HE1 := hide ((unhide HE).below hb)
  clear ho hb HA HN HE HLE HYE
  generalize openL s 2 = ns at *
  by_cases h4 : ns.length = 4
  · have H4 := hide h4
    have b4 : (((ns.length : Nat) : Int) == 4) = true := by simp [h4]
    clear h4 HLEN
    have HNN := hide (arr_new w1)
    have HAA := hide (Joins.below_alloc1 w1 (.cells #[.int .i64 0, .int .i64 0, .int .i64 0, .int .i64 0, .int .i64 0, .int .i64 0, .int .i64 0, .int .i64 0, .int .i64 0, .int .i64 0, .int .i64 0, .int .i64 0, .int .i64 0, .int .i64 0, .int .i64 0, .int .i64 0, .int .i64 0, .int .i64 0, .int .i64 0, .int .i64 0, .int .i64 0, .int .i64 0, .int .i64 0, .int .i64 0] 78))
    have HSZ : Hid (w.heap.size < w1.heap.size) := hide (Array.getElem?_eq_some_iff.1 (unhide HN1)).1
    go_upto_region 4 with (go_at_call 54; refine (demand_true _).mono ?_; rintro e w' ⟨rfl, hw⟩; replace hw := hw.symm; subst hw)
    have HI2 := hide ((unhide HI).below (unhide HAA))
    have HB2 := hide (fr (unhide HB) (unhide HAA))
    have HN2 := hide (block_of_below (unhide HN1) (unhide HAA))
    have HE2 := hide ((unhide HE1).below (unhide HAA))
    have HLTS : Hid (∀ b off, qo = some ⟨b, off, none⟩ → b < w1.heap.size) := hide (fun b off e => by
      obtain ⟨b', off', e', hc⟩ := (unhide HI) 0 (by have := unhide H4; omega)
      rw [e] at e'
      cases e'
      exact World.block_lt_of_cell? _ _ hc)
    clear HI HB HN1 HE1 HAA
    revert HNN HI2 HB2 HN2 HE2
    generalize (w1.alloc _) = W2
    intro HNN HI2 HB2 HN2 HE2
    generalize w1.heap.size = G at *
    have HNG : Hid (VarC W2 G (pad24 (sxA ns 0))) := hide (unhide HNN)
    clear HNN
    go_wp2
    go_loopw [16] (fun i wr => ∃ k : Nat, k ≤ ns.length ∧ i = .int .i64 k ∧ Hid (∀ j (h : j < ns.length), j < k → cdN ns[j] = true) ∧ Hid (VarC wr G (pad24 (sxA ns k))) ∧ Hid (Keep (fun b => b = G) W2 wr)) (fun i _ => ns.length - (intOf i).toNat)
    case atStart => exact ⟨0, Nat.zero_le _, rfl, hide (fun j _ h => by omega), HNG, hide (Keep.refl _ _)⟩
    case round =>
      clear HNG
      obtain ⟨k, hk, rfl, HAL, HV, HK⟩ := hrel
      by_cases hlt : k < ns.length
      · obtain ⟨b, off, rfl, hcl0⟩ := (unhide HI2) k hlt
        have hbl := unhide HLTS b off rfl
        have hcl : wr.cell? ⟨b, off + k, none⟩ = some (.int .i64 ns[k]) := keep_cell1 (unhide HK) (show ¬ b = G by omega) hcl0
        obtain ⟨hp0, hp1⟩ := unhide HIN k hlt
        have HP := hide (And.intro hp0 hp1)
        have HK4 : Hid (k < 4) := hide (by have := unhide H4; omega)
        have hk4i : (k : Int) < 4 := by have := unhide HK4; omega
        have HSU := hide (sxA_succ hlt)
        have HP6 : Hid (cdN ns[k] = true ↔ ns[k] / 16 ^ 6 = 0) := hide (by simp [cdN])
        have HNK := hide (unhide HNUM k hlt)
        have HAK := hide (fun (h : cdN ns[k] = true) => all_succ hlt (unhide HAL) h)
        have HSL := hide (sxA_len ns k hk)
        clear hcl0
        go_wp2
        clear hcl
        generalize ns[k] = p at *
        go_loopw [6, 7] (fun n c wq => ∃ m : Nat, m ≤ 6 ∧ c = .int .i64 ((6 * k + m : Nat) : Int) ∧ n = .int .i64 (p / 16 ^ m) ∧ Hid (VarC wq G (pad24 (sxA ns k ++ sxT p m))) ∧ Hid (Keep (fun b => b = G) W2 wq)) (fun _ c _ => 24 - (intOf c).toNat)
        case atStart => exact ⟨0, by omega, by go_num, by simp, hide (by simpa [sxT] using unhide HV), HK⟩
        case round =>
          clear HV HK
          obtain ⟨m, hm, rfl, rfl, HV, HK⟩ := hrel
          by_cases hm6 : m < 6
          · obtain ⟨r0, r1⟩ := rest_in (unhide HP).1 (unhide HP).2 m
            have HRS := hide (rest_succ p m)
            have HSS := hide (sxT_succ p m)
            have hk4n := unhide HK4
            have HLN : Hid ((sxA ns k ++ sxT p m).length = 6 * k + m) := hide (by rw [List.length_append, unhide HSL, sxT_len])
            have hlc : ((6 * k + m : Nat) : Int) < ((k : Int) + 1) * 6 := by omega
            have hlj : ((6 * k + m : Nat) : Int) < 24 := by omega
            have hpl : 6 * k + m < (pad24 (sxA ns k ++ sxT p m)).length := by rw [pad_len (by rw [unhide HLN]; omega)]; omega
            have hand := and15 r0 r1
            obtain ⟨x0, hcx⟩ : ∃ x, wr.cell? ⟨G, 6 * k + m, none⟩ = some x := ⟨_, arr_cell (unhide HV) hpl⟩
            have hfz := Joins.unfrozen_of_block (unhide HV) (6 * k + m)
            generalize p / 16 ^ m = V at *
            have HST : Hid (VarC (wr.setCell ⟨G, 6 * k + m, none⟩ (.int .i64 (V % 16))) G (pad24 (sxA ns k ++ sxT p (m + 1)))) := hide (by
              have := arr_set (unhide HV) (6 * k + m) (V % 16)
              have e := pad_set (xs := sxA ns k ++ sxT p m) (by rw [unhide HLN]; omega) (V % 16)
              rw [unhide HLN] at e
              rw [e, List.append_assoc, ← unhide HSS] at this
              exact this)
            have HKS := hide ((unhide HK).setCell (p := ⟨G, 6 * k + m, none⟩) rfl (.int .i64 (V % 16)))
            clear hpl
            generalize hJ : 6 * k + m = J at *
            go_wp2
            go_roundw
            case rel => exact ⟨m + 1, by omega, by go_num, by rw [← unhide HRS], HST, HKS⟩
            case measure => simp [intOf]; omega
          · have hm66 : m = 6 := by omega
            subst hm66
            obtain ⟨r0, r1⟩ := rest_in (unhide HP).1 (unhide HP).2 6
            have HVN : Hid (VarC wr G (pad24 (sxA ns (k + 1)))) := hide (by rw [← unhide HSU]; exact unhide HV)
            have hk4n := unhide HK4
            have hge : ¬ ((6 * k + 6 : Nat) : Int) < ((k : Int) + 1) * 6 := by omega
            by_cases hz : p / 16 ^ 6 = 0
            · have HAN := hide (unhide HAK ((unhide HP6).2 hz))
              have bz : (p / 16 ^ 6 == 0) = true := by rw [hz]; rfl
              clear hz
              generalize p / 16 ^ 6 = V at *
              go_wp2_with (go_at_call 54; refine (demand_true _).mono ?_; rintro e w' ⟨rfl, hw⟩; replace hw := hw.symm; subst hw)
              go_roundw
              case rel => exact ⟨k + 1, by omega, by go_num, HAN, HVN, HK⟩
              case measure => simp [intOf]; omega
            · have HF := hide (unhide HNK (by rw [← Bool.not_eq_true]; exact fun h => hz ((unhide HP6).1 h)))
              have bz : (p / 16 ^ 6 == 0) = false := beq_eq_false_iff_ne.2 hz
              have HEW := hide (errW_keep (unhide HE2) (unhide HK) (fun j hj => by have := unhide HPS; have := unhide HSZ; omega))
              have HBE := hide (keep_one (unhide HB2) (unhide HK) (by have := unhide HSZ; omega))
              clear hz
              generalize p / 16 ^ 6 = V at *
              go_wp2_with (go_at_call 54; refine (demand_false _ (unhide HEW)).mono ?_; rintro e w' ⟨⟨u, pv, rfl⟩, hw⟩; replace hw := hw.symm; subst hw)
              exact ⟨rfl, .inr ⟨unhide HF, _, _, rfl⟩, unhide HBE⟩
      · have hk4 : k = 4 := by have := unhide H4; omega
        subst hk4
        have HF := hide (unhide HYES (unhide H4) (fun j h => unhide HAL j h (by have := unhide H4; omega)))
        have HLC := hide (cdL_len (unhide HF))
        have HVF : Hid (VarC wr G (cdL s)) := hide (by have := unhide HV; rw [← unhide HCL, pad_full (unhide HLC)] at this; exact this)
        have HNF : Hid (VarC wr w.heap.size zero24) := hide (((unhide HK).block w.heap.size (Array.getElem?_eq_some_iff.1 (unhide HN2)).1 (by have := unhide HSZ; omega)).trans (unhide HN2))
        have HBE := hide (keep_one (unhide HB2) (unhide HK) (by have := unhide HSZ; omega))
        have hnl : ¬ ((4 : Nat) : Int) < ((ns.length : Nat) : Int) := by have := unhide H4; omega
        generalize hLL : cdL s = L at *
        have HLL := hide hLL
        clear hLL
        go_wp2_with (first | (refine wpList_load_arr rfl 78 _ rfl G rfl (intV L).toArray _ _ (unhide HVF) und24 rfl (sizeA (unhide HLC)) ?_) | (refine wpList_store_arr rfl 78 _ _ rfl w.heap.size rfl (intV L).toArray rfl _ _ (unhide HNF) (sizeA (unhide HLC)) (by rw [intV_size, intV_size, unhide HLC]; rfl) (intV_one _) ?_; intro w3 hn3 hk3 hs3; have HN3 := hide hn3; have HB3 := hide (keep_one (unhide HBE) hk3 (Nat.le_refl _)); clear hn3 hk3 hs3))
        refine bodyPost_ret (v := ctV L) ?_ rfl ⟨.inl ⟨unhide HF, ?_⟩, unhide HB3⟩
        · exact results_cell_row Tryz.results50 _ _ w.heap.size 78 (intV L).toArray (0, 0) _ rfl (unhide HN3) und24 rfl (sizeA (unhide HLC))
        · rw [unhide HLL]
  · have HF := hide (unhide HLEN h4)
    have b4 : (((ns.length : Nat) : Int) == 4) = false := by simp; omega
    clear h4 HLEN
    go_wp2_with (go_at_call 54; refine (demand_false _ (unhide HE1)).mono ?_; rintro e w' ⟨⟨u, pv, rfl⟩, hw⟩; replace hw := hw.symm; subst hw)
    exact ⟨rfl, .inr ⟨unhide HF, _, _, rfl⟩, unhide HB⟩

end Go.Proofs.YtkaiglhljpehpabGreatDoor
