import Derived.Test.YthnpooffhopnkacGreatDoorRows
import Derived.Test.YthnpooffhopnkacGreatDoorPart1
import Derived.Test.YthnpooffhopnkacGreatDoorPart2
import Derived.Test.YthnpooffhopnkacGreatDoorPart3
import Derived.Test.YthnpooffhopnkacGreatDoorPart35
import Derived.Test.YthnpooffhopnkacGreatDoorPart36
import Derived.Test.YthnpooffhopnkacGreatDoorPart25
import Derived.Test.YthnpooffhopnkacGreatDoorPart7
import Derived.Test.YthnpooffhopnkacGreatDoorPart18
import Derived.Test.YthnpooffhopnkacGreatDoorPart26
import Derived.WalkKit
import Derived.WalkSpells
import Derived.KernelRfl
import Derived.LoopN
import Derived.Deep.RegionWith
import Derived.Test.YthnpooffhopnkacGreatDoorPart10
import Derived.Test.YthnpooffhopnkacGreatDoorPart28
import Derived.BigQuiet
import Derived.Deep.QuietTactic
import Derived.Deep.CutRange
import Derived.Laws.ResultCell
import Derived.Deep.MidRow
import Derived.Defers
import Derived.Recover
import Derived.Lib.EndianBits
import Derived.OrdersHeld
import Derived.Deep.RegionHeld3

/- Contracts of the program's readNames, readValue; readers that answer or panic. -/
namespace Go.Proofs.YthnpooffhopnkacGreatDoor
open Go.RowKit
set_option linter.unusedVariables false
set_option maxRecDepth 100000

theorem open_in {s : ByteArray} {k : Int} : openB s k = true ↔ RecP s ∧ byteAt s 0 = k := by
  simp only [openB, Bool.and_eq_true, decide_eq_true_eq]
  exact and_congr_left' recB_iff
theorem readKind_any (s : ByteArray) (k : Int) (w : World) (hs : s.size ≤ 65536) (hE : ErrW w) :
    Calls Tryz.prog 83 #[.string s, .int .i64 k] w fun e w' => ((openB s k = true ∧ ∃ v, e = .returned v ∧ OwnN w' w.heap.size v (openL s k)) ∨ (openB s k = false ∧ Pan e)) ∧ Below w.heap.size w w' := by
  cases ho : openB s k
  · refine (readKind_no s k w hs (fun h => by rw [open_in.2 h] at ho; cases ho) hE).mono ?_
    rintro e w' ⟨h, hb⟩
    exact ⟨.inr ⟨rfl, h⟩, hb⟩
  · have h := open_in.1 ho
    refine (readKind_yes s k w hs h.1 h.2).mono ?_
    rintro e w' ⟨v, he, hv, hb⟩
    rw [← openL_yes ho] at hv
    exact ⟨.inl ⟨rfl, v, he, hv⟩, hb⟩
theorem readTable_any (s : ByteArray) (w : World) (hs : s.size ≤ 65536) (hE : ErrW w) :
    Calls Tryz.prog 80 #[.string s] w fun e w' => ((tdB s = true ∧ ∃ v, e = .returned v ∧ OwnN w' w.heap.size v (openL s 3)) ∨ (tdB s = false ∧ Pan e)) ∧ Below w.heap.size w w' := by
  cases ho : tdB s
  · refine (readTable_no s w hs ho hE).mono ?_
    rintro e w' ⟨h, hb⟩
    exact ⟨.inr ⟨rfl, h⟩, hb⟩
  · refine (readTable_yes s w hs ho).mono ?_
    rintro e w' ⟨v, he, hv, hb⟩
    exact ⟨.inl ⟨rfl, v, he, hv⟩, hb⟩

/-- A row without its first number. -/
theorem cut_one {w : World} {B qa : Nat} {qo : Option Addr} {xs : List Int} (h : OwnR w B 3 1 (.slice qo xs.length qa) xs.length (intV xs)) (h1 : 1 ≤ xs.length) :
    ∃ qo', (∀ W : World, (Instr.sliceAt 23 (.slice qo xs.length qa) (some (.int .i64 1)) none none).run Tryz.prog W = .ok (.slice qo' (xs.length - 1) (qa - 1)) W) ∧ Is w qo' (xs.drop 1) := by
  have hI := ownRN h
  obtain ⟨b, off, e, _⟩ := hI 0 (by omega)
  subst e
  have hu : Tryz.prog.underlying 23 = some (.slice (Tryz.prog.elem 23)) := by kernel_rfl
  have hc : xs.length ≤ qa := by
    rcases h with ⟨h0, _⟩ | ⟨h0, h⟩
    · omega
    · rcases h.2 with ⟨_, h1⟩ | ⟨g, cap', cur, e, _, _, hc, _⟩
      · omega
      · simp only [Value.slice.injEq, true_and] at e
        omega
  refine ⟨if qa = 1 then some ⟨b, off, none⟩ else some ⟨b, off + 1, none⟩, fun W => ?_, ?_⟩
  · have hz : (Go.sizeOf (Tryz.prog.elem 23)).run Tryz.prog W = .ok 1 W := by kernel_rfl
    rw [run_sliceAt_slice _ _ _ _ _ _ hu, run_slice_l _ _ _ _ _ hu .i64 1 (by omega) (by omega), hz]
    simp only [Result.andThen, sliced]
    by_cases hq : qa = 1
    · simp [hq]
    · simp [hq, Addr.add]
  · intro i hi
    rw [List.length_drop] at hi
    have hq : qa ≠ 1 := by omega
    obtain ⟨b', off', e, hcl⟩ := hI (1 + i) (by omega)
    cases e
    refine ⟨b, off + 1, if_neg hq, ?_⟩
    rw [show off + 1 + i = off + (1 + i) by omega, hcl, List.getElem_drop]

theorem noSs_own2 {w : World} {B e cap : Nat} {ao : Option Addr} {ss : List ByteArray} (h : OwnR w B e 1 (.slice ao ss.length cap) ss.length (strV ss)) (hz : ∀ s ∈ ss, s.size ≤ maxLen) : Ss w ao ss := by
  rcases h with ⟨h0, _⟩ | ⟨_, h⟩
  · intro i hi; omega
  · exact ownS h hz
/-- What names a text tells, and whether it does. -/
def nmsL (s : ByteArray) : List ByteArray := ((openL s 1).drop 1).map (fun x => unI x.toNat)
def nmsH (s : ByteArray) : Bool := decide (0 < (openL s 1).length) && (decide ((openL s 1).getD 0 0 ≤ 3) && decide ((openL s 1).getD 0 0 = (openL s 1).length - 1))
def nmsB (s : ByteArray) : Bool := openB s 1 && (nmsH s && (nmsL s).all snmB)
theorem nms_no {s : ByteArray} (h : openB s 1 = false) : nmsB s = false := by rw [nmsB, h]; rfl
theorem nms_head {s : ByteArray} (h : nmsH s = false) : nmsB s = false := by rw [nmsB, h]; simp
theorem nms_bad {s : ByteArray} {k : Nat} (hk : k < (nmsL s).length) (h : snmB (nmsL s)[k] = false) : nmsB s = false := by rw [nmsB, all_not (p := snmB) hk h]; simp
theorem nms_yes {s : ByteArray} (h1 : openB s 1 = true) (h2 : nmsH s = true) (h3 : ∀ j (hj : j < (nmsL s).length), snmB (nmsL s)[j] = true) : nmsB s = true := by rw [nmsB, h1, h2, all_of (p := snmB) (fun i hi _ => h3 i hi)]; rfl

set_option maxHeartbeats 3200000 in
theorem readNames_any (s : ByteArray) (w : World) (hs : s.size ≤ 65536) (hE : ErrW w) :
    Calls Tryz.prog 35 #[.string s] w fun e w' => ((nmsB s = true ∧ ∃ qo qa, e = .returned (.slice qo (nmsL s).length qa) ∧ Ss w' qo (nmsL s)) ∨ (nmsB s = false ∧ Pan e)) ∧ Below w.heap.size w w' := by
  have HE := hide hE
  clear hE
  obtain ⟨j0, hj, hy0, hy1, hy2⟩ := info_parts infoS
  go_enter Tryz.func35, Tryz.ntmps35
  go_wp2_with fail
  refine (readKind_any s 1 _ hs (unhide HE)).mono ?_
  rintro e w1 ⟨⟨ho, v, rfl, qo, qa, rfl, hv⟩ | ⟨ho, u, pv, rfl⟩, hb⟩
  case inr =>
    have HF := hide (nms_no ho)
    have HB := hide hb
    clear hb ho
    go_wp2
    exact ⟨rfl, .inr ⟨unhide HF, _, _, rfl⟩, unhide HB⟩
  have HO := hide ho
  have HIN : Hid (∀ j (hj : j < (openL s 1).length), 0 ≤ (openL s 1)[j] ∧ (openL s 1)[j] ≤ 2147483647) := hide (openL_in ho)
  have HV := hide hv
  have HB := hide hb
  have HLEN : Hid ((openL s 1).length ≤ 16384) := hide (by
    have h1 := unL_length (bodyT s)
    have h2 := bodyT_size s
    rw [openL_yes ho, h1]; omega)
  have HE1 := hide ((unhide HE).below hb)
  clear hv hb ho HE
  obtain ⟨L, HLQ⟩ : ∃ L, Hid (openL s 1 = L) := ⟨_, hide rfl⟩
  rw [unhide HLQ] at HIN HV HLEN ⊢
  have hl16 := unhide HLEN
  have HIS := hide (ownRN (unhide HV))
  by_cases h0 : 0 < L.length
  case neg =>
    have HF : Hid (nmsB s = false) := hide (nms_head (by rw [nmsH, unhide HLQ, decide_eq_false h0]; rfl))
    have hl0 : L.length = 0 := by omega
    have hz : (L.length : Int) = 0 := by omega
    rw [hl0]
    go_wp2_with (go_at_call 82; refine (demand_false _ (unhide HE1)).mono ?_; rintro e w' ⟨⟨u, pv, rfl⟩, hw⟩; replace hw := hw.symm; subst hw)
    exact ⟨rfl, .inr ⟨unhide HF, _, _, rfl⟩, unhide HB⟩
  have h0i : (0 : Int) < (L.length : Int) := by omega
  obtain ⟨b, off, rfl, hc0⟩ := unhide HIS 0 h0
  rw [Nat.add_zero] at hc0
  have HG0 : Hid (L.getD 0 0 = L[0]) := hide (by simp [List.getD, h0])
  have hr0 := unhide HIN 0 h0
  by_cases h3 : L[0] ≤ 3
  case neg =>
    have HF : Hid (nmsB s = false) := hide (nms_head (by rw [nmsH, unhide HLQ, unhide HG0, decide_eq_false h3]; simp))
    generalize L[0] = X at *
    go_wp2_with (go_at_call 82; refine (demand_false _ (unhide HE1)).mono ?_; rintro e w' ⟨⟨u, pv, rfl⟩, hw⟩; replace hw := hw.symm; subst hw)
    exact ⟨rfl, .inr ⟨unhide HF, _, _, rfl⟩, unhide HB⟩
  have w1' : IntKind.i64.wrap ((L.length : Int) - 1) = (L.length : Int) - 1 := by rw [IntKind.wrap_i64]; omega
  by_cases he : L[0] = (L.length : Int) - 1
  case neg =>
    have HF : Hid (nmsB s = false) := hide (nms_head (by rw [nmsH, unhide HLQ, unhide HG0, decide_eq_false he]; simp))
    have heb : (L[0] == (L.length : Int) - 1) = false := by simp [he]
    generalize L[0] = X at *
    clear he
    go_wp2_with (go_at_call 82; refine (demand_false _ (unhide HE1)).mono ?_; rintro e w' ⟨⟨u, pv, rfl⟩, hw⟩; replace hw := hw.symm; subst hw)
    exact ⟨rfl, .inr ⟨unhide HF, _, _, rfl⟩, unhide HB⟩
  have HH : Hid (nmsH s = true) := hide (by rw [nmsH, unhide HLQ, unhide HG0, decide_eq_true h0, decide_eq_true h3, decide_eq_true he]; rfl)
  have heb : (L[0] == (L.length : Int) - 1) = true := by simp [he]
  have hl4 : L.length ≤ 4 := by omega
  obtain ⟨qo', hsl, hcut⟩ := cut_one (unhide HV) (by omega)
  have HCUT := hide hcut
  have HNM : Hid (nmsL s = (L.drop 1).map (fun x => unI x.toNat)) := hide (by rw [nmsL, unhide HLQ])
  have HLD : Hid ((L.drop 1).length = L.length - 1) := hide (by simp)
  have HID : Hid (∀ j (hj : j < (L.drop 1).length), 0 ≤ (L.drop 1)[j] ∧ (L.drop 1)[j] ≤ 2147483647) := hide (fun j hj => by rw [List.getElem_drop]; exact unhide HIN _ _)
  have HU0 : Hid (OwnR w1 w1.heap.size 9 1 (.slice none 0 0) 0 (strV (((L.drop 1).map (fun x => unI x.toNat)).take 0))) := hide (.inl ⟨rfl, by simp [strV], none, rfl⟩)
  clear hcut HG0 HIS hr0
  have hd1 : ((L.length - 1 : Nat) : Int) = (L.length : Int) - 1 := by omega
  have HLN : Hid (L.length - 1 ≤ 3) := hide (by omega)
  generalize L[0] = X at *
  generalize hDD : L.drop 1 = DD at *
  generalize hNN : L.length - 1 = NN at *
  clear he hDD
  go_wp2_with (go_at_call 82; refine (demand_true _).mono ?_; rintro e w' ⟨rfl, hw⟩; replace hw := hw.symm; subst hw)
  go_loopw [4, 31] (fun o i wr => ∃ (k : Nat) (ro : Option Addr) (ra : Nat), k ≤ NN ∧ i = .int .i64 k ∧ o = .slice ro k ra ∧ Hid (∀ j (hj : j < DD.length), j < k → snmB (unI DD[j].toNat) = true) ∧ Hid (OwnR wr w1.heap.size 9 1 (.slice ro k ra) k (strV ((DD.map (fun x => unI x.toNat)).take k))) ∧ Hid (Below w1.heap.size w1 wr)) (fun _ i _ => NN - (intOf i).toNat)
  case atStart => exact ⟨0, none, 0, Nat.zero_le _, rfl, rfl, hide (fun j _ h => by omega), HU0, hide (Below.refl _ _)⟩
  case round =>
    clear HU0
    obtain ⟨k, ro, ra, hk, rfl, rfl, HA, HU, HB2⟩ := hrel
    have hnn3 := unhide HLN
    by_cases hlt : k < NN
    · have hkd : k < DD.length := by rw [unhide HLD]; exact hlt
      have hlti : (k : Int) < (NN : Int) := by omega
      obtain ⟨b', off', rfl, hck⟩ := ((unhide HCUT).below (unhide HB2)) k hkd
      obtain ⟨x0, x1⟩ := unhide HID k hkd
      obtain ⟨N, hN⟩ := Int.eq_ofNat_of_zero_le x0
      have HNQ : Hid (unI DD[k].toNat = unI N) := hide (by rw [hN]; rfl)
      rw [hN] at hck
      have hN2 : N ≤ 2147483647 := by omega
      have hNM : k < (nmsL s).length := by rw [unhide HNM, List.length_map]; exact hkd
      have HAT : Hid ((nmsL s)[k] = unI N) := hide (by
        have : (nmsL s)[k]? = some (unI N) := by rw [unhide HNM, List.getElem?_map, List.getElem?_eq_getElem hkd, Option.map_some, unhide HNQ]
        rw [List.getElem?_eq_getElem hNM] at this
        exact Option.some.inj this)
      have HBAD : Hid (snmB (unI N) = false → nmsB s = false) := hide (fun h => nms_bad hNM (by rw [unhide HAT]; exact h))
      have HST : Hid (strV ((DD.map (fun x => unI x.toNat)).take (k + 1)) = strV ((DD.map (fun x => unI x.toNat)).take k) ++ [.string (unI N)]) := hide (by
        rw [List.take_succ_eq_append_getElem (by simpa using hkd)]
        simp only [strV, List.map_append, List.getElem_map, unhide HNQ]; rfl)
      clear hN x0 x1 hNM HAT
      go_wp2_with fail
      refine (readName_any N _ hN2 ((unhide HE1).below (unhide HB2))).mono ?_
      rintro e w3 ⟨⟨hs3, rfl⟩ | ⟨hs3, u, pv, rfl⟩, hb3⟩
      case inr =>
        have HF := hide (unhide HBAD hs3)
        have HB3 := hide (fr (unhide HB) (fr (unhide HB2) hb3))
        clear hb3 hs3
        go_wp2
        exact ⟨rfl, .inr ⟨unhide HF, _, _, rfl⟩, unhide HB3⟩
      have HA2 : Hid (∀ j (hj : j < DD.length), j < k + 1 → snmB (unI DD[j].toNat) = true) := hide (fun j hj h => by
        by_cases e : j = k
        · subst e; rw [unhide HNQ]; exact hs3
        · exact unhide HA j hj (by omega))
      have HU3 := hide ((unhide HU).below hb3)
      have HB3 := hide (fr (unhide HB2) hb3)
      clear hb3 hs3 hck HA HU HB2 HBAD
      have HOA := hide ((unhide HU3).below (Joins.below_alloc1 _ (.cells #[.string (unI N)] 9)))
      have HBA := hide (fr (unhide HB3) (Joins.below_alloc1 _ (.cells #[.string (unI N)] 9)))
      have HSZ := hide (unhide HB3).size
      go_wp2_with (at_builtin; refine wpList_append_one rfl _ _ 31 rfl w1.heap.size 9 j0 (.string ⟨#[]⟩) 1 16 Tryz.underlying31 hj hy0 hy1 hy2 rfl (by omega) ro k ra (strV ((DD.map (fun x => unI x.toNat)).take k)) rfl (unhide HOA) (by have := unhide HSZ; simp; omega) ⟨w3.heap.size, 0, none⟩ _ [.string (unI N)] rfl rfl (byte_news w3 _ _) (str_one _) (by unfold maxLen; omega) (by omega) ?_; intro g2 cap2 wA hoA hkA; have HSF := hide (And.intro hoA (keep_below (unhide HBA) (unhide HOA) (Nat.le_refl _) hkA)); clear hoA hkA)
      go_roundw
      case rel => exact ⟨k + 1, some ⟨g2, 0, none⟩, cap2, by omega, by go_num, rfl, HA2, hide (.inr ⟨by omega, by rw [unhide HST]; exact (unhide HSF).1⟩), hide (unhide HSF).2⟩
      case measure => simp [intOf]; omega
    · have hke : k = NN := by omega
      have HNL : Hid ((nmsL s).length = k) := hide (by rw [unhide HNM, List.length_map, unhide HLD, hke])
      have HAL : Hid (∀ j (hj : j < (nmsL s).length), snmB (nmsL s)[j] = true) := hide (fun j hj => by
        have hjd : j < DD.length := by rw [unhide HNM, List.length_map] at hj; exact hj
        have : (nmsL s)[j]? = some (unI DD[j].toNat) := by rw [unhide HNM, List.getElem?_map, List.getElem?_eq_getElem hjd, Option.map_some]
        rw [List.getElem?_eq_getElem hj] at this
        rw [Option.some.inj this]
        exact unhide HA j hjd (by rw [unhide HLD] at hjd; omega))
      have HSS : Hid (Ss wr ro (nmsL s)) := hide (by
        have h := unhide HU
        rw [List.take_of_length_le (by rw [List.length_map, unhide HLD, hke]; exact Nat.le_refl _), ← unhide HNM, ← unhide HNL] at h
        refine noSs_own2 h (fun x hx => ?_)
        obtain ⟨q, hq, rfl⟩ := List.mem_iff_getElem.1 hx
        have := (snm_parts (unhide HAL q hq)).2.2
        unfold maxLen; omega)
      have HF := hide (nms_yes (unhide HO) (unhide HH) (unhide HAL))
      have HBE := hide (fr (unhide HB) (unhide HB2))
      clear hke
      go_wp2
      go_ret
      exact ⟨.inl ⟨unhide HF, ro, ra, by rw [unhide HNL]; rfl, unhide HSS⟩, unhide HBE⟩

/-- The number that a text holds alone. -/
def vlB (s : ByteArray) : Bool := openB s 4 && decide ((openL s 4).length = 1)
set_option maxHeartbeats 1600000 in
theorem readValue_any (s : ByteArray) (w : World) (hs : s.size ≤ 65536) (hE : ErrW w) :
    Calls Tryz.prog 81 #[.string s] w fun e w' => ((vlB s = true ∧ e = .returned (.int .i64 ((openL s 4).getD 0 0))) ∨ (vlB s = false ∧ Pan e)) ∧ Below w.heap.size w w' := by
  have HE := hide hE
  clear hE
  go_enter Tryz.func81, Tryz.ntmps81
  go_wp2_with fail
  refine (readKind_any s 4 _ hs (unhide HE)).mono ?_
  rintro e w1 ⟨⟨ho, v, rfl, qo, qa, rfl, hv⟩ | ⟨ho, u, pv, rfl⟩, hb⟩
  case inr =>
    have HF : Hid (vlB s = false) := hide (by rw [vlB, ho]; rfl)
    have HB := hide hb
    clear hb ho
    go_wp2
    exact ⟨rfl, .inr ⟨unhide HF, _, _, rfl⟩, unhide HB⟩
  have HV := hide (ownRN hv)
  have HB := hide hb
  have HE1 := hide ((unhide HE).below hb)
  have HO := hide ho
  have HLEN : Hid ((openL s 4).length ≤ 16384) := hide (by
    have h1 := unL_length (bodyT s)
    have h2 := bodyT_size s
    rw [openL_yes ho, h1]; omega)
  clear hv hb ho HE
  have hl16 := unhide HLEN
  by_cases h1 : (openL s 4).length = 1
  case neg =>
    have HF : Hid (vlB s = false) := hide (by rw [vlB, decide_eq_false h1]; simp)
    have heb : (((openL s 4).length : Int) == 1) = false := by simp; omega
    clear h1
    generalize openL s 4 = L at *
    go_wp2_with (go_at_call 82; refine (demand_false _ (unhide HE1)).mono ?_; rintro e w' ⟨⟨u, pv, rfl⟩, hw⟩; replace hw := hw.symm; subst hw)
    exact ⟨rfl, .inr ⟨unhide HF, _, _, rfl⟩, unhide HB⟩
  have HF : Hid (vlB s = true) := hide (by rw [vlB, unhide HO, decide_eq_true h1]; rfl)
  obtain ⟨b, off, rfl, hc0⟩ := unhide HV 0 (by omega)
  rw [Nat.add_zero] at hc0
  have HG : Hid ((openL s 4).getD 0 0 = (openL s 4)[0]) := hide (by simp [List.getD, h1])
  rw [h1]
  generalize (openL s 4)[0] = X at *
  clear h1
  go_wp2_with (go_at_call 82; refine (demand_true _).mono ?_; rintro e w' ⟨rfl, hw⟩; replace hw := hw.symm; subst hw)
  go_ret
  exact ⟨.inl ⟨unhide HF, by rw [unhide HG]; rfl⟩, unhide HB⟩

end Go.Proofs.YthnpooffhopnkacGreatDoor

/- Contract of impl.RefUp. -/
namespace Go.Proofs.YthnpooffhopnkacGreatDoor
open Go.RowKit
set_option linter.unusedVariables false
set_option maxRecDepth 100000

/-- What the program's own lists of counts are like. -/
theorem own24 {W : World} {B g : Nat} {xs : List Int} (h : W.ownsRow B 3 1 (.slice (some ⟨g, 0, none⟩) 24 24) 24 (intV xs)) (hl : xs.length = 24) : OwnN W B (.slice (some ⟨g, 0, none⟩) 24 24) xs := by
  refine ⟨some ⟨g, 0, none⟩, 24, by rw [hl], ?_⟩
  rw [hl]
  exact .inr ⟨by omega, h⟩
theorem cw_ne {n : Int} (h : n ≠ 0) : (n != 0) = true := by simpa using h

end Go.Proofs.YthnpooffhopnkacGreatDoor

/- Contracts of impl.readCounts, impl.readText at counts, impl.DecodeRefs. -/
namespace Go.Proofs.YthnpooffhopnkacGreatDoor
open Go.RowKit
set_option linter.unusedVariables false
set_option maxRecDepth 100000

theorem and15 {V : Int} (h0 : 0 ≤ V) (h1 : V ≤ 2147483647) : bits .and .i64 V 15 = V % 16 := by
  obtain ⟨n, rfl⟩ := Int.eq_ofNat_of_zero_le h0
  have h := (bits_nat .i64 63 (by decide) (fun n a b => wraps_i64 n a b) n 15 (by omega) (by omega)).1
  have e2 : (15 : Int) = ((15 : Nat) : Int) := rfl
  rw [e2, h, show (15 : Nat) = 2 ^ 4 - 1 from rfl, Nat.and_two_pow_sub_one_eq_mod]
  omega
theorem open_yes2 {s : ByteArray} (h : openB s 2 = true) : RecP s ∧ byteAt s 0 = 2 := by
  simp only [openB, Bool.and_eq_true, decide_eq_true_eq] at h
  exact ⟨recB_iff.1 h.1, h.2⟩
theorem open_no2 {s : ByteArray} (h : openB s 2 = false) : ¬ (RecP s ∧ byteAt s 0 = 2) := by
  rintro ⟨a, b⟩
  rw [openB_yes a b] at h
  cases h

theorem keep_cell1 {w w' : World} {S : Nat → Prop} {b off : Nat} {v : Value} (hk : Keep S w w') (hb : ¬ S b) (h : w.cell? ⟨b, off, none⟩ = some v) : w'.cell? ⟨b, off, none⟩ = some v := by
  have hl := World.block_lt_of_cell? _ _ h
  rw [← h]
  unfold World.cell?
  simp only [hk.block b hl hb]
theorem errW_keep {w w' : World} {S : Nat → Prop} (h : ErrW w) (hk : Keep S w w') (hs : ∀ k, S k → 0 ≠ k) : ErrW w' := by
  obtain ⟨u, pv, hc⟩ := h
  exact ⟨u, pv, keep_cell1 hk (fun hS => hs _ hS rfl) hc⟩
theorem errW_pos {w : World} (h : ErrW w) : 0 < w.heap.size := by
  obtain ⟨u, pv, hc⟩ := h
  exact World.block_lt_of_cell? _ _ hc
/-- What reading counts comes to. -/
def RdC (s : ByteArray) (e : Ending) : Prop := (cdB s = true ∧ e = .returned (ctV (cdL s))) ∨ (cdB s = false ∧ ∃ u pv, e = .panicked [{ v := .iface u pv, recovered := false }])

set_option maxHeartbeats 3200000 in
theorem readCounts_any (s : ByteArray) (w : World) (hs : s.size ≤ 65536) (hE : ErrW w) :
    Calls Tryz.prog 78 #[.string s] w fun e w' => RdC s e ∧ Below w.heap.size w w' := by
  have HN := hide (arr_new w)
  have HA := hide (Joins.below_alloc1 w (.cells #[.int .i64 0, .int .i64 0, .int .i64 0, .int .i64 0, .int .i64 0, .int .i64 0, .int .i64 0, .int .i64 0, .int .i64 0, .int .i64 0, .int .i64 0, .int .i64 0, .int .i64 0, .int .i64 0, .int .i64 0, .int .i64 0, .int .i64 0, .int .i64 0, .int .i64 0, .int .i64 0, .int .i64 0, .int .i64 0, .int .i64 0, .int .i64 0] 101))
  have HE := hide (hE.below (unhide HA))
  have HPS := hide (errW_pos hE)
  clear hE
  go_enter Tryz.func78, Tryz.ntmps78
  go_upto_region 1 with fail
  revert HN HA HE
  generalize (w.alloc _) = W0
  intro HN HA HE
  cases hop : openB s 2
  · have HNO := hide (open_no2 hop)
    have HF := hide (cd_open hop)
    clear hop
    go_wp2_with fail
    refine (readKind_no s 2 _ hs (unhide HNO) (unhide HE)).mono ?_
    rintro e w1 ⟨⟨u, pv, rfl⟩, hb⟩
    have HB := hide (fr (unhide HA) hb)
    clear hb
    go_wp2
    exact ⟨rfl, .inr ⟨unhide HF, _, _, rfl⟩, unhide HB⟩
  have HYE := hide (open_yes2 hop)
  have HLE := hide (openL_yes hop)
  have HIN := hide (openL_in hop)
  have HNUM : Hid (∀ k (hk : k < (openL s 2).length), cdN (openL s 2)[k] = false → cdB s = false) := hide (fun k hk h => cd_num hk h)
  have HYES : Hid ((openL s 2).length = 4 → (∀ j (hj : j < (openL s 2).length), cdN (openL s 2)[j] = true) → cdB s = true) := hide (fun h4 h => cd_yes hop h4 h)
  have HCL : Hid (cdL s = sxA (openL s 2) 4) := hide rfl
  have HLEN : Hid (¬ (openL s 2).length = 4 → cdB s = false) := hide cd_len
  clear hop
  go_wp2_with fail
  refine (readKind_yes s 2 _ hs (unhide HYE).1 (unhide HYE).2).mono ?_
  rintro e w1 ⟨v, rfl, ⟨qo, qa, rfl, ho⟩, hb⟩
  rw [← unhide HLE] at ho ⊢
  have HI := hide (ownRN ho)
  have HB := hide (fr (unhide HA) hb)
  have HN1 := hide (block_of_below (unhide HN) hb)
  have HE1 := hide ((unhide HE).below hb)
  clear ho hb HA HN HE HLE HYE
  generalize openL s 2 = ns at *
  by_cases h4 : ns.length = 4
  · have H4 := hide h4
    have b4 : (((ns.length : Nat) : Int) == 4) = true := by simp [h4]
    clear h4 HLEN
    have HNN := hide (arr_new w1)
    have HAA := hide (Joins.below_alloc1 w1 (.cells #[.int .i64 0, .int .i64 0, .int .i64 0, .int .i64 0, .int .i64 0, .int .i64 0, .int .i64 0, .int .i64 0, .int .i64 0, .int .i64 0, .int .i64 0, .int .i64 0, .int .i64 0, .int .i64 0, .int .i64 0, .int .i64 0, .int .i64 0, .int .i64 0, .int .i64 0, .int .i64 0, .int .i64 0, .int .i64 0, .int .i64 0, .int .i64 0] 101))
    have HSZ : Hid (w.heap.size < w1.heap.size) := hide (Array.getElem?_eq_some_iff.1 (unhide HN1)).1
    go_upto_region 4 with (go_at_call 82; refine (demand_true _).mono ?_; rintro e w' ⟨rfl, hw⟩; replace hw := hw.symm; subst hw)
    have HI2 := hide ((unhide HI).below (unhide HAA))
    have HB2 := hide (fr (unhide HB) (unhide HAA))
    have HN2 := hide (block_of_below (unhide HN1) (unhide HAA))
    have HE2 := hide ((unhide HE1).below (unhide HAA))
    have HLTS : Hid (∀ b off, qo = some ⟨b, off, none⟩ → b < w1.heap.size) := hide (fun b off e => by
      obtain ⟨b', off', e', hc⟩ := (unhide HI) 0 (by have := unhide H4; omega)
      rw [e] at e'
      cases e'
      exact World.block_lt_of_cell? _ _ hc)
    clear HI HB HN1 HE1 HAA
    revert HNN HI2 HB2 HN2 HE2
    generalize (w1.alloc _) = W2
    intro HNN HI2 HB2 HN2 HE2
    generalize w1.heap.size = G at *
    have HNG : Hid (VarC W2 G (pad24 (sxA ns 0))) := hide (unhide HNN)
    clear HNN
    go_wp2
    go_loopw [16] (fun i wr => ∃ k : Nat, k ≤ ns.length ∧ i = .int .i64 k ∧ Hid (∀ j (h : j < ns.length), j < k → cdN ns[j] = true) ∧ Hid (VarC wr G (pad24 (sxA ns k))) ∧ Hid (Keep (fun b => b = G) W2 wr)) (fun i _ => ns.length - (intOf i).toNat)
    case atStart => exact ⟨0, Nat.zero_le _, rfl, hide (fun j _ h => by omega), HNG, hide (Keep.refl _ _)⟩
    case round =>
      clear HNG
      obtain ⟨k, hk, rfl, HAL, HV, HK⟩ := hrel
      by_cases hlt : k < ns.length
      · obtain ⟨b, off, rfl, hcl0⟩ := (unhide HI2) k hlt
        have hbl := unhide HLTS b off rfl
        have hcl : wr.cell? ⟨b, off + k, none⟩ = some (.int .i64 ns[k]) := keep_cell1 (unhide HK) (show ¬ b = G by omega) hcl0
        obtain ⟨hp0, hp1⟩ := unhide HIN k hlt
        have HP := hide (And.intro hp0 hp1)
        have HK4 : Hid (k < 4) := hide (by have := unhide H4; omega)
        have hk4i : (k : Int) < 4 := by have := unhide HK4; omega
        have HSU := hide (sxA_succ hlt)
        have HP6 : Hid (cdN ns[k] = true ↔ ns[k] / 16 ^ 6 = 0) := hide (by simp [cdN])
        have HNK := hide (unhide HNUM k hlt)
        have HAK := hide (fun (h : cdN ns[k] = true) => all_succ hlt (unhide HAL) h)
        have HSL := hide (sxA_len ns k hk)
        clear hcl0
        go_wp2
        clear hcl
        generalize ns[k] = p at *
        go_loopw [6, 7] (fun n c wq => ∃ m : Nat, m ≤ 6 ∧ c = .int .i64 ((6 * k + m : Nat) : Int) ∧ n = .int .i64 (p / 16 ^ m) ∧ Hid (VarC wq G (pad24 (sxA ns k ++ sxT p m))) ∧ Hid (Keep (fun b => b = G) W2 wq)) (fun _ c _ => 24 - (intOf c).toNat)
        case atStart => exact ⟨0, by omega, by go_num, by simp, hide (by simpa [sxT] using unhide HV), HK⟩
        case round =>
          clear HV HK
          obtain ⟨m, hm, rfl, rfl, HV, HK⟩ := hrel
          by_cases hm6 : m < 6
          · obtain ⟨r0, r1⟩ := rest_in (unhide HP).1 (unhide HP).2 m
            have HRS := hide (rest_succ p m)
            have HSS := hide (sxT_succ p m)
            have hk4n := unhide HK4
            have HLN : Hid ((sxA ns k ++ sxT p m).length = 6 * k + m) := hide (by rw [List.length_append, unhide HSL, sxT_len])
            have hlc : ((6 * k + m : Nat) : Int) < ((k : Int) + 1) * 6 := by omega
            have hlj : ((6 * k + m : Nat) : Int) < 24 := by omega
            have hpl : 6 * k + m < (pad24 (sxA ns k ++ sxT p m)).length := by rw [pad_len (by rw [unhide HLN]; omega)]; omega
            have hand := and15 r0 r1
            obtain ⟨x0, hcx⟩ : ∃ x, wr.cell? ⟨G, 6 * k + m, none⟩ = some x := ⟨_, arr_cell (unhide HV) hpl⟩
            have hfz := Joins.unfrozen_of_block (unhide HV) (6 * k + m)
            generalize p / 16 ^ m = V at *
            have HST : Hid (VarC (wr.setCell ⟨G, 6 * k + m, none⟩ (.int .i64 (V % 16))) G (pad24 (sxA ns k ++ sxT p (m + 1)))) := hide (by
              have := arr_set (unhide HV) (6 * k + m) (V % 16)
              have e := pad_set (xs := sxA ns k ++ sxT p m) (by rw [unhide HLN]; omega) (V % 16)
              rw [unhide HLN] at e
              rw [e, List.append_assoc, ← unhide HSS] at this
              exact this)
            have HKS := hide ((unhide HK).setCell (p := ⟨G, 6 * k + m, none⟩) rfl (.int .i64 (V % 16)))
            clear hpl
            generalize hJ : 6 * k + m = J at *
            go_wp2
            go_roundw
            case rel => exact ⟨m + 1, by omega, by go_num, by rw [← unhide HRS], HST, HKS⟩
            case measure => simp [intOf]; omega
          · have hm66 : m = 6 := by omega
            subst hm66
            obtain ⟨r0, r1⟩ := rest_in (unhide HP).1 (unhide HP).2 6
            have HVN : Hid (VarC wr G (pad24 (sxA ns (k + 1)))) := hide (by rw [← unhide HSU]; exact unhide HV)
            have hk4n := unhide HK4
            have hge : ¬ ((6 * k + 6 : Nat) : Int) < ((k : Int) + 1) * 6 := by omega
            by_cases hz : p / 16 ^ 6 = 0
            · have HAN := hide (unhide HAK ((unhide HP6).2 hz))
              have bz : (p / 16 ^ 6 == 0) = true := by rw [hz]; rfl
              clear hz
              generalize p / 16 ^ 6 = V at *
              go_wp2_with (go_at_call 82; refine (demand_true _).mono ?_; rintro e w' ⟨rfl, hw⟩; replace hw := hw.symm; subst hw)
              go_roundw
              case rel => exact ⟨k + 1, by omega, by go_num, HAN, HVN, HK⟩
              case measure => simp [intOf]; omega
            · have HF := hide (unhide HNK (by rw [← Bool.not_eq_true]; exact fun h => hz ((unhide HP6).1 h)))
              have bz : (p / 16 ^ 6 == 0) = false := beq_eq_false_iff_ne.2 hz
              have HEW := hide (errW_keep (unhide HE2) (unhide HK) (fun j hj => by have := unhide HPS; have := unhide HSZ; omega))
              have HBE := hide (keep_one (unhide HB2) (unhide HK) (by have := unhide HSZ; omega))
              clear hz
              generalize p / 16 ^ 6 = V at *
              go_wp2_with (go_at_call 82; refine (demand_false _ (unhide HEW)).mono ?_; rintro e w' ⟨⟨u, pv, rfl⟩, hw⟩; replace hw := hw.symm; subst hw)
              exact ⟨rfl, .inr ⟨unhide HF, _, _, rfl⟩, unhide HBE⟩
      · have hk4 : k = 4 := by have := unhide H4; omega
        subst hk4
        have HF := hide (unhide HYES (unhide H4) (fun j h => unhide HAL j h (by have := unhide H4; omega)))
        have HLC := hide (cdL_len (unhide HF))
        have HVF : Hid (VarC wr G (cdL s)) := hide (by have := unhide HV; rw [← unhide HCL, pad_full (unhide HLC)] at this; exact this)
        have HNF : Hid (VarC wr w.heap.size zero24) := hide (((unhide HK).block w.heap.size (Array.getElem?_eq_some_iff.1 (unhide HN2)).1 (by have := unhide HSZ; omega)).trans (unhide HN2))
        have HBE := hide (keep_one (unhide HB2) (unhide HK) (by have := unhide HSZ; omega))
        have hnl : ¬ ((4 : Nat) : Int) < ((ns.length : Nat) : Int) := by have := unhide H4; omega
        generalize hLL : cdL s = L at *
        have HLL := hide hLL
        clear hLL
        go_wp2_with (first | (refine wpList_load_arr rfl 101 _ rfl G rfl (intV L).toArray _ _ (unhide HVF) und24 rfl (sizeA (unhide HLC)) ?_) | (refine wpList_store_arr rfl 101 _ _ rfl w.heap.size rfl (intV L).toArray rfl _ _ (unhide HNF) (sizeA (unhide HLC)) (by rw [intV_size, intV_size, unhide HLC]; rfl) (intV_one _) ?_; intro w3 hn3 hk3 hs3; have HN3 := hide hn3; have HB3 := hide (keep_one (unhide HBE) hk3 (Nat.le_refl _)); clear hn3 hk3 hs3))
        refine bodyPost_ret (v := ctV L) ?_ rfl ⟨.inl ⟨unhide HF, ?_⟩, unhide HB3⟩
        · exact results_cell_row Tryz.results78 _ _ w.heap.size 101 (intV L).toArray (0, 0) _ rfl (unhide HN3) und24 rfl (sizeA (unhide HLC))
        · rw [unhide HLL]
  · have HF := hide (unhide HLEN h4)
    have b4 : (((ns.length : Nat) : Int) == 4) = false := by simp; omega
    clear h4 HLEN
    go_wp2_with (go_at_call 82; refine (demand_false _ (unhide HE1)).mono ?_; rintro e w' ⟨⟨u, pv, rfl⟩, hw⟩; replace hw := hw.symm; subst hw)
    exact ⟨rfl, .inr ⟨unhide HF, _, _, rfl⟩, unhide HB⟩

end Go.Proofs.YthnpooffhopnkacGreatDoor

/- Regions that draw their order in one order of the prover's choice, where an operation may panic: what is asked of a panic does not hang on the slots. -/
namespace Go.Proofs.YthnpooffhopnkacGreatDoor
open Go.RowKit
set_option linter.unusedVariables false

section
variable {P : Program} {Q : Exit → Act → World → Prop} {S S' : World → Prop} {C : Act → World → Prop} {l : List Oper} {hl : List Nat}

/-- What is asked of a panic does not hang on what was put into slots. -/
def PanQ (Q : Exit → Act → World → Prop) : Prop := ∀ c d v (a : Act) w, Q (.panic c) (a.put d v) w → Q (.panic c) a w
theorem panQ_body (P : Program) (fn : Func) (R : Ending → World → Prop) : PanQ (bodyPost P fn R) := fun c d v a w h => by
  cases d <;> exact h
theorem panQ_then {K : Act → World → Prop} (h : PanQ Q) : PanQ (Exit.then K Q) := fun c d v a w hh => h c d v a w hh
theorem panQ_block {id : Nat} (h : PanQ Q) : PanQ (Exit.inBlock id Q) := fun c d v a w hh => h c d v a w hh
theorem panQ_scope (h : PanQ Q) : PanQ (Exit.noGoto Q) := fun c d v a w hh => h c d v a w hh

theorem anyR_of_ordP (hs : Region.noSelect l.toArray = true) (hQ : PanQ Q) (fuel : Nat) : ∀ (ord : List (Nat × Nat)) (listed : Array Bool) (a : Act) (w : World), Closed l (lsD listed) → rgOrdB l hl ord listed = true → wpOrd P l Q S (fun a w => Closed l (lsD (rgSet ord listed)) → wpAnyR P l Q S hl fuel (rgSet ord listed) a w) ord a w → wpAnyR P l Q S hl (ord.length + fuel) listed a w
  | [], listed, a, w, hc, hB, h => by simpa [rgSet] using h hc
  | (i, k) :: r, listed, a, w, hc, hB, h => by
    rw [show ((i, k) :: r).length + fuel = (r.length + fuel) + 1 by simp only [List.length_cons]; omega]
    have hrs : rgSet ((i, k) :: r) listed = rgSet r (listed.setIfInBounds i true) := rfl
    rw [hrs] at h
    obtain ⟨C, hC⟩ : ∃ C, C = (fun a w => Closed l (lsD (rgSet r (listed.setIfInBounds i true))) → wpAnyR P l Q S hl fuel (rgSet r (listed.setIfInBounds i true)) a w) := ⟨_, rfl⟩
    rw [← hC] at h
    unfold rgOrdB at hB
    rw [Bool.and_eq_true] at hB
    obtain ⟨hB1, hB2⟩ := hB
    have hone : ∀ (hrd : Region.ready .any l.toArray listed = [i]) (hw : ∀ o, l[i]? = some o → Region.wanted o (yielded l.toArray a.tmps) = true ∧ o.wp P a w (fun a' w' => (i ∈ hl → S w') ∧ wpOrd P l Q S C r a' w') Q), wpAnyR P l Q S hl (r.length + fuel + 1) listed a w := by
      intro hrd hw
      refine ⟨fun h0 => (by rw [hrd] at h0; cases h0), fun j hj => ?_⟩
      have hji : j = i := by rw [hrd] at hj; simpa using hj
      subst hji
      obtain ⟨_, o, ho, _⟩ := mem_ready.1 hj
      have ho' : l[j]? = some o := by simpa using ho
      obtain ⟨h1, h2⟩ := hw o ho'
      unfold wpOp
      simp only [ho]
      rw [if_pos h1]
      exact .inl (Oper.wp_mono (fun a' w' h3 => ⟨h3.1, anyR_of_ordP hs hQ fuel r _ a' w' (closed_set hc hj) hB2 (hC ▸ h3.2)⟩) h2)
    have hfirst : ∀ (v : Value) (S' : World → Prop) (hf : rgFrB l listed i = true) (hSS : ∀ w, S w → S' w) (hst : ∀ j, j < l.length → j ∉ hl → j ≠ i → Anc l j i ∨ ((∀ w, S' w) ∧ i ∉ hl)) (hS' : S' w) (hSw : i ∈ hl → S w)
        (hy : ∀ o, l[i]? = some o → YieldsIf P l.toArray S' o v a ∧ wpOrd P l Q S C r (a.put o.dst v) w), wpAnyR P l Q S hl (r.length + fuel + 1) listed a w := by
      intro v S' hf hSS hst hS' hSw hy
      unfold rgFrB at hf
      rw [Bool.and_eq_true] at hf
      have hir : i ∈ Region.ready .any l.toArray listed := by simpa using hf.1
      obtain ⟨_, o, ho, _⟩ := mem_ready.1 hir
      have ho' : l[i]? = some o := by simpa using ho
      obtain ⟨h1, h2⟩ := hy o ho'
      exact wpAnyR_first ho (Region.noSelect_spec hs) (fun c a w h => hQ _ _ _ _ _ h) hSS hst (r.length + fuel) listed a w hc (Region.free_spec ho hf.2) hir h1 hS' hSw (anyR_of_ordP hs hQ fuel r _ _ _ (closed_set hc hir) hB2 (hC ▸ h2))
    match k, hB1, h with
    | 0, hB1, h =>
      simp only [Bool.and_eq_true] at hB1
      have hir : i ∈ Region.ready .any l.toArray listed := by have := hB1.1; unfold rgFrB at this; rw [Bool.and_eq_true] at this; simpa using this.1
      obtain ⟨_, o, ho, _⟩ := mem_ready.1 hir
      have ho' : l[i]? = some o := by simpa using ho
      obtain ⟨h1, h2, v, h3, h4⟩ := h o ho'
      exact hfirst v S hB1.1 (fun _ h => h) (fun j a b c => .inl (rgSt_spec hB1.2 j a b c)) h2 (fun _ => h2) (fun o2 ho2 => by
        rw [ho'] at ho2
        cases ho2
        exact ⟨.inl ⟨h1, h3⟩, h4⟩)
    | 1, hB1, h =>
      simp only [Bool.and_eq_true, Bool.not_eq_true'] at hB1
      exact hfirst undef (fun _ => True) hB1.2 (fun _ _ => trivial) (fun _ _ _ _ => .inr ⟨fun _ => trivial, by simpa using hB1.1⟩) trivial (fun h6 => absurd h6 (by simpa using hB1.1)) (fun o ho => ⟨.inr ⟨(h o ho).1, rfl⟩, (h o ho).2⟩)
    | 2, hB1, h =>
      simp only [Bool.and_eq_true, beq_iff_eq] at hB1
      exact hone hB1.2 (fun o ho => ⟨(h o ho).1, Oper.wp_mono (fun a' w' h3 => ⟨fun _ => h3.1, h3.2⟩) (h o ho).2⟩)
    | 3, hB1, h =>
      simp only [Bool.and_eq_true, beq_iff_eq, Bool.not_eq_true'] at hB1
      exact hone hB1.2 (fun o ho => ⟨(h o ho).1, Oper.wp_mono (fun a' w' h3 => ⟨fun h6 => absurd h6 (by simpa using hB1.1), h3⟩) (h o ho).2⟩)
    | 4, hB1, h =>
      simp only [Bool.and_eq_true, Bool.not_eq_true'] at hB1
      have hir : i ∈ Region.ready .any l.toArray listed := by have := hB1.2; unfold rgFrB at this; rw [Bool.and_eq_true] at this; simpa using this.1
      obtain ⟨_, o, ho, _⟩ := mem_ready.1 hir
      have ho' : l[i]? = some o := by simpa using ho
      obtain ⟨h1, v, h3, h4⟩ := h o ho'
      exact hfirst v (fun _ => True) hB1.2 (fun _ _ => trivial) (fun _ _ _ _ => .inr ⟨fun _ => trivial, by simpa using hB1.1⟩) trivial (fun h6 => absurd h6 (by simpa using hB1.1)) (fun o2 ho2 => by
        rw [ho'] at ho2
        cases ho2
        exact ⟨.inl ⟨h1, fun w' _ => h3 w'⟩, h4⟩)
    | 5, hB1, h =>
      simp only [Bool.and_eq_true] at hB1
      have hir : i ∈ Region.ready .any l.toArray listed := by have := hB1.1; unfold rgFrB at this; rw [Bool.and_eq_true] at this; simpa using this.1
      obtain ⟨_, o, ho, _⟩ := mem_ready.1 hir
      have ho' : l[i]? = some o := by simpa using ho
      obtain ⟨h1, h2, h4⟩ := h o ho'
      exact hfirst undef S hB1.1 (fun _ h => h) (fun j a b c => .inl (rgSt_spec hB1.2 j a b c)) h2 (fun _ => h2) (fun o2 ho2 => by
        rw [ho'] at ho2
        cases ho2
        exact ⟨.inr ⟨h1, rfl⟩, h4⟩)
    | n + 6, hB1, h =>
      simp only [Bool.and_eq_true, Bool.not_eq_true'] at hB1
      exact hfirst undef (fun _ => True) hB1.2 (fun _ _ => trivial) (fun _ _ _ _ => .inr ⟨fun _ => trivial, by simpa using hB1.1⟩) trivial (fun h6 => absurd h6 (by simpa using hB1.1)) (fun o ho => ⟨.inr ⟨(h o ho).1, rfl⟩, (h o ho).2⟩)


theorem wp_region_ordP {id : Nat} {a : Act} {w : World} (hQ : PanQ Q) (S : World → Prop) (hl : List Nat) (ord : List (Nat × Nat)) (hm : P.follows .mixedOrders = true) (hs : Region.noSelect l.toArray = true) (hn : ord.length = l.length) (hB : (rgOrdB l hl ord (Array.replicate l.length false) && (Region.ready .any l.toArray (rgSet ord (Array.replicate l.length false))).isEmpty) = true)
    (h : wpOrd P l Q S (fun a w => Q .normal a w) ord a w.drew) : (Code.region id l.toArray true).wp P Q a w := by
  refine wp_region_any hm (wpAny_of_R (S := S) (hl := hl) _ _ _ _ ?_)
  rw [Bool.and_eq_true] at hB
  have := anyR_of_ordP (P := P) (Q := Q) (S := S) (hl := hl) hs hQ 0 ord _ a w.drew (closed_none _) hB.1 (ord_imp (fun a w h _ => ⟨by simpa using hB.2, h⟩) ord _ _ h)
  rw [Nat.add_zero, hn] at this
  simpa using this
theorem wp_region_treeP {id : Nat} {a : Act} {w : World} (S : World → Prop) (hl : List Nat) (hm : P.follows .mixedOrders = true) (h : wpT P l Q S hl l.length (Array.replicate l.length false) a w.drew) : (Code.region id l.toArray true).wp P Q a w :=
  wp_region_any hm (wpAny_of_R (S := S) (hl := hl) _ _ _ _ (by simpa using h (closed_none _)))
theorem tree_segP {fuel n : Nat} {listed : Array Bool} {a : Act} {w : World} (hQ : PanQ Q) (ord : List (Nat × Nat)) (hs : Region.noSelect l.toArray = true) (hn : fuel = ord.length + n) (hB : rgOrdB l hl ord listed = true)
    (h : wpOrd P l Q S (fun a w => wpT P l Q S hl n (rgSet ord listed) a w) ord a w) : wpT P l Q S hl fuel listed a w := fun hc => by
  rw [hn]
  exact anyR_of_ordP hs hQ n ord listed a w hc hB h
theorem tree_doneP {fuel : Nat} {listed : Array Bool} {a : Act} {w : World} (hB : (Region.ready .any l.toArray listed).isEmpty = true) (h : Q .normal a w) : wpT P l Q S hl fuel listed a w := fun _ => by
  have hr : Region.ready .any l.toArray listed = [] := by simpa using hB
  cases fuel with
  | zero => exact ⟨hr, h⟩
  | succ n => exact ⟨fun _ => h, by rw [hr]; simp⟩
theorem ord_doneP {a : Act} {w : World} (h : Q .normal a w) : wpOrd P l Q S (fun a w => Q .normal a w) [] a w := h
end

end Go.Proofs.YthnpooffhopnkacGreatDoor
