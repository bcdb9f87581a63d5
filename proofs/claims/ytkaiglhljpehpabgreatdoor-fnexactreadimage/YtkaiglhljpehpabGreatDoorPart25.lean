import Derived.Test.YtkaiglhljpehpabGreatDoorRows
import Derived.Test.YtkaiglhljpehpabGreatDoorPart1
import Derived.Test.YtkaiglhljpehpabGreatDoorPart2
import Derived.Test.YtkaiglhljpehpabGreatDoorPart3
import Derived.Test.YtkaiglhljpehpabGreatDoorPart4
import Derived.Test.YtkaiglhljpehpabGreatDoorPart5
import Derived.Test.YtkaiglhljpehpabGreatDoorPart8
import Derived.Test.YtkaiglhljpehpabGreatDoorPart20
import Derived.Test.YtkaiglhljpehpabGreatDoorPart16
import Derived.WalkKit
import Derived.WalkSpells
import Derived.KernelRfl
import Derived.LoopN
import Derived.Lib.ConvBytes
import Derived.Deep.RegionWith
import Derived.Shelf.SlicesE.Reverse
import Derived.Test.YtkaiglhljpehpabGreatDoorPart24
import Derived.Test.YtkaiglhljpehpabGreatDoorPart15
import Derived.Laws.BytesArg

/- Contracts of impl.dataOK, impl.snapNameOK, impl.findSnap, impl.snapNamesOK. -/
namespace Go.Proofs.YtkaiglhljpehpabGreatDoor
open Go.RowKit
set_option linter.unusedVariables false
set_option maxRecDepth 100000

/-- Right data. -/
def datB (xs : List Int) : Bool := decide (xs.length = 24) && xs.all numB
theorem dat_len {xs : List Int} (h : ¬ xs.length = 24) : datB xs = false := by rw [datB, decide_eq_false h]; rfl
theorem dat_no {xs : List Int} {k : Nat} (hk : k < xs.length) (h : numB xs[k] = false) : datB xs = false := by rw [datB, all_not (p := numB) hk h]; simp
theorem dat_yes {xs : List Int} (hl : xs.length = 24) (h : ∀ j (hj : j < xs.length), numB xs[j] = true) : datB xs = true := by rw [datB, decide_eq_true hl, all_of (p := numB) (fun i hi _ => h i hi)]; rfl

set_option maxHeartbeats 800000 in
theorem dataOK_any (ao : Option Addr) (cap : Nat) (xs : List Int) (w : World) (hl : xs.length ≤ maxLen) (hc : Is w ao xs) :
    Calls Tryz.prog 88 #[.slice ao xs.length cap] w fun e w' => e = .returned (.bool (datB xs)) ∧ w' = w := by
  have HC := hide hc
  clear hc
  unfold maxLen at hl
  by_cases h24 : xs.length = 24
  · have HL := hide h24
    have hb24 : ((xs.length : Int) != 24) = false := by simp [h24]
    have hl24 : (xs.length : Int) ≤ 24 := by omega
    clear h24
    go_enter Tryz.func88, Tryz.ntmps88
    go_wp2
    go_loop [10] (fun i => ∃ k : Nat, k ≤ xs.length ∧ i = .int .i64 k ∧ Hid (∀ j (h : j < xs.length), j < k → numB xs[j] = true)) (fun i => xs.length - (intOf i).toNat)
    case atStart => exact ⟨0, Nat.zero_le _, rfl, hide (fun j _ h => by omega)⟩
    case round =>
      obtain ⟨k, hk, rfl, HA⟩ := hrel
      by_cases hlt : k < xs.length
      · obtain ⟨b, off, rfl, hc⟩ := unhide HC k hlt
        cases hn : numB xs[k]
        · have HF := hide (dat_no hlt hn)
          go_wp2_with (go_at_call 96; refine (isNumber_any _ _).mono ?_; rintro e w' ⟨rfl, hw⟩; replace hw := hw.symm; subst hw; rw [hn])
          go_ret
          exact ⟨ret_bool (unhide HF).symm, rfl⟩
        · have HN := hide (all_succ hlt (unhide HA) hn)
          go_wp2_with (go_at_call 96; refine (isNumber_any _ _).mono ?_; rintro e w' ⟨rfl, hw⟩; replace hw := hw.symm; subst hw; rw [hn])
          go_round
          case rel => exact ⟨k + 1, by omega, by go_num, HN⟩
          case measure => simp [intOf]; omega
      · have HF := hide (dat_yes (unhide HL) (fun j h => unhide HA j h (by omega)))
        go_wp2
        go_ret
        exact ⟨ret_bool (unhide HF).symm, rfl⟩
  · have HF := hide (dat_len h24)
    have hb24 : ((xs.length : Int) != 24) = true := by simp; omega
    clear h24
    go_enter Tryz.func88, Tryz.ntmps88
    go_wp2
    go_ret
    exact ⟨ret_bool (unhide HF).symm, rfl⟩

theorem below_bytes (w : World) (e : TypeId) (s : ByteArray) : Below w.heap.size w (Lib.bytesWorld w e s) :=
  ⟨rfl, rfl, rfl, by rw [Lib.bytesWorld_size]; omega, fun i hi => Lib.bytesWorld_at_old w e s i hi⟩

set_option maxHeartbeats 1600000 in
theorem snapNameOK_any (t : ByteArray) (w : World) (hz : t.size ≤ maxLen) :
    Calls Tryz.prog 77 #[.string t] w fun e w' => e = .returned (.bool (snmB t)) ∧ Below w.heap.size w w' := by
  unfold maxLen at hz
  cases hb : betw (t.size : Int) 1 6
  · have HF : Hid (snmB t = false) := hide (by rw [snmB, hb]; simp)
    go_enter Tryz.func77, Tryz.ntmps77
    go_wp2_with (go_at_call 86; refine (within_any _ _ _ _).mono ?_; rintro e w' ⟨rfl, hw⟩; replace hw := hw.symm; subst hw; rw [hb])
    go_ret
    exact ⟨ret_bool (unhide HF).symm, Below.refl _ _⟩
  have HBT := hide hb
  have h6 : t.size ≤ 6 := by have := betw_iff.1 hb; omega
  have hcv := fun (W : World) => Lib.run_convert_string_bytes (P := Tryz.prog) W 9 89 5 t Tryz.underlying9 Tryz.underlying89 Tryz.underlying5
  have HB := hide (below_bytes w 5 t)
  have HCL := hide (Lib.bytesWorld_cell w 5 t)
  go_enter Tryz.func77, Tryz.ntmps77
  go_wp2_with (go_at_call 86; refine (within_any _ _ _ _).mono ?_; rintro e w' ⟨rfl, hw⟩; replace hw := hw.symm; subst hw; rw [hb])
  revert HB HCL
  generalize Lib.bytesWorld w 5 t = w1
  generalize grownCap w t.size 0 5 = gc
  intro HB HCL
  clear hcv
  go_loop [12] (fun i => ∃ k : Nat, k ≤ t.size ∧ i = .int .i64 k ∧ Hid (∀ j (h : j < t.size), j < k → nm1 t[j] = true)) (fun i => t.size - (intOf i).toNat)
  case atStart => exact ⟨0, Nat.zero_le _, rfl, hide (fun j _ h => by omega)⟩
  case round =>
    obtain ⟨k, hk, rfl, HA⟩ := hrel
    by_cases hlt : k < t.size
    · have hck := unhide HCL k hlt
      have eck : (t.data.toList.getD k 0) = t[k] := by simp [List.getD, snm_get hlt]
      rw [eck] at hck
      clear eck
      by_cases hlo : 97 ≤ t[k].toNat
      · by_cases hhi : t[k].toNat ≤ 122
        · have HN : Hid (∀ j (h : j < t.size), j < k + 1 → nm1 t[j] = true) := hide (fun j h hj => by
            by_cases e : j = k
            · subst e; simp [nm1, hlo, hhi]
            · exact unhide HA j h (by omega))
          have h1 : ¬ ((t[k].toNat : Int) < 97) := by omega
          have h2 : ¬ (122 < (t[k].toNat : Int)) := by omega
          go_wp2
          go_round
          case rel => exact ⟨k + 1, by omega, by go_num, HN⟩
          case measure => simp [intOf]; omega
        · have HF := hide (snm_bad hlt (by simp [nm1]; omega))
          have h1 : ¬ ((t[k].toNat : Int) < 97) := by omega
          have h2 : (122 < (t[k].toNat : Int)) := by omega
          go_wp2
          go_ret
          exact ⟨ret_bool (unhide HF).symm, unhide HB⟩
      · have HF := hide (snm_bad hlt (by simp [nm1]; omega))
        have h1 : ((t[k].toNat : Int) < 97) := by omega
        go_wp2
        go_ret
        exact ⟨ret_bool (unhide HF).symm, unhide HB⟩
    · have HF := hide ((snm_all (fun j h => unhide HA j h (by omega))).trans (unhide HBT))
      go_wp2
      go_ret
      exact ⟨ret_bool (unhide HF).symm, unhide HB⟩

/-- A text in a variable. -/
def VarT1 (w : World) (x : Nat) (s : ByteArray) : Prop := w.cell? ⟨x, 0, none⟩ = some (.string s)
set_option maxHeartbeats 800000 in
theorem findSnapC_any (s : Snp) (tq : Option Addr) (tc x : Nat) (name : ByteArray) (w : World) (hx : VarT1 w x name) :
    Calls Tryz.prog 101 #[snV s tq tc, .pointer (some ⟨x, 0, none⟩)] w fun e w' => e = .returned (.bool (decide (s.name = name))) ∧ Below w.heap.size w w' := by
  have hxl := World.block_lt_of_cell? _ _ hx
  have hx' : w.cell? ⟨x, 0, none⟩ = some (.string name) := hx
  clear hx
  by_cases he : s.name = name
  · have be : (s.name.toList == name.toList) = true := by simp [he]
    have HE : Hid (decide (s.name = name) = true) := hide (decide_eq_true he)
    clear he
    go_enter Tryz.func101, Tryz.ntmps101
    go_wp2
    go_ret
    exact ⟨ret_bool (unhide HE).symm, Joins.below_alloc1 _ _⟩
  · have be : (s.name.toList == name.toList) = false := str_beq_false he
    have HE : Hid (decide (s.name = name) = false) := hide (decide_eq_false he)
    clear he
    go_enter Tryz.func101, Tryz.ntmps101
    go_wp2
    go_ret
    exact ⟨ret_bool (unhide HE).symm, Joins.below_alloc1 _ _⟩

/-- Where a name stands in a row of snapshots. -/
abbrev fdL (ss : List Snp) (name : ByteArray) : Int := fdI ⟨[], [], ss, []⟩ name
theorem fdL_here {ss : List Snp} {name : ByteArray} {k : Nat} (hk : k < ss.length) (h0 : ss[k].name = name) (h : ∀ j (hj : j < ss.length), j < k → ss[j].name ≠ name) : fdL ss name = (k : Int) := by
  have e := find_here (m := ⟨[], [], ss, []⟩) hk h0 h
  show fdI _ _ = _
  rw [fdI, if_pos (by rw [e]; exact hk), e]
theorem fdL_none {ss : List Snp} {name : ByteArray} (h : ∀ j (hj : j < ss.length), ss[j].name ≠ name) : fdL ss name = -1 := if_neg (find_none (m := ⟨[], [], ss, []⟩) h)

set_option maxHeartbeats 1600000 in
theorem indexFunc_any (so : Option Addr) (sc : Nat) (ss : List Snp) (x : Nat) (name : ByteArray) (w : World) (hs : ss.length ≤ maxLen) (hc : Sns w so ss) (hx : VarT1 w x name) :
    Calls Tryz.prog 100 #[.slice so ss.length sc, .func (.func 101) #[] #[.pointer (some ⟨x, 0, none⟩)]] w fun e w' => e = .returned (.int .i64 (fdL ss name)) ∧ Below w.heap.size w w' := by
  unfold maxLen at hs
  have HC := hide hc
  have HX := hide hx
  clear hc hx
  go_enter Tryz.func100, Tryz.ntmps100
  go_wp2
  go_loopw [8] (fun i wr => ∃ k : Nat, k ≤ ss.length ∧ i = .int .i64 k ∧ Hid (∀ j (hj : j < ss.length), j < k → ss[j].name ≠ name) ∧ Hid (Below w.heap.size w wr)) (fun i _ => ss.length - (intOf i).toNat)
  case atStart => exact ⟨0, Nat.zero_le _, rfl, hide (fun j _ h => by omega), hide (Below.refl _ _)⟩
  case round =>
    obtain ⟨k, hk, rfl, HN, HB⟩ := hrel
    by_cases hlt : k < ss.length
    · obtain ⟨b, off, tq, tc, rfl, hn0, ht0, _, _, _⟩ := ((unhide HC).below (unhide HB)) k hlt
      have HXR : Hid (VarT1 wr x name) := hide (((unhide HB).cell (World.block_lt_of_cell? _ _ (unhide HX))).trans (unhide HX))
      go_wp2_with fail
      refine (findSnapC_any ss[k] tq tc x name _ (unhide HXR)).mono ?_
      rintro e w2 ⟨rfl, hb⟩
      have HB2 := hide (fr (unhide HB) hb)
      clear hb hn0 ht0
      by_cases he : ss[k].name = name
      · have HF := hide (fdL_here hlt he (unhide HN))
        have be : decide (ss[k].name = name) = true := decide_eq_true he
        rw [be]
        clear he be
        go_wp2
        go_ret
        exact ⟨ret_int (unhide HF).symm, unhide HB2⟩
      · have HN' : Hid (∀ j (hj : j < ss.length), j < k + 1 → ss[j].name ≠ name) := hide (fun j hj h => by
          by_cases e : j = k
          · subst e; exact he
          · exact unhide HN j hj (by omega))
        have be : decide (ss[k].name = name) = false := decide_eq_false he
        rw [be]
        clear he be
        go_wp2
        go_roundw
        case rel => exact ⟨k + 1, by omega, by go_num, HN', HB2⟩
        case measure => simp [intOf]; omega
    · have HF := hide (fdL_none (fun j hj => unhide HN j hj (by omega)))
      go_wp2
      go_ret
      exact ⟨ret_int (unhide HF).symm, unhide HB⟩

set_option maxHeartbeats 1600000 in
theorem findSnap_any (so : Option Addr) (sc : Nat) (ss : List Snp) (name : ByteArray) (w : World) (hs : ss.length ≤ maxLen) (hc : Sns w so ss) :
    Calls Tryz.prog 97 #[.slice so ss.length sc, .string name] w fun e w' => e = .returned (.int .i64 (fdL ss name)) ∧ Below w.heap.size w w' := by
  have hmf : ∀ (fn : Fn) (first cap : Array Value) (w : World), (Instr.makeFunc fn first cap).run Tryz.prog w = .ok (.func fn first cap) w := fun _ _ _ _ => rfl
  have HA := hide (Joins.below_alloc1 w (.cells #[.string name] 9))
  have HC := hide (hc.below (unhide HA))
  have HX : Hid (VarT1 (w.alloc (.cells #[.string name] 9)) w.heap.size name) := hide (by unfold VarT1; rw [Joins.cell_of_block (heap_alloc_new w _)]; rfl)
  have HS := hide hs
  clear hc hs
  go_enter Tryz.func97, Tryz.ntmps97
  go_upto_region 1 with fail
  revert HA HC HX
  generalize (w.alloc _) = W0
  intro HA HC HX
  go_wp2_with fail
  refine (indexFunc_any so sc ss w.heap.size name _ (unhide HS) (unhide HC) (unhide HX)).mono ?_
  rintro e w2 ⟨rfl, hb⟩
  have HB := hide (fr (unhide HA) hb)
  clear hb
  go_wp2
  go_ret
  exact ⟨rfl, unhide HB⟩

/-- What snapNamesOK answers. -/
def snpsB (ss : List Snp) : Bool := decide (ss.length ≤ 3) && ss.all (fun s => snmB s.name) && namesB ss
theorem snps_many {ss : List Snp} (h : ¬ ss.length ≤ 3) : snpsB ss = false := by rw [snpsB, decide_eq_false h]; rfl
theorem snps_bad {ss : List Snp} {k : Nat} (hk : k < ss.length) (h : snmB ss[k].name = false) : snpsB ss = false := by
  rw [snpsB, all_not (p := fun s : Snp => snmB s.name) hk h]; simp
theorem snps_twice {ss : List Snp} {i k : Nat} (hi : i < ss.length) (hk : k < i) (h : ss[i].name = ss[k].name) : snpsB ss = false := by
  have e : namesB ss = false := decide_eq_false (not_nodup (xs := ss.map (·.name)) (i := i) (k := k) (by simpa using hi) hk (by simpa using h))
  rw [snpsB, e]; simp
theorem snps_yes {ss : List Snp} (h3 : ss.length ≤ 3) (h : ∀ j (hj : j < ss.length), snmB ss[j].name = true) (hn : (ss.map (·.name)).Nodup) : snpsB ss = true := by
  rw [snpsB, decide_eq_true h3, all_of (p := fun s : Snp => snmB s.name) (fun i hi _ => h i hi), namesB, decide_eq_true hn]; rfl
/-- Of a name that stands at k, either it is found there, or it stands ahead, too. -/
theorem fdL_at {ss : List Snp} {k : Nat} (hk : k < ss.length) : (fdL ss ss[k].name = (k : Int) ∧ ∀ j (hj : j < ss.length), j < k → ss[j].name ≠ ss[k].name) ∨ ((fdL ss ss[k].name != (k : Int)) = true ∧ ∃ j, ∃ hj : j < ss.length, j < k ∧ ss[k].name = ss[j].name) := by
  by_cases h : ∃ j, ∃ hj : j < ss.length, j < k ∧ ss[j].name = ss[k].name
  · right
    have hf : imFind ⟨[], [], ss, []⟩ ss[k].name < k := by
      obtain ⟨j, hj, hjk, e⟩ := h
      unfold imFind
      refine Nat.lt_of_le_of_lt (m := j) ?_ hjk
      refine Nat.le_of_not_lt fun h2 => ?_
      have := List.not_of_lt_findIdx h2
      simp [e] at this
    refine ⟨?_, ?_⟩
    · have e : fdL ss ss[k].name = (imFind ⟨[], [], ss, []⟩ ss[k].name : Int) := if_pos (show imFind ⟨[], [], ss, []⟩ ss[k].name < ss.length by omega)
      rw [e]; simp; omega
    · obtain ⟨j, hj, hjk, e⟩ := h
      exact ⟨j, hj, hjk, e.symm⟩
  · left
    have hn : ∀ j (hj : j < ss.length), j < k → ss[j].name ≠ ss[k].name := fun j hj hjk e => h ⟨j, hj, hjk, e⟩
    exact ⟨fdL_here hk rfl hn, hn⟩

set_option maxHeartbeats 1600000 in
theorem snapNamesOK_any (so : Option Addr) (sc : Nat) (ss : List Snp) (w : World) (hs : ss.length ≤ maxLen) (hc : Sns w so ss) :
    Calls Tryz.prog 89 #[.slice so ss.length sc] w fun e w' => e = .returned (.bool (snpsB ss)) ∧ Below w.heap.size w w' := by
  have HS := hide hs
  unfold maxLen at hs
  have HC := hide hc
  clear hc
  by_cases h3 : ss.length ≤ 3
  · have h3i : ¬ (3 : Int) < (ss.length : Int) := by omega
    go_enter Tryz.func89, Tryz.ntmps89
    go_wp2
    go_loopw [10] (fun i wr => ∃ k : Nat, k ≤ ss.length ∧ i = .int .i64 k ∧ Hid (∀ j (hj : j < ss.length), j < k → snmB ss[j].name = true) ∧ Hid (((ss.map (·.name)).take k).Nodup) ∧ Hid (Below w.heap.size w wr)) (fun i _ => ss.length - (intOf i).toNat)
    case atStart => exact ⟨0, Nat.zero_le _, rfl, hide (fun j _ h => by omega), hide (by simp), hide (Below.refl _ _)⟩
    case round =>
      obtain ⟨k, hk, rfl, HN, HD, HB⟩ := hrel
      by_cases hlt : k < ss.length
      · obtain ⟨b, off, tq, tc, rfl, hn0, ht0, _, hz, htl⟩ := ((unhide HC).below (unhide HB)) k hlt
        have HZ := hide hz
        have HX := hide (VarN.new wr ss[k].name (.slice tq ss[k].table.length tc))
        have HBX := hide (Joins.below_alloc1 wr (.cells #[.string ss[k].name, .slice tq ss[k].table.length tc] 72))
        clear hz htl
        go_upto_region 6 with fail
        revert HX HBX
        generalize (wr.alloc _) = w2
        intro HX HBX
        obtain ⟨x0, x1⟩ := (unhide HX).cells
        have HB2 := hide (fr (unhide HB) (unhide HBX))
        clear HBX hn0 ht0
        go_wp2_with fail
        refine (snapNameOK_any ss[k].name _ (unhide HZ)).mono ?_
        rintro e w3 ⟨rfl, hb⟩
        have HB3 := hide (fr (unhide HB2) hb)
        have x0' := (hb.cell (p := ⟨wr.heap.size, 0, none⟩) (World.block_lt_of_cell? _ _ x0)).trans x0
        clear hb x0 x1 HX
        cases hnm : snmB ss[k].name
        · have HF := hide (snps_bad hlt hnm)
          go_wp2
          go_ret
          exact ⟨ret_bool (unhide HF).symm, unhide HB3⟩
        have HN' := hide (all_succ (p := fun s : Snp => snmB s.name) hlt (unhide HN) hnm)
        have HC3 := hide ((unhide HC).below (unhide HB3))
        go_wp2_with fail
        refine (findSnap_any _ sc ss ss[k].name _ (unhide HS) (unhide HC3)).mono ?_
        rintro e w4 ⟨rfl, hb⟩
        have HB4 := hide (fr (unhide HB3) hb)
        clear hb x0'
        rcases fdL_at hlt with ⟨hf, hne⟩ | ⟨hf, j, hj, hjk, he⟩
        · have hb1 : (fdL ss ss[k].name != (k : Int)) = false := by rw [hf]; simp
          have HD' := hide (nodup_snoc (xs := ss.map (·.name)) (by simpa using hlt) (unhide HD) (fun j hj hjk => by
            have := hne j (by simpa using hj) hjk
            simpa using this))
          clear hf hne
          generalize fdL ss ss[k].name = F at *
          go_wp2
          go_roundw
          case rel => exact ⟨k + 1, by omega, by go_num, HN', HD', HB4⟩
          case measure => simp [intOf]; omega
        · have HF := hide (snps_twice hlt hjk he)
          clear he
          generalize fdL ss ss[k].name = F at *
          go_wp2
          go_ret
          exact ⟨ret_bool (unhide HF).symm, unhide HB4⟩
      · have HF := hide (snps_yes h3 (fun j hj => unhide HN j hj (by omega)) (by
          have := unhide HD
          rwa [List.take_of_length_le (by simp; omega)] at this))
        go_wp2
        go_ret
        exact ⟨ret_bool (unhide HF).symm, unhide HB⟩
  · have HF := hide (snps_many h3)
    have h3i : (3 : Int) < (ss.length : Int) := by omega
    go_enter Tryz.func89, Tryz.ntmps89
    go_wp2
    go_ret
    exact ⟨ret_bool (unhide HF).symm, Below.refl _ _⟩

end Go.Proofs.YtkaiglhljpehpabGreatDoor

/- The library's slices.Reverse at bytes lies in this program as in the shelf's: the numbers. -/
namespace Go.Proofs.YtkaiglhljpehpabGreatDoor
open Go.RowKit Go.Shelf
set_option maxRecDepth 100000

def lay_revB_ren : Go.Shelf.Ren := ⟨fun | 35 => 76 | n => n, fun | 22 => 89 | 23 => 5 | 3 => 3 | 4 => 4 | 0 => 0 | n => n, fun | n => n⟩

theorem lay_revB : Go.Proofs.SlLaysE.n35 Tryz.prog lay_revB_ren := {
  mixed := by kernel_rfl
  f35 := ⟨Tryz.f76.name, by decide, Tryz.func76.trans (congrArg some (by kernel_rfl))⟩
  t0 := Tryz.underlying0
  a0 := Tryz.isAgg0
  z0 := Tryz.sizeOf0
  v0 := Tryz.zeroValue0
  t3 := Tryz.underlying3
  a3 := Tryz.isAgg3
  z3 := Tryz.sizeOf3
  v3 := Tryz.zeroValue3
  t4 := Tryz.underlying4
  a4 := Tryz.isAgg4
  z4 := Tryz.sizeOf4
  v4 := Tryz.zeroValue4
  t22 := Tryz.underlying89
  a22 := Tryz.isAgg89
  z22 := Tryz.sizeOf89
  v22 := Tryz.zeroValue89
  a23 := Tryz.isAgg5
  z23 := Tryz.sizeOf5 }

end Go.Proofs.YtkaiglhljpehpabGreatDoor

/- Names out of numbers, as the program takes them; the contract of readName. -/
namespace Go.Proofs.YtkaiglhljpehpabGreatDoor
open Go.RowKit Go.Sort
set_option linter.unusedVariables false
set_option maxRecDepth 100000

/-- A number's letters, a digit 0 being a sign ahead of a. -/
def li1 (n : Nat) : UInt8 := UInt8.ofNat (96 + n % 27)
def liL : Nat → Nat → List UInt8
  | 0, _ => []
  | f + 1, n => if n = 0 then [] else liL f (n / 27) ++ [li1 n]
def unI (n : Nat) : ByteArray := ⟨(liL 8 n).toArray⟩
theorem liL_zero (f : Nat) : liL f 0 = [] := by cases f <;> simp [liL]
theorem li1_toNat (n : Nat) : (li1 n).toNat = 96 + n % 27 := by
  unfold li1
  rw [UInt8.toNat_ofNat']
  omega
theorem lt1_toNat (n : Nat) : (lt1 n).toNat = 97 + (n + 26) % 27 := by
  unfold lt1
  rw [UInt8.toNat_ofNat']
  omega
theorem li_lt {n : Nat} (h : n % 27 ≠ 0) : li1 n = lt1 n := by
  apply UInt8.toNat_inj.1
  rw [li1_toNat, lt1_toNat]
  omega
theorem li_ok : ∀ (f n : Nat), (liL f n).all nm1 = true → liL f n = ltL f n
  | 0, n, _ => rfl
  | f + 1, n, h => by
    rw [liL, ltL] at *
    by_cases hn : n = 0
    · rw [if_pos hn, if_pos hn]
    · rw [if_neg hn] at h ⊢
      rw [if_neg hn]
      rw [List.all_append, Bool.and_eq_true] at h
      have h2 : nm1 (li1 n) = true := by simpa using h.2
      simp only [nm1, Bool.and_eq_true, decide_eq_true_eq, li1_toNat] at h2
      rw [li_ok f (n / 27) h.1, li_lt (by omega)]
theorem lt_ok : ∀ (f n : Nat), (ltL f n).all nm1 = true → liL f n = ltL f n
  | 0, n, _ => rfl
  | f + 1, n, h => by
    rw [ltL] at h
    rw [liL, ltL]
    by_cases hn : n = 0
    · rw [if_pos hn, if_pos hn]
    · rw [if_neg hn] at h ⊢
      rw [if_neg hn]
      rw [List.all_append, Bool.and_eq_true] at h
      have h2 : nm1 (lt1 n) = true := by simpa using h.2
      simp only [nm1, Bool.and_eq_true, decide_eq_true_eq, lt1_toNat] at h2
      rw [lt_ok f (n / 27) h.1, li_lt (by omega)]
theorem fold_lt : ∀ (f n : Nat), n < 27 ^ f → (ltL f n).all nm1 = true → (ltL f n).foldl ch1 0 = (n : Int)
  | 0, n, h, _ => by
    have : n = 0 := by simpa using h
    subst this; rfl
  | f + 1, n, h, ha => by
    rw [ltL] at ha ⊢
    by_cases hn : n = 0
    · subst hn; simp
    · rw [if_neg hn] at ha ⊢
      rw [List.all_append, Bool.and_eq_true] at ha
      have h2 : nm1 (lt1 n) = true := by simpa using ha.2
      rw [List.foldl_append, fold_lt f (n / 27) (by rw [Nat.pow_succ] at h; omega) ha.1]
      simp only [List.foldl_cons, List.foldl_nil]
      rw [ch1_in h2, lt1_toNat]
      simp only [nm1, Bool.and_eq_true, decide_eq_true_eq, lt1_toNat] at h2
      omega
theorem unI_yes {n : Nat} (hn : n ≤ 2147483647) (h : snmB (unI n) = true) : unI n = unT (n : Int) ∧ nmN (unT (n : Int)) = (n : Int) := by
  have ha := (snm_parts h).1
  have hl : (unI n).data.toList = liL 8 n := by simp [unI]
  rw [hl] at ha
  have e := li_ok 8 n ha
  have e2 : unI n = unT (n : Int) := by rw [unI, unT, Int.toNat_natCast, e]
  refine ⟨e2, ?_⟩
  have hl2 : (unT (n : Int)).data.toList = ltL 8 n := by simp [unT]
  rw [nmN, hl2]
  exact fold_lt 8 n (by omega) (e ▸ ha)
theorem unT_yes {n : Nat} (h : snmB (unT (n : Int)) = true) : snmB (unI n) = true := by
  have ha := (snm_parts h).1
  have hl : (unT (n : Int)).data.toList = ltL 8 n := by simp [unT]
  rw [hl] at ha
  have e := lt_ok 8 n ha
  have e2 : unI n = unT (n : Int) := by rw [unI, unT, Int.toNat_natCast, e]
  rw [e2]; exact h

/-- How far the letters have come: the row holds the last ones, turned round. -/
structure LiJ (N m : Nat) (acc : List UInt8) : Prop where
  h : ∃ f, f + acc.length ≤ 8 ∧ m < 27 ^ f ∧ liL 8 N = liL f m ++ acc.reverse
theorem LiJ.start {N : Nat} (h : N ≤ 2147483647) : LiJ N N [] := ⟨8, by decide, by omega, by simp⟩
theorem LiJ.small {N m : Nat} {s : List UInt8} (J : LiJ N m s) : m < 282429536481 ∧ s.length ≤ 8 := by
  obtain ⟨f, h1, h2, _⟩ := J.h
  exact ⟨Nat.lt_of_lt_of_le h2 (Nat.le_trans (Nat.pow_le_pow_right (by decide) (show f ≤ 8 by omega)) (by decide)), by omega⟩
theorem LiJ.step {N m : Nat} {s : List UInt8} (J : LiJ N m s) (hm : 0 < m) : LiJ N (m / 27) (s ++ [li1 m]) := by
  obtain ⟨f, h1, h2, h3⟩ := J.h
  cases f with
  | zero => simp at h2; omega
  | succ f =>
    refine ⟨f, by simp; omega, by rw [Nat.pow_succ] at h2; omega, ?_⟩
    rw [h3, liL, if_neg (by omega)]
    simp
theorem LiJ.stop {N : Nat} {s : List UInt8} (J : LiJ N 0 s) : s.reverse = liL 8 N := by
  obtain ⟨f, h1, h2, h3⟩ := J.h
  rw [liL_zero, List.nil_append] at h3
  exact h3.symm
def bI (l : List UInt8) : List Int := l.map (fun b => (b.toNat : Int))
theorem bI_str (l : List UInt8) : strOfNums (bI l) = ⟨l.toArray⟩ := by
  unfold strOfNums bI
  have : ∀ l : List UInt8, (l.map (fun b => (b.toNat : Int))).map (fun n => UInt8.ofNat n.toNat) = l := by
    intro l
    induction l with
    | nil => rfl
    | cons b l ih => rw [List.map_cons, List.map_cons, ih, Int.toNat_natCast, UInt8.ofNat_toNat]
  rw [this]
theorem infoB8 : (Tryz.prog.info? 5).map (fun i => (i.zero, i.size, i.bytes)) = some (some (.int .u8 0), 1, 1) := by kernel_rfl

/-- A row of bytes is turned round. -/
theorem reverse_own (B n qa : Nat) (qo : Option Addr) (ns : List Int) (w0 w : World) (hB : w0.heap.size ≤ B) (hb : Below w0.heap.size w0 w) (h : OwnR w B 5 1 (.slice qo n qa) n (byteV ns)) (hn : n ≤ 1000) :
    Calls Tryz.prog 76 #[.slice qo n qa] w fun e w' => e = .returned (.tuple #[]) ∧ (convert 89 9 (.slice qo n qa)).run Tryz.prog w' = .ok (.string (strOfNums ns.reverse)) w' ∧ Below w0.heap.size w0 w' := by
  rcases h with ⟨rfl, hx, ao, hv⟩ | ⟨h0, h⟩
  · simp only [Value.slice.injEq, true_and] at hv
    obtain ⟨rfl, rfl⟩ := hv
    have hns : ns = [] := by simpa [byteV] using hx
    subst hns
    refine (AnyE.slices_Reverse_empty lay_revB qo 0 w).mono ?_
    rintro e w' ⟨rfl, rfl⟩
    exact ⟨rfl, convert_own Tryz.underlying89 Tryz.underlying5 Tryz.underlying9 (B := B) (t := 5) (ns := []) (.inl ⟨rfl, rfl, qo, rfl⟩), hb⟩
  · have hr := h
    rcases h with ⟨hlen0, ⟨hv, h00⟩ | ⟨g, cap, cur, hv, hBg, hblk, hnc, hcm, hcs, ht⟩⟩
    · omega
    simp only [Value.slice.injEq, true_and] at hv
    obtain ⟨rfl, rfl⟩ := hv
    have hlen : ns.length = n := by rw [byteV_length] at hlen0; omega
    subst hlen
    have hcell : ∀ i (hi : i < ns.length), w.cell? ⟨g, i, none⟩ = some (.int .u8 ns[i]) := fun i hi => by
      have := hr.cellAt i (by omega)
      rw [this]
      simp [byteV, hi]
    have hH : Holds (Value.int .u8) w g 0 ns.toArray := fun j hj => by
      have hj' : j < ns.length := by simpa using hj
      refine ⟨?_, Joins.unfrozen_of_block hblk _⟩
      rw [Nat.zero_add, hcell j hj']
      simp [hj']
    refine (AnyE.slices_Reverse lay_revB (Value.int .u8) (fun _ => rfl) g 0 qa ns w hH (by omega)).mono ?_
    rintro e w' ⟨rfl, k, rfl⟩
    have hH2 : Holds (Value.int .u8) (putRow (Value.int .u8) (Sort.ahead w k) g 0 ns.reverse.toArray) g 0 ns.reverse.toArray := holds_putRow _ _ _ _ ns.toArray _ hH (by simp)
    refine ⟨rfl, ?_, ⟨hb.os, hb.tape, hb.output, by rw [size_putRow]; exact hb.size, fun q hq => ?_⟩⟩
    · refine run_convert_bytes_arg _ 89 5 Tryz.underlying89 Tryz.underlying5 g 0 ns.length qa ns.reverse (by simp) (fun i hi => ?_) 9 Tryz.underlying9
      have := (hH2 i (by simpa using hi)).1
      rw [this]
      simp [hi, List.getD]
    · have hqg : q ≠ g := by have := Nat.lt_of_lt_of_le hq hB; omega
      have : (putRow (Value.int .u8) (Sort.ahead w k) g 0 ns.reverse.toArray).heap[q]? = w.heap[q]? := by
        simp [putRow, mapBlock, Array.getElem?_modify, Ne.symm hqg, Sort.ahead]
      rw [this]
      exact hb.block q hq

/-- A reader's ending: it answers, or it panics. -/
def Pan (e : Ending) : Prop := ∃ u pv, e = .panicked [{ v := .iface u pv, recovered := false }]

set_option maxHeartbeats 3200000 in
theorem readName_any (N : Nat) (w : World) (hz : N ≤ 2147483647) (hE : ErrW w) :
    Calls Tryz.prog 57 #[.int .i64 N] w fun e w' => ((snmB (unI N) = true ∧ e = .returned (.string (unI N))) ∨ (snmB (unI N) = false ∧ Pan e)) ∧ Below w.heap.size w w' := by
  have HJ0 := hide (LiJ.start hz)
  have HU0 : Hid (OwnR w w.heap.size 5 1 (.slice none 0 0) 0 (byteV (bI []))) := hide (.inl ⟨rfl, rfl, none, rfl⟩)
  have HE := hide hE
  clear hz hE
  obtain ⟨j0, hj, hy0, hy1, hy2⟩ := info_parts infoB8
  go_enter Tryz.func57, Tryz.ntmps57
  go_wp2
  go_loopw [0, 3] (fun n o wr => ∃ (m k : Nat) (acc : List UInt8) (qo : Option Addr) (qa : Nat), n = .int .i64 m ∧ o = .slice qo k qa ∧ k ≤ 8 ∧ Hid (acc.length = k) ∧ Hid (LiJ N m acc) ∧ Hid (OwnR wr w.heap.size 5 1 (.slice qo k qa) k (byteV (bI acc))) ∧ Hid (Below w.heap.size w wr)) (fun n _ _ => (intOf n).toNat)
  case atStart => exact ⟨N, 0, [], none, 0, rfl, rfl, by omega, hide rfl, HJ0, HU0, hide (Below.refl _ _)⟩
  case round =>
    clear HJ0 HU0
    obtain ⟨m, k, acc, qo, qa, rfl, rfl, hk8, HK, HJ, HU, HB⟩ := hrel
    obtain ⟨b1, b2⟩ := (unhide HJ).small
    by_cases hlt : 0 < m
    · have hlti : (0 : Int) < (m : Int) := by omega
      have HJ2 := hide ((unhide HJ).step hlt)
      obtain ⟨_, b3⟩ := (unhide HJ2).small
      have hk7 : k + 1 ≤ 8 := by have := unhide HK; simp at b3; omega
      have HK2 : Hid ((acc ++ [li1 m]).length = k + 1) := hide (by simp; exact unhide HK)
      have HST : Hid (byteV (bI (acc ++ [li1 m])) = byteV (bI acc) ++ [.int .u8 (96 + (m : Int) % 27)]) := hide (by simp [byteV, bI, li1_toNat])
      have h1 := Int.emod_nonneg (m : Int) (show (27 : Int) ≠ 0 by decide)
      have h2 := Int.emod_lt_of_pos (m : Int) (show (0 : Int) < 27 by decide)
      clear b2 b3
      have w1 : IntKind.i64.wrap (96 + (m : Int) % 27) = 96 + (m : Int) % 27 := by rw [IntKind.wrap_i64]; omega
      have w2 : IntKind.u8.wrap (96 + (m : Int) % 27) = 96 + (m : Int) % 27 := by simp [IntKind.wrap, IntKind.bits, IntKind.signed]; omega
      have HOA := hide ((unhide HU).below (Joins.below_alloc1 _ (.cells #[.int .u8 (96 + (m : Int) % 27)] 5)))
      have HBA := hide (fr (unhide HB) (Joins.below_alloc1 _ (.cells #[.int .u8 (96 + (m : Int) % 27)] 5)))
      have HSZ := hide (unhide HB).size
      go_wp2_with (at_builtin; refine wpList_append_one rfl _ _ 89 rfl w.heap.size 5 j0 (.int .u8 0) 1 1 Tryz.underlying89 hj hy0 hy1 hy2 rfl (by omega) qo k qa (byteV (bI acc)) rfl (unhide HOA) (by have := unhide HSZ; simp; omega) ⟨wr.heap.size, 0, none⟩ _ [.int .u8 (96 + (m : Int) % 27)] rfl rfl (byte_news wr _ _) (byte_one _) (by unfold maxLen; omega) (by omega) ?_; intro g2 cap2 wA hoA hkA; have HSF := hide (And.intro hoA (keep_below (unhide HBA) (unhide HOA) (Nat.le_refl _) hkA)); clear hoA hkA)
      go_roundw
      case rel => exact ⟨m / 27, k + 1, acc ++ [li1 m], some ⟨g2, 0, none⟩, cap2, by go_num, rfl, by omega, HK2, HJ2, hide (.inr ⟨by omega, by rw [unhide HST]; exact (unhide HSF).1⟩), hide (unhide HSF).2⟩
      case measure => simp [intOf]; omega
    · obtain rfl : m = 0 := by omega
      have HRV : Hid (strOfNums (bI acc).reverse = unI N) := hide (by
        have e : (bI acc).reverse = bI acc.reverse := by simp [bI]
        rw [e, bI_str, (unhide HJ).stop]; rfl)
      go_wp2_with fail
      refine (reverse_own w.heap.size k qa qo (bI acc) w wr (Nat.le_refl _) (unhide HB) (unhide HU) (by omega)).mono ?_
      rintro e w2 ⟨rfl, hcv, hb⟩
      rw [unhide HRV] at hcv
      have HB2 := hide hb
      have HZ : Hid ((unI N).size ≤ maxLen) := hide (by
        have : (unI N).size = acc.length := by rw [← unhide HRV, strOfNums_size]; simp [bI]
        rw [this, unhide HK]; unfold maxLen; omega)
      clear hb HRV HK HJ HU HB
      go_wp2_with fail
      refine (snapNameOK_any (unI N) _ (unhide HZ)).mono ?_
      rintro e w3 ⟨rfl, hb⟩
      have HB3 := hide (fr (unhide HB2) hb)
      clear hb hcv
      cases hs : snmB (unI N)
      · have HSS := hide hs
        clear hs
        go_wp2_with (go_at_call 54; refine (demand_false _ ((unhide HE).below (unhide HB3))).mono ?_; rintro e w' ⟨⟨u, pv, rfl⟩, hw⟩; replace hw := hw.symm; subst hw)
        exact ⟨rfl, .inr ⟨unhide HSS, _, _, rfl⟩, unhide HB3⟩
      · have HSS := hide hs
        clear hs
        go_wp2_with (go_at_call 54; refine (demand_true _).mono ?_; rintro e w' ⟨rfl, hw⟩; replace hw := hw.symm; subst hw)
        go_ret
        exact ⟨.inl ⟨unhide HSS, rfl⟩, unhide HB3⟩

end Go.Proofs.YtkaiglhljpehpabGreatDoor
