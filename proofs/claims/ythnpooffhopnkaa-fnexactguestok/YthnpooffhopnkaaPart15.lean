import Derived.Test.YthnpooffhopnkaaRows
import Derived.Test.YthnpooffhopnkaaPart1
import Derived.Test.YthnpooffhopnkaaPart3
import Derived.Test.YthnpooffhopnkaaPart2
import Derived.Test.YthnpooffhopnkaaPart4
import Derived.Test.YthnpooffhopnkaaPart7
import Derived.Test.YthnpooffhopnkaaPart13
import Derived.Test.YthnpooffhopnkaaPart14
import Derived.WalkKit
import Derived.WalkSpells
import Derived.KernelRfl
import Derived.LoopN
import Derived.Lib.ConvBytes
import Derived.Deep.RegionWith
import Derived.Test.YthnpooffhopnkaaPart8
import Derived.Maps.Own
import Derived.Maps.OwnOps
import Derived.Maps.OwnSet
import Derived.Maps.Views
import Derived.Test.YthnpooffhopnkaaPart12

/- Contracts of impl.dataOK, impl.snapNameOK, impl.findSnap, impl.snapNamesOK. -/
namespace Go.Proofs.Ythnpooffhopnkaa
open Go.RowKit
set_option linter.unusedVariables false
set_option maxRecDepth 100000

/-- Right data. -/
def datB (xs : List Int) : Bool := decide (xs.length = 24) && xs.all numB
theorem dat_len {xs : List Int} (h : ¬ xs.length = 24) : datB xs = false := by rw [datB, decide_eq_false h]; rfl
theorem dat_no {xs : List Int} {k : Nat} (hk : k < xs.length) (h : numB xs[k] = false) : datB xs = false := by rw [datB, all_not (p := numB) hk h]; simp
theorem dat_yes {xs : List Int} (hl : xs.length = 24) (h : ∀ j (hj : j < xs.length), numB xs[j] = true) : datB xs = true := by rw [datB, decide_eq_true hl, all_of (p := numB) (fun i hi _ => h i hi)]; rfl

set_option maxHeartbeats 800000 in
theorem dataOK_any (ao : Option Addr) (cap : Nat) (xs : List Int) (w : World) (hl : xs.length ≤ maxLen) (hc : Is w ao xs) :
    Calls Try.prog 109 #[.slice ao xs.length cap] w fun e w' => e = .returned (.bool (datB xs)) ∧ w' = w := by
  have HC := hide hc
  have HL := hide hl
  clear hc
  unfold maxLen at hl
  by_cases h24 : xs.length = 24
  · have HF : Hid (datB xs = xs.all numB) := hide (by rw [datB, decide_eq_true h24]; rfl)
    have hb24 : ((xs.length : Int) == 24) = true := by simp [h24]
    clear h24
    go_enter Try.func109, Try.ntmps109
    go_wp2_with (go_at_call 74; refine (areNumbers_any _ _ xs _ (unhide HL) (unhide HC)).mono ?_; rintro e w' ⟨rfl, hw⟩; replace hw := hw.symm; subst hw)
    go_ret
    exact ⟨ret_bool (unhide HF).symm, rfl⟩
  · have HF := hide (dat_len h24)
    have hb24 : ((xs.length : Int) == 24) = false := by simp; omega
    clear h24
    go_enter Try.func109, Try.ntmps109
    go_wp2
    go_ret
    exact ⟨ret_bool (unhide HF).symm, rfl⟩

theorem below_bytes (w : World) (e : TypeId) (s : ByteArray) : Below w.heap.size w (Lib.bytesWorld w e s) :=
  ⟨rfl, rfl, rfl, by rw [Lib.bytesWorld_size]; omega, fun i hi => Lib.bytesWorld_at_old w e s i hi⟩

set_option maxHeartbeats 1600000 in
theorem snapNameOK_any (t : ByteArray) (w : World) (hz : t.size ≤ maxLen) :
    Calls Try.prog 75 #[.string t] w fun e w' => e = .returned (.bool (snmB t)) ∧ Below w.heap.size w w' := by
  unfold maxLen at hz
  cases hb : betw (t.size : Int) 1 6
  · have HF : Hid (snmB t = false) := hide (by rw [snmB, hb]; simp)
    go_enter Try.func75, Try.ntmps75
    go_wp2_with (go_at_call 43; refine (within_any _ _ _ _).mono ?_; rintro e w' ⟨rfl, hw⟩; replace hw := hw.symm; subst hw; rw [hb])
    go_ret
    exact ⟨ret_bool (unhide HF).symm, Below.refl _ _⟩
  have HBT := hide hb
  have h6 : t.size ≤ 6 := by have := betw_iff.1 hb; omega
  have hcv := fun (W : World) => Lib.run_convert_string_bytes (P := Try.prog) W 9 138 5 t Try.underlying9 Try.underlying138 Try.underlying5
  have HB := hide (below_bytes w 5 t)
  have HCL := hide (Lib.bytesWorld_cell w 5 t)
  go_enter Try.func75, Try.ntmps75
  go_wp2_with (go_at_call 43; refine (within_any _ _ _ _).mono ?_; rintro e w' ⟨rfl, hw⟩; replace hw := hw.symm; subst hw; rw [hb])
  revert HB HCL
  generalize Lib.bytesWorld w 5 t = w1
  generalize grownCap w t.size 0 5 = gc
  intro HB HCL
  clear hcv
  go_loop [12] (fun i => ∃ k : Nat, k ≤ t.size ∧ i = .int .i64 k ∧ Hid (∀ j (h : j < t.size), j < k → nm1 t[j] = true)) (fun i => t.size - (intOf i).toNat)
  case atStart => exact ⟨0, Nat.zero_le _, rfl, hide (fun j _ h => by omega)⟩
  case round =>
    obtain ⟨k, hk, rfl, HA⟩ := hrel
    by_cases hlt : k < t.size
    · have hck := unhide HCL k hlt
      have eck : (t.data.toList.getD k 0) = t[k] := by simp [List.getD, snm_get hlt]
      rw [eck] at hck
      clear eck
      by_cases hlo : 97 ≤ t[k].toNat
      · by_cases hhi : t[k].toNat ≤ 122
        · have HN : Hid (∀ j (h : j < t.size), j < k + 1 → nm1 t[j] = true) := hide (fun j h hj => by
            by_cases e : j = k
            · subst e; simp [nm1, hlo, hhi]
            · exact unhide HA j h (by omega))
          have h1 : ¬ ((t[k].toNat : Int) < 97) := by omega
          have h2 : ¬ (122 < (t[k].toNat : Int)) := by omega
          go_wp2
          go_round
          case rel => exact ⟨k + 1, by omega, by go_num, HN⟩
          case measure => simp [intOf]; omega
        · have HF := hide (snm_bad hlt (by simp [nm1]; omega))
          have h1 : ¬ ((t[k].toNat : Int) < 97) := by omega
          have h2 : (122 < (t[k].toNat : Int)) := by omega
          go_wp2
          go_ret
          exact ⟨ret_bool (unhide HF).symm, unhide HB⟩
      · have HF := hide (snm_bad hlt (by simp [nm1]; omega))
        have h1 : ((t[k].toNat : Int) < 97) := by omega
        go_wp2
        go_ret
        exact ⟨ret_bool (unhide HF).symm, unhide HB⟩
    · have HF := hide ((snm_all (fun j h => unhide HA j h (by omega))).trans (unhide HBT))
      go_wp2
      go_ret
      exact ⟨ret_bool (unhide HF).symm, unhide HB⟩

/-- A text in a variable. -/
def VarT1 (w : World) (x : Nat) (s : ByteArray) : Prop := w.cell? ⟨x, 0, none⟩ = some (.string s)
set_option maxHeartbeats 800000 in
theorem findSnapC_any (s : Snp) (tq : Option Addr) (tc x : Nat) (name : ByteArray) (w : World) (hx : VarT1 w x name) :
    Calls Try.prog 123 #[snV s tq tc, .pointer (some ⟨x, 0, none⟩)] w fun e w' => e = .returned (.bool (decide (s.name = name))) ∧ Below w.heap.size w w' := by
  have hxl := World.block_lt_of_cell? _ _ hx
  have hx' : w.cell? ⟨x, 0, none⟩ = some (.string name) := hx
  clear hx
  by_cases he : s.name = name
  · have be : (s.name.toList == name.toList) = true := by simp [he]
    have HE : Hid (decide (s.name = name) = true) := hide (decide_eq_true he)
    clear he
    go_enter Try.func123, Try.ntmps123
    go_wp2
    go_ret
    exact ⟨ret_bool (unhide HE).symm, Joins.below_alloc1 _ _⟩
  · have be : (s.name.toList == name.toList) = false := str_beq_false he
    have HE : Hid (decide (s.name = name) = false) := hide (decide_eq_false he)
    clear he
    go_enter Try.func123, Try.ntmps123
    go_wp2
    go_ret
    exact ⟨ret_bool (unhide HE).symm, Joins.below_alloc1 _ _⟩

/-- Where a name stands in a row of snapshots. -/
abbrev fdL (ss : List Snp) (name : ByteArray) : Int := fdI ⟨[], [], ss, []⟩ name
theorem fdL_here {ss : List Snp} {name : ByteArray} {k : Nat} (hk : k < ss.length) (h0 : ss[k].name = name) (h : ∀ j (hj : j < ss.length), j < k → ss[j].name ≠ name) : fdL ss name = (k : Int) := by
  have e := find_here (m := ⟨[], [], ss, []⟩) hk h0 h
  show fdI _ _ = _
  rw [fdI, if_pos (by rw [e]; exact hk), e]
theorem fdL_none {ss : List Snp} {name : ByteArray} (h : ∀ j (hj : j < ss.length), ss[j].name ≠ name) : fdL ss name = -1 := if_neg (find_none (m := ⟨[], [], ss, []⟩) h)

set_option maxHeartbeats 1600000 in
theorem indexFunc_any (so : Option Addr) (sc : Nat) (ss : List Snp) (x : Nat) (name : ByteArray) (w : World) (hs : ss.length ≤ maxLen) (hc : Sns w so ss) (hx : VarT1 w x name) :
    Calls Try.prog 122 #[.slice so ss.length sc, .func (.func 123) #[] #[.pointer (some ⟨x, 0, none⟩)]] w fun e w' => e = .returned (.int .i64 (fdL ss name)) ∧ Below w.heap.size w w' := by
  unfold maxLen at hs
  have HC := hide hc
  have HX := hide hx
  clear hc hx
  go_enter Try.func122, Try.ntmps122
  go_wp2
  go_loopw [8] (fun i wr => ∃ k : Nat, k ≤ ss.length ∧ i = .int .i64 k ∧ Hid (∀ j (hj : j < ss.length), j < k → ss[j].name ≠ name) ∧ Hid (Below w.heap.size w wr)) (fun i _ => ss.length - (intOf i).toNat)
  case atStart => exact ⟨0, Nat.zero_le _, rfl, hide (fun j _ h => by omega), hide (Below.refl _ _)⟩
  case round =>
    obtain ⟨k, hk, rfl, HN, HB⟩ := hrel
    by_cases hlt : k < ss.length
    · obtain ⟨b, off, tq, tc, rfl, hn0, ht0, _, _, _⟩ := ((unhide HC).below (unhide HB)) k hlt
      have HXR : Hid (VarT1 wr x name) := hide (((unhide HB).cell (World.block_lt_of_cell? _ _ (unhide HX))).trans (unhide HX))
      go_wp2_with fail
      refine (findSnapC_any ss[k] tq tc x name _ (unhide HXR)).mono ?_
      rintro e w2 ⟨rfl, hb⟩
      have HB2 := hide (fr (unhide HB) hb)
      clear hb hn0 ht0
      by_cases he : ss[k].name = name
      · have HF := hide (fdL_here hlt he (unhide HN))
        have be : decide (ss[k].name = name) = true := decide_eq_true he
        rw [be]
        clear he be
        go_wp2
        go_ret
        exact ⟨ret_int (unhide HF).symm, unhide HB2⟩
      · have HN' : Hid (∀ j (hj : j < ss.length), j < k + 1 → ss[j].name ≠ name) := hide (fun j hj h => by
          by_cases e : j = k
          · subst e; exact he
          · exact unhide HN j hj (by omega))
        have be : decide (ss[k].name = name) = false := decide_eq_false he
        rw [be]
        clear he be
        go_wp2
        go_roundw
        case rel => exact ⟨k + 1, by omega, by go_num, HN', HB2⟩
        case measure => simp [intOf]; omega
    · have HF := hide (fdL_none (fun j hj => unhide HN j hj (by omega)))
      go_wp2
      go_ret
      exact ⟨ret_int (unhide HF).symm, unhide HB⟩

set_option maxHeartbeats 1600000 in
theorem findSnap_any (so : Option Addr) (sc : Nat) (ss : List Snp) (name : ByteArray) (w : World) (hs : ss.length ≤ maxLen) (hc : Sns w so ss) :
    Calls Try.prog 118 #[.slice so ss.length sc, .string name] w fun e w' => e = .returned (.int .i64 (fdL ss name)) ∧ Below w.heap.size w w' := by
  have hmf : ∀ (fn : Fn) (first cap : Array Value) (w : World), (Instr.makeFunc fn first cap).run Try.prog w = .ok (.func fn first cap) w := fun _ _ _ _ => rfl
  have HA := hide (Joins.below_alloc1 w (.cells #[.string name] 9))
  have HC := hide (hc.below (unhide HA))
  have HX : Hid (VarT1 (w.alloc (.cells #[.string name] 9)) w.heap.size name) := hide (by unfold VarT1; rw [Joins.cell_of_block (heap_alloc_new w _)]; rfl)
  have HS := hide hs
  clear hc hs
  go_enter Try.func118, Try.ntmps118
  go_upto_region 1 with fail
  revert HA HC HX
  generalize (w.alloc _) = W0
  intro HA HC HX
  go_wp2_with fail
  refine (indexFunc_any so sc ss w.heap.size name _ (unhide HS) (unhide HC) (unhide HX)).mono ?_
  rintro e w2 ⟨rfl, hb⟩
  have HB := hide (fr (unhide HA) hb)
  clear hb
  go_wp2
  go_ret
  exact ⟨rfl, unhide HB⟩

/-- What snapNamesOK answers. -/
def snpsB (ss : List Snp) : Bool := decide (ss.length ≤ 3) && ss.all (fun s => snmB s.name) && namesB ss
theorem snps_many {ss : List Snp} (h : ¬ ss.length ≤ 3) : snpsB ss = false := by rw [snpsB, decide_eq_false h]; rfl
theorem snps_bad {ss : List Snp} {k : Nat} (hk : k < ss.length) (h : snmB ss[k].name = false) : snpsB ss = false := by
  rw [snpsB, all_not (p := fun s : Snp => snmB s.name) hk h]; simp
theorem snps_twice {ss : List Snp} {i k : Nat} (hi : i < ss.length) (hk : k < i) (h : ss[i].name = ss[k].name) : snpsB ss = false := by
  have e : namesB ss = false := decide_eq_false (not_nodup (xs := ss.map (·.name)) (i := i) (k := k) (by simpa using hi) hk (by simpa using h))
  rw [snpsB, e]; simp
theorem snps_yes {ss : List Snp} (h3 : ss.length ≤ 3) (h : ∀ j (hj : j < ss.length), snmB ss[j].name = true) (hn : (ss.map (·.name)).Nodup) : snpsB ss = true := by
  rw [snpsB, decide_eq_true h3, all_of (p := fun s : Snp => snmB s.name) (fun i hi _ => h i hi), namesB, decide_eq_true hn]; rfl
/-- Of a name that stands at k, either it is found there, or it stands ahead, too. -/
theorem fdL_at {ss : List Snp} {k : Nat} (hk : k < ss.length) : (fdL ss ss[k].name = (k : Int) ∧ ∀ j (hj : j < ss.length), j < k → ss[j].name ≠ ss[k].name) ∨ ((fdL ss ss[k].name != (k : Int)) = true ∧ ∃ j, ∃ hj : j < ss.length, j < k ∧ ss[k].name = ss[j].name) := by
  by_cases h : ∃ j, ∃ hj : j < ss.length, j < k ∧ ss[j].name = ss[k].name
  · right
    have hf : imFind ⟨[], [], ss, []⟩ ss[k].name < k := by
      obtain ⟨j, hj, hjk, e⟩ := h
      unfold imFind
      refine Nat.lt_of_le_of_lt (m := j) ?_ hjk
      refine Nat.le_of_not_lt fun h2 => ?_
      have := List.not_of_lt_findIdx h2
      simp [e] at this
    refine ⟨?_, ?_⟩
    · have e : fdL ss ss[k].name = (imFind ⟨[], [], ss, []⟩ ss[k].name : Int) := if_pos (show imFind ⟨[], [], ss, []⟩ ss[k].name < ss.length by omega)
      rw [e]; simp; omega
    · obtain ⟨j, hj, hjk, e⟩ := h
      exact ⟨j, hj, hjk, e.symm⟩
  · left
    have hn : ∀ j (hj : j < ss.length), j < k → ss[j].name ≠ ss[k].name := fun j hj hjk e => h ⟨j, hj, hjk, e⟩
    exact ⟨fdL_here hk rfl hn, hn⟩

set_option maxHeartbeats 1600000 in
theorem snapNamesOK_any (so : Option Addr) (sc : Nat) (ss : List Snp) (w : World) (hs : ss.length ≤ maxLen) (hc : Sns w so ss) :
    Calls Try.prog 110 #[.slice so ss.length sc] w fun e w' => e = .returned (.bool (snpsB ss)) ∧ Below w.heap.size w w' := by
  have HS := hide hs
  unfold maxLen at hs
  have HC := hide hc
  clear hc
  by_cases h3 : ss.length ≤ 3
  · have h3i : ¬ (3 : Int) < (ss.length : Int) := by omega
    go_enter Try.func110, Try.ntmps110
    go_wp2
    go_loopw [10] (fun i wr => ∃ k : Nat, k ≤ ss.length ∧ i = .int .i64 k ∧ Hid (∀ j (hj : j < ss.length), j < k → snmB ss[j].name = true) ∧ Hid (((ss.map (·.name)).take k).Nodup) ∧ Hid (Below w.heap.size w wr)) (fun i _ => ss.length - (intOf i).toNat)
    case atStart => exact ⟨0, Nat.zero_le _, rfl, hide (fun j _ h => by omega), hide (by simp), hide (Below.refl _ _)⟩
    case round =>
      obtain ⟨k, hk, rfl, HN, HD, HB⟩ := hrel
      by_cases hlt : k < ss.length
      · obtain ⟨b, off, tq, tc, rfl, hn0, ht0, _, hz, htl⟩ := ((unhide HC).below (unhide HB)) k hlt
        have HZ := hide hz
        have HX := hide (VarN.new wr ss[k].name (.slice tq ss[k].table.length tc))
        have HBX := hide (Joins.below_alloc1 wr (.cells #[.string ss[k].name, .slice tq ss[k].table.length tc] 83))
        clear hz htl
        go_upto_region 6 with fail
        revert HX HBX
        generalize (wr.alloc _) = w2
        intro HX HBX
        obtain ⟨x0, x1⟩ := (unhide HX).cells
        have HB2 := hide (fr (unhide HB) (unhide HBX))
        clear HBX hn0 ht0
        go_wp2_with fail
        refine (snapNameOK_any ss[k].name _ (unhide HZ)).mono ?_
        rintro e w3 ⟨rfl, hb⟩
        have HB3 := hide (fr (unhide HB2) hb)
        have x0' := (hb.cell (p := ⟨wr.heap.size, 0, none⟩) (World.block_lt_of_cell? _ _ x0)).trans x0
        clear hb x0 x1 HX
        cases hnm : snmB ss[k].name
        · have HF := hide (snps_bad hlt hnm)
          go_wp2
          go_ret
          exact ⟨ret_bool (unhide HF).symm, unhide HB3⟩
        have HN' := hide (all_succ (p := fun s : Snp => snmB s.name) hlt (unhide HN) hnm)
        have HC3 := hide ((unhide HC).below (unhide HB3))
        go_wp2_with fail
        refine (findSnap_any _ sc ss ss[k].name _ (unhide HS) (unhide HC3)).mono ?_
        rintro e w4 ⟨rfl, hb⟩
        have HB4 := hide (fr (unhide HB3) hb)
        clear hb x0'
        rcases fdL_at hlt with ⟨hf, hne⟩ | ⟨hf, j, hj, hjk, he⟩
        · have hb1 : (fdL ss ss[k].name != (k : Int)) = false := by rw [hf]; simp
          have HD' := hide (nodup_snoc (xs := ss.map (·.name)) (by simpa using hlt) (unhide HD) (fun j hj hjk => by
            have := hne j (by simpa using hj) hjk
            simpa using this))
          clear hf hne
          generalize fdL ss ss[k].name = F at *
          go_wp2
          go_roundw
          case rel => exact ⟨k + 1, by omega, by go_num, HN', HD', HB4⟩
          case measure => simp [intOf]; omega
        · have HF := hide (snps_twice hlt hjk he)
          clear he
          generalize fdL ss ss[k].name = F at *
          go_wp2
          go_ret
          exact ⟨ret_bool (unhide HF).symm, unhide HB4⟩
      · have HF := hide (snps_yes h3 (fun j hj => unhide HN j hj (by omega)) (by
          have := unhide HD
          rwa [List.take_of_length_le (by simp; omega)] at this))
        go_wp2
        go_ret
        exact ⟨ret_bool (unhide HF).symm, unhide HB⟩
  · have HF := hide (snps_many h3)
    have h3i : (3 : Int) < (ss.length : Int) := by omega
    go_enter Try.func110, Try.ntmps110
    go_wp2
    go_ret
    exact ⟨ret_bool (unhide HF).symm, Below.refl _ _⟩

end Go.Proofs.Ythnpooffhopnkaa

/- Contracts of the program's shotsByName, valuesOK, shotsOK, GuestOK. -/
namespace Go.Proofs.Ythnpooffhopnkaa
open Go.RowKit Go.Maps
set_option linter.unusedVariables false
set_option maxRecDepth 100000

/-- A map's values are told as they stand. -/
def recS (v : Value) : Option (DataW Value × List MemPlace) := some (.held v, [])
theorem lawS : Keyed Try.prog 9 := string_keyed Try.underlying9
theorem zeroS (w : World) : (zeroValue 69).run Try.prog w = .ok (.agg #[.string ⟨#[]⟩, .slice none 0 0]) w := by kernel_rfl
/-- A name as a key. -/
def kS (t : ByteArray) : Lit := .string t.data.toList
theorem kS_inj {a b : ByteArray} (h : kS a = kS b) : a = b := by
  simp only [kS, Lit.string.injEq] at h
  exact ByteArray.ext (Array.ext' h)
theorem keyS {t : ByteArray} (h : t.size ≤ maxLen) : keyOf Try.prog 9 (.string t) = some (kS t) := Go.WideMaps.keyOf_string_mk Try.underlying9 h
/-- The map in block B has at most n entries, and just these names. -/
structure MpN (w : World) (B n : Nat) (D : DataW Value) (ns : List ByteArray) : Prop where
  own : w.ownsMap Try.prog 9 recS B n D
  has : ∀ t, has D (kS t) = true ↔ t ∈ ns
  le : Maps.size D ≤ ns.length
  eq : Maps.size D = ns.length ↔ ns.Nodup
theorem MpN.made (w : World) : MpN (w.alloc (.map #[] 0)) w.heap.size 0 (.map []) [] := ⟨World.ownsMap_made _ _ _ _, fun t => by simp [Maps.has], Nat.le_refl _, by simp [Maps.size]⟩
theorem MpN.lt {w : World} {B n : Nat} {D : DataW Value} {ns : List ByteArray} (h : MpN w B n D ns) : B < w.heap.size := h.own.lt
theorem MpN.below {w w' : World} {B n : Nat} {D : DataW Value} {ns : List ByteArray} (h : MpN w B n D ns) (hb : Below w.heap.size w w') : MpN w' B n D ns := by
  have hl := h.lt
  obtain ⟨⟨es, clock, e, F, hn, hD⟩, h2, h3, h4⟩ := h
  exact ⟨⟨es, clock, (hb.block B hl).trans e, F, hn, hD⟩, h2, h3, h4⟩
theorem MpN.put {w w' : World} {B n : Nat} {D : DataW Value} {ns : List ByteArray} (h : MpN w B n D ns) (t : ByteArray) (v : Value) (ho : w'.ownsMap Try.prog 9 recS B (n + 1) (D.put (kS t) (.held v))) : MpN w' B (n + 1) (D.put (kS t) (.held v)) (ns ++ [t]) := by
  have hM : IsMap D := h.own.isMap
  have hT : Tidy D := h.own.tidy lawS
  have hs := size_put (k := kS t) hT (.held v)
  have hh := h.has t
  have h1 := h.le
  have h2 := h.eq
  refine ⟨ho, fun u => ?_, ?_, ?_⟩
  · by_cases e : u = t
    · subst e
      rw [has_put_same (k := kS u) hM trivial]; simp
    · rw [has_put_other (fun h2 => e (kS_inj h2)), h.has]
      simp [e]
  · rw [hs, List.length_append]
    split <;> simp <;> omega
  · rw [hs, List.length_append, List.nodup_append]
    by_cases hm : t ∈ ns
    · rw [if_pos (hh.2 hm)]
      constructor
      · intro h3; simp at h3; omega
      · intro h3; exact absurd rfl (h3.2.2 t hm t (by simp))
    · rw [if_neg (fun h3 => hm (hh.1 h3))]
      constructor
      · intro h3
        refine ⟨h2.1 (by simp at h3; omega), by simp, fun a ha b hb => ?_⟩
        rw [List.mem_singleton] at hb
        subst hb
        exact fun e => hm (e ▸ ha)
      · intro h3
        have := h2.2 h3.1
        simp; omega
theorem wpList_shotN {w : World} {ops : Array Oper} {rest : List Oper} {o : Oper} {a : Act} {Q : Exit → Act → World → Prop} (hg : o.guard = none) (m x v : Operand) (hop : o.op = Op.mapUpdate 103 m x v)
    {B n : Nat} {D : DataW Value} {ns : List ByteArray} {t : ByteArray} {u : Value} (hm : a.eval m = .map (some B)) (h : MpN w B n D ns) (hn : n < maxLen) (hx : a.eval x = .string t) (hz : t.size ≤ maxLen) (hv : a.eval v = u)
    (hK : ∀ w' D', MpN w' B (n + 1) D' (ns ++ [t]) → w.grownBy w' (some B) → wpList Try.prog ops Q rest (a.put o.dst undef) w') : wpList Try.prog ops Q (o :: rest) a w :=
  wpList_mapUpdate_own w hg m x v 103 hop 9 69 lawS Try.underlying103 _ B n D hm h.own hn _ _ _ hx hv (keyS hz) (.held u) [] rfl (fun w' ho hg' => hK w' _ (h.put t u ho) hg')
theorem below_grownMap {W w w' : World} {B : Nat} (hb : Below W.heap.size W w) (hB : W.heap.size ≤ B) (hg : w.grownBy w' (some B)) : Below W.heap.size W w' :=
  ⟨hg.os.trans hb.os, hg.tape.trans hb.tape, hg.output.trans hb.output, Nat.le_trans hb.size hg.size, fun k hk => (hg.block k (Nat.lt_of_lt_of_le hk hb.size) (fun e => by have := Option.some.inj e; omega)).trans (hb.block k hk)⟩

set_option maxHeartbeats 1600000 in
theorem shotsByName_names (so : Option Addr) (sc : Nat) (ss : List Snp) (w : World) (hs : ss.length ≤ 1000) (hc : Sns w so ss) :
    Calls Try.prog 76 #[.slice so ss.length sc] w fun e w' => ∃ B n D, e = .returned (.map (some B)) ∧ MpN w' B n D (ss.map (·.name)) ∧ Below w.heap.size w w' := by
  have HC := hide hc
  clear hc
  have hmm := @run_makeMap Try.prog
  go_enter Try.func76, Try.ntmps76
  go_upto_region 2 with fail
  have HM0 := hide (MpN.made w)
  have HB0 := hide (Joins.below_alloc1 w (.map #[] 0))
  revert HM0 HB0
  generalize hW : (w.alloc (.map #[] 0)) = W0
  clear hW hmm
  obtain ⟨B, hBd⟩ : ∃ B, B = w.heap.size := ⟨_, rfl⟩
  rw [← hBd]
  have HBD : Hid (w.heap.size ≤ B) := hide (by omega)
  intro HM0 HB0
  have HB0' : Hid (Below w.heap.size w W0) := hide (by rw [← hBd]; exact unhide HB0)
  clear HB0 hBd
  go_wp2
  go_loopw [9] (fun i wr => ∃ (k : Nat) (D : DataW Value), k ≤ ss.length ∧ i = .int .i64 k ∧ Hid (MpN wr B k D ((ss.take k).map (·.name))) ∧ Hid (Below w.heap.size w wr)) (fun i _ => ss.length - (intOf i).toNat)
  case atStart => exact ⟨0, _, Nat.zero_le _, rfl, hide (by simpa using unhide HM0), HB0'⟩
  case round =>
    clear HM0 HB0'
    obtain ⟨k, D, hk, rfl, HM, HB⟩ := hrel
    by_cases hlt : k < ss.length
    · obtain ⟨b, off, tq, tc, rfl, hn0, ht0, _, hz, _⟩ := ((unhide HC).below (unhide HB)) k hlt
      have HZ := hide hz
      have HST : Hid ((ss.take (k + 1)).map (·.name) = (ss.take k).map (·.name) ++ [ss[k].name]) := hide (by rw [List.take_succ_eq_append_getElem hlt, List.map_append]; rfl)
      have HMA := hide ((unhide HM).below (Joins.below_alloc1 wr (.cells #[.string ss[k].name, .slice tq ss[k].table.length tc] 69)))
      have HBA := hide (fr (unhide HB) (Joins.below_alloc1 wr (.cells #[.string ss[k].name, .slice tq ss[k].table.length tc] 69)))
      clear hz HM HB
      go_wp2_with (at_mapUpdate; refine wpList_shotN rfl _ _ _ rfl rfl (unhide HMA) (by unfold maxLen; omega) rfl (unhide HZ) rfl ?_; intro w5 D5 hm5 hk5; have HS5 := hide (And.intro hm5 hk5); clear hm5 hk5)
      go_roundw
      case rel => exact ⟨k + 1, D5, by omega, by go_num, hide (by rw [unhide HST]; exact (unhide HS5).1), hide (below_grownMap (unhide HBA) (unhide HBD) (unhide HS5).2)⟩
      case measure => simp [intOf]; omega
    · have hkn : k = ss.length := by omega
      subst hkn
      rw [List.take_length] at HM
      go_wp2
      go_ret
      exact ⟨B, _, D, rfl, unhide HM, unhide HB⟩

set_option maxHeartbeats 800000 in
theorem valuesOK_any (ao : Option Addr) (cap : Nat) (xs : List Int) (w : World) (hl : xs.length ≤ maxLen) (hc : Is w ao xs) :
    Calls Try.prog 38 #[.slice ao xs.length cap] w fun e w' => e = .returned (.bool (vlB xs)) ∧ w' = w := by
  have HC := hide hc
  have HL := hide hl
  clear hc
  unfold maxLen at hl
  by_cases h : xs.length ≤ 12
  · have HF : Hid (vlB xs = xs.all numB) := hide (by simp [vlB, h])
    have hi : (xs.length : Int) ≤ 12 := by omega
    go_enter Try.func38, Try.ntmps38
    go_wp2_with (go_at_call 74; refine (areNumbers_any _ _ xs _ (unhide HL) (unhide HC)).mono ?_; rintro e w' ⟨rfl, hw⟩; replace hw := hw.symm; subst hw)
    go_ret
    exact ⟨ret_bool (unhide HF).symm, rfl⟩
  · have HF : Hid (vlB xs = false) := hide (by simp [vlB, h])
    have hi : ¬ (xs.length : Int) ≤ 12 := by omega
    go_enter Try.func38, Try.ntmps38
    go_wp2
    go_ret
    exact ⟨ret_bool (unhide HF).symm, rfl⟩

/-- What shotsOK answers. -/
def shsB (ss : List Snp) : Bool := decide (ss.length ≤ 3) && ss.all (fun s => snmB s.name && vlB s.table) && namesB ss
theorem shs_many {ss : List Snp} (h : ¬ ss.length ≤ 3) : shsB ss = false := by rw [shsB, decide_eq_false h]; rfl
theorem shs_bad {ss : List Snp} {k : Nat} (hk : k < ss.length) (h : (snmB ss[k].name && vlB ss[k].table) = false) : shsB ss = false := by
  rw [shsB, all_not (p := fun s : Snp => snmB s.name && vlB s.table) hk h]; simp
theorem shs_all {ss : List Snp} (h3 : ss.length ≤ 3) (h : ∀ j (hj : j < ss.length), (snmB ss[j].name && vlB ss[j].table) = true) : shsB ss = namesB ss := by
  rw [shsB, decide_eq_true h3, all_of (p := fun s : Snp => snmB s.name && vlB s.table) (fun i hi _ => h i hi)]; rfl
theorem gsB_eq (g : Gst) : gsB g = (vlB g.vals && shsB g.shots) := by
  simp only [gsB, shsB, Bool.and_assoc]

set_option maxHeartbeats 3200000 in
theorem shotsOK_any (so : Option Addr) (sc : Nat) (ss : List Snp) (w : World) (hs : ss.length ≤ maxLen) (hc : Sns w so ss) :
    Calls Try.prog 39 #[.slice so ss.length sc] w fun e w' => e = .returned (.bool (shsB ss)) ∧ Below w.heap.size w w' := by
  have HC := hide hc
  clear hc
  unfold maxLen at hs
  by_cases h3 : ss.length ≤ 3
  rotate_left
  · have HF := hide (shs_many h3)
    have h3i : (3 : Int) < (ss.length : Int) := by omega
    go_enter Try.func39, Try.ntmps39
    go_wp2
    go_ret
    exact ⟨ret_bool (unhide HF).symm, Below.refl _ _⟩
  have h3i : ¬ (3 : Int) < (ss.length : Int) := by omega
  go_enter Try.func39, Try.ntmps39
  go_wp2
  go_loopw [10] (fun i wr => ∃ k : Nat, k ≤ ss.length ∧ i = .int .i64 k ∧ Hid (∀ j (hj : j < ss.length), j < k → (snmB ss[j].name && vlB ss[j].table) = true) ∧ Hid (Below w.heap.size w wr)) (fun i _ => ss.length - (intOf i).toNat)
  case atStart => exact ⟨0, Nat.zero_le _, rfl, hide (fun j _ h => by omega), hide (Below.refl _ _)⟩
  case round =>
    obtain ⟨k, hk, rfl, HS, HB⟩ := hrel
    by_cases hlt : k < ss.length
    · obtain ⟨b, off, tq, tc, rfl, hn0, ht0, hIs, hz, htl⟩ := ((unhide HC).below (unhide HB)) k hlt
      have HZ := hide hz
      have HTL := hide htl
      have HA := hide (Joins.below_alloc1 wr (.cells #[.string ss[k].name, .slice tq ss[k].table.length tc] 69))
      have HV := hide (VarG.new wr 69 (.string ss[k].name) (.slice tq ss[k].table.length tc))
      have HIS := hide (hIs.below (unhide HA))
      have HBA := hide (fr (unhide HB) (unhide HA))
      clear hIs hz htl
      go_upto_region 6 with fail
      revert HA HV HIS HBA
      generalize (wr.alloc _) = W0
      intro HA HV HIS HBA
      clear hn0 ht0
      obtain ⟨c0, c1⟩ := (unhide HV).cells
      cases hok : snmB ss[k].name
      · have HF := hide (shs_bad hlt (by rw [hok]; rfl))
        go_wp2_with (go_at_call 75; refine (snapNameOK_any _ _ (unhide HZ)).mono ?_; rintro e w' ⟨rfl, hb⟩; have HB2 := hide (fr (unhide HBA) hb); clear hb; rw [hok])
        go_ret
        exact ⟨ret_bool (unhide HF).symm, unhide HB2⟩
      · go_wp2_with fail
        refine (snapNameOK_any _ _ (unhide HZ)).mono ?_
        rintro e w2 ⟨rfl, hb⟩
        have HB2 := hide (fr (unhide HBA) hb)
        have HV2 := hide ((unhide HV).below hb)
        have HI2 := hide ((unhide HIS).below hb)
        clear hb c0 c1
        rw [hok]
        obtain ⟨c0, c1⟩ := (unhide HV2).cells
        cases hv : vlB ss[k].table
        · have HF := hide (shs_bad hlt (by rw [hv, Bool.and_false]))
          go_wp2_with (go_at_call 38; refine (valuesOK_any _ _ ss[k].table _ (unhide HTL) (unhide HI2)).mono ?_; rintro e w' ⟨rfl, hw⟩; replace hw := hw.symm; subst hw; rw [hv])
          go_ret
          exact ⟨ret_bool (unhide HF).symm, unhide HB2⟩
        · have HS' := hide (all_succ (p := fun s : Snp => snmB s.name && vlB s.table) hlt (unhide HS) (by rw [hok, hv]; rfl))
          go_wp2_with (go_at_call 38; refine (valuesOK_any _ _ ss[k].table _ (unhide HTL) (unhide HI2)).mono ?_; rintro e w' ⟨rfl, hw⟩; replace hw := hw.symm; subst hw; rw [hv])
          go_roundw
          case rel => exact ⟨k + 1, by omega, by go_num, HS', HB2⟩
          case measure => simp [intOf]; omega
    · have HF := hide (shs_all h3 (fun j h => unhide HS j h (by omega)))
      go_wp2_with fail
      refine (shotsByName_names so sc ss _ (by omega) ((unhide HC).below (unhide HB))).mono ?_
      rintro e w3 ⟨B, n, D, rfl, hM, hb⟩
      have HB3 := hide (fr (unhide HB) hb)
      have HM := hide hM
      have hlen := fun ty => hM.own.len Try.underlying103 ty
      have hle := hM.le
      have heq := hM.eq
      rw [List.length_map] at hle heq
      have HNB : Hid (namesB ss = ((Maps.size D : Int) == (ss.length : Int))) := hide (by
        unfold namesB
        rw [Bool.eq_iff_iff]
        simp only [decide_eq_true_eq, beq_iff_eq]
        rw [← heq]
        omega)
      clear hM hb heq
      generalize Maps.size D = z at *
      go_wp2
      go_ret
      exact ⟨ret_bool (by rw [unhide HF, unhide HNB]), unhide HB3⟩

set_option maxHeartbeats 1600000 in
theorem guestOK_impl (a : Gs4) (g : Gst) (w : World) (hL : GsL g) (hc : GsS w a g) :
    Calls Try.prog 11 #[gsV a g] w fun e w' => e = .returned (.bool (gsB g)) ∧ Below w.heap.size w w' := by
  have HA := hide (Joins.below_alloc1 w (.cells #[.slice a.vo g.vals.length a.vc, .slice a.so g.shots.length a.sc] 30))
  have HV := hide (VarG.new w 30 (.slice a.vo g.vals.length a.vc) (.slice a.so g.shots.length a.sc))
  have HC := hide (hc.below (unhide HA))
  have HL := hide hL
  have HE := hide (gsB_eq g)
  clear hc hL
  go_enter Try.func11, Try.ntmps11
  go_upto_region 1 with fail
  revert HA HV HC
  generalize (w.alloc _) = W0
  intro HA HV HC
  obtain ⟨c0, c1⟩ := (unhide HV).cells
  cases h1 : vlB g.vals
  · have HF : Hid (gsB g = false) := hide (by rw [unhide HE, h1]; rfl)
    go_wp2_with (go_at_call 38; refine (valuesOK_any _ _ g.vals _ (unhide HL).v (unhide HC).v).mono ?_; rintro e w' ⟨rfl, hw⟩; replace hw := hw.symm; subst hw; rw [h1])
    go_ret
    exact ⟨ret_bool (unhide HF).symm, unhide HA⟩
  · have HF : Hid (gsB g = shsB g.shots) := hide (by rw [unhide HE, h1]; rfl)
    clear HE
    go_wp2_with fail
    refine (valuesOK_any _ _ g.vals _ (unhide HL).v (unhide HC).v).mono ?_
    rintro e w' ⟨rfl, hw⟩
    replace hw := hw.symm
    subst hw
    rw [h1]
    go_wp2_with fail
    refine (shotsOK_any _ _ g.shots _ (unhide HL).s (unhide HC).s).mono ?_
    rintro e w2 ⟨rfl, hb⟩
    have HB2 := hide (fr (unhide HA) hb)
    clear hb c0 c1
    go_wp2
    go_ret
    exact ⟨ret_bool (unhide HF).symm, unhide HB2⟩

end Go.Proofs.Ythnpooffhopnkaa

/- The walk of laws.FnExactGuestOK. -/
namespace Go.Proofs.Ythnpooffhopnkaa
open Go.RowKit
set_option linter.unusedVariables false
set_option maxRecDepth 100000

theorem gs_zsGuestOK {w : World} {a : Gs4} {g : Gst} (hc : GsS w a g) : ∀ s ∈ g.shots, s.name.size ≤ maxLen ∧ s.table.length ≤ maxLen := fun s hs => by
  obtain ⟨j, hj, rfl⟩ := List.mem_iff_getElem.1 hs
  obtain ⟨_, _, _, _, _, _, _, _, h1, h2⟩ := hc.s j hj
  exact ⟨h1, h2⟩
theorem wkGuestOK (a : Gs4) (g : Gst) (w : World) (hL : GsL g) (hc : GsS w a g) :
    Calls Try.prog 3 #[gsV a g] w fun e w' => e = .returned (.bool true) ∧ Below w.heap.size w w' :=
  lawGsGuestOK a g (gsB g) w hL hc (gs_zsGuestOK hc) (fun b W h => guestOK_spec b g W hL h) (fun b W h => guestOK_impl b g W hL h)

end Go.Proofs.Ythnpooffhopnkaa
