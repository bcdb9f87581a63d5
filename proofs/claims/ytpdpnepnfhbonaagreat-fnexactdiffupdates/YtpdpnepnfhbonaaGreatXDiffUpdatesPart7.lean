import Derived.Test.YtpdpnepnfhbonaaGreatRows
import Derived.Test.YtpdpnepnfhbonaaGreatXDiffUpdatesPart1
import Derived.Test.YtpdpnepnfhbonaaGreatXDiffUpdatesPart6
import Derived.Test.YtpdpnepnfhbonaaGreatXDiffUpdatesPart2
import Derived.Test.YtpdpnepnfhbonaaGreatXDiffUpdatesPart3
import Derived.Test.YtpdpnepnfhbonaaGreatXDiffUpdatesPart4
import Derived.Test.YtpdpnepnfhbonaaGreatXDiffUpdatesPart5
import Derived.WalkKit
import Derived.WalkSpells
import Derived.KernelRfl
import Derived.LoopN
import Derived.BigQuiet
import Derived.Deep.QuietTactic
import Derived.Deep.RegionWith
import Derived.Laws.BytesArg
import Derived.Laws.CopyRow
import Derived.Laws.CopyOwn
import Derived.Deep.RegionLaw
import Derived.Deep.AppendLies
import Derived.Deep.CutRange
import Derived.Laws.ResultCell
import Derived.Deep.MidRow
import Derived.Laws.MakeOwn
import Derived.Laws.OwnMore
import Derived.Shelf.SlIterI.Nil
import Derived.Shelf.SortM.Plain
import Derived.Shelf.SortM.SortNone
import Derived.Maps.Own
import Derived.Maps.OwnOps
import Derived.Maps.OwnSet
import Derived.Maps.Views
import Derived.Lib.ConvBytes

namespace Go.Proofs.YtpdpnepnfhbonaaGreat
open Go.RowKit
set_option linter.unusedVariables false
set_option maxRecDepth 100000

def partsB (m : Img) : Bool := ctB m.refs && datB m.data && snpsB m.snaps && tabsB (imTabs m)
def fitB (m : Img) : Bool := decide (imCnt m = m.refs) && clearB m
theorem tabs_all {ts : List (List Int)} : tabsB ts = (ts.all tbB && ts.all onceB) := by
  unfold tabsB
  induction ts with
  | nil => rfl
  | cons t ts ih =>
    simp only [List.all_cons, ih]
    cases tbB t <;> cases onceB t <;> simp
theorem imB_parts (m : Img) : imB m = (partsB m && fitB m) := by
  have e : (imTabs m).all tbB = (tbB m.table && m.snaps.all (fun s => tbB s.table)) := by
    unfold imTabs
    rw [List.all_cons, List.all_map]; rfl
  have e2 : m.snaps.all (fun s => snmB s.name && tbB s.table) = (m.snaps.all (fun s => snmB s.name) && m.snaps.all (fun s => tbB s.table)) := by
    induction m.snaps with
    | nil => rfl
    | cons s ss ih =>
      simp only [List.all_cons, ih]
      cases snmB s.name <;> cases tbB s.table <;> simp
  unfold imB imFm partsB fitB datB snpsB
  rw [tabs_all, e, e2]
  cases ctB m.refs <;> cases tbB m.table <;> cases decide (m.snaps.length ≤ 3) <;> cases decide (m.data.length = 24) <;> cases m.snaps.all (fun s => snmB s.name) <;> cases m.snaps.all (fun s => tbB s.table) <;> cases namesB m.snaps <;> cases m.data.all numB <;> simp [Bool.and_assoc]
theorem parts_of {m : Img} (h : partsB m = true) : m.refs.length = 24 ∧ m.data.length = 24 ∧ m.snaps.length ≤ 3 ∧ ∀ t ∈ imTabs m, tbB t = true := by
  unfold partsB datB snpsB at h
  rw [tabs_all] at h
  simp only [Bool.and_eq_true, decide_eq_true_eq, List.all_eq_true] at h
  obtain ⟨⟨⟨h1, h2, _⟩, ⟨h3, _⟩, _⟩, h4, _⟩ := h
  exact ⟨ctB_len h1, h2, h3, h4⟩
theorem fit_cnt {m : Img} {i : Nat} (hl : m.refs.length = 24) (hi : i < 24) (h : ¬ m.refs.getD i 0 = (imCnt m).getD i 0) : fitB m = false := by
  have e : decide (imCnt m = m.refs) = false := decide_eq_false (fun e => h (by rw [e]))
  rw [fitB, e]; rfl
theorem fit_clear {m : Img} {i : Nat} (hi : i < 24) (he : m.refs.getD i 0 = (imCnt m).getD i 0) (hz : (imCnt m).getD i 0 = 0) (hd : ¬ m.data.getD i 0 = 0) : fitB m = false := by
  have e : clearB m = false := by
    unfold clearB
    cases hh : (List.range 24).all _ with
    | false => rfl
    | true =>
      rw [List.all_eq_true] at hh
      have := hh i (List.mem_range.2 hi)
      simp only [decide_eq_true_eq] at this
      exact absurd (this (he.trans hz)) hd
  rw [fitB, e]; simp
theorem fit_yes {m : Img} (hl : m.refs.length = 24) (h1 : ∀ i, i < 24 → m.refs.getD i 0 = (imCnt m).getD i 0) (h2 : ∀ i, i < 24 → (imCnt m).getD i 0 = 0 → m.data.getD i 0 = 0) : fitB m = true := by
  have e : imCnt m = m.refs := List.ext_getElem (by rw [imCnt_len, hl]) (fun i ha hb => by
    have := h1 i (by omega)
    simpa [List.getD, ha, hb] using this.symm)
  have e2 : clearB m = true := by
    unfold clearB
    rw [List.all_eq_true]
    intro i hi
    have hi' := List.mem_range.1 hi
    exact decide_eq_true (fun h => h2 i hi' (by rw [← h1 i hi']; exact h))
  rw [fitB, decide_eq_true e, e2]; rfl

set_option maxHeartbeats 3200000 in
theorem countsFit_any (a : Im4) (m : Img) (w : World) (hr : m.refs.length = 24) (hd : m.data.length = 24) (hs : m.snaps.length ≤ 3) (ht : ∀ t ∈ imTabs m, tbB t = true) (hc : ImS w a m) :
    Calls Tryz.prog 62 #[imV a m] w fun e w' => e = .returned (.bool (fitB m)) ∧ Below w.heap.size w w' := by
  have HA := hide (Joins.below_alloc1 w (.cells #[.slice a.ro m.refs.length a.rc, .slice a.tq m.table.length a.tc, .slice a.so m.snaps.length a.sc, .slice a.dq m.data.length a.dc] 32))
  have HV := hide (VarM.new w 32 (.slice a.ro m.refs.length a.rc) (.slice a.tq m.table.length a.tc) (.slice a.so m.snaps.length a.sc) (.slice a.dq m.data.length a.dc))
  have HC := hide (hc.below (unhide HA))
  have HR24 := hide hr
  have HD24 := hide hd
  have HTB := hide ht
  have HLT := hide (imTabs_len m)
  clear hc hr hd ht
  go_enter Tryz.func62, Tryz.ntmps62
  go_upto_region 1 with fail
  revert HA HV HC
  generalize (w.alloc _) = W0
  intro HA HV HC
  obtain ⟨c0, c1, c2, c3⟩ := (unhide HV).cells
  go_wp2_with fail
  refine (tablesOf_any a m _ hs (unhide HC)).mono ?_
  rintro e w1 ⟨qo, qa, rfl, hrow, hb⟩
  have HROW := hide hrow
  have HB1 := hide (fr (unhide HA) hb)
  have HC1 := hide ((unhide HC).below hb)
  have HV1 := hide ((unhide HV).below hb)
  clear hb hrow c0 c1 c2 c3 HA HV HC
  go_wp2_with fail
  refine (usesOf_any qo qa (imTabs m) _ (by rw [unhide HLT]; omega) (unhide HTB) (unhide HROW)).mono ?_
  rintro e w2 ⟨B, D, rfl, hBge, hmp, hct, hb⟩
  have HB2 := hide (fr (unhide HB1) hb)
  have HC2 := hide ((unhide HC1).below hb)
  have HV2 := hide ((unhide HV1).below hb)
  have HM : Hid (MpC w2 B 1000 D (imCnt m)) := hide hmp
  clear hb hmp hct hBge HB1 HC1 HV1 HROW
  go_wp2
  go_loopw [8] (fun i wr => ∃ k : Nat, k ≤ 24 ∧ i = .int .i64 k ∧ Hid (∀ j, j < k → m.refs.getD j 0 = (imCnt m).getD j 0) ∧ Hid (∀ j, j < k → (imCnt m).getD j 0 = 0 → m.data.getD j 0 = 0) ∧ Hid (Below w2.heap.size w2 wr)) (fun i _ => 24 - (intOf i).toNat)
  case atStart => exact ⟨0, by omega, rfl, hide (fun j h => by omega), hide (fun j h => by omega), hide (Below.refl _ _)⟩
  case round =>
    obtain ⟨k, hk, rfl, HE, HZ, HB⟩ := hrel
    by_cases hlt : k < 24
    · have hlti : (k : Int) < 24 := by omega
      have kr : k < m.refs.length := by rw [unhide HR24]; exact hlt
      have kd : k < m.data.length := by rw [unhide HD24]; exact hlt
      have kri : (k : Int) < (m.refs.length : Int) := by omega
      have kdi : (k : Int) < (m.data.length : Int) := by omega
      obtain ⟨c0, c1, c2, c3⟩ := ((unhide HV2).below (unhide HB)).cells
      have hlk : ∀ W : World, Below wr.heap.size wr W → (Instr.lookup 135 (.map (some B)) (.int .i64 (k : Int)) false).run Tryz.prog W = .ok (.int .i64 ((imCnt m).getD k 0)) W := fun W hW => ((unhide HM).below (fr (unhide HB) hW)).look hlt
      obtain ⟨b2, o2, e2, hx2⟩ := ((unhide HC2).r.below (unhide HB)) k kr
      obtain ⟨b3, o3, e3, hx3⟩ := ((unhide HC2).d.below (unhide HB)) k kd
      rw [e2] at c0
      rw [e3] at c3
      clear e2 e3 c1 c2
      have er : m.refs.getD k 0 = m.refs[k] := by simp [List.getD, kr]
      have ed : m.data.getD k 0 = m.data[k] := by simp [List.getD, kd]
      have HER : Hid (m.refs[k] = (imCnt m).getD k 0 → ∀ j, j < k + 1 → m.refs.getD j 0 = (imCnt m).getD j 0) := hide (fun h j hj => by
        by_cases e : j = k
        · subst e; rw [er]; exact h
        · exact unhide HE j (by omega))
      have HZR : Hid (((imCnt m).getD k 0 = 0 → m.data[k] = 0) → ∀ j, j < k + 1 → (imCnt m).getD j 0 = 0 → m.data.getD j 0 = 0) := hide (fun h j hj => by
        by_cases e : j = k
        · subst e; rw [ed]; exact h
        · exact unhide HZ j (by omega))
      have HF1 : Hid (¬ m.refs[k] = (imCnt m).getD k 0 → fitB m = false) := hide (fun h => fit_cnt (unhide HR24) hlt (by rw [er]; exact h))
      have HF2 : Hid (m.refs[k] = (imCnt m).getD k 0 → (imCnt m).getD k 0 = 0 → ¬ m.data[k] = 0 → fitB m = false) := hide (fun h0 h1 h2 => fit_clear hlt (by rw [er]; exact h0) h1 (by rw [ed]; exact h2))
      clear er ed
      generalize (imCnt m).getD k 0 = X at *
      generalize m.refs[k] = R at *
      generalize m.data[k] = DD at *
      have hl0 := fun (n : Nat) => hlk (wr.drewN n) (Joins.below_draws _ _ _)
      by_cases hne : R = X
      · by_cases hz : X = 0
        · by_cases hd : DD = 0
          · have HE' := hide (unhide HER hne)
            have HZ' := hide (unhide HZR (fun _ => hd))
            have b1' : (R != X) = false := by simp [hne]
            have b2' : (X == 0) = true := by simp [hz]
            have b3' : (DD != 0) = false := by simp [hd]
            clear hne hz hd
            go_wp2
            go_quiet (fail)
            go_wp2
            go_roundw
            case rel => exact ⟨k + 1, by omega, by go_num, HE', HZ', hide ((unhide HB).trans (Joins.below_draws _ _ _))⟩
            case measure => simp [intOf]; omega
          · have HF := hide (unhide HF2 hne hz hd)
            have b1' : (R != X) = false := by simp [hne]
            have b2' : (X == 0) = true := by simp [hz]
            have b3' : (DD != 0) = true := by simp [hd]
            clear hne hz hd
            go_wp2
            go_quiet (fail)
            go_wp2
            go_ret
            exact ⟨ret_bool (unhide HF).symm, fr (unhide HB2) ((unhide HB).trans (Joins.below_draws _ _ _))⟩
        · have HE' := hide (unhide HER hne)
          have HZ' := hide (unhide HZR (fun h => absurd h hz))
          have b1' : (R != X) = false := by simp [hne]
          have b2' : (X == 0) = false := by simp [hz]
          clear hne hz
          go_wp2
          go_quiet (fail)
          go_wp2
          go_roundw
          case rel => exact ⟨k + 1, by omega, by go_num, HE', HZ', hide ((unhide HB).trans (Joins.below_draws _ _ _))⟩
          case measure => simp [intOf]; omega
      · have HF := hide (unhide HF1 hne)
        have b1' : (R != X) = true := by simp [hne]
        clear hne
        go_wp2
        go_quiet (fail)
        go_wp2
        go_ret
        exact ⟨ret_bool (unhide HF).symm, fr (unhide HB2) ((unhide HB).trans (Joins.below_draws _ _ _))⟩
    · have HF := hide (fit_yes (unhide HR24) (fun i h => unhide HE i (by omega)) (fun i h => unhide HZ i (by omega)))
      go_wp2
      go_ret
      exact ⟨ret_bool (unhide HF).symm, fr (unhide HB2) (unhide HB)⟩

set_option maxHeartbeats 3200000 in
theorem imagePartsOK_any (a : Im4) (m : Img) (w : World) (hL : ImL m) (hc : ImS w a m) :
    Calls Tryz.prog 61 #[imV a m] w fun e w' => e = .returned (.bool (partsB m)) ∧ Below w.heap.size w w' := by
  have HA := hide (Joins.below_alloc1 w (.cells #[.slice a.ro m.refs.length a.rc, .slice a.tq m.table.length a.tc, .slice a.so m.snaps.length a.sc, .slice a.dq m.data.length a.dc] 32))
  have HV := hide (VarM.new w 32 (.slice a.ro m.refs.length a.rc) (.slice a.tq m.table.length a.tc) (.slice a.so m.snaps.length a.sc) (.slice a.dq m.data.length a.dc))
  have HC := hide (hc.below (unhide HA))
  have HL := hide hL
  have HLT := hide (imTabs_len m)
  have HZT : Hid (∀ t ∈ imTabs m, t.length ≤ maxLen) := hide (fun t ht => by
    unfold imTabs at ht
    rw [List.mem_cons, List.mem_map] at ht
    rcases ht with rfl | ⟨s, hs, rfl⟩
    · exact hL.t
    · obtain ⟨j, hj, rfl⟩ := List.mem_iff_getElem.1 hs
      obtain ⟨_, _, _, _, _, _, _, _, _, h⟩ := hc.s j hj
      exact h)
  clear hc hL
  go_enter Tryz.func61, Tryz.ntmps61
  go_upto_region 1 with fail
  revert HA HV HC
  generalize (w.alloc _) = W0
  intro HA HV HC
  obtain ⟨c0, c1, c2, c3⟩ := (unhide HV).cells
  go_wp2_with fail
  refine (refsOK_impl _ _ m.refs _ (unhide HL).r (unhide HC).r).mono ?_
  rintro e w1 ⟨rfl, hw⟩
  replace hw := hw.symm
  subst hw
  cases h1 : ctB m.refs
  · have HF : Hid (partsB m = false) := hide (by rw [partsB, h1]; rfl)
    go_wp2
    go_ret
    exact ⟨ret_bool (unhide HF).symm, unhide HA⟩
  go_wp2_with fail
  refine (dataOK_any _ _ m.data _ (unhide HL).d (unhide HC).d).mono ?_
  rintro e w1 ⟨rfl, hw⟩
  replace hw := hw.symm
  subst hw
  cases h2 : datB m.data
  · have HF : Hid (partsB m = false) := hide (by rw [partsB, h1, h2]; rfl)
    go_wp2
    go_ret
    exact ⟨ret_bool (unhide HF).symm, unhide HA⟩
  go_wp2_with fail
  refine (snapNamesOK_any _ _ m.snaps _ (unhide HL).s (unhide HC).s).mono ?_
  rintro e w2 ⟨rfl, hb⟩
  have HB2 := hide (fr (unhide HA) hb)
  have HC2 := hide ((unhide HC).below hb)
  have HV2 := hide ((unhide HV).below hb)
  clear hb c0 c1 c2 c3 HA HV HC
  cases h3 : snpsB m.snaps
  · have HF : Hid (partsB m = false) := hide (by rw [partsB, h1, h2, h3]; rfl)
    go_wp2
    go_ret
    exact ⟨ret_bool (unhide HF).symm, unhide HB2⟩
  have HF : Hid (partsB m = tabsB (imTabs m)) := hide (by rw [partsB, h1, h2, h3]; rfl)
  have hs3 : m.snaps.length ≤ 3 := by
    unfold snpsB at h3
    simp only [Bool.and_eq_true, decide_eq_true_eq] at h3
    exact h3.1.1
  clear h1 h2 h3
  obtain ⟨c0, c1, c2, c3⟩ := (unhide HV2).cells
  go_wp2_with fail
  refine (tablesOf_any a m _ hs3 (unhide HC2)).mono ?_
  rintro e w3 ⟨qo, qa, rfl, hrow, hb⟩
  have HROW := hide hrow
  have HB3 := hide (fr (unhide HB2) hb)
  clear hb hrow c0 c1 c2 c3
  go_wp2_with fail
  refine (tablesOK_any qo qa (imTabs m) _ (by rw [unhide HLT]; omega) (unhide HZT) (unhide HROW)).mono ?_
  rintro e w4 ⟨rfl, hb⟩
  have HB4 := hide (fr (unhide HB3) hb)
  clear hb
  generalize tabsB (imTabs m) = T at *
  go_wp2
  go_ret
  exact ⟨ret_bool (by rw [unhide HF]), unhide HB4⟩

set_option maxHeartbeats 3200000 in
theorem imageOK_impl (a : Im4) (m : Img) (w : World) (hL : ImL m) (hc : ImS w a m) :
    Calls Tryz.prog 31 #[imV a m] w fun e w' => e = .returned (.bool (imB m)) ∧ Below w.heap.size w w' := by
  have HA := hide (Joins.below_alloc1 w (.cells #[.slice a.ro m.refs.length a.rc, .slice a.tq m.table.length a.tc, .slice a.so m.snaps.length a.sc, .slice a.dq m.data.length a.dc] 32))
  have HV := hide (VarM.new w 32 (.slice a.ro m.refs.length a.rc) (.slice a.tq m.table.length a.tc) (.slice a.so m.snaps.length a.sc) (.slice a.dq m.data.length a.dc))
  have HC := hide (hc.below (unhide HA))
  have HL := hide hL
  have HP := hide (imB_parts m)
  clear hc hL
  go_enter Tryz.func31, Tryz.ntmps31
  go_upto_region 1 with fail
  revert HA HV HC
  generalize (w.alloc _) = W0
  intro HA HV HC
  obtain ⟨c0, c1, c2, c3⟩ := (unhide HV).cells
  go_wp2_with fail
  refine (imagePartsOK_any a m _ (unhide HL) (unhide HC)).mono ?_
  rintro e w1 ⟨rfl, hb⟩
  have HB1 := hide (fr (unhide HA) hb)
  have HC1 := hide ((unhide HC).below hb)
  have HV1 := hide ((unhide HV).below hb)
  clear hb c0 c1 c2 c3 HA HV HC
  cases hp : partsB m
  · have HF : Hid (imB m = false) := hide (by rw [unhide HP, hp]; rfl)
    go_wp2
    go_ret
    exact ⟨ret_bool (unhide HF).symm, unhide HB1⟩
  have HF : Hid (imB m = fitB m) := hide (by rw [unhide HP, hp]; rfl)
  have HX := hide (parts_of hp)
  clear hp
  obtain ⟨c0, c1, c2, c3⟩ := (unhide HV1).cells
  go_wp2_with fail
  refine (countsFit_any a m _ (unhide HX).1 (unhide HX).2.1 (unhide HX).2.2.1 (unhide HX).2.2.2 (unhide HC1)).mono ?_
  rintro e w2 ⟨rfl, hb⟩
  have HB2 := hide (fr (unhide HB1) hb)
  clear hb c0 c1 c2 c3
  generalize fitB m = F at *
  go_wp2
  go_ret
  exact ⟨ret_bool (by rw [unhide HF]), unhide HB2⟩

end Go.Proofs.YtpdpnepnfhbonaaGreat

namespace Go.Proofs.YtpdpnepnfhbonaaGreat
open Go.RowKit
set_option linter.unusedVariables false
set_option maxRecDepth 100000

theorem block_alloc {w : World} {g : Nat} {c : Array Value} {t : TypeId} {f : Nat × Nat} (h : w.heap[g]? = some (.cells c t f)) (o : Obj) : (w.alloc o).heap[g]? = some (.cells c t f) := by
  rw [(Joins.below_alloc1 w o).block g (Array.getElem?_eq_some_iff.1 h).1]; exact h

def arrL (xs : List Int) (k : Nat) : List Value := byteV (packL (xs.take k)) ++ List.replicate (64 - k * 4) (.int .u8 0)
theorem arrL_zero (xs : List Int) : arrL xs 0 = List.replicate 64 (.int .u8 0) := by simp [arrL, packL, byteV]
theorem four_lit {n : Int} (h : 0 ≤ n) (h' : n ≤ 2147483647) : [Value.int .u8 (n % 256), .int .u8 (n / 256 % 256), .int .u8 (n / 65536 % 256), .int .u8 (n / 16777216)] = byteV (four n) := by
  have e : n / 16777216 = n / 16777216 % 256 := by omega
  have : byteV (four n) = [Value.int .u8 (n / (256 : Int) ^ 0 % 256), .int .u8 (n / (256 : Int) ^ 1 % 256), .int .u8 (n / (256 : Int) ^ 2 % 256), .int .u8 (n / (256 : Int) ^ 3 % 256)] := rfl
  rw [this, e]
  simp
theorem arrL_length {xs : List Int} {k : Nat} (hl : xs.length ≤ 16) (hk : k ≤ xs.length) : (arrL xs k).length = 64 := by
  rw [arrL, List.length_append, byteV_length, packL_length, List.length_replicate, List.length_take, Nat.min_eq_left hk]
  omega
theorem arrL_splice {xs : List Int} {k : Nat} (hl : xs.length ≤ 16) (hk : k < xs.length) : splice (arrL xs k) (k * 4) (byteV (four xs[k])) = arrL xs (k + 1) := by
  have h1 : (byteV (packL (xs.take k))).length = k * 4 := by rw [byteV_length, packL_length, List.length_take, Nat.min_eq_left (by omega)]
  have h4 : (byteV (four xs[k])).length = 4 := by rw [byteV_length, four, fourTo_length]
  unfold splice arrL
  rw [h4, List.take_append_of_le_length (by omega), List.take_of_length_le (by omega), List.drop_append, List.drop_of_length_le (by omega), List.nil_append, h1, packL_succ hk, List.drop_replicate]
  rw [show k * 4 + 4 - k * 4 = 4 by omega, show 64 - k * 4 - 4 = 64 - (k + 1) * 4 by omega]
  simp [byteV]
theorem arrL_cells {W : World} {g : Nat} {t : TypeId} {xs : List Int} (h : W.heap[g]? = some (.cells (arrL xs xs.length).toArray t (0, 0))) : ∀ i, i < xs.length * 4 → W.cell? ⟨g, 0 + i, none⟩ = some (.int .u8 ((packL xs).getD i 0)) := by
  intro i hi
  rw [Nat.zero_add, Joins.cell_of_block h]
  have hl : i < (packL xs).length := by rw [packL_length]; exact hi
  simp [arrL, byteV, List.getElem?_append_left, hl, List.getD]
theorem lit_one (a b c d : Int) : ∀ v ∈ [Value.int .u8 a, .int .u8 b, .int .u8 c, .int .u8 d], v.oneCell' = true := by
  intro v hv
  simp at hv
  rcases hv with rfl | rfl | rfl | rfl <;> rfl
theorem sizeB : (Tryz.prog.info? 5).map (·.size) = some 1 := by kernel_rfl
theorem runB (W : World) : (Go.sizeOf 5).run Tryz.prog W = .ok 1 W := by
  have h := sizeB
  cases hq : Tryz.prog.info? 5 with
  | none => simp [hq] at h
  | some i =>
    have hi : i.size = 1 := by simpa [hq] using h
    simp [Go.sizeOf, typeInfo, hq, hi]
theorem arr64 : Tryz.prog.arrayLen 184 = 64 := by kernel_rfl
theorem und64 : Tryz.prog.underlying 184 = some (.array (Tryz.prog.arrayLen 184) (Tryz.prog.elem 184)) := by kernel_rfl
theorem elem64 : Tryz.prog.elem 184 = 5 := by kernel_rfl
theorem wrap4 (k : Nat) (hk : k ≤ 16) : IntKind.i64.wrap ((k : Int) * 4) = ((k * 4 : Nat) : Int) := by
  rw [IntKind.wrap_i64]
  omega
theorem slice64 (W : World) (g k : Nat) (hk : k < 16) : (Instr.sliceAt 184 (.pointer (some ⟨g, 0, none⟩)) (some (.int .i64 (IntKind.i64.wrap ((k : Int) * 4)))) none none).run Tryz.prog W = .ok (.slice (some ⟨g, k * 4, none⟩) (64 - k * 4) (64 - k * 4)) W := by
  rw [wrap4 k (by omega), run_sliceAt_array_l W _ _ und64 .i64 _ (by omega) (by rw [arr64]; omega), elem64, runB, arr64]
  simp only [Result.andThen, slicedAt, Int.toNat_natCast, Nat.mul_one]
  rw [if_neg (by omega), show Addr.add ⟨g, 0, none⟩ (k * 4) = ⟨g, k * 4, none⟩ from by unfold Addr.add; split <;> simp_all]
theorem slice64h (W : World) (g k : Nat) (hk : k ≤ 16) : (Instr.sliceAt 184 (.pointer (some ⟨g, 0, none⟩)) none (some (.int .i64 ((k : Int) * 4))) none).run Tryz.prog W = .ok (.slice (some ⟨g, 0, none⟩) (k * 4) 64) W := by
  rw [run_sliceAt_array_h W _ _ und64 .i64 _ (by omega) (by rw [arr64]; omega), elem64, runB, arr64]
  simp only [Result.andThen, slicedAt, Nat.mul_one, Nat.sub_zero]
  rw [if_neg (by omega), show ((k : Int) * 4).toNat = k * 4 by omega]
  rfl

set_option maxHeartbeats 1600000 in
theorem packNumbers_any (ao : Option Addr) (cap : Nat) (xs : List Int) (w : World) (hl : xs.length ≤ 16) (hn : ∀ j (h : j < xs.length), 0 ≤ xs[j] ∧ xs[j] ≤ 2147483647) (hc : Is w ao xs) :
    Calls Tryz.prog 142 #[.slice ao xs.length cap] w fun e w' => e = .returned (.string (packS xs)) ∧ Below w.heap.size w w' := by
  have HC := hide hc
  have HN := hide hn
  clear hc hn
  go_enter Tryz.func142, Tryz.ntmps142
  go_wp2
  go_loopw [9] (fun i wr => ∃ k : Nat, k ≤ xs.length ∧ i = .int .i64 k ∧ Hid (wr.heap[w.heap.size]? = some (.cells (arrL xs k).toArray 184 (0, 0))) ∧ Hid (Below w.heap.size w wr)) (fun i _ => xs.length - (intOf i).toNat)
  case atStart => exact ⟨0, Nat.zero_le _, rfl, hide (by rw [arrL_zero]; exact heap_alloc_new w _), hide (Joins.below_alloc1 _ _)⟩
  case round =>
    obtain ⟨k, hk, rfl, HO, HB⟩ := hrel
    by_cases hlt : k < xs.length
    · obtain ⟨b, off, rfl, hc⟩ := (unhide HC).below (unhide HB) k hlt
      obtain ⟨h0, h1⟩ := unhide HN k hlt
      have HBA := hide (fr (unhide HB) (Joins.below_alloc1 _ (.cells #[.int .u8 (xs[k] % 256), .int .u8 (xs[k] / 256 % 256), .int .u8 (xs[k] / 65536 % 256), .int .u8 (xs[k] / 16777216)] 161)))
      have HOA := hide (block_alloc (unhide HO) (.cells #[.int .u8 (xs[k] % 256), .int .u8 (xs[k] / 256 % 256), .int .u8 (xs[k] / 65536 % 256), .int .u8 (xs[k] / 16777216)] 161))
      have HL := hide (arrL_length hl hk)
      have HNW := hide (World.news_of_block (cs := #[.int .u8 (xs[k] % 256), .int .u8 (xs[k] / 256 % 256), .int .u8 (xs[k] / 65536 % 256), .int .u8 (xs[k] / 16777216)]) (heap_alloc_new wr (.cells #[.int .u8 (xs[k] % 256), .int .u8 (xs[k] / 256 % 256), .int .u8 (xs[k] / 65536 % 256), .int .u8 (xs[k] / 16777216)] 161)))
      have HE := hide (four_lit h0 h1)
      have HSP := hide (arrL_splice hl hlt)
      have hsl := fun W => slice64 W w.heap.size k (by omega)
      go_wp2
      go_region_law (refine step_copy_splice ?_ (.tmp 28) (.tmp 29) 104 104 ?_ 5 Tryz.underlying104 sizeB (some ⟨w.heap.size, k * 4, none⟩) (some ⟨wr.heap.size, 0, none⟩) (64 - k * 4) (64 - k * 4) 4 4 ?_ ?_ w.heap.size (k * 4) (arrL xs k) 184 ?_ [.int .u8 (xs[k] % 256), .int .u8 (xs[k] / 256 % 256), .int .u8 (xs[k] / 65536 % 256), .int .u8 (xs[k] / 16777216)] ?_ ?_ ?_ (lit_one _ _ _ _) w.heap.size w ?_ (Nat.le_refl _) ?_
                     · rfl
                     · rfl
                     · rfl
                     · rfl
                     · exact unhide HOA
                     · simp only [List.length_cons, List.length_nil]; exact (Nat.min_eq_left (by omega)).symm
                     · exact fun _ => ⟨rfl, _, rfl, unhide HNW⟩
                     · rw [unhide HL]; simp only [List.length_cons, List.length_nil]; omega
                     · exact (unhide HBA).drew
                     intro w4 hg4 hb4)
      all_goals
        have HSF : Hid (w4.heap[w.heap.size]? = some (.cells (arrL xs (k + 1)).toArray 184 (0, 0))) := by rw [← unhide HSP, ← unhide HE]; exact hg4
        have HBF := hide hb4
        clear hg4 hb4 hsl
        go_wp2
        go_roundw
        case rel => exact ⟨k + 1, by omega, by go_num, HSF, HBF⟩
        case measure => simp [intOf]; omega
    · have hkn : k = xs.length := by omega
      subst hkn
      have hsl := slice64h wr w.heap.size xs.length hl
      have hcv := run_convert_bytes_arg (P := Tryz.prog) wr 104 5 Tryz.underlying104 Tryz.underlying5 w.heap.size 0 (xs.length * 4) 64 (packL xs) (packL_length xs) (arrL_cells (unhide HO)) 9 Tryz.underlying9
      go_wp2
      go_ret
      exact ⟨rfl, unhide HB⟩

end Go.Proofs.YtpdpnepnfhbonaaGreat

namespace Go.Proofs.YtpdpnepnfhbonaaGreat
open Go.RowKit
set_option linter.unusedVariables false
set_option maxRecDepth 100000

theorem kindOK_any (n : Int) (w : World) : Calls Tryz.prog 141 #[.int .i64 n] w fun e w' => e = .returned (.bool (kindB n)) ∧ w' = w := by
  go_enter Tryz.func141, Tryz.ntmps141
  go_wp2
  all_goals
    go_ret
    exact ⟨ret_bool (by rw [Bool.eq_iff_iff]; simp [kindB, inB]; omega), rfl⟩

end Go.Proofs.YtpdpnepnfhbonaaGreat

namespace Go.Proofs.YtpdpnepnfhbonaaGreat
open Go.RowKit
set_option linter.unusedVariables false
set_option maxRecDepth 100000

theorem arr2 (W : World) (g : Nat) (a b c d : Int) (h : W.heap.size = g) : (convert 104 9 (.slice (some ⟨g, 0, none⟩) 2 4)).run Tryz.prog (W.alloc (.cells #[.int .u8 a, .int .u8 b, .int .u8 c, .int .u8 d] 161)) = .ok (.string (strOfNums [a, b])) (W.alloc (.cells #[.int .u8 a, .int .u8 b, .int .u8 c, .int .u8 d] 161)) := by
  subst h
  refine run_convert_bytes_arg _ 104 5 Tryz.underlying104 Tryz.underlying5 W.heap.size 0 2 4 [a, b] rfl ?_ 9 Tryz.underlying9
  intro i hi
  rcases (show i = 0 ∨ i = 1 by omega) with rfl | rfl <;> simp [go_sem, List.getD]
theorem arr4 (W : World) (g : Nat) (a b c d : Int) (h : W.heap.size = g) : (convert 104 9 (.slice (some ⟨g, 0, none⟩) 4 4)).run Tryz.prog (W.alloc (.cells #[.int .u8 a, .int .u8 b, .int .u8 c, .int .u8 d] 161)) = .ok (.string (strOfNums [a, b, c, d])) (W.alloc (.cells #[.int .u8 a, .int .u8 b, .int .u8 c, .int .u8 d] 161)) := by
  subst h
  refine run_convert_bytes_arg _ 104 5 Tryz.underlying104 Tryz.underlying5 W.heap.size 0 4 4 [a, b, c, d] rfl ?_ 9 Tryz.underlying9
  intro i hi
  rcases (show i = 0 ∨ i = 1 ∨ i = 2 ∨ i = 3 by omega) with rfl | rfl | rfl | rfl <;> simp [go_sem, List.getD]
theorem sum_impl (k : Int) (xs : List Int) (w : World) (hl : xs.length ≤ 16) : Calls Tryz.prog 143 #[.string (strOfNums [k, (xs.length : Int)] ++ packS xs)] w fun e w' => e = .returned (.int .i64 (sumR k xs)) ∧ w' = w := by
  have h := sumOf_impl (sumT k xs) w (by rw [sumT_size]; omega)
  rw [sumC_short (by rw [sumT_size]; omega)] at h
  exact h

set_option maxHeartbeats 1600000 in
theorem sealRecord_impl (k : Int) (ao : Option Addr) (cap : Nat) (xs : List Int) (w : World) (hl : xs.length ≤ 1048576) (hc : Is w ao xs) :
    Calls Tryz.prog 108 #[.int .i64 k, .slice ao xs.length cap] w fun e w' => e = .returned (.tuple #[.string (sealT k xs), .int .i64 (sealC k xs)]) ∧ Below w.heap.size w w' := by
  have HC := hide hc
  clear hc
  by_cases h2 : listC xs = 0
  · have HL := hide h2
    have hb : (listC xs != 0) = false := by simp [h2]
    have HP := hide (intsB_parts (listC_zero h2))
    clear h2
    by_cases h3 : kindB k = true
    · have HF := hide (sealC_ok (unhide HL) h3)
      obtain ⟨hk0, hk1⟩ := kindB_in h3
      have hl16 := (unhide HP).2
      have hp := packS_size xs
      have hs2 : (strOfNums [k, (xs.length : Int)]).size = 2 := strOfNums_size _
      have hs4 : (strOfNums [k, (xs.length : Int), sumR k xs, 0]).size = 4 := strOfNums_size _
      obtain ⟨hr0, hr1⟩ := sumR_in k xs
      go_enter Tryz.func108, Tryz.ntmps108
      go_wp2_with (first | (go_at_call 140; refine (listFault_any _ _ xs _ hl (unhide HC)).mono ?_; rintro e w' ⟨rfl, rfl⟩) | (go_at_call 141; refine (kindOK_any _ _).mono ?_; rintro e w' ⟨rfl, rfl⟩) | (go_at_call 142; refine (packNumbers_any _ _ xs _ (unhide HP).2 (unhide HP).1 (unhide HC)).mono ?_; rintro e w1 ⟨rfl, hb1⟩; have HB1 := hide hb1; clear hb1; have hc2 := arr2 w1 w1.heap.size k xs.length 0 0 rfl) | (go_at_call 143; refine (sum_impl k xs _ hl16).mono ?_; rintro e w' ⟨rfl, rfl⟩; have hc4 := arr4 w1 w1.heap.size k xs.length (sumR k xs) 0 rfl))
      go_ret2
      exact ⟨ret_si (sealT_ok (unhide HF)).symm (unhide HF).symm, fr (unhide HB1) (Joins.below_alloc1 _ _)⟩
    · have h4 : kindB k = false := by simpa using h3
      have HF := hide (sealC_kind (unhide HL) h4)
      clear h3
      go_enter Tryz.func108, Tryz.ntmps108
      go_wp2_with (first | (go_at_call 140; refine (listFault_any _ _ xs _ hl (unhide HC)).mono ?_; rintro e w' ⟨rfl, rfl⟩) | (go_at_call 141; refine (kindOK_any _ _).mono ?_; rintro e w' ⟨rfl, rfl⟩))
      go_ret2
      exact ⟨ret_si (sealT_no (by rw [unhide HF]; decide)).symm (unhide HF).symm, Below.refl _ _⟩
  · have HF := hide (sealC_list (k := k) h2)
    have HNE := hide h2
    have hb : (listC xs != 0) = true := by simp [h2]
    clear h2
    go_enter Tryz.func108, Tryz.ntmps108
    go_wp2_with (go_at_call 140; refine (listFault_any _ _ xs _ hl (unhide HC)).mono ?_; rintro e w' ⟨rfl, rfl⟩)
    go_ret2
    exact ⟨ret_si (sealT_no (by rw [unhide HF]; exact unhide HNE)).symm (unhide HF).symm, Below.refl _ _⟩

end Go.Proofs.YtpdpnepnfhbonaaGreat

namespace Go.Proofs.YtpdpnepnfhbonaaGreat
open Go.RowKit
set_option linter.unusedVariables false
set_option maxRecDepth 100000

theorem wrap_place {xs : List Int} (h : ctB xs = true) {k r : Nat} (hk : k < xs.length) (hr : r < 6) : IntKind.i64.wrap (xs[k] * 16 ^ r) = xs[k] * 16 ^ r := by
  obtain ⟨g0, g1⟩ := ctB_at h k hk
  have hp : (16 : Int) ^ r ≤ 1048576 := by
    match r, hr with
    | 0, _ => decide
    | 1, _ => decide
    | 2, _ => decide
    | 3, _ => decide
    | 4, _ => decide
    | 5, _ => decide
  have hp0 : 0 < (16 : Int) ^ r := Int.pow_pos (by omega)
  have a0 : 0 ≤ xs[k] * 16 ^ r := Int.mul_nonneg g0 (by omega)
  have a1 : xs[k] * 16 ^ r ≤ 15 * 16 ^ r := Int.mul_le_mul_of_nonneg_right g1 (by omega)
  generalize xs[k] * 16 ^ r = S at *
  generalize (16 : Int) ^ r = P at *
  rw [IntKind.wrap_i64]; omega
theorem wrap_place64 {xs : List Int} (h : ctB xs = true) {k r : Nat} (hk : k < xs.length) (hr : r < 6) : wrap64 (xs[k] * 16 ^ r) = xs[k] * 16 ^ r := by
  have := wrap_place h hk hr
  rw [IntKind.wrap_i64] at this
  generalize xs[k] * 16 ^ r = S at *
  simp only [wrap64]
  omega
theorem infoK4 : (Tryz.prog.info? 3).map (fun i => (i.zero, i.size, i.bytes)) = some (some (.int .i64 0), 1, 8) := by kernel_rfl
theorem mk4 (W : World) : (Instr.makeSlice 22 (.int .i64 4) (.int .i64 4)).run Tryz.prog W = .ok (.slice (some ⟨W.heap.size, 0, none⟩) 4 4) (W.alloc (.cells #[.int .i64 0, .int .i64 0, .int .i64 0, .int .i64 0] 3)) := by
  obtain ⟨i0, hi, hz0, hz1, hz2⟩ := info_parts infoK4
  have := run_make (P := Tryz.prog) W 22 3 i0 (.int .i64 0) Tryz.underlying22 hi hz0 .i64 .i64 4 4 (by omega) (by omega) (by rw [hz2]; decide) (by omega)
  rw [hz1] at this
  have e : madeCells (Value.int .i64 0).cells ((4 : Int).toNat * 1) = #[.int .i64 0, .int .i64 0, .int .i64 0, .int .i64 0] := by kernel_rfl
  rw [e] at this
  exact this

set_option maxHeartbeats 3200000 in
theorem numbersC_any (xs : List Int) (w : World) (hb : ctB xs = true) :
    Calls Tryz.prog 68 #[ctV xs] w fun e w' => ∃ g, e = .returned (.slice (some ⟨g, 0, none⟩) 4 4) ∧ w.heap.size ≤ g ∧ w'.heap[g]? = some (.cells (intV (ctNs xs)).toArray 3 (0, 0)) ∧ Below w.heap.size w w' := by
  have HCB := hide hb
  have HL := hide (ctB_len hb)
  have HN : Hid (VarC (w.alloc (.cells (intV xs).toArray 99)) w.heap.size xs) := hide (heap_alloc_new w _)
  have HA := hide (Joins.below_alloc1 w (.cells (intV xs).toArray 99))
  have hsz : (w.alloc (.cells (intV xs).toArray 99)).heap.size = w.heap.size + 1 := World.size_alloc _ _
  have HSZ := hide hsz
  have hmk := mk4
  clear hb hsz
  go_enter Tryz.func68, Tryz.ntmps68
  go_upto_region 1 with fail
  revert HN HA HSZ
  generalize (w.alloc _) = W1
  intro HN HA HSZ
  have HN4 : Hid ((W1.alloc (.cells #[.int .i64 0, .int .i64 0, .int .i64 0, .int .i64 0] 3)).heap[W1.heap.size]? = some (.cells (intV (txN xs 0)).toArray 3 (0, 0))) := hide (by rw [txN_zero]; exact heap_alloc_new W1 _)
  have HN1 := hide (block_of_below (unhide HN) (Joins.below_alloc1 W1 (.cells #[.int .i64 0, .int .i64 0, .int .i64 0, .int .i64 0] 3)))
  have HB1 := hide (fr (unhide HA) (Joins.below_alloc1 W1 (.cells #[.int .i64 0, .int .i64 0, .int .i64 0, .int .i64 0] 3)))
  have HSL : Hid (w.heap.size ≤ W1.heap.size) := hide (unhide HA).size
  clear HN HA
  go_upto_region 2 with fail
  revert HN4 HN1 HB1
  generalize (W1.alloc _) = W2
  intro HN4 HN1 HB1
  generalize W1.heap.size = G at *
  clear hmk
  go_wp2_with (refine wpList_load_arr rfl 99 _ rfl w.heap.size rfl (intV xs).toArray _ _ (unhide HN1) und24 rfl (sizeA (unhide HL)) ?_)
  clear HN1
  go_loopw [8] (fun i wr => ∃ k : Nat, k ≤ 24 ∧ i = .int .i64 k ∧ Hid (wr.heap[G]? = some (.cells (intV (txN xs k)).toArray 3 (0, 0))) ∧ Hid (Below w.heap.size w wr)) (fun i _ => 24 - (intOf i).toNat)
  case atStart => exact ⟨0, by omega, rfl, HN4, HB1⟩
  case round =>
    clear HN4 HB1
    obtain ⟨k, hk, rfl, HN, HB⟩ := hrel
    by_cases hlt : k < 24
    · have hkx : k < xs.length := by rw [unhide HL]; exact hlt
      have hix := fun W => idx24 W xs k (unhide HL) hkx
      have HG : Hid (xs.getD k 0 = xs[k]) := hide (by simp [List.getD, hkx])
      have hki : (k : Int) < 24 := by omega
      have HST := hide (txN_step xs k hlt)
      have HAT := hide (txN_at xs k hlt (by rw [txN_len]; omega))
      have HOR := hide (or_place (unhide HCB) (6 * (k / 6)) k (k % 6) (by omega))
      have hq4 : k / 6 < (txN xs k).length := by rw [txN_len]; omega
      have hcell := arr_cell (unhide HN) hq4
      rw [unhide HAT] at hcell
      rw [unhide HG] at HOR HST
      have hfz := Joins.unfrozen_of_block (unhide HN) (k / 6)
      have hd6 : (k : Int) / 6 = ((k / 6 : Nat) : Int) := by omega
      have hr6 : (k : Int) % 6 = ((k % 6 : Nat) : Int) := by omega
      have hd4 : k / 6 < 4 := by omega
      have hr4 : k % 6 < 6 := by omega
      clear hq4 HAT
      generalize k / 6 = q at *
      generalize k % 6 = r at *
      have hq0 : (0 : Int) ≤ (q : Int) := by omega
      have hq3 : (q : Int) < 4 := by omega
      have hm4 : IntKind.i64.wrap ((r : Int) * 4) = (r : Int) * 4 := by rw [IntKind.wrap_i64]; omega
      have HV : Hid (bits .or .i64 (lo6 xs (6 * q) r) (wrap64 (xs[k] * 2 ^ (r * 4))) = lo6 xs (6 * q) r + xs[k] * 16 ^ r) := hide (by rw [← pow_two, wrap_place64 (unhide HCB) hkx hr4]; exact unhide HOR)
      have HST2 := hide (arr_set (unhide HN) q (bits .or .i64 (lo6 xs (6 * q) r) (wrap64 (xs[k] * 2 ^ (r * 4)))))
      have HNX : Hid (intV ((txN xs k).set q (bits .or .i64 (lo6 xs (6 * q) r) (wrap64 (xs[k] * 2 ^ (r * 4))))) = intV (txN xs (k + 1))) := hide (by rw [unhide HV, unhide HST])
      rw [unhide HNX] at HST2
      clear HOR HG HNX HST HV
      generalize lo6 xs (6 * q) r = L at *
      have HB2 := hide ((unhide HB).setCell (p := ⟨G, q, none⟩) (unhide HSL) (.int .i64 (bits .or .i64 L (wrap64 (xs[k] * 2 ^ (r * 4))))))
      go_wp2
      go_region
      all_goals
        go_wp2
        go_roundw
        case rel => exact ⟨k + 1, by omega, by go_num, hide (by exact unhide HST2), hide (by exact (unhide HB2).drew)⟩
        case measure => simp [intOf]; omega
    · have HK : Hid (txN xs k = ctNs xs) := hide (by rw [show k = 24 by omega]; exact txN_end xs)
      have HNE : Hid (wr.heap[G]? = some (.cells (intV (ctNs xs)).toArray 3 (0, 0))) := hide (by rw [← unhide HK]; exact unhide HN)
      go_wp2
      go_ret
      exact ⟨G, rfl, unhide HSL, unhide HNE, unhide HB⟩

end Go.Proofs.YtpdpnepnfhbonaaGreat

namespace Go.Proofs.YtpdpnepnfhbonaaGreat
open Go.RowKit Go.Shelf
set_option maxRecDepth 100000

def lay_keysA_ren : Go.Shelf.Ren := ⟨fun | 7 => 64 | 10 => 106 | n => n, fun | 23 => 61 | 26 => 3 | 3 => 94 | 28 => 91 | 0 => 0 | 27 => 90 | 33 => 131 | 4 => 4 | n => n, fun | n => n⟩

theorem lay_keysA : Go.Proofs.SlLaysZI.n7 Tryz.prog lay_keysA_ren := {
  mixed := by kernel_rfl
  f7 := ⟨Tryz.f64.name, by decide, Tryz.func64.trans (congrArg some (by kernel_rfl))⟩
  f10 := ⟨Tryz.f106.name, by decide, Tryz.func106.trans (congrArg some (by kernel_rfl))⟩
  t0 := Tryz.underlying0
  a0 := Tryz.isAgg0
  z0 := Tryz.sizeOf0
  v0 := Tryz.zeroValue0
  t4 := Tryz.underlying4
  a4 := Tryz.isAgg4
  z4 := Tryz.sizeOf4
  v4 := Tryz.zeroValue4
  t23 := Tryz.underlying61
  a23 := Tryz.isAgg61
  z23 := Tryz.sizeOf61
  v23 := Tryz.zeroValue61
  t26 := Tryz.underlying3
  a26 := Tryz.isAgg3
  z26 := Tryz.sizeOf3
  v26 := Tryz.zeroValue3
  t27 := Tryz.underlying90
  a27 := Tryz.isAgg90
  z27 := Tryz.sizeOf90
  v27 := Tryz.zeroValue90
  t28 := Tryz.underlying91
  a28 := Tryz.isAgg91
  z28 := Tryz.sizeOf91
  v28 := Tryz.zeroValue91
  t33 := Tryz.underlying131
  a33 := Tryz.isAgg131
  z33 := Tryz.sizeOf131
  v33 := Tryz.zeroValue131 }

def lay_sortedA_ren : Go.Shelf.Ren := ⟨fun | 6 => 63 | 8 => 104 | 9 => 105 | 11 => 137 | 13 => 139 | 12 => 138 | 23 => 163 | 24 => 164 | 14 => 154 | 15 => 155 | 16 => 156 | 17 => 157 | 18 => 158 | 19 => 159 | 20 => 160 | 21 => 161 | 22 => 162 | 25 => 165 | 26 => 166 | 27 => 167 | 28 => 168 | 29 => 169 | 30 => 170 | 31 => 171 | n => n, fun | 26 => 3 | 28 => 91 | 24 => 22 | 0 => 0 | 3 => 3 | 37 => 155 | 48 => 181 | 50 => 183 | 4 => 4 | 40 => 173 | 39 => 172 | 45 => 178 | 5 => 5 | 9 => 9 | 51 => 185 | 55 => 189 | 57 => 191 | 58 => 114 | 33 => 131 | n => n, fun | n => n⟩

theorem lay_sortedA : Go.Proofs.SlLaysZI.n6 Tryz.prog lay_sortedA_ren := {
  mixed := by kernel_rfl
  f6 := ⟨Tryz.f63.name, by decide, Tryz.func63.trans (congrArg some (by kernel_rfl))⟩
  f8 := ⟨Tryz.f104.name, by decide, Tryz.func104.trans (congrArg some (by kernel_rfl))⟩
  f11 := ⟨Tryz.f137.name, by decide, Tryz.func137.trans (congrArg some (by kernel_rfl))⟩
  t0 := Tryz.underlying0
  a0 := Tryz.isAgg0
  z0 := Tryz.sizeOf0
  v0 := Tryz.zeroValue0
  t24 := Tryz.underlying22
  a24 := Tryz.isAgg22
  z24 := Tryz.sizeOf22
  v24 := Tryz.zeroValue22
  t26 := Tryz.underlying3
  a26 := Tryz.isAgg3
  z26 := Tryz.sizeOf3
  v26 := Tryz.zeroValue3
  t28 := Tryz.underlying91
  a28 := Tryz.isAgg91
  z28 := Tryz.sizeOf91
  v28 := Tryz.zeroValue91
  i26 := by kernel_rfl }

def lay_sortA_ren : Go.Shelf.Ren := ⟨fun | 5 => 105 | 8 => 139 | 7 => 138 | 19 => 163 | 20 => 164 | 10 => 154 | 11 => 155 | 12 => 156 | 13 => 157 | 14 => 158 | 15 => 159 | 16 => 160 | 17 => 161 | 18 => 162 | 30 => 165 | 31 => 166 | 32 => 167 | 33 => 168 | 34 => 169 | 35 => 170 | 40 => 171 | n => n, fun | 23 => 22 | 25 => 3 | 3 => 3 | 32 => 155 | 22 => 22 | 0 => 0 | 44 => 181 | 46 => 183 | 4 => 4 | 36 => 173 | 35 => 172 | 41 => 178 | 5 => 5 | 9 => 9 | 53 => 185 | 57 => 189 | 63 => 191 | 64 => 114 | n => n, fun | n => n⟩

theorem lay_sortA : Go.Proofs.SlLaysM.n5 Tryz.prog lay_sortA_ren := {
  mixed := by kernel_rfl
  f5 := ⟨Tryz.f105.name, by decide, Tryz.func105.trans (congrArg some (by kernel_rfl))⟩
  f7 := ⟨Tryz.f138.name, by decide, Tryz.func138.trans (congrArg some (by kernel_rfl))⟩
  f8 := Tryz.func139.trans (congrArg some (by kernel_rfl))
  f10 := ⟨Tryz.f154.name, by decide, Tryz.func154.trans (congrArg some (by kernel_rfl))⟩
  f11 := ⟨Tryz.f155.name, by decide, Tryz.func155.trans (congrArg some (by kernel_rfl))⟩
  f12 := ⟨Tryz.f156.name, by decide, Tryz.func156.trans (congrArg some (by kernel_rfl))⟩
  f13 := ⟨Tryz.f157.name, by decide, Tryz.func157.trans (congrArg some (by kernel_rfl))⟩
  f14 := ⟨Tryz.f158.name, by decide, Tryz.func158.trans (congrArg some (by kernel_rfl))⟩
  f15 := ⟨Tryz.f159.name, by decide, Tryz.func159.trans (congrArg some (by kernel_rfl))⟩
  f16 := ⟨Tryz.f160.name, by decide, Tryz.func160.trans (congrArg some (by kernel_rfl))⟩
  f17 := ⟨Tryz.f161.name, by decide, Tryz.func161.trans (congrArg some (by kernel_rfl))⟩
  f18 := ⟨Tryz.f162.name, by decide, Tryz.func162.trans (congrArg some (by kernel_rfl))⟩
  f19 := Tryz.func163.trans (congrArg some (by kernel_rfl))
  f20 := Tryz.func164.trans (congrArg some (by kernel_rfl))
  f30 := ⟨Tryz.f165.name, by decide, Tryz.func165.trans (congrArg some (by kernel_rfl))⟩
  f31 := Tryz.func166.trans (congrArg some (by kernel_rfl))
  f32 := Tryz.func167.trans (congrArg some (by kernel_rfl))
  f33 := ⟨Tryz.f168.name, by decide, Tryz.func168.trans (congrArg some (by kernel_rfl))⟩
  f34 := ⟨Tryz.f169.name, by decide, Tryz.func169.trans (congrArg some (by kernel_rfl))⟩
  f35 := ⟨Tryz.f170.name, by decide, Tryz.func170.trans (congrArg some (by kernel_rfl))⟩
  f40 := ⟨Tryz.f171.name, by decide, Tryz.func171.trans (congrArg some (by kernel_rfl))⟩
  t0 := Tryz.underlying0
  a0 := Tryz.isAgg0
  z0 := Tryz.sizeOf0
  v0 := Tryz.zeroValue0
  t3 := Tryz.underlying3
  a3 := Tryz.isAgg3
  z3 := Tryz.sizeOf3
  v3 := Tryz.zeroValue3
  t4 := Tryz.underlying4
  a4 := Tryz.isAgg4
  z4 := Tryz.sizeOf4
  v4 := Tryz.zeroValue4
  t5 := Tryz.underlying5
  a5 := Tryz.isAgg5
  z5 := Tryz.sizeOf5
  v5 := Tryz.zeroValue5
  t9 := Tryz.underlying9
  a9 := Tryz.isAgg9
  z9 := Tryz.sizeOf9
  v9 := Tryz.zeroValue9
  t22 := Tryz.underlying22
  a22 := Tryz.isAgg22
  z22 := Tryz.sizeOf22
  v22 := Tryz.zeroValue22
  t23 := Tryz.underlying22
  a23 := Tryz.isAgg22
  z23 := Tryz.sizeOf22
  v23 := Tryz.zeroValue22
  t25 := Tryz.underlying3
  a25 := Tryz.isAgg3
  z25 := Tryz.sizeOf3
  v25 := Tryz.zeroValue3
  t32 := Tryz.underlying155
  a32 := Tryz.isAgg155
  z32 := Tryz.sizeOf155
  v32 := Tryz.zeroValue155
  t35 := Tryz.underlying172
  a35 := Tryz.isAgg172
  z35 := Tryz.sizeOf172
  v35 := Tryz.zeroValue172
  t36 := Tryz.underlying173
  a36 := Tryz.isAgg173
  z36 := Tryz.sizeOf173
  v36 := Tryz.zeroValue173
  t41 := Tryz.underlying178
  a41 := Tryz.isAgg178
  z41 := Tryz.sizeOf178
  v41 := Tryz.zeroValue178
  t44 := Tryz.underlying181
  a44 := Tryz.isAgg181
  z44 := Tryz.sizeOf181
  v44 := Tryz.zeroValue181
  t46 := Tryz.underlying183
  a46 := Tryz.isAgg183
  z46 := Tryz.sizeOf183
  v46 := Tryz.zeroValue183
  t53 := Tryz.underlying185
  a53 := Tryz.isAgg185
  z53 := Tryz.sizeOf185
  v53 := Tryz.zeroValue185
  t57 := Tryz.underlying189
  a57 := Tryz.isAgg189
  z57 := Tryz.sizeOf189
  v57 := Tryz.zeroValue189
  t63 := Tryz.underlying191
  a63 := Tryz.isAgg191
  z63 := Tryz.sizeOf191
  v63 := Tryz.zeroValue191
  t64 := Tryz.underlying114
  a64 := Tryz.isAgg114
  z64 := Tryz.sizeOf114
  v64 := Tryz.zeroValue114 }

end Go.Proofs.YtpdpnepnfhbonaaGreat

namespace Go.Proofs.YtpdpnepnfhbonaaGreat
open Go.RowKit Go.Maps Go.Sort Go.Shelf
set_option linter.unusedVariables false
set_option maxRecDepth 100000

abbrev Rc := Int × List Int
def recR (v : Value) : Option (DataW Value × List MemPlace) := some (.held v, [])
def rcV (r : Rc) (ao : Option Addr) (cap : Nat) : Value := .agg #[.int .i64 r.1, .slice ao r.2.length cap]
theorem lawK : Keyed Tryz.prog 3 := int_keyed Tryz.underlying3
theorem zeroR (w : World) : (zeroValue 94).run Tryz.prog w = .ok (.agg #[.int .i64 0, .slice none 0 0]) w := by kernel_rfl
theorem wfP {p : Nat} (h : p < 64) : (Lit.int .i64 (p : Int)).wf = true := WalkArith.wf_i64 (by omega)
theorem keyP {p : Nat} (h : p < 64) : keyOf Tryz.prog 3 (.int .i64 (p : Int)) = some (.int .i64 (p : Int)) := keyOf_int_mk Tryz.underlying3 (wfP h)
structure MpR (w : World) (B n : Nat) (D : DataW Value) (f : Nat → Option Rc) : Prop where
  own : w.ownsMap Tryz.prog 3 recR B n D
  no : ∀ p : Nat, p < 64 → f p = none → has D (.int .i64 (p : Int)) = false
  yes : ∀ p : Nat, p < 64 → ∀ r, f p = some r → has D (.int .i64 (p : Int)) = true ∧ ∃ ao cap, (∀ z, D.atKey (.int .i64 (p : Int)) z = .held (rcV r ao cap)) ∧ Is w ao r.2
  only : ∀ kl, has D kl = true → ∃ p : Nat, p < 64 ∧ kl = .int .i64 (p : Int)
def setF (f : Nat → Option Rc) (p : Nat) (r : Rc) : Nat → Option Rc := fun q => if q = p then some r else f q
theorem MpR.made (w : World) : MpR (w.alloc (.map #[] 0)) w.heap.size 0 (.map []) (fun _ => none) where
  own := World.ownsMap_made _ _ _ _
  no := fun p _ _ => rfl
  yes := fun p _ r h => by cases h
  only := fun kl h => by cases h
theorem MpR.lt {w : World} {B n : Nat} {D : DataW Value} {f : Nat → Option Rc} (h : MpR w B n D f) : B < w.heap.size := h.own.lt
theorem MpR.mono {w : World} {B n n' : Nat} {D : DataW Value} {f : Nat → Option Rc} (h : MpR w B n D f) (hn : n ≤ n') : MpR w B n' D f := ⟨h.own.mono hn, h.no, h.yes, h.only⟩
theorem MpR.below {w w' : World} {B n : Nat} {D : DataW Value} {f : Nat → Option Rc} (h : MpR w B n D f) (hb : Below w.heap.size w w') : MpR w' B n D f where
  own := by
    have hl := h.lt
    obtain ⟨es, clock, e, F, hn, hD⟩ := h.own
    exact ⟨es, clock, (hb.block B hl).trans e, F, hn, hD⟩
  no := h.no
  yes := fun p hp r hr => by
    obtain ⟨h1, ao, cap, h2, h3⟩ := h.yes p hp r hr
    exact ⟨h1, ao, cap, h2, h3.below hb⟩
  only := h.only
theorem own_noCell {w : World} {B n : Nat} {D : DataW Value} (h : w.ownsMap Tryz.prog 3 recR B n D) {p : Addr} {v : Value} (hc : w.cell? p = some v) : p.block ≠ B := by
  intro he
  obtain ⟨es, clock, hb, _⟩ := h
  rw [← he] at hb
  simp [World.cell?, hb] at hc
theorem cell_turned {w w' : World} {B : Nat} (hg : w.grownBy w' (some B)) {p : Addr} {v : Value} (hc : w.cell? p = some v) (hn : p.block ≠ B) : w'.cell? p = some v :=
  (World.cell?_of_block (hg.block p.block (World.block_lt_of_cell? _ _ hc) (fun e => hn (Option.some.inj e)))).trans hc
theorem is_turned {w w' : World} {B n : Nat} {D : DataW Value} (h : w.ownsMap Tryz.prog 3 recR B n D) (hg : w.grownBy w' (some B)) {ao : Option Addr} {xs : List Int} (hi : Is w ao xs) : Is w' ao xs := fun i hl => by
  obtain ⟨b, off, e, hc⟩ := hi i hl
  exact ⟨b, off, e, cell_turned hg hc (own_noCell h hc)⟩
theorem MpR.put {w w' : World} {B n p : Nat} {D : DataW Value} {f : Nat → Option Rc} {r : Rc} {ao : Option Addr} {cap : Nat} (h : MpR w B n D f) (hp : p < 64) (hi : Is w ao r.2) (ho : w'.ownsMap Tryz.prog 3 recR B (n + 1) (D.put (.int .i64 (p : Int)) (.held (rcV r ao cap)))) (hg : w.grownBy w' (some B)) :
    MpR w' B (n + 1) (D.put (.int .i64 (p : Int)) (.held (rcV r ao cap))) (setF f p r) := by
  have hM : IsMap D := h.own.isMap
  refine ⟨ho, fun q hq hf => ?_, fun q hq s hf => ?_, fun kl hk => ?_⟩
  · by_cases e : q = p
    · simp [setF, e] at hf
    · rw [has_put_other (by intro h2; simp only [Lit.int.injEq, true_and] at h2; omega)]
      exact h.no q hq (by simpa [setF, e] using hf)
  · by_cases e : q = p
    · subst e
      have : r = s := by simpa [setF] using hf
      subst this
      exact ⟨has_put_same (k := .int .i64 (q : Int)) hM trivial _, ao, cap, fun z => atKey_put_same (k := .int .i64 (q : Int)) hM trivial _ _, is_turned h.own hg hi⟩
    · obtain ⟨h1, a2, c2, h2, h3⟩ := h.yes q hq s (by simpa [setF, e] using hf)
      have hne : (Lit.int .i64 (q : Int)) ≠ .int .i64 (p : Int) := by intro h2; simp only [Lit.int.injEq, true_and] at h2; omega
      exact ⟨by rw [has_put_other hne]; exact h1, a2, c2, fun z => by rw [atKey_put_other hne]; exact h2 z, is_turned h.own hg h3⟩
  · by_cases e : kl = .int .i64 (p : Int)
    · exact ⟨p, hp, e⟩
    · rw [has_put_other e] at hk
      exact h.only kl hk
theorem MpR.update {w : World} {B n p : Nat} {D : DataW Value} {f : Nat → Option Rc} (h : MpR w B n D f) (hn : n < 1000000) (hp : p < 64) (r : Rc) (ao : Option Addr) (cap : Nat) (hi : Is w ao r.2) :
    ∃ w' D', (Instr.mapUpdate 61 (.map (some B)) (.int .i64 (p : Int)) (rcV r ao cap)).run Tryz.prog w = .ok () w' ∧ MpR w' B (n + 1) D' (setF f p r) ∧ w.grownBy w' (some B) := by
  obtain ⟨w', hrun, r1, r2⟩ := h.own.update lawK Tryz.underlying61 (by unfold maxLen; omega) (keyP hp) (d := .held (rcV r ao cap)) (ps := []) rfl
  exact ⟨w', _, hrun, h.put hp hi r1 r2, r2⟩
theorem MpR.look {w : World} {B n p : Nat} {D : DataW Value} {f : Nat → Option Rc} (h : MpR w B n D f) (hp : p < 64) {r : Rc} (hr : f p = some r) : ∃ ao cap, (Instr.lookup 61 (.map (some B)) (.int .i64 (p : Int)) false).run Tryz.prog w = .ok (rcV r ao cap) w ∧ Is w ao r.2 := by
  obtain ⟨h1, ao, cap, h2, h3⟩ := h.yes p hp r hr
  obtain ⟨v, ps, hrun, hat⟩ := h.own.lookup lawK Tryz.underlying61 (zeroR _) (zd := .held _) (zp := []) rfl (keyP hp)
  rw [h2] at hat
  simp only [recR, Option.some.injEq, Prod.mk.injEq, DataW.held.injEq] at hat
  rw [hat.1] at hrun
  exact ⟨ao, cap, hrun, h3⟩
theorem MpR.miss {w : World} {B n p : Nat} {D : DataW Value} {f : Nat → Option Rc} (h : MpR w B n D f) (hp : p < 64) (hr : f p = none) : (Instr.lookup 61 (.map (some B)) (.int .i64 (p : Int)) false).run Tryz.prog w = .ok (.agg #[.int .i64 0, .slice none 0 0]) w := by
  obtain ⟨v, ps, hrun, hat⟩ := h.own.lookup lawK Tryz.underlying61 (zeroR _) (zd := .held _) (zp := []) rfl (keyP hp)
  rw [atKey_of_not_has (h.no p hp hr)] at hat
  simp only [recR, Option.some.injEq, Prod.mk.injEq, DataW.held.injEq] at hat
  rw [hat.1] at hrun
  exact hrun
theorem miss_nil {p : Nat} (hp : p < 64) (w : World) : (Instr.lookup 61 (.map none) (.int .i64 (p : Int)) false).run Tryz.prog w = .ok (.agg #[.int .i64 0, .slice none 0 0]) w :=
  Maps.look_nil false lawK Tryz.underlying61 (zeroR _) (keyP hp)

def plcN (f : Nat → Option Rc) : List Nat := (List.range 64).filter (fun p => (f p).isSome)
def plcL (f : Nat → Option Rc) : List Int := (plcN f).map (fun p : Nat => (p : Int))
theorem plcN_lt {f : Nat → Option Rc} {p : Nat} (h : p ∈ plcN f) : p < 64 ∧ ∃ r, f p = some r := by
  simp only [plcN, List.mem_filter, List.mem_range] at h
  exact ⟨h.1, Option.isSome_iff_exists.1 h.2⟩
theorem plcL_rise (f : Nat → Option Rc) : (plcL f).Pairwise (· < ·) := by
  unfold plcL
  rw [List.pairwise_map]
  refine List.Pairwise.imp ?_ ((List.pairwise_lt_range (n := 64)).filter _)
  intro a b h; omega
theorem plcL_mem {w : World} {B n : Nat} {D : DataW Value} {f : Nat → Option Rc} (h : MpR w B n D f) (x : Int) : x ∈ plcL f ↔ has D (.int .i64 x) = true := by
  simp only [plcL, plcN, List.mem_map, List.mem_filter, List.mem_range]
  constructor
  · rintro ⟨p, ⟨hp, hs⟩, rfl⟩
    obtain ⟨r, hr⟩ := Option.isSome_iff_exists.1 hs
    exact (h.yes p hp r hr).1
  · intro hh
    obtain ⟨p, hp, e⟩ := h.only _ hh
    simp only [Lit.int.injEq, true_and] at e
    subst e
    refine ⟨p, ⟨hp, ?_⟩, rfl⟩
    cases hf : f p with
    | none => rw [h.no p hp hf] at hh; cases hh
    | some r => rfl
theorem MpR.perm {w : World} {B n : Nat} {D : DataW Value} {f : Nat → Option Rc} (h : MpR w B n D f) : (plcL f).Perm (intKeys D) := by
  obtain ⟨es, hD, hpw, _⟩ := h.own.entries lawK
  obtain ⟨es', hD', hko⟩ := h.own.keysOf
  obtain rfl : es = es' := by rw [hD] at hD'; simpa using hD'
  subst hD
  exact perm_intKeys hpw (fun p hp => by obtain ⟨v, hv⟩ := hko p hp; obtain ⟨x, _, hx, _⟩ := Maps.keyOf_i64 Tryz.underlying3 hv; exact ⟨x, hx⟩) ((plcL_rise f).imp (fun h => Int.ne_of_lt h)) (plcL_mem h)
theorem MpR.sorted {w : World} {B n : Nat} {D : DataW Value} {f : Nat → Option Rc} (h : MpR w B n D f) {ss : List Int} (hp : ss.Perm (intKeys D)) : ss.mergeSort (fun x y => decide (x ≤ y)) = plcL f := by
  have tr : ∀ a b c : Int, decide (a ≤ b) = true → decide (b ≤ c) = true → decide (a ≤ c) = true := fun a b c h1 h2 => by simp only [decide_eq_true_eq] at *; omega
  have tot : ∀ a b : Int, (decide (a ≤ b) || decide (b ≤ a)) = true := fun a b => by simp only [Bool.or_eq_true, decide_eq_true_eq]; omega
  refine List.Perm.eq_of_pairwise (le := fun a b => decide (a ≤ b) = true) (fun a b _ _ h1 h2 => by simp only [decide_eq_true_eq] at h1 h2; omega) (List.pairwise_mergeSort tr tot ss) ((plcL_rise f).imp fun {a b} h => by simp only [decide_eq_true_eq]; omega) (((List.mergeSort_perm ss _).trans hp).trans h.perm.symm)

theorem sorts_in (m : Nat) : AnyZI.SortsIn Tryz.prog lay_sortedA_ren Fence.wide m :=
  ⟨fun blk off cap ss W hH hblk hsz => callsIn_wide.2 (AnyM.slices_Sort_int lay_sortA blk off cap ss W hH hblk hsz),
   fun p cap W => callsIn_wide.2 (AnyM.slices_Sort_int_none lay_sortA p cap W)⟩
theorem mapsKeys_any (mb : Option Nat) (W : World) : Calls Tryz.prog 64 #[.map mb] W fun e w' => e = .returned (.func (.func 106) #[] #[.pointer (some ⟨W.heap.size, 0, none⟩)]) ∧ w' = W.alloc (.cells #[.map mb] 61) :=
  (callsIn_wide (n := 5)).1 (AnyZI.keys_in lay_keysA Fence.wide 5 trivial rfl mb W)
theorem sorted_any (B n : Nat) (D : DataW Value) (f : Nat → Option Rc) (w : World) (h : MpR w B n D f) (hn : n ≤ 1000000) :
    Calls Tryz.prog 63 #[.func (.func 106) #[] #[.pointer (some ⟨w.heap.size, 0, none⟩)]] (w.alloc (.cells #[.map (some B)] 61)) fun e w' => ∃ v, e = .returned v ∧ OwnN w' w.heap.size v (plcL f) ∧ Below w.heap.size w w' := by
  have hbl := h.lt
  have hsz := h.own.size_le
  have hseq : SeqGives Fence.wide 2 Tryz.prog 106 #[.pointer (some ⟨w.heap.size, 0, none⟩)] encZ (fun ss => ss.Perm (intKeys D)) (Maps.size D) (w.alloc (.cells #[.map (some B)] 61)) :=
    AnyZI.keys_gives (ρ := lay_keysA_ren) { lay_keysA with } Fence.wide _ trivial rfl (by omega) w.heap.size B n D _ (by simp) (by simp) (h.own.alloc _)
  have cS := AnyZI.sorted_in lay_sortedA Fence.wide 5 trivial trivial trivial trivial rfl (by omega) (sorts_in _) (enters_of Tryz.func105 (by kernel_rfl) rfl) 106 #[.pointer (some ⟨w.heap.size, 0, none⟩)] trivial (enters_of Tryz.func106 (by kernel_rfl) rfl) _ _ (by unfold maxLen; omega) (by omega) _ hseq
  change CallsIn _ _ Tryz.prog 63 _ _ _ at cS
  refine ((callsIn_wide (n := 5)).1 cS).mono ?_
  rintro e w' ⟨v, ss, rfl, hS, hrow, hnil, hb⟩
  have hs := h.sorted hS
  refine ⟨v, rfl, ?_, ((Below.refl _ w).alloc (Nat.le_refl _) _).trans (hb.mono (by simp))⟩
  have hlen : ss.length = (plcL f).length := by rw [← hs]; exact (List.mergeSort_perm ss _).length_eq.symm
  rw [hs, hlen] at hrow
  replace hrow := ownsRow_base_a hrow (base' := w.heap.size) (by simp)
  have hx : (plcL f).map encZ = intV (plcL f) := rfl
  rw [hx] at hrow
  rcases hrow.2 with ⟨hv, h0⟩ | ⟨g, cap, cur, hv, hrest⟩
  · have e0 : plcL f = [] := List.eq_nil_of_length_eq_zero h0
    rw [e0, hv]
    exact OwnN.nil _ _ _
  · have hr := hrow
    rw [hv] at hr ⊢
    exact ⟨_, _, rfl, OwnR.of hr (fun h0 => by
      have : v = .slice none 0 0 := hnil.2 (List.eq_nil_of_length_eq_zero (by omega))
      rw [this] at hv; cases hv)⟩

end Go.Proofs.YtpdpnepnfhbonaaGreat

namespace Go.Proofs.YtpdpnepnfhbonaaGreat
open Go.RowKit
set_option linter.unusedVariables false
set_option maxRecDepth 100000

def rcAt (m : Img) (p : Nat) : Option Rc :=
  if p = 9 then some (1, supL m) else if p = 10 then some (2, ctNs m.refs) else if 11 ≤ p ∧ p ≤ 14 then ((imTabs m)[p - 11]?).map (fun t => (3, t))
  else if 15 ≤ p ∧ p < 39 ∧ 0 < m.refs.getD (p - 15) 0 then some (4, [m.data.getD (p - 15) 0]) else none
def rcTo (m : Img) (K p : Nat) : Option Rc := if p < K then rcAt m p else none
theorem rcAt_tab {m : Img} {k : Nat} (hk : k < 4) : rcAt m (11 + k) = ((imTabs m)[k]?).map (fun t => (3, t)) := by
  unfold rcAt
  rw [if_neg (by omega), if_neg (by omega), if_pos (by omega), show 11 + k - 11 = k by omega]
theorem rcAt_dat {m : Img} {c : Nat} (hc : c < 24) : rcAt m (15 + c) = if 0 < m.refs.getD c 0 then some (4, [m.data.getD c 0]) else none := by
  unfold rcAt
  rw [if_neg (by omega), if_neg (by omega), if_neg (by omega), show 15 + c - 15 = c by omega]
  by_cases h : 0 < m.refs.getD c 0
  · rw [if_pos ⟨by omega, by omega, h⟩, if_pos h]
  · rw [if_neg (by intro h2; exact h h2.2.2), if_neg h]
theorem rcAt_none {m : Img} {p : Nat} (h : p < 9 ∨ 39 ≤ p) : rcAt m p = none := by
  unfold rcAt
  rw [if_neg (by omega), if_neg (by omega), if_neg (by omega), if_neg (by omega)]
theorem rcTo_two (m : Img) : setF (setF (fun _ => none) 9 (1, supL m)) 10 (2, ctNs m.refs) = rcTo m 11 := by
  funext p
  simp only [rcTo, setF]
  by_cases h1 : p = 9
  · subst h1; simp [rcAt]
  · by_cases h2 : p = 10
    · subst h2; simp [rcAt]
    · simp only [h1, h2, if_false]
      by_cases h3 : p < 11
      · rw [if_pos h3, rcAt_none (.inl (by omega))]
      · rw [if_neg h3]
theorem rcTo_tab {m : Img} {k : Nat} (hk : k < (imTabs m).length) (h4 : k < 4) : setF (rcTo m (11 + k)) (11 + k) (3, (imTabs m)[k]) = rcTo m (11 + (k + 1)) := by
  funext p
  simp only [rcTo, setF]
  by_cases h1 : p = 11 + k
  · subst h1
    rw [if_pos rfl, if_pos (by omega), rcAt_tab h4, List.getElem?_eq_getElem hk]; rfl
  · rw [if_neg h1]
    by_cases h2 : p < 11 + k
    · rw [if_pos h2, if_pos (by omega)]
    · rw [if_neg h2, if_neg (by omega)]
theorem rcTo_tabs {m : Img} (h4 : (imTabs m).length ≤ 4) : rcTo m (11 + (imTabs m).length) = rcTo m (15 + 0) := by
  funext p
  simp only [rcTo]
  by_cases h1 : p < 11 + (imTabs m).length
  · rw [if_pos h1, if_pos (by omega)]
  · rw [if_neg h1]
    by_cases h2 : p < 15 + 0
    · rw [if_pos h2]
      have hp : 11 ≤ p := by
        rcases Nat.lt_or_ge p 11 with h | h
        · exact absurd h (by omega)
        · exact h
      have := rcAt_tab (m := m) (k := p - 11) (by omega)
      rw [show 11 + (p - 11) = p by omega, List.getElem?_eq_none (by omega)] at this
      rw [this]; rfl
    · rw [if_neg h2]
theorem rcTo_dat {m : Img} {c : Nat} (hc : c < 24) (h : 0 < m.refs.getD c 0) : setF (rcTo m (15 + c)) (15 + c) (4, [m.data.getD c 0]) = rcTo m (15 + (c + 1)) := by
  funext p
  simp only [rcTo, setF]
  by_cases h1 : p = 15 + c
  · subst h1
    rw [if_pos rfl, if_pos (by omega), rcAt_dat hc, if_pos h]
  · rw [if_neg h1]
    by_cases h2 : p < 15 + c
    · rw [if_pos h2, if_pos (by omega)]
    · rw [if_neg h2, if_neg (by omega)]
theorem rcTo_no {m : Img} {c : Nat} (hc : c < 24) (h : ¬ 0 < m.refs.getD c 0) : rcTo m (15 + c) = rcTo m (15 + (c + 1)) := by
  funext p
  simp only [rcTo]
  by_cases h1 : p = 15 + c
  · subst h1
    rw [if_neg (by omega), if_pos (by omega), rcAt_dat hc, if_neg h]
  · by_cases h2 : p < 15 + c
    · rw [if_pos h2, if_pos (by omega)]
    · rw [if_neg h2, if_neg (by omega)]
theorem rcTo_all (m : Img) : rcTo m (15 + 24) = rcAt m := by
  funext p
  simp only [rcTo]
  by_cases h2 : p < 15 + 24
  · rw [if_pos h2]
  · rw [if_neg h2, rcAt_none (.inr (by omega))]

end Go.Proofs.YtpdpnepnfhbonaaGreat

namespace Go.Proofs.YtpdpnepnfhbonaaGreat
open Go.RowKit
set_option linter.unusedVariables false
set_option maxRecDepth 100000

theorem nm1_at {t : ByteArray} (h : t.data.toList.all nm1 = true) {k : Nat} (hk : k < t.size) : nm1 t[k] = true := by
  have e : t.data.toList[k]'(by simpa using hk) = t[k] := by have := snm_get hk; rw [List.getElem?_eq_getElem (by simpa using hk)] at this; exact Option.some.inj this
  rw [← e]
  exact List.all_eq_true.1 h _ (List.getElem_mem _)

set_option maxHeartbeats 1600000 in
theorem packLetters_any (t : ByteArray) (w : World) (hn : snmB t = true) :
    Calls Tryz.prog 109 #[.string t] w fun e w' => e = .returned (.int .i64 (nmN t)) ∧ Below w.heap.size w w' := by
  obtain ⟨hal, h1, h6⟩ := snm_parts hn
  have HAL := hide hal
  clear hn hal
  have hcv := fun (W : World) => Lib.run_convert_string_bytes (P := Tryz.prog) W 9 104 5 t Tryz.underlying9 Tryz.underlying104 Tryz.underlying5
  have HB := hide (below_bytes w 5 t)
  have HCL := hide (Lib.bytesWorld_cell w 5 t)
  go_enter Tryz.func109, Tryz.ntmps109
  go_wp2
  revert HB HCL
  generalize Lib.bytesWorld w 5 t = w1
  generalize grownCap w t.size 0 5 = gc
  intro HB HCL
  clear hcv
  go_loop [3, 9] (fun n i => ∃ k : Nat, k ≤ t.size ∧ i = .int .i64 k ∧ n = .int .i64 (nmK t k)) (fun _ i => t.size - (intOf i).toNat)
  case atStart => exact ⟨0, Nat.zero_le _, rfl, rfl⟩
  case round =>
    obtain ⟨k, hk, rfl, rfl⟩ := hrel
    by_cases hlt : k < t.size
    · have hlti : (k : Int) < (t.size : Int) := by omega
      have hck := unhide HCL k hlt
      have eck : (t.data.toList.getD k 0) = t[k] := by simp [List.getD, snm_get hlt]
      rw [eck] at hck
      clear eck
      have hnm := nm1_at (unhide HAL) hlt
      simp only [nm1, Bool.and_eq_true, decide_eq_true_eq] at hnm
      have HS : Hid (nmK t (k + 1) = nmK t k * 27 + ((t[k].toNat : Int) - 96)) := hide (by
        rw [nmK_succ hlt]
        have e : t.data.toList[k]'(by simpa using hlt) = t[k] := by have := snm_get hlt; rw [List.getElem?_eq_getElem (by simpa using hlt)] at this; exact Option.some.inj this
        rw [e]
        unfold ch1
        omega)
      obtain ⟨b0, b1⟩ := nmK_le t k hk
      obtain ⟨d0, d1⟩ := bd27_le k (by omega)
      obtain ⟨c0, c1⟩ := hnm
      have hu : IntKind.u8.wrap ((t[k].toNat : Int) - 96) = ((t[k].toNat : Int) - 96) := by simp [IntKind.wrap, IntKind.bits, IntKind.signed]; omega
      generalize nmK t k = X at *
      generalize hD : ((t[k].toNat : Int) - 96) = D at *
      have w1 : IntKind.i64.wrap (X * 27) = X * 27 := by rw [IntKind.wrap_i64]; omega
      have w2 : IntKind.i64.wrap D = D := by rw [IntKind.wrap_i64]; omega
      have w3 : IntKind.i64.wrap (X * 27 + D) = X * 27 + D := by rw [IntKind.wrap_i64]; omega
      have HD := hide hD
      rw [← hD] at hu w2 w3
      go_wp2
      go_round
      case rel => exact ⟨k + 1, by omega, by go_num, by rw [unhide HS]⟩
      case measure => simp [intOf]; omega
    · obtain rfl : k = t.size := by omega
      have HF := hide (nmK_all t)
      go_wp2
      go_ret
      exact ⟨ret_int (unhide HF), unhide HB⟩

end Go.Proofs.YtpdpnepnfhbonaaGreat

namespace Go.Proofs.YtpdpnepnfhbonaaGreat
open Go.RowKit
set_option linter.unusedVariables false
set_option maxRecDepth 100000

set_option maxHeartbeats 1600000 in
theorem packNames_any (so : Option Addr) (sc : Nat) (m : Img) (w : World) (hR : ImR m) (hc : Sns w so m.snaps) :
    Calls Tryz.prog 67 #[.slice so m.snaps.length sc] w fun e w' => ∃ qo qa, e = .returned (.slice qo (supL m).length qa) ∧ Is w' qo (supL m) ∧ Below w.heap.size w w' := by
  have HC := hide hc
  have HNS : Hid (∀ k (h : k < m.snaps.length), snmB m.snaps[k].name = true) := hide (fun k h => (hR.snaps _ (List.getElem_mem h)).1)
  have hs3 := hR.few
  have HSL : Hid ((supL m).length = m.snaps.length + 1) := hide (by simp [supL])
  clear hc hR
  obtain ⟨j0, hj, hy0, hy1, hy2⟩ := info_parts infoM
  go_enter Tryz.func67, Tryz.ntmps67
  go_upto_region 1 with fail
  have H0 : Hid (OwnR (w.alloc (.cells #[.int .i64 (m.snaps.length : Int)] 3)) w.heap.size 3 1 (.slice (some ⟨w.heap.size, 0, none⟩) 1 1) 1 (intV ((supL m).take 1)) ∧ Below w.heap.size w (w.alloc (.cells #[.int .i64 (m.snaps.length : Int)] 3))) := hide
    ⟨.inr ⟨by omega, by have := World.ownsRow_lit (base := w.heap.size) (e := 3) (size := 1) w #[.int .i64 (m.snaps.length : Int)] 1 (Nat.le_refl _) (by unfold maxLen; omega) rfl; simpa [supL, intV] using this⟩, Joins.below_alloc1 _ _⟩
  go_wp2
  go_loopw [3, 11] (fun o i wr => ∃ (k : Nat) (qo : Option Addr) (qa : Nat), k ≤ m.snaps.length ∧ i = .int .i64 k ∧ o = .slice qo (k + 1) qa ∧ Hid (OwnR wr w.heap.size 3 1 (.slice qo (k + 1) qa) (k + 1) (intV ((supL m).take (k + 1))) ∧ Below w.heap.size w wr)) (fun _ i _ => m.snaps.length - (intOf i).toNat)
  case atStart => exact ⟨0, _, _, Nat.zero_le _, rfl, rfl, H0⟩
  case round =>
    clear H0
    obtain ⟨k, qo, qa, hk, rfl, rfl, HO⟩ := hrel
    by_cases hlt : k < m.snaps.length
    · obtain ⟨b, off, tq, tc, eb, hn0, ht0, _, _, _⟩ := ((unhide HC).below (unhide HO).2) k hlt
      have hlti : (k : Int) < (m.snaps.length : Int) := by omega
      have HST : Hid (intV ((supL m).take (k + 1 + 1)) = intV ((supL m).take (k + 1)) ++ [.int .i64 (nmN m.snaps[k].name)]) := hide (by rw [supL_take hlt]; simp [intV])
      have HX := hide (VarN.new wr m.snaps[k].name (.slice tq m.snaps[k].table.length tc))
      have HBX := hide (Joins.below_alloc1 wr (.cells #[.string m.snaps[k].name, .slice tq m.snaps[k].table.length tc] 83))
      go_upto_region 5 with fail
      revert HX HBX
      generalize (wr.alloc _) = w2
      intro HX HBX
      obtain ⟨x0, x1⟩ := (unhide HX).cells
      have HO2 := hide ((unhide HO).1.below (unhide HBX))
      have HB2 := hide (fr (unhide HO).2 (unhide HBX))
      clear HX HBX hn0 ht0 eb HO
      go_wp2_with fail
      refine (packLetters_any m.snaps[k].name _ (unhide HNS k hlt)).mono ?_
      rintro e w3 ⟨rfl, hb3⟩
      generalize nmN m.snaps[k].name = NN at *
      have HO3 := hide ((unhide HO2).below hb3)
      have HB3 := hide (fr (unhide HB2) hb3)
      clear hb3 HO2 HB2 x0 x1
      have HOA := hide ((unhide HO3).below (Joins.below_alloc1 _ (.cells #[.int .i64 NN] 3)))
      have HBA := hide (fr (unhide HB3) (Joins.below_alloc1 _ (.cells #[.int .i64 NN] 3)))
      have HSZ := hide (unhide HB3).size
      go_wp2_with (at_builtin; refine wpList_append_one rfl _ _ 22 rfl w.heap.size 3 j0 (.int .i64 0) 1 8 Tryz.underlying22 hj hy0 hy1 hy2 rfl (by omega) qo (k + 1) qa (intV ((supL m).take (k + 1))) rfl (unhide HOA) (by have := unhide HSZ; simp; omega) ⟨w3.heap.size, 0, none⟩ _ [.int .i64 NN] rfl rfl (byte_news w3 _ _) (int_one _) (by unfold maxLen; omega) (by omega) ?_; intro g2 cap2 wA hoA hkA; have HSF := hide (And.intro hoA (keep_below (unhide HBA) (unhide HOA) (Nat.le_refl _) hkA)); clear hoA hkA)
      go_roundw
      case rel => exact ⟨k + 1, some ⟨g2, 0, none⟩, cap2, by omega, by go_num, rfl, hide ⟨.inr ⟨by omega, by rw [unhide HST]; exact (unhide HSF).1⟩, (unhide HSF).2⟩⟩
      case measure => simp [intOf]; omega
    · obtain rfl : k = m.snaps.length := by omega
      have HIS : Hid (Is wr qo (supL m)) := hide (by
        have h := (unhide HO).1
        rw [List.take_of_length_le (by rw [unhide HSL]; exact Nat.le_refl _), ← unhide HSL] at h
        exact ownRN h)
      go_wp2
      go_ret
      exact ⟨qo, qa, by rw [unhide HSL]; rfl, unhide HIS, (unhide HO).2⟩

theorem eqN_at {xs ys : List Int} {k : Nat} (h1 : k < xs.length) (h2 : k < ys.length) (h : xs[k] ≠ ys[k]) : eqNB xs ys = false := by
  simp only [eqNB, decide_eq_false_iff_not]
  intro e; subst e; exact h rfl
theorem eqN_len {xs ys : List Int} (h : xs.length ≠ ys.length) : eqNB xs ys = false := by
  simp only [eqNB, decide_eq_false_iff_not]
  intro e; subst e; exact h rfl
theorem eqN_all {xs ys : List Int} (hl : xs.length = ys.length) (h : ∀ j (h1 : j < xs.length) (h2 : j < ys.length), xs[j] = ys[j]) : eqNB xs ys = true := by
  simp only [eqNB, decide_eq_true_eq]
  exact List.ext_getElem hl (fun j h1 h2 => h j h1 h2)

set_option maxHeartbeats 1600000 in
theorem slicesEqual_any (ao bo : Option Addr) (ca cb : Nat) (xs ys : List Int) (w : World) (h1 : xs.length ≤ maxLen) (h2 : ys.length ≤ maxLen) (hx : Is w ao xs) (hy : Is w bo ys) :
    Calls Tryz.prog 107 #[.slice ao xs.length ca, .slice bo ys.length cb] w fun e w' => e = .returned (.bool (eqNB xs ys)) ∧ Below w.heap.size w w' := by
  have HX := hide hx
  have HY := hide hy
  clear hx hy
  unfold maxLen at h1 h2
  by_cases hl : xs.length = ys.length
  · have HL := hide hl
    have hlb : ((xs.length : Int) != (ys.length : Int)) = false := by simp [hl]
    clear hl
    go_enter Tryz.func107, Tryz.ntmps107
    go_wp2
    go_loopw [13] (fun i wr => ∃ k : Nat, k ≤ xs.length ∧ i = .int .i64 k ∧ Hid (∀ j (h1 : j < xs.length) (h2 : j < ys.length), j < k → xs[j] = ys[j]) ∧ Hid (Below w.heap.size w wr)) (fun i _ => xs.length - (intOf i).toNat)
    case atStart => exact ⟨0, Nat.zero_le _, rfl, hide (fun j _ _ h => by omega), hide (Below.refl _ _)⟩
    case round =>
      obtain ⟨k, hk, rfl, HA, HB⟩ := hrel
      by_cases hlt : k < xs.length
      · have hly : k < ys.length := by have := unhide HL; omega
        obtain ⟨b, off, rfl, hcx⟩ := ((unhide HX).below (unhide HB)) k hlt
        obtain ⟨b', off', rfl, hcy⟩ := ((unhide HY).below (unhide HB)) k hly
        have hi1 : (k : Int) < (xs.length : Int) := by omega
        have hi2 : (k : Int) < (ys.length : Int) := by omega
        have hi0 : (0 : Int) ≤ (k : Int) := by omega
        by_cases he : xs[k] = ys[k]
        · have HN : Hid (∀ j (h1 : j < xs.length) (h2 : j < ys.length), j < k + 1 → xs[j] = ys[j]) := hide (fun j h1 h2 hj => by
            by_cases e : j = k
            · subst e; exact he
            · exact unhide HA j h1 h2 (by omega))
          rw [← he] at hcy
          generalize xs[k] = X at *
          have hbe : (X != X) = false := by simp
          go_wp2
          go_region
          all_goals
            go_wp2
            go_roundw
            case rel => exact ⟨k + 1, by omega, by go_num, HN, hide (by exact (unhide HB).drew)⟩
            case measure => simp [intOf]; omega
        · have HF := hide (eqN_at hlt hly he)
          have hbe : (xs[k] != ys[k]) = true := by simp [he]
          generalize xs[k] = X at *
          generalize ys[k] = Y at *
          go_wp2
          go_region
          all_goals
            go_wp2
            go_ret
            exact ⟨ret_bool (unhide HF).symm, (by exact (unhide HB).drew)⟩
      · have HF := hide (eqN_all (unhide HL) (fun j h1 h2 => unhide HA j h1 h2 (by omega)))
        go_wp2
        go_ret
        exact ⟨ret_bool (unhide HF).symm, unhide HB⟩
  · have HF := hide (eqN_len hl)
    have hlb : ((xs.length : Int) != (ys.length : Int)) = true := by simp; omega
    clear hl
    go_enter Tryz.func107, Tryz.ntmps107
    go_wp2
    go_ret
    exact ⟨ret_bool (unhide HF).symm, Below.refl _ _⟩

def VarRk (w : World) (x : Nat) (r : Rc) (ao : Option Addr) (cap : Nat) : Prop := w.heap[x]? = some (.cells #[.int .i64 r.1, .slice ao r.2.length cap] 94 (0, 0))
theorem VarRk.cells {w : World} {x : Nat} {r : Rc} {ao : Option Addr} {cap : Nat} (k : VarRk w x r ao cap) : w.cell? ⟨x, 0, none⟩ = some (.int .i64 r.1) ∧ w.cell? ⟨x, 1, none⟩ = some (.slice ao r.2.length cap) := ⟨by rw [Joins.cell_of_block k]; rfl, by rw [Joins.cell_of_block k]; rfl⟩
theorem VarRk.new (w : World) (r : Rc) (ao : Option Addr) (cap : Nat) : VarRk (w.alloc (.cells #[.int .i64 r.1, .slice ao r.2.length cap] 94)) w.heap.size r ao cap := heap_alloc_new w _
theorem VarRk.below {w w' : World} {x : Nat} {r : Rc} {ao : Option Addr} {cap : Nat} (h : VarRk w x r ao cap) (hb : Below w.heap.size w w') : VarRk w' x r ao cap := block_of_below h hb
def rcEq (r s : Rc) : Bool := decide (r.1 = s.1) && eqNB r.2 s.2
theorem rcEq_iff {r s : Rc} : rcEq r s = true ↔ r = s := by
  simp only [rcEq, eqNB, Bool.and_eq_true, decide_eq_true_eq]
  exact ⟨fun h => Prod.ext h.1 h.2, fun h => by rw [h]; exact ⟨rfl, rfl⟩⟩

set_option maxHeartbeats 1600000 in
theorem like_any (r s : Rc) (ao bo : Option Addr) (ca cb : Nat) (w : World) (h1 : r.2.length ≤ maxLen) (h2 : s.2.length ≤ maxLen) (hx : Is w ao r.2) (hy : Is w bo s.2) :
    Calls Tryz.prog 65 #[rcV r ao ca, rcV s bo cb] w fun e w' => e = .returned (.bool (rcEq r s)) ∧ Below w.heap.size w w' := by
  have HV1 := hide ((VarRk.new w r ao ca).below (Joins.below_alloc1 _ (.cells #[.int .i64 s.1, .slice bo s.2.length cb] 94)))
  have HV2 : Hid (VarRk ((w.alloc (.cells #[.int .i64 r.1, .slice ao r.2.length ca] 94)).alloc (.cells #[.int .i64 s.1, .slice bo s.2.length cb] 94)) (w.heap.size + 1) s bo cb) := hide (by
    have := VarRk.new (w.alloc (.cells #[.int .i64 r.1, .slice ao r.2.length ca] 94)) s bo cb
    rwa [World.size_alloc] at this)
  have HB := hide (Joins.below_alloc2 w (.cells #[.int .i64 r.1, .slice ao r.2.length ca] 94) (.cells #[.int .i64 s.1, .slice bo s.2.length cb] 94))
  have H1 := hide h1
  have H2 := hide h2
  have HX := hide (hx.below (unhide HB))
  have HY := hide (hy.below (unhide HB))
  clear hx hy h1 h2
  unfold rcV
  go_enter Tryz.func65, Tryz.ntmps65
  go_upto_region 1 with fail
  revert HV1 HV2 HB HX HY
  generalize ((w.alloc _).alloc _) = W
  intro HV1 HV2 HB HX HY
  obtain ⟨c0, c1⟩ := (unhide HV1).cells
  obtain ⟨d0, d1⟩ := (unhide HV2).cells
  by_cases he : r.1 = s.1
  · have HF : Hid (rcEq r s = eqNB r.2 s.2) := hide (by simp [rcEq, he])
    have hbe : (r.1 == s.1) = true := by simp [he]
    go_wp2_with fail
    refine (slicesEqual_any ao bo ca cb r.2 s.2 _ (unhide H1) (unhide H2) (unhide HX) (unhide HY)).mono ?_
    rintro e w1 ⟨rfl, hb⟩
    have HB1 := hide (fr (unhide HB) hb)
    clear hb
    go_wp2
    go_ret
    exact ⟨ret_bool (unhide HF).symm, unhide HB1⟩
  · have HF : Hid (rcEq r s = false) := hide (by simp [rcEq, he])
    have hbe : (r.1 == s.1) = false := by simp [he]
    go_wp2
    go_ret
    exact ⟨ret_bool (unhide HF).symm, unhide HB⟩

def rcT (r : Rc) : ByteArray := sealT r.1 r.2

set_option maxHeartbeats 1600000 in
theorem textR_any (r : Rc) (ao : Option Addr) (ca : Nat) (w : World) (h1 : r.2.length ≤ 1048576) (hx : Is w ao r.2) :
    Calls Tryz.prog 66 #[rcV r ao ca] w fun e w' => e = .returned (.string (rcT r)) ∧ Below w.heap.size w w' := by
  have HV := hide (VarRk.new w r ao ca)
  have HB := hide (Joins.below_alloc1 w (.cells #[.int .i64 r.1, .slice ao r.2.length ca] 94))
  have HX := hide (hx.below (unhide HB))
  have H1 := hide h1
  have HT : Hid (rcT r = sealT r.1 r.2) := hide rfl
  clear hx h1
  unfold rcV
  go_enter Tryz.func66, Tryz.ntmps66
  go_upto_region 1 with fail
  revert HV HB HX
  generalize (w.alloc _) = W
  intro HV HB HX
  obtain ⟨c0, c1⟩ := (unhide HV).cells
  go_wp2_with fail
  refine (sealRecord_impl r.1 ao ca r.2 _ (unhide H1) (unhide HX)).mono ?_
  rintro e w1 ⟨rfl, hb⟩
  have HB1 := hide (fr (unhide HB) hb)
  clear hb
  go_wp2
  go_ret
  exact ⟨rfl, unhide HB1⟩

end Go.Proofs.YtpdpnepnfhbonaaGreat
