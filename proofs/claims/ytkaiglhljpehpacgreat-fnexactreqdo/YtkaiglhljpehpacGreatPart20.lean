import Derived.Test.YtkaiglhljpehpacGreatRows
import Derived.Test.YtkaiglhljpehpacGreatPart1
import Derived.Test.YtkaiglhljpehpacGreatPart3
import Derived.Test.YtkaiglhljpehpacGreatPart7
import Derived.Test.YtkaiglhljpehpacGreatPart2
import Derived.Test.YtkaiglhljpehpacGreatPart17
import Derived.WalkKit
import Derived.WalkSpells
import Derived.KernelRfl
import Derived.LoopN
import Derived.BigQuiet
import Derived.Deep.QuietTactic
import Derived.Deep.CutRange
import Derived.Deep.RegionWith
import Derived.Laws.ResultCell
import Derived.Deep.MidRow
import Derived.Test.YtkaiglhljpehpacGreatPart4
import Derived.Test.YtkaiglhljpehpacGreatPart5
import Derived.Test.YtkaiglhljpehpacGreatPart6
import Derived.Test.YtkaiglhljpehpacGreatPart9
import Derived.Test.YtkaiglhljpehpacGreatPart18
import Derived.Test.YtkaiglhljpehpacGreatPart16
import Derived.Test.YtkaiglhljpehpacGreatImW

/- Contracts of impl.FreeCluster, impl.RefSum. -/
namespace Go.Proofs.YtkaiglhljpehpacGreat
open Go.RowKit
set_option linter.unusedVariables false
set_option maxRecDepth 100000

theorem ctF_zero {xs : List Int} (h0 : ctF xs = 0) : ctB xs = true := by
  rcases ctF_cases xs with ⟨_, h, _⟩ | ⟨_, _, h, _⟩ | ⟨h, _⟩
  · rw [h0] at h; cases h
  · rw [h0] at h; cases h
  · exact h

set_option maxHeartbeats 1600000 in
theorem freeCluster_impl (ao : Option Addr) (cap : Nat) (xs : List Int) (w : World) (hl : xs.length ≤ maxLen) (hc : Is w ao xs) :
    Calls Tryz.prog 89 #[.slice ao xs.length cap] w fun e w' => e = .returned (.tuple #[.int .i64 (frR xs), .int .i64 (frC xs)]) ∧ Below w.heap.size w w' := by
  have HC := hide hc
  have HL := hide hl
  have HLC := hide (coR_len xs)
  clear hc
  go_enter Tryz.func89, Tryz.ntmps89
  go_wp2_with fail
  refine (countsOf_any ao cap xs _ (unhide HL) (unhide HC)).mono ?_
  rintro e w1 ⟨rfl, hb⟩
  have HB1 := hide hb
  have HSZ := hide hb.size
  clear hb HC
  have HNN := hide (arr_new w1)
  have HBB := hide (fr (unhide HB1) (Joins.below_alloc1 w1 (.cells #[.int .i64 0, .int .i64 0, .int .i64 0, .int .i64 0, .int .i64 0, .int .i64 0, .int .i64 0, .int .i64 0, .int .i64 0, .int .i64 0, .int .i64 0, .int .i64 0, .int .i64 0, .int .i64 0, .int .i64 0, .int .i64 0, .int .i64 0, .int .i64 0, .int .i64 0, .int .i64 0, .int .i64 0, .int .i64 0, .int .i64 0, .int .i64 0] 126)))
  by_cases h0 : ctF xs = 0
  · have HCO : Hid (coR xs = xs) := hide (if_pos h0)
    have HCB := hide (ctF_zero h0)
    rw [h0]
    clear h0
    go_upto_region 2 with (refine wpList_store_arr rfl 126 _ _ rfl w1.heap.size rfl (intV (coR xs)).toArray rfl _ _ (unhide HNN) (sizeA (unhide HLC)) (by rw [intV_size, intV_size, unhide HLC]; rfl) (intV_one _) ?_; intro w2 hn2 hk2 hs2; have HB2 := hide (keep_one (unhide HBB) hk2 (unhide HSZ)); clear hk2 hs2 HNN HBB HB1)
    have HN2 : Hid (VarC w2 w1.heap.size xs) := hide (by rw [unhide HCO] at hn2; exact hn2)
    clear hn2 HCO HLC
    generalize w1.heap.size = G at *
    go_wp2_with (refine wpList_load_arr rfl 126 _ rfl G rfl (intV xs).toArray _ _ (unhide HN2) und24 rfl (sizeA (ctB_len (unhide HCB))) ?_)
    go_loop [17] (fun i => ∃ k : Nat, k ≤ 24 ∧ i = .int .i64 k ∧ Hid (∀ j (hj : j < xs.length), j < k → decide (xs[j] ≠ 0) = true)) (fun i => 24 - (intOf i).toNat)
    case atStart => exact ⟨0, Nat.zero_le _, rfl, hide (fun j _ h => by omega)⟩
    case round =>
      obtain ⟨k, hk, rfl, HA⟩ := hrel
      by_cases hlt : k < 24
      · have hkx : k < xs.length := by rw [ctB_len (unhide HCB)]; exact hlt
        have hix := fun W => idx24 W xs k (ctB_len (unhide HCB)) hkx
        have hki : (k : Int) < 24 := by omega
        by_cases hz : xs[k] = 0
        · have HE := hide (frC_here (unhide HCB) hkx (fr_here hkx hz (unhide HA)))
          have bz : (xs[k] == 0) = true := by simp [hz]
          clear hz
          go_wp2
          go_ret2
          exact ⟨ret_two2 (unhide HE).2.symm (unhide HE).1.symm, unhide HB2⟩
        · have HN := hide (all_succ (p := fun n => decide (n ≠ 0)) hkx (unhide HA) (by simpa using hz))
          have bz : (xs[k] == 0) = false := by simp [hz]
          clear hz
          go_wp2
          go_round
          case rel => exact ⟨k + 1, by omega, by go_num, HN⟩
          case measure => simp [intOf]; omega
      · have HE := hide (frC_none (unhide HCB) (fr_none (fun j hj => unhide HA j hj (by have := ctB_len (unhide HCB); omega))))
        go_wp2
        go_ret2
        exact ⟨ret_two2 (unhide HE).2.symm (unhide HE).1.symm, unhide HB2⟩
  · have HE := hide (frC_bad h0)
    have hne := ctF_ne xs h0
    clear h0
    go_upto_region 2 with (refine wpList_store_arr rfl 126 _ _ rfl w1.heap.size rfl (intV (coR xs)).toArray rfl _ _ (unhide HNN) (sizeA (unhide HLC)) (by rw [intV_size, intV_size, unhide HLC]; rfl) (intV_one _) ?_; intro w2 hn2 hk2 hs2; have HB2 := hide (keep_one (unhide HBB) hk2 (unhide HSZ)); clear hk2 hs2 HNN HBB HB1)
    clear hn2
    go_wp2
    go_ret2
    exact ⟨ret_two2 (unhide HE).2.1.symm (unhide HE).1.symm, unhide HB2⟩

end Go.Proofs.YtkaiglhljpehpacGreat

/- Counts and data that follow the tables: imFit; the contract of impl.fitToTables. -/
namespace Go.Proofs.YtkaiglhljpehpacGreat
open Go.RowKit
set_option linter.unusedVariables false
set_option maxRecDepth 100000

/-- Counts and data as the tables have them. -/
def imFit (m : Img) : Img := { m with refs := imCnt m, data := (List.range 24).map fun i => if (imCnt m).getD i 0 = 0 then 0 else m.data.getD i 0 }
/-- .. of the first clusters. -/
def fitTo (m : Img) (cs : List Int) : Nat → Img
  | 0 => m
  | k + 1 => { fitTo m cs k with refs := (fitTo m cs k).refs.set k (cs.getD k 0), data := if cs.getD k 0 = 0 then (fitTo m cs k).data.set k 0 else (fitTo m cs k).data }
theorem fitTo_lens (m : Img) (cs : List Int) : ∀ k, (fitTo m cs k).refs.length = m.refs.length ∧ (fitTo m cs k).data.length = m.data.length ∧ (fitTo m cs k).table = m.table ∧ (fitTo m cs k).snaps = m.snaps
  | 0 => ⟨rfl, rfl, rfl, rfl⟩
  | k + 1 => by
    obtain ⟨h1, h2, h3, h4⟩ := fitTo_lens m cs k
    refine ⟨by simp [fitTo, h1], ?_, h3, h4⟩
    unfold fitTo
    simp only
    split
    · rw [List.length_set]; exact h2
    · exact h2
theorem fitTo_get (m : Img) (cs : List Int) (hr : m.refs.length = 24) (hd : m.data.length = 24) : ∀ k, k ≤ 24 → ∀ i, i < 24 → (fitTo m cs k).refs.getD i 0 = (if i < k then cs.getD i 0 else m.refs.getD i 0) ∧ (fitTo m cs k).data.getD i 0 = (if i < k ∧ cs.getD i 0 = 0 then 0 else m.data.getD i 0)
  | 0, _, i, _ => by simp [fitTo]
  | k + 1, hk, i, hi => by
    obtain ⟨h1, h2⟩ := fitTo_get m cs hr hd k (by omega) i hi
    obtain ⟨l1, l2, _, _⟩ := fitTo_lens m cs k
    constructor
    · have e : (fitTo m cs (k + 1)).refs = (fitTo m cs k).refs.set k (cs.getD k 0) := rfl
      rw [e]
      by_cases hik : i = k
      · subst hik
        rw [if_pos (by omega)]
        simp [List.getD, l1, hr, hi]
      · have : (i < k + 1) ↔ (i < k) := by omega
        simp only [this]
        rw [← h1]
        simp [List.getD, Ne.symm hik]
    · have e : (fitTo m cs (k + 1)).data = if cs.getD k 0 = 0 then (fitTo m cs k).data.set k 0 else (fitTo m cs k).data := rfl
      rw [e]
      by_cases hik : i = k
      · subst hik
        by_cases hz : cs.getD i 0 = 0
        · rw [if_pos hz, if_pos ⟨by omega, hz⟩]
          simp [List.getD, l2, hd, hi]
        · rw [if_neg hz, h2, if_neg (fun h => hz h.2), if_neg (fun h => hz h.2)]
      · have : (i < k + 1) ↔ (i < k) := by omega
        simp only [this]
        rw [← h2]
        split
        · simp [List.getD, Ne.symm hik]
        · rfl
theorem getD_ext {xs ys : List Int} (h1 : xs.length = 24) (h2 : ys.length = 24) (h : ∀ i, i < 24 → xs.getD i 0 = ys.getD i 0) : xs = ys :=
  List.ext_getElem (by rw [h1, h2]) (fun i ha hb => by
    have := h i (by omega)
    simpa [List.getD, ha, hb] using this)
theorem range_getD {f : Nat → Int} {i : Nat} (hi : i < 24) : ((List.range 24).map f).getD i 0 = f i := by simp [List.getD, hi]
theorem fitTo_all (m : Img) (hr : m.refs.length = 24) (hd : m.data.length = 24) : fitTo m (imCnt m) 24 = imFit m := by
  obtain ⟨l1, l2, l3, l4⟩ := fitTo_lens m (imCnt m) 24
  have e1 : (fitTo m (imCnt m) 24).refs = imCnt m := getD_ext (by rw [l1, hr]) (imCnt_len m) (fun i hi => by
    rw [(fitTo_get m (imCnt m) hr hd 24 (Nat.le_refl _) i hi).1, if_pos hi])
  have e2 : (fitTo m (imCnt m) 24).data = (List.range 24).map fun i => if (imCnt m).getD i 0 = 0 then 0 else m.data.getD i 0 := getD_ext (by rw [l2, hd]) (by simp) (fun i hi => by
    rw [(fitTo_get m (imCnt m) hr hd 24 (Nat.le_refl _) i hi).2, range_getD hi]
    simp [hi])
  have key : ∀ F : Img, F.refs = imCnt m → F.table = m.table → F.snaps = m.snaps → F.data = ((List.range 24).map fun i => if (imCnt m).getD i 0 = 0 then 0 else m.data.getD i 0) → F = imFit m := by
    rintro ⟨r, t, s, d⟩ h1 h2 h3 h4
    simp only at h1 h2 h3 h4
    subst h1 h2 h3 h4
    rfl
  exact key _ e1 l3 l4 e2
/-- Cells are no map. -/
theorem MpC.setCell {w : World} {B n : Nat} {D : DataW Unit} {ns : List Int} (h : MpC w B n D ns) {p : Addr} {u : Value} (hc : w.cell? p = some u) (v : Value) : MpC (w.setCell p v) B n D ns := by
  have hk : Keep (fun g => g = p.block) w (w.setCell p v) := (Keep.refl (fun g => g = p.block) w).setCell (p := p) rfl v
  refine h.keep hk (fun e => ?_)
  obtain ⟨⟨es, clock, hb, _⟩, _⟩ := h
  have e' : B = p.block := e
  rw [e'] at hb
  simp [World.cell?, hb] at hc
theorem ImB.lens {a : Im4} {m m' : Img} {ts : List Value} {g : Nat} (e1 : m'.refs.length = m.refs.length) (e2 : m'.table.length = m.table.length) (e3 : m'.snaps.length = m.snaps.length) (e4 : m'.data.length = m.data.length) (h : ImB a m' ts g) : ImB a m ts g := by
  unfold ImB at h ⊢
  rw [e1, e2, e3, e4] at h
  exact h

set_option maxHeartbeats 3200000 in
theorem fitToTables_any (a : Im4) (m : Img) (ts : List Value) (B p : Nat) (w : World) (hr : m.refs.length = 24) (hd : m.data.length = 24) (hs : m.snaps.length ≤ 3) (ht : ∀ t ∈ imTabs m, tbB t = true) (hz : ∀ s ∈ m.snaps, s.name.size ≤ maxLen ∧ s.table.length ≤ maxLen)
    (hv : VarM w p 32 (.slice a.ro m.refs.length a.rc) (.slice a.tq m.table.length a.tc) (.slice a.so m.snaps.length a.sc) (.slice a.dq m.data.length a.dc)) (ho : OwnIm w B a m ts) :
    Calls Tryz.prog 107 #[.pointer (some ⟨p, 0, none⟩)] w fun e w' => e = .returned (.tuple #[]) ∧ OwnIm w' B a (imFit m) ts ∧ Keep (ImB a m ts) w w' := by
  have HV := hide hv
  have HO := hide ho
  have HC := hide (ho.shows hz)
  have HR24 := hide hr
  have HD24 := hide hd
  have HTB := hide ht
  have HLT := hide (imTabs_len m)
  have HALL := hide (fitTo_all m hr hd)
  clear hv ho hr hd ht hz
  obtain ⟨c0, c1, c2, c3⟩ := (unhide HV).cells
  go_enter Tryz.func107, Tryz.ntmps107
  go_wp2_with fail
  refine (tablesOf_any a m _ hs (unhide HC)).mono ?_
  rintro e w1 ⟨qo, qa, rfl, hrow, hb⟩
  have HROW := hide hrow
  have HB1 := hide hb
  clear hb hrow c0 c1 c2 c3
  go_wp2_with fail
  refine (usesOf_any qo qa (imTabs m) _ (by rw [unhide HLT]; omega) (unhide HTB) (unhide HROW)).mono ?_
  rintro e w2 ⟨M, D, rfl, hBge, hmp, hct, hb⟩
  have HB2 := hide (fr (unhide HB1) hb)
  have HO2 := hide ((unhide HO).below (unhide HB2))
  have HV2 := hide ((unhide HV).below (unhide HB2))
  have HM : Hid (MpC w2 M 1000 D (imCnt m)) := hide hmp
  clear hb hmp hct hBge HB1 HROW HC HO HV
  generalize imCnt m = cs at *
  go_wp2
  go_loopw [9] (fun i wr => ∃ k : Nat, k ≤ 24 ∧ i = .int .i64 k ∧ Hid (OwnIm wr B a (fitTo m cs k) ts) ∧ Hid (VarM wr p 32 (.slice a.ro m.refs.length a.rc) (.slice a.tq m.table.length a.tc) (.slice a.so m.snaps.length a.sc) (.slice a.dq m.data.length a.dc)) ∧ Hid (MpC wr M 1000 D cs) ∧ Hid (Keep (ImB a m ts) w2 wr)) (fun i _ => 24 - (intOf i).toNat)
  case atStart => exact ⟨0, by omega, rfl, HO2, HV2, HM, hide (Keep.refl _ _)⟩
  case round =>
    clear HO2 HV2 HM
    obtain ⟨k, hk, rfl, HO, HV, HM, HK⟩ := hrel
    by_cases hlt : k < 24
    · have hlti : (k : Int) < 24 := by omega
      have HLS := hide (fitTo_lens m cs k)
      have HST : Hid (fitTo m cs (k + 1) = { fitTo m cs k with refs := (fitTo m cs k).refs.set k (cs.getD k 0), data := if cs.getD k 0 = 0 then (fitTo m cs k).data.set k 0 else (fitTo m cs k).data }) := hide rfl
      have kri : (k : Int) < (m.refs.length : Int) := by rw [unhide HR24]; omega
      have kdi : (k : Int) < (m.data.length : Int) := by rw [unhide HD24]; omega
      generalize fitTo m cs k = F at *
      have hlk := (unhide HM).look hlt
      have hlk2 : (Instr.lookup 105 (.map (some M)) (.int .i64 (k : Int)) false).run Tryz.prog wr.drew = .ok (.int .i64 (cs.getD k 0)) wr.drew := ((unhide HM).below (Below.refl _ _).drew).look hlt
      have HLK : Hid (∀ W, MpC W M 1000 D cs → (Instr.lookup 105 (.map (some M)) (.int .i64 (k : Int)) false).run Tryz.prog W = .ok (.int .i64 (cs.getD k 0)) W) := hide (fun W h => h.look hlt)
      generalize cs.getD k 0 = X at *
      obtain ⟨g1, e1, hg1, hf1, hi1, hs1⟩ := (unhide HO).setR (c := k) (by rw [(unhide HLS).1, unhide HR24]; exact hlt)
      have HO1 := hide ((hs1 X).below (Below.refl _ _).drew)
      have HI1 : Hid (ImB a m ts g1) := hide (ImB.lens (unhide HLS).1 (by rw [(unhide HLS).2.2.1]) (by rw [(unhide HLS).2.2.2]) (unhide HLS).2.1 hi1)
      have HK1 : Hid (Keep (ImB a m ts) w2 (wr.setCell ⟨g1, k, none⟩ (.int .i64 X)).drew) := hide (((unhide HK).setCell (p := ⟨g1, k, none⟩) (unhide HI1) _).trans (Keep.of_below (Below.refl _ _).drew))
      have HM1 := hide (((unhide HM).setCell hg1 (.int .i64 X)).below (Below.refl _ _).drew)
      have hpg : p ≠ g1 := fun e => (unhide HO).other (e ▸ unhide HV) hi1
      have HV1 := hide (((unhide HV).other (p := ⟨g1, k, none⟩) hpg (.int .i64 X)).below (Below.refl _ _).drew)
      obtain ⟨c0, c1, c2, c3⟩ := (unhide HV).cells
      rw [e1] at c0
      clear e1 hs1 hi1
      go_upto_region 4 with fail
      go_region
      revert HO1 HK1 HM1 HV1
      generalize (World.drew _) = W1
      intro HO1 HK1 HM1 HV1
      clear c0 c1 c2 c3 hg1 hf1 hlk hlk2 hpg
      have hlk3 := unhide HLK W1 (unhide HM1)
      obtain ⟨c0, c1, c2, c3⟩ := (unhide HV1).cells
      by_cases hz : X = 0
      · obtain ⟨g2, e2, hg2, hf2, hi2, hs2⟩ := (unhide HO1).setD (c := k) (by show k < F.data.length; rw [(unhide HLS).2.1, unhide HD24]; exact hlt)
        have HO2 : Hid (OwnIm (W1.setCell ⟨g2, k, none⟩ (.int .i64 0)) B a (fitTo m cs (k + 1)) ts) := hide (by rw [unhide HST, if_pos hz]; exact hs2 0)
        have HI2 : Hid (ImB a m ts g2) := hide (ImB.lens (m' := { F with refs := F.refs.set k X }) (by simp [(unhide HLS).1]) (by show F.table.length = _; rw [(unhide HLS).2.2.1]) (by show F.snaps.length = _; rw [(unhide HLS).2.2.2]) (unhide HLS).2.1 hi2)
        have HK2 := hide ((unhide HK1).setCell (p := ⟨g2, k, none⟩) (unhide HI2) (.int .i64 0))
        have HM2 := hide ((unhide HM1).setCell hg2 (.int .i64 0))
        have hpg : p ≠ g2 := fun e => (unhide HO1).other (e ▸ unhide HV1) hi2
        have HV2 := hide ((unhide HV1).other (p := ⟨g2, k, none⟩) hpg (.int .i64 0))
        have bz : (X == 0) = true := by simp [hz]
        rw [e2] at c3
        clear e2 hs2 hi2 hz
        go_wp2
        go_roundw
        case rel => exact ⟨k + 1, by omega, by go_num, HO2, HV2, HM2, HK2⟩
        case measure => simp [intOf]; omega
      · have HO2 : Hid (OwnIm W1 B a (fitTo m cs (k + 1)) ts) := hide (by rw [unhide HST, if_neg hz]; exact unhide HO1)
        have bz : (X == 0) = false := by simp [hz]
        clear hz
        go_wp2
        go_roundw
        case rel => exact ⟨k + 1, by omega, by go_num, HO2, HV1, HM1, HK1⟩
        case measure => simp [intOf]; omega
    · obtain rfl : k = 24 := by omega
      go_wp2
      go_end0
      exact ⟨rfl, by rw [← unhide HALL]; exact unhide HO, (Keep.of_below (unhide HB2)).trans (unhide HK)⟩

end Go.Proofs.YtkaiglhljpehpacGreat

/- Contracts of impl.copyList at numbers and at snapshots. -/
namespace Go.Proofs.YtkaiglhljpehpacGreat
open Go.RowKit
set_option linter.unusedVariables false
set_option maxRecDepth 100000

set_option maxHeartbeats 1600000 in
theorem copyN_any (ao : Option Addr) (cap : Nat) (xs : List Int) (w : World) (hl : xs.length ≤ 1048576) (hc : Is w ao xs) :
    Calls Tryz.prog 84 #[.slice ao xs.length cap] w fun e w' => ∃ v, e = .returned v ∧ OwnN w' w.heap.size v xs ∧ Below w.heap.size w w' := by
  by_cases h0 : xs.length = 0
  · have hb : ((xs.length : Int) == 0) = true := by simp [h0]
    have HE := hide (List.eq_nil_of_length_eq_zero h0)
    clear h0 hc
    go_enter Tryz.func84, Tryz.ntmps84
    go_wp2
    go_ret
    exact ⟨_, rfl, by rw [unhide HE]; exact OwnN.nil _ _ _, Below.refl _ _⟩
  · obtain ⟨b, off, rfl, hc0⟩ := hc 0 (by omega)
    have hbl := World.block_lt_of_cell? _ _ hc0
    refine (copyI_any b off cap xs w hl (by omega) hbl (fun j v hv => ?_)).mono ?_
    · have hj : j < xs.length := by have := (List.getElem?_eq_some_iff.1 hv).1; rwa [intV_length] at this
      obtain ⟨b2, off2, e2, hc2⟩ := hc j hj
      simp only [Option.some.injEq, Addr.mk.injEq, and_true] at e2
      obtain ⟨rfl, rfl⟩ := e2
      rw [intV_get hj] at hv
      cases hv
      exact hc2
    · rintro e w' ⟨rfl, ho, hb⟩
      exact ⟨_, rfl, ⟨_, _, rfl, .inr ⟨by omega, ho⟩⟩, hb⟩

/-- The tables' slices of a row of snapshots, as memory has them. -/
theorem Sns.cellsOf {w : World} {so : Option Addr} {ss : List Snp} (h : Sns w so ss) (hp : 0 < ss.length) : ∃ b off ts, so = some ⟨b, off, none⟩ ∧ b < w.heap.size ∧ ss.length = ts.length ∧ (∀ v ∈ snC ss ts, v.oneCell' = true) ∧ ∀ j v, (snC ss ts)[j]? = some v → w.cell? (Addr.add ⟨b, off, none⟩ j) = some v := by
  obtain ⟨b, off, tq0, tc0, e, hn0, _⟩ := h 0 hp
  have key : ∀ (l : List Snp) (o : Nat), (∀ i (hi : i < l.length), ∃ tq tc, w.cell? ⟨b, o + i * 2, none⟩ = some (.string l[i].name) ∧ w.cell? ⟨b, o + i * 2 + 1, none⟩ = some (.slice tq l[i].table.length tc)) → ∃ ts, l.length = ts.length ∧ (∀ v ∈ snC l ts, v.oneCell' = true) ∧ ∀ j v, (snC l ts)[j]? = some v → w.cell? ⟨b, o + j, none⟩ = some v := by
    intro l
    induction l with
    | nil => intro o _; exact ⟨[], rfl, fun v hv => (by cases hv), fun j v hv => (by simp [snC] at hv)⟩
    | cons s l ih =>
      intro o hh
      obtain ⟨tq, tc, h0, h1⟩ := hh 0 (by simp)
      obtain ⟨ts, e1, e2, e3⟩ := ih (o + 2) (fun i hi => by
        obtain ⟨tq, tc, k0, k1⟩ := hh (i + 1) (by simp; omega)
        refine ⟨tq, tc, ?_, ?_⟩
        · rw [show o + 2 + i * 2 = o + (i + 1) * 2 by omega]; exact k0
        · rw [show o + 2 + i * 2 + 1 = o + (i + 1) * 2 + 1 by omega]; exact k1)
      refine ⟨.slice tq s.table.length tc :: ts, by simp [e1], fun v hv => ?_, fun j v hv => ?_⟩
      · simp only [snC, List.mem_cons] at hv
        rcases hv with rfl | rfl | hv
        · rfl
        · rfl
        · exact e2 v hv
      · match j, hv with
        | 0, hv => cases hv; exact h0
        | 1, hv => cases hv; exact h1
        | j + 2, hv =>
          have := e3 j v (by simpa [snC] using hv)
          rw [show o + (j + 2) = o + 2 + j by omega]; exact this
  obtain ⟨ts, e1, e2, e3⟩ := key ss off (fun i hi => by
    obtain ⟨b2, off2, tq, tc, e', k0, k1, _⟩ := h i hi
    rw [e] at e'
    simp only [Option.some.injEq, Addr.mk.injEq, and_true] at e'
    obtain ⟨rfl, rfl⟩ := e'
    exact ⟨tq, tc, k0, k1⟩)
  refine ⟨b, off, ts, e, World.block_lt_of_cell? _ _ hn0, e1, e2, fun j v hv => ?_⟩
  rw [show Addr.add ⟨b, off, none⟩ j = ⟨b, off + j, none⟩ from by unfold Addr.add; split <;> simp_all]
  exact e3 j v hv
theorem infoSnK : (Tryz.prog.info? 66).map (fun i => (i.zero, i.size, i.bytes)) = some (some (.agg #[.string ⟨#[]⟩, .slice none 0 0]), 2, 40) := by kernel_rfl
theorem sizeSnK : (Tryz.prog.info? 66).map (·.size) = some 2 := by kernel_rfl
/-- A row of snapshots of the call's own; of its tables nothing is said. -/
def SnO (w : World) (B : Nat) (v : Value) (ss : List Snp) : Prop := ∃ qo qa ts, v = .slice qo ss.length qa ∧ ss.length = ts.length ∧ OwnR w B 66 2 (.slice qo ss.length qa) ss.length (snC ss ts)
theorem SnO.below {w w' : World} {B : Nat} {v : Value} {ss : List Snp} (h : SnO w B v ss) (hb : Below w.heap.size w w') : SnO w' B v ss := by
  obtain ⟨qo, qa, ts, e, l, o⟩ := h
  exact ⟨qo, qa, ts, e, l, o.below hb⟩
theorem SnO.base {w : World} {B B' : Nat} {v : Value} {ss : List Snp} (h : SnO w B v ss) (hB : B' ≤ B) : SnO w B' v ss := by
  obtain ⟨qo, qa, ts, e, l, o⟩ := h
  exact ⟨qo, qa, ts, e, l, o.base hB⟩

set_option maxHeartbeats 1600000 in
theorem copySn_any (so : Option Addr) (sc : Nat) (ss : List Snp) (w : World) (hl : ss.length ≤ 1048576) (hc : Sns w so ss) :
    Calls Tryz.prog 85 #[.slice so ss.length sc] w fun e w' => ∃ v, e = .returned v ∧ SnO w' w.heap.size v ss ∧ Below w.heap.size w w' := by
  by_cases h0 : ss.length = 0
  · have hb : ((ss.length : Int) == 0) = true := by simp [h0]
    have HE := hide (List.eq_nil_of_length_eq_zero h0)
    clear h0 hc
    go_enter Tryz.func85, Tryz.ntmps85
    go_wp2
    go_ret
    exact ⟨_, rfl, ⟨none, 0, [], by rw [unhide HE]; rfl, by rw [unhide HE]; rfl, by rw [unhide HE]; exact .inl ⟨rfl, rfl, _, rfl⟩⟩, Below.refl _ _⟩
  · have hb : ((ss.length : Int) == 0) = false := beq_eq_false_iff_ne.2 (by omega)
    obtain ⟨b, off, ts, rfl, hbl, hlt, h1c, hcs⟩ := hc.cellsOf (by omega)
    have HCS := hide hcs
    have HP := hide h0
    have HLT := hide hlt
    have H1C := hide h1c
    have HCL := hide (snC_length ss ts hlt)
    clear hc hcs h0 h1c hlt
    generalize hcsE : snC ss ts = cs at *
    have HCE := hide hcsE
    clear hcsE
    obtain ⟨i0, hi, hz0, hz1, hz2⟩ := info_parts infoSnK
    go_enter Tryz.func85, Tryz.ntmps85
    go_wp2_with (first | (at_make; refine wpList_make_full _ rfl _ _ 30 rfl w.heap.size 66 i0 _ 2 Tryz.underlying30 hi hz0 hz1 _ _ _ _ ss.length rfl rfl rfl rfl ?c1 ?c2 ?c3 ?_))
    case c1 => rw [hz2]; omega
    case c2 => unfold maxLen; omega
    case c3 => exact Nat.le_refl _
    intro w1 hown hgrow
    have hB : Below w.heap.size w w1 := (Below.refl _ _).grown hgrow (Nat.le_refl _) (fun _ h => by cases h)
    have HO := hide hown
    have HB := hide hB
    have HC1 : Hid (∀ j v, cs[j]? = some v → w1.cell? (Addr.add ⟨b, off, none⟩ j) = some v) := hide (fun j v hv => ((unhide HB).cell (by unfold Addr.add; split <;> exact hbl)).trans (unhide HCS j v hv))
    clear hown hgrow hB
    go_wp2_with (refine wpList_copy_whole rfl _ _ 30 30 rfl 66 2 Tryz.underlying30 sizeSnK w.heap.size w.heap.size ss.length ⟨b, off, none⟩ _ rfl rfl _ (unhide HO) cs (unhide HCL) (unhide HC1) (unhide H1C) ?_; intro w2 ho2 hg2)
    have HB2 := hide ((unhide HB).grown hg2 (unhide HB).size (fun k h => by cases h; exact Nat.le_refl _))
    have HO2 := hide ho2
    clear ho2 hg2
    go_ret
    exact ⟨_, rfl, ⟨_, _, ts, rfl, unhide HLT, by rw [unhide HCE]; exact OwnR.of (unhide HO2) (fun h => absurd h (unhide HP))⟩, unhide HB2⟩

end Go.Proofs.YtkaiglhljpehpacGreat
