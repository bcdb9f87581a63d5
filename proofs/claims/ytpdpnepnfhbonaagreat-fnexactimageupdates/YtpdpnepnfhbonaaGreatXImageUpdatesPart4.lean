import Derived.Test.YtpdpnepnfhbonaaGreatRows
import Derived.Test.YtpdpnepnfhbonaaGreatXImageUpdatesPart1
import Derived.Test.YtpdpnepnfhbonaaGreatXImageUpdatesPart3
import Derived.Test.YtpdpnepnfhbonaaGreatXImageUpdatesPart2
import Derived.WalkKit
import Derived.WalkSpells
import Derived.LoopN
import Derived.BigQuiet
import Derived.Deep.QuietTactic
import Derived.Deep.RegionWith
import Derived.Deep.RegionHeld3
import Derived.KernelRfl
import Derived.Deep.CutRange
import Derived.Orders
import Derived.Still
import Derived.Deep.Quiet
import Derived.ProofKit
import Derived.OpenShut
import Derived.ShutString
import Derived.SliceStrings
import Derived.Lib.SmallJoins
import Derived.Laws.CopyRow
import Derived.Laws.CopyOwn
import Derived.Outline
import Derived.Deep.RegionLawGrows
import Derived.Deep.AppendLies
import Derived.OwnWalk

namespace Go.Proofs.YtpdpnepnfhbonaaGreat
open Go.RowKit
set_option linter.unusedVariables false
set_option maxRecDepth 100000

theorem fm_parts {m : Img} (h : imFm m = true) : ctB m.refs = true ∧ m.snaps.length ≤ 3 ∧ m.data.length = 24 ∧ (∀ t ∈ imTabs m, tbB t = true) := by
  simp only [imFm, Bool.and_eq_true, decide_eq_true_eq, List.all_eq_true] at h
  obtain ⟨⟨⟨⟨⟨⟨h1, h2⟩, h3⟩, h4⟩, h5⟩, h6⟩, h7⟩ := h
  refine ⟨h1, h3, h4, fun t ht => ?_⟩
  unfold imTabs at ht
  rw [List.mem_cons, List.mem_map] at ht
  rcases ht with rfl | ⟨s, hs, rfl⟩
  · exact h2
  · exact (h5 s hs).2
theorem im_fm {m : Img} (h : imFm m = false) : imB m = false := by simp [imB, h]
theorem im_once {m : Img} {t : List Int} (ht : t ∈ imTabs m) (h : onceB t = false) : imB m = false := by
  have e : (imTabs m).all onceB = false := by
    cases hh : (imTabs m).all onceB with
    | false => rfl
    | true => rw [List.all_eq_true] at hh; rw [hh t ht] at h; cases h
  simp only [imB, e, Bool.and_false, Bool.false_and]
theorem im_cnt {m : Img} {i : Nat} (h1 : i < (imCnt m).length) (h2 : i < m.refs.length) (h : (imCnt m)[i] ≠ m.refs[i]) : imB m = false := by
  have e : decide (imCnt m = m.refs) = false := decide_eq_false (fun e => h (by simp only [e]))
  simp only [imB, e, Bool.and_false, Bool.false_and]
theorem im_clear {m : Img} {i : Nat} (hi : i < 24) (h1 : i < m.refs.length) (h2 : i < m.data.length) (hr : m.refs[i] = 0) (hd : m.data[i] ≠ 0) : imB m = false := by
  have e : clearB m = false := by
    unfold clearB
    cases hh : (List.range 24).all _ with
    | false => rfl
    | true =>
      rw [List.all_eq_true] at hh
      have := hh i (List.mem_range.2 hi)
      simp only [List.getD, List.getElem?_eq_getElem h1, List.getElem?_eq_getElem h2, Option.getD_some, decide_eq_true_eq] at this
      exact absurd (this hr) hd
  simp only [imB, e, Bool.and_false]
theorem im_yes {m : Img} (hf : imFm m = true) (h1 : ∀ t ∈ imTabs m, onceB t = true) (h2 : ∀ i (ha : i < (imCnt m).length) (hb : i < m.refs.length), (imCnt m)[i] = m.refs[i]) (h3 : ∀ i, i < 24 → m.refs.getD i 0 = 0 → m.data.getD i 0 = 0) : imB m = true := by
  have hl := ctB_len (fm_parts hf).1
  have e2 : imCnt m = m.refs := List.ext_getElem (by rw [imCnt_len, hl]) h2
  have e1 : (imTabs m).all onceB = true := List.all_eq_true.2 h1
  have e3 : clearB m = true := by
    unfold clearB
    rw [List.all_eq_true]
    intro i hi
    exact decide_eq_true (h3 i (List.mem_range.1 hi))
  simp only [imB, hf, e1, e2, e3, decide_true, Bool.and_true]

set_option maxHeartbeats 3200000 in
theorem imageOK_spec (a : Im4) (m : Img) (w : World) (hL : ImL m) (hc : ImS w a m) :
    Calls Tryz.prog 27 #[imV a m] w fun e w' => e = .returned (.bool (imB m)) ∧ Below w.heap.size w w' := by
  have HA := hide (Joins.below_alloc1 w (.cells #[.slice a.ro m.refs.length a.rc, .slice a.tq m.table.length a.tc, .slice a.so m.snaps.length a.sc, .slice a.dq m.data.length a.dc] 32))
  have HV := hide (VarM.new w 32 (.slice a.ro m.refs.length a.rc) (.slice a.tq m.table.length a.tc) (.slice a.so m.snaps.length a.sc) (.slice a.dq m.data.length a.dc))
  have HC := hide (hc.below (unhide HA))
  have HL := hide hL
  clear hc hL
  cases hfm : imFm m
  · have HF := hide (im_fm hfm)
    go_enter Tryz.func27, Tryz.ntmps27
    go_upto_region 1 with fail
    revert HA HV HC
    generalize (w.alloc _) = W0
    intro HA HV HC
    obtain ⟨c0, c1, c2, c3⟩ := (unhide HV).cells
    go_wp2_with fail
    refine (l10Form_any a m _ (unhide HL) (unhide HC)).mono ?_
    rintro e w1 ⟨rfl, hb⟩
    rw [hfm]
    have HB := hide (fr (unhide HA) hb)
    clear hb c0 c1 c2 c3
    go_wp2
    go_ret
    exact ⟨ret_bool (unhide HF).symm, unhide HB⟩
  obtain ⟨p1, p2, p3, p4⟩ := fm_parts hfm
  have HFM := hide hfm
  have HR24 := hide (ctB_len p1)
  have HD24 := hide p3
  have HTB := hide p4
  have hs3 : m.snaps.length ≤ 3 := p2
  clear p1 p2 p3 p4 hfm
  go_enter Tryz.func27, Tryz.ntmps27
  go_upto_region 1 with fail
  revert HA HV HC
  generalize (w.alloc _) = W0
  intro HA HV HC
  obtain ⟨c0, c1, c2, c3⟩ := (unhide HV).cells
  go_wp2_with fail
  refine (l10Form_any a m _ (unhide HL) (unhide HC)).mono ?_
  rintro e w1 ⟨rfl, hb⟩
  rw [unhide HFM]
  have HB1 := hide (fr (unhide HA) hb)
  have HC1 := hide ((unhide HC).below hb)
  have HV1 := hide ((unhide HV).below hb)
  clear hb c0 c1 c2 c3 HA HV HC
  obtain ⟨c0, c1, c2, c3⟩ := (unhide HV1).cells
  go_wp2_with fail
  refine (l10Twice_any a.tq a.tc m.table _ (unhide HTB _ (by simp [imTabs])) (unhide HC1).t).mono ?_
  rintro e w2 ⟨rfl, hb⟩
  have HB2 := hide (fr (unhide HB1) hb)
  have HC2 := hide ((unhide HC1).below hb)
  have HV2 := hide ((unhide HV1).below hb)
  clear hb c0 c1 c2 c3 HB1 HC1 HV1
  cases hon : onceB m.table
  · have HF := hide (im_once (m := m) (t := m.table) (by simp [imTabs]) hon)
    go_wp2
    go_ret
    exact ⟨ret_bool (unhide HF).symm, unhide HB2⟩
  have HON := hide hon
  clear hon
  obtain ⟨c0, c1, c2, c3⟩ := (unhide HV2).cells
  go_wp2
  clear c0 c1 c2 c3
  go_loopw [3] (fun i wr => ∃ k : Nat, k ≤ m.snaps.length ∧ i = .int .i64 k ∧ Hid (∀ j (hj : j < m.snaps.length), j < k → onceB m.snaps[j].table = true) ∧ Hid (Below w2.heap.size w2 wr)) (fun i _ => m.snaps.length - (intOf i).toNat)
  case atStart => exact ⟨0, Nat.zero_le _, rfl, hide (fun j _ h => by omega), hide (Below.refl _ _)⟩
  case round =>
    obtain ⟨i, hi, rfl, HS, HB⟩ := hrel
    obtain ⟨c0, c1, c2, c3⟩ := ((unhide HV2).below (unhide HB)).cells
    by_cases hlt : i < m.snaps.length
    · obtain ⟨b, off, tq, tc, eb, hn0, ht0, hIs, hz, htl⟩ := ((unhide HC2).s.below (unhide HB)) i hlt
      rw [eb] at c2
      clear eb
      have hlti : (i : Int) < (m.snaps.length : Int) := by omega
      have HIS := hide hIs
      have HMT : Hid (m.snaps[i].table ∈ imTabs m) := hide (by unfold imTabs; exact List.mem_cons_of_mem _ (List.mem_map.2 ⟨_, List.getElem_mem hlt, rfl⟩))
      clear hIs hz htl
      go_wp2_with fail
      refine (l10Twice_any tq tc m.snaps[i].table _ (unhide HTB _ (unhide HMT)) (unhide HIS)).mono ?_
      rintro e w3 ⟨rfl, hb⟩
      have HB3 := hide (fr (unhide HB) hb)
      clear hb c0 c1 c2 c3 hn0 ht0
      cases hon : onceB m.snaps[i].table
      · have HF := hide (im_once (unhide HMT) hon)
        go_wp2
        go_ret
        exact ⟨ret_bool (unhide HF).symm, fr (unhide HB2) (unhide HB3)⟩
      · have HS' := hide (all_succ (p := fun s : Snp => onceB s.table) hlt (unhide HS) hon)
        go_wp2
        go_roundw
        case rel => exact ⟨i + 1, by omega, by go_num, HS', HB3⟩
        case measure => simp [intOf]; omega
    · have HALL : Hid (∀ t ∈ imTabs m, onceB t = true) := hide (fun t ht => by
        unfold imTabs at ht
        rw [List.mem_cons, List.mem_map] at ht
        rcases ht with rfl | ⟨s, hs, rfl⟩
        · exact unhide HON
        · obtain ⟨j, hj, rfl⟩ := List.mem_iff_getElem.1 hs
          exact unhide HS j hj (by omega))
      have HCr := hide ((unhide HC2).below (unhide HB))
      go_wp2_with fail
      refine (l10Count_any a m _ hs3 (unhide HTB) (unhide HCr)).mono ?_
      rintro e w3 ⟨v, rfl, ⟨no, na, rfl, ho⟩, hb⟩
      have HLN := hide (imCnt_len m)
      have HI3 := hide (ownRN ho)
      have HB3 := hide (fr (unhide HB) hb)
      have HYES := hide (fun h2 h3 => im_yes (m := m) (unhide HFM) (unhide HALL) h2 h3)
      have HCNT := hide (fun (i : Nat) (h1 : i < (imCnt m).length) (h2 : i < m.refs.length) (h : (imCnt m)[i] ≠ m.refs[i]) => im_cnt h1 h2 h)
      clear ho hb c0 c1 c2 c3 HB
      generalize imCnt m = L at *
      go_wp2
      go_loopw [5] (fun i wq => ∃ k : Nat, k ≤ 24 ∧ i = .int .i64 k ∧ Hid (∀ j (h1 : j < L.length) (h2 : j < m.refs.length), j < k → L[j] = m.refs[j]) ∧ Hid (∀ j, j < k → m.refs.getD j 0 = 0 → m.data.getD j 0 = 0) ∧ Hid (Below w3.heap.size w3 wq)) (fun i _ => 24 - (intOf i).toNat)
      case atStart => exact ⟨0, by omega, rfl, hide (fun j _ _ h => by omega), hide (fun j h => by omega), hide (Below.refl _ _)⟩
      case round =>
        obtain ⟨k, hk, rfl, HE, HZ, HB⟩ := hrel
        by_cases hlt : k < 24
        · have hlti : (k : Int) < 24 := by omega
          have kl : k < L.length := by rw [unhide HLN]; exact hlt
          have kr : k < m.refs.length := by rw [unhide HR24]; exact hlt
          have kd : k < m.data.length := by rw [unhide HD24]; exact hlt
          have kli : (k : Int) < (L.length : Int) := by omega
          have kri : (k : Int) < (m.refs.length : Int) := by omega
          have kdi : (k : Int) < (m.data.length : Int) := by omega
          obtain ⟨c0, c1, c2, c3⟩ := ((unhide HV2).below (fr (unhide HB3) (unhide HB))).cells
          obtain ⟨b1, o1, e1, hx1⟩ := ((unhide HI3).below (unhide HB)) k kl
          obtain ⟨b2, o2, e2, hx2⟩ := ((unhide HC2).r.below (fr (unhide HB3) (unhide HB))) k kr
          obtain ⟨b3, o3, e3, hx3⟩ := ((unhide HC2).d.below (fr (unhide HB3) (unhide HB))) k kd
          subst e1
          rw [e2] at c0
          rw [e3] at c3
          clear e2 e3 c1 c2
          have HER : Hid (L[k] = m.refs[k] → ∀ j (h1 : j < L.length) (h2 : j < m.refs.length), j < k + 1 → L[j] = m.refs[j]) := hide (fun h => eq_succ kl kr (unhide HE) h)
          have HZR : Hid ((m.refs[k] = 0 → m.data[k] = 0) → ∀ j, j < k + 1 → m.refs.getD j 0 = 0 → m.data.getD j 0 = 0) := hide (fun h j hj => by
            by_cases e : j = k
            · subst e; simpa [List.getD, kr, kd] using h
            · exact unhide HZ j (by omega))
          have HF1 := hide (unhide HCNT k kl kr)
          have HF2 : Hid (m.refs[k] = 0 → m.data[k] ≠ 0 → imB m = false) := hide (fun h1 h2 => im_clear hlt kr kd h1 h2)
          generalize L[k] = X at *
          generalize m.refs[k] = R at *
          generalize m.data[k] = D at *
          by_cases hne : X = R
          · by_cases hz : X = 0
            · by_cases hd : D = 0
              · have HE' := hide (unhide HER hne)
                have HZ' := hide (unhide HZR (fun _ => hd))
                have b1' : (X != R) = false := by simp [hne]
                have b2' : (X == 0) = true := by simp [hz]
                have b3' : (D != 0) = false := by simp [hd]
                clear hne hz hd
                go_wp2
                go_quiet (fail)
                go_wp2
                go_roundw
                case rel => exact ⟨k + 1, by omega, by go_num, HE', HZ', hide ((unhide HB).trans (Joins.below_draws _ _ _))⟩
                case measure => simp [intOf]; omega
              · have HF := hide (unhide HF2 (hne ▸ hz) hd)
                have b1' : (X != R) = false := by simp [hne]
                have b2' : (X == 0) = true := by simp [hz]
                have b3' : (D != 0) = true := by simp [hd]
                clear hne hz hd
                go_wp2
                go_quiet (fail)
                go_wp2
                go_ret
                exact ⟨ret_bool (unhide HF).symm, fr (unhide HB2) (fr (unhide HB3) ((unhide HB).trans (Joins.below_draws _ _ _)))⟩
            · have HE' := hide (unhide HER hne)
              have HZ' := hide (unhide HZR (fun h => absurd (hne.trans h) hz))
              have b1' : (X != R) = false := by simp [hne]
              have b2' : (X == 0) = false := by simp [hz]
              clear hne hz
              go_wp2
              go_quiet (fail)
              go_wp2
              go_roundw
              case rel => exact ⟨k + 1, by omega, by go_num, HE', HZ', hide ((unhide HB).trans (Joins.below_draws _ _ _))⟩
              case measure => simp [intOf]; omega
          · have HF := hide (unhide HF1 hne)
            have b1' : (X != R) = true := by simp [hne]
            clear hne
            go_wp2
            go_quiet (fail)
            go_wp2
            go_ret
            exact ⟨ret_bool (unhide HF).symm, fr (unhide HB2) (fr (unhide HB3) ((unhide HB).trans (Joins.below_draws _ _ _)))⟩
        · have HF := hide (unhide HYES (fun i h1 h2 => unhide HE i h1 h2 (by have := unhide HLN; omega)) (fun i h => unhide HZ i (by omega)))
          go_wp2
          go_ret
          exact ⟨ret_bool (unhide HF).symm, fr (unhide HB2) (fr (unhide HB3) (unhide HB))⟩

end Go.Proofs.YtpdpnepnfhbonaaGreat

namespace Go.Proofs.YtpdpnepnfhbonaaGreat
open Go.RowKit
set_option linter.unusedVariables false
set_option maxRecDepth 100000

theorem OwnIm.shows {w : World} {B : Nat} {a : Im4} {m : Img} {ts : List Value} (h : OwnIm w B a m ts) (hz : ∀ s ∈ m.snaps, s.name.size ≤ maxLen ∧ s.table.length ≤ maxLen) : ImS w a m := by
  refine ⟨ownRN (h.rows.own (.slice a.ro m.refs.length a.rc, m.refs) (by simp [imRows])).row, ownRN (h.rows.own (.slice a.tq m.table.length a.tc, m.table) (by simp [imRows])).row, fun i hi => ?_, ownRN (h.rows.own (.slice a.dq m.data.length a.dc, m.data) (by simp [imRows])).row⟩
  have hp : 0 < m.snaps.length := by omega
  have hit : i < ts.length := by rw [← h.len]; exact hi
  have hs := h.s.row hp
  obtain ⟨g, cap, cur, e, _, _⟩ := own_form hp hs
  rw [e] at hs
  simp only [Value.slice.injEq, true_and] at e
  obtain ⟨e1, e2⟩ := e
  have hgs := snC_get (List.getElem?_eq_getElem hi) (List.getElem?_eq_getElem hit)
  have hm : (ts[i], m.snaps[i].table) ∈ imRows a m ts := by
    have : (ts.zip (m.snaps.map (·.table)))[i]? = some (ts[i], m.snaps[i].table) := by
      rw [List.getElem?_zip_eq_some]
      exact ⟨List.getElem?_eq_getElem hit, by simp [hi]⟩
    simp [imRows, List.mem_of_getElem? this]
  obtain ⟨tq, tc, et, ho⟩ := h.rows.own _ hm
  simp only at et ho
  refine ⟨g, 0, tq, tc, e1, ?_, ?_, ownRN ho, (hz _ (List.getElem_mem hi)).1, (hz _ (List.getElem_mem hi)).2⟩
  · rw [Nat.zero_add]; exact (hs.cellAt (i * 2) (by omega)).trans hgs.1
  · rw [Nat.zero_add]; exact (hs.cellAt (i * 2 + 1) (by omega)).trans (by rw [hgs.2, et])

end Go.Proofs.YtpdpnepnfhbonaaGreat

namespace Go.Proofs.YtpdpnepnfhbonaaGreat
open Go.RowKit
set_option linter.unusedVariables false
set_option maxRecDepth 100000

end Go.Proofs.YtpdpnepnfhbonaaGreat

namespace Go.Proofs.YtpdpnepnfhbonaaGreat
open Go.RowKit
set_option linter.unusedVariables false

section
variable {P : Program}
def linB (l : List Oper) : Bool := (List.range l.length).all fun i => ((l[i]?).map fun o => o.after.all fun e => decide (e.on < i)).getD true
theorem linB_spec {l : List Oper} (h : linB l = true) {i : Nat} {o : Oper} (hi : l[i]? = some o) {e : Edge} (he : e ∈ o.after) : e.on < i := by
  have hl := (List.getElem?_eq_some_iff.1 hi).1
  have := List.all_eq_true.1 h i (List.mem_range.2 hl)
  rw [hi] at this
  simp only [Option.map_some, Option.getD_some] at this
  have := Array.all_eq_true_iff_forall_mem.1 this e he
  exact of_decide_eq_true this

def noG (l : List Oper) : Bool := l.all fun o => o.guard.isNone
theorem noG_spec {l : List Oper} (h : noG l = true) (i : Nat) (o : Oper) (hi : l[i]? = some o) : o.guard = none := by
  have := List.all_eq_true.1 h o (List.mem_of_getElem? hi)
  simpa using this
def updD (d : Nat → Bool) (i : Nat) : Nat → Bool := fun j => d j || decide (j = i)

theorem wp_region_inv {id : Nat} {Q : Exit → Act → World → Prop} {a : Act} {w : World} {l : List Oper} (I : (Nat → Bool) → Act → World → Prop) (hm : P.follows .mixedOrders = true) (hl : linB l = true)
    (hg : ∀ (i : Nat) (o : Oper), l[i]? = some o → o.guard = none)
    (h0 : I (fun _ => false) a { w with drawn := w.drawn + 1 })
    (hs : ∀ (d : Nat → Bool) (a : Act) (w : World) (i : Nat) (o : Oper), I d a w → l[i]? = some o → d i = false → (∀ e ∈ o.after, Region.binds .any e = true → d e.on = true) → ∀ K : Act → World → Prop, (∀ a' w', I (updD d i) a' w' → K a' w') → o.wp P a w K Q)
    (he : ∀ (d : Nat → Bool) (a : Act) (w : World), I d a w → (∀ i, i < l.length → d i = true) → Q .normal a w) : (Code.region id l.toArray true).wp P Q a w := by
  refine wp_region_any hm ?_
  have key : ∀ (fuel : Nat) (listed : Array Bool) (a : Act) (w : World), listed.size = l.length → ((List.range l.length).filter fun i => !listed.getD i true).length ≤ fuel → I (fun j => listed.getD j true && decide (j < l.length)) a w → wpAny P .any l.toArray Q fuel listed a w := by
    intro fuel
    induction fuel with
    | zero =>
      intro listed a w hsz hn hI
      have hall : ∀ i, i < l.length → listed.getD i true = true := fun i hi => by
        cases h : listed.getD i true with
        | true => rfl
        | false =>
          have : i ∈ (List.range l.length).filter fun i => !listed.getD i true := List.mem_filter.2 ⟨List.mem_range.2 hi, by rw [h]; rfl⟩
          have := List.length_pos_of_mem this
          omega
      refine ⟨?_, he _ _ _ hI (fun i hi => by rw [hall i hi]; simp [hi])⟩
      rw [List.eq_nil_iff_forall_not_mem]
      intro i hi
      obtain ⟨h1, o, ho, _⟩ := mem_ready.1 hi
      have hil : i < l.length := by have := (Array.getElem?_eq_some_iff.1 ho).1; simpa using this
      rw [hall i hil] at h1
      cases h1
    | succ fuel ih =>
      intro listed a w hsz hn hI
      refine ⟨fun hr => he _ _ _ hI ?_, fun i hi => ?_⟩
      · have : ∀ n, ∀ i, i < n → i < l.length → listed.getD i true = true := by
          intro n
          induction n with
          | zero => intro i hi; omega
          | succ n ihn =>
            intro i hi hil
            by_cases hin : i < n
            · exact ihn i hin hil
            obtain rfl : i = n := by omega
            cases h : listed.getD i true with
            | true => rfl
            | false =>
              have hm' : i ∈ Region.ready .any l.toArray listed := mem_ready.2 ⟨h, l[i], by simp [hil], fun e he hb => by
                have hlt := linB_spec hl (List.getElem?_eq_getElem hil) he
                have h1 := ihn e.on hlt (by omega)
                have hz : e.on < listed.size := by omega
                rw [Array.getD_eq_getD_getElem?, Array.getElem?_eq_getElem hz] at h1 ⊢
                simpa only [Option.getD_some] using h1⟩
              rw [hr] at hm'
              cases hm'
        intro i hil
        rw [this (i + 1) i (by omega) hil]
        simp [hil]
      · obtain ⟨h1, o, ho, hp⟩ := mem_ready.1 hi
        have hil : i < l.length := by have := (Array.getElem?_eq_some_iff.1 ho).1; simpa using this
        have hoL : l[i]? = some o := by simpa using ho
        unfold wpOp
        simp only [ho]
        have hw : Region.wanted o (yielded l.toArray a.tmps) = true := by simp [Region.wanted, hg i o hoL]
        rw [if_pos hw]
        refine .inl (hs _ a w i o hI hoL (by rw [h1]; rfl) (fun e he hb => ?_) _ (fun a' w' hI' => ?_))
        · have h2 := hp e he hb
          have hlt := linB_spec hl hoL he
          have : e.on < listed.size := by omega
          rw [Array.getD_eq_getD_getElem?, Array.getElem?_eq_getElem this] at h2 ⊢
          simp only [Option.getD_some] at h2 ⊢
          rw [h2]
          simp
          omega
        · refine ih _ a' w' (by simpa using hsz) ?_ ?_
          · have hlt : ((List.range l.length).filter fun j => !(listed.setIfInBounds i true).getD j true).length < ((List.range l.length).filter fun j => !listed.getD j true).length := by
              have hsub : ((List.range l.length).filter fun j => !(listed.setIfInBounds i true).getD j true) = ((List.range l.length).filter fun j => !listed.getD j true).filter fun j => decide (j ≠ i) := by
                rw [List.filter_filter]
                congr 1
                funext j
                by_cases hji : j = i
                · subst hji
                  simp [Array.getD_eq_getD_getElem?, hsz, hil]
                · have : i ≠ j := fun e => hji e.symm
                  simp [Array.getD_eq_getD_getElem?, this, hji]
              rw [hsub]
              refine Nat.lt_of_le_of_ne (List.length_filter_le _ _) (fun e => ?_)
              have := List.length_filter_eq_length_iff.1 e i (List.mem_filter.2 ⟨List.mem_range.2 hil, by rw [h1]; rfl⟩)
              simp at this
            omega
          · have e : (fun j => (listed.setIfInBounds i true).getD j true && decide (j < l.length)) = updD (fun j => listed.getD j true && decide (j < l.length)) i := by
              funext j
              unfold updD
              by_cases hji : j = i
              · subst hji
                simp [Array.getD_eq_getD_getElem?, hsz, hil]
              · have : i ≠ j := fun e => hji e.symm
                simp [Array.getD_eq_getD_getElem?, this, hji]
            rw [e]
            exact hI'
  refine key _ _ _ _ (by simp) ?_ ?_
  · refine Nat.le_trans (List.length_filter_le _ _) ?_
    simp
  · have e : (fun j => (Array.replicate l.toArray.size false).getD j true && decide (j < l.length)) = fun _ => false := by
      funext j
      by_cases hj : j < l.length
      · simp [Array.getD_eq_getD_getElem?, hj]
      · simp [hj]
    rw [e]
    exact h0
def Closed (l : List Oper) (d : Nat → Bool) : Prop := ∀ (j : Nat) (o : Oper), l[j]? = some o → d j = true → ∀ e ∈ o.after, Region.binds .any e = true → d e.on = true
theorem wp_region_inv2 {id : Nat} {Q : Exit → Act → World → Prop} {a : Act} {w : World} {l : List Oper} (I : (Nat → Bool) → Act → World → Prop) (hm : P.follows .mixedOrders = true) (hl : linB l = true)
    (hg : ∀ (i : Nat) (o : Oper), l[i]? = some o → o.guard = none)
    (h0 : I (fun _ => false) a { w with drawn := w.drawn + 1 })
    (hs : ∀ (d : Nat → Bool) (a : Act) (w : World) (i : Nat) (o : Oper), Closed l d → I d a w → l[i]? = some o → d i = false → (∀ e ∈ o.after, Region.binds .any e = true → d e.on = true) → ∀ K : Act → World → Prop, (∀ a' w', I (updD d i) a' w' → K a' w') → o.wp P a w K Q)
    (he : ∀ (d : Nat → Bool) (a : Act) (w : World), I d a w → (∀ i, i < l.length → d i = true) → Q .normal a w) : (Code.region id l.toArray true).wp P Q a w := by
  refine wp_region_inv (fun d a w => Closed l d ∧ I d a w) hm hl hg ⟨fun j o _ h => (by cases h), h0⟩ (fun d a w i o hI ho hd hp K hK => ?_) (fun d a w hI hall => he d a w hI.2 hall)
  refine hs d a w i o hI.1 hI.2 ho hd hp K (fun a' w' hI' => hK a' w' ⟨fun j oj hj hd' e he' hb => ?_, hI'⟩)
  simp only [updD, Bool.or_eq_true, decide_eq_true_eq] at hd' ⊢
  rcases hd' with hd' | rfl
  · exact .inl (hI.1 j oj hj hd' e he' hb)
  · rw [ho] at hj
    cases hj
    exact .inl (hp e he' hb)
end

end Go.Proofs.YtpdpnepnfhbonaaGreat

namespace Go.Proofs.YtpdpnepnfhbonaaGreat
open Go.RowKit
set_option linter.unusedVariables false
set_option maxRecDepth 100000

theorem upd_ne {d : Nat → Bool} {i k : Nat} (hk : k ≠ i) (h : updD d i k = true) : d k = true := by
  simp only [updD, Bool.or_eq_true, decide_eq_true_eq] at h
  exact h.resolve_right hk
end Go.Proofs.YtpdpnepnfhbonaaGreat

namespace Go.Proofs.YtpdpnepnfhbonaaGreat
open Go.RowKit
set_option linter.unusedVariables false
set_option maxRecDepth 100000

end Go.Proofs.YtpdpnepnfhbonaaGreat

namespace Go.Proofs.YtpdpnepnfhbonaaGreat
open Go.RowKit
set_option linter.unusedVariables false
set_option maxRecDepth 100000

end Go.Proofs.YtpdpnepnfhbonaaGreat

namespace Go.Proofs.YtpdpnepnfhbonaaGreat
open Go.RowKit
set_option linter.unusedVariables false
set_option maxRecDepth 100000

end Go.Proofs.YtpdpnepnfhbonaaGreat

namespace Go.Proofs.YtpdpnepnfhbonaaGreat
open Go.RowKit
set_option linter.unusedVariables false
set_option maxRecDepth 100000

structure ImBd (m : Img) : Prop where
  r : m.refs.length ≤ 1048576
  t : m.table.length ≤ 1048576
  s : m.snaps.length ≤ 1048576
  d : m.data.length ≤ 1048576
  st : ∀ s ∈ m.snaps, s.table.length ≤ 1048576 ∧ s.name.size ≤ 1048576
  k : snK m.snaps ≤ 4194304
theorem snK_sz (ss : List Snp) : snK ss ≤ ss.length + snSz ss := by
  induction ss with
  | nil => exact Nat.le_refl _
  | cons s ss ih =>
    simp only [snK, snSz, List.map_cons, List.sum_cons, List.length_cons] at ih ⊢
    have e : sn1 s = s.name.size + s.table.length := rfl
    omega
theorem ImBd.of {m : Img} (h : imSz m ≤ 1048576) : ImBd m := by
  unfold imSz at h
  refine ⟨by omega, by omega, by omega, by omega, fun s hs => ?_, ?_⟩
  · obtain ⟨i, hi, rfl⟩ := List.mem_iff_getElem.1 hs
    have := sn_le hi
    unfold sn1 at this
    omega
  · have := snK_sz m.snaps
    omega
structure LwV (W : World) (p n : Nat) (a : Im4) (m : Img) (ts : List Value) : Prop where
  v : VarM W p 32 (.slice a.ro m.refs.length a.rc) (.slice a.tq m.table.length a.tc) (.slice a.so m.snaps.length a.sc) (.slice a.dq m.data.length a.dc)
  o : OwnIm W n a m ts
  n : n ≤ W.heap.size
theorem LwV.new (W : World) (a : Im4) (m : Img) {n : Nat} {ts : List Value} (h : OwnIm W n a m ts) (hn : n ≤ W.heap.size) : LwV (W.alloc (.cells #[.slice a.ro m.refs.length a.rc, .slice a.tq m.table.length a.tc, .slice a.so m.snaps.length a.sc, .slice a.dq m.data.length a.dc] 32)) W.heap.size n a m ts :=
  ⟨VarM.new W _ _ _ _ _, h.below (Joins.below_alloc1 _ _), by simp; omega⟩
theorem LwV.below {W W' : World} {p n : Nat} {a : Im4} {m : Img} {ts : List Value} (h : LwV W p n a m ts) (hb : Below W.heap.size W W') : LwV W' p n a m ts := ⟨h.v.below hb, h.o.below hb, Nat.le_trans h.n hb.size⟩
theorem OwnIm.otherL {w : World} {B x : Nat} {a : Im4} {m : Img} {ts : List Value} {v0 v1 v2 v3 : Value} (h : OwnIm w B a m ts) (hv : VarM w x 25 v0 v1 v2 v3) : ¬ ImB a m ts x := by
  intro hx
  rcases hx with h1 | h1 | h1 | h1 | ⟨t, ht, h1⟩
  · exact (h.rows.own (.slice a.ro m.refs.length a.rc, m.refs) (by simp [imRows])).row.other hv (by decide) h1
  · exact (h.rows.own (.slice a.tq m.table.length a.tc, m.table) (by simp [imRows])).row.other hv (by decide) h1
  · exact (h.rows.own (.slice a.dq m.data.length a.dc, m.data) (by simp [imRows])).row.other hv (by decide) h1
  · exact h.s.other hv (by decide) h1
  · have hm : t ∈ (ts.zip (m.snaps.map (·.table))).map Prod.fst := by rw [zip_fst _ _ (by rw [List.length_map, h.len])]; exact ht
    obtain ⟨p, hp, rfl⟩ := List.mem_map.1 hm
    exact (h.rows.own p (by simp [imRows, hp])).row.other hv (by decide) h1
theorem toImage_B (a : Im4) (m : Img) (w : World) (h : ImBd m) (hc : ImS w a m) :
    Calls Tryz.prog 8 #[imV a m] w fun e w' => ∃ a' ts, e = .returned (imV a' m) ∧ OwnIm w' w.heap.size a' m ts ∧ Below w.heap.size w w' :=
  toImage_any a m w h.r h.t h.s h.d (fun s hs => (h.st s hs).1) hc
theorem eqImage_B (a b : Im4) (m : Img) (w : World) (h : ImBd m) (h1 : ImS w a m) (h2 : ImS w b m) :
    Calls Tryz.prog 11 #[imV a m, imV b m] w fun e w' => e = .returned (.bool true) ∧ Below w.heap.size w w' :=
  eqImage_same a b m w (by have := h.r; unfold maxLen; omega) (by have := h.t; unfold maxLen; omega) (by have := h.s; unfold maxLen; omega) (by have := h.d; unfold maxLen; omega) h1 h2
theorem markImage_B (a : Im4) (m : Img) (ts : List Value) (B : Nat) (w : World) (h : ImBd m) (ho : OwnIm w B a m ts) :
    Calls Tryz.prog 12 #[imV a m, .int .i64 1] w fun e w' => e = .returned (.int .i64 ((1 + imK m : Nat) : Int)) ∧ OwnIm w' B a (mkIm 1 m) ts ∧ Keep (ImB a m ts) w w' :=
  markImage_any a m ts 1 B w h.r h.t h.s h.d (fun s hs => (h.st s hs).1) h.k (by omega) (by omega) ho
end Go.Proofs.YtpdpnepnfhbonaaGreat

namespace Go.Proofs.YtpdpnepnfhbonaaGreat
open Go.RowKit
set_option linter.unusedVariables false

section
variable {P : Program} {ops : Array Oper}
end

end Go.Proofs.YtpdpnepnfhbonaaGreat

namespace Go.Proofs.YtpdpnepnfhbonaaGreat
open Go.RowKit
set_option linter.unusedVariables false
set_option maxRecDepth 100000

end Go.Proofs.YtpdpnepnfhbonaaGreat

namespace Go.Proofs.YtpdpnepnfhbonaaGreat
open Go.RowKit
set_option linter.unusedVariables false

structure Up where
  at_ : Int
  data : ByteArray
abbrev uV (u : Up) : Value := .agg #[.int .i64 u.at_, .string u.data]
theorem is1 (w : World) (n : Nat) (t : TypeId) (a : Int) (hn : w.heap.size = n) : Is (w.alloc (.cells #[.int .i64 a] t)) (some ⟨n, 0, none⟩) [a] := by
  subst hn
  intro i hi
  have hi' : i < 1 := hi
  rcases (show i = 0 by omega) with rfl
  exact ⟨w.heap.size, 0, rfl, by simp [go_sem]⟩
end Go.Proofs.YtpdpnepnfhbonaaGreat

namespace Go.Proofs.YtpdpnepnfhbonaaGreat
open Go.RowKit
set_option linter.unusedVariables false

def Ups (w : World) (ao : Option Addr) (xs : List Up) : Prop := ∀ i (h : i < xs.length), ∃ b off, ao = some ⟨b, off, none⟩ ∧
  w.cell? ⟨b, off + i * 2, none⟩ = some (.int .i64 xs[i].at_) ∧ w.cell? ⟨b, off + i * 2 + 1, none⟩ = some (.string xs[i].data) ∧ xs[i].data.size ≤ maxLen
theorem Ups.below {w w' : World} {ao : Option Addr} {xs : List Up} (h : Ups w ao xs) (hb : Below w.heap.size w w') : Ups w' ao xs := fun i hi => by
  obtain ⟨b, off, e, h0, h1, hz⟩ := h i hi
  exact ⟨b, off, e, (hb.cell (p := ⟨b, off + i * 2, none⟩) (World.block_lt_of_cell? _ _ h0)).trans h0, (hb.cell (p := ⟨b, off + i * 2 + 1, none⟩) (World.block_lt_of_cell? _ _ h1)).trans h1, hz⟩
def upsV (xs : List Up) : List Value := xs.flatMap fun x => [.int .i64 x.at_, .string x.data]
theorem upsV_length (xs : List Up) : (upsV xs).length = xs.length * 2 := by
  induction xs with
  | nil => rfl
  | cons x xs ih => simp only [upsV, List.flatMap_cons, List.length_append, List.length_cons, List.length_nil] at ih ⊢; omega
theorem upsV_cons (x : Up) (xs : List Up) : upsV (x :: xs) = [.int .i64 x.at_, .string x.data] ++ upsV xs := rfl
theorem upsV_append (xs ys : List Up) : upsV (xs ++ ys) = upsV xs ++ upsV ys := by simp [upsV]
theorem upsV_get : ∀ {xs : List Up} {i : Nat} (h : i < xs.length), (upsV xs)[i * 2]? = some (.int .i64 xs[i].at_) ∧ (upsV xs)[i * 2 + 1]? = some (.string xs[i].data)
  | [], _, h => absurd h (Nat.not_lt_zero _)
  | x :: xs, 0, _ => by simp [upsV_cons]
  | x :: xs, i + 1, h => by
    have ih := upsV_get (xs := xs) (i := i) (by simpa using h)
    rw [upsV_cons, show (i + 1) * 2 = i * 2 + 2 by omega]
    refine ⟨?_, ?_⟩
    · rw [List.getElem?_append_right (by simp)]; simpa using ih.1
    · rw [List.getElem?_append_right (by simp)]; simpa [Nat.add_right_comm] using ih.2
theorem ownUps {w : World} {B e cap : Nat} {ao : Option Addr} {xs : List Up} (h : OwnR w B e 2 (.slice ao xs.length cap) xs.length (upsV xs)) (hz : ∀ x ∈ xs, x.data.size ≤ maxLen) : Ups w ao xs := by
  rcases h with ⟨h0, _⟩ | ⟨hp, h⟩
  · intro i hi; omega
  · obtain ⟨g, cap', cur, e0, _, _⟩ := own_form hp h
    simp only [Value.slice.injEq, true_and] at e0
    obtain ⟨rfl, rfl⟩ := e0
    intro i hi
    obtain ⟨g0, g1⟩ := upsV_get hi
    refine ⟨g, 0, rfl, ?_, ?_, hz _ (List.getElem_mem hi)⟩
    · rw [Nat.zero_add, h.cellAt _ (by omega)]; exact g0
    · rw [Nat.zero_add, h.cellAt _ (by omega)]; exact g1
theorem ups_take {ys : List Value} {xs : List Up} {k : Nat} (hk : k < xs.length) (hl : ys.length = xs.length * 2) (h : ys.take (k * 2) = (upsV xs).take (k * 2)) :
    ((ys.set (k * 2) (.int .i64 xs[k].at_)).set (k * 2 + 1) (.string xs[k].data)).take ((k + 1) * 2) = (upsV xs).take ((k + 1) * 2) := by
  obtain ⟨h0, h1⟩ := upsV_get hk
  have e0 := set_take' (by rw [hl, upsV_length]) h0 h
  have e1 := set_take' (by rw [List.length_set, hl, upsV_length]) h1 e0
  rw [show (k + 1) * 2 = k * 2 + 1 + 1 by omega]
  exact e1
end Go.Proofs.YtpdpnepnfhbonaaGreat

namespace Go.Proofs.YtpdpnepnfhbonaaGreat
open Go.RowKit
set_option linter.unusedVariables false
set_option maxRecDepth 100000

set_option maxHeartbeats 1600000 in
theorem eqUpdate_same (x : Up) (w : World) : Calls Tryz.prog 34 #[uV x, uV x] w fun e w' => e = .returned (.bool true) ∧ Below w.heap.size w w' := by
  go_enter Tryz.func34, Tryz.ntmps34
  go_wp2
  go_ret
  exact ⟨rfl, Joins.below_alloc2 _ _ _⟩

end Go.Proofs.YtpdpnepnfhbonaaGreat

namespace Go.Proofs.YtpdpnepnfhbonaaGreat
open Go.RowKit
set_option linter.unusedVariables false
set_option maxRecDepth 100000

set_option maxHeartbeats 1600000 in
theorem eqUpdateS_same (ao bo : Option Addr) (ca cb : Nat) (xs : List Up) (w : World) (hl : xs.length ≤ 1048576) (hc : Ups w ao xs) (hd : Ups w bo xs) :
    Calls Tryz.prog 10 #[.slice ao xs.length ca, .slice bo xs.length cb] w fun e w' => e = .returned (.bool true) ∧ Below w.heap.size w w' := by
  have HC := hide hc
  have HD := hide hd
  clear hc hd
  go_enter Tryz.func10, Tryz.ntmps10
  go_wp2
  go_loopw [5] (fun i wr => ∃ k : Nat, k ≤ xs.length ∧ i = .int .i64 k ∧ Hid (Below w.heap.size w wr)) (fun i _ => xs.length - (intOf i).toNat)
  case atStart => exact ⟨0, Nat.zero_le _, rfl, hide (Below.refl _ _)⟩
  case round =>
    obtain ⟨k, hk, rfl, HB⟩ := hrel
    by_cases hlt : k < xs.length
    · obtain ⟨b, off, rfl, hc0, hc1, hcz⟩ := (unhide HC).below (unhide HB) k hlt
      obtain ⟨b', off', rfl, hd0, hd1, hdz⟩ := (unhide HD).below (unhide HB) k hlt
      clear hcz hdz
      go_wp2
      go_region_with (go_at_call 34; refine (eqUpdate_same _ _).mono ?_; rintro e w2 ⟨rfl, hb2⟩)
      all_goals
        have HB2 : Hid (Below w.heap.size w w2) := hide (Below.trans (by repeat (first | exact unhide HB | apply Below.drew)) (hb2.mono (unhide HB).size))
        clear hb2
        go_wp2
        go_roundw
        case rel => exact ⟨k + 1, by omega, by go_num, HB2⟩
        case measure => simp [intOf]; omega
    · go_wp2
      go_ret
      exact ⟨rfl, unhide HB⟩

def mkU (k n : Nat) : List Up := (List.range n).map fun i => ⟨((k + 2 * i : Nat) : Int), mtB (k + 2 * i + 1)⟩
theorem mkU_length (k n : Nat) : (mkU k n).length = n := by simp [mkU]
theorem mkU_at {k n j : Nat} (h : j < (mkU k n).length) : (mkU k n)[j] = ⟨((k + 2 * j : Nat) : Int), mtB (k + 2 * j + 1)⟩ := by simp [mkU]

theorem mkU_take {ys : List Value} {k n j : Nat} (hj : j < n) (hl : ys.length = n * 2) (h : ys.take (j * 2) = (upsV (mkU k n)).take (j * 2)) :
    ((ys.set (j * 2) (.int .i64 ((k : Int) + 2 * (j : Int)))).set (j * 2 + 1) (.string (mtB (k + 2 * j + 1)))).take ((j + 1) * 2) = (upsV (mkU k n)).take ((j + 1) * 2) := by
  have := ups_take (xs := mkU k n) (k := j) (by rw [mkU_length]; exact hj) (by rw [mkU_length]; exact hl) h
  have e : ((k + 2 * j : Nat) : Int) = (k : Int) + 2 * (j : Int) := by omega
  rw [mkU_at] at this
  simp only [e] at this
  exact this
theorem mkU_cells {k n j : Nat} (hj : j < n) : (upsV (mkU k n))[j * 2]? = some (.int .i64 ((k : Int) + 2 * (j : Int))) ∧ (upsV (mkU k n))[j * 2 + 1]? = some (.string (mtB (k + 2 * j + 1))) := by
  have := upsV_get (xs := mkU k n) (i := j) (by rw [mkU_length]; exact hj)
  have e : ((k + 2 * j : Nat) : Int) = (k : Int) + 2 * (j : Int) := by omega
  rw [mkU_at] at this
  simp only [e] at this
  exact this

set_option maxHeartbeats 3200000 in
theorem markUpdateS_any (v : Value) (n k : Nat) (xs : List Value) (B : Nat) (w : World) (hn : n ≤ 4194304) (hk0 : 0 < k) (hk1 : k ≤ 268435456) (ho : OwnR w B 65 2 v n xs) :
    Calls Tryz.prog 13 #[v, .int .i64 k] w fun e w' => e = .returned (.int .i64 ((k + 2 * n : Nat) : Int)) ∧ OwnR w' B 65 2 v n (upsV (mkU k n)) ∧ Keep (Own v) w w' := by
  rcases ho with ⟨rfl, rfl, ao, rfl⟩ | ⟨hpos, ho'⟩
  · go_enter Tryz.func13, Tryz.ntmps13
    go_wp2
    refine wp_loop_rounds 1 ?_
    rw [rounds_succ]
    go_wp2
    go_ret
    refine ⟨ret_int (by simp), .inl ⟨rfl, rfl, ao, rfl⟩, Keep.refl _ _⟩
  · obtain ⟨g, cap, cur, rfl, _, _⟩ := own_form hpos ho'
    have HO := hide ho'
    clear ho'
    go_enter Tryz.func13, Tryz.ntmps13
    go_wp2
    go_loopw [1, 5] (fun kk i wr => ∃ (j : Nat) (ys : List Value), j ≤ n ∧ i = .int .i64 j ∧ kk = .int .i64 ((k + 2 * j : Nat) : Int) ∧ Hid (ys.length = n * 2) ∧ Hid (ys.take (j * 2) = (upsV (mkU k n)).take (j * 2)) ∧ Hid (wr.ownsRow B 65 2 (.slice (some ⟨g, 0, none⟩) n cap) n ys) ∧ Hid (Keep (Own (.slice (some ⟨g, 0, none⟩) n cap)) w wr)) (fun _ i _ => n - (intOf i).toNat)
    case atStart => exact ⟨0, xs, Nat.zero_le _, rfl, by simp, hide (by rw [(unhide HO).1]), hide (by simp), HO, hide (Keep.refl _ _)⟩
    case round =>
      obtain ⟨j, ys, hj, rfl, rfl, HL, HT, HO, HK⟩ := hrel
      by_cases hlt : j < n
      · have hf0 := (unhide HO).frozenAt (j * 2)
        have hf1 := (unhide HO).frozenAt (j * 2 + 1)
        obtain ⟨x0, hx0⟩ : ∃ x, wr.cell? ⟨g, j * 2, none⟩ = some x := ⟨_, ((unhide HO).cellAt (j * 2) (by omega)).trans (List.getElem?_eq_getElem (by rw [unhide HL]; omega))⟩
        obtain ⟨x1, hx1⟩ : ∃ x, wr.cell? ⟨g, j * 2 + 1, none⟩ = some x := ⟨_, ((unhide HO).cellAt (j * 2 + 1) (by omega)).trans (List.getElem?_eq_getElem (by rw [unhide HL]; omega))⟩
        have HO' := hide ((unhide HO).stored (j * 2) (.int .i64 ((k : Int) + 2 * (j : Int)))).1
        have HK' := hide ((unhide HK).setCell (p := ⟨g, j * 2, none⟩) (own_of hpos rfl) (.int .i64 ((k : Int) + 2 * (j : Int))))
        go_wp2_with fail
        rw [show ((k : Int) + 2 * (j : Int) + 1) = ((k + 2 * j + 1 : Nat) : Int) from by omega]
        refine (markText_any (k + 2 * j + 1) _ (by omega) (by omega)).mono ?_
        rintro e w2 ⟨rfl, hb2⟩
        have HO2 := hide (own_below (unhide HO') hb2)
        have HK2 := hide ((unhide HK').trans (Keep.of_below hb2))
        clear hb2 hf0 hf1 hx0 hx1
        have hf2 := (unhide HO2).frozenAt (j * 2 + 1)
        obtain ⟨x2, hx2⟩ : ∃ x, w2.cell? ⟨g, j * 2 + 1, none⟩ = some x := ⟨_, ((unhide HO2).cellAt (j * 2 + 1) (by omega)).trans (List.getElem?_eq_getElem (by rw [List.length_set, unhide HL]; omega))⟩
        have HST := hide ((unhide HO2).stored (j * 2 + 1) (.string (mtB (k + 2 * j + 1)))).1
        have HKS := hide ((unhide HK2).setCell (p := ⟨g, j * 2 + 1, none⟩) (own_of hpos rfl) (.string (mtB (k + 2 * j + 1))))
        go_wp2
        go_roundw
        case rel => exact ⟨j + 1, _, by omega, by go_num, by go_num, hide (by rw [List.length_set, List.length_set]; exact unhide HL), hide (mkU_take hlt (unhide HL) (unhide HT)), HST, HKS⟩
        case measure => simp [intOf]; omega
      · go_wp2
        go_ret
        have hjn : j = n := by omega
        subst hjn
        have hxs : ys = upsV (mkU k j) := by
          have := unhide HT
          rwa [List.take_of_length_le (by rw [unhide HL]; exact Nat.le_refl _), List.take_of_length_le (by rw [upsV_length, mkU_length]; exact Nat.le_refl _)] at this
        subst hxs
        exact ⟨rfl, .inr ⟨hpos, unhide HO⟩, unhide HK⟩

set_option maxHeartbeats 3200000 in
theorem heldUpdateS_any (v : Value) (n k : Nat) (B : Nat) (w : World) (hn : n ≤ 4194304) (hk0 : 0 < k) (hk1 : k ≤ 268435456) (ho : OwnR w B 65 2 v n (upsV (mkU k n))) :
    Calls Tryz.prog 14 #[v, .int .i64 k] w fun e w' => e = .returned (.int .i64 ((k + 2 * n : Nat) : Int)) ∧ Below w.heap.size w w' := by
  rcases ho with ⟨rfl, _, ao, rfl⟩ | ⟨hpos, ho'⟩
  · go_enter Tryz.func14, Tryz.ntmps14
    go_wp2
    refine wp_loop_rounds 1 ?_
    rw [rounds_succ]
    go_wp2
    go_ret
    exact ⟨ret_int (by simp), Below.refl _ _⟩
  · obtain ⟨g, cap, cur, rfl, _, _⟩ := own_form hpos ho'
    have HO := hide ho'
    clear ho'
    go_enter Tryz.func14, Tryz.ntmps14
    go_wp2
    go_loopw [1, 5] (fun kk i wr => ∃ (j : Nat), j ≤ n ∧ i = .int .i64 j ∧ kk = .int .i64 ((k + 2 * j : Nat) : Int) ∧ Hid (Below w.heap.size w wr)) (fun _ i _ => n - (intOf i).toNat)
    case atStart => exact ⟨0, Nat.zero_le _, rfl, by simp, hide (Below.refl _ _)⟩
    case round =>
      obtain ⟨j, hj, rfl, rfl, HB⟩ := hrel
      by_cases hlt : j < n
      · obtain ⟨g0, g1⟩ := mkU_cells (k := k) hlt
        have hc0 : wr.cell? ⟨g, j * 2, none⟩ = some (.int .i64 ((k : Int) + 2 * (j : Int))) := ((own_below (unhide HO) (unhide HB)).cellAt (j * 2) (by omega)).trans g0
        have hc1 : wr.cell? ⟨g, j * 2 + 1, none⟩ = some (.string (mtB (k + 2 * j + 1))) := ((own_below (unhide HO) (unhide HB)).cellAt (j * 2 + 1) (by omega)).trans g1
        have hgl : g < wr.heap.size := World.block_lt_of_cell? _ _ hc1
        clear g0 g1
        have HMT := hide (fun W => markText_any (k + 2 * j + 1) W (by omega) (by omega))
        go_wp2
        go_region_with (go_at_call 39; rw [show ((k : Int) + 2 * (j : Int) + 1) = ((k + 2 * j + 1 : Nat) : Int) from by omega]; refine (unhide HMT _).mono ?_; rintro e w2 ⟨rfl, hb2⟩; have hcy := (hb2.cell (p := ⟨g, j * 2 + 1, none⟩) hgl).trans hc1)
        all_goals
          have HB2 : Hid (Below w.heap.size w w2) := hide (Below.trans (by repeat (first | exact unhide HB | apply Below.drew)) (hb2.mono (unhide HB).size))
          clear hb2 hcy hc0 hc1 hgl
          go_wp2
          go_roundw
          case rel => exact ⟨j + 1, by omega, by go_num, by go_num, HB2⟩
          case measure => simp [intOf]; omega
      · go_wp2
        go_ret
        have hjn : j = n := by omega
        subst hjn
        exact ⟨rfl, unhide HB⟩

end Go.Proofs.YtpdpnepnfhbonaaGreat

namespace Go.Proofs.YtpdpnepnfhbonaaGreat
open Go.RowKit
set_option linter.unusedVariables false
set_option maxRecDepth 100000

end Go.Proofs.YtpdpnepnfhbonaaGreat

namespace Go.Proofs.YtpdpnepnfhbonaaGreat
open Go.RowKit
set_option linter.unusedVariables false
set_option maxRecDepth 100000

end Go.Proofs.YtpdpnepnfhbonaaGreat

namespace Go.Proofs.YtpdpnepnfhbonaaGreat
open Go.RowKit
set_option linter.unusedVariables false

end Go.Proofs.YtpdpnepnfhbonaaGreat

namespace Go.Proofs.YtpdpnepnfhbonaaGreat
open Go.RowKit
set_option linter.unusedVariables false
set_option maxRecDepth 100000

section
variable {P : Program}

end

end Go.Proofs.YtpdpnepnfhbonaaGreat

namespace Go.Proofs.YtpdpnepnfhbonaaGreat
open Go.RowKit
set_option linter.unusedVariables false
set_option maxRecDepth 100000

end Go.Proofs.YtpdpnepnfhbonaaGreat

namespace Go.Proofs.YtpdpnepnfhbonaaGreat
open Go.RowKit
set_option linter.unusedVariables false
set_option maxRecDepth 100000

end Go.Proofs.YtpdpnepnfhbonaaGreat

namespace Go.Proofs.YtpdpnepnfhbonaaGreat
open Go.RowKit
set_option linter.unusedVariables false

theorem belowKp {W0 W W' : World} {S : Nat → Prop} (h : Below W0.heap.size W0 W) (hk : Keep S W W') (hs : ∀ j, S j → W0.heap.size ≤ j) : Below W0.heap.size W0 W' := h.trans (hk.below h.size hs)
end Go.Proofs.YtpdpnepnfhbonaaGreat

namespace Go.Proofs.YtpdpnepnfhbonaaGreat
open Go.RowKit
set_option linter.unusedVariables false
set_option maxRecDepth 100000

end Go.Proofs.YtpdpnepnfhbonaaGreat

namespace Go.Proofs.YtpdpnepnfhbonaaGreat
open Go.RowKit
set_option linter.unusedVariables false

end Go.Proofs.YtpdpnepnfhbonaaGreat

namespace Go.Proofs.YtpdpnepnfhbonaaGreat
open Go.RowKit
set_option linter.unusedVariables false

end Go.Proofs.YtpdpnepnfhbonaaGreat

namespace Go.Proofs.YtpdpnepnfhbonaaGreat
open Go.RowKit
set_option linter.unusedVariables false

end Go.Proofs.YtpdpnepnfhbonaaGreat

namespace Go.Proofs.YtpdpnepnfhbonaaGreat
open Go.RowKit
set_option linter.unusedVariables false

end Go.Proofs.YtpdpnepnfhbonaaGreat

namespace Go.Proofs.YtpdpnepnfhbonaaGreat
open Go.RowKit
set_option linter.unusedVariables false

end Go.Proofs.YtpdpnepnfhbonaaGreat

namespace Go.Proofs.YtpdpnepnfhbonaaGreat
open Go.RowKit
set_option linter.unusedVariables false

end Go.Proofs.YtpdpnepnfhbonaaGreat

namespace Go.Proofs.YtpdpnepnfhbonaaGreat
set_option linter.unusedVariables false

end Go.Proofs.YtpdpnepnfhbonaaGreat

namespace Go.Proofs.YtpdpnepnfhbonaaGreat
open Go.RowKit
set_option linter.unusedVariables false

theorem three {l : List Int} (h : l.length = 3) : ∃ a b c, l = [a, b, c] := by
  match l, h with
  | [a, b, c], _ => exact ⟨a, b, c, rfl⟩
end Go.Proofs.YtpdpnepnfhbonaaGreat

namespace Go.Proofs.YtpdpnepnfhbonaaGreat
open Go.RowKit
set_option linter.unusedVariables false
section
variable {P : Program}
end
def short (ms : List Wr) : Prop := ∀ x ∈ ms, x.data.size ≤ 80
end Go.Proofs.YtpdpnepnfhbonaaGreat

namespace Go.Proofs.YtpdpnepnfhbonaaGreat
open Go.RowKit
set_option linter.unusedVariables false

structure UpS (w W : World) (qo : Option Addr) (n qa : Nat) (us : List Up) : Prop where
  o : OwnR W w.heap.size 65 2 (.slice qo n qa) n (upsV us)
  k : Below w.heap.size w W
theorem UpS.next {w W W' : World} {qo : Option Addr} {n qa : Nat} {us : List Up} (h : UpS w W qo n qa us) (hb : Below W.heap.size W W') : UpS w W' qo n qa us := ⟨h.o.below hb, fr h.k hb⟩
def upV (x : Up) : List Value := [.int .i64 x.at_, .string x.data]
theorem upV_one (x : Up) : ∀ u ∈ upV x, u.oneCell' = true := by
  intro u hu
  simp [upV] at hu
  rcases hu with rfl | rfl <;> rfl
theorem UpS.one {w W W' : World} {qo : Option Addr} {n qa g cap : Nat} {us : List Up} {x : Up} (h : UpS w W qo n qa us)
    (ho : W'.ownsRow w.heap.size 65 2 (.slice (some ⟨g, 0, none⟩) (n + 1) cap) (n + 1) (upsV us ++ upV x)) (hk : Keep (Own (.slice qo n qa)) W W') : UpS w W' (some ⟨g, 0, none⟩) (n + 1) cap (us ++ [x]) := by
  refine ⟨.inr ⟨by omega, ?_⟩, belowKp h.k hk (fun j hj => (h.o.ge j hj).1)⟩
  rw [upsV_append]; exact ho
theorem UpS.sz {w W : World} {qo : Option Addr} {n qa : Nat} {us : List Up} (h : UpS w W qo n qa us) : w.heap.size ≤ W.heap.size := h.k.size
theorem UpS.len {w W : World} {qo : Option Addr} {n qa : Nat} {us : List Up} (h : UpS w W qo n qa us) : n = us.length := by
  have := h.o.len; rw [upsV_length] at this; omega
theorem news2_at (w : World) (n : Nat) (x : Up) (t : TypeId) (hn : w.heap.size = n) : ∀ j u, (upV x)[j]? = some u → (w.alloc (.cells #[.int .i64 x.at_, .string x.data] t)).cell? ((⟨n, 0, none⟩ : Addr).add j) = some u := by
  subst hn
  exact World.news_of_block (cs := #[.int .i64 x.at_, .string x.data]) (heap_alloc_new w _)
end Go.Proofs.YtpdpnepnfhbonaaGreat
