import Derived.Test.YtjjkppknojecjaaGreatDoorRows
import Derived.Test.YtjjkppknojecjaaGreatDoorXWorldAgreesPart1
import Derived.Test.YtjjkppknojecjaaGreatDoorXWorldAgreesPart2
import Derived.Test.YtjjkppknojecjaaGreatDoorXWorldAgreesPart3
import Derived.Test.YtjjkppknojecjaaGreatDoorXWorldAgreesPart8
import Derived.Test.YtjjkppknojecjaaGreatDoorXWorldAgreesPart4
import Derived.WalkKit
import Derived.WalkSpells
import Derived.KernelRfl
import Derived.LoopN
import Derived.Maps.Own
import Derived.Maps.OwnOps
import Derived.Maps.OwnSet
import Derived.Maps.Views
import Derived.WalkLawsBesides
import Derived.BigQuiet
import Derived.Deep.QuietTactic
import Derived.Deep.RegionWith
import Derived.Deep.RegionHeld3
import Derived.Laws.StructEq
import Derived.Test.YtjjkppknojecjaaGreatDoorXWorldAgreesPart7
import Derived.Test.YtjjkppknojecjaaGreatDoorXWorldAgreesPart6
import Derived.Lib.SmallJoins
import Derived.Outline
import Derived.Deep.RegionLawGrows
import Derived.Deep.AppendLies

namespace Go.Proofs.YtjjkppknojecjaaGreatDoor
open Go.RowKit Go.Maps
set_option linter.unusedVariables false
set_option maxRecDepth 100000

def recS (v : Value) : Option (DataW Value × List MemPlace) := some (.held v, [])
theorem lawS : Keyed Tryz.prog 9 := string_keyed Tryz.underlying9
def kS (t : ByteArray) : Lit := .string t.data.toList
theorem kS_inj {a b : ByteArray} (h : kS a = kS b) : a = b := by
  simp only [kS, Lit.string.injEq] at h
  exact ByteArray.ext (Array.ext' h)
theorem keyS {t : ByteArray} (h : t.size ≤ maxLen) : keyOf Tryz.prog 9 (.string t) = some (kS t) := Go.WideMaps.keyOf_string_mk Tryz.underlying9 h
structure MpN (w : World) (B n : Nat) (D : DataW Value) (ns : List ByteArray) : Prop where
  own : w.ownsMap Tryz.prog 9 recS B n D
  has : ∀ t, has D (kS t) = true ↔ t ∈ ns
  le : Maps.size D ≤ ns.length
  eq : Maps.size D = ns.length ↔ ns.Nodup
theorem MpN.made (w : World) : MpN (w.alloc (.map #[] 0)) w.heap.size 0 (.map []) [] := ⟨World.ownsMap_made _ _ _ _, fun t => by simp [Maps.has], Nat.le_refl _, by simp [Maps.size]⟩
theorem MpN.lt {w : World} {B n : Nat} {D : DataW Value} {ns : List ByteArray} (h : MpN w B n D ns) : B < w.heap.size := h.own.lt
theorem MpN.below {w w' : World} {B n : Nat} {D : DataW Value} {ns : List ByteArray} (h : MpN w B n D ns) (hb : Below w.heap.size w w') : MpN w' B n D ns := by
  have hl := h.lt
  obtain ⟨⟨es, clock, e, F, hn, hD⟩, h2, h3, h4⟩ := h
  exact ⟨⟨es, clock, (hb.block B hl).trans e, F, hn, hD⟩, h2, h3, h4⟩
theorem MpN.put {w w' : World} {B n : Nat} {D : DataW Value} {ns : List ByteArray} (h : MpN w B n D ns) (t : ByteArray) (v : Value) (ho : w'.ownsMap Tryz.prog 9 recS B (n + 1) (D.put (kS t) (.held v))) : MpN w' B (n + 1) (D.put (kS t) (.held v)) (ns ++ [t]) := by
  have hM : IsMap D := h.own.isMap
  have hT : Tidy D := h.own.tidy lawS
  have hs := size_put (k := kS t) hT (.held v)
  have hh := h.has t
  have h1 := h.le
  have h2 := h.eq
  refine ⟨ho, fun u => ?_, ?_, ?_⟩
  · by_cases e : u = t
    · subst e
      rw [has_put_same (k := kS u) hM trivial]; simp
    · rw [has_put_other (fun h2 => e (kS_inj h2)), h.has]
      simp [e]
  · rw [hs, List.length_append]
    split <;> simp <;> omega
  · rw [hs, List.length_append, List.nodup_append]
    by_cases hm : t ∈ ns
    · rw [if_pos (hh.2 hm)]
      constructor
      · intro h3; simp at h3; omega
      · intro h3; exact absurd rfl (h3.2.2 t hm t (by simp))
    · rw [if_neg (fun h3 => hm (hh.1 h3))]
      constructor
      · intro h3
        refine ⟨h2.1 (by simp at h3; omega), by simp, fun a ha b hb => ?_⟩
        rw [List.mem_singleton] at hb
        subst hb
        exact fun e => hm (e ▸ ha)
      · intro h3
        have := h2.2 h3.1
        simp; omega
theorem wpList_shotN {w : World} {ops : Array Oper} {rest : List Oper} {o : Oper} {a : Act} {Q : Exit → Act → World → Prop} (hg : o.guard = none) (m x v : Operand) (hop : o.op = Op.mapUpdate 159 m x v)
    {B n : Nat} {D : DataW Value} {ns : List ByteArray} {t : ByteArray} {u : Value} (hm : a.eval m = .map (some B)) (h : MpN w B n D ns) (hn : n < maxLen) (hx : a.eval x = .string t) (hz : t.size ≤ maxLen) (hv : a.eval v = u)
    (hK : ∀ w' D', MpN w' B (n + 1) D' (ns ++ [t]) → w.grownBy w' (some B) → wpList Tryz.prog ops Q rest (a.put o.dst undef) w') : wpList Tryz.prog ops Q (o :: rest) a w :=
  wpList_mapUpdate_own w hg m x v 159 hop 9 99 lawS Tryz.underlying159 _ B n D hm h.own hn _ _ _ hx hv (keyS hz) (.held u) [] rfl (fun w' ho hg' => hK w' _ (h.put t u ho) hg')
theorem below_grownMap {W w w' : World} {B : Nat} (hb : Below W.heap.size W w) (hB : W.heap.size ≤ B) (hg : w.grownBy w' (some B)) : Below W.heap.size W w' :=
  ⟨hg.os.trans hb.os, hg.tape.trans hb.tape, hg.output.trans hb.output, Nat.le_trans hb.size hg.size, fun k hk => (hg.block k (Nat.lt_of_lt_of_le hk hb.size) (fun e => by have := Option.some.inj e; omega)).trans (hb.block k hk)⟩

set_option maxHeartbeats 1600000 in
theorem shotsByName_names (so : Option Addr) (sc : Nat) (ss : List Snp) (w : World) (hs : ss.length ≤ 1000) (hc : Sns w so ss) :
    Calls Tryz.prog 130 #[.slice so ss.length sc] w fun e w' => ∃ B n D, e = .returned (.map (some B)) ∧ MpN w' B n D (ss.map (·.name)) ∧ Below w.heap.size w w' := by
  have HC := hide hc
  clear hc
  have hmm := @run_makeMap Tryz.prog
  go_enter Tryz.func130, Tryz.ntmps130
  go_upto_region 2 with fail
  have HM0 := hide (MpN.made w)
  have HB0 := hide (Joins.below_alloc1 w (.map #[] 0))
  revert HM0 HB0
  generalize hW : (w.alloc (.map #[] 0)) = W0
  clear hW hmm
  obtain ⟨B, hBd⟩ : ∃ B, B = w.heap.size := ⟨_, rfl⟩
  rw [← hBd]
  have HBD : Hid (w.heap.size ≤ B) := hide (by omega)
  intro HM0 HB0
  have HB0' : Hid (Below w.heap.size w W0) := hide (by rw [← hBd]; exact unhide HB0)
  clear HB0 hBd
  go_wp2
  go_loopw [9] (fun i wr => ∃ (k : Nat) (D : DataW Value), k ≤ ss.length ∧ i = .int .i64 k ∧ Hid (MpN wr B k D ((ss.take k).map (·.name))) ∧ Hid (Below w.heap.size w wr)) (fun i _ => ss.length - (intOf i).toNat)
  case atStart => exact ⟨0, _, Nat.zero_le _, rfl, hide (by simpa using unhide HM0), HB0'⟩
  case round =>
    clear HM0 HB0'
    obtain ⟨k, D, hk, rfl, HM, HB⟩ := hrel
    by_cases hlt : k < ss.length
    · obtain ⟨b, off, tq, tc, rfl, hn0, ht0, _, hz, _⟩ := ((unhide HC).below (unhide HB)) k hlt
      have HZ := hide hz
      have HST : Hid ((ss.take (k + 1)).map (·.name) = (ss.take k).map (·.name) ++ [ss[k].name]) := hide (by rw [List.take_succ_eq_append_getElem hlt, List.map_append]; rfl)
      have HMA := hide ((unhide HM).below (Joins.below_alloc1 wr (.cells #[.string ss[k].name, .slice tq ss[k].table.length tc] 99)))
      have HBA := hide (fr (unhide HB) (Joins.below_alloc1 wr (.cells #[.string ss[k].name, .slice tq ss[k].table.length tc] 99)))
      clear hz HM HB
      go_wp2_with (at_mapUpdate; refine wpList_shotN rfl _ _ _ rfl rfl (unhide HMA) (by unfold maxLen; omega) rfl (unhide HZ) rfl ?_; intro w5 D5 hm5 hk5; have HS5 := hide (And.intro hm5 hk5); clear hm5 hk5)
      go_roundw
      case rel => exact ⟨k + 1, D5, by omega, by go_num, hide (by rw [unhide HST]; exact (unhide HS5).1), hide (below_grownMap (unhide HBA) (unhide HBD) (unhide HS5).2)⟩
      case measure => simp [intOf]; omega
    · have hkn : k = ss.length := by omega
      subst hkn
      rw [List.take_length] at HM
      go_wp2
      go_ret
      exact ⟨B, _, D, rfl, unhide HM, unhide HB⟩

set_option maxHeartbeats 800000 in
theorem valuesOK_any (ao : Option Addr) (cap : Nat) (xs : List Int) (w : World) (hl : xs.length ≤ maxLen) (hc : Is w ao xs) :
    Calls Tryz.prog 96 #[.slice ao xs.length cap] w fun e w' => e = .returned (.bool (gvB xs)) ∧ w' = w := by
  have HC := hide hc
  have HL := hide hl
  clear hc
  unfold maxLen at hl
  by_cases h : xs.length ≤ 12
  · have HF : Hid (gvB xs = xs.all numB) := hide (by simp [gvB, h])
    have hi : (xs.length : Int) ≤ 12 := by omega
    go_enter Tryz.func96, Tryz.ntmps96
    go_wp2_with (go_at_call 128; refine (areNumbers_any _ _ xs _ (unhide HL) (unhide HC)).mono ?_; rintro e w' ⟨rfl, hw⟩; replace hw := hw.symm; subst hw)
    go_ret
    exact ⟨ret_bool (unhide HF).symm, rfl⟩
  · have HF : Hid (gvB xs = false) := hide (by simp [gvB, h])
    have hi : ¬ (xs.length : Int) ≤ 12 := by omega
    go_enter Tryz.func96, Tryz.ntmps96
    go_wp2
    go_ret
    exact ⟨ret_bool (unhide HF).symm, rfl⟩

def shsB (ss : List Snp) : Bool := decide (ss.length ≤ 3) && ss.all (fun s => snmB s.name && gvB s.table) && namesB ss
theorem shs_many {ss : List Snp} (h : ¬ ss.length ≤ 3) : shsB ss = false := by rw [shsB, decide_eq_false h]; rfl
theorem shs_bad {ss : List Snp} {k : Nat} (hk : k < ss.length) (h : (snmB ss[k].name && gvB ss[k].table) = false) : shsB ss = false := by
  rw [shsB, all_not (p := fun s : Snp => snmB s.name && gvB s.table) hk h]; simp
theorem shs_all {ss : List Snp} (h3 : ss.length ≤ 3) (h : ∀ j (hj : j < ss.length), (snmB ss[j].name && gvB ss[j].table) = true) : shsB ss = namesB ss := by
  rw [shsB, decide_eq_true h3, all_of (p := fun s : Snp => snmB s.name && gvB s.table) (fun i hi _ => h i hi)]; rfl
theorem gsB_eq (g : Gst) : gsB g = (gvB g.vals && shsB g.shots) := by
  simp only [gsB, shsB, Bool.and_assoc]

set_option maxHeartbeats 3200000 in
theorem shotsOK_any (so : Option Addr) (sc : Nat) (ss : List Snp) (w : World) (hs : ss.length ≤ maxLen) (hc : Sns w so ss) :
    Calls Tryz.prog 97 #[.slice so ss.length sc] w fun e w' => e = .returned (.bool (shsB ss)) ∧ Below w.heap.size w w' := by
  have HC := hide hc
  clear hc
  unfold maxLen at hs
  by_cases h3 : ss.length ≤ 3
  rotate_left
  · have HF := hide (shs_many h3)
    have h3i : (3 : Int) < (ss.length : Int) := by omega
    go_enter Tryz.func97, Tryz.ntmps97
    go_wp2
    go_ret
    exact ⟨ret_bool (unhide HF).symm, Below.refl _ _⟩
  have h3i : ¬ (3 : Int) < (ss.length : Int) := by omega
  go_enter Tryz.func97, Tryz.ntmps97
  go_wp2
  go_loopw [10] (fun i wr => ∃ k : Nat, k ≤ ss.length ∧ i = .int .i64 k ∧ Hid (∀ j (hj : j < ss.length), j < k → (snmB ss[j].name && gvB ss[j].table) = true) ∧ Hid (Below w.heap.size w wr)) (fun i _ => ss.length - (intOf i).toNat)
  case atStart => exact ⟨0, Nat.zero_le _, rfl, hide (fun j _ h => by omega), hide (Below.refl _ _)⟩
  case round =>
    obtain ⟨k, hk, rfl, HS, HB⟩ := hrel
    by_cases hlt : k < ss.length
    · obtain ⟨b, off, tq, tc, rfl, hn0, ht0, hIs, hz, htl⟩ := ((unhide HC).below (unhide HB)) k hlt
      have HZ := hide hz
      have HTL := hide htl
      have HA := hide (Joins.below_alloc1 wr (.cells #[.string ss[k].name, .slice tq ss[k].table.length tc] 99))
      have HV := hide (VarG.new wr 99 (.string ss[k].name) (.slice tq ss[k].table.length tc))
      have HIS := hide (hIs.below (unhide HA))
      have HBA := hide (fr (unhide HB) (unhide HA))
      clear hIs hz htl
      go_upto_region 6 with fail
      revert HA HV HIS HBA
      generalize (wr.alloc _) = W0
      intro HA HV HIS HBA
      clear hn0 ht0
      obtain ⟨c0, c1⟩ := (unhide HV).cells
      cases hok : snmB ss[k].name
      · have HF := hide (shs_bad hlt (by rw [hok]; rfl))
        go_wp2_with (go_at_call 129; refine (snapNameOK_any _ _ (unhide HZ)).mono ?_; rintro e w' ⟨rfl, hb⟩; have HB2 := hide (fr (unhide HBA) hb); clear hb; rw [hok])
        go_ret
        exact ⟨ret_bool (unhide HF).symm, unhide HB2⟩
      · go_wp2_with fail
        refine (snapNameOK_any _ _ (unhide HZ)).mono ?_
        rintro e w2 ⟨rfl, hb⟩
        have HB2 := hide (fr (unhide HBA) hb)
        have HV2 := hide ((unhide HV).below hb)
        have HI2 := hide ((unhide HIS).below hb)
        clear hb c0 c1
        rw [hok]
        obtain ⟨c0, c1⟩ := (unhide HV2).cells
        cases hv : gvB ss[k].table
        · have HF := hide (shs_bad hlt (by rw [hv, Bool.and_false]))
          go_wp2_with (go_at_call 96; refine (valuesOK_any _ _ ss[k].table _ (unhide HTL) (unhide HI2)).mono ?_; rintro e w' ⟨rfl, hw⟩; replace hw := hw.symm; subst hw; rw [hv])
          go_ret
          exact ⟨ret_bool (unhide HF).symm, unhide HB2⟩
        · have HS' := hide (all_succ (p := fun s : Snp => snmB s.name && gvB s.table) hlt (unhide HS) (by rw [hok, hv]; rfl))
          go_wp2_with (go_at_call 96; refine (valuesOK_any _ _ ss[k].table _ (unhide HTL) (unhide HI2)).mono ?_; rintro e w' ⟨rfl, hw⟩; replace hw := hw.symm; subst hw; rw [hv])
          go_roundw
          case rel => exact ⟨k + 1, by omega, by go_num, HS', HB2⟩
          case measure => simp [intOf]; omega
    · have HF := hide (shs_all h3 (fun j h => unhide HS j h (by omega)))
      go_wp2_with fail
      refine (shotsByName_names so sc ss _ (by omega) ((unhide HC).below (unhide HB))).mono ?_
      rintro e w3 ⟨B, n, D, rfl, hM, hb⟩
      have HB3 := hide (fr (unhide HB) hb)
      have HM := hide hM
      have hlen := fun ty => hM.own.len Tryz.underlying159 ty
      have hle := hM.le
      have heq := hM.eq
      rw [List.length_map] at hle heq
      have HNB : Hid (namesB ss = ((Maps.size D : Int) == (ss.length : Int))) := hide (by
        unfold namesB
        rw [Bool.eq_iff_iff]
        simp only [decide_eq_true_eq, beq_iff_eq]
        rw [← heq]
        omega)
      clear hM hb heq
      generalize Maps.size D = z at *
      go_wp2
      go_ret
      exact ⟨ret_bool (by rw [unhide HF, unhide HNB]), unhide HB3⟩

set_option maxHeartbeats 1600000 in
theorem guestOK_impl (a : Gs4) (g : Gst) (w : World) (hL : GsL g) (hc : GsS w a g) :
    Calls Tryz.prog 57 #[gsV a g] w fun e w' => e = .returned (.bool (gsB g)) ∧ Below w.heap.size w w' := by
  have HA := hide (Joins.below_alloc1 w (.cells #[.slice a.vo g.vals.length a.vc, .slice a.so g.shots.length a.sc] 47))
  have HV := hide (VarG.new w 47 (.slice a.vo g.vals.length a.vc) (.slice a.so g.shots.length a.sc))
  have HC := hide (hc.below (unhide HA))
  have HL := hide hL
  have HE := hide (gsB_eq g)
  clear hc hL
  go_enter Tryz.func57, Tryz.ntmps57
  go_upto_region 1 with fail
  revert HA HV HC
  generalize (w.alloc _) = W0
  intro HA HV HC
  obtain ⟨c0, c1⟩ := (unhide HV).cells
  cases h1 : gvB g.vals
  · have HF : Hid (gsB g = false) := hide (by rw [unhide HE, h1]; rfl)
    go_wp2_with (go_at_call 96; refine (valuesOK_any _ _ g.vals _ (unhide HL).v (unhide HC).v).mono ?_; rintro e w' ⟨rfl, hw⟩; replace hw := hw.symm; subst hw; rw [h1])
    go_ret
    exact ⟨ret_bool (unhide HF).symm, unhide HA⟩
  · have HF : Hid (gsB g = shsB g.shots) := hide (by rw [unhide HE, h1]; rfl)
    clear HE
    go_wp2_with fail
    refine (valuesOK_any _ _ g.vals _ (unhide HL).v (unhide HC).v).mono ?_
    rintro e w' ⟨rfl, hw⟩
    replace hw := hw.symm
    subst hw
    rw [h1]
    go_wp2_with fail
    refine (shotsOK_any _ _ g.shots _ (unhide HL).s (unhide HC).s).mono ?_
    rintro e w2 ⟨rfl, hb⟩
    have HB2 := hide (fr (unhide HA) hb)
    clear hb c0 c1
    go_wp2
    go_ret
    exact ⟨ret_bool (unhide HF).symm, unhide HB2⟩

end Go.Proofs.YtjjkppknojecjaaGreatDoor

namespace Go.Proofs.YtjjkppknojecjaaGreatDoor
open Go.RowKit
set_option linter.unusedVariables false
set_option maxRecDepth 100000

def usV (q : Rq) : Value :=
  if q.k = 1 then .iface 162 (.agg #[.int .i64 q.g])
  else if q.k = 2 then .iface 164 (.agg #[.int .i64 q.g, .int .i64 q.v])
  else if q.k = 3 then .iface 165 (.agg #[.int .i64 q.g])
  else if q.k = 4 then .iface 167 (.agg #[.int .i64 q.g])
  else if q.k = 5 then .iface 169 (.agg #[.string q.n])
  else if q.k = 6 then .iface 170 (.agg #[.string q.n])
  else if q.k = 7 then .iface 171 (.agg #[.string q.n])
  else .iface 173 (.agg #[])

theorem us_1 {q : Rq} (h : q.k = 1) : usV q = .iface 162 (.agg #[.int .i64 q.g]) := by
  unfold usV
  rw [if_pos h]
theorem pl_1 {q : Rq} (h : q.k = 1) : qV (plR q) = .agg #[.int .i64 1, .int .i64 q.g, .int .i64 0, .string ⟨#[]⟩] := by
  unfold plR
  rw [if_pos h]
theorem us_2 {q : Rq} (h : q.k = 2) : usV q = .iface 164 (.agg #[.int .i64 q.g, .int .i64 q.v]) := by
  unfold usV
  rw [if_neg (by omega), if_pos h]
theorem pl_2 {q : Rq} (h : q.k = 2) : qV (plR q) = .agg #[.int .i64 2, .int .i64 q.g, .int .i64 q.v, .string ⟨#[]⟩] := by
  unfold plR
  rw [if_neg (by omega), if_pos h]
theorem us_3 {q : Rq} (h : q.k = 3) : usV q = .iface 165 (.agg #[.int .i64 q.g]) := by
  unfold usV
  rw [if_neg (by omega), if_neg (by omega), if_pos h]
theorem pl_3 {q : Rq} (h : q.k = 3) : qV (plR q) = .agg #[.int .i64 3, .int .i64 q.g, .int .i64 0, .string ⟨#[]⟩] := by
  unfold plR
  rw [if_neg (by omega), if_neg (by omega), if_pos h]
theorem us_4 {q : Rq} (h : q.k = 4) : usV q = .iface 167 (.agg #[.int .i64 q.g]) := by
  unfold usV
  rw [if_neg (by omega), if_neg (by omega), if_neg (by omega), if_pos h]
theorem pl_4 {q : Rq} (h : q.k = 4) : qV (plR q) = .agg #[.int .i64 4, .int .i64 q.g, .int .i64 0, .string ⟨#[]⟩] := by
  unfold plR
  rw [if_neg (by omega), if_neg (by omega), if_neg (by omega), if_pos h]
theorem us_5 {q : Rq} (h : q.k = 5) : usV q = .iface 169 (.agg #[.string q.n]) := by
  unfold usV
  rw [if_neg (by omega), if_neg (by omega), if_neg (by omega), if_neg (by omega), if_pos h]
theorem pl_5 {q : Rq} (h : q.k = 5) : qV (plR q) = .agg #[.int .i64 5, .int .i64 0, .int .i64 0, .string q.n] := by
  unfold plR
  rw [if_neg (by omega), if_neg (by omega), if_neg (by omega), if_neg (by omega), if_pos h]
theorem us_6 {q : Rq} (h : q.k = 6) : usV q = .iface 170 (.agg #[.string q.n]) := by
  unfold usV
  rw [if_neg (by omega), if_neg (by omega), if_neg (by omega), if_neg (by omega), if_neg (by omega), if_pos h]
theorem pl_6 {q : Rq} (h : q.k = 6) : qV (plR q) = .agg #[.int .i64 6, .int .i64 0, .int .i64 0, .string q.n] := by
  unfold plR
  rw [if_neg (by omega), if_neg (by omega), if_neg (by omega), if_neg (by omega), if_neg (by omega), if_pos h]
theorem us_7 {q : Rq} (h : q.k = 7) : usV q = .iface 171 (.agg #[.string q.n]) := by
  unfold usV
  rw [if_neg (by omega), if_neg (by omega), if_neg (by omega), if_neg (by omega), if_neg (by omega), if_neg (by omega), if_pos h]
theorem pl_7 {q : Rq} (h : q.k = 7) : qV (plR q) = .agg #[.int .i64 7, .int .i64 0, .int .i64 0, .string q.n] := by
  unfold plR
  rw [if_neg (by omega), if_neg (by omega), if_neg (by omega), if_neg (by omega), if_neg (by omega), if_neg (by omega), if_pos h]
theorem us_8 {q : Rq} (h : ¬ q.k = 1 ∧ ¬ q.k = 2 ∧ ¬ q.k = 3 ∧ ¬ q.k = 4 ∧ ¬ q.k = 5 ∧ ¬ q.k = 6 ∧ ¬ q.k = 7) : usV q = .iface 173 (.agg #[]) := by
  unfold usV
  rw [if_neg (by omega), if_neg (by omega), if_neg (by omega), if_neg (by omega), if_neg (by omega), if_neg (by omega), if_neg (by omega)]
theorem pl_8 {q : Rq} (h : ¬ q.k = 1 ∧ ¬ q.k = 2 ∧ ¬ q.k = 3 ∧ ¬ q.k = 4 ∧ ¬ q.k = 5 ∧ ¬ q.k = 6 ∧ ¬ q.k = 7) : qV (plR q) = .agg #[.int .i64 8, .int .i64 0, .int .i64 0, .string ⟨#[]⟩] := by
  unfold plR
  rw [if_neg (by omega), if_neg (by omega), if_neg (by omega), if_neg (by omega), if_neg (by omega), if_neg (by omega), if_neg (by omega)]
theorem rq_8 (q : Rq) : q.k = 1 ∨ q.k = 2 ∨ q.k = 3 ∨ q.k = 4 ∨ q.k = 5 ∨ q.k = 6 ∨ q.k = 7 ∨ (¬ q.k = 1 ∧ ¬ q.k = 2 ∧ ¬ q.k = 3 ∧ ¬ q.k = 4 ∧ ¬ q.k = 5 ∧ ¬ q.k = 6 ∧ ¬ q.k = 7) := by omega
abbrev VarR (w : World) (x : Nat) (q : Rq) : Prop := VarM w x 48 (.int .i64 q.k) (.int .i64 q.g) (.int .i64 q.v) (.string q.n)

set_option maxHeartbeats 3200000 in
theorem useOf_any (q : Rq) (w : World) : Calls Tryz.prog 99 #[qV q] w fun e w' => e = .returned (usV q) ∧ Below w.heap.size w w' := by
  have HA := hide (Joins.below_alloc1 w (.cells #[.int .i64 q.k, .int .i64 q.g, .int .i64 q.v, .string q.n] 48))
  have HV := hide (VarM.new w 48 (.int .i64 q.k) (.int .i64 q.g) (.int .i64 q.v) (.string q.n))
  obtain ⟨R, HR⟩ : ∃ R, Hid (R = usV q) := ⟨_, hide rfl⟩
  rw [← unhide HR]
  go_enter Tryz.func99, Tryz.ntmps99
  go_upto_region 1 with fail
  revert HA HV
  generalize (w.alloc _) = W0
  intro HA HV
  obtain ⟨c0, c1, c2, c3⟩ := (unhide HV).cells
  rcases rq_8 q with h | h | h | h | h | h | h | h
  · have HX := hide ((unhide HR).trans (us_1 h))
    rw [h] at c0
    clear HR h
    go_wp2
    go_ret
    exact ⟨by rw [unhide HX]; rfl, unhide HA⟩
  · have HX := hide ((unhide HR).trans (us_2 h))
    rw [h] at c0
    clear HR h
    go_wp2
    go_ret
    exact ⟨by rw [unhide HX]; rfl, unhide HA⟩
  · have HX := hide ((unhide HR).trans (us_3 h))
    rw [h] at c0
    clear HR h
    go_wp2
    go_ret
    exact ⟨by rw [unhide HX]; rfl, unhide HA⟩
  · have HX := hide ((unhide HR).trans (us_4 h))
    rw [h] at c0
    clear HR h
    go_wp2
    go_ret
    exact ⟨by rw [unhide HX]; rfl, unhide HA⟩
  · have HX := hide ((unhide HR).trans (us_5 h))
    rw [h] at c0
    clear HR h
    go_wp2
    go_ret
    exact ⟨by rw [unhide HX]; rfl, unhide HA⟩
  · have HX := hide ((unhide HR).trans (us_6 h))
    rw [h] at c0
    clear HR h
    go_wp2
    go_ret
    exact ⟨by rw [unhide HX]; rfl, unhide HA⟩
  · have HX := hide ((unhide HR).trans (us_7 h))
    rw [h] at c0
    clear HR h
    go_wp2
    go_ret
    exact ⟨by rw [unhide HX]; rfl, unhide HA⟩
  · have HX := hide ((unhide HR).trans (us_8 h))
    have b1 : (q.k == 1) = false := by rw [beq_eq_false_iff_ne]; omega
    have b2 : (q.k == 2) = false := by rw [beq_eq_false_iff_ne]; omega
    have b3 : (q.k == 3) = false := by rw [beq_eq_false_iff_ne]; omega
    have b4 : (q.k == 4) = false := by rw [beq_eq_false_iff_ne]; omega
    have b5 : (q.k == 5) = false := by rw [beq_eq_false_iff_ne]; omega
    have b6 : (q.k == 6) = false := by rw [beq_eq_false_iff_ne]; omega
    have b7 : (q.k == 7) = false := by rw [beq_eq_false_iff_ne]; omega
    clear HR h
    go_wp2
    go_ret
    exact ⟨by rw [unhide HX]; rfl, unhide HA⟩

theorem as_1_1 (v : Value) (W : World) : (Instr.typeAssert (.iface 162 v) 20 162 true).run Tryz.prog W = .ok (.tuple #[v, .bool true]) W := by kernel_rfl
theorem as_2_1 (v : Value) (W : World) : (Instr.typeAssert (.iface 164 v) 20 162 true).run Tryz.prog W = .ok (.tuple #[.agg #[.int .i64 0], .bool false]) W := by kernel_rfl
theorem as_2_2 (v : Value) (W : World) : (Instr.typeAssert (.iface 164 v) 20 164 true).run Tryz.prog W = .ok (.tuple #[v, .bool true]) W := by kernel_rfl
theorem as_3_1 (v : Value) (W : World) : (Instr.typeAssert (.iface 165 v) 20 162 true).run Tryz.prog W = .ok (.tuple #[.agg #[.int .i64 0], .bool false]) W := by kernel_rfl
theorem as_3_2 (v : Value) (W : World) : (Instr.typeAssert (.iface 165 v) 20 164 true).run Tryz.prog W = .ok (.tuple #[.agg #[.int .i64 0, .int .i64 0], .bool false]) W := by kernel_rfl
theorem as_3_3 (v : Value) (W : World) : (Instr.typeAssert (.iface 165 v) 20 165 true).run Tryz.prog W = .ok (.tuple #[v, .bool true]) W := by kernel_rfl
theorem as_4_1 (v : Value) (W : World) : (Instr.typeAssert (.iface 167 v) 20 162 true).run Tryz.prog W = .ok (.tuple #[.agg #[.int .i64 0], .bool false]) W := by kernel_rfl
theorem as_4_2 (v : Value) (W : World) : (Instr.typeAssert (.iface 167 v) 20 164 true).run Tryz.prog W = .ok (.tuple #[.agg #[.int .i64 0, .int .i64 0], .bool false]) W := by kernel_rfl
theorem as_4_3 (v : Value) (W : World) : (Instr.typeAssert (.iface 167 v) 20 165 true).run Tryz.prog W = .ok (.tuple #[.agg #[.int .i64 0], .bool false]) W := by kernel_rfl
theorem as_4_4 (v : Value) (W : World) : (Instr.typeAssert (.iface 167 v) 20 167 true).run Tryz.prog W = .ok (.tuple #[v, .bool true]) W := by kernel_rfl
theorem as_5_1 (v : Value) (W : World) : (Instr.typeAssert (.iface 169 v) 20 162 true).run Tryz.prog W = .ok (.tuple #[.agg #[.int .i64 0], .bool false]) W := by kernel_rfl
theorem as_5_2 (v : Value) (W : World) : (Instr.typeAssert (.iface 169 v) 20 164 true).run Tryz.prog W = .ok (.tuple #[.agg #[.int .i64 0, .int .i64 0], .bool false]) W := by kernel_rfl
theorem as_5_3 (v : Value) (W : World) : (Instr.typeAssert (.iface 169 v) 20 165 true).run Tryz.prog W = .ok (.tuple #[.agg #[.int .i64 0], .bool false]) W := by kernel_rfl
theorem as_5_4 (v : Value) (W : World) : (Instr.typeAssert (.iface 169 v) 20 167 true).run Tryz.prog W = .ok (.tuple #[.agg #[.int .i64 0], .bool false]) W := by kernel_rfl
theorem as_5_5 (v : Value) (W : World) : (Instr.typeAssert (.iface 169 v) 20 169 true).run Tryz.prog W = .ok (.tuple #[v, .bool true]) W := by kernel_rfl
theorem as_6_1 (v : Value) (W : World) : (Instr.typeAssert (.iface 170 v) 20 162 true).run Tryz.prog W = .ok (.tuple #[.agg #[.int .i64 0], .bool false]) W := by kernel_rfl
theorem as_6_2 (v : Value) (W : World) : (Instr.typeAssert (.iface 170 v) 20 164 true).run Tryz.prog W = .ok (.tuple #[.agg #[.int .i64 0, .int .i64 0], .bool false]) W := by kernel_rfl
theorem as_6_3 (v : Value) (W : World) : (Instr.typeAssert (.iface 170 v) 20 165 true).run Tryz.prog W = .ok (.tuple #[.agg #[.int .i64 0], .bool false]) W := by kernel_rfl
theorem as_6_4 (v : Value) (W : World) : (Instr.typeAssert (.iface 170 v) 20 167 true).run Tryz.prog W = .ok (.tuple #[.agg #[.int .i64 0], .bool false]) W := by kernel_rfl
theorem as_6_5 (v : Value) (W : World) : (Instr.typeAssert (.iface 170 v) 20 169 true).run Tryz.prog W = .ok (.tuple #[.agg #[.string ⟨#[]⟩], .bool false]) W := by kernel_rfl
theorem as_6_6 (v : Value) (W : World) : (Instr.typeAssert (.iface 170 v) 20 170 true).run Tryz.prog W = .ok (.tuple #[v, .bool true]) W := by kernel_rfl
theorem as_7_1 (v : Value) (W : World) : (Instr.typeAssert (.iface 171 v) 20 162 true).run Tryz.prog W = .ok (.tuple #[.agg #[.int .i64 0], .bool false]) W := by kernel_rfl
theorem as_7_2 (v : Value) (W : World) : (Instr.typeAssert (.iface 171 v) 20 164 true).run Tryz.prog W = .ok (.tuple #[.agg #[.int .i64 0, .int .i64 0], .bool false]) W := by kernel_rfl
theorem as_7_3 (v : Value) (W : World) : (Instr.typeAssert (.iface 171 v) 20 165 true).run Tryz.prog W = .ok (.tuple #[.agg #[.int .i64 0], .bool false]) W := by kernel_rfl
theorem as_7_4 (v : Value) (W : World) : (Instr.typeAssert (.iface 171 v) 20 167 true).run Tryz.prog W = .ok (.tuple #[.agg #[.int .i64 0], .bool false]) W := by kernel_rfl
theorem as_7_5 (v : Value) (W : World) : (Instr.typeAssert (.iface 171 v) 20 169 true).run Tryz.prog W = .ok (.tuple #[.agg #[.string ⟨#[]⟩], .bool false]) W := by kernel_rfl
theorem as_7_6 (v : Value) (W : World) : (Instr.typeAssert (.iface 171 v) 20 170 true).run Tryz.prog W = .ok (.tuple #[.agg #[.string ⟨#[]⟩], .bool false]) W := by kernel_rfl
theorem as_7_7 (v : Value) (W : World) : (Instr.typeAssert (.iface 171 v) 20 171 true).run Tryz.prog W = .ok (.tuple #[v, .bool true]) W := by kernel_rfl
theorem as_8_1 (v : Value) (W : World) : (Instr.typeAssert (.iface 173 v) 20 162 true).run Tryz.prog W = .ok (.tuple #[.agg #[.int .i64 0], .bool false]) W := by kernel_rfl
theorem as_8_2 (v : Value) (W : World) : (Instr.typeAssert (.iface 173 v) 20 164 true).run Tryz.prog W = .ok (.tuple #[.agg #[.int .i64 0, .int .i64 0], .bool false]) W := by kernel_rfl
theorem as_8_3 (v : Value) (W : World) : (Instr.typeAssert (.iface 173 v) 20 165 true).run Tryz.prog W = .ok (.tuple #[.agg #[.int .i64 0], .bool false]) W := by kernel_rfl
theorem as_8_4 (v : Value) (W : World) : (Instr.typeAssert (.iface 173 v) 20 167 true).run Tryz.prog W = .ok (.tuple #[.agg #[.int .i64 0], .bool false]) W := by kernel_rfl
theorem as_8_5 (v : Value) (W : World) : (Instr.typeAssert (.iface 173 v) 20 169 true).run Tryz.prog W = .ok (.tuple #[.agg #[.string ⟨#[]⟩], .bool false]) W := by kernel_rfl
theorem as_8_6 (v : Value) (W : World) : (Instr.typeAssert (.iface 173 v) 20 170 true).run Tryz.prog W = .ok (.tuple #[.agg #[.string ⟨#[]⟩], .bool false]) W := by kernel_rfl
theorem as_8_7 (v : Value) (W : World) : (Instr.typeAssert (.iface 173 v) 20 171 true).run Tryz.prog W = .ok (.tuple #[.agg #[.string ⟨#[]⟩], .bool false]) W := by kernel_rfl
theorem res_q {fn : Func} {p : Tmp} {v0 v1 v2 v3 : Value} {x : Nat} {W : World} {tmps : Array Value} (h : fn.results = #[.cell p 48]) (hp : tmps.getD p undef = .pointer (some ⟨x, 0, none⟩)) (hv : W.heap[x]? = some (.cells #[v0, v1, v2, v3] 48 (0, 0))) :
    (results fn tmps).run Tryz.prog W = .ok (.agg #[v0, v1, v2, v3]) W := by
  obtain ⟨c0, c1, c2, c3⟩ := VarM.cells (t := 48) hv
  rw [Array.getD_eq_getD_getElem?] at hp
  simp [results, h, hp, go_sem, c0, c1, c2, c3]
theorem VarM.put4 {w W : World} {x t : Nat} {u0 u1 u2 u3 : Value} (h : VarM W x t u0 u1 u2 u3) (hb : Below w.heap.size w W) (hx : w.heap.size ≤ x) (v0 v1 v2 v3 : Value) :
    VarM ((((W.setCell ⟨x, 0, none⟩ v0).setCell ⟨x, 1, none⟩ v1).setCell ⟨x, 2, none⟩ v2).setCell ⟨x, 3, none⟩ v3) x t v0 v1 v2 v3 ∧ Below w.heap.size w ((((W.setCell ⟨x, 0, none⟩ v0).setCell ⟨x, 1, none⟩ v1).setCell ⟨x, 2, none⟩ v2).setCell ⟨x, 3, none⟩ v3) :=
  ⟨(((h.set0 _).set1 _).set2 _).set3 _, (((hb.setCell (p := ⟨x, 0, none⟩) hx _).setCell (p := ⟨x, 1, none⟩) hx _).setCell (p := ⟨x, 2, none⟩) hx _).setCell (p := ⟨x, 3, none⟩) hx _⟩

set_option maxHeartbeats 6400000 in
theorem plainReq_any (q : Rq) (w : World) : Calls Tryz.prog 98 #[usV q] w fun e w' => e = .returned (qV (plR q)) ∧ Below w.heap.size w w' := by
  have HA := hide (Joins.below_alloc1 w (.cells #[.int .i64 0, .int .i64 0, .int .i64 0, .string ⟨#[]⟩] 48))
  have HV := hide (VarM.new w 48 (.int .i64 0) (.int .i64 0) (.int .i64 0) (.string ⟨#[]⟩))
  obtain ⟨R, HR⟩ : ∃ R, Hid (R = qV (plR q)) := ⟨_, hide rfl⟩
  rw [← unhide HR]
  rcases rq_8 q with h | h | h | h | h | h | h | h
  · have HX := hide ((unhide HR).trans (pl_1 h))
    rw [us_1 h]
    clear HR h
    have a1 := as_1_1
    go_enter Tryz.func98, Tryz.ntmps98
    have HA2 := hide (fr (unhide HA) (Joins.below_alloc1 _ (.cells #[.int .i64 q.g] 162)))
    have HV2 := hide ((unhide HV).below (Joins.below_alloc1 _ (.cells #[.int .i64 q.g] 162)))
    have HC0 : Hid (((w.alloc (.cells #[.int .i64 0, .int .i64 0, .int .i64 0, .string ⟨#[]⟩] 48)).alloc (.cells #[.int .i64 q.g] 162)).cell? ⟨w.heap.size + 1, 0, none⟩ = some (.int .i64 q.g)) := hide (by simp)
    go_upto_region 4 with fail
    revert HC0
    revert HV2
    revert HA2
    generalize ((w.alloc _).alloc _) = W2
    intro HA2 HV2 HC0
    have k0 := unhide HC0
    have HP := hide ((unhide HV2).put4 (unhide HA2) (Nat.le_refl _) (.int .i64 1) (.int .i64 q.g) (.int .i64 0) (.string ⟨#[]⟩))
    obtain ⟨c0, c1, c2, c3⟩ := (unhide HV2).cells
    obtain ⟨f0, f1, f2, f3⟩ := (unhide HV2).free
    go_wp2
    refine bodyPost_ret (res_q Tryz.results98 rfl (unhide HP).1) rfl ⟨by rw [unhide HX], (unhide HP).2⟩
  · have HX := hide ((unhide HR).trans (pl_2 h))
    rw [us_2 h]
    clear HR h
    have a1 := as_2_1
    have a2 := as_2_2
    go_enter Tryz.func98, Tryz.ntmps98
    have HA2 := hide (fr (unhide HA) (Joins.below_alloc1 _ (.cells #[.int .i64 q.g, .int .i64 q.v] 164)))
    have HV2 := hide ((unhide HV).below (Joins.below_alloc1 _ (.cells #[.int .i64 q.g, .int .i64 q.v] 164)))
    have HC0 : Hid (((w.alloc (.cells #[.int .i64 0, .int .i64 0, .int .i64 0, .string ⟨#[]⟩] 48)).alloc (.cells #[.int .i64 q.g, .int .i64 q.v] 164)).cell? ⟨w.heap.size + 1, 0, none⟩ = some (.int .i64 q.g)) := hide (by simp)
    have HC1 : Hid (((w.alloc (.cells #[.int .i64 0, .int .i64 0, .int .i64 0, .string ⟨#[]⟩] 48)).alloc (.cells #[.int .i64 q.g, .int .i64 q.v] 164)).cell? ⟨w.heap.size + 1, 1, none⟩ = some (.int .i64 q.v)) := hide (by simp)
    go_upto_region 7 with fail
    revert HC0
    revert HC1
    revert HV2
    revert HA2
    generalize ((w.alloc _).alloc _) = W2
    intro HA2 HV2 HC1 HC0
    have k0 := unhide HC0
    have k1 := unhide HC1
    have HP := hide ((unhide HV2).put4 (unhide HA2) (Nat.le_refl _) (.int .i64 2) (.int .i64 q.g) (.int .i64 q.v) (.string ⟨#[]⟩))
    obtain ⟨c0, c1, c2, c3⟩ := (unhide HV2).cells
    obtain ⟨f0, f1, f2, f3⟩ := (unhide HV2).free
    go_wp2
    refine bodyPost_ret (res_q Tryz.results98 rfl (unhide HP).1) rfl ⟨by rw [unhide HX], (unhide HP).2⟩
  · have HX := hide ((unhide HR).trans (pl_3 h))
    rw [us_3 h]
    clear HR h
    have a1 := as_3_1
    have a2 := as_3_2
    have a3 := as_3_3
    go_enter Tryz.func98, Tryz.ntmps98
    have HA2 := hide (fr (unhide HA) (Joins.below_alloc1 _ (.cells #[.int .i64 q.g] 165)))
    have HV2 := hide ((unhide HV).below (Joins.below_alloc1 _ (.cells #[.int .i64 q.g] 165)))
    have HC0 : Hid (((w.alloc (.cells #[.int .i64 0, .int .i64 0, .int .i64 0, .string ⟨#[]⟩] 48)).alloc (.cells #[.int .i64 q.g] 165)).cell? ⟨w.heap.size + 1, 0, none⟩ = some (.int .i64 q.g)) := hide (by simp)
    go_upto_region 10 with fail
    revert HC0
    revert HV2
    revert HA2
    generalize ((w.alloc _).alloc _) = W2
    intro HA2 HV2 HC0
    have k0 := unhide HC0
    have HP := hide ((unhide HV2).put4 (unhide HA2) (Nat.le_refl _) (.int .i64 3) (.int .i64 q.g) (.int .i64 0) (.string ⟨#[]⟩))
    obtain ⟨c0, c1, c2, c3⟩ := (unhide HV2).cells
    obtain ⟨f0, f1, f2, f3⟩ := (unhide HV2).free
    go_wp2
    refine bodyPost_ret (res_q Tryz.results98 rfl (unhide HP).1) rfl ⟨by rw [unhide HX], (unhide HP).2⟩
  · have HX := hide ((unhide HR).trans (pl_4 h))
    rw [us_4 h]
    clear HR h
    have a1 := as_4_1
    have a2 := as_4_2
    have a3 := as_4_3
    have a4 := as_4_4
    go_enter Tryz.func98, Tryz.ntmps98
    have HA2 := hide (fr (unhide HA) (Joins.below_alloc1 _ (.cells #[.int .i64 q.g] 167)))
    have HV2 := hide ((unhide HV).below (Joins.below_alloc1 _ (.cells #[.int .i64 q.g] 167)))
    have HC0 : Hid (((w.alloc (.cells #[.int .i64 0, .int .i64 0, .int .i64 0, .string ⟨#[]⟩] 48)).alloc (.cells #[.int .i64 q.g] 167)).cell? ⟨w.heap.size + 1, 0, none⟩ = some (.int .i64 q.g)) := hide (by simp)
    go_upto_region 13 with fail
    revert HC0
    revert HV2
    revert HA2
    generalize ((w.alloc _).alloc _) = W2
    intro HA2 HV2 HC0
    have k0 := unhide HC0
    have HP := hide ((unhide HV2).put4 (unhide HA2) (Nat.le_refl _) (.int .i64 4) (.int .i64 q.g) (.int .i64 0) (.string ⟨#[]⟩))
    obtain ⟨c0, c1, c2, c3⟩ := (unhide HV2).cells
    obtain ⟨f0, f1, f2, f3⟩ := (unhide HV2).free
    go_wp2
    refine bodyPost_ret (res_q Tryz.results98 rfl (unhide HP).1) rfl ⟨by rw [unhide HX], (unhide HP).2⟩
  · have HX := hide ((unhide HR).trans (pl_5 h))
    rw [us_5 h]
    clear HR h
    have a1 := as_5_1
    have a2 := as_5_2
    have a3 := as_5_3
    have a4 := as_5_4
    have a5 := as_5_5
    go_enter Tryz.func98, Tryz.ntmps98
    have HA2 := hide (fr (unhide HA) (Joins.below_alloc1 _ (.cells #[.string q.n] 169)))
    have HV2 := hide ((unhide HV).below (Joins.below_alloc1 _ (.cells #[.string q.n] 169)))
    have HC0 : Hid (((w.alloc (.cells #[.int .i64 0, .int .i64 0, .int .i64 0, .string ⟨#[]⟩] 48)).alloc (.cells #[.string q.n] 169)).cell? ⟨w.heap.size + 1, 0, none⟩ = some (.string q.n)) := hide (by simp)
    go_upto_region 16 with fail
    revert HC0
    revert HV2
    revert HA2
    generalize ((w.alloc _).alloc _) = W2
    intro HA2 HV2 HC0
    have k0 := unhide HC0
    have HP := hide ((unhide HV2).put4 (unhide HA2) (Nat.le_refl _) (.int .i64 5) (.int .i64 0) (.int .i64 0) (.string q.n))
    obtain ⟨c0, c1, c2, c3⟩ := (unhide HV2).cells
    obtain ⟨f0, f1, f2, f3⟩ := (unhide HV2).free
    go_wp2
    refine bodyPost_ret (res_q Tryz.results98 rfl (unhide HP).1) rfl ⟨by rw [unhide HX], (unhide HP).2⟩
  · have HX := hide ((unhide HR).trans (pl_6 h))
    rw [us_6 h]
    clear HR h
    have a1 := as_6_1
    have a2 := as_6_2
    have a3 := as_6_3
    have a4 := as_6_4
    have a5 := as_6_5
    have a6 := as_6_6
    go_enter Tryz.func98, Tryz.ntmps98
    have HA2 := hide (fr (unhide HA) (Joins.below_alloc1 _ (.cells #[.string q.n] 170)))
    have HV2 := hide ((unhide HV).below (Joins.below_alloc1 _ (.cells #[.string q.n] 170)))
    have HC0 : Hid (((w.alloc (.cells #[.int .i64 0, .int .i64 0, .int .i64 0, .string ⟨#[]⟩] 48)).alloc (.cells #[.string q.n] 170)).cell? ⟨w.heap.size + 1, 0, none⟩ = some (.string q.n)) := hide (by simp)
    go_upto_region 19 with fail
    revert HC0
    revert HV2
    revert HA2
    generalize ((w.alloc _).alloc _) = W2
    intro HA2 HV2 HC0
    have k0 := unhide HC0
    have HP := hide ((unhide HV2).put4 (unhide HA2) (Nat.le_refl _) (.int .i64 6) (.int .i64 0) (.int .i64 0) (.string q.n))
    obtain ⟨c0, c1, c2, c3⟩ := (unhide HV2).cells
    obtain ⟨f0, f1, f2, f3⟩ := (unhide HV2).free
    go_wp2
    refine bodyPost_ret (res_q Tryz.results98 rfl (unhide HP).1) rfl ⟨by rw [unhide HX], (unhide HP).2⟩
  · have HX := hide ((unhide HR).trans (pl_7 h))
    rw [us_7 h]
    clear HR h
    have a1 := as_7_1
    have a2 := as_7_2
    have a3 := as_7_3
    have a4 := as_7_4
    have a5 := as_7_5
    have a6 := as_7_6
    have a7 := as_7_7
    go_enter Tryz.func98, Tryz.ntmps98
    have HA2 := hide (fr (unhide HA) (Joins.below_alloc1 _ (.cells #[.string q.n] 171)))
    have HV2 := hide ((unhide HV).below (Joins.below_alloc1 _ (.cells #[.string q.n] 171)))
    have HC0 : Hid (((w.alloc (.cells #[.int .i64 0, .int .i64 0, .int .i64 0, .string ⟨#[]⟩] 48)).alloc (.cells #[.string q.n] 171)).cell? ⟨w.heap.size + 1, 0, none⟩ = some (.string q.n)) := hide (by simp)
    go_upto_region 22 with fail
    revert HC0
    revert HV2
    revert HA2
    generalize ((w.alloc _).alloc _) = W2
    intro HA2 HV2 HC0
    have k0 := unhide HC0
    have HP := hide ((unhide HV2).put4 (unhide HA2) (Nat.le_refl _) (.int .i64 7) (.int .i64 0) (.int .i64 0) (.string q.n))
    obtain ⟨c0, c1, c2, c3⟩ := (unhide HV2).cells
    obtain ⟨f0, f1, f2, f3⟩ := (unhide HV2).free
    go_wp2
    refine bodyPost_ret (res_q Tryz.results98 rfl (unhide HP).1) rfl ⟨by rw [unhide HX], (unhide HP).2⟩
  · have HX := hide ((unhide HR).trans (pl_8 h))
    rw [us_8 h]
    clear HR h
    have a1 := as_8_1
    have a2 := as_8_2
    have a3 := as_8_3
    have a4 := as_8_4
    have a5 := as_8_5
    have a6 := as_8_6
    have a7 := as_8_7
    go_enter Tryz.func98, Tryz.ntmps98
    have HA2 := HA
    have HV2 := HV
    go_upto_region 23 with fail
    revert HV2
    revert HA2
    generalize (w.alloc _) = W2
    intro HA2 HV2
    have HP := hide ((unhide HV2).put4 (unhide HA2) (Nat.le_refl _) (.int .i64 8) (.int .i64 0) (.int .i64 0) (.string ⟨#[]⟩))
    obtain ⟨c0, c1, c2, c3⟩ := (unhide HV2).cells
    obtain ⟨f0, f1, f2, f3⟩ := (unhide HV2).free
    go_wp2
    refine bodyPost_ret (res_q Tryz.results98 rfl (unhide HP).1) rfl ⟨by rw [unhide HX], (unhide HP).2⟩

theorem eqR_run (a b : Rq) (W : World) : (binOp .eql 48 (qV a) (qV b)).run Tryz.prog W = .ok (.bool (eqR a b)) W := by
  have u1 := Tryz.underlying48
  have u2 := Tryz.underlying3
  have u3 := Tryz.underlying9
  rw [run_eql_struct, run_equalIn_struct W 9999 48 _ _ (by kernel_rfl) (by kernel_rfl)]
  cases h1 : a.k == b.k <;> cases h2 : a.g == b.g <;> cases h3 : a.v == b.v <;> cases h4 : a.n.toList == b.n.toList <;> simp [Op.eqFields, Program.fieldsOf, u1, u2, u3, part, sizeOf, typeInfo, go_sem, eqR, h1, h2, h3, h4]

end Go.Proofs.YtjjkppknojecjaaGreatDoor

namespace Go.Proofs.YtjjkppknojecjaaGreatDoor
open Go.RowKit
set_option linter.unusedVariables false

section
variable {P : Program} {Q : Exit → Act → World → Prop} {S S' : World → Prop} {C : Act → World → Prop} {l : List Oper} {hl : List Nat}
end

end Go.Proofs.YtjjkppknojecjaaGreatDoor

namespace Go.Proofs.YtjjkppknojecjaaGreatDoor
open Go.RowKit
set_option linter.unusedVariables false
set_option maxRecDepth 100000

set_option maxHeartbeats 3200000 in
theorem reqOK_impl (q : Rq) (w : World) (hz : q.n.size ≤ maxLen) : Calls Tryz.prog 58 #[qV q] w fun e w' => e = .returned (.bool (rqB q)) ∧ Below w.heap.size w w' := by
  have HA := hide (Joins.below_alloc1 w (.cells #[.int .i64 q.k, .int .i64 q.g, .int .i64 q.v, .string q.n] 48))
  have HV := hide (VarM.new w 48 (.int .i64 q.k) (.int .i64 q.g) (.int .i64 q.v) (.string q.n))
  obtain ⟨R, HR⟩ : ∃ R, Hid (rqB q = R) := ⟨_, hide rfl⟩
  have HPL := hide (rq_plain q)
  rw [unhide HR] at HPL ⊢
  unfold maxLen at hz
  go_enter Tryz.func58, Tryz.ntmps58
  go_upto_region 1 with fail
  revert HA HV
  generalize (w.alloc _) = W0
  intro HA HV
  obtain ⟨c0, c1, c2, c3⟩ := (unhide HV).cells
  cases hs : decide (q.n.size ≤ 65536)
  · have hd : decide ((q.n.size : Int) ≤ 65536) = false := by rw [← hs]; congr 1; simp; omega
    have HF : Hid (R = false) := hide (by have := unhide HPL; rw [hs] at this; exact this.symm)
    clear hs
    go_quiet (fail)
    generalize hW : (World.drewN _ _) = W1
    have HB : Hid (Below w.heap.size w W1) := hide (by rw [← hW]; exact (unhide HA).trans (Joins.below_draws _ _ _))
    clear hW
    go_wp2
    go_ret
    exact ⟨ret_bool (unhide HF).symm, unhide HB⟩
  · have hd : decide ((q.n.size : Int) ≤ 65536) = true := by rw [← hs]; congr 1; simp; omega
    have HF : Hid (R = eqR (plR q) q) := hide (by have := unhide HPL; rw [hs] at this; simpa using this.symm)
    have heq := eqR_run (plR q) q
    clear hs c0 c1 c2 c3
    have hS0 : VarR W0.drew w.heap.size q := (unhide HV).below (Below.refl _ _).drew
    refine wp_region_ord (fun w' => VarR w' w.heap.size q) [0, 1, 2, 3, 4, 5, 8, 6, 7, 9, 10, 11] [(0, 0), (1, 0), (2, 0), (3, 0), (4, 0), (5, 0), (8, 0), (6, 2), (7, 2), (9, 0), (10, 0), (11, 0)] (by kernel_rfl) (by kernel_rfl) rfl (by kernel_rfl) ?_
    refine ord_read (.pointer (some ⟨w.heap.size, 3, none⟩)) rfl rfl hS0 (fun W hW => by go_simp) ?_
    refine ord_read (.string q.n) rfl rfl hS0 (fun W hW => by obtain ⟨k0, k1, k2, k3⟩ := hW.cells; go_simp) ?_
    refine ord_read (.int .i64 q.n.size) rfl rfl hS0 (fun W hW => by go_simp) ?_
    refine ord_read (.bool true) rfl rfl hS0 (fun W hW => by go_simp) ?_
    refine ord_read (.bool true) rfl rfl hS0 (fun W hW => by go_simp) ?_
    refine ordG_read (qV q) rfl rfl hS0 (fun W hW => by obtain ⟨k0, k1, k2, k3⟩ := hW.cells; go_simp) ?_
    refine ordG_read (qV q) rfl rfl hS0 (fun W hW => by obtain ⟨k0, k1, k2, k3⟩ := hW.cells; go_simp) ?_
    refine ordG_held rfl rfl ?_
    intro K hK
    unfold Oper.wp
    go_simp
    refine (useOf_any q _).mono ?_
    rintro e w1 ⟨rfl, hb⟩
    have HB1 := hide (fr (fr (unhide HA) (Below.refl _ _).drew) hb)
    have HS1 := hide (hS0.below hb)
    clear hb
    refine hK _ _ (unhide HS1) ?_
    clear hK K hS0
    refine ordG_held rfl rfl ?_
    intro K hK
    unfold Oper.wp
    go_simp
    refine (plainReq_any q _).mono ?_
    rintro e w2 ⟨rfl, hb⟩
    have HB2 := hide (fr (unhide HB1) hb)
    have hS2 := (unhide HS1).below hb
    clear hb
    refine hK _ _ hS2 ?_
    clear hK K
    refine ordG_read (.bool (eqR (plR q) q)) rfl rfl hS2 (fun W hW => by have := heq W; go_simp) ?_
    refine ord_read (.bool (eqR (plR q) q)) rfl rfl hS2 (fun W hW => by go_simp) ?_
    refine ord_read (.bool (eqR (plR q) q)) rfl rfl hS2 (fun W hW => by go_simp) ?_
    refine ord_done ?_
    generalize eqR (plR q) q = E at *
    go_wp2
    go_ret
    exact ⟨ret_bool (unhide HF).symm, unhide HB2⟩

end Go.Proofs.YtjjkppknojecjaaGreatDoor

namespace Go.Proofs.YtjjkppknojecjaaGreatDoor
open Go.RowKit
set_option linter.unusedVariables false
set_option maxRecDepth 100000

def VarHs (w : World) (x : Nat) (h : Hst) : Prop := w.heap[x]? = some (.cells #[.int .i64 h.st, .int .i64 h.gen, .int .i64 h.ren] 88 (0, 0))
theorem VarHs.cells {w : World} {x : Nat} {h : Hst} (k : VarHs w x h) : w.cell? ⟨x, 0, none⟩ = some (.int .i64 h.st) ∧ w.cell? ⟨x, 1, none⟩ = some (.int .i64 h.gen) ∧ w.cell? ⟨x, 2, none⟩ = some (.int .i64 h.ren) := ⟨by rw [Joins.cell_of_block k]; rfl, by rw [Joins.cell_of_block k]; rfl, by rw [Joins.cell_of_block k]; rfl⟩
theorem VarHs.new (w : World) (h : Hst) : VarHs (w.alloc (.cells #[.int .i64 h.st, .int .i64 h.gen, .int .i64 h.ren] 88)) w.heap.size h := heap_alloc_new w _

set_option maxHeartbeats 3200000 in
theorem hostsOK_any (ho : Option Addr) (hc : Nat) (hs : List Hst) (t : Int) (w : World) (hl : hs.length ≤ maxLen) (hS : Hss w ho hs) :
    Calls Tryz.prog 56 #[.slice ho hs.length hc, .int .i64 t] w fun e w' => e = .returned (.bool (hsB hs t)) ∧ Below w.heap.size w w' := by
  have HC := hide hS
  clear hS
  unfold maxLen at hl
  by_cases h4 : hs.length = 4
  rotate_left
  · have HF := hide (hs_len (t := t) h4)
    have h4i : ((hs.length : Int) != 4) = true := by simp; omega
    go_enter Tryz.func56, Tryz.ntmps56
    go_wp2
    go_ret
    exact ⟨ret_bool (unhide HF).symm, Below.refl _ _⟩
  have h4i : ((hs.length : Int) != 4) = false := by simp; omega
  have H4 := hide h4
  clear h4
  go_enter Tryz.func56, Tryz.ntmps56
  go_wp2
  go_loopw [12] (fun i wr => ∃ k : Nat, k ≤ hs.length ∧ i = .int .i64 k ∧ Hid (∀ j (hj : j < hs.length), j < k → hs1 t hs[j] = true) ∧ Hid (Below w.heap.size w wr)) (fun i _ => hs.length - (intOf i).toNat)
  case atStart => exact ⟨0, Nat.zero_le _, rfl, hide (fun j _ h => by omega), hide (Below.refl _ _)⟩
  case round =>
    obtain ⟨k, hk, rfl, HS, HB⟩ := hrel
    by_cases hlt : k < hs.length
    · obtain ⟨b, off, rfl, hn0, hn1, hn2⟩ := ((unhide HC).below (unhide HB)) k hlt
      have HA := hide (Joins.below_alloc1 wr (.cells #[.int .i64 hs[k].st, .int .i64 hs[k].gen, .int .i64 hs[k].ren] 88))
      have HV := hide (VarHs.new wr hs[k])
      have HBA := hide (fr (unhide HB) (unhide HA))
      have HX := hide (fun h => hs_bad (t := t) hlt h)
      have HY : Hid (hs1 t hs[k] = true → ∀ j (hj : j < hs.length), j < k + 1 → hs1 t hs[j] = true) := hide (fun h j hj hjk => by
        by_cases e : j = k
        · subst e; exact h
        · exact unhide HS j hj (by omega))
      go_upto_region 6 with fail
      revert HX HY
      revert HA HV HBA
      generalize (wr.alloc _) = W0
      generalize hs[k] = x
      intro HA HV HBA HX HY
      clear hn0 hn1 hn2
      obtain ⟨c0, c1, c2⟩ := (unhide HV).cells
      cases h1 : betw x.st 0 2
      · have HF := hide (unhide HX (hs1_1 h1))
        go_wp2_with (go_at_call 55; refine (within_any _ _ _ _).mono ?_; rintro e w' ⟨rfl, hw⟩; replace hw := hw.symm; subst hw; rw [h1])
        go_ret
        exact ⟨ret_bool (unhide HF).symm, unhide HBA⟩
      · go_wp2_with fail
        refine (within_any _ _ _ _).mono ?_
        rintro e w2 ⟨rfl, hw⟩
        replace hw := hw.symm
        subst hw
        rw [h1]
        cases h2 : betw x.gen 0 1000000
        · have HF := hide (unhide HX (hs1_2 h2))
          go_wp2_with (go_at_call 55; refine (within_any _ _ _ _).mono ?_; rintro e w' ⟨rfl, hw⟩; replace hw := hw.symm; subst hw; rw [h2])
          go_ret
          exact ⟨ret_bool (unhide HF).symm, unhide HBA⟩
        · have HE := hide (hs1_3 (t := t) h1 h2)
          go_wp2_with fail
          refine (within_any _ _ _ _).mono ?_
          rintro e w2 ⟨rfl, hw⟩
          replace hw := hw.symm
          subst hw
          rw [h2]
          cases h3 : betw x.ren 0 t
          · have HF := hide (unhide HX ((unhide HE).trans h3))
            go_wp2_with (go_at_call 55; refine (within_any _ _ _ _).mono ?_; rintro e w' ⟨rfl, hw⟩; replace hw := hw.symm; subst hw; rw [h3])
            go_ret
            exact ⟨ret_bool (unhide HF).symm, unhide HBA⟩
          · have HS' := hide (unhide HY ((unhide HE).trans h3))
            go_wp2_with (go_at_call 55; refine (within_any _ _ _ _).mono ?_; rintro e w' ⟨rfl, hw⟩; replace hw := hw.symm; subst hw; rw [h3])
            go_roundw
            case rel => exact ⟨k + 1, by omega, by go_num, HS', HBA⟩
            case measure => simp [intOf]; omega
    · have HF := hide (hs_all (t := t) (unhide H4) (fun j h => unhide HS j h (by omega)))
      go_wp2
      go_ret
      exact ⟨ret_bool (unhide HF).symm, unhide HB⟩

set_option maxHeartbeats 12800000 in
theorem worldOK_impl (a : Wl4) (m : Wld) (w : World) (hL : WlL m) (hc : WlS w a m) :
    Calls Tryz.prog 22 #[wlV a m] w fun e w' => e = .returned (.bool (wokB m)) ∧ Below w.heap.size w w' := by
  have HB0 := hide (Joins.below_alloc1 w (.cells (wlC a m) 50))
  have HV0 := hide (VarW.new w 50 a m)
  have HC0 := hide (hc.below (unhide HB0))
  have HL := hide hL
  have heq := eqR_run m.q ⟨0, 0, 0, noB⟩
  obtain ⟨R, HR⟩ : ∃ R, Hid (R = wokB m) := ⟨_, hide rfl⟩
  rw [← unhide HR]
  clear hc hL
  go_enter Tryz.func22, Tryz.ntmps22
  go_upto_region 1 with fail
  revert HB0 HV0 HC0
  generalize (w.alloc _) = W0
  intro HB0 HV0 HC0
  obtain ⟨c0, c1, c2, c3, c4, c5, c6, c7, c8, c9, c10, c11, c12, c13, c14⟩ := (unhide HV0).cells
  go_wp2_with fail
  refine (diskOK_impl a.ao a.bo a.ca a.cb m.ss m.xs _ (unhide HL).s (unhide HL).i (unhide HC0).s (unhide HC0).i).mono ?_
  rintro e w1 ⟨rfl, hb⟩
  have HV1 := hide ((unhide HV0).below hb)
  have HC1 := hide ((unhide HC0).below hb)
  have HB1 := hide (fr (unhide HB0) hb)
  clear hb HV0 HC0 HB0 c0 c1 c2 c3 c4 c5 c6 c7 c8 c9 c10 c11 c12 c13 c14
  cases hd0 : diskB m.ss m.xs
  · have HF : Hid (R = false) := hide (by rw [unhide HR]; exact wok_0 hd0)
    clear hd0
    go_wp2
    go_ret
    exact ⟨ret_bool (unhide HF).symm, unhide HB1⟩
  have D0 := hide hd0
  clear hd0
  by_cases hx : m.xs.length = 0
  rotate_left
  · have hxi : ((m.xs.length : Int) == 0) = false := by rw [beq_eq_false_iff_ne]; omega
    have HF : Hid (R = false) := hide (by rw [unhide HR]; exact wok_x hx)
    clear hx
    obtain ⟨c0, c1, c2, c3, c4, c5, c6, c7, c8, c9, c10, c11, c12, c13, c14⟩ := (unhide HV1).cells
    go_wp2
    go_ret
    exact ⟨ret_bool (unhide HF).symm, unhide HB1⟩
  have hxi : ((m.xs.length : Int) == 0) = true := by rw [beq_iff_eq]; omega
  have HX := hide hx
  clear hx
  obtain ⟨c0, c1, c2, c3, c4, c5, c6, c7, c8, c9, c10, c11, c12, c13, c14⟩ := (unhide HV1).cells
  go_wp2_with fail
  refine (configOK_impl m.cf m.cd m.cl m.cr _).mono ?_
  rintro e w2 ⟨rfl, hb⟩
  have HV2 := hide ((unhide HV1).below hb)
  have HC2 := hide ((unhide HC1).below hb)
  have HB2 := hide (fr (unhide HB1) hb)
  clear hb HV1 HC1 HB1 c0 c1 c2 c3 c4 c5 c6 c7 c8 c9 c10 c11 c12 c13 c14
  cases hd1 : cokB m.cf m.cd m.cl m.cr
  · have HF : Hid (R = false) := hide (by rw [unhide HR]; exact wok_1 hd1)
    clear hd1
    go_wp2
    go_ret
    exact ⟨ret_bool (unhide HF).symm, unhide HB2⟩
  have D1 := hide hd1
  clear hd1
  clear hxi
  obtain ⟨c0, c1, c2, c3, c4, c5, c6, c7, c8, c9, c10, c11, c12, c13, c14⟩ := (unhide HV2).cells
  go_wp2_with fail
  refine (within_any _ _ _ _).mono ?_
  rintro e w3 ⟨rfl, hw⟩
  replace hw := hw.symm
  subst hw
  have HV3 := HV2
  have HC3 := HC2
  have HB3 := HB2
  clear HV2 HC2 HB2 c0 c1 c2 c3 c4 c5 c6 c7 c8 c9 c10 c11 c12 c13 c14
  cases hd2 : betw m.t 0 1000000
  · have HF : Hid (R = false) := hide (by rw [unhide HR]; exact wok_2 hd2)
    clear hd2
    go_wp2
    go_ret
    exact ⟨ret_bool (unhide HF).symm, unhide HB3⟩
  have D2 := hide hd2
  clear hd2
  obtain ⟨c0, c1, c2, c3, c4, c5, c6, c7, c8, c9, c10, c11, c12, c13, c14⟩ := (unhide HV3).cells
  go_wp2_with fail
  refine (hostsOK_any a.ho a.hc m.hs m.t _ (unhide HL).h (unhide HC3).h).mono ?_
  rintro e w4 ⟨rfl, hb⟩
  have HV4 := hide ((unhide HV3).below hb)
  have HC4 := hide ((unhide HC3).below hb)
  have HB4 := hide (fr (unhide HB3) hb)
  clear hb HV3 HC3 HB3 c0 c1 c2 c3 c4 c5 c6 c7 c8 c9 c10 c11 c12 c13 c14
  cases hd3 : hsB m.hs m.t
  · have HF : Hid (R = false) := hide (by rw [unhide HR]; exact wok_3 hd3)
    clear hd3
    go_wp2
    go_ret
    exact ⟨ret_bool (unhide HF).symm, unhide HB4⟩
  have D3 := hide hd3
  clear hd3
  obtain ⟨c0, c1, c2, c3, c4, c5, c6, c7, c8, c9, c10, c11, c12, c13, c14⟩ := (unhide HV4).cells
  go_wp2_with fail
  refine (guestOK_impl a.ga m.g _ (unhide HL).g (unhide HC4).g).mono ?_
  rintro e w5 ⟨rfl, hb⟩
  have HV5 := hide ((unhide HV4).below hb)
  have HC5 := hide ((unhide HC4).below hb)
  have HB5 := hide (fr (unhide HB4) hb)
  clear hb HV4 HC4 HB4 c0 c1 c2 c3 c4 c5 c6 c7 c8 c9 c10 c11 c12 c13 c14
  cases hd4 : gsB m.g
  · have HF : Hid (R = false) := hide (by rw [unhide HR]; exact wok_4 hd4)
    clear hd4
    go_wp2
    go_ret
    exact ⟨ret_bool (unhide HF).symm, unhide HB5⟩
  have D4 := hide hd4
  clear hd4
  have HE : Hid (R = maybB m.q) := hide (by rw [unhide HR]; exact wok_all (unhide D0) (unhide HX) (unhide D1) (unhide D2) (unhide D3) (unhide D4))
  obtain ⟨c0, c1, c2, c3, c4, c5, c6, c7, c8, c9, c10, c11, c12, c13, c14⟩ := (unhide HV5).cells
  cases hq : eqR m.q ⟨0, 0, 0, noB⟩
  · have HF : Hid (R = rqB m.q) := hide (by rw [unhide HE]; exact mayb_no hq)
    rw [hq] at heq
    go_wp2_with fail
    refine (reqOK_impl m.q _ (unhide HL).q).mono ?_
    rintro e w6 ⟨rfl, hb⟩
    have HB6 := hide (fr (unhide HB5) hb)
    clear hb
    go_wp2
    go_ret
    exact ⟨ret_bool (unhide HF).symm, unhide HB6⟩
  · have HF : Hid (R = true) := hide (by rw [unhide HE]; exact mayb_yes hq)
    rw [hq] at heq
    go_wp2
    go_ret
    exact ⟨ret_bool (unhide HF).symm, unhide HB5⟩

end Go.Proofs.YtjjkppknojecjaaGreatDoor

namespace Go.Proofs.YtjjkppknojecjaaGreatDoor
open Go.RowKit
set_option linter.unusedVariables false
set_option maxRecDepth 100000

end Go.Proofs.YtjjkppknojecjaaGreatDoor

namespace Go.Proofs.YtjjkppknojecjaaGreatDoor
open Go.RowKit
set_option linter.unusedVariables false
set_option maxRecDepth 100000

end Go.Proofs.YtjjkppknojecjaaGreatDoor

namespace Go.Proofs.YtjjkppknojecjaaGreatDoor
open Go.RowKit
set_option linter.unusedVariables false
set_option maxRecDepth 100000

end Go.Proofs.YtjjkppknojecjaaGreatDoor

namespace Go.Proofs.YtjjkppknojecjaaGreatDoor
open Go.RowKit
set_option linter.unusedVariables false
set_option maxRecDepth 100000

end Go.Proofs.YtjjkppknojecjaaGreatDoor

namespace Go.Proofs.YtjjkppknojecjaaGreatDoor
open Go.RowKit
set_option linter.unusedVariables false
set_option maxRecDepth 100000

theorem lat_spec (r x : Int) (w : World) (hr0 : 0 ≤ r) (hr : r ≤ 500) (hx0 : 0 ≤ x) (hx : x ≤ 100000) :
    Calls Tryz.prog 77 #[.int .i64 r, .int .i64 x] w fun e w' => e = .returned (.int .i64 (latQ r x)) ∧ w' = w := by
  have t1 : ((x + 1) * 1000 + 999 - r).tdiv (1000 - r) = latQ r x := Int.tdiv_eq_ediv_of_nonneg (by omega)
  have hn : ¬ (1000 - r = 0) := by omega
  have hn' : ((1000 - r : Int) == 0) = false := by simp; omega
  have q0 : 0 ≤ latQ r x := Int.ediv_nonneg (by omega) (by omega)
  have q1 : latQ r x ≤ 200000000 := Int.le_trans (Int.ediv_le_self _ (by omega)) (by omega)
  have w5 : IntKind.i64.wrap (latQ r x) = latQ r x := by rw [IntKind.wrap_i64]; omega
  go_enter Tryz.func77, Tryz.ntmps77
  go_wp2
  go_ret
  exact ⟨rfl, rfl⟩
theorem ear_spec (r x : Int) (w : World) (hr0 : 0 ≤ r) (hr : r ≤ 500) (hx0 : 1 ≤ x) (hx : x ≤ 100000) :
    Calls Tryz.prog 78 #[.int .i64 r, .int .i64 x] w fun e w' => e = .returned (.int .i64 (earQ r x)) ∧ w' = w := by
  have t1 : ((x - 1) * 1000).tdiv (1000 + r) = earQ r x := Int.tdiv_eq_ediv_of_nonneg (by omega)
  have hn : ¬ (1000 + r = 0) := by omega
  have hn' : ((1000 + r : Int) == 0) = false := by simp; omega
  have q0 : 0 ≤ earQ r x := Int.ediv_nonneg (by omega) (by omega)
  have q1 : earQ r x ≤ 200000000 := Int.le_trans (Int.ediv_le_self _ (by omega)) (by omega)
  have w5 : IntKind.i64.wrap (earQ r x) = earQ r x := by rw [IntKind.wrap_i64]; omega
  go_enter Tryz.func78, Tryz.ntmps78
  go_wp2
  go_ret
  exact ⟨rfl, rfl⟩

end Go.Proofs.YtjjkppknojecjaaGreatDoor

namespace Go.Proofs.YtjjkppknojecjaaGreatDoor
open Go.RowKit
set_option linter.unusedVariables false
set_option maxRecDepth 100000

theorem bounds_four (b : Nat) (f d l r : Int) (w : World) (h : Four w b f d l r) :
    Calls Tryz.prog 76 #[cfgV f d l r] w fun e w' => e = .returned (.bool (cfgB f d l r)) ∧ Four w' b f d l r ∧ Hid (Below w.heap.size w w') :=
  (bounds_spec f d l r w).mono fun e w' ⟨h1, h2⟩ => ⟨h1, h.below h2, hidB h2⟩

set_option maxHeartbeats 1600000 in
theorem configOK_spec_yes (f d l r : Int) (w : World) (hb : cfgB f d l r = true) : Calls Tryz.prog 35 #[cfgV f d l r] w fun e w' => e = .returned (.bool (cokB f d l r)) ∧ Below w.heap.size w w' := by
  have f0 := fieldC0 f d l r
  have f1 := fieldC1 f d l r
  have f2 := fieldC2 f d l r
  have f3 := fieldC3 f d l r
  have HA : Hid (Below w.heap.size w (w.alloc (.cells #[.int .i64 f, .int .i64 d, .int .i64 l, .int .i64 r] 43))) := hidB (Joins.below_alloc1 w _)
  have HF : Hid (Four (w.alloc (.cells #[.int .i64 f, .int .i64 d, .int .i64 l, .int .i64 r] 43)) w.heap.size f d l r) := hidB ⟨by simp [go_sem], by simp [go_sem], by simp [go_sem], by simp [go_sem]⟩
  have hr := hidB (cok_yes hb)
  obtain ⟨⟨bf0, bf1⟩, ⟨bd0, bd1⟩, ⟨bl0, bl1⟩, br0, br1⟩ := cfgB_iff.1 hb
  obtain ⟨ql0, ql1⟩ := latQ_le (x := f) br0 br1 (by omega) (by omega)
  obtain ⟨qe0, qe1⟩ := earQ_le (x := d) br0 br1 (by omega) (by omega)
  have wr : IntKind.i64.wrap (latQ r f + l) = latQ r f + l := by rw [IntKind.wrap_i64]; omega
  go_enter Tryz.func35, Tryz.ntmps35
  go_wp2_with fail
  revert HA HF
  generalize w.alloc (.cells #[.int .i64 f, .int .i64 d, .int .i64 l, .int .i64 r] 43) = W0
  generalize hBe : w.heap.size = B
  intro HA HF
  replace hBe := hidB hBe
  obtain ⟨c0, c1, c2, c3⟩ := show Four _ _ _ _ _ _ from HF
  go_region_held3 (fun w' => w'.cell? ⟨B, 0, none⟩ = some (.int .i64 f) ∧ w'.cell? ⟨B, 1, none⟩ = some (.int .i64 d) ∧ w'.cell? ⟨B, 2, none⟩ = some (.int .i64 l) ∧ w'.cell? ⟨B, 3, none⟩ = some (.int .i64 r)) (go_keep)
    (first
      | (go_at_call 76; refine (bounds_four B f d l r _ ⟨?_, ?_, ?_, ?_⟩).mono ?_; (simp [*]); (simp [*]); (simp [*]); (simp [*]); rintro e wA ⟨rfl, ⟨hA0, hA2, hA3, hA4⟩, hA1⟩)
      | (go_at_call 77; refine (lat_spec r f _ (by omega) (by omega) (by omega) (by omega)).mono ?_; rintro e wC ⟨rfl, rfl⟩)
      | (go_at_call 78; refine (ear_spec r d _ (by omega) (by omega) (by omega) (by omega)).mono ?_; rintro e wD ⟨rfl, rfl⟩))
  have HW : Hid (Below w.heap.size w wD) := hidB (frB (frB (b := W0) (by rw [show w.heap.size = B from hBe]; exact HA) ((Below.refl _ W0).drew)) hA1)
  go_wp2
  go_ret
  rw [show cokB f d l r = decide (latQ r f + l < earQ r d) from hr]
  exact ⟨rfl, HW⟩

end Go.Proofs.YtjjkppknojecjaaGreatDoor

namespace Go.Proofs.YtjjkppknojecjaaGreatDoor
open Go.RowKit
set_option linter.unusedVariables false
set_option maxRecDepth 100000

end Go.Proofs.YtjjkppknojecjaaGreatDoor

namespace Go.Proofs.YtjjkppknojecjaaGreatDoor
open Go.RowKit
set_option linter.unusedVariables false
set_option maxRecDepth 100000

end Go.Proofs.YtjjkppknojecjaaGreatDoor

namespace Go.Proofs.YtjjkppknojecjaaGreatDoor
open Go.RowKit
set_option linter.unusedVariables false
set_option maxRecDepth 100000

end Go.Proofs.YtjjkppknojecjaaGreatDoor

namespace Go.Proofs.YtjjkppknojecjaaGreatDoor
set_option linter.unusedVariables false

end Go.Proofs.YtjjkppknojecjaaGreatDoor

namespace Go.Proofs.YtjjkppknojecjaaGreatDoor
open Go.RowKit
set_option linter.unusedVariables false

end Go.Proofs.YtjjkppknojecjaaGreatDoor

namespace Go.Proofs.YtjjkppknojecjaaGreatDoor
open Go.RowKit
set_option linter.unusedVariables false
set_option maxRecDepth 100000

set_option maxHeartbeats 1600000 in
theorem hostFault_any (ao bo : Option Addr) (ca cb : Nat) (ss : List ByteArray) (xs : List Wr) (h : Int) (w : World) (hl : ss.length ≤ maxLen) (hm : xs.length ≤ maxLen) (h1 : Ss w ao ss) (h2 : Ios w bo xs) :
    Calls Tryz.prog 59 #[.agg #[.slice ao ss.length ca, .slice bo xs.length cb], .int .i64 h] w fun e w' => e = .returned (.int .i64 (hostC ss xs h)) ∧ Below w.heap.size w w' := by
  have HA := hide (Joins.below_alloc1 w (.cells #[.slice ao ss.length ca, .slice bo xs.length cb] 42))
  have H1 := hide (h1.below (unhide HA))
  have H2 := hide (h2.below (unhide HA))
  have HL := hide hl
  have HM := hide hm
  clear h1 h2 hl hm
  cases hd : diskB ss xs
  · have H := hide (hostC_bad (h := h) hd)
    go_enter Tryz.func59, Tryz.ntmps59
    go_wp2_with fail
    refine (diskOK_impl _ _ _ _ ss xs _ (unhide HL) (unhide HM) (unhide H1) (unhide H2)).mono ?_
    rintro e w1 ⟨rfl, hb⟩
    have HB := hide (fr (unhide HA) hb)
    clear hb
    go_wp2
    go_ret
    exact ⟨ret_int (unhide H).symm, unhide HB⟩
  · cases hh : inB h 0 3
    · have H := hide (hostC_range hd hh)
      go_enter Tryz.func59, Tryz.ntmps59
      go_wp2_with fail
      refine (diskOK_impl _ _ _ _ ss xs _ (unhide HL) (unhide HM) (unhide H1) (unhide H2)).mono ?_
      rintro e w1 ⟨rfl, hb⟩
      have HB := hide (fr (unhide HA) hb)
      clear hb
      go_wp2_with (go_at_call 100; refine (hostOK_any _ _).mono ?_; rintro e w' ⟨rfl, rfl⟩)
      go_ret
      exact ⟨ret_int (unhide H).symm, unhide HB⟩
    · have H := hide (hostC_ok hd hh)
      go_enter Tryz.func59, Tryz.ntmps59
      go_wp2_with fail
      refine (diskOK_impl _ _ _ _ ss xs _ (unhide HL) (unhide HM) (unhide H1) (unhide H2)).mono ?_
      rintro e w1 ⟨rfl, hb⟩
      have HB := hide (fr (unhide HA) hb)
      clear hb
      go_wp2_with (go_at_call 100; refine (hostOK_any _ _).mono ?_; rintro e w' ⟨rfl, rfl⟩)
      go_ret
      exact ⟨ret_int (unhide H).symm, unhide HB⟩

end Go.Proofs.YtjjkppknojecjaaGreatDoor

namespace Go.Proofs.YtjjkppknojecjaaGreatDoor
open Go.RowKit
set_option linter.unusedVariables false
set_option maxRecDepth 100000

end Go.Proofs.YtjjkppknojecjaaGreatDoor

namespace Go.Proofs.YtjjkppknojecjaaGreatDoor
open Go.RowKit
set_option linter.unusedVariables false
set_option maxRecDepth 100000

end Go.Proofs.YtjjkppknojecjaaGreatDoor

namespace Go.Proofs.YtjjkppknojecjaaGreatDoor
open Go.RowKit
set_option linter.unusedVariables false

end Go.Proofs.YtjjkppknojecjaaGreatDoor

namespace Go.Proofs.YtjjkppknojecjaaGreatDoor
open Go.RowKit
set_option linter.unusedVariables false
set_option maxRecDepth 100000

end Go.Proofs.YtjjkppknojecjaaGreatDoor

namespace Go.Proofs.YtjjkppknojecjaaGreatDoor
open Go.RowKit
set_option linter.unusedVariables false
set_option maxRecDepth 100000

theorem ret_rs {a b : ByteArray} (h : a = b) : Ending.returned (.string a) = .returned (.string b) := by rw [h]
theorem no_succ {xs : List Wr} {h a : Int} {k : Nat} (hk : k < xs.length) (hn : ∀ j (hj : j < xs.length), (k : Int) < j → ¬ mat xs[j] h a) (hx : ¬ mat xs[k] h a) : ∀ j (hj : j < xs.length), (k : Int) - 1 < j → ¬ mat xs[j] h a := by
  intro j hj hlt
  by_cases e : j = k
  · subst e; exact hx
  · exact hn j hj (by omega)

set_option maxHeartbeats 1600000 in
theorem seenBy_any (ao bo : Option Addr) (ca cb : Nat) (ss : List ByteArray) (xs : List Wr) (h : Int) (n : Nat) (w : World) (hlx : xs.length ≤ 200) (hn : n < ss.length) (hq : ss.length ≤ 1048576) (h1 : Ss w ao ss) (h2 : Ios w bo xs) :
    Calls Tryz.prog 61 #[.agg #[.slice ao ss.length ca, .slice bo xs.length cb], .int .i64 h, .int .i64 n] w fun e w' => e = .returned (.string (readV ss xs h n)) ∧ Below w.heap.size w w' := by
  have HA := hide (Joins.below_alloc1 w (.cells #[.slice ao ss.length ca, .slice bo xs.length cb] 42))
  have H1' := hide (h1.below (unhide HA))
  have H2' := hide (h2.below (unhide HA))
  have hc0 : (w.alloc (.cells #[.slice ao ss.length ca, .slice bo xs.length cb] 42)).cell? ⟨w.heap.size, 0, none⟩ = some (.slice ao ss.length ca) := by simp [go_sem]
  have hc1 : (w.alloc (.cells #[.slice ao ss.length ca, .slice bo xs.length cb] 42)).cell? ⟨w.heap.size, 1, none⟩ = some (.slice bo xs.length cb) := by simp [go_sem]
  have HC0 := hide hc0
  have HC1 := hide hc1
  have hlt : w.heap.size < (w.alloc (.cells #[.slice ao ss.length ca, .slice bo xs.length cb] 42)).heap.size := by simp
  clear h1 h2 hc0 hc1
  go_enter Tryz.func61, Tryz.ntmps61
  go_wp2
  revert HA H1' H2' HC0 HC1 hlt
  generalize w.alloc (.cells #[.slice ao ss.length ca, .slice bo xs.length cb] 42) = w1
  intro HA H1' H2' HC0 HC1 hlt
  go_loopw [7, 8] (fun i _ wr => ∃ m : Int, i = .int .i64 m ∧ -1 ≤ m ∧ m < xs.length ∧ Hid (∀ j (hj : j < xs.length), m < j → ¬ mat xs[j] h n) ∧ Hid (Below w1.heap.size w1 wr)) (fun i _ _ => (intOf i + 1).toNat)
  case atStart => exact ⟨_, rfl, by omega, by omega, hide (fun j hj hlt => by omega), hide (Below.refl _ _)⟩
  case round =>
    obtain ⟨m, rfl, hm0, hm1, HN, HB⟩ := hrel
    have hc0 : wr.cell? ⟨w.heap.size, 0, none⟩ = some (.slice ao ss.length ca) := ((unhide HB).cell (World.block_lt_of_cell? _ _ (unhide HC0))).trans (unhide HC0)
    have hc1 : wr.cell? ⟨w.heap.size, 1, none⟩ = some (.slice bo xs.length cb) := ((unhide HB).cell (World.block_lt_of_cell? _ _ (unhide HC1))).trans (unhide HC1)
    by_cases hge : 0 ≤ m
    · obtain ⟨k, rfl⟩ := Int.eq_ofNat_of_zero_le hge
      have hk : k < xs.length := by omega
      obtain ⟨b, off, rfl, hd0, hd1, hd2, hz⟩ := (unhide H2').below (unhide HB) k hk
      clear hz
      have HBA := hide (fun o => (unhide HB).alloc (unhide HB).size o)
      by_cases e0 : xs[k].host = h
      · have b0 : (xs[k].host == h) = true := by simp [e0]
        by_cases e1 : xs[k].at_ = n
        · have b1 : (xs[k].at_ == (n : Int)) = true := by simp [e1]
          have H := hide (readV_hit (ss := ss) hk ⟨e0, e1⟩ (fun j hj hlt => unhide HN j hj (by omega)))
          clear e0 e1
          go_wp2
          go_ret
          exact ⟨ret_rs (unhide H).symm, fr (unhide HA) (unhide HBA _)⟩
        · have b1 : (xs[k].at_ == (n : Int)) = false := by simp [e1]
          have HX := hide (no_succ hk (unhide HN) (fun hx => e1 hx.2))
          clear e0 e1
          go_wp2
          go_roundw
          case rel => exact ⟨_, rfl, by omega, by omega, HX, hide (unhide HBA _)⟩
          case measure => simp [intOf]
      · have b0 : (xs[k].host == h) = false := by simp [e0]
        have HX := hide (no_succ hk (unhide HN) (fun hx => e0 hx.1))
        clear e0
        go_wp2
        go_roundw
        case rel => exact ⟨_, rfl, by omega, by omega, HX, hide (unhide HBA _)⟩
        case measure => simp [intOf]
    · obtain ⟨b, off, rfl, hc, hz⟩ := (unhide H1').below (unhide HB) n hn
      clear hz
      have hg : ss.getD ((n : Int).toNat) ⟨#[]⟩ = ss[n] := by simp [List.getD, hn]
      have H := hide ((readV_none (ss := ss) (fun j hj => unhide HN j hj (by omega))).trans hg)
      clear hg
      go_wp2
      go_ret
      exact ⟨ret_rs (unhide H).symm, fr (unhide HA) (unhide HB)⟩

end Go.Proofs.YtjjkppknojecjaaGreatDoor

namespace Go.Proofs.YtjjkppknojecjaaGreatDoor
open Go.RowKit
set_option linter.unusedVariables false
set_option maxRecDepth 100000

end Go.Proofs.YtjjkppknojecjaaGreatDoor

namespace Go.Proofs.YtjjkppknojecjaaGreatDoor
open Go.RowKit
set_option linter.unusedVariables false

theorem VarD.setOther {w : World} {y : Nat} {a b : Value} (h : VarD w y a b) {p : Addr} (hp : p.block ≠ y) (c : Value) : VarD (w.setCell p c) y a b := by
  unfold VarD
  rw [Below.heap_setCell w p c y (fun e => hp e.symm)]
  exact h

end Go.Proofs.YtjjkppknojecjaaGreatDoor

namespace Go.Proofs.YtjjkppknojecjaaGreatDoor
open Go.RowKit
set_option linter.unusedVariables false

end Go.Proofs.YtjjkppknojecjaaGreatDoor

namespace Go.Proofs.YtjjkppknojecjaaGreatDoor
open Go.RowKit
set_option linter.unusedVariables false

end Go.Proofs.YtjjkppknojecjaaGreatDoor

namespace Go.Proofs.YtjjkppknojecjaaGreatDoor
open Go.RowKit
set_option linter.unusedVariables false

end Go.Proofs.YtjjkppknojecjaaGreatDoor

namespace Go.Proofs.YtjjkppknojecjaaGreatDoor
open Go.RowKit
set_option linter.unusedVariables false

end Go.Proofs.YtjjkppknojecjaaGreatDoor

namespace Go.Proofs.YtjjkppknojecjaaGreatDoor
open Go.RowKit
set_option linter.unusedVariables false

end Go.Proofs.YtjjkppknojecjaaGreatDoor

namespace Go.Proofs.YtjjkppknojecjaaGreatDoor
set_option linter.unusedVariables false

theorem diskB_parts {ss : List ByteArray} {xs : List Wr} : diskB ss xs = true ↔ (ss.length = 64 ∧ ∀ s ∈ ss, s.size ≤ 80) ∧ xs.length ≤ 200 ∧ ∀ x ∈ xs, ioB x = true := by
  simp only [diskB, secB, penB, Bool.and_eq_true, decide_eq_true_eq, List.all_eq_true]
theorem ioB_parts {x : Wr} : ioB x = true ↔ (0 ≤ x.host ∧ x.host ≤ 3) ∧ (0 ≤ x.at_ ∧ x.at_ ≤ 63) ∧ x.data.size ≤ 80 := by
  simp only [ioB, Bool.and_eq_true, decide_eq_true_eq]
  omega
end Go.Proofs.YtjjkppknojecjaaGreatDoor
