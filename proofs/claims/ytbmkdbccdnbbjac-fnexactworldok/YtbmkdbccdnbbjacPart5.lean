import Derived.Test.YtbmkdbccdnbbjacRows
import Derived.Test.YtbmkdbccdnbbjacPart1
import Derived.Test.YtbmkdbccdnbbjacPart4
import Derived.WalkKit
import Derived.WalkSpells
import Derived.KernelRfl
import Derived.LoopN
import Derived.Maps.Own
import Derived.Maps.OwnOps
import Derived.Maps.OwnSet
import Derived.Maps.Views
import Derived.Test.YtbmkdbccdnbbjacPart3
import Derived.OrdersHeld
import Derived.Deep.RegionHeld3

namespace Go.Proofs.Ytbmkdbccdnbbjac
open Go.RowKit Go.Maps
set_option linter.unusedVariables false
set_option maxRecDepth 100000

def recS (v : Value) : Option (DataW Value × List MemPlace) := some (.held v, [])
theorem lawS : Keyed Try.prog 9 := string_keyed Try.underlying9
def kS (t : ByteArray) : Lit := .string t.data.toList
theorem kS_inj {a b : ByteArray} (h : kS a = kS b) : a = b := by
  simp only [kS, Lit.string.injEq] at h
  exact ByteArray.ext (Array.ext' h)
theorem keyS {t : ByteArray} (h : t.size ≤ maxLen) : keyOf Try.prog 9 (.string t) = some (kS t) := Go.WideMaps.keyOf_string_mk Try.underlying9 h
structure MpN (w : World) (B n : Nat) (D : DataW Value) (ns : List ByteArray) : Prop where
  own : w.ownsMap Try.prog 9 recS B n D
  has : ∀ t, has D (kS t) = true ↔ t ∈ ns
  le : Maps.size D ≤ ns.length
  eq : Maps.size D = ns.length ↔ ns.Nodup
theorem MpN.made (w : World) : MpN (w.alloc (.map #[] 0)) w.heap.size 0 (.map []) [] := ⟨World.ownsMap_made _ _ _ _, fun t => by simp [Maps.has], Nat.le_refl _, by simp [Maps.size]⟩
theorem MpN.lt {w : World} {B n : Nat} {D : DataW Value} {ns : List ByteArray} (h : MpN w B n D ns) : B < w.heap.size := h.own.lt
theorem MpN.below {w w' : World} {B n : Nat} {D : DataW Value} {ns : List ByteArray} (h : MpN w B n D ns) (hb : Below w.heap.size w w') : MpN w' B n D ns := by
  have hl := h.lt
  obtain ⟨⟨es, clock, e, F, hn, hD⟩, h2, h3, h4⟩ := h
  exact ⟨⟨es, clock, (hb.block B hl).trans e, F, hn, hD⟩, h2, h3, h4⟩
theorem MpN.put {w w' : World} {B n : Nat} {D : DataW Value} {ns : List ByteArray} (h : MpN w B n D ns) (t : ByteArray) (v : Value) (ho : w'.ownsMap Try.prog 9 recS B (n + 1) (D.put (kS t) (.held v))) : MpN w' B (n + 1) (D.put (kS t) (.held v)) (ns ++ [t]) := by
  have hM : IsMap D := h.own.isMap
  have hT : Tidy D := h.own.tidy lawS
  have hs := size_put (k := kS t) hT (.held v)
  have hh := h.has t
  have h1 := h.le
  have h2 := h.eq
  refine ⟨ho, fun u => ?_, ?_, ?_⟩
  · by_cases e : u = t
    · subst e
      rw [has_put_same (k := kS u) hM trivial]; simp
    · rw [has_put_other (fun h2 => e (kS_inj h2)), h.has]
      simp [e]
  · rw [hs, List.length_append]
    split <;> simp <;> omega
  · rw [hs, List.length_append, List.nodup_append]
    by_cases hm : t ∈ ns
    · rw [if_pos (hh.2 hm)]
      constructor
      · intro h3; simp at h3; omega
      · intro h3; exact absurd rfl (h3.2.2 t hm t (by simp))
    · rw [if_neg (fun h3 => hm (hh.1 h3))]
      constructor
      · intro h3
        refine ⟨h2.1 (by simp at h3; omega), by simp, fun a ha b hb => ?_⟩
        rw [List.mem_singleton] at hb
        subst hb
        exact fun e => hm (e ▸ ha)
      · intro h3
        have := h2.2 h3.1
        simp; omega
theorem wpList_shotN {w : World} {ops : Array Oper} {rest : List Oper} {o : Oper} {a : Act} {Q : Exit → Act → World → Prop} (hg : o.guard = none) (m x v : Operand) (hop : o.op = Op.mapUpdate 112 m x v)
    {B n : Nat} {D : DataW Value} {ns : List ByteArray} {t : ByteArray} {u : Value} (hm : a.eval m = .map (some B)) (h : MpN w B n D ns) (hn : n < maxLen) (hx : a.eval x = .string t) (hz : t.size ≤ maxLen) (hv : a.eval v = u)
    (hK : ∀ w' D', MpN w' B (n + 1) D' (ns ++ [t]) → w.grownBy w' (some B) → wpList Try.prog ops Q rest (a.put o.dst undef) w') : wpList Try.prog ops Q (o :: rest) a w :=
  wpList_mapUpdate_own w hg m x v 112 hop 9 104 lawS Try.underlying112 _ B n D hm h.own hn _ _ _ hx hv (keyS hz) (.held u) [] rfl (fun w' ho hg' => hK w' _ (h.put t u ho) hg')
theorem below_grownMap {W w w' : World} {B : Nat} (hb : Below W.heap.size W w) (hB : W.heap.size ≤ B) (hg : w.grownBy w' (some B)) : Below W.heap.size W w' :=
  ⟨hg.os.trans hb.os, hg.tape.trans hb.tape, hg.output.trans hb.output, Nat.le_trans hb.size hg.size, fun k hk => (hg.block k (Nat.lt_of_lt_of_le hk hb.size) (fun e => by have := Option.some.inj e; omega)).trans (hb.block k hk)⟩

set_option maxHeartbeats 1600000 in
theorem shotsByName_names (so : Option Addr) (sc : Nat) (ss : List Snp) (w : World) (hs : ss.length ≤ 1000) (hc : Sns w so ss) :
    Calls Try.prog 100 #[.slice so ss.length sc] w fun e w' => ∃ B n D, e = .returned (.map (some B)) ∧ MpN w' B n D (ss.map (·.name)) ∧ Below w.heap.size w w' := by
  have HC := hide hc
  clear hc
  have hmm := @run_makeMap Try.prog
  go_enter Try.func100, Try.ntmps100
  go_upto_region 2 with fail
  have HM0 := hide (MpN.made w)
  have HB0 := hide (Joins.below_alloc1 w (.map #[] 0))
  revert HM0 HB0
  generalize hW : (w.alloc (.map #[] 0)) = W0
  clear hW hmm
  obtain ⟨B, hBd⟩ : ∃ B, B = w.heap.size := ⟨_, rfl⟩
  rw [← hBd]
  have HBD : Hid (w.heap.size ≤ B) := hide (by omega)
  intro HM0 HB0
  have HB0' : Hid (Below w.heap.size w W0) := hide (by rw [← hBd]; exact unhide HB0)
  clear HB0 hBd
  go_wp2
  go_loopw [9] (fun i wr => ∃ (k : Nat) (D : DataW Value), k ≤ ss.length ∧ i = .int .i64 k ∧ Hid (MpN wr B k D ((ss.take k).map (·.name))) ∧ Hid (Below w.heap.size w wr)) (fun i _ => ss.length - (intOf i).toNat)
  case atStart => exact ⟨0, _, Nat.zero_le _, rfl, hide (by simpa using unhide HM0), HB0'⟩
  case round =>
    clear HM0 HB0'
    obtain ⟨k, D, hk, rfl, HM, HB⟩ := hrel
    by_cases hlt : k < ss.length
    · obtain ⟨b, off, tq, tc, rfl, hn0, ht0, _, hz, _⟩ := ((unhide HC).below (unhide HB)) k hlt
      have HZ := hide hz
      have HST : Hid ((ss.take (k + 1)).map (·.name) = (ss.take k).map (·.name) ++ [ss[k].name]) := hide (by rw [List.take_succ_eq_append_getElem hlt, List.map_append]; rfl)
      have HMA := hide ((unhide HM).below (Joins.below_alloc1 wr (.cells #[.string ss[k].name, .slice tq ss[k].table.length tc] 104)))
      have HBA := hide (fr (unhide HB) (Joins.below_alloc1 wr (.cells #[.string ss[k].name, .slice tq ss[k].table.length tc] 104)))
      clear hz HM HB
      go_wp2_with (at_mapUpdate; refine wpList_shotN rfl _ _ _ rfl rfl (unhide HMA) (by unfold maxLen; omega) rfl (unhide HZ) rfl ?_; intro w5 D5 hm5 hk5; have HS5 := hide (And.intro hm5 hk5); clear hm5 hk5)
      go_roundw
      case rel => exact ⟨k + 1, D5, by omega, by go_num, hide (by rw [unhide HST]; exact (unhide HS5).1), hide (below_grownMap (unhide HBA) (unhide HBD) (unhide HS5).2)⟩
      case measure => simp [intOf]; omega
    · have hkn : k = ss.length := by omega
      subst hkn
      rw [List.take_length] at HM
      go_wp2
      go_ret
      exact ⟨B, _, D, rfl, unhide HM, unhide HB⟩

set_option maxHeartbeats 800000 in
theorem valuesOK_any (ao : Option Addr) (cap : Nat) (xs : List Int) (w : World) (hl : xs.length ≤ maxLen) (hc : Is w ao xs) :
    Calls Try.prog 68 #[.slice ao xs.length cap] w fun e w' => e = .returned (.bool (gvB xs)) ∧ w' = w := by
  have HC := hide hc
  have HL := hide hl
  clear hc
  unfold maxLen at hl
  by_cases h : xs.length ≤ 12
  · have HF : Hid (gvB xs = xs.all numB) := hide (by simp [gvB, h])
    have hi : (xs.length : Int) ≤ 12 := by omega
    go_enter Try.func68, Try.ntmps68
    go_wp2_with (go_at_call 98; refine (areNumbers_any _ _ xs _ (unhide HL) (unhide HC)).mono ?_; rintro e w' ⟨rfl, hw⟩; replace hw := hw.symm; subst hw)
    go_ret
    exact ⟨ret_bool (unhide HF).symm, rfl⟩
  · have HF : Hid (gvB xs = false) := hide (by simp [gvB, h])
    have hi : ¬ (xs.length : Int) ≤ 12 := by omega
    go_enter Try.func68, Try.ntmps68
    go_wp2
    go_ret
    exact ⟨ret_bool (unhide HF).symm, rfl⟩

def shsB (ss : List Snp) : Bool := decide (ss.length ≤ 3) && ss.all (fun s => snmB s.name && gvB s.table) && namesB ss
theorem shs_many {ss : List Snp} (h : ¬ ss.length ≤ 3) : shsB ss = false := by rw [shsB, decide_eq_false h]; rfl
theorem shs_bad {ss : List Snp} {k : Nat} (hk : k < ss.length) (h : (snmB ss[k].name && gvB ss[k].table) = false) : shsB ss = false := by
  rw [shsB, all_not (p := fun s : Snp => snmB s.name && gvB s.table) hk h]; simp
theorem shs_all {ss : List Snp} (h3 : ss.length ≤ 3) (h : ∀ j (hj : j < ss.length), (snmB ss[j].name && gvB ss[j].table) = true) : shsB ss = namesB ss := by
  rw [shsB, decide_eq_true h3, all_of (p := fun s : Snp => snmB s.name && gvB s.table) (fun i hi _ => h i hi)]; rfl
theorem gsB_eq (g : Gst) : gsB g = (gvB g.vals && shsB g.shots) := by
  simp only [gsB, shsB, Bool.and_assoc]

set_option maxHeartbeats 3200000 in
theorem shotsOK_any (so : Option Addr) (sc : Nat) (ss : List Snp) (w : World) (hs : ss.length ≤ maxLen) (hc : Sns w so ss) :
    Calls Try.prog 69 #[.slice so ss.length sc] w fun e w' => e = .returned (.bool (shsB ss)) ∧ Below w.heap.size w w' := by
  have HC := hide hc
  clear hc
  unfold maxLen at hs
  by_cases h3 : ss.length ≤ 3
  rotate_left
  · have HF := hide (shs_many h3)
    have h3i : (3 : Int) < (ss.length : Int) := by omega
    go_enter Try.func69, Try.ntmps69
    go_wp2
    go_ret
    exact ⟨ret_bool (unhide HF).symm, Below.refl _ _⟩
  have h3i : ¬ (3 : Int) < (ss.length : Int) := by omega
  go_enter Try.func69, Try.ntmps69
  go_wp2
  go_loopw [10] (fun i wr => ∃ k : Nat, k ≤ ss.length ∧ i = .int .i64 k ∧ Hid (∀ j (hj : j < ss.length), j < k → (snmB ss[j].name && gvB ss[j].table) = true) ∧ Hid (Below w.heap.size w wr)) (fun i _ => ss.length - (intOf i).toNat)
  case atStart => exact ⟨0, Nat.zero_le _, rfl, hide (fun j _ h => by omega), hide (Below.refl _ _)⟩
  case round =>
    obtain ⟨k, hk, rfl, HS, HB⟩ := hrel
    by_cases hlt : k < ss.length
    · obtain ⟨b, off, tq, tc, rfl, hn0, ht0, hIs, hz, htl⟩ := ((unhide HC).below (unhide HB)) k hlt
      have HZ := hide hz
      have HTL := hide htl
      have HA := hide (Joins.below_alloc1 wr (.cells #[.string ss[k].name, .slice tq ss[k].table.length tc] 104))
      have HV := hide (VarG.new wr 104 (.string ss[k].name) (.slice tq ss[k].table.length tc))
      have HIS := hide (hIs.below (unhide HA))
      have HBA := hide (fr (unhide HB) (unhide HA))
      clear hIs hz htl
      go_upto_region 6 with fail
      revert HA HV HIS HBA
      generalize (wr.alloc _) = W0
      intro HA HV HIS HBA
      clear hn0 ht0
      obtain ⟨c0, c1⟩ := (unhide HV).cells
      cases hok : snmB ss[k].name
      · have HF := hide (shs_bad hlt (by rw [hok]; rfl))
        go_wp2_with (go_at_call 99; refine (snapNameOK_any _ _ (unhide HZ)).mono ?_; rintro e w' ⟨rfl, hb⟩; have HB2 := hide (fr (unhide HBA) hb); clear hb; rw [hok])
        go_ret
        exact ⟨ret_bool (unhide HF).symm, unhide HB2⟩
      · go_wp2_with fail
        refine (snapNameOK_any _ _ (unhide HZ)).mono ?_
        rintro e w2 ⟨rfl, hb⟩
        have HB2 := hide (fr (unhide HBA) hb)
        have HV2 := hide ((unhide HV).below hb)
        have HI2 := hide ((unhide HIS).below hb)
        clear hb c0 c1
        rw [hok]
        obtain ⟨c0, c1⟩ := (unhide HV2).cells
        cases hv : gvB ss[k].table
        · have HF := hide (shs_bad hlt (by rw [hv, Bool.and_false]))
          go_wp2_with (go_at_call 68; refine (valuesOK_any _ _ ss[k].table _ (unhide HTL) (unhide HI2)).mono ?_; rintro e w' ⟨rfl, hw⟩; replace hw := hw.symm; subst hw; rw [hv])
          go_ret
          exact ⟨ret_bool (unhide HF).symm, unhide HB2⟩
        · have HS' := hide (all_succ (p := fun s : Snp => snmB s.name && gvB s.table) hlt (unhide HS) (by rw [hok, hv]; rfl))
          go_wp2_with (go_at_call 68; refine (valuesOK_any _ _ ss[k].table _ (unhide HTL) (unhide HI2)).mono ?_; rintro e w' ⟨rfl, hw⟩; replace hw := hw.symm; subst hw; rw [hv])
          go_roundw
          case rel => exact ⟨k + 1, by omega, by go_num, HS', HB2⟩
          case measure => simp [intOf]; omega
    · have HF := hide (shs_all h3 (fun j h => unhide HS j h (by omega)))
      go_wp2_with fail
      refine (shotsByName_names so sc ss _ (by omega) ((unhide HC).below (unhide HB))).mono ?_
      rintro e w3 ⟨B, n, D, rfl, hM, hb⟩
      have HB3 := hide (fr (unhide HB) hb)
      have HM := hide hM
      have hlen := fun ty => hM.own.len Try.underlying112 ty
      have hle := hM.le
      have heq := hM.eq
      rw [List.length_map] at hle heq
      have HNB : Hid (namesB ss = ((Maps.size D : Int) == (ss.length : Int))) := hide (by
        unfold namesB
        rw [Bool.eq_iff_iff]
        simp only [decide_eq_true_eq, beq_iff_eq]
        rw [← heq]
        omega)
      clear hM hb heq
      generalize Maps.size D = z at *
      go_wp2
      go_ret
      exact ⟨ret_bool (by rw [unhide HF, unhide HNB]), unhide HB3⟩

set_option maxHeartbeats 1600000 in
theorem guestOK_impl (a : Gs4) (g : Gst) (w : World) (hL : GsL g) (hc : GsS w a g) :
    Calls Try.prog 29 #[gsV a g] w fun e w' => e = .returned (.bool (gsB g)) ∧ Below w.heap.size w w' := by
  have HA := hide (Joins.below_alloc1 w (.cells #[.slice a.vo g.vals.length a.vc, .slice a.so g.shots.length a.sc] 32))
  have HV := hide (VarG.new w 32 (.slice a.vo g.vals.length a.vc) (.slice a.so g.shots.length a.sc))
  have HC := hide (hc.below (unhide HA))
  have HL := hide hL
  have HE := hide (gsB_eq g)
  clear hc hL
  go_enter Try.func29, Try.ntmps29
  go_upto_region 1 with fail
  revert HA HV HC
  generalize (w.alloc _) = W0
  intro HA HV HC
  obtain ⟨c0, c1⟩ := (unhide HV).cells
  cases h1 : gvB g.vals
  · have HF : Hid (gsB g = false) := hide (by rw [unhide HE, h1]; rfl)
    go_wp2_with (go_at_call 68; refine (valuesOK_any _ _ g.vals _ (unhide HL).v (unhide HC).v).mono ?_; rintro e w' ⟨rfl, hw⟩; replace hw := hw.symm; subst hw; rw [h1])
    go_ret
    exact ⟨ret_bool (unhide HF).symm, unhide HA⟩
  · have HF : Hid (gsB g = shsB g.shots) := hide (by rw [unhide HE, h1]; rfl)
    clear HE
    go_wp2_with fail
    refine (valuesOK_any _ _ g.vals _ (unhide HL).v (unhide HC).v).mono ?_
    rintro e w' ⟨rfl, hw⟩
    replace hw := hw.symm
    subst hw
    rw [h1]
    go_wp2_with fail
    refine (shotsOK_any _ _ g.shots _ (unhide HL).s (unhide HC).s).mono ?_
    rintro e w2 ⟨rfl, hb⟩
    have HB2 := hide (fr (unhide HA) hb)
    clear hb c0 c1
    go_wp2
    go_ret
    exact ⟨ret_bool (unhide HF).symm, unhide HB2⟩

end Go.Proofs.Ytbmkdbccdnbbjac

namespace Go.Proofs.Ytbmkdbccdnbbjac
open Go.RowKit
set_option linter.unusedVariables false

section
variable {P : Program} {Q : Exit → Act → World → Prop} {S S' : World → Prop} {C : Act → World → Prop} {l : List Oper} {hl : List Nat}

def wpAnyR (P : Program) (l : List Oper) (Q : Exit → Act → World → Prop) (S : World → Prop) (hl : List Nat) : Nat → Array Bool → Act → World → Prop
  | 0, listed, a, w => Region.ready .any l.toArray listed = [] ∧ Q .normal a w
  | fuel + 1, listed, a, w =>
    (Region.ready .any l.toArray listed = [] → Q .normal a w) ∧
    ∀ i ∈ Region.ready .any l.toArray listed, wpOp P l.toArray Q i (fun a' w' => (i ∈ hl → S w') ∧ wpAnyR P l Q S hl fuel (listed.setIfInBounds i true) a' w') a w
theorem wpAny_of_R : ∀ (fuel : Nat) (listed : Array Bool) (a : Act) (w : World), wpAnyR P l Q S hl fuel listed a w → wpAny P .any l.toArray Q fuel listed a w
  | 0, _, _, _, h => h
  | fuel + 1, _, _, _, h => ⟨h.1, fun i hi => wpOp_mono (fun a' w' h' => wpAny_of_R fuel _ a' w' h'.2) (h.2 i hi)⟩

abbrev lsD (listed : Array Bool) : Nat → Bool := fun j => listed.getD j false
theorem closed_set {listed : Array Bool} {i : Nat} (hc : Closed l (lsD listed)) (hi : i ∈ Region.ready .any l.toArray listed) : Closed l (lsD (listed.setIfInBounds i true)) := by
  intro j o ho hd e he hb
  by_cases hji : j = i
  · subst hji
    obtain ⟨_, o', ho', hp⟩ := mem_ready.1 hi
    have h2 : l.toArray[j]? = l[j]? := by simp
    rw [h2, ho] at ho'
    cases ho'
    exact getD_set_true (hp e he hb)
  · have : lsD listed j = true := by
      have hd' : (listed.setIfInBounds i true).getD j false = true := hd
      rwa [getD_set_ne false (Ne.symm hji)] at hd'
    exact getD_set_true (hc j o ho this e he hb)
def Anc (l : List Oper) (j i : Nat) : Prop := ∀ d : Nat → Bool, Closed l d → d j = true → d i = true
theorem rg_unlisted {listed : Array Bool} {i : Nat} (h : listed.getD i true = false) : i < listed.size ∧ listed.getD i false = false := by
  rw [Array.getD_eq_getD_getElem?] at h ⊢
  by_cases hi : i < listed.size
  · rw [Array.getElem?_eq_getElem hi] at h ⊢
    exact ⟨hi, by simpa using h⟩
  · rw [Array.getElem?_eq_none (Nat.le_of_not_lt hi)] at h
    simp at h
theorem ready_anc {listed : Array Bool} {i j : Nat} (hc : Closed l (lsD listed)) (hj : j ∈ Region.ready .any l.toArray listed) (hr : Anc l j i) (hne : j ≠ i) (hi : listed.getD i true = false) : False := by
  have h1 := (mem_ready.1 hj).1
  have h2 := hr _ (closed_set hc hj) (by
    show (listed.setIfInBounds j true).getD j false = true
    have := (rg_unlisted h1).1
    simp [Array.getD_eq_getD_getElem?, this])
  have h3 : (listed.setIfInBounds j true).getD i false = true := h2
  rw [getD_set_ne false hne, (rg_unlisted hi).2] at h3
  cases h3

theorem wpAnyR_first {i : Nat} {oi : Oper} {v : Value} (hi : l.toArray[i]? = some oi) (hsel : ∀ (j : Nat) (o : Oper) cs b, l.toArray[j]? = some o → o.op ≠ .select cs b)
    (hQ : ∀ c a w, Q (.panic c) (a.put oi.dst v) w → Q (.panic c) a w) (hSS : ∀ w, S w → S' w) (hst : ∀ j, j < l.length → j ∉ hl → j ≠ i → Anc l j i ∨ ((∀ w, S' w) ∧ i ∉ hl)) :
    ∀ (fuel : Nat) (listed : Array Bool) (a : Act) (w : World), Closed l (lsD listed) →
      (∀ j oj, l.toArray[j]? = some oj → j ≠ i → listed.getD j true = false → (∀ e ∈ oj.after, Region.binds .any e = true → e.on ≠ i) → oi.apart l.toArray oj = true) →
      i ∈ Region.ready .any l.toArray listed → YieldsIf P l.toArray S' oi v a → S' w → (i ∈ hl → S w) →
      wpAnyR P l Q S hl fuel (listed.setIfInBounds i true) (a.put oi.dst v) w → wpAnyR P l Q S hl (fuel + 1) listed a w := by
  intro fuel
  induction fuel with
  | zero =>
    intro listed a w hc _ hr hy hS hSw H
    refine ⟨fun h => (by rw [h] at hr; cases hr), fun j hj => ?_⟩
    by_cases hji : j = i
    · subst hji; exact hy.wpOp hi hS ⟨hSw, H⟩
    · have := ready_mono hj hji
      rw [H.1] at this
      cases this
  | succ fuel ih =>
    intro listed a w hc hfree hr hy hS hSw H
    refine ⟨fun h => (by rw [h] at hr; cases hr), fun j hj => ?_⟩
    by_cases hji : j = i
    · subst hji; exact hy.wpOp hi hS ⟨hSw, H⟩
    · have h1 := H.2 j (ready_mono hj hji)
      obtain ⟨hjun, oj, hoj, hall⟩ := mem_ready.1 hj
      have hiun := (mem_ready.1 hr).1
      have hnot : ∀ e ∈ oj.after, Region.binds .any e = true → e.on ≠ i := fun e he hb heq => by
        have h1 := hall e he hb
        rw [heq, (rg_unlisted hiun).2] at h1
        cases h1
      have h2 := wpOp_putIf hoj (hfree j oj hoj hji hjun hnot) (fun cs b => hsel i oi cs b hi) (fun cs b => hsel j oj cs b hoj) hQ hy h1
      have hfree' : ∀ k ok, l.toArray[k]? = some ok → k ≠ i → (listed.setIfInBounds j true).getD k true = false →
          (∀ e ∈ ok.after, Region.binds .any e = true → e.on ≠ i) → oi.apart l.toArray ok = true := fun k ok hk hki hun hno => by
        refine hfree k ok hk hki ?_ hno
        by_cases hjk : j = k
        · subst hjk; exact hjun
        · rw [getD_set_ne true hjk] at hun; exact hun
      have hjl : j < l.length := by have := (Array.getElem?_eq_some_iff.1 hoj).1; simpa using this
      have hkey : ∀ w', (j ∈ hl → S w') → S' w' ∧ (i ∈ hl → S w') := fun w' h => by
        by_cases hjh : j ∈ hl
        · exact ⟨hSS _ (h hjh), fun _ => h hjh⟩
        · rcases hst j hjl hjh hji with h5 | h5
          · exact (ready_anc hc hj h5 hji hiun).elim
          · exact ⟨h5.1 _, fun h6 => absurd h6 h5.2⟩
      refine wpOp_mono (fun a' w' h3 => ⟨h3.2.1, ih (listed.setIfInBounds j true) a' w' (closed_set hc hj) hfree' (ready_mono hr (Ne.symm hji)) h3.1 (hkey w' h3.2.1).1 (hkey w' h3.2.1).2 ?_⟩) h2
      rw [Array.setIfInBounds_comm _ _ hji]
      exact h3.2.2

def ancGo : List Oper → List (List Nat) → List (List Nat)
  | [], acc => acc
  | o :: r, acc => ancGo r (acc ++ [(o.after.toList.flatMap fun e => if Region.binds .any e then e.on :: acc.getD e.on [] else []).eraseDups])
def ancs (l : List Oper) : List (List Nat) := ancGo l []
theorem ancGo_spec (L : List Oper) : ∀ (r : List Oper) (acc : List (List Nat)), (∀ k, r[k]? = L[acc.length + k]?) → (∀ j, ∀ i ∈ acc.getD j [], Anc L j i) → ∀ j, ∀ i ∈ (ancGo r acc).getD j [], Anc L j i
  | [], acc, _, h => h
  | o :: r, acc, hr, h => by
    unfold ancGo
    refine ancGo_spec L r _ (fun k => ?_) (fun j i hi => ?_)
    · have := hr (k + 1)
      rw [List.length_append, List.length_singleton, Nat.add_assoc, Nat.add_comm 1 k]
      simpa using this
    · by_cases hj : j < acc.length
      · rw [List.getD_eq_getElem?_getD, List.getElem?_append_left hj, ← List.getD_eq_getElem?_getD] at hi
        exact h j i hi
      · by_cases hj2 : j = acc.length
        · subst hj2
          rw [List.getD_eq_getElem?_getD, List.getElem?_append_right (Nat.le_refl _), Nat.sub_self] at hi
          simp only [List.getElem?_cons_zero, Option.getD_some, List.mem_eraseDups, List.mem_flatMap] at hi
          obtain ⟨e, he, hie⟩ := hi
          have ho : L[acc.length]? = some o := by have := hr 0; simpa using this.symm
          intro d hc hd
          by_cases hb : Region.binds .any e = true
          · rw [if_pos hb] at hie
            have h1 := hc _ o ho hd e (by simpa using he) hb
            rcases List.mem_cons.1 hie with rfl | hie
            · exact h1
            · exact h e.on i hie d hc h1
          · rw [if_neg hb] at hie
            cases hie
        · rw [List.getD_eq_getElem?_getD, List.getElem?_eq_none (by rw [List.length_append, List.length_singleton]; omega)] at hi
          simp at hi
theorem ancs_spec {l : List Oper} {j i : Nat} (h : ((ancs l).getD j []).contains i = true) : Anc l j i :=
  ancGo_spec l l [] (fun k => by simp) (fun j i hi => by simp at hi) j i (by simpa [ancs] using h)

def rgFrB (l : List Oper) (listed : Array Bool) (i : Nat) : Bool := (Region.ready .any l.toArray listed).contains i && Region.free .any l.toArray listed i
def rgStB (l : List Oper) (hl : List Nat) (i : Nat) : Bool := (List.range l.length).all fun j => hl.contains j || j == i || ((ancs l).getD j []).contains i
def rgOrdB (l : List Oper) (hl : List Nat) : List (Nat × Nat) → Array Bool → Bool
  | [], _ => true
  | (i, k) :: r, listed => (match k with
      | 0 => rgFrB l listed i && rgStB l hl i
      | 2 => hl.contains i && (Region.ready .any l.toArray listed == [i])
      | 3 => !hl.contains i && (Region.ready .any l.toArray listed == [i])
      | 4 => !hl.contains i && rgFrB l listed i
      | 5 => rgFrB l listed i && rgStB l hl i
      | _ => !hl.contains i && rgFrB l listed i) && rgOrdB l hl r (listed.setIfInBounds i true)
def rgSet : List (Nat × Nat) → Array Bool → Array Bool
  | [], listed => listed
  | (i, _) :: r, listed => rgSet r (listed.setIfInBounds i true)
def wpOrd (P : Program) (l : List Oper) (Q : Exit → Act → World → Prop) (S : World → Prop) (C : Act → World → Prop) : List (Nat × Nat) → Act → World → Prop
  | [], a, w => C a w
  | (i, k) :: r, a, w => ∀ o, l[i]? = some o → match k with
      | 0 => Region.wanted o (yielded l.toArray a.tmps) = true ∧ S w ∧ ∃ v, (∀ w', S w' → (execOp a.eval o).run P w' = .ok (.value v) w') ∧ wpOrd P l Q S C r (a.put o.dst v) w
      | 2 => Region.wanted o (yielded l.toArray a.tmps) = true ∧ o.wp P a w (fun a' w' => S w' ∧ wpOrd P l Q S C r a' w') Q
      | 3 => Region.wanted o (yielded l.toArray a.tmps) = true ∧ o.wp P a w (wpOrd P l Q S C r) Q
      | 4 => Region.wanted o (yielded l.toArray a.tmps) = true ∧ ∃ v, (∀ w', (execOp a.eval o).run P w' = .ok (.value v) w') ∧ wpOrd P l Q S C r (a.put o.dst v) w
      | 5 => Region.wanted o (yielded l.toArray a.tmps) = false ∧ S w ∧ wpOrd P l Q S C r (a.put o.dst undef) w
      | _ => Region.wanted o (yielded l.toArray a.tmps) = false ∧ wpOrd P l Q S C r (a.put o.dst undef) w
theorem rgSt_spec {i : Nat} (h : rgStB l hl i = true) : ∀ j, j < l.length → j ∉ hl → j ≠ i → Anc l j i := fun j hj hh hne => by
  have := List.all_eq_true.1 h j (List.mem_range.2 hj)
  simp only [Bool.or_eq_true, List.contains_iff_mem, beq_iff_eq] at this
  rcases this with (h1 | h1) | h1
  · exact absurd h1 hh
  · exact absurd h1 hne
  · exact ancs_spec (by simpa using h1)
theorem anyR_of_ord (hs : Region.noSelect l.toArray = true) (hQ : ∀ c a w, Q (.panic c) a w → False) (fuel : Nat) : ∀ (ord : List (Nat × Nat)) (listed : Array Bool) (a : Act) (w : World), Closed l (lsD listed) → rgOrdB l hl ord listed = true → wpOrd P l Q S (fun a w => Closed l (lsD (rgSet ord listed)) → wpAnyR P l Q S hl fuel (rgSet ord listed) a w) ord a w → wpAnyR P l Q S hl (ord.length + fuel) listed a w
  | [], listed, a, w, hc, hB, h => by simpa [rgSet] using h hc
  | (i, k) :: r, listed, a, w, hc, hB, h => by
    rw [show ((i, k) :: r).length + fuel = (r.length + fuel) + 1 by simp only [List.length_cons]; omega]
    have hrs : rgSet ((i, k) :: r) listed = rgSet r (listed.setIfInBounds i true) := rfl
    rw [hrs] at h
    obtain ⟨C, hC⟩ : ∃ C, C = (fun a w => Closed l (lsD (rgSet r (listed.setIfInBounds i true))) → wpAnyR P l Q S hl fuel (rgSet r (listed.setIfInBounds i true)) a w) := ⟨_, rfl⟩
    rw [← hC] at h
    unfold rgOrdB at hB
    rw [Bool.and_eq_true] at hB
    obtain ⟨hB1, hB2⟩ := hB
    have hone : ∀ (hrd : Region.ready .any l.toArray listed = [i]) (hw : ∀ o, l[i]? = some o → Region.wanted o (yielded l.toArray a.tmps) = true ∧ o.wp P a w (fun a' w' => (i ∈ hl → S w') ∧ wpOrd P l Q S C r a' w') Q), wpAnyR P l Q S hl (r.length + fuel + 1) listed a w := by
      intro hrd hw
      refine ⟨fun h0 => (by rw [hrd] at h0; cases h0), fun j hj => ?_⟩
      have hji : j = i := by rw [hrd] at hj; simpa using hj
      subst hji
      obtain ⟨_, o, ho, _⟩ := mem_ready.1 hj
      have ho' : l[j]? = some o := by simpa using ho
      obtain ⟨h1, h2⟩ := hw o ho'
      unfold wpOp
      simp only [ho]
      rw [if_pos h1]
      exact .inl (Oper.wp_mono (fun a' w' h3 => ⟨h3.1, anyR_of_ord hs hQ fuel r _ a' w' (closed_set hc hj) hB2 (hC ▸ h3.2)⟩) h2)
    have hfirst : ∀ (v : Value) (S' : World → Prop) (hf : rgFrB l listed i = true) (hSS : ∀ w, S w → S' w) (hst : ∀ j, j < l.length → j ∉ hl → j ≠ i → Anc l j i ∨ ((∀ w, S' w) ∧ i ∉ hl)) (hS' : S' w) (hSw : i ∈ hl → S w)
        (hy : ∀ o, l[i]? = some o → YieldsIf P l.toArray S' o v a ∧ wpOrd P l Q S C r (a.put o.dst v) w), wpAnyR P l Q S hl (r.length + fuel + 1) listed a w := by
      intro v S' hf hSS hst hS' hSw hy
      unfold rgFrB at hf
      rw [Bool.and_eq_true] at hf
      have hir : i ∈ Region.ready .any l.toArray listed := by simpa using hf.1
      obtain ⟨_, o, ho, _⟩ := mem_ready.1 hir
      have ho' : l[i]? = some o := by simpa using ho
      obtain ⟨h1, h2⟩ := hy o ho'
      exact wpAnyR_first ho (Region.noSelect_spec hs) (fun c a w h => (hQ _ _ _ h).elim) hSS hst (r.length + fuel) listed a w hc (Region.free_spec ho hf.2) hir h1 hS' hSw (anyR_of_ord hs hQ fuel r _ _ _ (closed_set hc hir) hB2 (hC ▸ h2))
    match k, hB1, h with
    | 0, hB1, h =>
      simp only [Bool.and_eq_true] at hB1
      have hir : i ∈ Region.ready .any l.toArray listed := by have := hB1.1; unfold rgFrB at this; rw [Bool.and_eq_true] at this; simpa using this.1
      obtain ⟨_, o, ho, _⟩ := mem_ready.1 hir
      have ho' : l[i]? = some o := by simpa using ho
      obtain ⟨h1, h2, v, h3, h4⟩ := h o ho'
      exact hfirst v S hB1.1 (fun _ h => h) (fun j a b c => .inl (rgSt_spec hB1.2 j a b c)) h2 (fun _ => h2) (fun o2 ho2 => by
        rw [ho'] at ho2
        cases ho2
        exact ⟨.inl ⟨h1, h3⟩, h4⟩)
    | 1, hB1, h =>
      simp only [Bool.and_eq_true, Bool.not_eq_true'] at hB1
      exact hfirst undef (fun _ => True) hB1.2 (fun _ _ => trivial) (fun _ _ _ _ => .inr ⟨fun _ => trivial, by simpa using hB1.1⟩) trivial (fun h6 => absurd h6 (by simpa using hB1.1)) (fun o ho => ⟨.inr ⟨(h o ho).1, rfl⟩, (h o ho).2⟩)
    | 2, hB1, h =>
      simp only [Bool.and_eq_true, beq_iff_eq] at hB1
      exact hone hB1.2 (fun o ho => ⟨(h o ho).1, Oper.wp_mono (fun a' w' h3 => ⟨fun _ => h3.1, h3.2⟩) (h o ho).2⟩)
    | 3, hB1, h =>
      simp only [Bool.and_eq_true, beq_iff_eq, Bool.not_eq_true'] at hB1
      exact hone hB1.2 (fun o ho => ⟨(h o ho).1, Oper.wp_mono (fun a' w' h3 => ⟨fun h6 => absurd h6 (by simpa using hB1.1), h3⟩) (h o ho).2⟩)
    | 4, hB1, h =>
      simp only [Bool.and_eq_true, Bool.not_eq_true'] at hB1
      have hir : i ∈ Region.ready .any l.toArray listed := by have := hB1.2; unfold rgFrB at this; rw [Bool.and_eq_true] at this; simpa using this.1
      obtain ⟨_, o, ho, _⟩ := mem_ready.1 hir
      have ho' : l[i]? = some o := by simpa using ho
      obtain ⟨h1, v, h3, h4⟩ := h o ho'
      exact hfirst v (fun _ => True) hB1.2 (fun _ _ => trivial) (fun _ _ _ _ => .inr ⟨fun _ => trivial, by simpa using hB1.1⟩) trivial (fun h6 => absurd h6 (by simpa using hB1.1)) (fun o2 ho2 => by
        rw [ho'] at ho2
        cases ho2
        exact ⟨.inl ⟨h1, fun w' _ => h3 w'⟩, h4⟩)
    | 5, hB1, h =>
      simp only [Bool.and_eq_true] at hB1
      have hir : i ∈ Region.ready .any l.toArray listed := by have := hB1.1; unfold rgFrB at this; rw [Bool.and_eq_true] at this; simpa using this.1
      obtain ⟨_, o, ho, _⟩ := mem_ready.1 hir
      have ho' : l[i]? = some o := by simpa using ho
      obtain ⟨h1, h2, h4⟩ := h o ho'
      exact hfirst undef S hB1.1 (fun _ h => h) (fun j a b c => .inl (rgSt_spec hB1.2 j a b c)) h2 (fun _ => h2) (fun o2 ho2 => by
        rw [ho'] at ho2
        cases ho2
        exact ⟨.inr ⟨h1, rfl⟩, h4⟩)
    | n + 6, hB1, h =>
      simp only [Bool.and_eq_true, Bool.not_eq_true'] at hB1
      exact hfirst undef (fun _ => True) hB1.2 (fun _ _ => trivial) (fun _ _ _ _ => .inr ⟨fun _ => trivial, by simpa using hB1.1⟩) trivial (fun h6 => absurd h6 (by simpa using hB1.1)) (fun o ho => ⟨.inr ⟨(h o ho).1, rfl⟩, (h o ho).2⟩)

theorem closed_none (n : Nat) : Closed l (lsD (Array.replicate n false)) := fun j o _ hd => by
  have hd' : (Array.replicate n false).getD j false = true := hd
  rw [Array.getD_eq_getD_getElem?, Array.getElem?_replicate] at hd'
  split at hd' <;> simp at hd'
theorem ord_imp {C' : Act → World → Prop} (hC : ∀ a w, C a w → C' a w) : ∀ (ord : List (Nat × Nat)) (a : Act) (w : World), wpOrd P l Q S C ord a w → wpOrd P l Q S C' ord a w
  | [], a, w, h => hC a w h
  | (i, k) :: r, a, w, h => fun o ho => by
    have h1 := h o ho
    match k, h1 with
    | 0, h1 => exact ⟨h1.1, h1.2.1, h1.2.2.imp fun v hv => ⟨hv.1, ord_imp hC r _ _ hv.2⟩⟩
    | 1, h1 => exact ⟨h1.1, ord_imp hC r _ _ h1.2⟩
    | 2, h1 => exact ⟨h1.1, Oper.wp_mono (fun a' w' h3 => ⟨h3.1, ord_imp hC r _ _ h3.2⟩) h1.2⟩
    | 3, h1 => exact ⟨h1.1, Oper.wp_mono (fun a' w' h3 => ord_imp hC r _ _ h3) h1.2⟩
    | 4, h1 => exact ⟨h1.1, h1.2.imp fun v hv => ⟨hv.1, ord_imp hC r _ _ hv.2⟩⟩
    | 5, h1 => exact ⟨h1.1, h1.2.1, ord_imp hC r _ _ h1.2.2⟩
    | n + 6, h1 => exact ⟨h1.1, ord_imp hC r _ _ h1.2⟩
theorem wp_region_ord {id : Nat} {a : Act} {w : World} (S : World → Prop) (hl : List Nat) (ord : List (Nat × Nat)) (hm : P.follows .mixedOrders = true) (hs : Region.noSelect l.toArray = true) (hn : ord.length = l.length) (hB : (rgOrdB l hl ord (Array.replicate l.length false) && (Region.ready .any l.toArray (rgSet ord (Array.replicate l.length false))).isEmpty) = true)
    (h : wpOrd P l (NoPanic Q) S (fun a w => NoPanic Q .normal a w) ord a w.drew) : (Code.region id l.toArray true).wp P Q a w := by
  refine wp_region_noPanic (wp_region_any hm (wpAny_of_R (S := S) (hl := hl) _ _ _ _ ?_))
  rw [Bool.and_eq_true] at hB
  have := anyR_of_ord (P := P) (Q := NoPanic Q) (S := S) (hl := hl) hs (fun _ _ _ h => h) 0 ord _ a w.drew (closed_none _) hB.1 (ord_imp (fun a w h _ => ⟨by simpa using hB.2, h⟩) ord _ _ h)
  rw [Nat.add_zero, hn] at this
  simpa using this
theorem ord_read {i : Nat} {o : Oper} {r : List (Nat × Nat)} {a : Act} {w : World} (v : Value) (ho : l[i]? = some o) (hg : o.guard = none) (hS : S w) (hv : ∀ w', S w' → (execOp a.eval o).run P w' = .ok (.value v) w') (h : wpOrd P l Q S C r (a.put o.dst v) w) : wpOrd P l Q S C ((i, 0) :: r) a w := by
  intro o2 ho2
  rw [ho] at ho2
  cases ho2
  exact ⟨by simp [Region.wanted, hg], hS, v, hv, h⟩
theorem ord_done {a : Act} {w : World} (h : Q .normal a w) : wpOrd P l (NoPanic Q) S (fun a w => NoPanic Q .normal a w) [] a w := h
theorem ordG_read {i : Nat} {o : Oper} {r : List (Nat × Nat)} {a : Act} {w : World} (v : Value) (ho : l[i]? = some o) (hg : Region.wanted o (yielded l.toArray a.tmps) = true) (hS : S w) (hv : ∀ w', S w' → (execOp a.eval o).run P w' = .ok (.value v) w') (h : wpOrd P l Q S C r (a.put o.dst v) w) : wpOrd P l Q S C ((i, 0) :: r) a w := by
  intro o2 ho2
  rw [ho] at ho2
  cases ho2
  exact ⟨hg, hS, v, hv, h⟩
theorem ordG_held {i : Nat} {o : Oper} {r : List (Nat × Nat)} {a : Act} {w : World} (ho : l[i]? = some o) (hg : Region.wanted o (yielded l.toArray a.tmps) = true) (h : ∀ K : Act → World → Prop, (∀ a' w', S w' → wpOrd P l Q S C r a' w' → K a' w') → o.wp P a w K Q) : wpOrd P l Q S C ((i, 2) :: r) a w := by
  intro o2 ho2
  rw [ho] at ho2
  cases ho2
  exact ⟨hg, h _ (fun a' w' h1 h2 => ⟨h1, h2⟩)⟩
end

end Go.Proofs.Ytbmkdbccdnbbjac

namespace Go.Proofs.Ytbmkdbccdnbbjac
open Go.RowKit
set_option linter.unusedVariables false

section
variable {P : Program} {Q : Exit → Act → World → Prop} {S S' : World → Prop} {C : Act → World → Prop} {l : List Oper} {hl : List Nat}
end

end Go.Proofs.Ytbmkdbccdnbbjac

namespace Go.Proofs.Ytbmkdbccdnbbjac
open Go.RowKit
set_option linter.unusedVariables false
set_option maxRecDepth 100000

set_option maxHeartbeats 3200000 in
theorem reqOK_impl (q : Rq) (w : World) (hz : q.n.size ≤ maxLen) : Calls Try.prog 30 #[qV q] w fun e w' => e = .returned (.bool (rqB q)) ∧ Below w.heap.size w w' := by
  have HA := hide (Joins.below_alloc1 w (.cells #[.int .i64 q.k, .int .i64 q.g, .int .i64 q.v, .string q.n] 39))
  have HV := hide (VarM.new w 39 (.int .i64 q.k) (.int .i64 q.g) (.int .i64 q.v) (.string q.n))
  obtain ⟨R, HR⟩ : ∃ R, Hid (rqB q = R) := ⟨_, hide rfl⟩
  have HPL := hide (rq_plain q)
  rw [unhide HR] at HPL ⊢
  unfold maxLen at hz
  go_enter Try.func30, Try.ntmps30
  go_upto_region 1 with fail
  revert HA HV
  generalize (w.alloc _) = W0
  intro HA HV
  obtain ⟨c0, c1, c2, c3⟩ := (unhide HV).cells
  cases hs : decide (q.n.size ≤ 65536)
  · have hd : decide ((q.n.size : Int) ≤ 65536) = false := by rw [← hs]; congr 1; simp; omega
    have HF : Hid (R = false) := hide (by have := unhide HPL; rw [hs] at this; exact this.symm)
    clear hs
    go_quiet (fail)
    generalize hW : (World.drewN _ _) = W1
    have HB : Hid (Below w.heap.size w W1) := hide (by rw [← hW]; exact (unhide HA).trans (Joins.below_draws _ _ _))
    clear hW
    go_wp2
    go_ret
    exact ⟨ret_bool (unhide HF).symm, unhide HB⟩
  · have hd : decide ((q.n.size : Int) ≤ 65536) = true := by rw [← hs]; congr 1; simp; omega
    have HF : Hid (R = eqR (plR q) q) := hide (by have := unhide HPL; rw [hs] at this; simpa using this.symm)
    have heq := eqR_run (plR q) q
    clear hs c0 c1 c2 c3
    have hS0 : VarR W0.drew w.heap.size q := (unhide HV).below (Below.refl _ _).drew
    refine wp_region_ord (fun w' => VarR w' w.heap.size q) [0, 1, 2, 3, 4, 5, 8, 6, 7, 9, 10, 11] [(0, 0), (1, 0), (2, 0), (3, 0), (4, 0), (5, 0), (8, 0), (6, 2), (7, 2), (9, 0), (10, 0), (11, 0)] (by kernel_rfl) (by kernel_rfl) rfl (by kernel_rfl) ?_
    refine ord_read (.pointer (some ⟨w.heap.size, 3, none⟩)) rfl rfl hS0 (fun W hW => by go_simp) ?_
    refine ord_read (.string q.n) rfl rfl hS0 (fun W hW => by obtain ⟨k0, k1, k2, k3⟩ := hW.cells; go_simp) ?_
    refine ord_read (.int .i64 q.n.size) rfl rfl hS0 (fun W hW => by go_simp) ?_
    refine ord_read (.bool true) rfl rfl hS0 (fun W hW => by go_simp) ?_
    refine ord_read (.bool true) rfl rfl hS0 (fun W hW => by go_simp) ?_
    refine ordG_read (qV q) rfl rfl hS0 (fun W hW => by obtain ⟨k0, k1, k2, k3⟩ := hW.cells; go_simp) ?_
    refine ordG_read (qV q) rfl rfl hS0 (fun W hW => by obtain ⟨k0, k1, k2, k3⟩ := hW.cells; go_simp) ?_
    refine ordG_held rfl rfl ?_
    intro K hK
    unfold Oper.wp
    go_simp
    refine (useOf_any q _).mono ?_
    rintro e w1 ⟨rfl, hb⟩
    have HB1 := hide (fr (fr (unhide HA) (Below.refl _ _).drew) hb)
    have HS1 := hide (hS0.below hb)
    clear hb
    refine hK _ _ (unhide HS1) ?_
    clear hK K hS0
    refine ordG_held rfl rfl ?_
    intro K hK
    unfold Oper.wp
    go_simp
    refine (plainReq_any q _).mono ?_
    rintro e w2 ⟨rfl, hb⟩
    have HB2 := hide (fr (unhide HB1) hb)
    have hS2 := (unhide HS1).below hb
    clear hb
    refine hK _ _ hS2 ?_
    clear hK K
    refine ordG_read (.bool (eqR (plR q) q)) rfl rfl hS2 (fun W hW => by have := heq W; go_simp) ?_
    refine ord_read (.bool (eqR (plR q) q)) rfl rfl hS2 (fun W hW => by go_simp) ?_
    refine ord_read (.bool (eqR (plR q) q)) rfl rfl hS2 (fun W hW => by go_simp) ?_
    refine ord_done ?_
    generalize eqR (plR q) q = E at *
    go_wp2
    go_ret
    exact ⟨ret_bool (unhide HF).symm, unhide HB2⟩

end Go.Proofs.Ytbmkdbccdnbbjac

namespace Go.Proofs.Ytbmkdbccdnbbjac
open Go.RowKit
set_option linter.unusedVariables false
set_option maxRecDepth 100000

def VarHs (w : World) (x : Nat) (h : Hst) : Prop := w.heap[x]? = some (.cells #[.int .i64 h.st, .int .i64 h.gen, .int .i64 h.ren] 90 (0, 0))
theorem VarHs.cells {w : World} {x : Nat} {h : Hst} (k : VarHs w x h) : w.cell? ⟨x, 0, none⟩ = some (.int .i64 h.st) ∧ w.cell? ⟨x, 1, none⟩ = some (.int .i64 h.gen) ∧ w.cell? ⟨x, 2, none⟩ = some (.int .i64 h.ren) := ⟨by rw [Joins.cell_of_block k]; rfl, by rw [Joins.cell_of_block k]; rfl, by rw [Joins.cell_of_block k]; rfl⟩
theorem VarHs.new (w : World) (h : Hst) : VarHs (w.alloc (.cells #[.int .i64 h.st, .int .i64 h.gen, .int .i64 h.ren] 90)) w.heap.size h := heap_alloc_new w _

set_option maxHeartbeats 3200000 in
theorem hostsOK_any (ho : Option Addr) (hc : Nat) (hs : List Hst) (t : Int) (w : World) (hl : hs.length ≤ maxLen) (hS : Hss w ho hs) :
    Calls Try.prog 55 #[.slice ho hs.length hc, .int .i64 t] w fun e w' => e = .returned (.bool (hsB hs t)) ∧ Below w.heap.size w w' := by
  have HC := hide hS
  clear hS
  unfold maxLen at hl
  by_cases h4 : hs.length = 4
  rotate_left
  · have HF := hide (hs_len (t := t) h4)
    have h4i : ((hs.length : Int) != 4) = true := by simp; omega
    go_enter Try.func55, Try.ntmps55
    go_wp2
    go_ret
    exact ⟨ret_bool (unhide HF).symm, Below.refl _ _⟩
  have h4i : ((hs.length : Int) != 4) = false := by simp; omega
  have H4 := hide h4
  clear h4
  go_enter Try.func55, Try.ntmps55
  go_wp2
  go_loopw [12] (fun i wr => ∃ k : Nat, k ≤ hs.length ∧ i = .int .i64 k ∧ Hid (∀ j (hj : j < hs.length), j < k → hs1 t hs[j] = true) ∧ Hid (Below w.heap.size w wr)) (fun i _ => hs.length - (intOf i).toNat)
  case atStart => exact ⟨0, Nat.zero_le _, rfl, hide (fun j _ h => by omega), hide (Below.refl _ _)⟩
  case round =>
    obtain ⟨k, hk, rfl, HS, HB⟩ := hrel
    by_cases hlt : k < hs.length
    · obtain ⟨b, off, rfl, hn0, hn1, hn2⟩ := ((unhide HC).below (unhide HB)) k hlt
      have HA := hide (Joins.below_alloc1 wr (.cells #[.int .i64 hs[k].st, .int .i64 hs[k].gen, .int .i64 hs[k].ren] 90))
      have HV := hide (VarHs.new wr hs[k])
      have HBA := hide (fr (unhide HB) (unhide HA))
      have HX := hide (fun h => hs_bad (t := t) hlt h)
      have HY : Hid (hs1 t hs[k] = true → ∀ j (hj : j < hs.length), j < k + 1 → hs1 t hs[j] = true) := hide (fun h j hj hjk => by
        by_cases e : j = k
        · subst e; exact h
        · exact unhide HS j hj (by omega))
      go_upto_region 6 with fail
      revert HX HY
      revert HA HV HBA
      generalize (wr.alloc _) = W0
      generalize hs[k] = x
      intro HA HV HBA HX HY
      clear hn0 hn1 hn2
      obtain ⟨c0, c1, c2⟩ := (unhide HV).cells
      cases h1 : betw x.st 0 2
      · have HF := hide (unhide HX (hs1_1 h1))
        go_wp2_with (go_at_call 54; refine (within_any _ _ _ _).mono ?_; rintro e w' ⟨rfl, hw⟩; replace hw := hw.symm; subst hw; rw [h1])
        go_ret
        exact ⟨ret_bool (unhide HF).symm, unhide HBA⟩
      · go_wp2_with fail
        refine (within_any _ _ _ _).mono ?_
        rintro e w2 ⟨rfl, hw⟩
        replace hw := hw.symm
        subst hw
        rw [h1]
        cases h2 : betw x.gen 0 1000000
        · have HF := hide (unhide HX (hs1_2 h2))
          go_wp2_with (go_at_call 54; refine (within_any _ _ _ _).mono ?_; rintro e w' ⟨rfl, hw⟩; replace hw := hw.symm; subst hw; rw [h2])
          go_ret
          exact ⟨ret_bool (unhide HF).symm, unhide HBA⟩
        · have HE := hide (hs1_3 (t := t) h1 h2)
          go_wp2_with fail
          refine (within_any _ _ _ _).mono ?_
          rintro e w2 ⟨rfl, hw⟩
          replace hw := hw.symm
          subst hw
          rw [h2]
          cases h3 : betw x.ren 0 t
          · have HF := hide (unhide HX ((unhide HE).trans h3))
            go_wp2_with (go_at_call 54; refine (within_any _ _ _ _).mono ?_; rintro e w' ⟨rfl, hw⟩; replace hw := hw.symm; subst hw; rw [h3])
            go_ret
            exact ⟨ret_bool (unhide HF).symm, unhide HBA⟩
          · have HS' := hide (unhide HY ((unhide HE).trans h3))
            go_wp2_with (go_at_call 54; refine (within_any _ _ _ _).mono ?_; rintro e w' ⟨rfl, hw⟩; replace hw := hw.symm; subst hw; rw [h3])
            go_roundw
            case rel => exact ⟨k + 1, by omega, by go_num, HS', HBA⟩
            case measure => simp [intOf]; omega
    · have HF := hide (hs_all (t := t) (unhide H4) (fun j h => unhide HS j h (by omega)))
      go_wp2
      go_ret
      exact ⟨ret_bool (unhide HF).symm, unhide HB⟩

set_option maxHeartbeats 12800000 in
theorem worldOK_impl (a : Wl4) (m : Wld) (w : World) (hL : WlL m) (hc : WlS w a m) :
    Calls Try.prog 20 #[wlV a m] w fun e w' => e = .returned (.bool (wokB m)) ∧ Below w.heap.size w w' := by
  have HB0 := hide (Joins.below_alloc1 w (.cells (wlC a m) 62))
  have HV0 := hide (VarW.new w 62 a m)
  have HC0 := hide (hc.below (unhide HB0))
  have HL := hide hL
  have heq := eqR_run m.q ⟨0, 0, 0, noB⟩
  obtain ⟨R, HR⟩ : ∃ R, Hid (R = wokB m) := ⟨_, hide rfl⟩
  rw [← unhide HR]
  clear hc hL
  go_enter Try.func20, Try.ntmps20
  go_upto_region 1 with fail
  revert HB0 HV0 HC0
  generalize (w.alloc _) = W0
  intro HB0 HV0 HC0
  obtain ⟨c0, c1, c2, c3, c4, c5, c6, c7, c8, c9, c10, c11, c12, c13, c14⟩ := (unhide HV0).cells
  go_wp2_with fail
  refine (diskOK_impl a.ao a.bo a.ca a.cb m.ss m.xs _ (unhide HL).s (unhide HL).i (unhide HC0).s (unhide HC0).i).mono ?_
  rintro e w1 ⟨rfl, hb⟩
  have HV1 := hide ((unhide HV0).below hb)
  have HC1 := hide ((unhide HC0).below hb)
  have HB1 := hide (fr (unhide HB0) hb)
  clear hb HV0 HC0 HB0 c0 c1 c2 c3 c4 c5 c6 c7 c8 c9 c10 c11 c12 c13 c14
  cases hd0 : diskB m.ss m.xs
  · have HF : Hid (R = false) := hide (by rw [unhide HR]; exact wok_0 hd0)
    clear hd0
    go_wp2
    go_ret
    exact ⟨ret_bool (unhide HF).symm, unhide HB1⟩
  have D0 := hide hd0
  clear hd0
  by_cases hx : m.xs.length = 0
  rotate_left
  · have hxi : ((m.xs.length : Int) == 0) = false := by rw [beq_eq_false_iff_ne]; omega
    have HF : Hid (R = false) := hide (by rw [unhide HR]; exact wok_x hx)
    clear hx
    obtain ⟨c0, c1, c2, c3, c4, c5, c6, c7, c8, c9, c10, c11, c12, c13, c14⟩ := (unhide HV1).cells
    go_wp2
    go_ret
    exact ⟨ret_bool (unhide HF).symm, unhide HB1⟩
  have hxi : ((m.xs.length : Int) == 0) = true := by rw [beq_iff_eq]; omega
  have HX := hide hx
  clear hx
  obtain ⟨c0, c1, c2, c3, c4, c5, c6, c7, c8, c9, c10, c11, c12, c13, c14⟩ := (unhide HV1).cells
  go_wp2_with fail
  refine (configOK_impl m.cf m.cd m.cl m.cr _).mono ?_
  rintro e w2 ⟨rfl, hb⟩
  have HV2 := hide ((unhide HV1).below hb)
  have HC2 := hide ((unhide HC1).below hb)
  have HB2 := hide (fr (unhide HB1) hb)
  clear hb HV1 HC1 HB1 c0 c1 c2 c3 c4 c5 c6 c7 c8 c9 c10 c11 c12 c13 c14
  cases hd1 : cokB m.cf m.cd m.cl m.cr
  · have HF : Hid (R = false) := hide (by rw [unhide HR]; exact wok_1 hd1)
    clear hd1
    go_wp2
    go_ret
    exact ⟨ret_bool (unhide HF).symm, unhide HB2⟩
  have D1 := hide hd1
  clear hd1
  clear hxi
  obtain ⟨c0, c1, c2, c3, c4, c5, c6, c7, c8, c9, c10, c11, c12, c13, c14⟩ := (unhide HV2).cells
  go_wp2_with fail
  refine (within_any _ _ _ _).mono ?_
  rintro e w3 ⟨rfl, hw⟩
  replace hw := hw.symm
  subst hw
  have HV3 := HV2
  have HC3 := HC2
  have HB3 := HB2
  clear HV2 HC2 HB2 c0 c1 c2 c3 c4 c5 c6 c7 c8 c9 c10 c11 c12 c13 c14
  cases hd2 : betw m.t 0 1000000
  · have HF : Hid (R = false) := hide (by rw [unhide HR]; exact wok_2 hd2)
    clear hd2
    go_wp2
    go_ret
    exact ⟨ret_bool (unhide HF).symm, unhide HB3⟩
  have D2 := hide hd2
  clear hd2
  obtain ⟨c0, c1, c2, c3, c4, c5, c6, c7, c8, c9, c10, c11, c12, c13, c14⟩ := (unhide HV3).cells
  go_wp2_with fail
  refine (hostsOK_any a.ho a.hc m.hs m.t _ (unhide HL).h (unhide HC3).h).mono ?_
  rintro e w4 ⟨rfl, hb⟩
  have HV4 := hide ((unhide HV3).below hb)
  have HC4 := hide ((unhide HC3).below hb)
  have HB4 := hide (fr (unhide HB3) hb)
  clear hb HV3 HC3 HB3 c0 c1 c2 c3 c4 c5 c6 c7 c8 c9 c10 c11 c12 c13 c14
  cases hd3 : hsB m.hs m.t
  · have HF : Hid (R = false) := hide (by rw [unhide HR]; exact wok_3 hd3)
    clear hd3
    go_wp2
    go_ret
    exact ⟨ret_bool (unhide HF).symm, unhide HB4⟩
  have D3 := hide hd3
  clear hd3
  obtain ⟨c0, c1, c2, c3, c4, c5, c6, c7, c8, c9, c10, c11, c12, c13, c14⟩ := (unhide HV4).cells
  go_wp2_with fail
  refine (guestOK_impl a.ga m.g _ (unhide HL).g (unhide HC4).g).mono ?_
  rintro e w5 ⟨rfl, hb⟩
  have HV5 := hide ((unhide HV4).below hb)
  have HC5 := hide ((unhide HC4).below hb)
  have HB5 := hide (fr (unhide HB4) hb)
  clear hb HV4 HC4 HB4 c0 c1 c2 c3 c4 c5 c6 c7 c8 c9 c10 c11 c12 c13 c14
  cases hd4 : gsB m.g
  · have HF : Hid (R = false) := hide (by rw [unhide HR]; exact wok_4 hd4)
    clear hd4
    go_wp2
    go_ret
    exact ⟨ret_bool (unhide HF).symm, unhide HB5⟩
  have D4 := hide hd4
  clear hd4
  have HE : Hid (R = maybB m.q) := hide (by rw [unhide HR]; exact wok_all (unhide D0) (unhide HX) (unhide D1) (unhide D2) (unhide D3) (unhide D4))
  obtain ⟨c0, c1, c2, c3, c4, c5, c6, c7, c8, c9, c10, c11, c12, c13, c14⟩ := (unhide HV5).cells
  cases hq : eqR m.q ⟨0, 0, 0, noB⟩
  · have HF : Hid (R = rqB m.q) := hide (by rw [unhide HE]; exact mayb_no hq)
    rw [hq] at heq
    go_wp2_with fail
    refine (reqOK_impl m.q _ (unhide HL).q).mono ?_
    rintro e w6 ⟨rfl, hb⟩
    have HB6 := hide (fr (unhide HB5) hb)
    clear hb
    go_wp2
    go_ret
    exact ⟨ret_bool (unhide HF).symm, unhide HB6⟩
  · have HF : Hid (R = true) := hide (by rw [unhide HE]; exact mayb_yes hq)
    rw [hq] at heq
    go_wp2
    go_ret
    exact ⟨ret_bool (unhide HF).symm, unhide HB5⟩

end Go.Proofs.Ytbmkdbccdnbbjac

namespace Go.Proofs.Ytbmkdbccdnbbjac
open Go.RowKit
set_option linter.unusedVariables false
set_option maxRecDepth 100000

theorem neR_run (a b : Rq) (W : World) : (binOp .neq 39 (qV a) (qV b)).run Try.prog W = .ok (.bool (!(eqR a b))) W := by
  have u1 := Try.underlying39
  have u2 := Try.underlying3
  have u3 := Try.underlying9
  rw [run_neq_struct, run_equalIn_struct W 9999 39 _ _ (by kernel_rfl) (by kernel_rfl)]
  cases h1 : a.k == b.k <;> cases h2 : a.g == b.g <;> cases h3 : a.v == b.v <;> cases h4 : a.n.toList == b.n.toList <;> simp [Op.eqFields, Program.fieldsOf, u1, u2, u3, part, sizeOf, typeInfo, go_sem, eqR, h1, h2, h3, h4]

set_option maxHeartbeats 12800000 in
theorem worldOK_spec (a : Wl4) (m : Wld) (w : World) (hL : WlL m) (hc : WlS w a m) :
    Calls Try.prog 18 #[wlV a m] w fun e w' => e = .returned (.bool (wokB m)) ∧ Below w.heap.size w w' := by
  have HB0 := hide (Joins.below_alloc1 w (.cells (wlC a m) 62))
  have HV0 := hide (VarW.new w 62 a m)
  have HC0 := hide (hc.below (unhide HB0))
  have HL := hide hL
  have heq := neR_run m.q ⟨0, 0, 0, noB⟩
  obtain ⟨R, HR⟩ : ∃ R, Hid (R = wokB m) := ⟨_, hide rfl⟩
  rw [← unhide HR]
  clear hc hL
  go_enter Try.func18, Try.ntmps18
  go_upto_region 1 with fail
  revert HB0 HV0 HC0
  generalize (w.alloc _) = W0
  intro HB0 HV0 HC0
  obtain ⟨c0, c1, c2, c3, c4, c5, c6, c7, c8, c9, c10, c11, c12, c13, c14⟩ := (unhide HV0).cells
  go_wp2_with fail
  refine (diskOK_spec a.ao a.bo a.ca a.cb m.ss m.xs _ (unhide HL).s (unhide HL).i (unhide HC0).s (unhide HC0).i).mono ?_
  rintro e w1 ⟨rfl, hb⟩
  have HV1 := hide ((unhide HV0).below hb)
  have HC1 := hide ((unhide HC0).below hb)
  have HB1 := hide (fr (unhide HB0) hb)
  clear hb HV0 HC0 HB0 c0 c1 c2 c3 c4 c5 c6 c7 c8 c9 c10 c11 c12 c13 c14
  cases hd0 : diskB m.ss m.xs
  · have HF : Hid (R = false) := hide (by rw [unhide HR]; exact wok_0 hd0)
    clear hd0
    go_wp2
    go_ret
    exact ⟨ret_bool (unhide HF).symm, unhide HB1⟩
  have D0 := hide hd0
  clear hd0
  obtain ⟨c0, c1, c2, c3, c4, c5, c6, c7, c8, c9, c10, c11, c12, c13, c14⟩ := (unhide HV1).cells
  go_wp2_with fail
  refine (configOK_spec m.cf m.cd m.cl m.cr _).mono ?_
  rintro e w2 ⟨rfl, hb⟩
  have HV2 := hide ((unhide HV1).below hb)
  have HC2 := hide ((unhide HC1).below hb)
  have HB2 := hide (fr (unhide HB1) hb)
  clear hb HV1 HC1 HB1 c0 c1 c2 c3 c4 c5 c6 c7 c8 c9 c10 c11 c12 c13 c14
  cases hd1 : cokB m.cf m.cd m.cl m.cr
  · have HF : Hid (R = false) := hide (by rw [unhide HR]; exact wok_1 hd1)
    clear hd1
    go_wp2
    go_ret
    exact ⟨ret_bool (unhide HF).symm, unhide HB2⟩
  have D1 := hide hd1
  clear hd1
  by_cases h4 : m.hs.length = 4
  rotate_left
  · have h4i : ((m.hs.length : Int) != 4) = true := by simp; omega
    have HF : Hid (R = false) := hide (by rw [unhide HR]; exact wok_3 (hs_len h4))
    clear h4
    obtain ⟨c0, c1, c2, c3, c4, c5, c6, c7, c8, c9, c10, c11, c12, c13, c14⟩ := (unhide HV2).cells
    go_wp2
    go_ret
    exact ⟨ret_bool (unhide HF).symm, unhide HB2⟩
  have h4i : ((m.hs.length : Int) != 4) = false := by simp; omega
  have H4 := hide h4
  clear h4
  obtain ⟨c0, c1, c2, c3, c4, c5, c6, c7, c8, c9, c10, c11, c12, c13, c14⟩ := (unhide HV2).cells
  go_wp2_with fail
  refine (in_any _ _ _ _).mono ?_
  rintro e w3 ⟨rfl, hw⟩
  replace hw := hw.symm
  subst hw
  have HV3 := HV2
  have HC3 := HC2
  have HB3 := HB2
  clear HV2 HC2 HB2 c0 c1 c2 c3 c4 c5 c6 c7 c8 c9 c10 c11 c12 c13 c14
  cases hd2 : betw m.t 0 1000000
  · have HF : Hid (R = false) := hide (by rw [unhide HR]; exact wok_2 hd2)
    clear hd2
    go_wp2
    go_ret
    exact ⟨ret_bool (unhide HF).symm, unhide HB3⟩
  have D2 := hide hd2
  clear hd2
  clear h4i
  obtain ⟨c0, c1, c2, c3, c4, c5, c6, c7, c8, c9, c10, c11, c12, c13, c14⟩ := (unhide HV3).cells
  go_wp2_with fail
  refine (guestOK_spec a.ga m.g _ (unhide HL).g (unhide HC3).g).mono ?_
  rintro e w4 ⟨rfl, hb⟩
  have HV4 := hide ((unhide HV3).below hb)
  have HC4 := hide ((unhide HC3).below hb)
  have HB4 := hide (fr (unhide HB3) hb)
  clear hb HV3 HC3 HB3 c0 c1 c2 c3 c4 c5 c6 c7 c8 c9 c10 c11 c12 c13 c14
  cases hd3 : gsB m.g
  · have HF : Hid (R = false) := hide (by rw [unhide HR]; exact wok_4 hd3)
    clear hd3
    go_wp2
    go_ret
    exact ⟨ret_bool (unhide HF).symm, unhide HB4⟩
  have D3 := hide hd3
  clear hd3
  by_cases hx : m.xs.length = 0
  rotate_left
  · have hxi : (0 : Int) < (m.xs.length : Int) := by omega
    have HF : Hid (R = false) := hide (by rw [unhide HR]; exact wok_x hx)
    clear hx
    obtain ⟨c0, c1, c2, c3, c4, c5, c6, c7, c8, c9, c10, c11, c12, c13, c14⟩ := (unhide HV4).cells
    go_wp2
    go_ret
    exact ⟨ret_bool (unhide HF).symm, unhide HB4⟩
  have hxi : ¬ (0 : Int) < (m.xs.length : Int) := by omega
  have HX := hide hx
  clear hx
  obtain ⟨c0, c1, c2, c3, c4, c5, c6, c7, c8, c9, c10, c11, c12, c13, c14⟩ := (unhide HV4).cells
  have HM : Hid (maybB m.q = false → R = false) := hide (fun h => by rw [unhide HR]; exact wok_6 h)
  have HN : Hid (maybB m.q = true → R = hsB m.hs m.t) := hide (fun h => by rw [unhide HR]; exact wok_h (unhide D0) (unhide HX) (unhide D1) (unhide D2) (unhide D3) h)
  go_upto_region 3 with fail
  have hxd : decide (0 < m.xs.length) = false := decide_eq_false (by omega)
  try rw [hxd]
  clear hxd
  go_cut [49] from 40 to 48 (fun z wx => z = .bool (!(maybB m.q)) ∧ Hid (VarW wx w.heap.size 62 a m) ∧ Hid (WlS wx a m) ∧ Hid (Below w.heap.size w wx))
  case first =>
    cases hq : eqR m.q ⟨0, 0, 0, noB⟩
    · simp only [hq, Bool.not_false] at heq
      go_wp2_with fail
      refine (reqOK_spec m.q _ (unhide HL).q).mono ?_
      rintro e w5 ⟨rfl, hb⟩
      have HV5 := hide ((unhide HV4).below hb)
      have HC5 := hide ((unhide HC4).below hb)
      have HB5 := hide (fr (unhide HB4) hb)
      clear hb HV4 HC4 HB4 c0 c1 c2 c3 c4 c5 c6 c7 c8 c9 c10 c11 c12 c13 c14
      have HZ : Hid (maybB m.q = rqB m.q) := hide (mayb_no hq)
      clear hq
      go_wp2_with fail
      go_meet
      exact ⟨by rw [unhide HZ], HV5, HC5, HB5⟩
    · simp only [hq, Bool.not_true] at heq
      have HZ : Hid (maybB m.q = true) := hide (mayb_yes hq)
      clear hq
      go_wp2_with fail
      go_meet
      exact ⟨by rw [unhide HZ]; rfl, HV4, HC4, HB4⟩
  case rest =>
    obtain ⟨rfl, HV5, HC5, HB5⟩ := hcut
    clear HV4 HC4 HB4 heq c0 c1 c2 c3 c4 c5 c6 c7 c8 c9 c10 c11 c12 c13 c14
    cases hr : maybB m.q
    · have HF : Hid (R = false) := hide (unhide HM hr)
      clear hr
      go_wp2
      go_ret
      exact ⟨ret_bool (unhide HF).symm, unhide HB5⟩
    have HMB : Hid (maybB m.q = true) := hide hr
    clear hr
    simp only [Bool.not_true]
    have HE := hide (unhide HN (unhide HMB))
    clear HM HN
    obtain ⟨c0, c1, c2, c3, c4, c5, c6, c7, c8, c9, c10, c11, c12, c13, c14⟩ := (unhide HV5).cells
    go_wp2
    clear c0 c1 c2 c3 c4 c5 c6 c7 c8 c9 c10 c11 c12 c13 c14
    go_loopw [3] (fun i wr => ∃ k : Nat, k ≤ 4 ∧ i = .int .i64 k ∧ Hid (∀ j (hj : j < m.hs.length), j < k → hs1 m.t m.hs[j] = true) ∧ Hid (VarW wr w.heap.size 62 a m) ∧ Hid (Hss wr a.ho m.hs) ∧ Hid (Below w.heap.size w wr)) (fun i _ => 4 - (intOf i).toNat)
    case atStart => exact ⟨0, Nat.zero_le _, rfl, hide (fun j _ h => by omega), HV5, hide (unhide HC5).h, HB5⟩
    case round =>
      obtain ⟨k, hk, rfl, HS, HV, HH, HB⟩ := hrel
      clear HV5 HC5 HB5
      have h4 := unhide H4
      by_cases hlt : k < 4
      · have hlt2 : k < m.hs.length := by omega
        have hki : (k : Int) < 4 := by omega
        have hk0 : (0 : Int) ≤ (k : Int) := by omega
        have hkl : (k : Int) < (m.hs.length : Int) := by omega
        obtain ⟨c0, c1, c2, c3, c4, c5, c6, c7, c8, c9, c10, c11, c12, c13, c14⟩ := (unhide HV).cells
        obtain ⟨b, off, hao, hn0, hn1, hn2⟩ := (unhide HH) k hlt2
        rw [hao] at c6
        have HA := hide (Joins.below_alloc1 wr (.cells #[.int .i64 m.hs[k].st, .int .i64 m.hs[k].gen, .int .i64 m.hs[k].ren] 90))
        have HVX := hide (VarHs.new wr m.hs[k])
        have HVA := hide ((unhide HV).below (unhide HA))
        have HHA := hide ((unhide HH).below (unhide HA))
        have HBA := hide (fr (unhide HB) (unhide HA))
        have HX := hide (fun h => hs_bad (t := m.t) hlt2 h)
        have HY : Hid (hs1 m.t m.hs[k] = true → ∀ j (hj : j < m.hs.length), j < k + 1 → hs1 m.t m.hs[j] = true) := hide (fun h j hj hjk => by
          by_cases e : j = k
          · subst e; exact h
          · exact unhide HS j hj (by omega))
        clear h4 HS
        go_upto_region 9 with fail
        revert HX HY
        revert HA HVX HVA HHA HBA
        generalize wr.heap.size = z
        generalize (wr.alloc _) = W9
        generalize m.hs[k] = x
        intro HA HVX HVA HHA HBA HX HY
        clear hn0 hn1 hn2 hao HV HH HB HA c0 c1 c2 c3 c4 c5 c6 c7 c8 c9 c10 c11 c12 c13 c14
        obtain ⟨x0, x1, x2⟩ := (unhide HVX).cells
        obtain ⟨c0, c1, c2, c3, c4, c5, c6, c7, c8, c9, c10, c11, c12, c13, c14⟩ := (unhide HVA).cells
        cases g1 : betw x.st 0 2
        · have HF : Hid (R = false) := hide (by rw [unhide HE]; exact unhide HX (hs1_1 g1))
          go_wp2_with (go_at_call 48; refine (in_any _ _ _ _).mono ?_; rintro e w' ⟨rfl, hw⟩; replace hw := hw.symm; subst hw; rw [g1])
          go_ret
          exact ⟨ret_bool (unhide HF).symm, unhide HBA⟩
        go_wp2_with fail
        refine (in_any _ _ _ _).mono ?_
        rintro e w2 ⟨rfl, hw⟩
        replace hw := hw.symm
        subst hw
        rw [g1]
        cases g2 : betw x.gen 0 1000000
        · have HF : Hid (R = false) := hide (by rw [unhide HE]; exact unhide HX (hs1_2 g2))
          go_wp2_with (go_at_call 48; refine (in_any _ _ _ _).mono ?_; rintro e w' ⟨rfl, hw⟩; replace hw := hw.symm; subst hw; rw [g2])
          go_ret
          exact ⟨ret_bool (unhide HF).symm, unhide HBA⟩
        have HQ := hide (hs1_3 (t := m.t) g1 g2)
        go_wp2_with fail
        refine (in_any _ _ _ _).mono ?_
        rintro e w2 ⟨rfl, hw⟩
        replace hw := hw.symm
        subst hw
        rw [g2]
        cases g3 : betw x.ren 0 m.t
        · have HF : Hid (R = false) := hide (by rw [unhide HE]; exact unhide HX ((unhide HQ).trans g3))
          go_wp2_with (go_at_call 48; refine (in_any _ _ _ _).mono ?_; rintro e w' ⟨rfl, hw⟩; replace hw := hw.symm; subst hw; rw [g3])
          go_ret
          exact ⟨ret_bool (unhide HF).symm, unhide HBA⟩
        have HS' := hide (unhide HY ((unhide HQ).trans g3))
        go_wp2_with (go_at_call 48; refine (in_any _ _ _ _).mono ?_; rintro e w' ⟨rfl, hw⟩; replace hw := hw.symm; subst hw; rw [g3])
        go_roundw
        case rel => exact ⟨k + 1, by omega, by go_num, HS', HVA, HHA, HBA⟩
        case measure => simp [intOf]; omega
      · have HF : Hid (R = true) := hide (by rw [unhide HE]; exact hs_all h4 (fun j h => unhide HS j h (by omega)))
        clear h4
        go_wp2
        go_ret
        exact ⟨ret_bool (unhide HF).symm, unhide HB⟩

end Go.Proofs.Ytbmkdbccdnbbjac

namespace Go.Proofs.Ytbmkdbccdnbbjac
open Go.RowKit
set_option linter.unusedVariables false
set_option maxRecDepth 100000

theorem wkWorldOK (a : Wl4) (m : Wld) (w : World) (hL : WlL m) (hc : WlS w a m) :
    Calls Try.prog 4 #[wlV a m] w fun e w' => e = .returned (.bool true) ∧ Below w.heap.size w w' :=
  lawWoWorldOK a m (wokB m) w hL hc (fun b W h => worldOK_spec b m W hL h) (fun b W h => worldOK_impl b m W hL h)

end Go.Proofs.Ytbmkdbccdnbbjac
