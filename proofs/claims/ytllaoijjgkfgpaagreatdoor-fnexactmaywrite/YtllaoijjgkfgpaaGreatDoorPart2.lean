import Derived.Test.YtllaoijjgkfgpaaGreatDoorRows
import Derived.Test.YtllaoijjgkfgpaaGreatDoorPart1
import Derived.WalkKit
import Derived.WalkSpells
import Derived.ProofKit
import Derived.OpenShut
import Derived.ShutString
import Derived.SliceStrings
import Derived.ChangeSlices
import Derived.Lib.SmallJoins
import Derived.Laws.OwnMore
import Derived.BigQuiet
import Derived.Deep.QuietTactic
import Derived.Deep.RegionWith
import Derived.KernelRfl
import Derived.LoopN
import Derived.Deep.CutRange
import Derived.Laws.BytesArg
import Derived.Laws.MakeOwn
import Derived.Deep.MidRow
import Derived.Deep.RegionLawGrows
import Derived.Deep.RegionHeld3
import Derived.Laws.StructEq

namespace Go.Proofs.YtllaoijjgkfgpaaGreatDoor
open Go.RowKit
set_option linter.unusedVariables false
set_option maxRecDepth 100000

def openB (s : ByteArray) (k : Int) : Bool := recB s && decide (byteAt s 0 = k)
def openL (s : ByteArray) (k : Int) : List Int := if openB s k = true then unL (bodyT s) else []
theorem openB_no {s : ByteArray} {k : Int} (h : ¬ RecP s) : openB s k = false := by rw [openB, recB_false h]; rfl
theorem openB_kind {s : ByteArray} {k : Int} (h : byteAt s 0 ≠ k) : openB s k = false := by rw [openB, decide_eq_false h]; simp
theorem openB_yes {s : ByteArray} {k : Int} (h : RecP s) (hk : byteAt s 0 = k) : openB s k = true := by rw [openB, recB_true h, decide_eq_true hk]; rfl
theorem openL_no {s : ByteArray} {k : Int} (h : openB s k = false) : openL s k = [] := if_neg (by simp [h])
theorem openL_yes {s : ByteArray} {k : Int} (h : openB s k = true) : openL s k = unL (bodyT s) := if_pos h

set_option maxHeartbeats 1600000 in
theorem l02Open_any (s : ByteArray) (k : Int) (w : World) (hs : s.size ≤ 65536) : Calls Tryz.prog 65 #[.string s, .int .i64 k] w fun e w' => ∃ v, e = .returned (.tuple #[v, .bool (openB s k)]) ∧ OwnN w' w.heap.size v (openL s k) ∧ Below w.heap.size w w' := by
  by_cases h4 : s.size < 4
  · have HB0 := hide (openB_no (s := s) (k := k) (fun h => by have := h.1; omega))
    have HL0 := hide (openL_no (unhide HB0))
    have h4i : (s.size : Int) < 4 := by omega
    go_enter Tryz.func65, Tryz.ntmps65
    go_wp2
    go_ret2
    exact ⟨.slice (some ⟨w.heap.size, 0, none⟩) 0 0, ret_nb rfl (unhide HB0).symm, by rw [unhide HL0]; exact OwnN.nil _ _ _, Joins.below_alloc1 _ _⟩
  have h4' : 4 ≤ s.size := by omega
  have h4i : ¬ (s.size : Int) < 4 := by omega
  have h0 : 0 < s.size := by omega
  have HG := hide (byteAt_get (s := s) (k := 0) h0)
  have hwb := wrap_byte s[0]
  by_cases hk : byteAt s 0 = k
  · have hkb : ((s[0].toNat : Int) != k) = false := by rw [← unhide HG, hk]; simp
    have HK := hide hk
    clear hk
    cases hkk : kindB k with
    | true =>
      have hkin := kindB_in hkk
      cases hok : okU (bodyT s) with
      | true =>
        have HP := hide (okU_parts hok)
        have HI := hide (seal_iff h4' (by rw [unhide HK]; exact hkk) hok)
        have HLU : Hid (listU (bodyT s) = unL (bodyT s)) := hide (if_pos (unhide HP).1)
        have HIN := hide (intsB_parts (unhide HP).2.2)
        have hbs : (bodyT s).size ≤ 65536 := by rw [bodyT_size]; omega
        by_cases hr : RecP s
        · have HB0 := hide (openB_yes hr (unhide HK))
          have HL0 := hide (openL_yes (unhide HB0))
          have hse : ((sealS k (unL (bodyT s))).toList == s.toList) = true := by
            have := (unhide HI).2 hr
            rw [unhide HK] at this
            rw [this]; simp
          clear hr
          go_enter Tryz.func65, Tryz.ntmps65
          go_wp2_with (go_at_call 107; refine (l02Kind_any _ _).mono ?_; rintro e w' ⟨rfl, hw⟩; replace hw := hw.symm; subst hw)
          refine (l02Unpack_any (bodyT s) _ hbs).mono ?_
          rintro e w1 ⟨v, rfl, ho, hb⟩
          rw [unhide HLU] at ho
          obtain ⟨qo, qa, rfl, ho⟩ := ho
          have HO := hide ho
          have HB := hide hb
          clear ho hb
          go_wp2_with (go_at_call 109; refine (l02Seal_any k _ _ (unL (bodyT s)) _ hkin (unhide HIN).2 (unhide HIN).1 (ownRN (unhide HO))).mono ?_; rintro e w2 ⟨rfl, hb2⟩; have HB2 := hide (fr (unhide HB) hb2); have HO2 := hide ((unhide HO).below hb2); clear hb2)
          go_ret2
          exact ⟨.slice qo (unL (bodyT s)).length qa, ret_nb rfl (unhide HB0).symm, by rw [unhide HL0]; exact ⟨qo, qa, rfl, unhide HO2⟩, unhide HB2⟩
        · have HB0 := hide (openB_no (k := k) hr)
          have HL0 := hide (openL_no (unhide HB0))
          have hse : ((sealS k (unL (bodyT s))).toList == s.toList) = false := str_beq_false (fun e => hr ((unhide HI).1 (by rw [unhide HK]; exact e)))
          clear hr
          go_enter Tryz.func65, Tryz.ntmps65
          go_wp2_with (go_at_call 107; refine (l02Kind_any _ _).mono ?_; rintro e w' ⟨rfl, hw⟩; replace hw := hw.symm; subst hw)
          refine (l02Unpack_any (bodyT s) _ hbs).mono ?_
          rintro e w1 ⟨v, rfl, ho, hb⟩
          rw [unhide HLU] at ho
          obtain ⟨qo, qa, rfl, ho⟩ := ho
          have HO := hide ho
          have HB := hide hb
          clear ho hb
          go_wp2_with (go_at_call 109; refine (l02Seal_any k _ _ (unL (bodyT s)) _ hkin (unhide HIN).2 (unhide HIN).1 (ownRN (unhide HO))).mono ?_; rintro e w2 ⟨rfl, hb2⟩; have HB2 := hide (fr (unhide HB) hb2); clear hb2)
          go_ret2
          exact ⟨.slice (some ⟨w2.heap.size, 0, none⟩) 0 0, ret_nb rfl (unhide HB0).symm, by rw [unhide HL0]; exact OwnN.nil _ _ _, fr (unhide HB2) (Joins.below_alloc1 _ _)⟩
      | false =>
        have HB0 := hide (openB_no (s := s) (k := k) (fun h => by have := h.2.2.2.2.2; rw [hok] at this; cases this))
        have HL0 := hide (openL_no (unhide HB0))
        have hbs : (bodyT s).size ≤ 65536 := by rw [bodyT_size]; omega
        go_enter Tryz.func65, Tryz.ntmps65
        go_wp2_with (go_at_call 107; refine (l02Kind_any _ _).mono ?_; rintro e w' ⟨rfl, hw⟩; replace hw := hw.symm; subst hw)
        refine (l02Unpack_any (bodyT s) _ hbs).mono ?_
        rintro e w1 ⟨v, rfl, ho, hb⟩
        have HB := hide hb
        clear ho hb
        go_wp2
        go_ret2
        exact ⟨.slice (some ⟨w1.heap.size, 0, none⟩) 0 0, ret_nb rfl (unhide HB0).symm, by rw [unhide HL0]; exact OwnN.nil _ _ _, fr (unhide HB) (Joins.below_alloc1 _ _)⟩
    | false =>
      have HB0 := hide (openB_no (s := s) (k := k) (fun h => by have := h.2.1; rw [unhide HK, hkk] at this; cases this))
      have HL0 := hide (openL_no (unhide HB0))
      go_enter Tryz.func65, Tryz.ntmps65
      go_wp2_with (go_at_call 107; refine (l02Kind_any _ _).mono ?_; rintro e w' ⟨rfl, hw⟩; replace hw := hw.symm; subst hw)
      go_ret2
      exact ⟨.slice (some ⟨w.heap.size, 0, none⟩) 0 0, ret_nb rfl (unhide HB0).symm, by rw [unhide HL0]; exact OwnN.nil _ _ _, Joins.below_alloc1 _ _⟩
  · have hkb : ((s[0].toNat : Int) != k) = true := by rw [← unhide HG]; simp [hk]
    have HB0 := hide (openB_kind hk)
    have HL0 := hide (openL_no (unhide HB0))
    clear hk
    go_enter Tryz.func65, Tryz.ntmps65
    go_wp2
    go_ret2
    exact ⟨.slice (some ⟨w.heap.size, 0, none⟩) 0 0, ret_nb rfl (unhide HB0).symm, by rw [unhide HL0]; exact OwnN.nil _ _ _, Joins.below_alloc1 _ _⟩

end Go.Proofs.YtllaoijjgkfgpaaGreatDoor

namespace Go.Proofs.YtllaoijjgkfgpaaGreatDoor
open Go.RowKit
set_option linter.unusedVariables false

end Go.Proofs.YtllaoijjgkfgpaaGreatDoor

namespace Go.Proofs.YtllaoijjgkfgpaaGreatDoor
open Go.RowKit
set_option linter.unusedVariables false
set_option maxRecDepth 100000

end Go.Proofs.YtllaoijjgkfgpaaGreatDoor

namespace Go.Proofs.YtllaoijjgkfgpaaGreatDoor
open Go.RowKit
set_option linter.unusedVariables false
set_option maxRecDepth 100000

structure Snp where
  name : ByteArray
  table : List Int
def nm1 (b : UInt8) : Bool := decide (97 ≤ b.toNat) && decide (b.toNat ≤ 122)
def snmB (t : ByteArray) : Bool := t.data.toList.all nm1 && betw (t.size : Int) 1 6
def namesB (ss : List Snp) : Bool := decide ((ss.map (·.name)).Nodup)
end Go.Proofs.YtllaoijjgkfgpaaGreatDoor

namespace Go.Proofs.YtllaoijjgkfgpaaGreatDoor
open Go.RowKit
set_option linter.unusedVariables false
set_option maxRecDepth 100000

def Sns (w : World) (ao : Option Addr) (ss : List Snp) : Prop := ∀ i (h : i < ss.length), ∃ b off tq tc, ao = some ⟨b, off, none⟩ ∧ w.cell? ⟨b, off + i * 2, none⟩ = some (.string ss[i].name) ∧ w.cell? ⟨b, off + i * 2 + 1, none⟩ = some (.slice tq ss[i].table.length tc) ∧ Is w tq ss[i].table ∧ ss[i].name.size ≤ maxLen ∧ ss[i].table.length ≤ maxLen
theorem Sns.below {w w' : World} {ao : Option Addr} {ss : List Snp} (h : Sns w ao ss) (hb : Below w.heap.size w w') : Sns w' ao ss := fun i hi => by
  obtain ⟨b, off, tq, tc, e, h0, h1, h2, h3, h4⟩ := h i hi
  have hl := World.block_lt_of_cell? _ _ h0
  exact ⟨b, off, tq, tc, e, (hb.cell (p := ⟨b, off + i * 2, none⟩) hl).trans h0, (hb.cell (p := ⟨b, off + i * 2 + 1, none⟩) hl).trans h1, h2.below hb, h3, h4⟩
abbrev snV (s : Snp) (tq : Option Addr) (tc : Nat) : Value := .agg #[.string s.name, .slice tq s.table.length tc]
def sn1 (s : Snp) : Nat := s.name.size + s.table.length
def snSz (ss : List Snp) : Nat := (ss.map sn1).sum
theorem snSz_take {ss : List Snp} {k : Nat} (h : k < ss.length) : snSz (ss.take (k + 1)) = snSz (ss.take k) + sn1 ss[k] := by
  unfold snSz
  rw [List.take_succ_eq_append_getElem h, List.map_append, List.sum_append]; simp
theorem sn_le {ss : List Snp} {k : Nat} (h : k < ss.length) : sn1 ss[k] ≤ snSz ss := by
  have e := snSz_take h
  have : ∀ (xs : List Snp) (n : Nat), snSz (xs.take n) ≤ snSz xs := by
    intro xs n
    have h2 : snSz xs = snSz (xs.take n) + snSz (xs.drop n) := by
      unfold snSz
      rw [← List.sum_append, ← List.map_append, List.take_append_drop]
    omega
  have := this ss (k + 1)
  omega

end Go.Proofs.YtllaoijjgkfgpaaGreatDoor

namespace Go.Proofs.YtllaoijjgkfgpaaGreatDoor
open Go.ChangeShapes Go.WideShapes Go.ChangeAt Go.RowKit Go.Deep
set_option linter.unusedVariables false
set_option maxRecDepth 100000

section
variable {H : Type} {enc : TypeId × Value → H} {P : Program} {w : World} {base : Nat} {spare : Nat → Bool} {held : Bool}
theorem add_im {a : Addr} {i : Nat} (h : a.spot = none) : a.add i = ⟨a.block, a.off + i, none⟩ := by
  unfold Addr.add
  by_cases hi : i = 0
  · subst hi; cases a; simp_all
  · simp [hi]
theorem open_IsV {t e : TypeId} {fuel : Nat} {v : Value} {x : DataW H × List MemPlace} (ht : P.underlying t = some (.slice e)) (he : P.underlying e = some (.int .i64)) (hc : P.cellsOf e = 1)
    (h : DataW.trod enc P w base spare held fuel t [v] = some x) : ∃ ao cap, ∃ xs : List Int, v = .slice ao xs.length cap ∧ xs.length ≤ maxLen ∧ Is w ao xs := by
  rcases open_ints ht he hc h with ⟨hcs, _⟩ | ⟨a, len, cap, zs, hcs, _, hl, hcm, hz, _, hcell, hws⟩
  · simp only [List.cons.injEq, and_true] at hcs
    subst hcs
    exact ⟨none, 0, [], rfl, Nat.zero_le _, fun i hi => absurd hi (Nat.not_lt_zero _)⟩
  · simp only [List.cons.injEq, and_true] at hcs
    subst hcs
    have hlen : len ≤ zs.length := by rw [hz]; split <;> omega
    have htl : (zs.take len).length = len := by simp; omega
    refine ⟨some a, cap, zs.take len, by rw [htl], by omega, fun i hi => ?_⟩
    have hi' : i < len := by omega
    have h0 : a.spot = none := by
      have := World.cell?_spot (hcell 0 (by omega))
      simpa [Addr.add] using this
    have hci := hcell i (by omega)
    rw [add_im h0] at hci
    have hg : (zs.take len)[i] = zs.getD i 0 := by
      rw [List.getElem_take]; simp [List.getD, show i < zs.length by omega]
    refine ⟨a.block, a.off, ?_, ?_⟩
    · cases a; simp_all
    · rw [hci, hg]
theorem cells2I {a : Addr} {cs : List Value} (h : w.cells? base a 2 = some cs) : ∃ c0 c1, cs = [c0, c1] ∧ w.cell? (a.add 0) = some c0 ∧ w.cell? (a.add 1) = some c1 := by
  unfold World.cells? at h
  split at h
  · simp only [List.range, List.range.loop, List.mapM_cons, List.mapM_nil, Option.bind_eq_bind, Option.pure_def, Option.bind_eq_some_iff, Option.some.injEq] at h
    obtain ⟨c0, h0, r0, ⟨c1, h1, r1, hr1, rfl⟩, rfl⟩ := h
    subst hr1
    exact ⟨c0, c1, rfl, h0, h1⟩
  · cases h
theorem open_SnsV {t e tn ts ti : TypeId} {f0 f1 : Field} {fuel : Nat} {v : Value} {x : DataW H × List MemPlace} (ht : P.underlying t = some (.slice e)) (he : P.underlying e = some (.struct #[f0, f1]))
    (hs : P.underlying ts = some .string) (hn : P.underlying tn = some (.slice ti)) (hi : P.underlying ti = some (.int .i64)) (e0 : f0.type = ts ∧ f0.offset = 0) (e1 : f1.type = tn ∧ f1.offset = 1)
    (cs : P.cellsOf ts = 1) (cn : P.cellsOf tn = 1) (ci : P.cellsOf ti = 1) (ce : P.cellsOf e = 2)
    (h : DataW.trod enc P w base spare held fuel t [v] = some x) : ∃ ao cap xs, v = .slice ao xs.length cap ∧ xs.length ≤ maxLen ∧ Sns w ao xs := by
  rcases open_slice ht h with ⟨hcs, _⟩ | ⟨a, len, cap, m, n, D, Pl, hcs, _, hl, hmx, hm, _, hel⟩
  · simp only [List.cons.injEq, and_true] at hcs
    subst hcs
    exact ⟨none, 0, [], rfl, Nat.zero_le _, fun i hi => absurd hi (Nat.not_lt_zero _)⟩
  · simp only [List.cons.injEq, and_true] at hcs
    subst hcs
    have hlm : len ≤ m := by rw [hm]; split <;> omega
    have each : ∀ i, i < len → ∃ y : Snp, ∃ tq tc, w.cell? ((a.add (i * 2)).add 0) = some (.string y.name) ∧ w.cell? ((a.add (i * 2)).add 1) = some (.slice tq y.table.length tc) ∧ Is w tq y.table ∧ y.name.size ≤ maxLen ∧ y.table.length ≤ maxLen := by
      intro i hi'
      obtain ⟨cs', hc, hd⟩ := hel i (by omega)
      rw [ce] at hc
      obtain ⟨c0, c1, rfl, k0, k1⟩ := cells2I hc
      obtain ⟨y0, y1, n', _, _, t0, t1⟩ := trod_struct2 he hd
      rw [e0.1, e0.2, cs] at t0
      rw [e1.1, e1.2, cn] at t1
      obtain ⟨z0, q0, _, hz⟩ := DataW.trod_string hs t0
      simp only [List.drop_zero, List.take_succ_cons, List.take_zero, List.drop_succ_cons] at t1
      obtain ⟨ao, cap', xs, rfl, hxl, hxs⟩ := open_IsV hn hi ci t1
      simp at q0
      subst q0
      exact ⟨⟨z0, xs⟩, ao, cap', k0, k1, hxs, hz, hxl⟩
    haveI : Inhabited Snp := ⟨⟨⟨#[]⟩, []⟩⟩
    obtain ⟨f, hf⟩ := choose_lt (α := Snp) each
    have htl : ((List.range len).map f).length = len := by simp
    refine ⟨some a, cap, (List.range len).map f, by rw [htl], by omega, fun i hi' => ?_⟩
    have hi2 : i < len := by omega
    have h0 : a.spot = none := by
      obtain ⟨_, _, g0, _⟩ := hf 0 (by omega)
      have := World.cell?_spot g0
      simpa [Addr.add] using this
    obtain ⟨tq, tc, g0, g1, g2, g3, g4⟩ := hf i hi2
    have hg : ((List.range len).map f)[i] = f i := by simp
    have hsp : (a.add (i * 2)).spot = none := by rw [add_im h0]
    rw [add_im hsp, add_im h0] at g0 g1
    refine ⟨a.block, a.off, tq, tc, ?_, ?_, ?_, ?_, ?_, ?_⟩
    · cases a; simp_all
    · rw [hg]; exact g0
    · rw [hg]; exact g1
    · rw [hg]; exact g2
    · rw [hg]; exact g3
    · rw [hg]; exact g4
end
end Go.Proofs.YtllaoijjgkfgpaaGreatDoor

namespace Go.Proofs.YtllaoijjgkfgpaaGreatDoor
open Go.RowKit
set_option linter.unusedVariables false
set_option maxRecDepth 100000

structure Gst where
  vals : List Int
  shots : List Snp
def gs0 : Gst := ⟨[], []⟩
def gvB (xs : List Int) : Bool := decide (xs.length ≤ 12) && xs.all numB
def gsB (g : Gst) : Bool := gvB g.vals && decide (g.shots.length ≤ 3) && g.shots.all (fun s => snmB s.name && gvB s.table) && namesB g.shots
structure GsR (g : Gst) : Prop where
  v : g.vals.length ≤ 12
  n : ∀ x ∈ g.vals, numB x = true
  few : g.shots.length ≤ 3
  s : ∀ s ∈ g.shots, snmB s.name = true ∧ s.table.length ≤ 12 ∧ ∀ x ∈ s.table, numB x = true
  names : (g.shots.map (·.name)).Nodup
theorem gsB_iff {g : Gst} : gsB g = true ↔ GsR g := by
  constructor
  · intro h
    simp only [gsB, gvB, namesB, Bool.and_eq_true, decide_eq_true_eq, List.all_eq_true] at h
    obtain ⟨⟨⟨⟨h1, h2⟩, h3⟩, h4⟩, h5⟩ := h
    exact ⟨h1, h2, h3, fun s hs => ⟨(h4 s hs).1, (h4 s hs).2.1, (h4 s hs).2.2⟩, h5⟩
  · intro h
    simp only [gsB, gvB, namesB, Bool.and_eq_true, decide_eq_true_eq, List.all_eq_true]
    exact ⟨⟨⟨⟨h.v, h.n⟩, h.few⟩, fun s hs => ⟨(h.s s hs).1, (h.s s hs).2.1, (h.s s hs).2.2⟩⟩, h.names⟩
structure GsL (g : Gst) : Prop where
  v : g.vals.length ≤ maxLen
  s : g.shots.length ≤ maxLen

end Go.Proofs.YtllaoijjgkfgpaaGreatDoor

namespace Go.Proofs.YtllaoijjgkfgpaaGreatDoor
open Go.RowKit
set_option linter.unusedVariables false
set_option maxRecDepth 100000

structure OwnA (w : World) (B : Nat) (rs : List (Value × List Int)) : Prop where
  own : ∀ r ∈ rs, OwnN w B r.1 r.2
  apart : rs.Pairwise (fun a b => ∀ g, Own a.1 g → ¬ Own b.1 g)
theorem OwnN.ge {w : World} {B : Nat} {v : Value} {xs : List Int} (h : OwnN w B v xs) : ∀ k, Own v k → B ≤ k ∧ k < w.heap.size := by
  obtain ⟨ao, cap, rfl, ho⟩ := h
  exact ho.ge
theorem OwnA.below {w w' : World} {B : Nat} {rs : List (Value × List Int)} (h : OwnA w B rs) (hb : Below w.heap.size w w') : OwnA w' B rs := ⟨fun r hr => (h.own r hr).below hb, h.apart⟩
theorem OwnA.base {w : World} {B B' : Nat} {rs : List (Value × List Int)} (h : OwnA w B rs) (hB : B' ≤ B) : OwnA w B' rs := ⟨fun r hr => (h.own r hr).base hB, h.apart⟩
theorem OwnA.nil (w : World) (B : Nat) : OwnA w B [] := ⟨fun _ h => (by cases h), List.Pairwise.nil⟩
theorem OwnA.snoc {w w' : World} {B : Nat} {rs : List (Value × List Int)} {v : Value} {xs : List Int} (h : OwnA w B rs) (hb : Below w.heap.size w w') (hv : OwnN w' w.heap.size v xs) (hB : B ≤ w.heap.size) : OwnA w' B (rs ++ [(v, xs)]) := by
  refine ⟨fun r hr => ?_, ?_⟩
  · rcases List.mem_append.1 hr with h1 | h1
    · exact (h.own r h1).below hb
    · rw [List.mem_singleton] at h1
      subst h1
      exact hv.base hB
  · rw [List.pairwise_append]
    refine ⟨h.apart, List.pairwise_singleton _ _, fun a ha b hb' g hg hg' => ?_⟩
    rw [List.mem_singleton] at hb'
    subst hb'
    have h1 := ((h.own a ha).ge g hg).2
    have h2 := (hv.ge g hg').1
    omega
def snC : List Snp → List Value → List Value
  | s :: ss, t :: ts => .string s.name :: t :: snC ss ts
  | _, _ => []
theorem snC_snoc : ∀ (ss : List Snp) (ts : List Value) (s : Snp) (t : Value), ss.length = ts.length → snC (ss ++ [s]) (ts ++ [t]) = snC ss ts ++ [.string s.name, t]
  | [], [], s, t, _ => rfl
  | a :: ss, b :: ts, s, t, h => by
    have := snC_snoc ss ts s t (by simpa using h)
    simp only [List.cons_append, snC, this]
def OwnS (w : World) (B e size : Nat) (v : Value) (n : Nat) (xs : List Value) : Prop := (n = 0 ∧ xs = [] ∧ ∃ ao c, v = .slice ao 0 c) ∨ (0 < n ∧ w.ownsRow B e size v n xs)
theorem OwnR.toS {w : World} {B e size n : Nat} {v : Value} {xs : List Value} (h : OwnR w B e size v n xs) : OwnS w B e size v n xs := h.imp (fun ⟨h1, h2, ao, h3⟩ => ⟨h1, h2, ao, 0, h3⟩) id
theorem OwnS.keep {S : Nat → Prop} {w w' : World} {B e size n : Nat} {v : Value} {xs : List Value} (h : OwnS w B e size v n xs) (hk : Keep S w w') (hs : ∀ g, Own v g → ¬ S g) : OwnS w' B e size v n xs := by
  rcases h with h | h
  · exact .inl h
  · exact (OwnR.keep (.inr h) hk hs).toS
theorem OwnS.below {w w' : World} {B e size n : Nat} {v : Value} {xs : List Value} (h : OwnS w B e size v n xs) (hb : Below w.heap.size w w') : OwnS w' B e size v n xs :=
  h.keep (S := fun _ => False) (Keep.of_below hb) (fun _ _ h => h)
theorem OwnS.base {w : World} {B B' e size n : Nat} {v : Value} {xs : List Value} (h : OwnS w B e size v n xs) (hB : B' ≤ B) : OwnS w B' e size v n xs := by
  rcases h with h | h
  · exact .inl h
  · exact (OwnR.base (.inr h) hB).toS
theorem OwnS.setCell {w : World} {B e size n : Nat} {v : Value} {xs : List Value} (h : OwnS w B e size v n xs) {a : Addr} (ha : a.block < B) (u : Value) : OwnS (w.setCell a u) B e size v n xs := by
  rcases h with h | h
  · exact .inl h
  · exact (OwnR.setCell (.inr h) ha u).toS
theorem OwnS.row {w : World} {B e size n : Nat} {v : Value} {xs : List Value} (h : OwnS w B e size v n xs) (h0 : 0 < n) : w.ownsRow B e size v n xs := by
  rcases h with ⟨h1, _⟩ | h
  · omega
  · exact h.2
end Go.Proofs.YtllaoijjgkfgpaaGreatDoor

namespace Go.Proofs.YtllaoijjgkfgpaaGreatDoor
open Go.RowKit
set_option linter.unusedVariables false
set_option maxRecDepth 100000

set_option maxHeartbeats 800000 in
theorem eqIntS_any (ao bo : Option Addr) (ca cb : Nat) (ss tt : List Int) (w : World) (hl : ss.length ≤ maxLen) (hc : Is w ao ss) (hd : Is w bo tt) :
    Calls Tryz.prog 63 #[.slice ao ss.length ca, .slice bo tt.length cb] w fun e w' => e = .returned (.bool (eqNB ss tt)) ∧ Below w.heap.size w w' := by
  have HC := hide hc
  have HD := hide hd
  clear hc hd
  unfold maxLen at hl
  by_cases hle : ss.length = tt.length
  · have hb : ((ss.length : Int) != (tt.length : Int)) = false := by simp [hle]
    have HLE := hide hle
    clear hle
    go_enter Tryz.func63, Tryz.ntmps63
    go_wp2
    go_loopw [5] (fun i wr => ∃ k : Nat, k ≤ ss.length ∧ i = .int .i64 k ∧ Hid (∀ j (h : j < ss.length) (h' : j < tt.length), j < k → ss[j] = tt[j]) ∧ Hid (Below w.heap.size w wr)) (fun i _ => ss.length - (intOf i).toNat)
    case atStart => exact ⟨0, Nat.zero_le _, rfl, hide (fun j _ _ h => by omega), hide (Below.refl _ _)⟩
    case round =>
      obtain ⟨k, hk, rfl, HA, HB⟩ := hrel
      by_cases hlt : k < ss.length
      · have hlt' : k < tt.length := by rw [← unhide HLE]; exact hlt
        obtain ⟨b, off, rfl, hc⟩ := (unhide HC).below (unhide HB) k hlt
        obtain ⟨b', off', rfl, hc'⟩ := (unhide HD).below (unhide HB) k hlt'
        by_cases he : ss[k] = tt[k]
        · have HN := hide (eq_succ hlt hlt' (unhide HA) he)
          have be : (ss[k] != tt[k]) = false := by simp [he]
          clear he
          go_wp2
          go_quiet (fail)
          go_wp2
          go_roundw
          case rel => exact ⟨k + 1, by omega, by go_num, HN, hide ((unhide HB).trans (Joins.below_draws _ _ _))⟩
          case measure => simp [intOf]; omega
        · have H := hide (eqNB_false hlt hlt' he)
          have be : (ss[k] != tt[k]) = true := by simp [he]
          clear he
          go_wp2
          go_quiet (fail)
          go_wp2
          go_ret
          exact ⟨ret_bool (unhide H).symm, (unhide HB).trans (Joins.below_draws _ _ _)⟩
      · have H := hide (eqNB_true (unhide HLE) (fun j h h' => unhide HA j h h' (by omega)))
        go_wp2
        go_ret
        exact ⟨ret_bool (unhide H).symm, unhide HB⟩
  · have hb : ((ss.length : Int) != (tt.length : Int)) = true := by simp; omega
    have H := hide (eqNB_false_len hle)
    clear hle
    go_enter Tryz.func63, Tryz.ntmps63
    go_wp2
    go_ret
    exact ⟨ret_bool (unhide H).symm, Below.refl _ _⟩

end Go.Proofs.YtllaoijjgkfgpaaGreatDoor

namespace Go.Proofs.YtllaoijjgkfgpaaGreatDoor
open Go.RowKit
set_option linter.unusedVariables false
set_option maxRecDepth 100000

theorem infoN : (Tryz.prog.info? 3).map (fun i => (i.zero, i.size, i.bytes)) = some (some (.int .i64 0), 1, 8) := by kernel_rfl

set_option maxHeartbeats 800000 in
theorem toIntS_any (ao : Option Addr) (cap : Nat) (ss : List Int) (w : World) (hl : ss.length ≤ 1048576) (hc : Is w ao ss) :
    Calls Tryz.prog 50 #[.slice ao ss.length cap] w fun e w' => ∃ g, e = .returned (.slice (some ⟨g, 0, none⟩) ss.length ss.length) ∧ w'.ownsRow w.heap.size 3 1 (.slice (some ⟨g, 0, none⟩) ss.length ss.length) ss.length (intV ss) ∧ Below w.heap.size w w' := by
  have HC := hide hc
  clear hc
  obtain ⟨i0, hi, hz0, hz1, hz2⟩ := info_parts infoN
  go_enter Tryz.func50, Tryz.ntmps50
  go_wp2_with (first | (at_make; refine wpList_make_full _ rfl _ _ 29 rfl w.heap.size 3 i0 _ 1 Tryz.underlying29 hi hz0 hz1 _ _ _ _ ss.length rfl rfl rfl rfl ?c1 ?c2 ?c3 ?_))
  case c1 => rw [hz2]; omega
  case c2 => unfold maxLen; omega
  case c3 => exact Nat.le_refl _
  intro w1 hown hgrow
  have hB : Below w.heap.size w w1 := (Below.refl _ _).grown hgrow (Nat.le_refl _) (fun _ h => by cases h)
  have HO := hide hown
  have HB := hide hB
  clear hown hB hgrow
  go_wp2
  go_loopw [4] (fun i wr => ∃ (k : Nat) (xs : List Value), k ≤ ss.length ∧ i = .int .i64 k ∧ Hid (xs.length = ss.length) ∧ Hid (xs.take k = (intV ss).take k) ∧ Hid (wr.ownsRow w.heap.size 3 1 (.slice (some ⟨w.heap.size, 0, none⟩) ss.length ss.length) ss.length xs) ∧ Hid (Below w.heap.size w wr)) (fun i _ => ss.length - (intOf i).toNat)
  case atStart => exact ⟨0, _, Nat.zero_le _, rfl, hide (by rw [(unhide HO).1]; omega), hide (by simp), HO, HB⟩
  case round =>
    obtain ⟨k, xs, hk, rfl, HL, HT, HO, HB⟩ := hrel
    by_cases hlt : k < ss.length
    · obtain ⟨b, off, rfl, hc⟩ := (unhide HC).below (unhide HB) k hlt
      have hfr := (unhide HO).frozenAt k
      obtain ⟨x0, hcx⟩ : ∃ x, wr.cell? ⟨w.heap.size, k, none⟩ = some x := ⟨_, ((unhide HO).cellAt k (by omega)).trans (List.getElem?_eq_getElem (by rw [unhide HL]; exact hlt))⟩
      have HST := hide ((unhide HO).stored k (.int .i64 ss[k]))
      go_wp2
      go_roundw
      case rel =>
        refine ⟨k + 1, xs.set k (.int .i64 ss[k]), by omega, by go_num, hide (by rw [List.length_set]; exact unhide HL), hide ?_, hide (unhide HST).1, hide ?_⟩
        · exact set_take' (by rw [unhide HL, intV_length]) (intV_get hlt) (unhide HT)
        · exact (unhide HB).grown (unhide HST).2 (unhide HB).size (fun k h => by cases h; exact Nat.le_refl _)
      case measure => simp [intOf]; omega
    · go_wp2
      go_ret
      have hkn : k = ss.length := by omega
      subst hkn
      have hxs : xs = intV ss := by
        have := unhide HT
        rwa [List.take_of_length_le (by rw [unhide HL]; exact Nat.le_refl _), List.take_of_length_le (by simp [intV])] at this
      subst hxs
      exact ⟨_, rfl, unhide HO, unhide HB⟩

end Go.Proofs.YtllaoijjgkfgpaaGreatDoor

namespace Go.Proofs.YtllaoijjgkfgpaaGreatDoor
open Go.RowKit
set_option linter.unusedVariables false
set_option maxRecDepth 100000

end Go.Proofs.YtllaoijjgkfgpaaGreatDoor

namespace Go.Proofs.YtllaoijjgkfgpaaGreatDoor
open Go.RowKit
set_option linter.unusedVariables false
set_option maxRecDepth 100000

theorem sn_put2 {w : World} {B e size g n cap : Nat} {xs : List Value} (h : w.ownsRow B e size (.slice (some ⟨g, 0, none⟩) n cap) n xs) (i j : Nat) (u v : Value) :
    ((w.setCell ⟨g, i, none⟩ u).setCell ⟨g, j, none⟩ v).ownsRow B e size (.slice (some ⟨g, 0, none⟩) n cap) n ((xs.set i u).set j v) :=
  ((h.stored i u).1.stored j v).1
theorem sn_below2 {w0 w : World} {B g : Nat} (h : Below B w0 w) (hg : B ≤ g) (i j : Nat) (u v : Value) : Below B w0 ((w.setCell ⟨g, i, none⟩ u).setCell ⟨g, j, none⟩ v) :=
  (h.setCell (p := ⟨g, i, none⟩) hg u).setCell (p := ⟨g, j, none⟩) hg v
theorem OwnA.setCell {w : World} {B : Nat} {rs : List (Value × List Int)} (h : OwnA w B rs) {a : Addr} (ha : a.block < B) (u : Value) : OwnA (w.setCell a u) B rs := ⟨fun r hr => (h.own r hr).setCell ha u, h.apart⟩
theorem sn_take {ys : List Value} {ss : List Snp} {ts : List Value} {k : Nat} (hk : k < ss.length) (hl : ys.length = ss.length * 2) (ht : ts.length = k) (h : ys.take (k * 2) = snC (ss.take k) ts) (v : Value) :
    ((ys.set (k * 2) (.string ss[k].name)).set (k * 2 + 1) v).take ((k + 1) * 2) = snC (ss.take (k + 1)) (ts ++ [v]) := by
  rw [List.take_succ_eq_append_getElem hk, snC_snoc _ _ _ _ (by rw [List.length_take, ht]; omega), ← h]
  rw [show (k + 1) * 2 = k * 2 + 1 + 1 by omega, List.take_succ_eq_append_getElem (by rw [List.length_set, List.length_set]; omega), List.getElem_set_self, List.take_set_of_le (Nat.le_refl _), List.take_succ_eq_append_getElem (by rw [List.length_set]; omega), List.getElem_set_self, List.take_set_of_le (Nat.le_refl _), List.append_assoc]
  rfl
theorem sn_zip {ss : List Snp} {ts : List Value} {k : Nat} (hk : k < ss.length) (ht : ts.length = k) (v : Value) :
    (ts ++ [v]).zip ((ss.take (k + 1)).map (·.table)) = ts.zip ((ss.take k).map (·.table)) ++ [(v, ss[k].table)] := by
  rw [List.take_succ_eq_append_getElem hk, List.map_append, List.zip_append (by rw [List.length_map, List.length_take, ht]; omega)]
  rfl

end Go.Proofs.YtllaoijjgkfgpaaGreatDoor

namespace Go.Proofs.YtllaoijjgkfgpaaGreatDoor
open Go.RowKit
set_option linter.unusedVariables false
set_option maxRecDepth 100000

theorem OwnA.append {w w' : World} {B : Nat} {rs qs : List (Value × List Int)} (h : OwnA w B rs) (hb : Below w.heap.size w w') (hv : OwnA w' w.heap.size qs) (hB : B ≤ w.heap.size) : OwnA w' B (rs ++ qs) := by
  refine ⟨fun r hr => ?_, ?_⟩
  · rcases List.mem_append.1 hr with h1 | h1
    · exact (h.own r h1).below hb
    · exact (hv.own r h1).base hB
  · rw [List.pairwise_append]
    refine ⟨h.apart, hv.apart, fun a ha b hb' g hg hg' => ?_⟩
    have h1 := ((h.own a ha).ge g hg).2
    have h2 := ((hv.own b hb').ge g hg').1
    omega
theorem OwnA.one {w : World} {B : Nat} {v : Value} {xs : List Int} (h : OwnN w B v xs) : OwnA w B [(v, xs)] := ⟨fun r hr => by rw [List.mem_singleton] at hr; subst hr; exact h, List.pairwise_singleton _ _⟩
def VarM (w : World) (x : Nat) (t : TypeId) (v0 v1 v2 v3 : Value) : Prop := w.heap[x]? = some (.cells #[v0, v1, v2, v3] t (0, 0))
theorem VarM.lt {w : World} {x t : Nat} {v0 v1 v2 v3 : Value} (k : VarM w x t v0 v1 v2 v3) : x < w.heap.size := (Array.getElem?_eq_some_iff.1 k).1
theorem VarM.cells {w : World} {x t : Nat} {v0 v1 v2 v3 : Value} (k : VarM w x t v0 v1 v2 v3) : w.cell? ⟨x, 0, none⟩ = some v0 ∧ w.cell? ⟨x, 1, none⟩ = some v1 ∧ w.cell? ⟨x, 2, none⟩ = some v2 ∧ w.cell? ⟨x, 3, none⟩ = some v3 := ⟨by rw [Joins.cell_of_block k]; rfl, by rw [Joins.cell_of_block k]; rfl, by rw [Joins.cell_of_block k]; rfl, by rw [Joins.cell_of_block k]; rfl⟩
theorem VarM.free {w : World} {x t : Nat} {v0 v1 v2 v3 : Value} (k : VarM w x t v0 v1 v2 v3) : w.frozen? ⟨x, 0, none⟩ = false ∧ w.frozen? ⟨x, 1, none⟩ = false ∧ w.frozen? ⟨x, 2, none⟩ = false ∧ w.frozen? ⟨x, 3, none⟩ = false := ⟨Joins.unfrozen_of_block k 0, Joins.unfrozen_of_block k 1, Joins.unfrozen_of_block k 2, Joins.unfrozen_of_block k 3⟩
theorem VarM.below {w w' : World} {x t : Nat} {v0 v1 v2 v3 : Value} (k : VarM w x t v0 v1 v2 v3) (hb : Below w.heap.size w w') : VarM w' x t v0 v1 v2 v3 := by
  unfold VarM; rw [hb.block x k.lt]; exact k
theorem VarM.new (w : World) (t : TypeId) (v0 v1 v2 v3 : Value) : VarM (w.alloc (.cells #[v0, v1, v2, v3] t)) w.heap.size t v0 v1 v2 v3 := heap_alloc_new w _
theorem VarM.set0 {w : World} {x t : Nat} {v0 v1 v2 v3 : Value} (h : VarM w x t v0 v1 v2 v3) (u : Value) : VarM (w.setCell ⟨x, 0, none⟩ u) x t u v1 v2 v3 := Joins.block_setCell (i := 0) h u
theorem VarM.set1 {w : World} {x t : Nat} {v0 v1 v2 v3 : Value} (h : VarM w x t v0 v1 v2 v3) (u : Value) : VarM (w.setCell ⟨x, 1, none⟩ u) x t v0 u v2 v3 := Joins.block_setCell (i := 1) h u
theorem VarM.set2 {w : World} {x t : Nat} {v0 v1 v2 v3 : Value} (h : VarM w x t v0 v1 v2 v3) (u : Value) : VarM (w.setCell ⟨x, 2, none⟩ u) x t v0 v1 u v3 := Joins.block_setCell (i := 2) h u
theorem VarM.set3 {w : World} {x t : Nat} {v0 v1 v2 v3 : Value} (h : VarM w x t v0 v1 v2 v3) (u : Value) : VarM (w.setCell ⟨x, 3, none⟩ u) x t v0 v1 v2 u := Joins.block_setCell (i := 3) h u
end Go.Proofs.YtllaoijjgkfgpaaGreatDoor

namespace Go.Proofs.YtllaoijjgkfgpaaGreatDoor
open Go.RowKit
set_option linter.unusedVariables false
set_option maxRecDepth 100000

end Go.Proofs.YtllaoijjgkfgpaaGreatDoor

namespace Go.Proofs.YtllaoijjgkfgpaaGreatDoor
open Go.RowKit
set_option linter.unusedVariables false
set_option maxRecDepth 100000

end Go.Proofs.YtllaoijjgkfgpaaGreatDoor

namespace Go.Proofs.YtllaoijjgkfgpaaGreatDoor
open Go.RowKit
set_option linter.unusedVariables false
set_option maxRecDepth 100000

def snK (ss : List Snp) : Nat := (ss.map (fun s => 1 + s.table.length)).sum
theorem snC_get : ∀ {cs : List Snp} {ts : List Value} {j : Nat} {s : Snp} {t : Value}, cs[j]? = some s → ts[j]? = some t → (snC cs ts)[j * 2]? = some (.string s.name) ∧ (snC cs ts)[j * 2 + 1]? = some t
  | [], _, _, _, _, h, _ => by simp at h
  | _ :: _, [], _, _, _, _, h => by simp at h
  | c :: cs, b :: ts, 0, s, t, h, h' => by
    simp at h h'
    subst h; subst h'
    exact ⟨rfl, rfl⟩
  | c :: cs, b :: ts, j + 1, s, t, h, h' => by
    rw [List.getElem?_cons_succ] at h h'
    have := snC_get h h'
    rw [show (j + 1) * 2 = j * 2 + 1 + 1 by omega]
    exact this
end Go.Proofs.YtllaoijjgkfgpaaGreatDoor

namespace Go.Proofs.YtllaoijjgkfgpaaGreatDoor
open Go.RowKit
set_option linter.unusedVariables false
set_option maxRecDepth 100000

end Go.Proofs.YtllaoijjgkfgpaaGreatDoor

namespace Go.Proofs.YtllaoijjgkfgpaaGreatDoor
open Go.RowKit
set_option linter.unusedVariables false
set_option maxRecDepth 100000

theorem OwnN.row {w : World} {B : Nat} {v : Value} {xs : List Int} (h : OwnN w B v xs) : OwnR w B 3 1 v xs.length (intV xs) := by
  obtain ⟨qo, qa, rfl, ho⟩ := h
  exact ho
end Go.Proofs.YtllaoijjgkfgpaaGreatDoor

namespace Go.Proofs.YtllaoijjgkfgpaaGreatDoor
open Go.RowKit
set_option linter.unusedVariables false
set_option maxRecDepth 100000

theorem nums_no {xs : List Int} {k : Nat} (hk : k < xs.length) (h : numB xs[k] = false) : xs.all numB = false := all_not (p := numB) hk h
theorem nums_all {xs : List Int} (h : ∀ j (hj : j < xs.length), numB xs[j] = true) : xs.all numB = true := all_of (p := numB) (fun i hi _ => h i hi)

set_option maxHeartbeats 800000 in
theorem areNumbers_any (ao : Option Addr) (cap : Nat) (xs : List Int) (w : World) (hl : xs.length ≤ maxLen) (hc : Is w ao xs) :
    Calls Tryz.prog 136 #[.slice ao xs.length cap] w fun e w' => e = .returned (.bool (xs.all numB)) ∧ w' = w := by
  have HC := hide hc
  clear hc
  unfold maxLen at hl
  obtain ⟨R, HR⟩ : ∃ R, Hid (R = xs.all numB) := ⟨_, hide rfl⟩
  rw [← unhide HR]
  go_enter Tryz.func136, Tryz.ntmps136
  go_wp2
  go_loop [7] (fun i => ∃ k : Nat, k ≤ xs.length ∧ i = .int .i64 k ∧ Hid (∀ j (h : j < xs.length), j < k → numB xs[j] = true)) (fun i => xs.length - (intOf i).toNat)
  case atStart => exact ⟨0, Nat.zero_le _, rfl, hide (fun j _ h => by omega)⟩
  case round =>
    obtain ⟨k, hk, rfl, HA⟩ := hrel
    by_cases hlt : k < xs.length
    · obtain ⟨b, off, rfl, hc⟩ := unhide HC k hlt
      cases hn : numB xs[k]
      · have HF := hide (nums_no hlt hn)
        go_wp2_with (go_at_call 154; refine (isNumber_any _ _).mono ?_; rintro e w' ⟨rfl, hw⟩; replace hw := hw.symm; subst hw; rw [hn])
        go_ret
        exact ⟨ret_bool (by rw [unhide HR, unhide HF]), rfl⟩
      · have HN := hide (all_succ hlt (unhide HA) hn)
        go_wp2_with (go_at_call 154; refine (isNumber_any _ _).mono ?_; rintro e w' ⟨rfl, hw⟩; replace hw := hw.symm; subst hw; rw [hn])
        go_round
        case rel => exact ⟨k + 1, by omega, by go_num, HN⟩
        case measure => simp [intOf]; omega
    · have HF := hide (nums_all (fun j h => unhide HA j h (by omega)))
      go_wp2
      go_ret
      exact ⟨ret_bool (by rw [unhide HR, unhide HF]), rfl⟩

end Go.Proofs.YtllaoijjgkfgpaaGreatDoor

namespace Go.Proofs.YtllaoijjgkfgpaaGreatDoor
open Go.RowKit
set_option linter.unusedVariables false
set_option maxRecDepth 100000

end Go.Proofs.YtllaoijjgkfgpaaGreatDoor

namespace Go.Proofs.YtllaoijjgkfgpaaGreatDoor
set_option linter.unusedVariables false

end Go.Proofs.YtllaoijjgkfgpaaGreatDoor

namespace Go.Proofs.YtllaoijjgkfgpaaGreatDoor
open Go.RowKit
set_option linter.unusedVariables false
set_option maxRecDepth 100000

end Go.Proofs.YtllaoijjgkfgpaaGreatDoor

namespace Go.Proofs.YtllaoijjgkfgpaaGreatDoor
open Go.RowKit
set_option linter.unusedVariables false
set_option maxRecDepth 100000

end Go.Proofs.YtllaoijjgkfgpaaGreatDoor

namespace Go.Proofs.YtllaoijjgkfgpaaGreatDoor
open Go.RowKit
set_option linter.unusedVariables false
set_option maxRecDepth 100000

section
variable (w : World) (r a b c d : Obj)
end
end Go.Proofs.YtllaoijjgkfgpaaGreatDoor

namespace Go.Proofs.YtllaoijjgkfgpaaGreatDoor
open Go.RowKit
set_option linter.unusedVariables false

theorem wrapI {x : Int} (h : -9223372036854775808 ≤ x) (h' : x ≤ 9223372036854775807) : IntKind.i64.wrap x = x := by rw [IntKind.wrap_i64]; omega

end Go.Proofs.YtllaoijjgkfgpaaGreatDoor

namespace Go.Proofs.YtllaoijjgkfgpaaGreatDoor
open Go.RowKit
set_option linter.unusedVariables false
set_option maxRecDepth 100000

section
variable {P : Program}
end

end Go.Proofs.YtllaoijjgkfgpaaGreatDoor

namespace Go.Proofs.YtllaoijjgkfgpaaGreatDoor
open Go.RowKit
set_option linter.unusedVariables false
set_option maxRecDepth 100000

section
variable {P : Program}
end

end Go.Proofs.YtllaoijjgkfgpaaGreatDoor

namespace Go.Proofs.YtllaoijjgkfgpaaGreatDoor
open Go.RowKit
set_option linter.unusedVariables false
section
variable {P : Program}
end
end Go.Proofs.YtllaoijjgkfgpaaGreatDoor

namespace Go.Proofs.YtllaoijjgkfgpaaGreatDoor
open Go.RowKit
set_option linter.unusedVariables false
set_option maxRecDepth 100000

end Go.Proofs.YtllaoijjgkfgpaaGreatDoor

namespace Go.Proofs.YtllaoijjgkfgpaaGreatDoor
open Go.RowKit
set_option linter.unusedVariables false
set_option maxRecDepth 100000

theorem snm_get {t : ByteArray} {k : Nat} (h : k < t.size) : t.data.toList[k]? = some t[k] := by
  rw [Array.getElem?_toList]; exact Array.getElem?_eq_getElem h
theorem snm_bad {t : ByteArray} {k : Nat} (h : k < t.size) (hb : nm1 t[k] = false) : snmB t = false := by
  have h2 : k < t.data.toList.length := by simpa using h
  have e : t.data.toList[k] = t[k] := by have := snm_get h; rw [List.getElem?_eq_getElem h2] at this; exact Option.some.inj this
  rw [snmB, all_not (p := nm1) h2 (by rw [e]; exact hb)]; rfl
theorem snm_all {t : ByteArray} (h : ∀ j (h : j < t.size), nm1 t[j] = true) : snmB t = betw (t.size : Int) 1 6 := by
  rw [snmB, all_of (p := nm1) (fun i hi _ => ?_)]
  · simp
  · have h1 : i < t.size := by simpa using hi
    have e : t.data.toList[i] = t[i] := by have := snm_get h1; rw [List.getElem?_eq_getElem hi] at this; exact Option.some.inj this
    rw [e]; exact h i h1

set_option maxHeartbeats 800000 in
theorem l10Name_any (t : ByteArray) (w : World) (hz : t.size ≤ maxLen) :
    Calls Tryz.prog 90 #[.string t] w fun e w' => e = .returned (.bool (snmB t)) ∧ w' = w := by
  unfold maxLen at hz
  go_enter Tryz.func90, Tryz.ntmps90
  go_wp2
  go_loop [3] (fun i => ∃ k : Nat, k ≤ t.size ∧ i = .int .i64 k ∧ Hid (∀ j (h : j < t.size), j < k → nm1 t[j] = true)) (fun i => t.size - (intOf i).toNat)
  case atStart => exact ⟨0, Nat.zero_le _, rfl, hide (fun j _ h => by omega)⟩
  case round =>
    obtain ⟨k, hk, rfl, HA⟩ := hrel
    by_cases hlt : k < t.size
    · by_cases hlo : 97 ≤ t[k].toNat
      · by_cases hhi : t[k].toNat ≤ 122
        · have HN : Hid (∀ j (h : j < t.size), j < k + 1 → nm1 t[j] = true) := hide (fun j h hj => by
            by_cases e : j = k
            · subst e; simp [nm1, hlo, hhi]
            · exact unhide HA j h (by omega))
          have h1 : ¬ ((t[k].toNat : Int) < 97) := by omega
          have h2 : ¬ (122 < (t[k].toNat : Int)) := by omega
          go_wp2
          go_round
          case rel => exact ⟨k + 1, by omega, by go_num, HN⟩
          case measure => simp [intOf]; omega
        · have HF := hide (snm_bad hlt (by simp [nm1]; omega))
          have h1 : ¬ ((t[k].toNat : Int) < 97) := by omega
          have h2 : (122 < (t[k].toNat : Int)) := by omega
          go_wp2
          go_ret
          exact ⟨ret_bool (unhide HF).symm, rfl⟩
      · have HF := hide (snm_bad hlt (by simp [nm1]; omega))
        have h1 : ((t[k].toNat : Int) < 97) := by omega
        go_wp2
        go_ret
        exact ⟨ret_bool (unhide HF).symm, rfl⟩
    · have HF := hide (snm_all (fun j h => unhide HA j h (by omega)))
      go_wp2_with (go_at_call 43; refine (in_any _ _ _ _).mono ?_; rintro e w' ⟨rfl, hw⟩; replace hw := hw.symm; subst hw)
      go_ret
      exact ⟨ret_bool (unhide HF).symm, rfl⟩

theorem nodup_snoc {α : Type} {xs : List α} {k : Nat} (hk : k < xs.length) (h : (xs.take k).Nodup) (hn : ∀ j (hj : j < xs.length), j < k → xs[j] ≠ xs[k]) : (xs.take (k + 1)).Nodup := by
  rw [List.take_succ_eq_append_getElem hk, List.nodup_append]
  refine ⟨h, by simp, ?_⟩
  intro a ha b hb
  rw [List.mem_singleton] at hb
  subst hb
  obtain ⟨j, hj, rfl⟩ := List.mem_iff_getElem.1 ha
  rw [List.length_take] at hj
  rw [List.getElem_take]
  exact hn j (by omega) (by omega)
theorem not_nodup {α : Type} {xs : List α} {i k : Nat} (hi : i < xs.length) (hk : k < i) (he : xs[i] = xs[k]) : ¬ xs.Nodup := by
  intro h
  exact (List.pairwise_iff_getElem.1 h) k i (by omega) hi hk he.symm

end Go.Proofs.YtllaoijjgkfgpaaGreatDoor

namespace Go.Proofs.YtllaoijjgkfgpaaGreatDoor
open Go.RowKit
set_option linter.unusedVariables false
set_option maxRecDepth 100000

end Go.Proofs.YtllaoijjgkfgpaaGreatDoor

namespace Go.Proofs.YtllaoijjgkfgpaaGreatDoor
open Go.RowKit
set_option linter.unusedVariables false
set_option maxRecDepth 100000

end Go.Proofs.YtllaoijjgkfgpaaGreatDoor

namespace Go.Proofs.YtllaoijjgkfgpaaGreatDoor
open Go.RowKit
set_option linter.unusedVariables false
set_option maxRecDepth 100000

end Go.Proofs.YtllaoijjgkfgpaaGreatDoor

namespace Go.Proofs.YtllaoijjgkfgpaaGreatDoor
open Go.RowKit
set_option linter.unusedVariables false
set_option maxRecDepth 100000

structure Gs4 where
  vo : Option Addr
  vc : Nat
  so : Option Addr
  sc : Nat
abbrev gsV (a : Gs4) (g : Gst) : Value := .agg #[.slice a.vo g.vals.length a.vc, .slice a.so g.shots.length a.sc]
structure GsS (w : World) (a : Gs4) (g : Gst) : Prop where
  v : Is w a.vo g.vals
  s : Sns w a.so g.shots
theorem GsS.below {w w' : World} {a : Gs4} {g : Gst} (h : GsS w a g) (hb : Below w.heap.size w w') : GsS w' a g := ⟨h.v.below hb, h.s.below hb⟩
def gsSz (g : Gst) : Nat := g.vals.length + (g.shots.length + snSz g.shots)
def gsRows (a : Gs4) (g : Gst) (ts : List Value) : List (Value × List Int) := (.slice a.vo g.vals.length a.vc, g.vals) :: ts.zip (g.shots.map (·.table))
structure OwnGs (w : World) (B : Nat) (a : Gs4) (g : Gst) (ts : List Value) : Prop where
  len : g.shots.length = ts.length
  s : OwnS w B 122 2 (.slice a.so g.shots.length a.sc) g.shots.length (snC g.shots ts)
  rows : OwnA w B (gsRows a g ts)
theorem OwnGs.below {w w' : World} {B : Nat} {a : Gs4} {g : Gst} {ts : List Value} (h : OwnGs w B a g ts) (hb : Below w.heap.size w w') : OwnGs w' B a g ts := ⟨h.len, h.s.below hb, h.rows.below hb⟩
theorem OwnGs.base {w : World} {B B' : Nat} {a : Gs4} {g : Gst} {ts : List Value} (h : OwnGs w B a g ts) (hB : B' ≤ B) : OwnGs w B' a g ts := ⟨h.len, h.s.base hB, h.rows.base hB⟩
theorem OwnGs.setCell {w : World} {B : Nat} {a : Gs4} {g : Gst} {ts : List Value} (h : OwnGs w B a g ts) {p : Addr} (hp : p.block < B) (u : Value) : OwnGs (w.setCell p u) B a g ts := ⟨h.len, h.s.setCell hp u, h.rows.setCell hp u⟩
theorem OwnGs.shows {w : World} {B : Nat} {a : Gs4} {g : Gst} {ts : List Value} (h : OwnGs w B a g ts) (hz : ∀ s ∈ g.shots, s.name.size ≤ maxLen ∧ s.table.length ≤ maxLen) : GsS w a g := by
  refine ⟨ownRN (h.rows.own (.slice a.vo g.vals.length a.vc, g.vals) (by simp [gsRows])).row, fun i hi => ?_⟩
  have hp : 0 < g.shots.length := by omega
  have hit : i < ts.length := by rw [← h.len]; exact hi
  have hs := h.s.row hp
  obtain ⟨b, cap, cur, e, _, _⟩ := own_form hp hs
  rw [e] at hs
  simp only [Value.slice.injEq, true_and] at e
  obtain ⟨e1, e2⟩ := e
  have hgs := snC_get (List.getElem?_eq_getElem hi) (List.getElem?_eq_getElem hit)
  have hm : (ts[i], g.shots[i].table) ∈ gsRows a g ts := by
    have : (ts.zip (g.shots.map (·.table)))[i]? = some (ts[i], g.shots[i].table) := by
      rw [List.getElem?_zip_eq_some]
      exact ⟨List.getElem?_eq_getElem hit, by simp [hi]⟩
    simp [gsRows, List.mem_of_getElem? this]
  obtain ⟨tq, tc, et, ho⟩ := h.rows.own _ hm
  simp only at et ho
  refine ⟨b, 0, tq, tc, e1, ?_, ?_, ownRN ho, (hz _ (List.getElem_mem hi)).1, (hz _ (List.getElem_mem hi)).2⟩
  · rw [Nat.zero_add]; exact (hs.cellAt (i * 2) (by omega)).trans hgs.1
  · rw [Nat.zero_add]; exact (hs.cellAt (i * 2 + 1) (by omega)).trans (by rw [hgs.2, et])
def VarG (w : World) (x : Nat) (t : TypeId) (v0 v1 : Value) : Prop := w.heap[x]? = some (.cells #[v0, v1] t (0, 0))
theorem VarG.lt {w : World} {x t : Nat} {v0 v1 : Value} (k : VarG w x t v0 v1) : x < w.heap.size := (Array.getElem?_eq_some_iff.1 k).1
theorem VarG.cells {w : World} {x t : Nat} {v0 v1 : Value} (k : VarG w x t v0 v1) : w.cell? ⟨x, 0, none⟩ = some v0 ∧ w.cell? ⟨x, 1, none⟩ = some v1 := ⟨by rw [Joins.cell_of_block k]; rfl, by rw [Joins.cell_of_block k]; rfl⟩
theorem VarG.free {w : World} {x t : Nat} {v0 v1 : Value} (k : VarG w x t v0 v1) : w.frozen? ⟨x, 0, none⟩ = false ∧ w.frozen? ⟨x, 1, none⟩ = false := ⟨Joins.unfrozen_of_block k 0, Joins.unfrozen_of_block k 1⟩
theorem VarG.below {w w' : World} {x t : Nat} {v0 v1 : Value} (k : VarG w x t v0 v1) (hb : Below w.heap.size w w') : VarG w' x t v0 v1 := by
  unfold VarG; rw [hb.block x k.lt]; exact k
theorem VarG.new (w : World) (t : TypeId) (v0 v1 : Value) : VarG (w.alloc (.cells #[v0, v1] t)) w.heap.size t v0 v1 := heap_alloc_new w _
theorem VarG.other {w : World} {x t : Nat} {v0 v1 : Value} (h : VarG w x t v0 v1) {p : Addr} (hp : x ≠ p.block) (u : Value) : VarG (w.setCell p u) x t v0 v1 := by
  unfold VarG; rw [Below.heap_setCell w p u x hp]; exact h
theorem VarG.set0 {w : World} {x t : Nat} {v0 v1 : Value} (h : VarG w x t v0 v1) (u : Value) : VarG (w.setCell ⟨x, 0, none⟩ u) x t u v1 := Joins.block_setCell (i := 0) h u
theorem VarG.at {w : World} {x y t : Nat} {v0 v1 : Value} (h : VarG w x t v0 v1) (e : x = y) : VarG w y t v0 v1 := e ▸ h
end Go.Proofs.YtllaoijjgkfgpaaGreatDoor

namespace Go.Proofs.YtllaoijjgkfgpaaGreatDoor
open Go.ChangeShapes Go.WideShapes Go.ChangeAt Go.RowKit Go.Deep
set_option linter.unusedVariables false
set_option maxRecDepth 100000

theorem cIntG : Tryz.prog.cellsOf 3 = 1 := by kernel_rfl
theorem cStrG : Tryz.prog.cellsOf 9 = 1 := by kernel_rfl
theorem cIntsG : Tryz.prog.cellsOf 29 = 1 := by kernel_rfl
theorem cShotG : Tryz.prog.cellsOf 135 = 2 := by kernel_rfl
theorem cGstG : Tryz.prog.cellsOf 32 = 2 := by kernel_rfl
end Go.Proofs.YtllaoijjgkfgpaaGreatDoor

namespace Go.Proofs.YtllaoijjgkfgpaaGreatDoor
open Go.RowKit
set_option linter.unusedVariables false

structure OwnD (w : World) (B : Nat) (ao : Option Addr) (n ca : Nat) (bo : Option Addr) (m cb : Nat) (ss : List ByteArray) (xs : List Wr) : Prop where
  s : OwnR w B 9 1 (.slice ao n ca) n (strV ss)
  i : OwnR w B 137 3 (.slice bo m cb) m (ioV xs)

theorem OwnD.below {w w' : World} {B n ca m cb : Nat} {ao bo : Option Addr} {ss : List ByteArray} {xs : List Wr} (h : OwnD w B ao n ca bo m cb ss xs) (hb : Below w.heap.size w w') : OwnD w' B ao n ca bo m cb ss xs := ⟨h.s.below hb, h.i.below hb⟩
theorem OwnD.base {w : World} {B B' n ca m cb : Nat} {ao bo : Option Addr} {ss : List ByteArray} {xs : List Wr} (h : OwnD w B ao n ca bo m cb ss xs) (hb : B' ≤ B) : OwnD w B' ao n ca bo m cb ss xs := ⟨h.s.base hb, h.i.base hb⟩
theorem OwnD.setCell {w : World} {B n ca m cb : Nat} {ao bo : Option Addr} {ss : List ByteArray} {xs : List Wr} (h : OwnD w B ao n ca bo m cb ss xs) {a : Addr} (ha : a.block < B) (u : Value) : OwnD (w.setCell a u) B ao n ca bo m cb ss xs := ⟨h.s.setCell ha u, h.i.setCell ha u⟩
theorem OwnD.len {w : World} {B n ca m cb : Nat} {ao bo : Option Addr} {ss : List ByteArray} {xs : List Wr} (h : OwnD w B ao n ca bo m cb ss xs) : ss.length = n ∧ xs.length = m := by
  have h1 := h.s.len
  have h2 := h.i.len
  rw [strV_length] at h1
  rw [ioV_length] at h2
  exact ⟨by omega, by omega⟩
theorem OwnD.ss {w : World} {B n ca m cb : Nat} {ao bo : Option Addr} {ss : List ByteArray} {xs : List Wr} (h : OwnD w B ao n ca bo m cb ss xs) (hz : ∀ s ∈ ss, s.size ≤ maxLen) : Ss w ao ss := by
  obtain ⟨rfl, rfl⟩ := h.len
  rcases h.s with ⟨h0, _⟩ | ⟨_, h'⟩
  · intro i hi; omega
  · exact ownS h' hz
theorem OwnD.ios {w : World} {B n ca m cb : Nat} {ao bo : Option Addr} {ss : List ByteArray} {xs : List Wr} (h : OwnD w B ao n ca bo m cb ss xs) (hz : ∀ x ∈ xs, x.data.size ≤ maxLen) : Ios w bo xs := by
  obtain ⟨rfl, rfl⟩ := h.len
  rcases h.i with ⟨h0, _⟩ | ⟨_, h'⟩
  · intro i hi; omega
  · exact ownI h' hz
def VarD (w : World) (x : Nat) (a b : Value) : Prop := w.heap[x]? = some (.cells #[a, b] 42 (0, 0))
theorem VarD.lt {w : World} {x : Nat} {a b : Value} (h : VarD w x a b) : x < w.heap.size := (Array.getElem?_eq_some_iff.1 h).1
theorem VarD.cells {w : World} {x : Nat} {a b : Value} (h : VarD w x a b) : w.cell? ⟨x, 0, none⟩ = some a ∧ w.cell? ⟨x, 1, none⟩ = some b := ⟨by rw [Joins.cell_of_block h]; rfl, by rw [Joins.cell_of_block h]; rfl⟩
theorem VarD.below {w w' : World} {x : Nat} {a b : Value} (h : VarD w x a b) (hb : Below w.heap.size w w') : VarD w' x a b := by
  unfold VarD; rw [hb.block x h.lt]; exact h
theorem VarD.new (w : World) (a b : Value) : VarD (w.alloc (.cells #[a, b] 42)) w.heap.size a b := heap_alloc_new w _

end Go.Proofs.YtllaoijjgkfgpaaGreatDoor

namespace Go.Proofs.YtllaoijjgkfgpaaGreatDoor
open Go.RowKit
set_option linter.unusedVariables false

structure Hst where
  st : Int
  gen : Int
  ren : Int
def hst0 : Hst := ⟨0, 0, 0⟩
abbrev hstV (x : Hst) : Value := .agg #[.int .i64 x.st, .int .i64 x.gen, .int .i64 x.ren]
def Hss (w : World) (ao : Option Addr) (xs : List Hst) : Prop := ∀ i (h : i < xs.length), ∃ b off, ao = some ⟨b, off, none⟩ ∧
  w.cell? ⟨b, off + i * 3, none⟩ = some (.int .i64 xs[i].st) ∧ w.cell? ⟨b, off + i * 3 + 1, none⟩ = some (.int .i64 xs[i].gen) ∧ w.cell? ⟨b, off + i * 3 + 2, none⟩ = some (.int .i64 xs[i].ren)
theorem Hss.below {w w' : World} {ao : Option Addr} {xs : List Hst} (h : Hss w ao xs) (hb : Below w.heap.size w w') : Hss w' ao xs := fun i hi => by
  obtain ⟨b, off, e, h0, h1, h2⟩ := h i hi
  exact ⟨b, off, e, (hb.cell (p := ⟨b, off + i * 3, none⟩) (World.block_lt_of_cell? _ _ h0)).trans h0, (hb.cell (p := ⟨b, off + i * 3 + 1, none⟩) (World.block_lt_of_cell? _ _ h1)).trans h1, (hb.cell (p := ⟨b, off + i * 3 + 2, none⟩) (World.block_lt_of_cell? _ _ h2)).trans h2⟩
def hssV (xs : List Hst) : List Value := xs.flatMap fun x => [.int .i64 x.st, .int .i64 x.gen, .int .i64 x.ren]
theorem hssV_cons (x : Hst) (xs : List Hst) : hssV (x :: xs) = [.int .i64 x.st, .int .i64 x.gen, .int .i64 x.ren] ++ hssV xs := rfl
theorem hssV_length (xs : List Hst) : (hssV xs).length = xs.length * 3 := by
  induction xs with
  | nil => rfl
  | cons x xs ih => simp only [hssV, List.flatMap_cons, List.length_append, List.length_cons, List.length_nil] at ih ⊢; omega
theorem hssV_get : ∀ {xs : List Hst} {i : Nat} (h : i < xs.length), (hssV xs)[i * 3]? = some (.int .i64 xs[i].st) ∧ (hssV xs)[i * 3 + 1]? = some (.int .i64 xs[i].gen) ∧ (hssV xs)[i * 3 + 2]? = some (.int .i64 xs[i].ren)
  | [], _, h => absurd h (Nat.not_lt_zero _)
  | x :: xs, 0, _ => by simp [hssV_cons]
  | x :: xs, i + 1, h => by
    have ih := hssV_get (xs := xs) (i := i) (by simpa using h)
    rw [hssV_cons, show (i + 1) * 3 = i * 3 + 3 by omega]
    refine ⟨?_, ?_, ?_⟩
    · rw [List.getElem?_append_right (by simp)]; simpa using ih.1
    · rw [List.getElem?_append_right (by simp)]; simpa [Nat.add_right_comm] using ih.2.1
    · rw [List.getElem?_append_right (by simp)]; simpa [Nat.add_right_comm] using ih.2.2
theorem ownHss {w : World} {B e cap : Nat} {ao : Option Addr} {xs : List Hst} (h : OwnR w B e 3 (.slice ao xs.length cap) xs.length (hssV xs)) : Hss w ao xs := by
  rcases h with ⟨h0, _, _⟩ | ⟨h0, h⟩
  · intro i hi; omega
  rcases h.2 with ⟨e0, h0'⟩ | ⟨g, cap, cur, e0, hb, hg, hnc, hcm, hcs, ht⟩
  · omega
  · simp only [Value.slice.injEq, true_and] at e0
    obtain ⟨rfl, rfl⟩ := e0
    have g4 := fun i (hi : i < xs.length) => hssV_get hi
    refine fun i hi => ⟨g, 0, rfl, ?_, ?_, ?_⟩
    · rw [Nat.zero_add, h.cellAt _ (by omega)]; exact (g4 i hi).1
    · rw [Nat.zero_add, h.cellAt _ (by omega)]; exact (g4 i hi).2.1
    · rw [Nat.zero_add, h.cellAt _ (by omega)]; exact (g4 i hi).2.2
theorem Hss.get {w : World} {ao : Option Addr} {xs : List Hst} (h : Hss w ao xs) (i : Nat) (hi : i < xs.length) : ∃ b off, ao = some ⟨b, off, none⟩ ∧ b < w.heap.size ∧ w.cell? ⟨b, off + i * 3, none⟩ = some (.int .i64 (xs.getD i hst0).st) ∧ w.cell? ⟨b, off + i * 3 + 1, none⟩ = some (.int .i64 (xs.getD i hst0).gen) ∧ w.cell? ⟨b, off + i * 3 + 2, none⟩ = some (.int .i64 (xs.getD i hst0).ren) := by
  obtain ⟨b, off, e, h0, h1, h2⟩ := h i hi
  have : xs.getD i hst0 = xs[i] := by simp [hi]
  rw [this]
  exact ⟨b, off, e, World.block_lt_of_cell? _ _ h0, h0, h1, h2⟩

end Go.Proofs.YtllaoijjgkfgpaaGreatDoor

namespace Go.Proofs.YtllaoijjgkfgpaaGreatDoor
open Go.RowKit
set_option linter.unusedVariables false
set_option maxRecDepth 100000

structure Rq where
  k : Int
  g : Int
  v : Int
  n : ByteArray
abbrev noB : ByteArray := ⟨#[]⟩
abbrev qV (q : Rq) : Value := .agg #[.int .i64 q.k, .int .i64 q.g, .int .i64 q.v, .string q.n]
def plR (q : Rq) : Rq :=
  if q.k = 1 then ⟨1, q.g, 0, noB⟩ else if q.k = 2 then ⟨2, q.g, q.v, noB⟩ else if q.k = 3 then ⟨3, q.g, 0, noB⟩ else if q.k = 4 then ⟨4, q.g, 0, noB⟩
  else if q.k = 5 then ⟨5, 0, 0, q.n⟩ else if q.k = 6 then ⟨6, 0, 0, q.n⟩ else if q.k = 7 then ⟨7, 0, 0, q.n⟩ else ⟨8, 0, 0, noB⟩
def noN (n : ByteArray) : Bool := n.toList.isEmpty
def useB (q : Rq) : Bool :=
  if q.k = 1 ∨ q.k = 3 ∨ q.k = 4 then q.v == 0 && noN q.n
  else if q.k = 2 then noN q.n
  else if q.k = 8 then q.g == 0 && q.v == 0 && noN q.n
  else q.g == 0 && q.v == 0
def rqB (q : Rq) : Bool := betw q.k 1 8 && decide (q.n.size ≤ 65536) && useB q
def eqR (a b : Rq) : Bool := a.k == b.k && (a.g == b.g && (a.v == b.v && a.n.toList == b.n.toList))
theorem rq_k (q : Rq) : q.k = 1 ∨ q.k = 2 ∨ q.k = 3 ∨ q.k = 4 ∨ q.k = 5 ∨ q.k = 6 ∨ q.k = 7 ∨ q.k = 8 ∨ (betw q.k 1 8 = false ∧ ¬ q.k = 1 ∧ ¬ q.k = 2 ∧ ¬ q.k = 3 ∧ ¬ q.k = 4 ∧ ¬ q.k = 5 ∧ ¬ q.k = 6 ∧ ¬ q.k = 7 ∧ ¬ q.k = 8) := by
  by_cases h : 1 ≤ q.k ∧ q.k ≤ 8
  · omega
  · refine .inr (.inr (.inr (.inr (.inr (.inr (.inr (.inr ⟨?_, by omega, by omega, by omega, by omega, by omega, by omega, by omega, by omega⟩)))))))
    cases hb : betw q.k 1 8 with
    | false => rfl
    | true => exact absurd (betw_iff.1 hb) h
theorem noB_list : noB.toList = [] := by rw [ByteArray.toList_eq]
theorem noN_eq (n : ByteArray) : (noB.toList == n.toList) = noN n := by
  unfold noN
  rw [noB_list]
  cases n.toList with
  | nil => rfl
  | cons a b => rfl
theorem zer_eq (x : Int) : ((0 : Int) == x) = (x == 0) := BEq.comm
theorem rq_plain1 (g v : Int) (n : ByteArray) (k : Int) (hk : k = 1 ∨ k = 3 ∨ k = 4) : eqR (plR ⟨k, g, v, n⟩) ⟨k, g, v, n⟩ = (v == 0 && noN n) := by
  rcases hk with rfl | rfl | rfl
  all_goals
    show (_ == _ && (g == g && (((0 : Int) == v) && (noB.toList == n.toList)))) = _
    rw [zer_eq, noN_eq, beq_self_eq_true]; rfl
theorem rq_plain5 (g v : Int) (n : ByteArray) (k : Int) (hk : k = 5 ∨ k = 6 ∨ k = 7) : eqR (plR ⟨k, g, v, n⟩) ⟨k, g, v, n⟩ = (g == 0 && v == 0) := by
  rcases hk with rfl | rfl | rfl
  all_goals
    show (_ == _ && (((0 : Int) == g) && (((0 : Int) == v) && (n.toList == n.toList)))) = _
    rw [zer_eq, zer_eq, beq_self_eq_true, Bool.and_true]; rfl
theorem rq_plain (q : Rq) : (decide (q.n.size ≤ 65536) && eqR (plR q) q) = rqB q := by
  obtain ⟨k, g, v, n⟩ := q
  unfold rqB
  show (decide (n.size ≤ 65536) && _) = (betw k 1 8 && decide (n.size ≤ 65536) && _)
  generalize decide (n.size ≤ 65536) = D
  rcases rq_k ⟨k, g, v, n⟩ with h | h | h | h | h | h | h | h | ⟨hb, h1, h2, h3, h4, h5, h6, h7, h8⟩
  · replace h : k = 1 := h
    rw [rq_plain1 g v n k (by omega)]; subst h; rfl
  · replace h : k = 2 := h
    subst h
    show (D && (_ == _ && (g == g && (v == v && (noB.toList == n.toList))))) = (_ && D && noN n)
    rw [noN_eq, beq_self_eq_true, beq_self_eq_true]; rfl
  · replace h : k = 3 := h
    rw [rq_plain1 g v n k (by omega)]; subst h; rfl
  · replace h : k = 4 := h
    rw [rq_plain1 g v n k (by omega)]; subst h; rfl
  · replace h : k = 5 := h
    rw [rq_plain5 g v n k (by omega)]; subst h; rfl
  · replace h : k = 6 := h
    rw [rq_plain5 g v n k (by omega)]; subst h; rfl
  · replace h : k = 7 := h
    rw [rq_plain5 g v n k (by omega)]; subst h; rfl
  · replace h : k = 8 := h
    subst h
    show (D && (_ == _ && (((0 : Int) == g) && (((0 : Int) == v) && (noB.toList == n.toList))))) = (_ && D && (g == 0 && v == 0 && noN n))
    rw [noN_eq, zer_eq, zer_eq, Bool.and_assoc, Bool.and_assoc (g == 0)]; rfl
  · replace hb : betw k 1 8 = false := hb
    rw [hb]
    have e : eqR (plR ⟨k, g, v, n⟩) ⟨k, g, v, n⟩ = false := by
      simp only [plR, if_neg h1, if_neg h2, if_neg h3, if_neg h4, if_neg h5, if_neg h6, if_neg h7, eqR]
      rw [beq_eq_false_iff_ne.2 (fun e => h8 e.symm)]; rfl
    rw [e]; cases D <;> rfl

end Go.Proofs.YtllaoijjgkfgpaaGreatDoor

namespace Go.Proofs.YtllaoijjgkfgpaaGreatDoor
open Go.RowKit
set_option linter.unusedVariables false
set_option maxRecDepth 100000

structure Wld where
  ss : List ByteArray
  xs : List Wr
  cf : Int
  cd : Int
  cl : Int
  cr : Int
  hs : List Hst
  t : Int
  g : Gst
  q : Rq
  ag : Bool
def rq0 : Rq := ⟨0, 0, 0, noB⟩
def wl0 : Wld := ⟨[], [], 0, 0, 0, 0, [], 0, gs0, rq0, false⟩
structure Wl4 where
  ao : Option Addr
  ca : Nat
  bo : Option Addr
  cb : Nat
  ho : Option Addr
  hc : Nat
  ga : Gs4
def wa0 : Wl4 := ⟨none, 0, none, 0, none, 0, ⟨none, 0, none, 0⟩⟩
abbrev wlV (a : Wl4) (m : Wld) : Value := .agg #[.slice a.ao m.ss.length a.ca, .slice a.bo m.xs.length a.cb, .int .i64 m.cf, .int .i64 m.cd, .int .i64 m.cl, .int .i64 m.cr, .slice a.ho m.hs.length a.hc, .int .i64 m.t, .slice a.ga.vo m.g.vals.length a.ga.vc, .slice a.ga.so m.g.shots.length a.ga.sc, .int .i64 m.q.k, .int .i64 m.q.g, .int .i64 m.q.v, .string m.q.n, .bool m.ag]
abbrev wlC (a : Wl4) (m : Wld) : Array Value := #[.slice a.ao m.ss.length a.ca, .slice a.bo m.xs.length a.cb, .int .i64 m.cf, .int .i64 m.cd, .int .i64 m.cl, .int .i64 m.cr, .slice a.ho m.hs.length a.hc, .int .i64 m.t, .slice a.ga.vo m.g.vals.length a.ga.vc, .slice a.ga.so m.g.shots.length a.ga.sc, .int .i64 m.q.k, .int .i64 m.q.g, .int .i64 m.q.v, .string m.q.n, .bool m.ag]
structure WlS (w : World) (a : Wl4) (m : Wld) : Prop where
  s : Ss w a.ao m.ss
  i : Ios w a.bo m.xs
  h : Hss w a.ho m.hs
  g : GsS w a.ga m.g
theorem WlS.below {w w' : World} {a : Wl4} {m : Wld} (h : WlS w a m) (hb : Below w.heap.size w w') : WlS w' a m := ⟨h.s.below hb, h.i.below hb, h.h.below hb, h.g.below hb⟩
structure WlL (m : Wld) : Prop where
  s : m.ss.length ≤ maxLen
  i : m.xs.length ≤ maxLen
  h : m.hs.length ≤ maxLen
  g : GsL m.g
  q : m.q.n.size ≤ maxLen
structure OwnWl (w : World) (B : Nat) (a : Wl4) (m : Wld) (ts : List Value) : Prop where
  d : OwnD w B a.ao m.ss.length a.ca a.bo m.xs.length a.cb m.ss m.xs
  h : OwnR w B 93 3 (.slice a.ho m.hs.length a.hc) m.hs.length (hssV m.hs)
  g : OwnGs w B a.ga m.g ts
theorem OwnWl.below {w w' : World} {B : Nat} {a : Wl4} {m : Wld} {ts : List Value} (h : OwnWl w B a m ts) (hb : Below w.heap.size w w') : OwnWl w' B a m ts := ⟨h.d.below hb, OwnR.below h.h hb, h.g.below hb⟩
theorem OwnWl.base {w : World} {B B' : Nat} {a : Wl4} {m : Wld} {ts : List Value} (h : OwnWl w B a m ts) (hB : B' ≤ B) : OwnWl w B' a m ts := ⟨h.d.base hB, OwnR.base h.h hB, h.g.base hB⟩
theorem OwnWl.shows {w : World} {B : Nat} {a : Wl4} {m : Wld} {ts : List Value} (h : OwnWl w B a m ts) (hs : ∀ s ∈ m.ss, s.size ≤ maxLen) (hx : ∀ x ∈ m.xs, x.data.size ≤ maxLen) (hz : ∀ s ∈ m.g.shots, s.name.size ≤ maxLen ∧ s.table.length ≤ maxLen) : WlS w a m :=
  ⟨h.d.ss hs, h.d.ios hx, ownHss h.h, h.g.shows hz⟩
theorem set_wl {w : World} {k t i : Nat} {a : Array Value} (h : w.heap[k]? = some (.cells a t (0, 0))) (v : Value) : (w.setCell ⟨k, i, none⟩ v).heap[k]? = some (.cells (a.setIfInBounds i v) t (0, 0)) := by
  obtain ⟨hk, hf⟩ := Array.getElem?_eq_some_iff.1 h
  unfold World.setCell
  simp [hk]
  rw [Array.getElem_modify]
  simp [hf]
def VarW (w : World) (x : Nat) (t : TypeId) (a : Wl4) (m : Wld) : Prop := w.heap[x]? = some (.cells (wlC a m) t (0, 0))
theorem VarW.lt {w : World} {x t : Nat} {a : Wl4} {m : Wld} (k : VarW w x t a m) : x < w.heap.size := (Array.getElem?_eq_some_iff.1 k).1
theorem VarW.cells {w : World} {x t : Nat} {a : Wl4} {m : Wld} (k : VarW w x t a m) : w.cell? ⟨x, 0, none⟩ = some (.slice a.ao m.ss.length a.ca) ∧ w.cell? ⟨x, 1, none⟩ = some (.slice a.bo m.xs.length a.cb) ∧ w.cell? ⟨x, 2, none⟩ = some (.int .i64 m.cf) ∧ w.cell? ⟨x, 3, none⟩ = some (.int .i64 m.cd) ∧ w.cell? ⟨x, 4, none⟩ = some (.int .i64 m.cl) ∧ w.cell? ⟨x, 5, none⟩ = some (.int .i64 m.cr) ∧ w.cell? ⟨x, 6, none⟩ = some (.slice a.ho m.hs.length a.hc) ∧ w.cell? ⟨x, 7, none⟩ = some (.int .i64 m.t) ∧ w.cell? ⟨x, 8, none⟩ = some (.slice a.ga.vo m.g.vals.length a.ga.vc) ∧ w.cell? ⟨x, 9, none⟩ = some (.slice a.ga.so m.g.shots.length a.ga.sc) ∧ w.cell? ⟨x, 10, none⟩ = some (.int .i64 m.q.k) ∧ w.cell? ⟨x, 11, none⟩ = some (.int .i64 m.q.g) ∧ w.cell? ⟨x, 12, none⟩ = some (.int .i64 m.q.v) ∧ w.cell? ⟨x, 13, none⟩ = some (.string m.q.n) ∧ w.cell? ⟨x, 14, none⟩ = some (.bool m.ag) := by
  refine ⟨?_, ?_, ?_, ?_, ?_, ?_, ?_, ?_, ?_, ?_, ?_, ?_, ?_, ?_, ?_⟩ <;> (rw [Joins.cell_of_block k]; rfl)
theorem VarW.free {w : World} {x t : Nat} {a : Wl4} {m : Wld} (k : VarW w x t a m) (i : Nat) : w.frozen? ⟨x, i, none⟩ = false := Joins.unfrozen_of_block k i
theorem VarW.below {w w' : World} {x t : Nat} {a : Wl4} {m : Wld} (k : VarW w x t a m) (hb : Below w.heap.size w w') : VarW w' x t a m := by
  unfold VarW; rw [hb.block x k.lt]; exact k
theorem VarW.new (w : World) (t : TypeId) (a : Wl4) (m : Wld) : VarW (w.alloc (.cells (wlC a m) t)) w.heap.size t a m := heap_alloc_new w _
theorem VarW.at {w : World} {x y t : Nat} {a : Wl4} {m : Wld} (h : VarW w x t a m) (e : x = y) : VarW w y t a m := e ▸ h
theorem VarW.other {w : World} {x t : Nat} {a : Wl4} {m : Wld} (h : VarW w x t a m) {p : Addr} (hp : x ≠ p.block) (u : Value) : VarW (w.setCell p u) x t a m := by
  unfold VarW; rw [Below.heap_setCell w p u x hp]; exact h
end Go.Proofs.YtllaoijjgkfgpaaGreatDoor

namespace Go.Proofs.YtllaoijjgkfgpaaGreatDoor
open Go.ChangeShapes Go.WideShapes Go.ChangeAt Go.RowKit Go.Deep
set_option linter.unusedVariables false
set_option maxRecDepth 100000

section
variable {H : Type} {enc : TypeId × Value → H} {P : Program} {w : World} {base : Nat} {spare : Nat → Bool} {held : Bool}
theorem open_Hss {t e ti : TypeId} {f0 f1 f2 : Field} {fuel : Nat} {v : Value} {x : DataW H × List MemPlace} (ht : P.underlying t = some (.slice e)) (he : P.underlying e = some (.struct #[f0, f1, f2]))
    (hi : P.underlying ti = some (.int .i64)) (e0 : f0.type = ti ∧ f0.offset = 0) (e1 : f1.type = ti ∧ f1.offset = 1) (e2 : f2.type = ti ∧ f2.offset = 2)
    (ci : P.cellsOf ti = 1) (ce : P.cellsOf e = 3)
    (h : DataW.trod enc P w base spare held fuel t [v] = some x) : ∃ ao cap xs, v = .slice ao xs.length cap ∧ xs.length ≤ maxLen ∧ Hss w ao xs := by
  rcases open_slice ht h with ⟨hcs, _⟩ | ⟨a, len, cap, m, n, D, Pl, hcs, _, hl, hmx, hm, _, hel⟩
  · simp only [List.cons.injEq, and_true] at hcs
    subst hcs
    exact ⟨none, 0, [], rfl, Nat.zero_le _, fun i hi => absurd hi (Nat.not_lt_zero _)⟩
  · simp only [List.cons.injEq, and_true] at hcs
    subst hcs
    have hlm : len ≤ m := by rw [hm]; split <;> omega
    have each : ∀ i, i < len → ∃ y : Hst, w.cell? ((a.add (i * 3)).add 0) = some (.int .i64 y.st) ∧ w.cell? ((a.add (i * 3)).add 1) = some (.int .i64 y.gen) ∧ w.cell? ((a.add (i * 3)).add 2) = some (.int .i64 y.ren) := by
      intro i hi'
      obtain ⟨cs', hc, hd⟩ := hel i (by omega)
      rw [ce] at hc
      obtain ⟨c0, c1, c2, rfl, k0, k1, k2⟩ := cells3 hc
      obtain ⟨y0, y1, y2, n', _, _, t0, t1, t2⟩ := trod_struct3 he hd
      rw [e0.1, e0.2, ci] at t0
      rw [e1.1, e1.2, ci] at t1
      rw [e2.1, e2.2, ci] at t2
      obtain ⟨z0, q0, _⟩ := DataW.trod_int hi t0
      obtain ⟨z1, q1, _⟩ := DataW.trod_int hi t1
      obtain ⟨z2, q2, _⟩ := DataW.trod_int hi t2
      simp at q0 q1 q2
      subst q0 q1 q2
      exact ⟨⟨z0, z1, z2⟩, k0, k1, k2⟩
    haveI : Inhabited Hst := ⟨hst0⟩
    obtain ⟨f, hf⟩ := choose_lt (α := Hst) each
    have htl : ((List.range len).map f).length = len := by simp
    refine ⟨some a, cap, (List.range len).map f, by rw [htl], by omega, fun i hi' => ?_⟩
    have hi2 : i < len := by omega
    have h0 : a.spot = none := by
      obtain ⟨g0, _⟩ := hf 0 (by omega)
      have := World.cell?_spot g0
      simpa [Addr.add] using this
    obtain ⟨g0, g1, g2⟩ := hf i hi2
    have hg : ((List.range len).map f)[i] = f i := by simp
    have hsp : (a.add (i * 3)).spot = none := by rw [add_form h0]
    rw [add_form hsp, add_form h0] at g0 g1 g2
    refine ⟨a.block, a.off, ?_, ?_, ?_, ?_⟩
    · cases a; simp_all
    · rw [hg]; exact g0
    · rw [hg]; exact g1
    · rw [hg]; exact g2
theorem trod_struct7 {t : TypeId} {f0 f1 f2 f3 f4 f5 f6 : Field} {fuel : Nat} {cs : List Value} {x : DataW H × List MemPlace} (ht : P.underlying t = some (.struct #[f0, f1, f2, f3, f4, f5, f6])) (h : DataW.trod enc P w base spare held fuel t cs = some x) :
    ∃ y0 y1 y2 y3 y4 y5 y6 n, DataW.trod enc P w base spare held n f0.type ((cs.drop f0.offset).take (P.cellsOf f0.type)) = some y0 ∧
      DataW.trod enc P w base spare held n f1.type ((cs.drop f1.offset).take (P.cellsOf f1.type)) = some y1 ∧ DataW.trod enc P w base spare held n f2.type ((cs.drop f2.offset).take (P.cellsOf f2.type)) = some y2 ∧
      DataW.trod enc P w base spare held n f3.type ((cs.drop f3.offset).take (P.cellsOf f3.type)) = some y3 ∧ DataW.trod enc P w base spare held n f4.type ((cs.drop f4.offset).take (P.cellsOf f4.type)) = some y4 ∧
      DataW.trod enc P w base spare held n f5.type ((cs.drop f5.offset).take (P.cellsOf f5.type)) = some y5 ∧ DataW.trod enc P w base spare held n f6.type ((cs.drop f6.offset).take (P.cellsOf f6.type)) = some y6 := by
  obtain ⟨xs, n, _, rfl, hl, hlen, hf⟩ := DataW.trod_struct ht h
  match xs, hlen with
  | [y0, y1, y2, y3, y4, y5, y6], _ => exact ⟨y0, y1, y2, y3, y4, y5, y6, n, by simpa using hf 0 f0 rfl, by simpa using hf 1 f1 rfl, by simpa using hf 2 f2 rfl, by simpa using hf 3 f3 rfl, by simpa using hf 4 f4 rfl, by simpa using hf 5 f5 rfl, by simpa using hf 6 f6 rfl⟩
end
theorem array15 {α : Type} {cs : Array α} (h : cs.size = 15) : ∃ c0 c1 c2 c3 c4 c5 c6 c7 c8 c9 c10 c11 c12 c13 c14, cs = #[c0, c1, c2, c3, c4, c5, c6, c7, c8, c9, c10, c11, c12, c13, c14] := by
  obtain ⟨l⟩ := cs
  match l, h with
  | [c0, c1, c2, c3, c4, c5, c6, c7, c8, c9, c10, c11, c12, c13, c14], _ => exact ⟨c0, c1, c2, c3, c4, c5, c6, c7, c8, c9, c10, c11, c12, c13, c14, rfl⟩
theorem cWldW : Tryz.prog.cellsOf 36 = 15 := by kernel_rfl
theorem cCfgW : Tryz.prog.cellsOf 27 = 4 := by kernel_rfl
theorem cReqW : Tryz.prog.cellsOf 34 = 4 := by kernel_rfl
theorem cBoolW : Tryz.prog.cellsOf 4 = 1 := by kernel_rfl
theorem cHostW : Tryz.prog.cellsOf 100 = 3 := by kernel_rfl
theorem cHostsW : Tryz.prog.cellsOf 28 = 1 := by kernel_rfl
theorem open_world {H : Type} {enc : TypeId × Value → H} {w : World} {base b0 : Nat} {r : Reach} {spare : Nat → Bool} {held : Bool} {v : Value} {d : DataW H} {p : List MemPlace}
    (hv : Value.okWide Tryz.prog w r b0 36 v) (h : DataW.Trod enc Tryz.prog w base spare held 36 v d p) :
    ∃ (a : Wl4) (m : Wld), v = wlV a m ∧ WlL m ∧ WlS w a m := by
  obtain ⟨cs, rfl, hsz⟩ := okWide_struct Tryz.underlying36 hv
  obtain ⟨c0, c1, c2, c3, c4, c5, c6, c7, c8, c9, c10, c11, c12, c13, c14, rfl⟩ := array15 (hsz.trans cWldW)
  obtain ⟨fuel, hf⟩ := h
  obtain ⟨y0, y1, y2, y3, y4, y5, y6, n, h0, h1, h2, h3, h4, h5, h6⟩ := trod_struct7 Tryz.underlying36 hf
  replace h0 : DataW.trod enc Tryz.prog w base spare held n 25 [c0, c1] = some y0 := by simpa [Value.cells, cDisk] using h0
  replace h1 : DataW.trod enc Tryz.prog w base spare held n 27 [c2, c3, c4, c5] = some y1 := by simpa [Value.cells, cCfgW] using h1
  replace h2 : DataW.trod enc Tryz.prog w base spare held n 28 [c6] = some y2 := by simpa [Value.cells, cHostsW] using h2
  replace h3 : DataW.trod enc Tryz.prog w base spare held n 3 [c7] = some y3 := by simpa [Value.cells, cInt] using h3
  replace h4 : DataW.trod enc Tryz.prog w base spare held n 32 [c8, c9] = some y4 := by simpa [Value.cells, cGstG] using h4
  replace h5 : DataW.trod enc Tryz.prog w base spare held n 34 [c10, c11, c12, c13] = some y5 := by simpa [Value.cells, cReqW] using h5
  replace h6 : DataW.trod enc Tryz.prog w base spare held n 4 [c14] = some y6 := by simpa [Value.cells, cBoolW] using h6
  obtain ⟨u0, u1, n0, _, _, t0, t1⟩ := trod_struct2 Tryz.underlying25 h0
  obtain ⟨u2, u3, u4, u5, n1, _, _, t2, t3, t4, t5⟩ := Joins.trod_struct4 Tryz.underlying27 h1
  obtain ⟨u8, u9, n4, _, _, t8, t9⟩ := trod_struct2 Tryz.underlying32 h4
  obtain ⟨u10, u11, u12, u13, n5, _, _, t10, t11, t12, t13⟩ := Joins.trod_struct4 Tryz.underlying34 h5
  have cSs : Tryz.prog.cellsOf 22 = 1 := by kernel_rfl
  have cIos : Tryz.prog.cellsOf 23 = 1 := by kernel_rfl
  have cShs : Tryz.prog.cellsOf 30 = 1 := by kernel_rfl
  replace t0 : DataW.trod enc Tryz.prog w base spare held n0 22 [c0] = some u0 := by simpa [cSs] using t0
  replace t1 : DataW.trod enc Tryz.prog w base spare held n0 23 [c1] = some u1 := by simpa [cIos] using t1
  replace t2 : DataW.trod enc Tryz.prog w base spare held n1 3 [c2] = some u2 := by simpa [cInt] using t2
  replace t3 : DataW.trod enc Tryz.prog w base spare held n1 3 [c3] = some u3 := by simpa [cInt] using t3
  replace t4 : DataW.trod enc Tryz.prog w base spare held n1 3 [c4] = some u4 := by simpa [cInt] using t4
  replace t5 : DataW.trod enc Tryz.prog w base spare held n1 3 [c5] = some u5 := by simpa [cInt] using t5
  replace t8 : DataW.trod enc Tryz.prog w base spare held n4 29 [c8] = some u8 := by simpa [cIntsG] using t8
  replace t9 : DataW.trod enc Tryz.prog w base spare held n4 30 [c9] = some u9 := by simpa [cShs] using t9
  replace t10 : DataW.trod enc Tryz.prog w base spare held n5 3 [c10] = some u10 := by simpa [cInt] using t10
  replace t11 : DataW.trod enc Tryz.prog w base spare held n5 3 [c11] = some u11 := by simpa [cInt] using t11
  replace t12 : DataW.trod enc Tryz.prog w base spare held n5 3 [c12] = some u12 := by simpa [cInt] using t12
  replace t13 : DataW.trod enc Tryz.prog w base spare held n5 9 [c13] = some u13 := by simpa [cStr] using t13
  obtain ⟨ao, ca, ss, rfl, hl, hs⟩ := open_Ss Tryz.underlying22 Tryz.underlying9 cStr t0
  obtain ⟨bo, cb, xs, rfl, hm, hx⟩ := open_Ios Tryz.underlying23 Tryz.underlying133 Tryz.underlying3 Tryz.underlying9 ⟨rfl, rfl⟩ ⟨rfl, rfl⟩ ⟨rfl, rfl⟩ cInt cStr cIo t1
  obtain ⟨z2, q2, _⟩ := DataW.trod_int Tryz.underlying3 t2
  obtain ⟨z3, q3, _⟩ := DataW.trod_int Tryz.underlying3 t3
  obtain ⟨z4, q4, _⟩ := DataW.trod_int Tryz.underlying3 t4
  obtain ⟨z5, q5, _⟩ := DataW.trod_int Tryz.underlying3 t5
  obtain ⟨ho, hcp, hh, rfl, hhl, hhs⟩ := open_Hss Tryz.underlying28 Tryz.underlying100 Tryz.underlying3 ⟨rfl, rfl⟩ ⟨rfl, rfl⟩ ⟨rfl, rfl⟩ cInt cHostW h2
  obtain ⟨z7, q7, _⟩ := DataW.trod_int Tryz.underlying3 h3
  obtain ⟨vo, vc, vs, rfl, lv, hvs⟩ := open_IsV Tryz.underlying29 Tryz.underlying3 cIntG t8
  obtain ⟨so, sc, sh, rfl, lsh, hsh⟩ := open_SnsV Tryz.underlying30 Tryz.underlying135 Tryz.underlying9 Tryz.underlying29 Tryz.underlying3 ⟨rfl, rfl⟩ ⟨rfl, rfl⟩ cStrG cIntsG cIntG cShotG t9
  obtain ⟨z10, q10, _⟩ := DataW.trod_int Tryz.underlying3 t10
  obtain ⟨z11, q11, _⟩ := DataW.trod_int Tryz.underlying3 t11
  obtain ⟨z12, q12, _⟩ := DataW.trod_int Tryz.underlying3 t12
  obtain ⟨z13, q13, _, hz⟩ := DataW.trod_string Tryz.underlying9 t13
  obtain ⟨z14, q14, _⟩ := DataW.trod_bool Tryz.underlying4 h6
  simp only [List.cons.injEq, and_true] at q2 q3 q4 q5 q7 q10 q11 q12 q13 q14
  subst q2 q3 q4 q5 q7 q10 q11 q12 q13 q14
  exact ⟨⟨ao, ca, bo, cb, ho, hcp, ⟨vo, vc, so, sc⟩⟩, ⟨ss, xs, z2, z3, z4, z5, hh, z7, ⟨vs, sh⟩, ⟨z10, z11, z12, z13⟩, z14⟩, rfl, ⟨hl, hm, hhl, ⟨lv, lsh⟩, hz⟩, ⟨hs, hx, hhs, ⟨hvs, hsh⟩⟩⟩

end Go.Proofs.YtllaoijjgkfgpaaGreatDoor
