import Derived.Test.YtbmkdbccdnbbjaaGreatDoorRows
import Derived.Test.YtbmkdbccdnbbjaaGreatDoorPart1
import Derived.WalkKit
import Derived.WalkSpells
import Derived.Laws.CopyRow
import Derived.Laws.CopyOwn
import Derived.Deep.RegionWith
import Derived.Outline
import Derived.Deep.RegionLawGrows
import Derived.Deep.RegionHeld3
import Derived.Deep.AppendLies
import Derived.Deep.RegionLaw
import Derived.KernelRfl
import Derived.Lib.SmallJoins
import Derived.Laws.OwnMore
import Derived.BigQuiet
import Derived.Deep.QuietTactic
import Derived.LoopN
import Derived.Deep.CutRange
import Derived.Laws.BytesArg

namespace Go.Proofs.YtbmkdbccdnbbjaaGreatDoor
open Go.RowKit
set_option linter.unusedVariables false
set_option maxRecDepth 100000

theorem l01In_any (n low high : Int) (w : World) : Calls Tryz.prog 55 #[.int .i64 n, .int .i64 low, .int .i64 high] w fun e w' => e = .returned (.bool (inB n low high)) ∧ w' = w := by
  go_enter Tryz.func55, Tryz.ntmps55
  go_wp2
  all_goals
    go_ret
    exact ⟨ret_bool (by rw [Bool.eq_iff_iff]; simp [inB]; omega), rfl⟩

theorem hostOK_any (n : Int) (w : World) : Calls Tryz.prog 90 #[.int .i64 n] w fun e w' => e = .returned (.bool (inB n 0 3)) ∧ w' = w := by
  go_enter Tryz.func90, Tryz.ntmps90
  go_wp2
  all_goals
    go_ret
    exact ⟨ret_bool (by rw [Bool.eq_iff_iff]; simp [inB]; omega), rfl⟩

theorem placeOK_any (n : Int) (w : World) : Calls Tryz.prog 153 #[.int .i64 n] w fun e w' => e = .returned (.bool (inB n 0 63)) ∧ w' = w := by
  go_enter Tryz.func153, Tryz.ntmps153
  go_wp2
  all_goals
    go_ret
    exact ⟨ret_bool (by rw [Bool.eq_iff_iff]; simp [inB]; omega), rfl⟩

set_option maxHeartbeats 800000 in
theorem sectorsOK_any (ao : Option Addr) (cap : Nat) (ss : List ByteArray) (w : World) (hl : ss.length ≤ maxLen) (hc : Ss w ao ss) :
    Calls Tryz.prog 151 #[.slice ao ss.length cap] w fun e w' => e = .returned (.bool (secB ss)) ∧ w' = w := by
  have HC := hide hc
  clear hc
  unfold maxLen at hl
  by_cases hle : ss.length = 64
  · have hb : ((ss.length : Int) != 64) = false := by simp; omega
    have HLE := hide hle
    clear hle
    go_enter Tryz.func151, Tryz.ntmps151
    go_wp2
    go_loop [4, 10] (fun _ i => ∃ k : Nat, k ≤ ss.length ∧ i = .int .i64 k ∧ Hid (∀ j (h : j < ss.length), j < k → decide (ss[j].size ≤ 80) = true)) (fun _ i => ss.length - (intOf i).toNat)
    case atStart => exact ⟨0, Nat.zero_le _, rfl, hide (fun j _ h => by omega)⟩
    case round =>
      obtain ⟨k, hk, rfl, HA⟩ := hrel
      by_cases hlt : k < ss.length
      · obtain ⟨b, off, rfl, hc, hz⟩ := unhide HC k hlt
        unfold maxLen at hz
        by_cases hs : 80 < ss[k].size
        · have H := hide (secB_false_at hlt hs)
          go_wp2
          go_ret
          exact ⟨ret_bool (unhide H).symm, rfl⟩
        · have HN := hide (all_succ (p := fun s : ByteArray => decide (s.size ≤ 80)) hlt (unhide HA) (by simp; omega))
          go_wp2
          go_round
          case rel => exact ⟨k + 1, by omega, by go_num, HN⟩
          case measure => simp [intOf]; omega
      · have H := hide (secB_true (unhide HLE) (fun j h => unhide HA j h (by omega)))
        go_wp2
        go_ret
        exact ⟨ret_bool (unhide H).symm, rfl⟩
  · have hb : ((ss.length : Int) != 64) = true := by simp; omega
    have H := hide (secB_false_len hle)
    clear hle
    go_enter Tryz.func151, Tryz.ntmps151
    go_wp2
    go_ret
    exact ⟨ret_bool (unhide H).symm, rfl⟩

set_option maxHeartbeats 1600000 in
theorem pendingOK_any (ao : Option Addr) (cap : Nat) (xs : List Wr) (w : World) (hl : xs.length ≤ maxLen) (hc : Ios w ao xs) :
    Calls Tryz.prog 152 #[.slice ao xs.length cap] w fun e w' => e = .returned (.bool (penB xs)) ∧ Below w.heap.size w w' := by
  have HC := hide hc
  clear hc
  unfold maxLen at hl
  by_cases hle : 200 < xs.length
  · have H := hide (penB_false_len (xs := xs) (by omega))
    go_enter Tryz.func152, Tryz.ntmps152
    go_wp2
    go_ret
    exact ⟨ret_bool (unhide H).symm, Below.refl _ _⟩
  go_enter Tryz.func152, Tryz.ntmps152
  go_wp2
  go_loopw [4, 10] (fun _ i wr => ∃ k : Nat, k ≤ xs.length ∧ i = .int .i64 k ∧ Hid (∀ j (h : j < xs.length), j < k → ioB xs[j] = true) ∧ Hid (Below w.heap.size w wr)) (fun _ i _ => xs.length - (intOf i).toNat)
  case atStart => exact ⟨0, Nat.zero_le _, rfl, hide (fun j _ h => by omega), hide (Below.refl _ _)⟩
  case round =>
    obtain ⟨k, hk, rfl, HA, HB⟩ := hrel
    by_cases hlt : k < xs.length
    · obtain ⟨b, off, rfl, hc0, hc1, hc2, hz⟩ := (unhide HC).below (unhide HB) k hlt
      unfold maxLen at hz
      have HE := hide (ioB_eq xs[k])
      have HBA := hide (fun o => (unhide HB).alloc (unhide HB).size o)
      cases h0 : inB xs[k].host 0 3
      · have H := hide (penB_false_at hlt (by rw [unhide HE, h0]; rfl))
        go_wp2_with (first | (go_at_call 90; refine (hostOK_any _ _).mono ?_; rintro e w' ⟨rfl, rfl⟩) | (go_at_call 153; refine (placeOK_any _ _).mono ?_; rintro e w' ⟨rfl, rfl⟩))
        go_ret
        exact ⟨ret_bool (unhide H).symm, unhide HBA _⟩
      · cases h1 : inB xs[k].at_ 0 63
        · have H := hide (penB_false_at hlt (by rw [unhide HE, h0, h1]; rfl))
          go_wp2_with (first | (go_at_call 90; refine (hostOK_any _ _).mono ?_; rintro e w' ⟨rfl, rfl⟩) | (go_at_call 153; refine (placeOK_any _ _).mono ?_; rintro e w' ⟨rfl, rfl⟩))
          go_ret
          exact ⟨ret_bool (unhide H).symm, unhide HBA _⟩
        · by_cases hs : 80 < xs[k].data.size
          · have H := hide (penB_false_at hlt (by rw [unhide HE, h0, h1]; simp; omega))
            go_wp2_with (first | (go_at_call 90; refine (hostOK_any _ _).mono ?_; rintro e w' ⟨rfl, rfl⟩) | (go_at_call 153; refine (placeOK_any _ _).mono ?_; rintro e w' ⟨rfl, rfl⟩))
            go_ret
            exact ⟨ret_bool (unhide H).symm, unhide HBA _⟩
          · have HN := hide (all_succ (p := ioB) hlt (unhide HA) (by rw [unhide HE, h0, h1]; simp; omega))
            go_wp2_with (first | (go_at_call 90; refine (hostOK_any _ _).mono ?_; rintro e w' ⟨rfl, rfl⟩) | (go_at_call 153; refine (placeOK_any _ _).mono ?_; rintro e w' ⟨rfl, rfl⟩))
            go_roundw
            case rel => exact ⟨k + 1, by omega, by go_num, HN, hide (unhide HBA _)⟩
            case measure => simp [intOf]; omega
    · have H := hide (penB_true (xs := xs) (by omega) (fun j h => unhide HA j h (by omega)))
      go_wp2
      go_ret
      exact ⟨ret_bool (unhide H).symm, unhide HB⟩

set_option maxHeartbeats 800000 in
theorem diskOK_impl (ao bo : Option Addr) (ca cb : Nat) (ss : List ByteArray) (xs : List Wr) (w : World) (hl : ss.length ≤ maxLen) (hm : xs.length ≤ maxLen) (h1 : Ss w ao ss) (h2 : Ios w bo xs) :
    Calls Tryz.prog 89 #[.agg #[.slice ao ss.length ca, .slice bo xs.length cb]] w fun e w' => e = .returned (.bool (diskB ss xs)) ∧ Below w.heap.size w w' := by
  have H1 := hide h1
  have H2 := hide h2
  have HL := hide hl
  have HM := hide hm
  clear h1 h2 hl hm
  have HA := hide (Joins.below_alloc1 w (.cells #[.slice ao ss.length ca, .slice bo xs.length cb] 34))
  cases h : secB ss
  · go_enter Tryz.func89, Tryz.ntmps89
    go_wp2_with fail
    refine (sectorsOK_any ao ca ss _ (unhide HL) ((unhide H1).below (unhide HA))).mono ?_
    rintro e w1 ⟨rfl, rfl⟩
    go_wp2
    go_ret
    exact ⟨ret_bool (by rw [diskB, h]; rfl), unhide HA⟩
  · go_enter Tryz.func89, Tryz.ntmps89
    go_wp2_with fail
    refine (sectorsOK_any ao ca ss _ (unhide HL) ((unhide H1).below (unhide HA))).mono ?_
    rintro e w1 ⟨rfl, rfl⟩
    go_wp2_with fail
    refine (pendingOK_any bo cb xs _ (unhide HM) ((unhide H2).below (unhide HA))).mono ?_
    rintro e w2 ⟨rfl, hb2⟩
    have HB := hide ((unhide HA).trans (hb2.mono (by simp)))
    clear hb2
    go_wp2
    go_ret
    exact ⟨ret_bool (by rw [diskB, h]; rfl), unhide HB⟩

end Go.Proofs.YtbmkdbccdnbbjaaGreatDoor

namespace Go.Proofs.YtbmkdbccdnbbjaaGreatDoor
open Go.RowKit
set_option linter.unusedVariables false
set_option maxRecDepth 100000

set_option maxHeartbeats 1600000 in
theorem hostFault_any (ao bo : Option Addr) (ca cb : Nat) (ss : List ByteArray) (xs : List Wr) (h : Int) (w : World) (hl : ss.length ≤ maxLen) (hm : xs.length ≤ maxLen) (h1 : Ss w ao ss) (h2 : Ios w bo xs) :
    Calls Tryz.prog 31 #[.agg #[.slice ao ss.length ca, .slice bo xs.length cb], .int .i64 h] w fun e w' => e = .returned (.int .i64 (hostC ss xs h)) ∧ Below w.heap.size w w' := by
  have HA := hide (Joins.below_alloc1 w (.cells #[.slice ao ss.length ca, .slice bo xs.length cb] 34))
  have H1 := hide (h1.below (unhide HA))
  have H2 := hide (h2.below (unhide HA))
  have HL := hide hl
  have HM := hide hm
  clear h1 h2 hl hm
  cases hd : diskB ss xs
  · have H := hide (hostC_bad (h := h) hd)
    go_enter Tryz.func31, Tryz.ntmps31
    go_wp2_with fail
    refine (diskOK_impl _ _ _ _ ss xs _ (unhide HL) (unhide HM) (unhide H1) (unhide H2)).mono ?_
    rintro e w1 ⟨rfl, hb⟩
    have HB := hide (fr (unhide HA) hb)
    clear hb
    go_wp2
    go_ret
    exact ⟨ret_int (unhide H).symm, unhide HB⟩
  · cases hh : inB h 0 3
    · have H := hide (hostC_range hd hh)
      go_enter Tryz.func31, Tryz.ntmps31
      go_wp2_with fail
      refine (diskOK_impl _ _ _ _ ss xs _ (unhide HL) (unhide HM) (unhide H1) (unhide H2)).mono ?_
      rintro e w1 ⟨rfl, hb⟩
      have HB := hide (fr (unhide HA) hb)
      clear hb
      go_wp2_with (go_at_call 90; refine (hostOK_any _ _).mono ?_; rintro e w' ⟨rfl, rfl⟩)
      go_ret
      exact ⟨ret_int (unhide H).symm, unhide HB⟩
    · have H := hide (hostC_ok hd hh)
      go_enter Tryz.func31, Tryz.ntmps31
      go_wp2_with fail
      refine (diskOK_impl _ _ _ _ ss xs _ (unhide HL) (unhide HM) (unhide H1) (unhide H2)).mono ?_
      rintro e w1 ⟨rfl, hb⟩
      have HB := hide (fr (unhide HA) hb)
      clear hb
      go_wp2_with (go_at_call 90; refine (hostOK_any _ _).mono ?_; rintro e w' ⟨rfl, rfl⟩)
      go_ret
      exact ⟨ret_int (unhide H).symm, unhide HB⟩

end Go.Proofs.YtbmkdbccdnbbjaaGreatDoor

namespace Go.Proofs.YtbmkdbccdnbbjaaGreatDoor
open Go.RowKit
set_option linter.unusedVariables false
set_option maxRecDepth 100000

end Go.Proofs.YtbmkdbccdnbbjaaGreatDoor

namespace Go.Proofs.YtbmkdbccdnbbjaaGreatDoor
open Go.RowKit
set_option linter.unusedVariables false

def VarD (w : World) (x : Nat) (a b : Value) : Prop := w.heap[x]? = some (.cells #[a, b] 34 (0, 0))
theorem VarD.lt {w : World} {x : Nat} {a b : Value} (h : VarD w x a b) : x < w.heap.size := (Array.getElem?_eq_some_iff.1 h).1
theorem VarD.cells {w : World} {x : Nat} {a b : Value} (h : VarD w x a b) : w.cell? ⟨x, 0, none⟩ = some a ∧ w.cell? ⟨x, 1, none⟩ = some b := ⟨by rw [Joins.cell_of_block h]; rfl, by rw [Joins.cell_of_block h]; rfl⟩
theorem VarD.below {w w' : World} {x : Nat} {a b : Value} (h : VarD w x a b) (hb : Below w.heap.size w w') : VarD w' x a b := by
  unfold VarD; rw [hb.block x h.lt]; exact h
theorem VarD.keep {S : Nat → Prop} {w w' : World} {x : Nat} {a b : Value} (h : VarD w x a b) (hk : Keep S w w') (hs : ¬ S x) : VarD w' x a b := by
  unfold VarD; rw [hk.block x h.lt hs]; exact h
theorem VarD.new (w : World) (a b : Value) : VarD (w.alloc (.cells #[a, b] 34)) w.heap.size a b := heap_alloc_new w _

end Go.Proofs.YtbmkdbccdnbbjaaGreatDoor

namespace Go.Proofs.YtbmkdbccdnbbjaaGreatDoor
open Go.RowKit
set_option linter.unusedVariables false
set_option maxRecDepth 100000

section
variable {P : Program}

theorem run_copy_whole (w : World) (dT sT ty elem : TypeId) (size g n dCap : Nat) (a : Addr) (sCap : Nat) (cur : Array Value) (t : TypeId) (cs : List Value)
    (hu : P.underlying dT = some (.slice elem)) (hs : (P.info? elem).map (·.size) = some size)
    (hg : w.heap[g]? = some (.cells cur t (0, 0))) (hl : n * size = cs.length)
    (hsrc : ∀ j v, cs[j]? = some v → w.cell? (a.add j) = some v) (hfit : cs.length ≤ cur.size) (h1 : ∀ v ∈ cs, v.oneCell' = true) :
    (Builtin.copy_ #[dT, sT] ty #[.slice (some ⟨g, 0, none⟩) n dCap, .slice (some a) n sCap]).run P w = .ok (goInt n) (w.setRow g (cs ++ cur.toList.drop cs.length).toArray) := by
  have hld := run_loadCells_list (P := P) w a cs hsrc
  have hst := run_storeCells_at P g 0 t cs 0 cur w hg (by simpa using hfit) h1
  cases hq : P.info? elem with
  | none => simp [hq] at hs
  | some i =>
    have hi : i.size = size := by simpa [hq] using hs
    simp [Builtin.copy_, run_underlying hu, Builtin.lenOf, Builtin.firstCells, sizeOf, typeInfo, hq, hi, hl, hld, hst]

theorem wpList_copy_whole {w : World} {ops : Array Oper} {rest : List Oper} {o : Oper} {a : Act} {Q : Exit → Act → World → Prop} (hgd : o.guard = none) (d s : Operand) (dT sT : TypeId)
    (ho : o.op = .call { callee := .builtin .copy, args := #[d, s], argTypes := #[dT, sT] }) (elem : TypeId) (size : Nat) (hu : P.underlying dT = some (.slice elem)) (hsz : (P.info? elem).map (·.size) = some size)
    (B g n : Nat) (ad : Addr) (sCap : Nat) (hd : a.eval d = .slice (some ⟨g, 0, none⟩) n n) (hs : a.eval s = .slice (some ad) n sCap)
    (xs : List Value) (hown : w.ownsRow B elem size (.slice (some ⟨g, 0, none⟩) n n) n xs) (cs : List Value) (hn : cs.length = n * size)
    (hsrc : ∀ j v, cs[j]? = some v → w.cell? (ad.add j) = some v) (h1 : ∀ v ∈ cs, v.oneCell' = true)
    (h : ∀ w', w'.ownsRow B elem size (.slice (some ⟨g, 0, none⟩) n n) n cs → w.grownBy w' (some g) → wpList P ops Q rest (a.put o.dst (goInt n)) w') : wpList P ops Q (o :: rest) a w := by
  refine wpList_plain hgd fun K hK => ?_
  rcases hown.2 with ⟨e, _⟩ | ⟨g', cap', cur, e, hB, hg, hnc, hcm, hcs, ht⟩
  · simp at e
  · simp only [Value.slice.injEq, Option.some.injEq, Addr.mk.injEq, and_true, true_and] at e
    obtain ⟨rfl, rfl⟩ := e
    have hrun := run_copy_whole (P := P) w dT sT o.type elem size g n n ad sCap cur elem cs hu hsz hg hn.symm hsrc (by omega) h1
    unfold Oper.wp
    simp [execOp, ho, resolve, invoke, builtin, hd, hs, hrun, Result.andThen]
    refine hK _ _ (h _ ⟨hn, .inr ⟨g, n, _, rfl, hB, setRow_heap w g _ _ elem _ hg, hnc, hcm, ?_, ?_⟩⟩ ⟨rfl, rfl, rfl, by simp, fun k _ hk => setRow_other w g k _ (fun e => hk (by simp [e]))⟩)
    · simp; omega
    · rw [← hn]; simp
end

theorem infoS : (Tryz.prog.info? 9).map (fun i => (i.zero, i.size, i.bytes)) = some (some (.string ⟨#[]⟩), 1, 16) := by kernel_rfl
end Go.Proofs.YtbmkdbccdnbbjaaGreatDoor

namespace Go.Proofs.YtbmkdbccdnbbjaaGreatDoor
open Go.RowKit
set_option linter.unusedVariables false
set_option maxRecDepth 100000

end Go.Proofs.YtbmkdbccdnbbjaaGreatDoor

namespace Go.Proofs.YtbmkdbccdnbbjaaGreatDoor
open Go.RowKit
set_option linter.unusedVariables false
set_option maxRecDepth 100000

section
variable {P : Program}
theorem run_append_nothing (w : World) (t ty e : TypeId) (i : TypeInfo) (ht : P.underlying t = some (.slice e)) (hi : P.info? e = some i) (d so : Option Addr) (cap c : Nat) :
    (Builtin.append_ #[t, t] ty #[.slice d 0 cap, .slice so 0 c]).run P w = .ok (.slice d 0 cap) w := by
  have hl : ∀ (x : Addr), (loadCells x 0).run P w = .ok #[] w := fun x => by simpa using run_loadCells_list (P := P) w x [] (by simp)
  cases d <;> cases so <;> simp [Builtin.append_, run_underlying ht, sizeOf, typeInfo, hi, Builtin.lenOf, Builtin.firstCells, storeCells, hl]

theorem run_append_fresh (w : World) (t ty e : TypeId) (i : TypeInfo) (z : Value) (size bytes : Nat) (ht : P.underlying t = some (.slice e)) (hi : P.info? e = some i) (hz : i.zero = some z)
    (hsize : i.size = size) (hby : i.bytes = bytes) (hzs : z.cells.size = size) (hsz : 0 < size)
    (d : Addr) (so : Option Addr) (m c : Nat) (news : List Value) (hn : news.length = m * size) (hc : 0 < m → ∃ ad, so = some ad ∧ ∀ j u, news[j]? = some u → w.cell? (ad.add j) = some u)
    (b1 : m ≤ maxLen) (b2 : m * bytes ≤ 140737488355328) :
    ∃ ao cap w', (Builtin.append_ #[t, t] ty #[.slice (some d) 0 0, .slice so m c]).run P w = .ok (.slice ao m cap) w' ∧ OwnR w' w.heap.size e size (.slice ao m cap) m news ∧ w.grownBy w' none := by
  rcases Nat.eq_zero_or_pos m with h0 | h0
  · subst h0
    exact ⟨some d, 0, w, run_append_nothing w t ty e i ht hi _ _ _ _, .inl ⟨rfl, List.eq_nil_of_length_eq_zero (by simpa using hn), _, rfl⟩, World.grownBy.refl w none⟩
  · obtain ⟨ad, rfl, hcs⟩ := hc h0
    obtain ⟨v', w', hrun, r1, r2⟩ := run_append_arg_grows (P := P) w t ty e i z size bytes ht hi hz hsize hby hzs hsz d 0 0 [] (by simp) (by simp) ad m c news hn hcs (by omega) (by simpa using b1) (by simpa using b2)
    simp only [Nat.zero_add, List.nil_append] at r1
    obtain ⟨g, cap, cur, rfl, _, _⟩ := own_form h0 r1
    exact ⟨_, _, w', hrun, .inr ⟨h0, r1⟩, r2⟩

def isFresh : Value → Bool
  | .slice (some _) 0 0 => true
  | _ => false
theorem isFresh_form {v : Value} (h : isFresh v = true) : ∃ d, v = .slice (some d) 0 0 := by
  unfold isFresh at h
  split at h
  · exact ⟨_, rfl⟩
  · cases h

theorem step_append_fresh {ops : Array Oper} {o : Oper} {a : Act} {w : World} {K : Act → World → Prop} {Q : Exit → Act → World → Prop} {E : Prop}
    (hg : o.guard = none) (s x : Operand) (t : TypeId) (hop : o.op = Op.call { callee := Callee.builtin Builtin.append, args := #[s, x], argTypes := #[t, t] })
    (e : TypeId) (i : TypeInfo) (z : Value) (size bytes : Nat) (h1 : P.underlying t = some (.slice e)) (h2 : P.info? e = some i) (h3 : i.zero = some z) (h4 : i.size = size) (h5 : i.bytes = bytes) (h6 : z.cells.size = size) (h7 : 0 < size)
    (hs0 : isFresh (a.eval s) = true) (so : Option Addr) (m c : Nat) (news : List Value) (hx : a.eval x = .slice so m c) (hn : news.length = m * size)
    (hc : 0 < m → ∃ ad, so = some ad ∧ ∀ j u, news[j]? = some u → w.cell? (ad.add j) = some u) (b1 : m ≤ maxLen) (b2 : m * bytes ≤ 140737488355328)
    (hK : ∀ ao cap w', OwnR w' w.heap.size e size (.slice ao m cap) m news → w.grownBy w' none → K (a.put o.dst (.slice ao m cap)) w') :
    if Region.wanted o (yielded ops a.tmps) = true then Oper.wp P o a w K Q else E := by
  have hw : Region.wanted o (yielded ops a.tmps) = true := by simp [Region.wanted, hg]
  rw [if_pos hw]
  obtain ⟨d, hs⟩ := isFresh_form hs0
  obtain ⟨ao, cap, w', hrun, r1, r2⟩ := run_append_fresh (P := P) w t o.type e i z size bytes h1 h2 h3 h4 h5 h6 h7 d so m c news hn hc b1 b2
  unfold Oper.wp
  simp [execOp, hop, resolve, invoke, builtin, hs, hx, hrun, Result.andThen]
  exact hK _ _ _ r1 r2
end

theorem belowGr {W0 W W' : World} (h : Below W0.heap.size W0 W) (hg : W.grownBy W' none) : Below W0.heap.size W0 W' := h.grown hg h.size (fun _ h => by cases h)
end Go.Proofs.YtbmkdbccdnbbjaaGreatDoor

namespace Go.Proofs.YtbmkdbccdnbbjaaGreatDoor
open Go.RowKit
set_option linter.unusedVariables false
set_option maxRecDepth 100000

end Go.Proofs.YtbmkdbccdnbbjaaGreatDoor

namespace Go.Proofs.YtbmkdbccdnbbjaaGreatDoor
open Go.RowKit
set_option linter.unusedVariables false

theorem belowKp {W0 W W' : World} {S : Nat → Prop} (h : Below W0.heap.size W0 W) (hk : Keep S W W') (hs : ∀ j, S j → W0.heap.size ≤ j) : Below W0.heap.size W0 W' := h.trans (hk.below h.size hs)
end Go.Proofs.YtbmkdbccdnbbjaaGreatDoor

namespace Go.Proofs.YtbmkdbccdnbbjaaGreatDoor
open Go.RowKit
set_option linter.unusedVariables false

theorem strV_set (SS : List ByteArray) (j : Nat) (d : ByteArray) : (strV SS).set j (.string d) = strV (SS.set j d) := by simp [strV, List.map_set]

end Go.Proofs.YtbmkdbccdnbbjaaGreatDoor

namespace Go.Proofs.YtbmkdbccdnbbjaaGreatDoor
open Go.RowKit
set_option linter.unusedVariables false

end Go.Proofs.YtbmkdbccdnbbjaaGreatDoor

namespace Go.Proofs.YtbmkdbccdnbbjaaGreatDoor
open Go.RowKit
set_option linter.unusedVariables false

end Go.Proofs.YtbmkdbccdnbbjaaGreatDoor

namespace Go.Proofs.YtbmkdbccdnbbjaaGreatDoor
open Go.RowKit
set_option linter.unusedVariables false

end Go.Proofs.YtbmkdbccdnbbjaaGreatDoor

namespace Go.Proofs.YtbmkdbccdnbbjaaGreatDoor
open Go.RowKit
set_option linter.unusedVariables false

end Go.Proofs.YtbmkdbccdnbbjaaGreatDoor

namespace Go.Proofs.YtbmkdbccdnbbjaaGreatDoor
open Go.RowKit
set_option linter.unusedVariables false

end Go.Proofs.YtbmkdbccdnbbjaaGreatDoor

namespace Go.Proofs.YtbmkdbccdnbbjaaGreatDoor
set_option linter.unusedVariables false

theorem diskB_parts {ss : List ByteArray} {xs : List Wr} : diskB ss xs = true ↔ (ss.length = 64 ∧ ∀ s ∈ ss, s.size ≤ 80) ∧ xs.length ≤ 200 ∧ ∀ x ∈ xs, ioB x = true := by
  simp only [diskB, secB, penB, Bool.and_eq_true, decide_eq_true_eq, List.all_eq_true]
theorem ioB_parts {x : Wr} : ioB x = true ↔ (0 ≤ x.host ∧ x.host ≤ 3) ∧ (0 ≤ x.at_ ∧ x.at_ ≤ 63) ∧ x.data.size ≤ 80 := by
  simp only [ioB, Bool.and_eq_true, decide_eq_true_eq]
  omega
end Go.Proofs.YtbmkdbccdnbbjaaGreatDoor

namespace Go.Proofs.YtbmkdbccdnbbjaaGreatDoor
open Go.RowKit
set_option linter.unusedVariables false

theorem three {l : List Int} (h : l.length = 3) : ∃ a b c, l = [a, b, c] := by
  match l, h with
  | [a, b, c], _ => exact ⟨a, b, c, rfl⟩
theorem readV_size {ss : List ByteArray} {xs : List Wr} (hd : diskB ss xs = true) (h a : Int) : (readV ss xs h a).size ≤ 80 := by
  obtain ⟨⟨a1, a2⟩, a3, a4⟩ := diskB_parts.1 hd
  unfold readV
  cases hf : xs.reverse.find? (fun x => x.host == h && x.at_ == a) with
  | some x => exact (ioB_parts.1 (a4 x (List.mem_reverse.1 (List.mem_of_find?_eq_some hf)))).2.2
  | none =>
    simp only [Option.map_none, Option.getD_none]
    rw [List.getD_eq_getElem?_getD]
    cases hg : ss[a.toNat]? with
    | some s => exact a2 s (List.mem_of_getElem? hg)
    | none => exact Nat.zero_le _

end Go.Proofs.YtbmkdbccdnbbjaaGreatDoor

namespace Go.Proofs.YtbmkdbccdnbbjaaGreatDoor
open Go.RowKit
set_option linter.unusedVariables false

theorem allB_in {xs : List Int} (h : allB xs = true) : ∀ j (hj : j < xs.length), 0 ≤ xs[j] ∧ xs[j] ≤ 2147483647 := by
  intro j hj
  rw [allB, List.all_eq_true] at h
  have := h _ (List.getElem_mem hj)
  simpa [numB, inB] using this
theorem pack_byte {xs : List Int} {i j : Nat} (hi : i < xs.length) (hj : j < 4) : byteAt (packS xs) (i * 4 + j) = byteN xs[i] j := by
  obtain ⟨hk, he⟩ := List.getElem?_eq_some_iff.1 (packL_at xs i j hi hj)
  have hb := byteN_in xs[i] j
  rw [packS, byteAt_nums hk (by rw [he]; omega) (by rw [he]; omega), he]
theorem num_of_bytes {n : Int} (h0 : 0 ≤ n) (h1 : n ≤ 2147483647) : byteN n 0 + byteN n 1 * 256 + byteN n 2 * 65536 + byteN n 3 * 16777216 = n := by
  show n / 1 % 256 + n / 256 % 256 * 256 + n / 65536 % 256 * 65536 + n / 16777216 % 256 * 16777216 = n
  omega
theorem un_pack {xs : List Int} (h : allB xs = true) : unL (packS xs) = xs := by
  apply List.ext_getElem
  · rw [unL_length, packS_size]; omega
  · intro i h1 h2
    rw [unL_get h1]
    have hin := allB_in h i h2
    unfold numAt
    have e0 := pack_byte h2 (show 0 < 4 by omega)
    rw [Nat.add_zero] at e0
    rw [e0, pack_byte h2 (show 1 < 4 by omega), pack_byte h2 (show 2 < 4 by omega), pack_byte h2 (show 3 < 4 by omega)]
    exact num_of_bytes hin.1 hin.2
theorem okU_pack {xs : List Int} (h : allB xs = true) (hl : xs.length ≤ 16) : okU (packS xs) = true := by
  rw [okU_even (by rw [packS_size]; omega), un_pack h, intsB, h, decide_eq_true hl]; rfl
theorem intsB_small {xs : List Int} (h : allB xs = true) (hl : xs.length ≤ 16) : intsB xs = true := by rw [intsB, h, decide_eq_true hl]; rfl
theorem kindB_of {k : Int} (hk : 1 ≤ k ∧ k ≤ 9) : kindB k = true := by simp [kindB, inB]; omega
theorem seal_byte {k : Int} {xs : List Int} (hk : 1 ≤ k ∧ k ≤ 9) (hl : xs.length ≤ 16) {j : Nat} (hj : j < 4) : byteAt (sealS k xs) j = (headR k xs)[j]'(by simpa [headR] using hj) := by
  have hr := sumR_in k xs
  rw [sealS, byteAt_left (by rw [strOfNums_size]; simpa [headR] using hj), byteAt_nums]
  · rcases (show j = 0 ∨ j = 1 ∨ j = 2 ∨ j = 3 by omega) with rfl | rfl | rfl | rfl <;> simp [headR] <;> omega
  · rcases (show j = 0 ∨ j = 1 ∨ j = 2 ∨ j = 3 by omega) with rfl | rfl | rfl | rfl <;> simp [headR] <;> omega
theorem body_seal {k : Int} {xs : List Int} : bodyT (sealS k xs) = packS xs := by
  apply bytes_eq
  · rw [bodyT_size, sealS_size, packS_size]; omega
  · intro j hj
    rw [bodyT_size, sealS_size] at hj
    rw [bodyT_byte (by rw [sealS_size]; omega), sealS, byteAt_right (by rw [strOfNums_size]; simp [headR]), strOfNums_size]
    congr 1
    simp [headR]
theorem rec_seal {k : Int} {xs : List Int} (hk : 1 ≤ k ∧ k ≤ 9) (h : allB xs = true) (hl : xs.length ≤ 16) : RecP (sealS k xs) := by
  have e0 := seal_byte hk hl (show 0 < 4 by omega)
  have hkb : kindB (byteAt (sealS k xs) 0) = true := by rw [e0]; exact kindB_of hk
  refine (seal_iff (by rw [sealS_size]; omega) hkb (by rw [body_seal]; exact okU_pack h hl)).1 ?_
  rw [body_seal, un_pack h, e0]
  simp [headR]
theorem seal_kind {k : Int} {xs : List Int} (hk : 1 ≤ k ∧ k ≤ 9) (hl : xs.length ≤ 16) : byteAt (sealS k xs) 0 = k := by rw [seal_byte hk hl (show 0 < 4 by omega)]; simp [headR]
theorem opC_seal {k : Int} {xs : List Int} (hk : 1 ≤ k ∧ k ≤ 9) (h : allB xs = true) (hl : xs.length ≤ 16) : opC (sealS k xs) k = 0 :=
  opC_ok (by rw [sealS_size]; omega) (kindB_of hk) (recB_true (rec_seal hk h hl)) (seal_kind hk hl)
theorem opR_seal {k : Int} {xs : List Int} (hk : 1 ≤ k ∧ k ≤ 9) (h : allB xs = true) (hl : xs.length ≤ 16) : opR (sealS k xs) k = xs := by rw [opR_ok (opC_seal hk h hl), body_seal, un_pack h]
theorem kdC_seal {k : Int} {xs : List Int} (hk : 1 ≤ k ∧ k ≤ 9) (h : allB xs = true) (hl : xs.length ≤ 16) : kdC (sealS k xs) = 0 := kdC_ok (by rw [sealS_size]; omega) (recB_true (rec_seal hk h hl))
theorem kdR_seal {k : Int} {xs : List Int} (hk : 1 ≤ k ∧ k ≤ 9) (h : allB xs = true) (hl : xs.length ≤ 16) : kdR (sealS k xs) = k := by rw [kdR_ok (kdC_seal hk h hl), seal_kind hk hl]
end Go.Proofs.YtbmkdbccdnbbjaaGreatDoor

namespace Go.Proofs.YtbmkdbccdnbbjaaGreatDoor
open Go.RowKit
set_option linter.unusedVariables false
set_option maxRecDepth 100000

end Go.Proofs.YtbmkdbccdnbbjaaGreatDoor

namespace Go.Proofs.YtbmkdbccdnbbjaaGreatDoor
open Go.RowKit
set_option linter.unusedVariables false
set_option maxRecDepth 100000

theorem ret_rs {a b : ByteArray} (h : a = b) : Ending.returned (.string a) = .returned (.string b) := by rw [h]
theorem no_succ {xs : List Wr} {h a : Int} {k : Nat} (hk : k < xs.length) (hn : ∀ j (hj : j < xs.length), (k : Int) < j → ¬ mat xs[j] h a) (hx : ¬ mat xs[k] h a) : ∀ j (hj : j < xs.length), (k : Int) - 1 < j → ¬ mat xs[j] h a := by
  intro j hj hlt
  by_cases e : j = k
  · subst e; exact hx
  · exact hn j hj (by omega)

set_option maxHeartbeats 1600000 in
theorem seenBy_any (ao bo : Option Addr) (ca cb : Nat) (ss : List ByteArray) (xs : List Wr) (h : Int) (n : Nat) (w : World) (hlx : xs.length ≤ 200) (hn : n < ss.length) (hq : ss.length ≤ 1048576) (h1 : Ss w ao ss) (h2 : Ios w bo xs) :
    Calls Tryz.prog 37 #[.agg #[.slice ao ss.length ca, .slice bo xs.length cb], .int .i64 h, .int .i64 n] w fun e w' => e = .returned (.string (readV ss xs h n)) ∧ Below w.heap.size w w' := by
  have HA := hide (Joins.below_alloc1 w (.cells #[.slice ao ss.length ca, .slice bo xs.length cb] 34))
  have H1' := hide (h1.below (unhide HA))
  have H2' := hide (h2.below (unhide HA))
  have hc0 : (w.alloc (.cells #[.slice ao ss.length ca, .slice bo xs.length cb] 34)).cell? ⟨w.heap.size, 0, none⟩ = some (.slice ao ss.length ca) := by simp [go_sem]
  have hc1 : (w.alloc (.cells #[.slice ao ss.length ca, .slice bo xs.length cb] 34)).cell? ⟨w.heap.size, 1, none⟩ = some (.slice bo xs.length cb) := by simp [go_sem]
  have HC0 := hide hc0
  have HC1 := hide hc1
  have hlt : w.heap.size < (w.alloc (.cells #[.slice ao ss.length ca, .slice bo xs.length cb] 34)).heap.size := by simp
  clear h1 h2 hc0 hc1
  go_enter Tryz.func37, Tryz.ntmps37
  go_wp2
  revert HA H1' H2' HC0 HC1 hlt
  generalize w.alloc (.cells #[.slice ao ss.length ca, .slice bo xs.length cb] 34) = w1
  intro HA H1' H2' HC0 HC1 hlt
  go_loopw [7, 8] (fun i _ wr => ∃ m : Int, i = .int .i64 m ∧ -1 ≤ m ∧ m < xs.length ∧ Hid (∀ j (hj : j < xs.length), m < j → ¬ mat xs[j] h n) ∧ Hid (Below w1.heap.size w1 wr)) (fun i _ _ => (intOf i + 1).toNat)
  case atStart => exact ⟨_, rfl, by omega, by omega, hide (fun j hj hlt => by omega), hide (Below.refl _ _)⟩
  case round =>
    obtain ⟨m, rfl, hm0, hm1, HN, HB⟩ := hrel
    have hc0 : wr.cell? ⟨w.heap.size, 0, none⟩ = some (.slice ao ss.length ca) := ((unhide HB).cell (World.block_lt_of_cell? _ _ (unhide HC0))).trans (unhide HC0)
    have hc1 : wr.cell? ⟨w.heap.size, 1, none⟩ = some (.slice bo xs.length cb) := ((unhide HB).cell (World.block_lt_of_cell? _ _ (unhide HC1))).trans (unhide HC1)
    by_cases hge : 0 ≤ m
    · obtain ⟨k, rfl⟩ := Int.eq_ofNat_of_zero_le hge
      have hk : k < xs.length := by omega
      obtain ⟨b, off, rfl, hd0, hd1, hd2, hz⟩ := (unhide H2').below (unhide HB) k hk
      clear hz
      have HBA := hide (fun o => (unhide HB).alloc (unhide HB).size o)
      by_cases e0 : xs[k].host = h
      · have b0 : (xs[k].host == h) = true := by simp [e0]
        by_cases e1 : xs[k].at_ = n
        · have b1 : (xs[k].at_ == (n : Int)) = true := by simp [e1]
          have H := hide (readV_hit (ss := ss) hk ⟨e0, e1⟩ (fun j hj hlt => unhide HN j hj (by omega)))
          clear e0 e1
          go_wp2
          go_ret
          exact ⟨ret_rs (unhide H).symm, fr (unhide HA) (unhide HBA _)⟩
        · have b1 : (xs[k].at_ == (n : Int)) = false := by simp [e1]
          have HX := hide (no_succ hk (unhide HN) (fun hx => e1 hx.2))
          clear e0 e1
          go_wp2
          go_roundw
          case rel => exact ⟨_, rfl, by omega, by omega, HX, hide (unhide HBA _)⟩
          case measure => simp [intOf]
      · have b0 : (xs[k].host == h) = false := by simp [e0]
        have HX := hide (no_succ hk (unhide HN) (fun hx => e0 hx.1))
        clear e0
        go_wp2
        go_roundw
        case rel => exact ⟨_, rfl, by omega, by omega, HX, hide (unhide HBA _)⟩
        case measure => simp [intOf]
    · obtain ⟨b, off, rfl, hc, hz⟩ := (unhide H1').below (unhide HB) n hn
      clear hz
      have hg : ss.getD ((n : Int).toNat) ⟨#[]⟩ = ss[n] := by simp [List.getD, hn]
      have H := hide ((readV_none (ss := ss) (fun j hj => unhide HN j hj (by omega))).trans hg)
      clear hg
      go_wp2
      go_ret
      exact ⟨ret_rs (unhide H).symm, fr (unhide HA) (unhide HB)⟩

end Go.Proofs.YtbmkdbccdnbbjaaGreatDoor

namespace Go.Proofs.YtbmkdbccdnbbjaaGreatDoor
open Go.RowKit
set_option linter.unusedVariables false
set_option maxRecDepth 100000

end Go.Proofs.YtbmkdbccdnbbjaaGreatDoor

namespace Go.Proofs.YtbmkdbccdnbbjaaGreatDoor
open Go.RowKit
set_option linter.unusedVariables false

end Go.Proofs.YtbmkdbccdnbbjaaGreatDoor

namespace Go.Proofs.YtbmkdbccdnbbjaaGreatDoor
open Go.RowKit
set_option linter.unusedVariables false

end Go.Proofs.YtbmkdbccdnbbjaaGreatDoor

namespace Go.Proofs.YtbmkdbccdnbbjaaGreatDoor
open Go.RowKit
set_option linter.unusedVariables false
set_option maxRecDepth 100000

end Go.Proofs.YtbmkdbccdnbbjaaGreatDoor

namespace Go.Proofs.YtbmkdbccdnbbjaaGreatDoor
open Go.RowKit
set_option linter.unusedVariables false
set_option maxRecDepth 100000

end Go.Proofs.YtbmkdbccdnbbjaaGreatDoor

namespace Go.Proofs.YtbmkdbccdnbbjaaGreatDoor
open Go.RowKit
set_option linter.unusedVariables false

end Go.Proofs.YtbmkdbccdnbbjaaGreatDoor

namespace Go.Proofs.YtbmkdbccdnbbjaaGreatDoor
open Go.RowKit
set_option linter.unusedVariables false
set_option maxRecDepth 100000

set_option maxHeartbeats 1600000 in
theorem chance_k (b : Nat) (ao : Option Addr) (n cap m : Nat) (k : Int) (w : World) (hk0 : 1 ≤ k) (hk1 : k ≤ 1000000) (hm : m ≤ 900000) (hn : n ≤ 1048576) (hs : SrcK w b ao n cap m) :
    Calls Tryz.prog 65 #[.pointer (some ⟨b, 0, none⟩), .int .i64 k] w fun e w' => ∃ q : Bool, e = .returned (.bool q) ∧ SrcK w' b ao n cap (m + 3) ∧ Keep (fun j => j = b) w w' := by
  go_enter Tryz.func65, Tryz.ntmps65
  go_wp2_with fail
  refine (next_k b ao n cap m k _ hk0 hk1 hm hn hs).mono ?_
  rintro e w1 ⟨q, rfl, q0, q1, hs1, hk1'⟩
  have HS := hide hs1
  have HK := hide hk1'
  clear hs1 hk1' hs
  go_wp2
  go_ret
  exact ⟨_, rfl, unhide HS, unhide HK⟩

end Go.Proofs.YtbmkdbccdnbbjaaGreatDoor

namespace Go.Proofs.YtbmkdbccdnbbjaaGreatDoor
open Go.RowKit
set_option linter.unusedVariables false
set_option maxRecDepth 100000

theorem hidB {p : Prop} (h : p) : Hid p := h
def betw (n low high : Int) : Bool := decide (low ≤ n) && decide (n ≤ high)
theorem betw_yes {n low high : Int} (h : low ≤ n) (h' : n ≤ high) : betw n low high = true := by simp [betw, h, h']
theorem betw_no {n low high : Int} (h : ¬ (low ≤ n ∧ n ≤ high)) : betw n low high = false := by simp only [betw, Bool.and_eq_false_iff, decide_eq_false_iff_not]; omega
theorem betw_iff {n low high : Int} : betw n low high = true ↔ low ≤ n ∧ n ≤ high := by simp [betw]
set_option maxHeartbeats 800000 in
theorem within_any (n low high : Int) (w : World) : Calls Tryz.prog 91 #[.int .i64 n, .int .i64 low, .int .i64 high] w fun e w' => e = .returned (.bool (betw n low high)) ∧ w' = w := by
  by_cases h1 : low ≤ n
  · by_cases h2 : n ≤ high
    · have hr := hidB (betw_yes h1 h2)
      go_enter Tryz.func91, Tryz.ntmps91
      go_wp2
      go_ret
      rw [show betw n low high = true from hr]
      exact ⟨rfl, rfl⟩
    · have hr := hidB (betw_no (n := n) (low := low) (high := high) (by omega))
      go_enter Tryz.func91, Tryz.ntmps91
      go_wp2
      go_ret
      rw [show betw n low high = false from hr]
      exact ⟨rfl, rfl⟩
  · have hr := hidB (betw_no (n := n) (low := low) (high := high) (by omega))
    go_enter Tryz.func91, Tryz.ntmps91
    go_wp2
    go_ret
    rw [show betw n low high = false from hr]
    exact ⟨rfl, rfl⟩
set_option maxHeartbeats 800000 in
theorem in_any (n low high : Int) (w : World) : Calls Tryz.prog 55 #[.int .i64 n, .int .i64 low, .int .i64 high] w fun e w' => e = .returned (.bool (betw n low high)) ∧ w' = w := by
  by_cases h1 : low ≤ n
  · by_cases h2 : n ≤ high
    · have hr := hidB (betw_yes h1 h2)
      go_enter Tryz.func55, Tryz.ntmps55
      go_wp2
      go_ret
      rw [show betw n low high = true from hr]
      exact ⟨rfl, rfl⟩
    · have hr := hidB (betw_no (n := n) (low := low) (high := high) (by omega))
      go_enter Tryz.func55, Tryz.ntmps55
      go_wp2
      go_ret
      rw [show betw n low high = false from hr]
      exact ⟨rfl, rfl⟩
  · have hr := hidB (betw_no (n := n) (low := low) (high := high) (by omega))
    go_enter Tryz.func55, Tryz.ntmps55
    go_wp2
    go_ret
    rw [show betw n low high = false from hr]
    exact ⟨rfl, rfl⟩

end Go.Proofs.YtbmkdbccdnbbjaaGreatDoor

namespace Go.Proofs.YtbmkdbccdnbbjaaGreatDoor
open Go.RowKit
set_option linter.unusedVariables false
set_option maxRecDepth 100000

def cnt1 (n : Int) : Bool := betw n 0 15
def ctB (xs : List Int) : Bool := decide (xs.length = 24) && xs.all cnt1
def zero24 : List Int := List.replicate 24 0
theorem ctB_len {xs : List Int} (h : ctB xs = true) : xs.length = 24 := by
  simp only [ctB, Bool.and_eq_true, decide_eq_true_eq] at h; exact h.1
theorem ctB_at {xs : List Int} (h : ctB xs = true) : ∀ i (hi : i < xs.length), 0 ≤ xs[i] ∧ xs[i] ≤ 15 := by
  intro i hi
  simp only [ctB, Bool.and_eq_true, decide_eq_true_eq, List.all_eq_true] at h
  exact betw_iff.1 (h.2 xs[i] (List.getElem_mem hi))
theorem ctB_of {xs : List Int} (hl : xs.length = 24) (h : ∀ i (hi : i < xs.length), cnt1 xs[i] = true) : ctB xs = true := by
  rw [ctB, decide_eq_true hl, all_of (p := cnt1) (fun i hi _ => h i hi)]; rfl
theorem ctB_nolen {xs : List Int} (hl : ¬ xs.length = 24) : ctB xs = false := by rw [ctB, decide_eq_false hl]; rfl
theorem ctB_noat {xs : List Int} {k : Nat} (hk : k < xs.length) (h : cnt1 xs[k] = false) : ctB xs = false := by rw [ctB, all_not (p := cnt1) hk h]; simp
theorem ctB_all {xs : List Int} (h : ∀ i (hi : i < xs.length), cnt1 xs[i] = true) : ctB xs = decide (xs.length = 24) := by
  rw [ctB, all_of (p := cnt1) (fun i hi _ => h i hi)]; simp
def frN (xs : List Int) : Nat := xs.findIdx (fun n => decide (n = 0))
def hx6 (xs : List Int) (i : Nat) : Nat → Int
  | 0 => 0
  | m + 1 => 16 * hx6 xs i m + xs.getD (i + (5 - m)) 0
def lo6 (xs : List Int) (i : Nat) : Nat → Int
  | 0 => 0
  | m + 1 => lo6 xs i m + xs.getD (i + m) 0 * 16 ^ m
theorem hx_lo (xs : List Int) (i : Nat) : hx6 xs i 6 = lo6 xs i 6 := by
  simp only [hx6, lo6, Nat.sub_zero, Nat.reduceSub, Nat.add_zero]
  simp only [show (16 : Int) ^ 0 = 1 from rfl, show (16 : Int) ^ 1 = 16 from rfl, show (16 : Int) ^ 2 = 256 from rfl, show (16 : Int) ^ 3 = 4096 from rfl, show (16 : Int) ^ 4 = 65536 from rfl, show (16 : Int) ^ 5 = 1048576 from rfl]
  omega
theorem lo_in (xs : List Int) (i : Nat) (h : ∀ j, 0 ≤ xs.getD j 0 ∧ xs.getD j 0 ≤ 15) : ∀ m, 0 ≤ lo6 xs i m ∧ lo6 xs i m < 16 ^ m
  | 0 => by simp [lo6]
  | m + 1 => by
    obtain ⟨h0, h1⟩ := lo_in xs i h m
    obtain ⟨g0, g1⟩ := h (i + m)
    rw [lo6, show (16 : Int) ^ (m + 1) = 16 ^ m * 16 from Int.pow_succ 16 m]
    generalize (16 : Int) ^ m = P at *
    have a0 : 0 ≤ xs.getD (i + m) 0 * P := Int.mul_nonneg g0 (by omega)
    have a1 : xs.getD (i + m) 0 * P ≤ 15 * P := Int.mul_le_mul_of_nonneg_right g1 (by omega)
    omega
theorem ctB_getD {xs : List Int} (h : ctB xs = true) (j : Nat) : 0 ≤ xs.getD j 0 ∧ xs.getD j 0 ≤ 15 := by
  by_cases hj : j < xs.length
  · rw [List.getD, List.getElem?_eq_getElem hj]; exact ctB_at h j hj
  · rw [List.getD, List.getElem?_eq_none (by omega)]; decide
def ctNs (xs : List Int) : List Int := [lo6 xs 0 6, lo6 xs 6 6, lo6 xs 12 6, lo6 xs 18 6]
def encT (xs : List Int) : ByteArray := sealS 2 (ctNs xs)
theorem ctNs_in {xs : List Int} (h : ctB xs = true) : ∀ j (hj : j < (ctNs xs).length), 0 ≤ (ctNs xs)[j] ∧ (ctNs xs)[j] ≤ 16777215 := by
  have k : ∀ i, 0 ≤ lo6 xs i 6 ∧ lo6 xs i 6 ≤ 16777215 := fun i => by
    have := lo_in xs i (ctB_getD h) 6
    rw [show (16 : Int) ^ 6 = 16777216 from rfl] at this
    omega
  intro j hj
  match j, hj with
  | 0, _ => exact k 0
  | 1, _ => exact k 6
  | 2, _ => exact k 12
  | 3, _ => exact k 18
theorem ct_seal {xs : List Int} (h : ctB xs = true) : sealC 2 (ctNs xs) = 0 ∧ sealT 2 (ctNs xs) = encT xs := by
  have hi : intsB (ctNs xs) = true := by
    rw [intsB_len]
    · rfl
    · intro j hj
      have := ctNs_in h j hj
      simp [numB, inB]; omega
  have hc : sealC 2 (ctNs xs) = 0 := sealC_ok (listC_ok (by simp [ctNs]) hi) rfl
  exact ⟨hc, sealT_ok hc⟩
def txN (xs : List Int) (k : Nat) : List Int := (List.range 4).map (fun q => lo6 xs (6 * q) (min 6 (k - 6 * q)))
theorem txN_len (xs : List Int) (k : Nat) : (txN xs k).length = 4 := by simp [txN]
theorem txN_zero (xs : List Int) : txN xs 0 = [0, 0, 0, 0] := by simp [txN, List.range_succ, lo6]
theorem txN_end (xs : List Int) : txN xs 24 = ctNs xs := by simp [txN, ctNs, List.range_succ]
theorem txN_get (xs : List Int) (k q : Nat) (h : q < (txN xs k).length) : (txN xs k)[q] = lo6 xs (6 * q) (min 6 (k - 6 * q)) := by simp [txN]
theorem txN_step (xs : List Int) (k : Nat) (hk : k < 24) : txN xs (k + 1) = (txN xs k).set (k / 6) (lo6 xs (6 * (k / 6)) (k % 6) + xs.getD k 0 * 16 ^ (k % 6)) := by
  apply List.ext_getElem
  · rw [List.length_set, txN_len, txN_len]
  · intro q h1 h2
    rw [txN_get, List.getElem_set]
    rw [txN_len] at h1
    split
    · rename_i e
      subst e
      have e2 : min 6 (k + 1 - 6 * (k / 6)) = k % 6 + 1 := by omega
      have e3 : 6 * (k / 6) + k % 6 = k := by omega
      rw [e2, lo6, e3]
    · rename_i e
      rw [txN_get]
      have e2 : min 6 (k + 1 - 6 * q) = min 6 (k - 6 * q) := by omega
      rw [e2]
theorem txN_at (xs : List Int) (k : Nat) (hk : k < 24) (h : k / 6 < (txN xs k).length) : (txN xs k)[k / 6] = lo6 xs (6 * (k / 6)) (k % 6) := by
  rw [txN_get]
  have e2 : min 6 (k - 6 * (k / 6)) = k % 6 := by omega
  rw [e2]
theorem pow_two (r : Nat) : (16 : Int) ^ r = 2 ^ (r * 4) := by
  rw [Nat.mul_comm, Int.pow_mul]; rfl
theorem or_place {xs : List Int} (h : ctB xs = true) (i k r : Nat) (hr : r < 6) : bits .or .i64 (lo6 xs i r) (xs.getD k 0 * 16 ^ r) = lo6 xs i r + xs.getD k 0 * 16 ^ r := by
  obtain ⟨h0, h1⟩ := lo_in xs i (ctB_getD h) r
  obtain ⟨g0, g1⟩ := ctB_getD h k
  have hp : (16 : Int) ^ r ≤ 1048576 := by
    match r, hr with
    | 0, _ => decide
    | 1, _ => decide
    | 2, _ => decide
    | 3, _ => decide
    | 4, _ => decide
    | 5, _ => decide
  have hp0 : 0 < (16 : Int) ^ r := Int.pow_pos (by omega)
  have e := pow_two r
  refine or_low (r * 4) _ _ h0 (by rw [← e]; exact h1) ?_ ?_ ?_ ?_
  · generalize (16 : Int) ^ r = P at *; omega
  · exact Int.mul_nonneg g0 (by omega)
  · rw [← e]; exact Int.mul_emod_left _ _
  · have : xs.getD k 0 * 16 ^ r ≤ 15 * 16 ^ r := Int.mul_le_mul_of_nonneg_right g1 (by omega)
    generalize (16 : Int) ^ r = P at *; omega
theorem fr_here {xs : List Int} {k : Nat} (hk : k < xs.length) (h0 : xs[k] = 0) (h : ∀ j (hj : j < xs.length), j < k → decide (xs[j] ≠ 0) = true) : frN xs = k := by
  unfold frN
  rw [List.findIdx_eq hk]
  refine ⟨by simp [h0], fun j hj => ?_⟩
  have := h j (by omega) hj
  simp only [decide_eq_true_eq] at this
  simp [this]
theorem fr_none {xs : List Int} (h : ∀ j (hj : j < xs.length), decide (xs[j] ≠ 0) = true) : ¬ frN xs < xs.length := by
  unfold frN
  rw [List.findIdx_lt_length]
  rintro ⟨x, hx, h0⟩
  obtain ⟨j, hj, rfl⟩ := List.getElem_of_mem hx
  have := h j hj
  simp at this h0
  exact this h0
end Go.Proofs.YtbmkdbccdnbbjaaGreatDoor

namespace Go.Proofs.YtbmkdbccdnbbjaaGreatDoor
open Go.RowKit
set_option linter.unusedVariables false
set_option maxRecDepth 100000

def ent1 (n : Int) : Bool := betw n 0 25
def tbB (xs : List Int) : Bool := decide (xs.length ≤ 12) && xs.all ent1
def tbF (xs : List Int) : Int := if 4096 < xs.length then 2 else if tbB xs = true then 0 else 1
theorem tbB_len {xs : List Int} (h : tbB xs = true) : xs.length ≤ 12 := by
  simp only [tbB, Bool.and_eq_true, decide_eq_true_eq] at h; exact h.1
theorem tbB_at {xs : List Int} (h : tbB xs = true) : ∀ i (hi : i < xs.length), 0 ≤ xs[i] ∧ xs[i] ≤ 25 := by
  intro i hi
  simp only [tbB, Bool.and_eq_true, decide_eq_true_eq, List.all_eq_true] at h
  exact betw_iff.1 (h.2 xs[i] (List.getElem_mem hi))
theorem tbB_of {xs : List Int} (hl : xs.length ≤ 12) (h : ∀ i (hi : i < xs.length), ent1 xs[i] = true) : tbB xs = true := by
  rw [tbB, decide_eq_true hl, all_of (p := ent1) (fun i hi _ => h i hi)]; rfl
theorem tbB_nolen {xs : List Int} (hl : ¬ xs.length ≤ 12) : tbB xs = false := by rw [tbB, decide_eq_false hl]; rfl
theorem tbB_noat {xs : List Int} {k : Nat} (hk : k < xs.length) (h : ent1 xs[k] = false) : tbB xs = false := by rw [tbB, all_not (p := ent1) hk h]; simp
theorem tbB_all {xs : List Int} (h : ∀ i (hi : i < xs.length), ent1 xs[i] = true) : tbB xs = decide (xs.length ≤ 12) := by
  rw [tbB, all_of (p := ent1) (fun i hi _ => h i hi)]; simp
theorem tbF_ok {xs : List Int} (hb : tbB xs = true) : tbF xs = 0 := by
  have := tbB_len hb
  rw [tbF, if_neg (by omega), if_pos hb]
def encTb (xs : List Int) : ByteArray := sealS 3 xs
theorem tb_all {xs : List Int} (h : tbB xs = true) : allB xs = true := allB_true (fun j hj => by have := tbB_at h j hj; simp [numB, inB]; omega)
theorem tb_seal {xs : List Int} (h : tbB xs = true) : sealC 3 xs = 0 ∧ sealT 3 xs = encTb xs := by
  have hl := tbB_len h
  have hc : sealC 3 xs = 0 := sealC_ok (listC_ok (by omega) (intsB_small (tb_all h) (by omega))) rfl
  exact ⟨hc, sealT_ok hc⟩
def tdB (s : ByteArray) : Bool := openB s 3 && tbB (openL s 3)
theorem tdB_parts {s : ByteArray} (h : tdB s = true) : openB s 3 = true ∧ tbB (openL s 3) = true := by
  simp only [tdB, Bool.and_eq_true] at h; exact h
def rzTo (xs : List Int) (n : Nat) : List Int := (List.range n).map fun i => xs.getD i 0
theorem rzTo_len (xs : List Int) (n : Nat) : (rzTo xs n).length = n := by simp [rzTo]
theorem rzTo_succ (xs : List Int) (n : Nat) : rzTo xs (n + 1) = rzTo xs n ++ [xs.getD n 0] := by simp [rzTo, List.range_succ]
def clTo (xs : List Int) (k : Nat) : List Int := (xs.take k).filterMap fun e => if 2 ≤ e then some (e - 2) else none
def clA (xs : List Int) : List Int := clTo xs xs.length
theorem clTo_data {xs : List Int} {k : Nat} (hk : k < xs.length) (h : 2 ≤ xs[k]) : clTo xs (k + 1) = clTo xs k ++ [xs[k] - 2] := by
  unfold clTo
  rw [List.take_succ_eq_append_getElem hk, List.filterMap_append]; simp [h]
theorem clTo_none {xs : List Int} {k : Nat} (hk : k < xs.length) (h : ¬ 2 ≤ xs[k]) : clTo xs (k + 1) = clTo xs k := by
  unfold clTo
  rw [List.take_succ_eq_append_getElem hk, List.filterMap_append]; simp [h]
theorem clTo_len (xs : List Int) (k : Nat) : (clTo xs k).length ≤ k := by
  unfold clTo
  refine Nat.le_trans (List.length_filterMap_le _ _) ?_
  rw [List.length_take]; omega
end Go.Proofs.YtbmkdbccdnbbjaaGreatDoor

namespace Go.Proofs.YtbmkdbccdnbbjaaGreatDoor
open Go.RowKit
set_option linter.unusedVariables false
set_option maxRecDepth 100000

structure Snp where
  name : ByteArray
  table : List Int
structure Img where
  refs : List Int
  table : List Int
  snaps : List Snp
  data : List Int

def nm1 (b : UInt8) : Bool := decide (97 ≤ b.toNat) && decide (b.toNat ≤ 122)
def snmB (t : ByteArray) : Bool := t.data.toList.all nm1 && betw (t.size : Int) 1 6
def incr (ns : List Int) (c : Int) : List Int := ns.set c.toNat (ns.getD c.toNat 0 + 1)
def cnt1T (ns : List Int) (t : List Int) : List Int := (clA t).foldl incr ns
def imTabs (m : Img) : List (List Int) := m.table :: m.snaps.map (·.table)
def imCnt (m : Img) : List Int := (imTabs m).foldl cnt1T zero24
theorem incr_len (ns : List Int) (c : Int) : (incr ns c).length = ns.length := by simp [incr]
theorem cnt1T_len (t : List Int) : ∀ ns : List Int, (cnt1T ns t).length = ns.length := by
  unfold cnt1T
  induction clA t with
  | nil => intro ns; rfl
  | cons c cs ih => intro ns; rw [List.foldl_cons, ih, incr_len]
theorem imCnt_len (m : Img) : (imCnt m).length = 24 := by
  unfold imCnt
  have h : ∀ (ts : List (List Int)) (ns : List Int), (ts.foldl cnt1T ns).length = ns.length := by
    intro ts
    induction ts with
    | nil => intro ns; rfl
    | cons t ts ih => intro ns; rw [List.foldl_cons, ih, cnt1T_len]
  rw [h]; rfl
def namesB (ss : List Snp) : Bool := decide ((ss.map (·.name)).Nodup)
def imFm (m : Img) : Bool := ctB m.refs && tbB m.table && decide (m.snaps.length ≤ 3) && decide (m.data.length = 24) && m.snaps.all (fun s => snmB s.name && tbB s.table) && namesB m.snaps && m.data.all numB
def onceB (t : List Int) : Bool := decide (clA t).Nodup
def clearB (m : Img) : Bool := (List.range 24).all fun i => decide (m.refs.getD i 0 = 0 → m.data.getD i 0 = 0)
def imB (m : Img) : Bool := imFm m && (imTabs m).all onceB && decide (imCnt m = m.refs) && clearB m

structure ImR (m : Img) : Prop where
  refs : ctB m.refs = true
  table : tbB m.table = true
  few : m.snaps.length ≤ 3
  len : m.data.length = 24
  snaps : ∀ s ∈ m.snaps, snmB s.name = true ∧ tbB s.table = true
  names : (m.snaps.map (·.name)).Nodup
  nums : ∀ n ∈ m.data, numB n = true
  once : ∀ t ∈ imTabs m, (clA t).Nodup
  cnt : imCnt m = m.refs
  clear : ∀ i, i < 24 → m.refs.getD i 0 = 0 → m.data.getD i 0 = 0
theorem imB_iff {m : Img} : imB m = true ↔ ImR m := by
  constructor
  · intro h
    simp only [imB, imFm, namesB, onceB, clearB, Bool.and_eq_true, decide_eq_true_eq, List.all_eq_true, List.mem_range] at h
    obtain ⟨⟨⟨⟨⟨⟨⟨⟨⟨h1, h2⟩, h3⟩, h4⟩, h5⟩, h6⟩, h7⟩, h8⟩, h9⟩, h10⟩ := h
    exact ⟨h1, h2, h3, h4, h5, h6, h7, h8, h9, h10⟩
  · intro h
    simp only [imB, imFm, namesB, onceB, clearB, Bool.and_eq_true, decide_eq_true_eq, List.all_eq_true, List.mem_range]
    exact ⟨⟨⟨⟨⟨⟨⟨⟨⟨h.refs, h.table⟩, h.few⟩, h.len⟩, h.snaps⟩, h.names⟩, h.nums⟩, h.once⟩, h.cnt⟩, h.clear⟩

def imDrop (m : Img) (e : Int) : Img :=
  if e < 2 then m else
    let c := (e - 2).toNat
    let r := m.refs.set c (m.refs.getD c 0 - 1)
    { m with refs := r, data := if m.refs.getD c 0 - 1 = 0 then m.data.set c 0 else m.data }
def imDrops (m : Img) (es : List Int) : Img := es.foldl imDrop m
theorem imDrop_refs (m : Img) (e : Int) : (imDrop m e).refs.length = m.refs.length := by unfold imDrop; split <;> simp
theorem imDrop_data (m : Img) (e : Int) : (imDrop m e).data.length = m.data.length := by
  unfold imDrop
  split
  · rfl
  · simp only; split <;> simp
theorem imDrop_table (m : Img) (e : Int) : (imDrop m e).table = m.table ∧ (imDrop m e).snaps = m.snaps := by unfold imDrop; split <;> exact ⟨rfl, rfl⟩
def imWrite (m : Img) (g : Nat) (v : Int) : Img × Int :=
  let e := m.table.getD g 0
  if 2 ≤ e ∧ m.refs.getD (e - 2).toNat 0 = 1 then ({ m with data := m.data.set (e - 2).toNat v }, 0)
  else if frN m.refs < m.refs.length then
    let c := frN m.refs
    let d := imDrop m e
    ({ d with refs := d.refs.set c 1, data := d.data.set c v, table := d.table.set g (2 + c) }, 0)
  else (m, 7)
def imZero (m : Img) (g : Nat) : Img := let d := imDrop m (m.table.getD g 0); { d with table := d.table.set g 1 }
def imResize (m : Img) (n : Nat) : Img := let d := imDrops m (m.table.drop n); { d with table := rzTo m.table n }
def imRaise (m : Img) (t : List Int) : Img := { m with refs := (clA t).foldl incr m.refs }
def imFind (m : Img) (name : ByteArray) : Nat := m.snaps.findIdx (fun s => decide (s.name = name))
def imCreate (m : Img) (name : ByteArray) : Img × Int :=
  if snmB name = true then
    (if imFind m name < m.snaps.length then (m, 8)
    else if m.snaps.length = 3 then (m, 6)
    else ({ imRaise m m.table with snaps := m.snaps ++ [⟨name, m.table⟩] }, 0))
  else (m, 12)
def imDelete (m : Img) (name : ByteArray) : Img × Int :=
  if imFind m name < m.snaps.length then ({ imDrops m ((m.snaps[imFind m name]?).elim [] (·.table)) with snaps := m.snaps.eraseIdx (imFind m name) }, 0)
  else (m, 5)
def imRevert (m : Img) (name : ByteArray) : Img × Int :=
  if imFind m name < m.snaps.length then
    let t := (m.snaps[imFind m name]?).elim [] (·.table)
    ({ imDrops (imRaise m t) m.table with table := t }, 0)
  else (m, 5)
def imVal (m : Img) (e : Int) : Int := if e < 2 then 0 else m.data.getD (e - 2).toNat 0

end Go.Proofs.YtbmkdbccdnbbjaaGreatDoor

namespace Go.Proofs.YtbmkdbccdnbbjaaGreatDoor
open Go.RowKit
set_option linter.unusedVariables false
set_option maxRecDepth 100000

def Sns (w : World) (ao : Option Addr) (ss : List Snp) : Prop := ∀ i (h : i < ss.length), ∃ b off tq tc, ao = some ⟨b, off, none⟩ ∧ w.cell? ⟨b, off + i * 2, none⟩ = some (.string ss[i].name) ∧ w.cell? ⟨b, off + i * 2 + 1, none⟩ = some (.slice tq ss[i].table.length tc) ∧ Is w tq ss[i].table ∧ ss[i].name.size ≤ maxLen ∧ ss[i].table.length ≤ maxLen
theorem Sns.below {w w' : World} {ao : Option Addr} {ss : List Snp} (h : Sns w ao ss) (hb : Below w.heap.size w w') : Sns w' ao ss := fun i hi => by
  obtain ⟨b, off, tq, tc, e, h0, h1, h2, h3, h4⟩ := h i hi
  have hl := World.block_lt_of_cell? _ _ h0
  exact ⟨b, off, tq, tc, e, (hb.cell (p := ⟨b, off + i * 2, none⟩) hl).trans h0, (hb.cell (p := ⟨b, off + i * 2 + 1, none⟩) hl).trans h1, h2.below hb, h3, h4⟩
structure Im4 where
  ro : Option Addr
  rc : Nat
  tq : Option Addr
  tc : Nat
  so : Option Addr
  sc : Nat
  dq : Option Addr
  dc : Nat
abbrev imV (a : Im4) (m : Img) : Value := .agg #[.slice a.ro m.refs.length a.rc, .slice a.tq m.table.length a.tc, .slice a.so m.snaps.length a.sc, .slice a.dq m.data.length a.dc]
abbrev snV (s : Snp) (tq : Option Addr) (tc : Nat) : Value := .agg #[.string s.name, .slice tq s.table.length tc]
structure ImS (w : World) (a : Im4) (m : Img) : Prop where
  r : Is w a.ro m.refs
  t : Is w a.tq m.table
  s : Sns w a.so m.snaps
  d : Is w a.dq m.data
theorem ImS.below {w w' : World} {a : Im4} {m : Img} (h : ImS w a m) (hb : Below w.heap.size w w') : ImS w' a m := ⟨h.r.below hb, h.t.below hb, h.s.below hb, h.d.below hb⟩
end Go.Proofs.YtbmkdbccdnbbjaaGreatDoor

namespace Go.Proofs.YtbmkdbccdnbbjaaGreatDoor
open Go.RowKit
set_option linter.unusedVariables false
set_option maxRecDepth 100000

structure OwnA (w : World) (B : Nat) (rs : List (Value × List Int)) : Prop where
  own : ∀ r ∈ rs, OwnN w B r.1 r.2
  apart : rs.Pairwise (fun a b => ∀ g, Own a.1 g → ¬ Own b.1 g)
theorem OwnN.ge {w : World} {B : Nat} {v : Value} {xs : List Int} (h : OwnN w B v xs) : ∀ k, Own v k → B ≤ k ∧ k < w.heap.size := by
  obtain ⟨ao, cap, rfl, ho⟩ := h
  exact ho.ge
theorem OwnN.keep {S : Nat → Prop} {w w' : World} {B : Nat} {v : Value} {xs : List Int} (h : OwnN w B v xs) (hk : Keep S w w') (hs : ∀ g, Own v g → ¬ S g) : OwnN w' B v xs := by
  obtain ⟨ao, cap, rfl, ho⟩ := h
  exact ⟨ao, cap, rfl, ho.keep hk hs⟩
theorem OwnA.below {w w' : World} {B : Nat} {rs : List (Value × List Int)} (h : OwnA w B rs) (hb : Below w.heap.size w w') : OwnA w' B rs := ⟨fun r hr => (h.own r hr).below hb, h.apart⟩
theorem OwnA.keep {S : Nat → Prop} {w w' : World} {B : Nat} {rs : List (Value × List Int)} (h : OwnA w B rs) (hk : Keep S w w') (hs : ∀ r ∈ rs, ∀ g, Own r.1 g → ¬ S g) : OwnA w' B rs := ⟨fun r hr => (h.own r hr).keep hk (hs r hr), h.apart⟩
theorem OwnA.base {w : World} {B B' : Nat} {rs : List (Value × List Int)} (h : OwnA w B rs) (hB : B' ≤ B) : OwnA w B' rs := ⟨fun r hr => (h.own r hr).base hB, h.apart⟩
theorem OwnA.nil (w : World) (B : Nat) : OwnA w B [] := ⟨fun _ h => (by cases h), List.Pairwise.nil⟩
theorem OwnA.snoc {w w' : World} {B : Nat} {rs : List (Value × List Int)} {v : Value} {xs : List Int} (h : OwnA w B rs) (hb : Below w.heap.size w w') (hv : OwnN w' w.heap.size v xs) (hB : B ≤ w.heap.size) : OwnA w' B (rs ++ [(v, xs)]) := by
  refine ⟨fun r hr => ?_, ?_⟩
  · rcases List.mem_append.1 hr with h1 | h1
    · exact (h.own r h1).below hb
    · rw [List.mem_singleton] at h1
      subst h1
      exact hv.base hB
  · rw [List.pairwise_append]
    refine ⟨h.apart, List.pairwise_singleton _ _, fun a ha b hb' g hg hg' => ?_⟩
    rw [List.mem_singleton] at hb'
    subst hb'
    have h1 := ((h.own a ha).ge g hg).2
    have h2 := (hv.ge g hg').1
    omega
def snC : List Snp → List Value → List Value
  | s :: ss, t :: ts => .string s.name :: t :: snC ss ts
  | _, _ => []
theorem snC_length : ∀ (ss : List Snp) (ts : List Value), ss.length = ts.length → (snC ss ts).length = ss.length * 2
  | [], [], _ => rfl
  | s :: ss, t :: ts, h => by
    have := snC_length ss ts (by simpa using h)
    simp only [snC, List.length_cons, this]; omega
theorem snC_snoc : ∀ (ss : List Snp) (ts : List Value) (s : Snp) (t : Value), ss.length = ts.length → snC (ss ++ [s]) (ts ++ [t]) = snC ss ts ++ [.string s.name, t]
  | [], [], s, t, _ => rfl
  | a :: ss, b :: ts, s, t, h => by
    have := snC_snoc ss ts s t (by simpa using h)
    simp only [List.cons_append, snC, this]
def imRows (a : Im4) (m : Img) (ts : List Value) : List (Value × List Int) := (.slice a.ro m.refs.length a.rc, m.refs) :: (.slice a.tq m.table.length a.tc, m.table) :: (.slice a.dq m.data.length a.dc, m.data) :: ts.zip (m.snaps.map (·.table))
def OwnS (w : World) (B e size : Nat) (v : Value) (n : Nat) (xs : List Value) : Prop := (n = 0 ∧ xs = [] ∧ ∃ ao c, v = .slice ao 0 c) ∨ (0 < n ∧ w.ownsRow B e size v n xs)
theorem OwnR.toS {w : World} {B e size n : Nat} {v : Value} {xs : List Value} (h : OwnR w B e size v n xs) : OwnS w B e size v n xs := h.imp (fun ⟨h1, h2, ao, h3⟩ => ⟨h1, h2, ao, 0, h3⟩) id
theorem OwnS.toR {w : World} {B e size n c : Nat} {ao : Option Addr} {xs : List Value} (h : OwnS w B e size (.slice ao n c) n xs) (hc : n = 0 → c = 0) : OwnR w B e size (.slice ao n c) n xs := h.imp (fun ⟨h1, h2, _⟩ => ⟨h1, h2, ao, by rw [h1, hc h1]⟩) id
theorem OwnS.as {w : World} {B e size n : Nat} {v : Value} {xs : List Value} (h : OwnS w B e size v n xs) : ∃ v', OwnR w B e size v' n xs ∧ (∀ k, Own v k ↔ Own v' k) := by
  rcases h with ⟨h1, h2, ao, c, rfl⟩ | h
  · exact ⟨.slice ao 0 0, .inl ⟨h1, h2, ao, rfl⟩, fun k => ⟨fun hk => absurd hk own_no, fun hk => absurd hk own_no⟩⟩
  · exact ⟨v, .inr h, fun _ => Iff.rfl⟩
theorem OwnS.keep {S : Nat → Prop} {w w' : World} {B e size n : Nat} {v : Value} {xs : List Value} (h : OwnS w B e size v n xs) (hk : Keep S w w') (hs : ∀ g, Own v g → ¬ S g) : OwnS w' B e size v n xs := by
  rcases h with h | h
  · exact .inl h
  · exact (OwnR.keep (.inr h) hk hs).toS
theorem OwnS.below {w w' : World} {B e size n : Nat} {v : Value} {xs : List Value} (h : OwnS w B e size v n xs) (hb : Below w.heap.size w w') : OwnS w' B e size v n xs :=
  h.keep (S := fun _ => False) (Keep.of_below hb) (fun _ _ h => h)
theorem OwnS.base {w : World} {B B' e size n : Nat} {v : Value} {xs : List Value} (h : OwnS w B e size v n xs) (hB : B' ≤ B) : OwnS w B' e size v n xs := by
  rcases h with h | h
  · exact .inl h
  · exact (OwnR.base (.inr h) hB).toS
theorem OwnS.ge {w : World} {B e size n : Nat} {v : Value} {xs : List Value} (h : OwnS w B e size v n xs) : ∀ k, Own v k → B ≤ k ∧ k < w.heap.size := fun k hk => by
  obtain ⟨v', h1, h2⟩ := h.as
  exact h1.ge k ((h2 k).1 hk)
theorem OwnS.other {w : World} {B e size n : Nat} {v : Value} {xs : List Value} (h : OwnS w B e size v n xs) {x t : Nat} {c : Array Value} {f : Nat × Nat} (hx : w.heap[x]? = some (.cells c t f)) (he : t ≠ e) : ¬ Own v x := fun hk => by
  obtain ⟨v', h1, h2⟩ := h.as
  exact h1.other hx he ((h2 x).1 hk)
theorem OwnS.setCell {w : World} {B e size n : Nat} {v : Value} {xs : List Value} (h : OwnS w B e size v n xs) {a : Addr} (ha : a.block < B) (u : Value) : OwnS (w.setCell a u) B e size v n xs := by
  rcases h with h | h
  · exact .inl h
  · exact (OwnR.setCell (.inr h) ha u).toS
theorem OwnS.row {w : World} {B e size n : Nat} {v : Value} {xs : List Value} (h : OwnS w B e size v n xs) (h0 : 0 < n) : w.ownsRow B e size v n xs := by
  rcases h with ⟨h1, _⟩ | h
  · omega
  · exact h.2
theorem own_apartS {w : World} {B B' e e' size size' n n' : Nat} {v v' : Value} {xs xs' : List Value} (h : OwnR w B e size v n xs) (h' : OwnS w B' e' size' v' n' xs') (he : e ≠ e') : ∀ g, Own v g → ¬ Own v' g := fun g hg hg' => by
  obtain ⟨v2, h1, h2⟩ := h'.as
  exact own_apart h h1 he g hg ((h2 g).1 hg')
theorem own_apartT {w : World} {B B' e e' size size' n n' : Nat} {v v' : Value} {xs xs' : List Value} (h : OwnS w B e size v n xs) (h' : OwnR w B' e' size' v' n' xs') (he : e ≠ e') : ∀ g, Own v g → ¬ Own v' g := fun g hg hg' => by
  obtain ⟨v2, h1, h2⟩ := h.as
  exact own_apart h1 h' he g ((h2 g).1 hg) hg'
structure OwnIm (w : World) (B : Nat) (a : Im4) (m : Img) (ts : List Value) : Prop where
  len : m.snaps.length = ts.length
  s : OwnS w B 79 2 (.slice a.so m.snaps.length a.sc) m.snaps.length (snC m.snaps ts)
  rows : OwnA w B (imRows a m ts)
def OwnF (w : World) (B : Nat) (a : Im4) (m : Img) (ts : List Value) : Prop := OwnIm w B a m ts ∧ (m.snaps.length = 0 → a.sc = 0)
theorem OwnR.cap0 {w : World} {B e size n c : Nat} {ao : Option Addr} {xs : List Value} (h : OwnR w B e size (.slice ao n c) n xs) (h0 : n = 0) : c = 0 := by
  rcases h with ⟨_, _, ao', e0⟩ | ⟨hp, _⟩
  · simp only [Value.slice.injEq] at e0
    exact e0.2.2
  · omega
theorem OwnIm.below {w w' : World} {B : Nat} {a : Im4} {m : Img} {ts : List Value} (h : OwnIm w B a m ts) (hb : Below w.heap.size w w') : OwnIm w' B a m ts := ⟨h.len, h.s.below hb, h.rows.below hb⟩

end Go.Proofs.YtbmkdbccdnbbjaaGreatDoor

namespace Go.Proofs.YtbmkdbccdnbbjaaGreatDoor
open Go.RowKit
set_option linter.unusedVariables false
set_option maxRecDepth 100000

end Go.Proofs.YtbmkdbccdnbbjaaGreatDoor

namespace Go.Proofs.YtbmkdbccdnbbjaaGreatDoor
open Go.RowKit
set_option linter.unusedVariables false
set_option maxRecDepth 100000

end Go.Proofs.YtbmkdbccdnbbjaaGreatDoor

namespace Go.Proofs.YtbmkdbccdnbbjaaGreatDoor
open Go.RowKit
set_option linter.unusedVariables false
set_option maxRecDepth 100000

end Go.Proofs.YtbmkdbccdnbbjaaGreatDoor

namespace Go.Proofs.YtbmkdbccdnbbjaaGreatDoor
open Go.RowKit
set_option linter.unusedVariables false
set_option maxRecDepth 100000

theorem infoSn : (Tryz.prog.info? 79).map (fun i => (i.zero, i.size, i.bytes)) = some (some (.agg #[.string ⟨#[]⟩, .slice none 0 0]), 2, 40) := by kernel_rfl
end Go.Proofs.YtbmkdbccdnbbjaaGreatDoor

namespace Go.Proofs.YtbmkdbccdnbbjaaGreatDoor
open Go.RowKit
set_option linter.unusedVariables false
set_option maxRecDepth 100000

theorem OwnA.perm {w : World} {B : Nat} {rs qs : List (Value × List Int)} (h : OwnA w B rs) (hp : rs.Perm qs) : OwnA w B qs :=
  ⟨fun r hr => h.own r (hp.mem_iff.2 hr), (hp.pairwise_iff (fun {a b} hab g hb ha => hab g ha hb)).1 h.apart⟩
def VarM (w : World) (x : Nat) (t : TypeId) (v0 v1 v2 v3 : Value) : Prop := w.heap[x]? = some (.cells #[v0, v1, v2, v3] t (0, 0))
theorem VarM.lt {w : World} {x t : Nat} {v0 v1 v2 v3 : Value} (k : VarM w x t v0 v1 v2 v3) : x < w.heap.size := (Array.getElem?_eq_some_iff.1 k).1
theorem VarM.cells {w : World} {x t : Nat} {v0 v1 v2 v3 : Value} (k : VarM w x t v0 v1 v2 v3) : w.cell? ⟨x, 0, none⟩ = some v0 ∧ w.cell? ⟨x, 1, none⟩ = some v1 ∧ w.cell? ⟨x, 2, none⟩ = some v2 ∧ w.cell? ⟨x, 3, none⟩ = some v3 := ⟨by rw [Joins.cell_of_block k]; rfl, by rw [Joins.cell_of_block k]; rfl, by rw [Joins.cell_of_block k]; rfl, by rw [Joins.cell_of_block k]; rfl⟩
theorem VarM.free {w : World} {x t : Nat} {v0 v1 v2 v3 : Value} (k : VarM w x t v0 v1 v2 v3) : w.frozen? ⟨x, 0, none⟩ = false ∧ w.frozen? ⟨x, 1, none⟩ = false ∧ w.frozen? ⟨x, 2, none⟩ = false ∧ w.frozen? ⟨x, 3, none⟩ = false := ⟨Joins.unfrozen_of_block k 0, Joins.unfrozen_of_block k 1, Joins.unfrozen_of_block k 2, Joins.unfrozen_of_block k 3⟩
theorem VarM.below {w w' : World} {x t : Nat} {v0 v1 v2 v3 : Value} (k : VarM w x t v0 v1 v2 v3) (hb : Below w.heap.size w w') : VarM w' x t v0 v1 v2 v3 := by
  unfold VarM; rw [hb.block x k.lt]; exact k
theorem VarM.new (w : World) (t : TypeId) (v0 v1 v2 v3 : Value) : VarM (w.alloc (.cells #[v0, v1, v2, v3] t)) w.heap.size t v0 v1 v2 v3 := heap_alloc_new w _
theorem VarM.other {w : World} {x t : Nat} {v0 v1 v2 v3 : Value} (h : VarM w x t v0 v1 v2 v3) {p : Addr} (hp : x ≠ p.block) (u : Value) : VarM (w.setCell p u) x t v0 v1 v2 v3 := by
  unfold VarM; rw [Below.heap_setCell w p u x hp]; exact h
theorem VarM.set0 {w : World} {x t : Nat} {v0 v1 v2 v3 : Value} (h : VarM w x t v0 v1 v2 v3) (u : Value) : VarM (w.setCell ⟨x, 0, none⟩ u) x t u v1 v2 v3 := Joins.block_setCell (i := 0) h u
theorem VarM.set1 {w : World} {x t : Nat} {v0 v1 v2 v3 : Value} (h : VarM w x t v0 v1 v2 v3) (u : Value) : VarM (w.setCell ⟨x, 1, none⟩ u) x t v0 u v2 v3 := Joins.block_setCell (i := 1) h u
theorem VarM.set2 {w : World} {x t : Nat} {v0 v1 v2 v3 : Value} (h : VarM w x t v0 v1 v2 v3) (u : Value) : VarM (w.setCell ⟨x, 2, none⟩ u) x t v0 v1 u v3 := Joins.block_setCell (i := 2) h u
theorem VarM.set3 {w : World} {x t : Nat} {v0 v1 v2 v3 : Value} (h : VarM w x t v0 v1 v2 v3) (u : Value) : VarM (w.setCell ⟨x, 3, none⟩ u) x t v0 v1 v2 u := Joins.block_setCell (i := 3) h u
theorem VarM.at {w : World} {x y t : Nat} {v0 v1 v2 v3 : Value} (h : VarM w x t v0 v1 v2 v3) (e : x = y) : VarM w y t v0 v1 v2 v3 := e ▸ h
end Go.Proofs.YtbmkdbccdnbbjaaGreatDoor

namespace Go.Proofs.YtbmkdbccdnbbjaaGreatDoor
open Go.RowKit
set_option linter.unusedVariables false
set_option maxRecDepth 100000

end Go.Proofs.YtbmkdbccdnbbjaaGreatDoor

namespace Go.Proofs.YtbmkdbccdnbbjaaGreatDoor
open Go.RowKit
set_option linter.unusedVariables false
set_option maxRecDepth 100000

end Go.Proofs.YtbmkdbccdnbbjaaGreatDoor

namespace Go.Proofs.YtbmkdbccdnbbjaaGreatDoor
open Go.RowKit
set_option linter.unusedVariables false
set_option maxRecDepth 100000

theorem snC_get : ∀ {cs : List Snp} {ts : List Value} {j : Nat} {s : Snp} {t : Value}, cs[j]? = some s → ts[j]? = some t → (snC cs ts)[j * 2]? = some (.string s.name) ∧ (snC cs ts)[j * 2 + 1]? = some t
  | [], _, _, _, _, h, _ => by simp at h
  | _ :: _, [], _, _, _, _, h => by simp at h
  | c :: cs, b :: ts, 0, s, t, h, h' => by
    simp at h h'
    subst h; subst h'
    exact ⟨rfl, rfl⟩
  | c :: cs, b :: ts, j + 1, s, t, h, h' => by
    rw [List.getElem?_cons_succ] at h h'
    have := snC_get h h'
    rw [show (j + 1) * 2 = j * 2 + 1 + 1 by omega]
    exact this
theorem OwnA.turn {w w' : World} {B : Nat} {rs : List (Value × List Int)} {j : Nat} {v : Value} {xs ys : List Int} (h : OwnA w B rs) (hj : rs[j]? = some (v, xs)) (hk : Keep (Own v) w w') (hn : OwnN w' B v ys) : OwnA w' B (rs.set j (v, ys)) := by
  obtain ⟨hjl, hje⟩ := List.getElem?_eq_some_iff.1 hj
  refine ⟨fun r hr => ?_, ?_⟩
  · obtain ⟨i, hi, rfl⟩ := List.mem_iff_getElem.1 hr
    rw [List.length_set] at hi
    rw [List.getElem_set]
    split
    · exact hn
    · rename_i hne
      refine (h.own _ (List.getElem_mem hi)).keep hk (fun g hg hv => ?_)
      have hp := List.pairwise_iff_getElem.1 h.apart
      rcases Nat.lt_or_gt_of_ne hne with hlt | hlt
      · exact hp j i hjl hi hlt g (by rw [hje]; exact hv) hg
      · exact hp i j hi hjl hlt g hg (by rw [hje]; exact hv)
  · have e : (rs.set j (v, ys)).map Prod.fst = rs.map Prod.fst := by
      rw [List.map_set]
      have : (rs.map Prod.fst)[j]'(by simpa using hjl) = v := by rw [List.getElem_map, hje]
      conv => lhs; rw [show (v, ys).1 = (rs.map Prod.fst)[j]'(by simpa using hjl) from this.symm]
      rw [List.set_getElem_self]
    have hp := List.pairwise_map (f := Prod.fst) (R := fun a b => ∀ g, Own a g → ¬ Own b g) |>.2 h.apart
    rw [← e] at hp
    exact List.pairwise_map.1 hp
theorem OwnR.row {w : World} {B e size n : Nat} {v : Value} {xs : List Value} (h : OwnR w B e size v n xs) (hp : 0 < n) : w.ownsRow B e size v n xs := by
  rcases h with ⟨h0, _⟩ | ⟨_, h⟩
  · omega
  · exact h

end Go.Proofs.YtbmkdbccdnbbjaaGreatDoor

namespace Go.Proofs.YtbmkdbccdnbbjaaGreatDoor
open Go.RowKit
set_option linter.unusedVariables false
set_option maxRecDepth 100000

end Go.Proofs.YtbmkdbccdnbbjaaGreatDoor

namespace Go.Proofs.YtbmkdbccdnbbjaaGreatDoor
open Go.RowKit
set_option linter.unusedVariables false
set_option maxRecDepth 100000

theorem OwnN.row {w : World} {B : Nat} {v : Value} {xs : List Int} (h : OwnN w B v xs) : OwnR w B 3 1 v xs.length (intV xs) := by
  obtain ⟨qo, qa, rfl, ho⟩ := h
  exact ho
theorem OwnN.mk' {w : World} {B n c : Nat} {ao : Option Addr} {xs : List Int} (h : OwnR w B 3 1 (.slice ao n c) n (intV xs)) (hn : xs.length = n) : OwnN w B (.slice ao n c) xs := by
  subst hn
  exact ⟨ao, c, rfl, h⟩
theorem blk_belowI {w w' : World} {k : Nat} {o : Obj} (h : w.heap[k]? = some o) (hb : Below w.heap.size w w') : w'.heap[k]? = some o := (hb.block k (Array.getElem?_eq_some_iff.1 h).1).trans h
theorem OwnA.retail {w w' : World} {B : Nat} {r0 r1 r2 : Value × List Int} {qs qs' : List (Value × List Int)} {S : Nat → Prop} (h : OwnA w B (r0 :: r1 :: r2 :: qs)) (hk : Keep S w w') (hs : ∀ r ∈ [r0, r1, r2], ∀ g, Own r.1 g → ¬ S g) (hq : OwnA w' B qs') (he : qs'.map Prod.fst = qs.map Prod.fst) : OwnA w' B (r0 :: r1 :: r2 :: qs') := by
  refine ⟨fun r hr => ?_, ?_⟩
  · simp only [List.mem_cons] at hr
    rcases hr with e | e | e | hr
    · subst e; exact (h.own _ (by simp)).keep hk (hs _ (by simp))
    · subst e; exact (h.own _ (by simp)).keep hk (hs _ (by simp))
    · subst e; exact (h.own _ (by simp)).keep hk (hs _ (by simp))
    · exact hq.own r hr
  · have hp := List.pairwise_map (f := Prod.fst) (R := fun a b => ∀ g, Own a g → ¬ Own b g) |>.2 h.apart
    refine List.pairwise_map (f := Prod.fst) (R := fun a b => ∀ g, Own a g → ¬ Own b g) |>.1 ?_
    simp only [List.map_cons, he] at hp ⊢
    exact hp
theorem zip_fst {α β : Type} : ∀ (xs : List α) (ys : List β), xs.length = ys.length → (xs.zip ys).map Prod.fst = xs
  | [], [], _ => rfl
  | x :: xs, y :: ys, h => by rw [List.zip_cons_cons, List.map_cons, zip_fst xs ys (by simpa using h)]
def ImB (a : Im4) (m : Img) (ts : List Value) (g : Nat) : Prop := Own (.slice a.ro m.refs.length a.rc) g ∨ Own (.slice a.tq m.table.length a.tc) g ∨ Own (.slice a.dq m.data.length a.dc) g ∨ Own (.slice a.so m.snaps.length a.sc) g ∨ ∃ t ∈ ts, Own t g
theorem OwnIm.ge {w : World} {B : Nat} {a : Im4} {m : Img} {ts : List Value} (h : OwnIm w B a m ts) : ∀ g, ImB a m ts g → B ≤ g ∧ g < w.heap.size := by
  intro g hg
  rcases hg with h1 | h1 | h1 | h1 | ⟨t, ht, h1⟩
  · exact (h.rows.own (.slice a.ro m.refs.length a.rc, m.refs) (by simp [imRows])).ge g h1
  · exact (h.rows.own (.slice a.tq m.table.length a.tc, m.table) (by simp [imRows])).ge g h1
  · exact (h.rows.own (.slice a.dq m.data.length a.dc, m.data) (by simp [imRows])).ge g h1
  · exact h.s.ge g h1
  · have hm : t ∈ (ts.zip (m.snaps.map (·.table))).map Prod.fst := by rw [zip_fst _ _ (by rw [List.length_map, h.len])]; exact ht
    obtain ⟨p, hp, rfl⟩ := List.mem_map.1 hm
    exact (h.rows.own p (by simp [imRows, hp])).ge g h1
theorem OwnIm.keep {w w' : World} {B : Nat} {a : Im4} {m : Img} {ts : List Value} {S : Nat → Prop} (h : OwnIm w B a m ts) (hk : Keep S w w') (hs : ∀ g, ImB a m ts g → ¬ S g) : OwnIm w' B a m ts := by
  refine ⟨h.len, h.s.keep hk (fun g hg => hs g (.inr (.inr (.inr (.inl hg))))), h.rows.keep hk (fun r hr g hg => hs g ?_)⟩
  unfold imRows at hr
  simp only [List.mem_cons] at hr
  rcases hr with rfl | rfl | rfl | hr
  · exact .inl hg
  · exact .inr (.inl hg)
  · exact .inr (.inr (.inl hg))
  · exact .inr (.inr (.inr (.inr ⟨r.1, (List.of_mem_zip (a := r.1) (b := r.2) hr).1, hg⟩)))
theorem OwnIm.base {w : World} {B B' : Nat} {a : Im4} {m : Img} {ts : List Value} (h : OwnIm w B a m ts) (hB : B' ≤ B) : OwnIm w B' a m ts := ⟨h.len, h.s.base hB, h.rows.base hB⟩

end Go.Proofs.YtbmkdbccdnbbjaaGreatDoor

namespace Go.Proofs.YtbmkdbccdnbbjaaGreatDoor
open Go.RowKit
set_option linter.unusedVariables false
set_option maxRecDepth 100000

theorem nums_no {xs : List Int} {k : Nat} (hk : k < xs.length) (h : numB xs[k] = false) : xs.all numB = false := all_not (p := numB) hk h
theorem nums_all {xs : List Int} (h : ∀ j (hj : j < xs.length), numB xs[j] = true) : xs.all numB = true := all_of (p := numB) (fun i hi _ => h i hi)

set_option maxHeartbeats 800000 in
theorem areNumbers_any (ao : Option Addr) (cap : Nat) (xs : List Int) (w : World) (hl : xs.length ≤ maxLen) (hc : Is w ao xs) :
    Calls Tryz.prog 177 #[.slice ao xs.length cap] w fun e w' => e = .returned (.bool (xs.all numB)) ∧ w' = w := by
  have HC := hide hc
  clear hc
  unfold maxLen at hl
  obtain ⟨R, HR⟩ : ∃ R, Hid (R = xs.all numB) := ⟨_, hide rfl⟩
  rw [← unhide HR]
  go_enter Tryz.func177, Tryz.ntmps177
  go_wp2
  go_loop [7] (fun i => ∃ k : Nat, k ≤ xs.length ∧ i = .int .i64 k ∧ Hid (∀ j (h : j < xs.length), j < k → numB xs[j] = true)) (fun i => xs.length - (intOf i).toNat)
  case atStart => exact ⟨0, Nat.zero_le _, rfl, hide (fun j _ h => by omega)⟩
  case round =>
    obtain ⟨k, hk, rfl, HA⟩ := hrel
    by_cases hlt : k < xs.length
    · obtain ⟨b, off, rfl, hc⟩ := unhide HC k hlt
      cases hn : numB xs[k]
      · have HF := hide (nums_no hlt hn)
        go_wp2_with (go_at_call 119; refine (isNumber_any _ _).mono ?_; rintro e w' ⟨rfl, hw⟩; replace hw := hw.symm; subst hw; rw [hn])
        go_ret
        exact ⟨ret_bool (by rw [unhide HR, unhide HF]), rfl⟩
      · have HN := hide (all_succ hlt (unhide HA) hn)
        go_wp2_with (go_at_call 119; refine (isNumber_any _ _).mono ?_; rintro e w' ⟨rfl, hw⟩; replace hw := hw.symm; subst hw; rw [hn])
        go_round
        case rel => exact ⟨k + 1, by omega, by go_num, HN⟩
        case measure => simp [intOf]; omega
    · have HF := hide (nums_all (fun j h => unhide HA j h (by omega)))
      go_wp2
      go_ret
      exact ⟨ret_bool (by rw [unhide HR, unhide HF]), rfl⟩

end Go.Proofs.YtbmkdbccdnbbjaaGreatDoor

namespace Go.Proofs.YtbmkdbccdnbbjaaGreatDoor
open Go.RowKit
set_option linter.unusedVariables false
set_option maxRecDepth 100000

theorem intsB_all_no {xs : List Int} (h : xs.all numB = false) : intsB xs = false := by rw [intsB, allB, h]; rfl
theorem intsB_all {xs : List Int} (hl : xs.length ≤ 16) (h : xs.all numB = true) : intsB xs = true := by rw [intsB, allB, h, decide_eq_true hl]; rfl

set_option maxHeartbeats 800000 in
theorem listFault_any (ao : Option Addr) (cap : Nat) (xs : List Int) (w : World) (hl : xs.length ≤ 1048576) (hc : Is w ao xs) :
    Calls Tryz.prog 182 #[.slice ao xs.length cap] w fun e w' => e = .returned (.int .i64 (listC xs)) ∧ w' = w := by
  have HC := hide hc
  clear hc
  by_cases h1 : 4096 < xs.length
  · have HF := hide (listC_long h1)
    go_enter Tryz.func182, Tryz.ntmps182
    go_wp2
    go_ret
    exact ⟨ret_int (unhide HF).symm, rfl⟩
  by_cases h2 : 16 < xs.length
  · have HF := hide (listC_bad h1 (intsB_long h2))
    go_enter Tryz.func182, Tryz.ntmps182
    go_wp2
    go_ret
    exact ⟨ret_int (unhide HF).symm, rfl⟩
  cases hn : xs.all numB
  · have HF := hide (listC_bad h1 (intsB_all_no hn))
    go_enter Tryz.func182, Tryz.ntmps182
    go_wp2_with (go_at_call 177; refine (areNumbers_any _ _ _ _ (by unfold maxLen; omega) (unhide HC)).mono ?_; rintro e w' ⟨rfl, hw⟩; replace hw := hw.symm; subst hw; rw [hn])
    go_ret
    exact ⟨ret_int (unhide HF).symm, rfl⟩
  · have HF := hide (listC_ok (xs := xs) h1 (intsB_all (by omega) hn))
    go_enter Tryz.func182, Tryz.ntmps182
    go_wp2_with (go_at_call 177; refine (areNumbers_any _ _ _ _ (by unfold maxLen; omega) (unhide HC)).mono ?_; rintro e w' ⟨rfl, hw⟩; replace hw := hw.symm; subst hw; rw [hn])
    go_ret
    exact ⟨ret_int (unhide HF).symm, rfl⟩

end Go.Proofs.YtbmkdbccdnbbjaaGreatDoor

namespace Go.Proofs.YtbmkdbccdnbbjaaGreatDoor
set_option linter.unusedVariables false

theorem ret_si {a b : ByteArray} {c d : Int} (h : a = b) (k : c = d) : Ending.returned (.tuple #[.string a, .int .i64 c]) = .returned (.tuple #[.string b, .int .i64 d]) := by rw [h, k]

end Go.Proofs.YtbmkdbccdnbbjaaGreatDoor
