import Derived.Test.YtefnapcegeojoaaGreatDoorRows
import Derived.Test.YtefnapcegeojoaaGreatDoorLReleasePart1
import Derived.Test.YtefnapcegeojoaaGreatDoorLReleasePart2
import Derived.Test.YtefnapcegeojoaaGreatDoorLReleasePart3
import Derived.WalkKit
import Derived.WalkSpells
import Derived.KernelRfl
import Derived.Lib.SmallJoins

namespace Go.Proofs.YtefnapcegeojoaaGreatDoor
open Go.RowKit
set_option linter.unusedVariables false
set_option maxRecDepth 100000

theorem l04Host_any (h : Int) (w : World) : Calls Tryz.prog 39 #[.int .i64 h] w fun e w' => e = .returned (.bool (inB h 0 3)) ∧ w' = w := by
  go_enter Tryz.func39, Tryz.ntmps39
  go_wp2_with fail
  refine (l01In_num h 0 3 _).mono ?_
  rintro e w1 ⟨rfl, rfl⟩
  go_wp2
  go_ret
  exact ⟨rfl, rfl⟩

theorem d3_nums {h g s : Int} (hd : dltB h g s = true) : ∀ j (hj : j < [h, g, s].length), 0 ≤ [h, g, s][j] ∧ [h, g, s][j] ≤ 2147483647 := by
  obtain ⟨h1, h2, h3⟩ := dltB_iff.1 hd
  intro j hj
  have hj' : j < 3 := hj
  rcases (show j = 0 ∨ j = 1 ∨ j = 2 by omega) with rfl | rfl | rfl <;> simp <;> omega
theorem is3 (w : World) (n : Nat) (t : TypeId) (a b c : Int) (hn : w.heap.size = n) : Is (w.alloc (.cells #[.int .i64 a, .int .i64 b, .int .i64 c] t)) (some ⟨n, 0, none⟩) [a, b, c] := by
  subst hn
  intro i hi
  have hi' : i < 3 := hi
  refine ⟨w.heap.size, 0, rfl, ?_⟩
  rcases (show i = 0 ∨ i = 1 ∨ i = 2 by omega) with rfl | rfl | rfl <;> simp [go_sem]

end Go.Proofs.YtefnapcegeojoaaGreatDoor

namespace Go.Proofs.YtefnapcegeojoaaGreatDoor
open Go.RowKit
set_option linter.unusedVariables false
set_option maxRecDepth 100000

set_option maxHeartbeats 1600000 in
theorem leaderOK_spec (x : Ld) (w : World) : Calls Tryz.prog 50 #[lV x] w fun e w' => e = .returned (.bool (ldB x)) ∧ Below w.heap.size w w' := by
  obtain ⟨v, o, g⟩ := x
  go_enter Tryz.func50, Tryz.ntmps50
  go_wp2_with fail
  refine (l01In_num v 0 1000000 _).mono ?_
  rintro e w1 ⟨rfl, rfl⟩
  by_cases h1 : inB v 0 1000000 = false
  · have hr : Hid (ldB ⟨v, o, g⟩ = false) := hide (by simp [ldB, h1])
    go_wp2
    go_ret
    rw [unhide hr]
    exact ⟨rfl, Joins.below_alloc1 _ _⟩
  rw [Bool.not_eq_false] at h1
  by_cases hn : o = -1 ∧ g = 0
  · obtain ⟨hn1, hn2⟩ := hn
    have hr : Hid (ldB ⟨v, o, g⟩ = true) := hide (by simp [ldB, h1, hn1, hn2])
    have hb1 : (o == -1) = true := beq_iff_eq.2 hn1
    have hb2 : (g == 0) = true := beq_iff_eq.2 hn2
    clear hn1 hn2
    go_wp2
    go_ret
    rw [unhide hr]
    exact ⟨rfl, Joins.below_alloc1 _ _⟩
  have hr : Hid (ldB ⟨v, o, g⟩ = (decide (0 < v) && (inB o 0 3 && inB g 1 1000000))) := hide (by
    have : (decide (o = -1) && decide (g = 0)) = false := by simpa using hn
    simp [ldB, h1, this])
  rcases (show ((o == -1) = false) ∨ ((o == -1) = true ∧ (g == 0) = false) by simp only [beq_eq_false_iff_ne, beq_iff_eq]; omega) with ho | ⟨ho, hg⟩
  all_goals
    clear hn
    by_cases h2 : 0 < v
    · have hr2 : Hid (ldB ⟨v, o, g⟩ = (inB o 0 3 && inB g 1 1000000)) := hide (by rw [unhide hr]; simp [h2])
      go_wp2_with fail
      refine (l04Host_any o _).mono ?_
      rintro e w1 ⟨rfl, rfl⟩
      by_cases h3 : inB o 0 3 = false
      · have hr3 : Hid (ldB ⟨v, o, g⟩ = false) := hide (by rw [unhide hr2]; simp [h3])
        go_wp2
        go_ret
        rw [unhide hr3]
        exact ⟨rfl, Joins.below_alloc1 _ _⟩
      rw [Bool.not_eq_false] at h3
      have hr3 : Hid (ldB ⟨v, o, g⟩ = inB g 1 1000000) := hide (by rw [unhide hr2]; simp [h3])
      go_wp2_with fail
      refine (l01In_num g 1 1000000 _).mono ?_
      rintro e w1 ⟨rfl, rfl⟩
      go_wp2
      go_ret
      rw [unhide hr3]
      exact ⟨rfl, Joins.below_alloc1 _ _⟩
    · have hr2 : Hid (ldB ⟨v, o, g⟩ = false) := hide (by rw [unhide hr]; simp [h2])
      go_wp2
      go_ret
      rw [unhide hr2]
      exact ⟨rfl, Joins.below_alloc1 _ _⟩

set_option maxHeartbeats 1600000 in
theorem l06Encode_ld (x : Ld) (w : World) (hd : ldB x = true) : Calls Tryz.prog 54 #[lV x] w fun e w' => e = .returned (.string (encL x)) ∧ Below w.heap.size w w' := by
  have wr1 : IntKind.i64.wrap (x.own + 1) = x.own + 1 := by have := ldB_lo hd; rw [IntKind.wrap_i64]; omega
  have HD := hide (l3_nums hd)
  clear hd
  go_enter Tryz.func54, Tryz.ntmps54
  go_wp2_with fail
  refine (l02Seal_any 6 _ 3 [x.ver, x.own + 1, x.gen] _ (by decide) (by simp) (unhide HD) (is3 _ _ _ _ _ _ (by simp))).mono ?_
  rintro e w1 ⟨rfl, hb⟩
  have HB := hide hb
  clear hb
  go_wp2
  go_ret
  exact ⟨rfl, fr (Joins.below_alloc2 _ _ _) (unhide HB)⟩

end Go.Proofs.YtefnapcegeojoaaGreatDoor

namespace Go.Proofs.YtefnapcegeojoaaGreatDoor
open Go.RowKit
set_option linter.unusedVariables false
set_option maxRecDepth 100000

set_option maxHeartbeats 1600000 in
theorem l06Decode_any (t : ByteArray) (w : World) (hs : t.size ≤ 65536) : Calls Tryz.prog 96 #[.string t] w fun e w' => e = .returned (.tuple #[lV (ldK t), .bool (ldD t)]) ∧ Below w.heap.size w w' := by
  have HA := hide (Joins.below_alloc1 w (.cells #[.int .i64 0, .int .i64 0, .int .i64 0] 30))
  have HV := hide (VarT.new w 30 0 0 0)
  go_enter Tryz.func96, Tryz.ntmps96
  go_wp2_with fail
  refine (l02Open_any t 6 _ hs).mono ?_
  rintro e w1 ⟨v, rfl, ⟨qo, qa, rfl, ho⟩, hb⟩
  have HB := hide (fr (unhide HA) hb)
  have HB1 := hide hb
  have HO := hide ho
  obtain ⟨hc0, hc1, hc2⟩ := ((unhide HV).below hb).cells
  obtain ⟨hf0, hf1, hf2⟩ := ((unhide HV).below hb).free
  have HR := hide (fun u v x => below3 (unhide HB) (Nat.le_refl _) 0 1 2 u v x)
  clear hb ho
  by_cases hb : openB t 6 = false
  · have HE := hide (ldD_open hb)
    go_wp2
    refine bodyPost_ret (v := .tuple #[lV (ldN 0), .bool false]) (by simp [results, Tryz.results96, go_sem, hc0, hc1, hc2, ldN]) rfl ⟨?_, unhide HR _ _ _⟩
    exact ret_lb (ld_no (unhide HE)).symm (unhide HE).symm
  rw [Bool.not_eq_false] at hb
  by_cases h3 : (openL t 6).length = 3
  · obtain ⟨a, b, c, hl⟩ := three h3
    have wr1 := open_mid hb hl
    have HL := hide hl
    have hI := ownRN (unhide HO)
    rw [hl] at hI
    obtain ⟨g, off, rfl, hi0⟩ := hI 0 (by simp)
    obtain ⟨g', off', he, hi1⟩ := hI 1 (by simp)
    cases he
    obtain ⟨g', off', he, hi2⟩ := hI 2 (by simp)
    cases he
    simp only [List.getElem_cons_zero, List.getElem_cons_succ, Nat.add_zero] at hi0 hi1 hi2
    have hg := World.block_lt_of_cell? _ _ hi0
    clear hI
    go_wp2_with fail
    have HA2 := hide (Joins.below_alloc1 w1 (.cells #[.int .i64 a, .int .i64 (b - 1), .int .i64 c] 30)).drew
    have HV2 := hide (((unhide HV).below (unhide HB1)).below (unhide HA2))
    have HV3 : Hid (VarT (w1.alloc (.cells #[.int .i64 a, .int .i64 (b - 1), .int .i64 c] 30)).drew w1.heap.size 30 a (b - 1) c) := hide ((VarT.new w1 30 a (b - 1) c).below (Below.refl _ _).drew)
    have HB2 := hide (fr (unhide HB) (unhide HA2))
    clear hc0 hc1 hc2 hf0 hf1 hf2 HR
    go_region
    go_wp2_with fail
    refine (leaderOK_spec ⟨a, b - 1, c⟩ _).mono ?_
    rintro e w2 ⟨rfl, hb2⟩
    have HB3 := hide (fr (unhide HB2) hb2)
    obtain ⟨hc0, hc1, hc2⟩ := ((unhide HV2).below hb2).cells
    obtain ⟨hf0, hf1, hf2⟩ := ((unhide HV2).below hb2).free
    obtain ⟨hx0, hx1, hx2⟩ := ((unhide HV3).below hb2).cells
    have HR := hide (fun u v x => below3 (unhide HB3) (Nat.le_refl _) 0 1 2 u v x)
    have HE := hide (ldD_at hb (unhide HL))
    clear hb2 hi0 hi1 hi2
    by_cases hd : ldB ⟨a, b - 1, c⟩ = true
    · go_wp2
      refine bodyPost_ret (v := .tuple #[lV ⟨a, b - 1, c⟩, .bool true]) (by simp [results, Tryz.results96, go_sem, hc0, hc1, hc2]) rfl ⟨?_, unhide HR _ _ _⟩
      exact ret_lb (ld_yes (by rw [unhide HE]; exact hd) (unhide HL)).symm (by rw [unhide HE]; exact hd.symm)
    · rw [Bool.not_eq_true] at hd
      go_wp2
      refine bodyPost_ret (v := .tuple #[lV (ldN 0), .bool false]) (by simp [results, Tryz.results96, go_sem, hc0, hc1, hc2, ldN]) rfl ⟨?_, unhide HR _ _ _⟩
      exact ret_lb (ld_no (by rw [unhide HE]; exact hd)).symm (by rw [unhide HE]; exact hd.symm)
  · have HE := hide (ldD_len h3)
    go_wp2
    refine bodyPost_ret (v := .tuple #[lV (ldN 0), .bool false]) (by simp [results, Tryz.results96, go_sem, hc0, hc1, hc2, ldN]) rfl ⟨?_, unhide HR _ _ _⟩
    exact ret_lb (ld_no (unhide HE)).symm (unhide HE).symm

end Go.Proofs.YtefnapcegeojoaaGreatDoor

namespace Go.Proofs.YtefnapcegeojoaaGreatDoor
set_option linter.unusedVariables false

structure Bk where
  ver : Int
  mbal : Int
  bal : Int
  inp : Int
structure Pxs where
  host : Int
  ver : Int
  phase : Int
  ballot : Int
  value : Int
  next : Int
  best : Int
  bestBal : Int
def bk0 : Bk := ⟨0, 0, 0, 0⟩
def bkOf (b : Bk) (v : Int) : Bk := if b.ver < v then ⟨v, 0, 0, 0⟩ else b
def pxW1 (p : Pxs) (own : Bk) : Pxs := if p.phase = 1 then { p with phase := 2, next := 0, best := own.inp, bestBal := own.bal } else { p with phase := 4, next := 0 }
def pxW2 (p : Pxs) (own : Bk) : Bk := if p.phase = 1 then ⟨p.ver, p.ballot, own.bal, own.inp⟩ else ⟨p.ver, p.ballot, p.ballot, p.value⟩
def pxEnd (p : Pxs) : Pxs := if p.next < 4 then p else if p.phase = 4 then { p with phase := 5 } else { p with phase := 3, value := if 0 < p.bestBal then p.best else p.value }
def skip (p : Pxs) (n : Int) : Int := if n = p.host then n + 1 else n
def pxLook (p : Pxs) (b : Bk) : Pxs := { p with next := skip p (p.next + 1), best := if p.phase = 2 ∧ p.bestBal < b.bal then b.inp else p.best, bestBal := if p.phase = 2 ∧ p.bestBal < b.bal then b.bal else p.bestBal }
def pxRd (p0 : Pxs) (bs : List Bk) : Pxs :=
  let p := { p0 with next := skip p0 p0.next }
  if p.next < 4 then
    let b := bkOf (bs.getD p.next.toNat bk0) p.ver
    if p.ver < b.ver ∨ p.ballot < b.mbal then { p with phase := 6 } else pxEnd (pxLook p b)
  else pxEnd p
def pxOwn (p : Pxs) (bs : List Bk) : Bk := bkOf (bs.getD p.host.toNat bk0) p.ver
abbrev pxNo (p : Pxs) (own : Bk) : Prop := p.ver < own.ver ∨ p.ballot < own.mbal ∨ (p.phase = 1 ∧ own.mbal = p.ballot) ∨ (p.phase = 3 ∧ own.mbal ≠ p.ballot)

abbrev HS := Nat → Pxs
def pxStepP (p : Pxs) (bs : List Bk) : Pxs × List Bk :=
  if p.phase = 5 ∨ p.phase = 6 then (p, bs)
  else if p.phase = 2 ∨ p.phase = 4 then (pxRd p bs, bs)
  else if pxNo p (pxOwn p bs) then ({ p with phase := 6 }, bs)
  else (pxW1 p (pxOwn p bs), bs.set p.host.toNat (pxW2 p (pxOwn p bs)))
def nxMax (v : Int) : List Bk → Int → Int
  | [], n => n
  | b :: r, n => nxMax v r (max n (bkOf b v).mbal)
def nxBal (h v : Int) (bs : List Bk) : Int := (Int.tdiv (nxMax v bs 0) 4 + 1) * 4 + h
def px0 : Pxs := ⟨0, 0, 0, 0, 0, 0, 0, 0⟩
def runAt (vs : List Int) (st : List Pxs × List Bk) (h : Nat) : List Pxs × List Bk :=
  let p := st.1.getD h px0
  let p1 := if p.phase = 6 then ⟨h, 0, 1, nxBal h 0 st.2, vs.getD h 0, 0, 0, 0⟩ else p
  let r := pxStepP p1 st.2
  (st.1.set h r.1, r.2)
def run (vs : List Int) : List Nat → List Pxs × List Bk → List Pxs × List Bk
  | [], st => st
  | h :: r, st => run vs r (runAt vs st h)
theorem nxMax_ge (v : Int) : ∀ (bs : List Bk) (n : Int), n ≤ nxMax v bs n
  | [], n => Int.le_refl n
  | b :: r, n => by
    have := nxMax_ge v r (max n (bkOf b v).mbal)
    show n ≤ nxMax v r (max n (bkOf b v).mbal)
    omega
theorem nxMax_mem (v : Int) : ∀ (bs : List Bk) (n : Int) (i : Nat), i < bs.length → (bkOf (bs.getD i bk0) v).mbal ≤ nxMax v bs n
  | [], _, i, h => absurd h (Nat.not_lt_zero i)
  | b :: r, n, 0, _ => by
    have := nxMax_ge v r (max n (bkOf b v).mbal)
    show (bkOf b v).mbal ≤ nxMax v r (max n (bkOf b v).mbal)
    omega
  | b :: r, n, i + 1, h => nxMax_mem v r _ i (Nat.lt_of_succ_lt_succ h)
theorem pxEnd_lt {p : Pxs} (h : p.next < 4) : pxEnd p = p := if_pos h
theorem pxEnd_4 {p : Pxs} (h : ¬ p.next < 4) (e : p.phase = 4) : pxEnd p = { p with phase := 5 } := by unfold pxEnd; rw [if_neg h, if_pos e]
theorem pxEnd_2 {p : Pxs} (h : ¬ p.next < 4) (e : p.phase = 2) : pxEnd p = { p with phase := 3, value := if 0 < p.bestBal then p.best else p.value } := by unfold pxEnd; rw [if_neg h, if_neg (by rw [e]; decide)]

theorem pxStepP_end {p : Pxs} (bs : List Bk) (e : p.phase = 5 ∨ p.phase = 6) : pxStepP p bs = (p, bs) := if_pos e
theorem pxStepP_rd {p : Pxs} (bs : List Bk) (e : p.phase = 2 ∨ p.phase = 4) : pxStepP p bs = (pxRd p bs, bs) := by
  unfold pxStepP; rw [if_neg (by rcases e with e | e <;> rw [e] <;> decide), if_pos e]
theorem pxStepP_wr {p : Pxs} (bs : List Bk) (e : p.phase = 1 ∨ p.phase = 3) (c : ¬ pxNo p (pxOwn p bs)) : pxStepP p bs = (pxW1 p (pxOwn p bs), bs.set p.host.toNat (pxW2 p (pxOwn p bs))) := by
  unfold pxStepP; rw [if_neg (by rcases e with e | e <;> rw [e] <;> decide), if_neg (by rcases e with e | e <;> rw [e] <;> decide), if_neg c]
theorem pxStepP_no {p : Pxs} (bs : List Bk) (e : p.phase = 1 ∨ p.phase = 3) (c : pxNo p (pxOwn p bs)) : pxStepP p bs = ({ p with phase := 6 }, bs) := by
  unfold pxStepP; rw [if_neg (by rcases e with e | e <;> rw [e] <;> decide), if_neg (by rcases e with e | e <;> rw [e] <;> decide), if_pos c]
theorem nxBal_gt {bs : List Bk} (h : Nat) (i : Nat) (hi : i < bs.length) (v : Int) : (bkOf (bs.getD i bk0) v).mbal < nxBal h v bs := by
  have h1 := nxMax_mem v bs 0 i hi
  have h2 := nxMax_ge v bs 0
  unfold nxBal
  rw [Int.tdiv_eq_ediv_of_nonneg h2]
  omega
theorem nxBal_mod (bs : List Bk) {h : Nat} (hh : h < 4) (v : Int) : nxBal h v bs % 4 = h := by
  unfold nxBal; omega
end Go.Proofs.YtefnapcegeojoaaGreatDoor

namespace Go.Proofs.YtefnapcegeojoaaGreatDoor
open Go.RowKit
set_option linter.unusedVariables false

abbrev bV (x : Bk) : Value := .agg #[.int .i64 x.ver, .int .i64 x.mbal, .int .i64 x.bal, .int .i64 x.inp]
def bkB (x : Bk) : Bool := inB x.ver 0 1000000 && (inB x.mbal 0 1000000 && (inB x.bal 0 x.mbal && (numB x.inp && (decide (0 < x.bal) || decide (x.inp = 0)))))
theorem bkB_iff {x : Bk} : bkB x = true ↔ (0 ≤ x.ver ∧ x.ver ≤ 1000000) ∧ (0 ≤ x.mbal ∧ x.mbal ≤ 1000000) ∧ (0 ≤ x.bal ∧ x.bal ≤ x.mbal) ∧ (0 ≤ x.inp ∧ x.inp ≤ 2147483647) ∧ (0 < x.bal ∨ x.inp = 0) := by
  simp only [bkB, numB, inB, Bool.and_eq_true, Bool.or_eq_true, decide_eq_true_eq]
theorem bkB_1 {x : Bk} (e : inB x.ver 0 1000000 = false) : bkB x = false := by simp [bkB, e]
theorem bkB_2 {x : Bk} (e : inB x.mbal 0 1000000 = false) : bkB x = false := by simp [bkB, e]
theorem bkB_3 {x : Bk} (e : inB x.bal 0 x.mbal = false) : bkB x = false := by simp [bkB, e]
theorem bkB_4 {x : Bk} (e : numB x.inp = false) : bkB x = false := by simp [bkB, e]
theorem bkB_5 {x : Bk} (e1 : inB x.ver 0 1000000 = true) (e2 : inB x.mbal 0 1000000 = true) (e3 : inB x.bal 0 x.mbal = true) (e4 : numB x.inp = true) : bkB x = (decide (0 < x.bal) || decide (x.inp = 0)) := by simp [bkB, e1, e2, e3, e4]
def encB (x : Bk) : ByteArray := sealS 5 [x.ver, x.mbal, x.bal, x.inp]
theorem encB_size (x : Bk) : (encB x).size = 20 := by rw [encB, sealS_size]; rfl
def ebC (x : Bk) : Int := if bkB x = true then 0 else 1
def ebR (x : Bk) : ByteArray := if bkB x = true then encB x else ⟨#[]⟩
theorem ret_se {a b : ByteArray} {c d : Int} (h : a = b) (k : c = d) : Ending.returned (.tuple #[.string a, .int .i64 c]) = .returned (.tuple #[.string b, .int .i64 d]) := by rw [h, k]
def bdL (t : ByteArray) : List Int := openL t 5
def bk4 (l : List Int) : Bk := ⟨l.getD 0 0, l.getD 1 0, l.getD 2 0, l.getD 3 0⟩
def bdB (t : ByteArray) : Bool := openB t 5 && (decide ((bdL t).length = 4) && bkB (bk4 (bdL t)))
def bdK (t : ByteArray) : Bk := if bdB t = true then bk4 (bdL t) else bk0
theorem bdB_open {t : ByteArray} (h : openB t 5 = false) : bdB t = false := by simp [bdB, h]
theorem bdB_at {t : ByteArray} {a b c d : Int} (h : openB t 5 = true) (hl : bdL t = [a, b, c, d]) : bdB t = bkB ⟨a, b, c, d⟩ := by
  have e : bk4 (bdL t) = ⟨a, b, c, d⟩ := by rw [hl]; rfl
  simp [bdB, h, e]
  rw [hl]; simp
theorem bd_no {t : ByteArray} (h : bdB t = false) : bdK t = bk0 := by simp [bdK, h]
theorem bd_yes {t : ByteArray} {a b c d : Int} (h : bdB t = true) (hl : bdL t = [a, b, c, d]) : bdK t = ⟨a, b, c, d⟩ := by rw [bdK, if_pos h, hl]; rfl
theorem fourK {l : List Int} (h : l.length = 4) : ∃ a b c d, l = [a, b, c, d] := by
  match l, h with
  | [a, b, c, d], _ => exact ⟨a, b, c, d, rfl⟩
theorem bd_right {t : ByteArray} (h : bdB t = true) : bkB (bdK t) = true := by
  have h' := h
  simp only [bdB, Bool.and_eq_true, decide_eq_true_eq] at h'
  rw [bdK, if_pos h]; exact h'.2.2
def bcC (t : ByteArray) : Int := if 65536 < t.size then 2 else if bdB t = true then 0 else 3
def bcK (t : ByteArray) : Bk := if 65536 < t.size then bk0 else bdK t
theorem bc_long {t : ByteArray} (h : 65536 < t.size) : bcK t = bk0 ∧ bcC t = 2 := ⟨if_pos h, if_pos h⟩
theorem bc_no {t : ByteArray} (h : ¬ 65536 < t.size) (hd : bdB t = false) : bcK t = bk0 ∧ bcC t = 3 := ⟨(if_neg h).trans (bd_no hd), (if_neg h).trans (if_neg (by simp [hd]))⟩
theorem bc_yes {t : ByteArray} (h : ¬ 65536 < t.size) (hd : bdB t = true) : bcK t = bdK t ∧ bcC t = 0 := ⟨if_neg h, (if_neg h).trans (if_pos hd)⟩
theorem ret_bi {a b : Bk} {x y : Int} (h : a = b) (k : x = y) : Ending.returned (.tuple #[bV a, .int .i64 x]) = .returned (.tuple #[bV b, .int .i64 y]) := by rw [h, k]
def VarB (w : World) (x : Nat) (t : TypeId) (b : Bk) : Prop := w.heap[x]? = some (.cells #[.int .i64 b.ver, .int .i64 b.mbal, .int .i64 b.bal, .int .i64 b.inp] t (0, 0))
theorem VarB.lt {w : World} {x t : Nat} {b : Bk} (k : VarB w x t b) : x < w.heap.size := (Array.getElem?_eq_some_iff.1 k).1
theorem VarB.cells {w : World} {x t : Nat} {b : Bk} (k : VarB w x t b) : w.cell? ⟨x, 0, none⟩ = some (.int .i64 b.ver) ∧ w.cell? ⟨x, 1, none⟩ = some (.int .i64 b.mbal) ∧ w.cell? ⟨x, 2, none⟩ = some (.int .i64 b.bal) ∧ w.cell? ⟨x, 3, none⟩ = some (.int .i64 b.inp) := ⟨by rw [Joins.cell_of_block k]; rfl, by rw [Joins.cell_of_block k]; rfl, by rw [Joins.cell_of_block k]; rfl, by rw [Joins.cell_of_block k]; rfl⟩
theorem VarB.free {w : World} {x t : Nat} {b : Bk} (k : VarB w x t b) : w.frozen? ⟨x, 0, none⟩ = false ∧ w.frozen? ⟨x, 1, none⟩ = false ∧ w.frozen? ⟨x, 2, none⟩ = false ∧ w.frozen? ⟨x, 3, none⟩ = false := ⟨Joins.unfrozen_of_block k 0, Joins.unfrozen_of_block k 1, Joins.unfrozen_of_block k 2, Joins.unfrozen_of_block k 3⟩
theorem VarB.below {w w' : World} {x t : Nat} {b : Bk} (k : VarB w x t b) (hb : Below w.heap.size w w') : VarB w' x t b := by
  unfold VarB; rw [hb.block x k.lt]; exact k
theorem VarB.keep {S : Nat → Prop} {w w' : World} {x t : Nat} {b : Bk} (k : VarB w x t b) (hk : Keep S w w') (hs : ¬ S x) : VarB w' x t b := by
  unfold VarB; rw [hk.block x k.lt hs]; exact k
theorem VarB.new (w : World) (t : TypeId) (b : Bk) : VarB (w.alloc (.cells #[.int .i64 b.ver, .int .i64 b.mbal, .int .i64 b.bal, .int .i64 b.inp] t)) w.heap.size t b := heap_alloc_new w _
theorem VarB.new0 (w : World) (t : TypeId) : VarB (w.alloc (.cells #[.int .i64 0, .int .i64 0, .int .i64 0, .int .i64 0] t)) w.heap.size t bk0 := heap_alloc_new w _
theorem below4 {w0 w : World} {B g : Nat} (h : Below B w0 w) (hg : B ≤ g) (i j k l : Nat) (u v x y : Value) : Below B w0 ((((w.setCell ⟨g, i, none⟩ u).setCell ⟨g, j, none⟩ v).setCell ⟨g, k, none⟩ x).setCell ⟨g, l, none⟩ y) :=
  (below3 h hg i j k u v x).setCell (p := ⟨g, l, none⟩) hg y
theorem is4 (w : World) (n : Nat) (t : TypeId) (a b c d : Int) (hn : w.heap.size = n) : Is (w.alloc (.cells #[.int .i64 a, .int .i64 b, .int .i64 c, .int .i64 d] t)) (some ⟨n, 0, none⟩) [a, b, c, d] := by
  subst hn
  intro i hi
  have hi' : i < 4 := hi
  refine ⟨w.heap.size, 0, rfl, ?_⟩
  rcases (show i = 0 ∨ i = 1 ∨ i = 2 ∨ i = 3 by omega) with rfl | rfl | rfl | rfl <;> simp [go_sem]
theorem b4_nums {x : Bk} (hd : bkB x = true) : ∀ j (hj : j < [x.ver, x.mbal, x.bal, x.inp].length), 0 ≤ [x.ver, x.mbal, x.bal, x.inp][j] ∧ [x.ver, x.mbal, x.bal, x.inp][j] ≤ 2147483647 := by
  obtain ⟨h1, h2, h3, h4, _⟩ := bkB_iff.1 hd
  intro j hj
  have hj' : j < 4 := hj
  rcases (show j = 0 ∨ j = 1 ∨ j = 2 ∨ j = 3 by omega) with rfl | rfl | rfl | rfl <;> simp <;> omega
theorem b4_ints {x : Bk} (hd : bkB x = true) : intsB [x.ver, x.mbal, x.bal, x.inp] = true := by
  obtain ⟨h1, h2, h3, h4, _⟩ := bkB_iff.1 hd
  rw [intsB_len]
  · rfl
  · intro j hj
    have hj' : j < 4 := hj
    rcases (show j = 0 ∨ j = 1 ∨ j = 2 ∨ j = 3 by omega) with rfl | rfl | rfl | rfl <;> simp [numB, inB] <;> omega
theorem b4_seal {x : Bk} (hd : bkB x = true) : sealC 5 [x.ver, x.mbal, x.bal, x.inp] = 0 ∧ sealT 5 [x.ver, x.mbal, x.bal, x.inp] = encB x := by
  have hc : sealC 5 [x.ver, x.mbal, x.bal, x.inp] = 0 := sealC_ok (listC_ok (by simp) (b4_ints hd)) rfl
  exact ⟨hc, sealT_ok hc⟩

end Go.Proofs.YtefnapcegeojoaaGreatDoor

namespace Go.Proofs.YtefnapcegeojoaaGreatDoor
open Go.RowKit
set_option linter.unusedVariables false

abbrev pV (p : Pxs) : Value := .agg #[.int .i64 p.host, .int .i64 p.ver, .int .i64 p.phase, .int .i64 p.ballot, .int .i64 p.value, .int .i64 p.next, .int .i64 p.best, .int .i64 p.bestBal]
def pxB (p : Pxs) : Bool := inB p.host 0 3 && (inB p.ver 0 1000000 && (inB p.phase 1 6 && (inB p.ballot 1 1000000 && (decide (p.ballot % 4 = p.host) && (numB p.value && (inB p.next 0 4 && (numB p.best && inB p.bestBal 0 1000000)))))))
theorem pxB_iff {p : Pxs} : pxB p = true ↔ (0 ≤ p.host ∧ p.host ≤ 3) ∧ (0 ≤ p.ver ∧ p.ver ≤ 1000000) ∧ (1 ≤ p.phase ∧ p.phase ≤ 6) ∧ (1 ≤ p.ballot ∧ p.ballot ≤ 1000000) ∧ p.ballot % 4 = p.host ∧ (0 ≤ p.value ∧ p.value ≤ 2147483647) ∧ (0 ≤ p.next ∧ p.next ≤ 4) ∧ (0 ≤ p.best ∧ p.best ≤ 2147483647) ∧ 0 ≤ p.bestBal ∧ p.bestBal ≤ 1000000 := by
  simp only [pxB, numB, inB, Bool.and_eq_true, decide_eq_true_eq]
def p00 : Pxs := ⟨0, 0, 0, 0, 0, 0, 0, 0⟩

def VarP (w : World) (x : Nat) (t : TypeId) (p : Pxs) : Prop := w.heap[x]? = some (.cells #[.int .i64 p.host, .int .i64 p.ver, .int .i64 p.phase, .int .i64 p.ballot, .int .i64 p.value, .int .i64 p.next, .int .i64 p.best, .int .i64 p.bestBal] t (0, 0))
theorem VarP.lt {w : World} {x t : Nat} {p : Pxs} (k : VarP w x t p) : x < w.heap.size := (Array.getElem?_eq_some_iff.1 k).1
theorem VarP.cells {w : World} {x t : Nat} {p : Pxs} (k : VarP w x t p) : w.cell? ⟨x, 0, none⟩ = some (.int .i64 p.host) ∧ w.cell? ⟨x, 1, none⟩ = some (.int .i64 p.ver) ∧ w.cell? ⟨x, 2, none⟩ = some (.int .i64 p.phase) ∧ w.cell? ⟨x, 3, none⟩ = some (.int .i64 p.ballot) ∧ w.cell? ⟨x, 4, none⟩ = some (.int .i64 p.value) ∧ w.cell? ⟨x, 5, none⟩ = some (.int .i64 p.next) ∧ w.cell? ⟨x, 6, none⟩ = some (.int .i64 p.best) ∧ w.cell? ⟨x, 7, none⟩ = some (.int .i64 p.bestBal) := ⟨by rw [Joins.cell_of_block k]; rfl, by rw [Joins.cell_of_block k]; rfl, by rw [Joins.cell_of_block k]; rfl, by rw [Joins.cell_of_block k]; rfl, by rw [Joins.cell_of_block k]; rfl, by rw [Joins.cell_of_block k]; rfl, by rw [Joins.cell_of_block k]; rfl, by rw [Joins.cell_of_block k]; rfl⟩
theorem VarP.free {w : World} {x t : Nat} {p : Pxs} (k : VarP w x t p) : w.frozen? ⟨x, 0, none⟩ = false ∧ w.frozen? ⟨x, 1, none⟩ = false ∧ w.frozen? ⟨x, 2, none⟩ = false ∧ w.frozen? ⟨x, 3, none⟩ = false ∧ w.frozen? ⟨x, 4, none⟩ = false ∧ w.frozen? ⟨x, 5, none⟩ = false ∧ w.frozen? ⟨x, 6, none⟩ = false ∧ w.frozen? ⟨x, 7, none⟩ = false := ⟨Joins.unfrozen_of_block k 0, Joins.unfrozen_of_block k 1, Joins.unfrozen_of_block k 2, Joins.unfrozen_of_block k 3, Joins.unfrozen_of_block k 4, Joins.unfrozen_of_block k 5, Joins.unfrozen_of_block k 6, Joins.unfrozen_of_block k 7⟩
theorem VarP.below {w w' : World} {x t : Nat} {p : Pxs} (k : VarP w x t p) (hb : Below w.heap.size w w') : VarP w' x t p := by
  unfold VarP; rw [hb.block x k.lt]; exact k
theorem VarP.keep {S : Nat → Prop} {w w' : World} {x t : Nat} {p : Pxs} (k : VarP w x t p) (hk : Keep S w w') (hs : ¬ S x) : VarP w' x t p := by
  unfold VarP; rw [hk.block x k.lt hs]; exact k
theorem VarP.new (w : World) (t : TypeId) (p : Pxs) : VarP (w.alloc (.cells #[.int .i64 p.host, .int .i64 p.ver, .int .i64 p.phase, .int .i64 p.ballot, .int .i64 p.value, .int .i64 p.next, .int .i64 p.best, .int .i64 p.bestBal] t)) w.heap.size t p := heap_alloc_new w _
theorem VarP.new0 (w : World) (t : TypeId) : VarP (w.alloc (.cells #[.int .i64 0, .int .i64 0, .int .i64 0, .int .i64 0, .int .i64 0, .int .i64 0, .int .i64 0, .int .i64 0] t)) w.heap.size t p00 := heap_alloc_new w _
theorem set_heap {w : World} {k t i : Nat} {a : Array Value} (h : w.heap[k]? = some (.cells a t (0, 0))) (v : Value) : (w.setCell ⟨k, i, none⟩ v).heap[k]? = some (.cells (a.setIfInBounds i v) t (0, 0)) := by
  obtain ⟨hk, hf⟩ := Array.getElem?_eq_some_iff.1 h
  unfold World.setCell
  simp [hk]
  rw [Array.getElem_modify]
  simp [hf]
theorem VarP.set0 {w : World} {x t : Nat} {p : Pxs} (k : VarP w x t p) (n : Int) : VarP (w.setCell ⟨x, 0, none⟩ (.int .i64 n)) x t { p with host := n } := set_heap (i := 0) k _
theorem VarP.set1 {w : World} {x t : Nat} {p : Pxs} (k : VarP w x t p) (n : Int) : VarP (w.setCell ⟨x, 1, none⟩ (.int .i64 n)) x t { p with ver := n } := set_heap (i := 1) k _
theorem VarP.set2 {w : World} {x t : Nat} {p : Pxs} (k : VarP w x t p) (n : Int) : VarP (w.setCell ⟨x, 2, none⟩ (.int .i64 n)) x t { p with phase := n } := set_heap (i := 2) k _
theorem VarP.set3 {w : World} {x t : Nat} {p : Pxs} (k : VarP w x t p) (n : Int) : VarP (w.setCell ⟨x, 3, none⟩ (.int .i64 n)) x t { p with ballot := n } := set_heap (i := 3) k _
theorem VarP.set4 {w : World} {x t : Nat} {p : Pxs} (k : VarP w x t p) (n : Int) : VarP (w.setCell ⟨x, 4, none⟩ (.int .i64 n)) x t { p with value := n } := set_heap (i := 4) k _
theorem VarP.set5 {w : World} {x t : Nat} {p : Pxs} (k : VarP w x t p) (n : Int) : VarP (w.setCell ⟨x, 5, none⟩ (.int .i64 n)) x t { p with next := n } := set_heap (i := 5) k _
theorem VarP.set6 {w : World} {x t : Nat} {p : Pxs} (k : VarP w x t p) (n : Int) : VarP (w.setCell ⟨x, 6, none⟩ (.int .i64 n)) x t { p with best := n } := set_heap (i := 6) k _
theorem VarP.set7 {w : World} {x t : Nat} {p : Pxs} (k : VarP w x t p) (n : Int) : VarP (w.setCell ⟨x, 7, none⟩ (.int .i64 n)) x t { p with bestBal := n } := set_heap (i := 7) k _
theorem VarP.put {w : World} {x t : Nat} {p : Pxs} (k : VarP w x t p) (q : Pxs) : VarP ((((((((w.setCell ⟨x, 0, none⟩ (.int .i64 q.host)).setCell ⟨x, 1, none⟩ (.int .i64 q.ver)).setCell ⟨x, 2, none⟩ (.int .i64 q.phase)).setCell ⟨x, 3, none⟩ (.int .i64 q.ballot)).setCell ⟨x, 4, none⟩ (.int .i64 q.value)).setCell ⟨x, 5, none⟩ (.int .i64 q.next)).setCell ⟨x, 6, none⟩ (.int .i64 q.best)).setCell ⟨x, 7, none⟩ (.int .i64 q.bestBal)) x t q := (((((((k.set0 q.host).set1 q.ver).set2 q.phase).set3 q.ballot).set4 q.value).set5 q.next).set6 q.best).set7 q.bestBal

theorem below8 {w0 w : World} {B g : Nat} (h : Below B w0 w) (hg : B ≤ g) (u0 u1 u2 u3 u4 u5 u6 u7 : Value) : Below B w0 ((((((((w.setCell ⟨g, 0, none⟩ u0).setCell ⟨g, 1, none⟩ u1).setCell ⟨g, 2, none⟩ u2).setCell ⟨g, 3, none⟩ u3).setCell ⟨g, 4, none⟩ u4).setCell ⟨g, 5, none⟩ u5).setCell ⟨g, 6, none⟩ u6).setCell ⟨g, 7, none⟩ u7) :=
  (((((((h.setCell (p := ⟨g, 0, none⟩) hg u0).setCell (p := ⟨g, 1, none⟩) hg u1).setCell (p := ⟨g, 2, none⟩) hg u2).setCell (p := ⟨g, 3, none⟩) hg u3).setCell (p := ⟨g, 4, none⟩) hg u4).setCell (p := ⟨g, 5, none⟩) hg u5).setCell (p := ⟨g, 6, none⟩) hg u6).setCell (p := ⟨g, 7, none⟩) hg u7
theorem keep8 {S : Nat → Prop} {w0 w : World} {g : Nat} (h : Keep S w0 w) (hg : S g) (u0 u1 u2 u3 u4 u5 u6 u7 : Value) : Keep S w0 ((((((((w.setCell ⟨g, 0, none⟩ u0).setCell ⟨g, 1, none⟩ u1).setCell ⟨g, 2, none⟩ u2).setCell ⟨g, 3, none⟩ u3).setCell ⟨g, 4, none⟩ u4).setCell ⟨g, 5, none⟩ u5).setCell ⟨g, 6, none⟩ u6).setCell ⟨g, 7, none⟩ u7) :=
  (((((((h.setCell (p := ⟨g, 0, none⟩) hg u0).setCell (p := ⟨g, 1, none⟩) hg u1).setCell (p := ⟨g, 2, none⟩) hg u2).setCell (p := ⟨g, 3, none⟩) hg u3).setCell (p := ⟨g, 4, none⟩) hg u4).setCell (p := ⟨g, 5, none⟩) hg u5).setCell (p := ⟨g, 6, none⟩) hg u6).setCell (p := ⟨g, 7, none⟩) hg u7

theorem keepN {S : Nat → Prop} {a b c : World} (h : Keep S a b) {T : Nat → Prop} (k : Keep T b c) (hT : ∀ i, T i → S i ∨ a.heap.size ≤ i) : Keep S a c :=
  ⟨k.os.trans h.os, k.tape.trans h.tape, k.output.trans h.output, Nat.le_trans h.size k.size, fun i hi hs => (k.block i (Nat.lt_of_lt_of_le hi h.size) (fun ht => by rcases hT i ht with h1 | h1; exact hs h1; omega)).trans (h.block i hi hs)⟩

def Bks (w : World) (ao : Option Addr) (xs : List Bk) : Prop := ∀ i (h : i < xs.length), ∃ b off, ao = some ⟨b, off, none⟩ ∧
  w.cell? ⟨b, off + i * 4, none⟩ = some (.int .i64 xs[i].ver) ∧ w.cell? ⟨b, off + i * 4 + 1, none⟩ = some (.int .i64 xs[i].mbal) ∧ w.cell? ⟨b, off + i * 4 + 2, none⟩ = some (.int .i64 xs[i].bal) ∧ w.cell? ⟨b, off + i * 4 + 3, none⟩ = some (.int .i64 xs[i].inp)
theorem Bks.below {w w' : World} {ao : Option Addr} {xs : List Bk} (h : Bks w ao xs) (hb : Below w.heap.size w w') : Bks w' ao xs := fun i hi => by
  obtain ⟨b, off, e, h0, h1, h2, h3⟩ := h i hi
  exact ⟨b, off, e, (hb.cell (p := ⟨b, off + i * 4, none⟩) (World.block_lt_of_cell? _ _ h0)).trans h0, (hb.cell (p := ⟨b, off + i * 4 + 1, none⟩) (World.block_lt_of_cell? _ _ h1)).trans h1, (hb.cell (p := ⟨b, off + i * 4 + 2, none⟩) (World.block_lt_of_cell? _ _ h2)).trans h2, (hb.cell (p := ⟨b, off + i * 4 + 3, none⟩) (World.block_lt_of_cell? _ _ h3)).trans h3⟩
def bksV (xs : List Bk) : List Value := xs.flatMap fun x => [.int .i64 x.ver, .int .i64 x.mbal, .int .i64 x.bal, .int .i64 x.inp]
theorem bksV_cons (x : Bk) (xs : List Bk) : bksV (x :: xs) = [.int .i64 x.ver, .int .i64 x.mbal, .int .i64 x.bal, .int .i64 x.inp] ++ bksV xs := rfl
theorem bksV_length (xs : List Bk) : (bksV xs).length = xs.length * 4 := by
  induction xs with
  | nil => rfl
  | cons x xs ih => simp only [bksV, List.flatMap_cons, List.length_append, List.length_cons, List.length_nil] at ih ⊢; omega
theorem bksV_get : ∀ {xs : List Bk} {i : Nat} (h : i < xs.length), (bksV xs)[i * 4]? = some (.int .i64 xs[i].ver) ∧ (bksV xs)[i * 4 + 1]? = some (.int .i64 xs[i].mbal) ∧ (bksV xs)[i * 4 + 2]? = some (.int .i64 xs[i].bal) ∧ (bksV xs)[i * 4 + 3]? = some (.int .i64 xs[i].inp)
  | [], _, h => absurd h (Nat.not_lt_zero _)
  | x :: xs, 0, _ => by simp [bksV_cons]
  | x :: xs, i + 1, h => by
    have ih := bksV_get (xs := xs) (i := i) (by simpa using h)
    rw [bksV_cons, show (i + 1) * 4 = i * 4 + 4 by omega]
    refine ⟨?_, ?_, ?_, ?_⟩
    · rw [List.getElem?_append_right (by simp)]; simpa using ih.1
    · rw [List.getElem?_append_right (by simp)]; simpa [Nat.add_right_comm] using ih.2.1
    · rw [List.getElem?_append_right (by simp)]; simpa [Nat.add_right_comm] using ih.2.2.1
    · rw [List.getElem?_append_right (by simp)]; simpa [Nat.add_right_comm] using ih.2.2.2
theorem bksV_set : ∀ {xs : List Bk} {i : Nat} (h : i < xs.length) (y : Bk), ((((bksV xs).set (i * 4) (.int .i64 y.ver)).set (i * 4 + 1) (.int .i64 y.mbal)).set (i * 4 + 2) (.int .i64 y.bal)).set (i * 4 + 3) (.int .i64 y.inp) = bksV (xs.set i y)
  | [], _, h, _ => absurd h (Nat.not_lt_zero _)
  | x :: xs, 0, _, y => by simp [bksV_cons]
  | x :: xs, i + 1, h, y => by
    have ih := bksV_set (xs := xs) (i := i) (by simpa using h) y
    rw [bksV_cons, List.set_cons_succ, bksV_cons, ← ih, show (i + 1) * 4 = i * 4 + 4 by omega]
    simp [List.set_cons_succ]
theorem bksV_one (xs : List Bk) : ∀ v ∈ bksV xs, v.oneCell' = true := by
  intro v hv
  simp only [bksV, List.mem_flatMap] at hv
  obtain ⟨x, _, hv⟩ := hv
  simp at hv
  rcases hv with rfl | rfl | rfl | rfl <;> rfl
theorem ownBks {w : World} {B e cap : Nat} {ao : Option Addr} {xs : List Bk} (h : OwnR w B e 4 (.slice ao xs.length cap) xs.length (bksV xs)) : Bks w ao xs := by
  rcases h with ⟨h0, _, _⟩ | ⟨h0, h⟩
  · intro i hi; omega
  rcases h.2 with ⟨e0, h0'⟩ | ⟨g, cap, cur, e0, hb, hg, hnc, hcm, hcs, ht⟩
  · omega
  · simp only [Value.slice.injEq, true_and] at e0
    obtain ⟨rfl, rfl⟩ := e0
    have g4 := fun i (hi : i < xs.length) => bksV_get hi
    refine fun i hi => ⟨g, 0, rfl, ?_, ?_, ?_, ?_⟩
    · rw [Nat.zero_add, h.cellAt _ (by omega)]; exact (g4 i hi).1
    · rw [Nat.zero_add, h.cellAt _ (by omega)]; exact (g4 i hi).2.1
    · rw [Nat.zero_add, h.cellAt _ (by omega)]; exact (g4 i hi).2.2.1
    · rw [Nat.zero_add, h.cellAt _ (by omega)]; exact (g4 i hi).2.2.2
theorem Bks.at {w : World} {ao : Option Addr} {xs : List Bk} (h : Bks w ao xs) (hp : 0 < xs.length) : ∃ b off, ao = some ⟨b, off, none⟩ ∧ b < w.heap.size ∧ ∀ j v, (bksV xs)[j]? = some v → w.cell? (Addr.add ⟨b, off, none⟩ j) = some v := by
  obtain ⟨b, off, rfl, h0, _⟩ := h 0 hp
  refine ⟨b, off, rfl, World.block_lt_of_cell? _ _ h0, fun j v hv => ?_⟩
  have hj : j < xs.length * 4 := by have := (List.getElem?_eq_some_iff.1 hv).1; rwa [bksV_length] at this
  obtain ⟨b', off', e, c0, c1, c2, c3⟩ := h (j / 4) (by omega)
  simp only [Option.some.injEq, Addr.mk.injEq, and_true] at e
  obtain ⟨rfl, rfl⟩ := e
  obtain ⟨g0, g1, g2, g3⟩ := bksV_get (xs := xs) (i := j / 4) (by omega)
  rw [show Addr.add ⟨b, off, none⟩ j = ⟨b, off + j, none⟩ from by unfold Addr.add; split <;> simp_all]
  rcases (show j = j / 4 * 4 ∨ j = j / 4 * 4 + 1 ∨ j = j / 4 * 4 + 2 ∨ j = j / 4 * 4 + 3 by omega) with e | e | e | e
  · rw [e] at hv ⊢; rw [g0] at hv; cases hv; exact c0
  · rw [e] at hv ⊢; rw [g1] at hv; cases hv; exact c1
  · rw [e] at hv ⊢; rw [g2] at hv; cases hv; exact c2
  · rw [e] at hv ⊢; rw [g3] at hv; cases hv; exact c3
theorem Bks.get {w : World} {ao : Option Addr} {xs : List Bk} (h : Bks w ao xs) (i : Nat) (hi : i < xs.length) : ∃ b off, ao = some ⟨b, off, none⟩ ∧ b < w.heap.size ∧ w.cell? ⟨b, off + i * 4, none⟩ = some (.int .i64 (xs.getD i bk0).ver) ∧ w.cell? ⟨b, off + i * 4 + 1, none⟩ = some (.int .i64 (xs.getD i bk0).mbal) ∧ w.cell? ⟨b, off + i * 4 + 2, none⟩ = some (.int .i64 (xs.getD i bk0).bal) ∧ w.cell? ⟨b, off + i * 4 + 3, none⟩ = some (.int .i64 (xs.getD i bk0).inp) := by
  obtain ⟨b, off, e, h0, h1, h2, h3⟩ := h i hi
  have : xs.getD i bk0 = xs[i] := by simp [hi]
  rw [this]
  exact ⟨b, off, e, World.block_lt_of_cell? _ _ h0, h0, h1, h2, h3⟩

structure Got (W0 W : World) (C : Nat) (t : TypeId) (b : Bk) : Prop where
  k : Below W0.heap.size W0 W
  v : VarB W C t b
  gt : W0.heap.size ≤ C
theorem Got.top {W0 W : World} (t : TypeId) (b : Bk) (h : Below W0.heap.size W0 W) : Got W0 (W.alloc (.cells #[.int .i64 b.ver, .int .i64 b.mbal, .int .i64 b.bal, .int .i64 b.inp] t)) W.heap.size t b :=
  ⟨fr h (Joins.below_alloc1 _ _), VarB.new _ _ _, h.size⟩
theorem VarB.put {w : World} {x t : Nat} {b : Bk} (k : VarB w x t b) (q : Bk) : VarB ((((w.setCell ⟨x, 0, none⟩ (.int .i64 q.ver)).setCell ⟨x, 1, none⟩ (.int .i64 q.mbal)).setCell ⟨x, 2, none⟩ (.int .i64 q.bal)).setCell ⟨x, 3, none⟩ (.int .i64 q.inp)) x t q := set_heap (i := 3) (set_heap (i := 2) (set_heap (i := 1) (set_heap (i := 0) k _) _) _) _
theorem Got.set {W0 W : World} {t : TypeId} {b : Bk} {C : Nat} (b0 : Bk) (h : Below W0.heap.size W0 W) (hv : VarB W C t b0) (hC : W0.heap.size ≤ C) : Got W0 ((((W.setCell ⟨C, 0, none⟩ (.int .i64 b.ver)).setCell ⟨C, 1, none⟩ (.int .i64 b.mbal)).setCell ⟨C, 2, none⟩ (.int .i64 b.bal)).setCell ⟨C, 3, none⟩ (.int .i64 b.inp)) C t b :=
  ⟨below4 h hC 0 1 2 3 _ _ _ _, hv.put b, hC⟩

end Go.Proofs.YtefnapcegeojoaaGreatDoor

namespace Go.Proofs.YtefnapcegeojoaaGreatDoor
set_option linter.unusedVariables false
theorem pxB_1 {p : Pxs} (e : inB p.host 0 3 = false) : pxB p = false := by simp [pxB, e]
theorem pxB_2 {p : Pxs} (e : inB p.ver 0 1000000 = false) : pxB p = false := by simp [pxB, e]
theorem pxB_3 {p : Pxs} (e : inB p.phase 1 6 = false) : pxB p = false := by simp [pxB, e]
theorem pxB_4 {p : Pxs} (e : inB p.ballot 1 1000000 = false) : pxB p = false := by simp [pxB, e]
theorem pxB_5 {p : Pxs} (e : ¬ p.ballot % 4 = p.host) : pxB p = false := by simp [pxB, e]
theorem pxB_6 {p : Pxs} (e : numB p.value = false) : pxB p = false := by simp [pxB, e]
theorem pxB_7 {p : Pxs} (e : inB p.next 0 4 = false) : pxB p = false := by simp [pxB, e]
theorem pxB_8 {p : Pxs} (e : numB p.best = false) : pxB p = false := by simp [pxB, e]
theorem pxB_9 {p : Pxs} (e1 : inB p.host 0 3 = true) (e2 : inB p.ver 0 1000000 = true) (e3 : inB p.phase 1 6 = true) (e4 : inB p.ballot 1 1000000 = true) (e5 : p.ballot % 4 = p.host) (e6 : numB p.value = true) (e7 : inB p.next 0 4 = true) (e8 : numB p.best = true) : pxB p = inB p.bestBal 0 1000000 := by simp [pxB, e1, e2, e3, e4, e5, e6, e7, e8]
def baB (b h : Int) : Bool := inB b 1 1000000 && decide (b % 4 = h)
theorem pxB_ba {p : Pxs} (e : baB p.ballot p.host = false) : pxB p = false := by
  simp only [baB, Bool.and_eq_false_iff] at e
  rcases e with e | e
  · exact pxB_4 e
  · exact pxB_5 (by simpa using e)
theorem pxB_9b {p : Pxs} (e1 : inB p.host 0 3 = true) (e2 : inB p.ver 0 1000000 = true) (e3 : inB p.phase 1 6 = true) (e4 : baB p.ballot p.host = true) (e6 : numB p.value = true) (e7 : inB p.next 0 4 = true) (e8 : numB p.best = true) : pxB p = inB p.bestBal 0 1000000 := by
  simp only [baB, Bool.and_eq_true, decide_eq_true_eq] at e4
  exact pxB_9 e1 e2 e3 e4.1 e4.2 e6 e7 e8
theorem ball_mod {b : Int} (h : inB b 1 1000000 = true) : Int.tmod b 4 = b % 4 := by
  simp only [inB, Bool.and_eq_true, decide_eq_true_eq] at h
  exact Int.tmod_eq_emod_of_nonneg (by omega)
theorem ret_pi {a b : Pxs} {x y : Int} (h : a = b) (k : x = y) : Go.Ending.returned (.tuple #[pV a, .int .i64 x]) = .returned (.tuple #[pV b, .int .i64 y]) := by rw [h, k]
def ps0 (h v b x : Int) : Pxs := ⟨h, v, 1, b, x, 0, 0, 0⟩
def psP (h v b x : Int) : Pxs := if pxB (ps0 h v b x) = true then ps0 h v b x else p00
def psC (h v b x : Int) : Int := if pxB (ps0 h v b x) = true then 0 else 4
end Go.Proofs.YtefnapcegeojoaaGreatDoor

namespace Go.Proofs.YtefnapcegeojoaaGreatDoor
set_option linter.unusedVariables false
def bksB (xs : List Bk) : Bool := decide (xs.length = 4) && xs.all bkB
theorem bksB_true {xs : List Bk} (h : xs.length = 4) (ha : ∀ j (h : j < xs.length), bkB xs[j] = true) : bksB xs = true := by
  unfold bksB
  rw [all_of (p := bkB) (fun i hi _ => ha i hi)]
  simp [h]
theorem bksB_false_len {xs : List Bk} (h : ¬ xs.length = 4) : bksB xs = false := by simp [bksB, h]
theorem bksB_false_at {xs : List Bk} {k : Nat} (hk : k < xs.length) (h : bkB xs[k] = false) : bksB xs = false := by
  unfold bksB
  rw [all_not (p := bkB) hk h]
  simp
theorem bksB_parts {xs : List Bk} (h : bksB xs = true) : xs.length = 4 ∧ ∀ i, i < xs.length → bkB (xs.getD i bk0) = true := by
  unfold bksB at h
  simp only [Bool.and_eq_true, decide_eq_true_eq, List.all_eq_true] at h
  refine ⟨h.1, fun i hi => ?_⟩
  have : xs.getD i bk0 = xs[i] := by simp [hi]
  rw [this]
  exact h.2 _ (List.getElem_mem hi)
def bfC (xs : List Bk) : Int := if 4096 < xs.length then 2 else if bksB xs = true then 0 else 1
theorem bfC_long {xs : List Bk} (h : 4096 < xs.length) : bfC xs = 2 := if_pos h
theorem bfC_ok {xs : List Bk} (h : ¬ 4096 < xs.length) (hb : bksB xs = true) : bfC xs = 0 := by rw [bfC, if_neg h, if_pos hb]
theorem bfC_bad {xs : List Bk} (h : ¬ 4096 < xs.length) (hb : bksB xs = false) : bfC xs = 1 := by rw [bfC, if_neg h, if_neg (by simp [hb])]
def stOK (p : Pxs) (xs : List Bk) : Bool := decide (¬ 4096 < xs.length) && (pxB p && bksB xs)
def stEnd (p : Pxs) : Int := if p.phase = 5 ∨ p.phase = 6 then 15 else 0
def stC (p : Pxs) (xs : List Bk) : Int := if 4096 < xs.length then 2 else if (pxB p && bksB xs) = true then stEnd p else 1
def stP (p : Pxs) (xs : List Bk) : Pxs := if stOK p xs = true then (pxStepP p xs).1 else p00
def stL (p : Pxs) (xs : List Bk) : List Bk := if stOK p xs = true then (pxStepP p xs).2 else []
theorem st_long {p : Pxs} {xs : List Bk} (h : 4096 < xs.length) : stP p xs = p00 ∧ stL p xs = [] ∧ stC p xs = 2 := by
  have e : stOK p xs = false := by simp [stOK]; intro h'; omega
  exact ⟨if_neg (by simp [e]), if_neg (by simp [e]), if_pos h⟩
theorem st_bad {p : Pxs} {xs : List Bk} (h : ¬ 4096 < xs.length) (hb : (pxB p && bksB xs) = false) : stP p xs = p00 ∧ stL p xs = [] ∧ stC p xs = 1 := by
  have e : stOK p xs = false := by rw [stOK, hb]; simp
  exact ⟨if_neg (by simp [e]), if_neg (by simp [e]), by rw [stC, if_neg h, if_neg (by simp [hb])]⟩
theorem st_ok {p : Pxs} {xs : List Bk} (h : ¬ 4096 < xs.length) (h1 : pxB p = true) (h2 : bksB xs = true) : stP p xs = (pxStepP p xs).1 ∧ stL p xs = (pxStepP p xs).2 ∧ stC p xs = stEnd p := by
  have e : stOK p xs = true := by simp [stOK, h1, h2]; omega
  exact ⟨if_pos e, if_pos e, by rw [stC, if_neg h, if_pos (by rw [h1, h2]; rfl)]⟩
def nbC (h v : Int) (xs : List Bk) : Int := if bfC xs ≠ 0 then bfC xs else if (inB h 0 3 && inB v 0 1000000) = true then (if 1000000 < nxBal h v xs then 6 else 0) else 4
def nbN (h v : Int) (xs : List Bk) : Int := if nbC h v xs = 0 then nxBal h v xs else 0
theorem nb_fault {h v : Int} {xs : List Bk} (e : bfC xs ≠ 0) : nbN h v xs = 0 ∧ nbC h v xs = bfC xs := by
  have hc : nbC h v xs = bfC xs := if_pos e
  exact ⟨by rw [nbN, if_neg (by rw [hc]; exact e)], hc⟩
theorem nb_range {h v : Int} {xs : List Bk} (e : bfC xs = 0) (hr : (inB h 0 3 && inB v 0 1000000) = false) : nbN h v xs = 0 ∧ nbC h v xs = 4 := by
  have hc : nbC h v xs = 4 := by rw [nbC, if_neg (by simp [e]), if_neg (by simp [hr])]
  exact ⟨by rw [nbN, if_neg (by rw [hc]; decide)], hc⟩
theorem nb_many {h v : Int} {xs : List Bk} (e : bfC xs = 0) (h1 : inB h 0 3 = true) (h2 : inB v 0 1000000 = true) (hm : 1000000 < nxBal h v xs) : nbN h v xs = 0 ∧ nbC h v xs = 6 := by
  have hc : nbC h v xs = 6 := by rw [nbC, if_neg (by simp [e]), if_pos (by rw [h1, h2]; rfl), if_pos hm]
  exact ⟨by rw [nbN, if_neg (by rw [hc]; decide)], hc⟩
theorem nb_ok {h v : Int} {xs : List Bk} (e : bfC xs = 0) (h1 : inB h 0 3 = true) (h2 : inB v 0 1000000 = true) (hm : ¬ 1000000 < nxBal h v xs) : nbN h v xs = nxBal h v xs ∧ nbC h v xs = 0 := by
  have hc : nbC h v xs = 0 := by rw [nbC, if_neg (by simp [e]), if_pos (by rw [h1, h2]; rfl), if_neg hm]
  exact ⟨if_pos hc, hc⟩
theorem bfC_zero {xs : List Bk} (h : bfC xs = 0) : bksB xs = true := by
  unfold bfC at h
  split at h
  · cases h
  · split at h
    · assumption
    · cases h
theorem bkOf_mbal (b : Bk) (v : Int) : (bkOf b v).mbal = 0 ∨ (bkOf b v).mbal = b.mbal := by
  unfold bkOf; split
  · exact .inl rfl
  · exact .inr rfl
theorem nxMax_drop {v : Int} {xs : List Bk} {k : Nat} (hk : k < xs.length) (n : Int) : nxMax v (xs.drop k) n = nxMax v (xs.drop (k + 1)) (max n (bkOf xs[k] v).mbal) := by
  rw [List.drop_eq_getElem_cons hk]; rfl
theorem nxMax_done {v : Int} {xs : List Bk} {k : Nat} (hk : ¬ k < xs.length) (n : Int) : nxMax v (xs.drop k) n = n := by
  rw [List.drop_of_length_le (by omega)]; rfl
end Go.Proofs.YtefnapcegeojoaaGreatDoor

namespace Go.Proofs.YtefnapcegeojoaaGreatDoor
set_option linter.unusedVariables false
theorem bkOf_right {b : Bk} {v : Int} (h : bkB b = true) (hv : 0 ≤ v ∧ v ≤ 1000000) : bkB (bkOf b v) = true := by
  unfold bkOf
  split
  · exact bkB_iff.2 ⟨hv, (by decide : (0 : Int) ≤ 0 ∧ (0 : Int) ≤ 1000000), (by decide : (0 : Int) ≤ 0 ∧ (0 : Int) ≤ 0), (by decide : (0 : Int) ≤ 0 ∧ (0 : Int) ≤ 2147483647), .inr rfl⟩
  · exact h
theorem skip_le {p : Pxs} {n : Int} (hh : 0 ≤ p.host ∧ p.host ≤ 3) (h0 : 0 ≤ n) (h4 : n ≤ 4) : 0 ≤ skip p n ∧ skip p n ≤ 4 := by unfold skip; split <;> omega
theorem look_right {p : Pxs} {b : Bk} (hp : pxB p = true) (hn : p.next < 4) (hb : bkB b = true) : pxB (pxLook p b) = true := by
  obtain ⟨h1, h2, h3, h4, h5, h6, h7, h8, h9⟩ := pxB_iff.1 hp
  obtain ⟨_, b2, b3, b4, _⟩ := bkB_iff.1 hb
  refine pxB_iff.2 ⟨h1, h2, h3, h4, h5, h6, skip_le h1 (by omega) (by omega), ?_, ?_⟩
  · show 0 ≤ (if p.phase = 2 ∧ p.bestBal < b.bal then b.inp else p.best) ∧ (if p.phase = 2 ∧ p.bestBal < b.bal then b.inp else p.best) ≤ 2147483647
    split
    · exact b4
    · exact h8
  · show 0 ≤ (if p.phase = 2 ∧ p.bestBal < b.bal then b.bal else p.bestBal) ∧ (if p.phase = 2 ∧ p.bestBal < b.bal then b.bal else p.bestBal) ≤ 1000000
    split
    · omega
    · exact h9
theorem end_right {p : Pxs} (hp : pxB p = true) : pxB (pxEnd p) = true := by
  obtain ⟨h1, h2, h3, h4, h5, h6, h7, h8, h9⟩ := pxB_iff.1 hp
  unfold pxEnd
  split
  · exact hp
  · split
    · exact pxB_iff.2 ⟨h1, h2, (by decide : (1 : Int) ≤ 5 ∧ (5 : Int) ≤ 6), h4, h5, h6, h7, h8, h9⟩
    · refine pxB_iff.2 ⟨h1, h2, (by decide : (1 : Int) ≤ 3 ∧ (3 : Int) ≤ 6), h4, h5, ?_, h7, h8, h9⟩
      show 0 ≤ (if 0 < p.bestBal then p.best else p.value) ∧ (if 0 < p.bestBal then p.best else p.value) ≤ 2147483647
      split
      · exact h8
      · exact h6
theorem rd_right {p : Pxs} {bs : List Bk} (hp : pxB p = true) (hb : bksB bs = true) : pxB (pxRd p bs) = true := by
  obtain ⟨h1, h2, h3, h4, h5, h6, h7, h8, h9⟩ := pxB_iff.1 hp
  obtain ⟨hl, hr⟩ := bksB_parts hb
  have hs := skip_le h1 h7.1 h7.2
  have hq : pxB { p with next := skip p p.next } = true := pxB_iff.2 ⟨h1, h2, h3, h4, h5, h6, hs, h8, h9⟩
  have e : pxRd p bs = (if skip p p.next < 4 then (if p.ver < (bkOf (bs.getD (skip p p.next).toNat bk0) p.ver).ver ∨ p.ballot < (bkOf (bs.getD (skip p p.next).toNat bk0) p.ver).mbal then { p with next := skip p p.next, phase := 6 } else pxEnd (pxLook { p with next := skip p p.next } (bkOf (bs.getD (skip p p.next).toNat bk0) p.ver))) else pxEnd { p with next := skip p p.next }) := rfl
  rw [e]
  by_cases hn : skip p p.next < 4
  · rw [if_pos hn]
    have hbk : bkB (bkOf (bs.getD (skip p p.next).toNat bk0) p.ver) = true := bkOf_right (hr _ (by omega)) h2
    by_cases ha : p.ver < (bkOf (bs.getD (skip p p.next).toNat bk0) p.ver).ver ∨ p.ballot < (bkOf (bs.getD (skip p p.next).toNat bk0) p.ver).mbal
    · rw [if_pos ha]
      exact pxB_iff.2 ⟨h1, h2, (by decide : (1 : Int) ≤ 6 ∧ (6 : Int) ≤ 6), h4, h5, h6, hs, h8, h9⟩
    · rw [if_neg ha]
      exact end_right (look_right hq hn hbk)
  · rw [if_neg hn]
    exact end_right hq
theorem set_right {bs : List Bk} {k : Nat} {y : Bk} (hb : bksB bs = true) (hy : bkB y = true) : bksB (bs.set k y) = true := by
  unfold bksB at hb ⊢
  simp only [Bool.and_eq_true, decide_eq_true_eq, List.all_eq_true] at hb ⊢
  refine ⟨by rw [List.length_set]; exact hb.1, fun x hx => ?_⟩
  rcases List.mem_or_eq_of_mem_set hx with h | h
  · exact hb.2 x h
  · rw [h]; exact hy
theorem px_right {p : Pxs} {bs : List Bk} (hp : pxB p = true) (hb : bksB bs = true) : pxB (pxStepP p bs).1 = true ∧ bksB (pxStepP p bs).2 = true := by
  obtain ⟨h1, h2, h3, h4, h5, h6, h7, h8, h9⟩ := pxB_iff.1 hp
  obtain ⟨hl, hr⟩ := bksB_parts hb
  unfold pxStepP
  split
  · exact ⟨hp, hb⟩
  · split
    · exact ⟨rd_right hp hb, hb⟩
    · have ho : bkB (pxOwn p bs) = true := bkOf_right (hr _ (by omega)) h2
      obtain ⟨b1, b2, b3, b4, b5⟩ := bkB_iff.1 ho
      split
      · exact ⟨pxB_iff.2 ⟨h1, h2, (by decide : (1 : Int) ≤ 6 ∧ (6 : Int) ≤ 6), h4, h5, h6, h7, h8, h9⟩, hb⟩
      · rename_i hno
        refine ⟨?_, set_right hb ?_⟩
        · show pxB (pxW1 p (pxOwn p bs)) = true
          unfold pxW1
          split
          · exact pxB_iff.2 ⟨h1, h2, (by decide : (1 : Int) ≤ 2 ∧ (2 : Int) ≤ 6), h4, h5, h6, (by decide : (0 : Int) ≤ 0 ∧ (0 : Int) ≤ 4), b4, by show 0 ≤ (pxOwn p bs).bal ∧ (pxOwn p bs).bal ≤ 1000000; omega⟩
          · exact pxB_iff.2 ⟨h1, h2, (by decide : (1 : Int) ≤ 4 ∧ (4 : Int) ≤ 6), h4, h5, h6, (by decide : (0 : Int) ≤ 0 ∧ (0 : Int) ≤ 4), h8, h9⟩
        · unfold pxW2
          split
          · refine bkB_iff.2 ⟨h2, by show 0 ≤ p.ballot ∧ p.ballot ≤ 1000000; omega, ?_, b4, b5⟩
            show 0 ≤ (pxOwn p bs).bal ∧ (pxOwn p bs).bal ≤ p.ballot
            have : ¬ p.ballot < (pxOwn p bs).mbal := fun h => hno (.inr (.inl h))
            omega
          · exact bkB_iff.2 ⟨h2, by show 0 ≤ p.ballot ∧ p.ballot ≤ 1000000; omega, by show 0 ≤ p.ballot ∧ p.ballot ≤ p.ballot; omega, h6, .inl (by show 0 < p.ballot; omega)⟩

end Go.Proofs.YtefnapcegeojoaaGreatDoor

namespace Go.Proofs.YtefnapcegeojoaaGreatDoor
set_option linter.unusedVariables false

def wS (ss : List ByteArray) (xs : List Wr) (h a : Int) (t : ByteArray) : List ByteArray := putW ss (ofH h (xs ++ [⟨h, a, t⟩]))
def wX (xs : List Wr) (h a : Int) (t : ByteArray) : List Wr := dropF h (xs ++ [⟨h, a, t⟩])
theorem wX_eq (xs : List Wr) (h a : Int) (t : ByteArray) : wX xs h a t = dropF h xs := by simp [wX, dropF]
theorem wX_len (xs : List Wr) (h a : Int) (t : ByteArray) : (wX xs h a t).length ≤ xs.length := by rw [wX_eq]; exact drop_le h xs
theorem wS_len (ss : List ByteArray) (xs : List Wr) (h a : Int) (t : ByteArray) : (wS ss xs h a t).length = ss.length := put_len _ _
theorem w_io {h a : Int} {t : ByteArray} (h0 : 0 ≤ h) (h3 : h ≤ 3) (a0 : 0 ≤ a) (a1 : a ≤ 63) (ht : t.size ≤ 80) : ioB ⟨h, a, t⟩ = true := ioB_parts.2 ⟨⟨h0, h3⟩, ⟨a0, a1⟩, ht⟩
theorem w_right {ss : List ByteArray} {xs : List Wr} {h a : Int} {t : ByteArray} (hd : diskB ss xs = true) (hl : xs.length < 200) (h0 : 0 ≤ h) (h3 : h ≤ 3) (a0 : 0 ≤ a) (a1 : a ≤ 63) (ht : t.size ≤ 80) : diskB (wS ss xs h a t) (wX xs h a t) = true :=
  diskB_put (diskB_snoc hd hl (w_io h0 h3 a0 a1 ht)) (fun x hx => of_mem hx) (fun x hx => drop_mem hx) (drop_le h _)

structure Est where
  ss : List ByteArray
  xs : List Wr
  p : Pxs
  bs : List Bk
def wroteB (a b : Int) : Bool := (decide (b = 2) && decide (a = 1)) || (decide (b = 4) && decide (a = 3))
def ownK (p : Pxs) (bs : List Bk) : Bk := bs.getD p.host.toNat bk0
def elStep (s : Est) : Est :=
  if wroteB s.p.phase (pxStepP s.p s.bs).1.phase = true then ⟨wS s.ss s.xs s.p.host (1 + s.p.host) (encB (ownK s.p (pxStepP s.p s.bs).2)), wX s.xs s.p.host (1 + s.p.host) (encB (ownK s.p (pxStepP s.p s.bs).2)), (pxStepP s.p s.bs).1, (pxStepP s.p s.bs).2⟩
  else ⟨s.ss, s.xs, (pxStepP s.p s.bs).1, (pxStepP s.p s.bs).2⟩
def mOf (p : Pxs) : Nat := if p.phase = 1 then 13 else if p.phase = 2 then 12 - p.next.toNat else if p.phase = 3 then 6 else if p.phase = 4 then 5 - p.next.toNat else 0
def elRun : Nat → Est → Est
  | 0, s => s
  | n + 1, s => if s.p.phase < 5 then elRun n (elStep s) else s
def elEnd (s : Est) : Est := elRun 13 s

theorem step_p (s : Est) : (elStep s).p = (pxStepP s.p s.bs).1 ∧ (elStep s).bs = (pxStepP s.p s.bs).2 := by unfold elStep; split <;> exact ⟨rfl, rfl⟩

structure ElOK (h : Int) (s : Est) : Prop where
  p : pxB s.p = true
  b : bksB s.bs = true
  d : diskB s.ss s.xs = true
  l : s.xs.length < 200
  o : s.p.host = h
  j : s.p.phase = 2 ∨ s.p.phase = 3 → (ownK s.p s.bs).bal < s.p.ballot

theorem pxEnd_ph (p : Pxs) (h2 : p.phase = 2 ∨ p.phase = 4) : ((pxEnd p).phase = p.phase ∧ (pxEnd p).next = p.next ∧ p.next < 4) ∨ (p.phase = 2 ∧ (pxEnd p).phase = 3) ∨ (p.phase = 4 ∧ (pxEnd p).phase = 5) := by
  unfold pxEnd
  split
  · exact .inl ⟨rfl, rfl, by assumption⟩
  · split
    · exact .inr (.inr ⟨by assumption, rfl⟩)
    · exact .inr (.inl ⟨by rcases h2 with h | h <;> first | exact h | contradiction, rfl⟩)
theorem pxEnd_at (p : Pxs) : (pxEnd p).host = p.host ∧ (pxEnd p).ballot = p.ballot ∧ (pxEnd p).ver = p.ver := by
  unfold pxEnd; split; · exact ⟨rfl, rfl, rfl⟩
  split <;> exact ⟨rfl, rfl, rfl⟩
theorem pxRd_at (p : Pxs) (bs : List Bk) : (pxRd p bs).host = p.host ∧ (pxRd p bs).ballot = p.ballot ∧ (pxRd p bs).ver = p.ver := by
  unfold pxRd
  simp only
  split
  · split
    · exact ⟨rfl, rfl, rfl⟩
    · obtain ⟨a, b, c⟩ := pxEnd_at (pxLook { p with next := skip p p.next } (bkOf (bs.getD ({ p with next := skip p p.next } : Pxs).next.toNat bk0) p.ver))
      exact ⟨a, b, c⟩
  · obtain ⟨a, b, c⟩ := pxEnd_at { p with next := skip p p.next }
    exact ⟨a, b, c⟩
theorem pxRd_ph (p : Pxs) (bs : List Bk) (h2 : p.phase = 2 ∨ p.phase = 4) : ((pxRd p bs).phase = p.phase ∧ p.next < (pxRd p bs).next ∧ (pxRd p bs).next < 4) ∨ (p.phase = 2 ∧ (pxRd p bs).phase = 3) ∨ (p.phase = 4 ∧ (pxRd p bs).phase = 5) ∨ (pxRd p bs).phase = 6 := by
  have hs : ∀ n : Int, n ≤ skip p n := fun n => by unfold skip; split <;> omega
  unfold pxRd
  simp only
  split
  · split
    · exact .inr (.inr (.inr rfl))
    · rename_i b _
      rcases pxEnd_ph (pxLook { p with next := skip p p.next } (bkOf (bs.getD ({ p with next := skip p p.next } : Pxs).next.toNat bk0) p.ver)) h2 with ⟨a, b, c⟩ | a | a
      · refine .inl ⟨a, ?_, ?_⟩
        · rw [b]
          have e : (pxLook { p with next := skip p p.next } (bkOf (bs.getD ({ p with next := skip p p.next } : Pxs).next.toNat bk0) p.ver)).next = skip p (skip p p.next + 1) := rfl
          rw [e]
          have := hs p.next
          have := hs (skip p p.next + 1)
          omega
        · rw [b]; exact c
      · exact .inr (.inl a)
      · exact .inr (.inr (.inl a))
  · rename_i hn
    rcases pxEnd_ph { p with next := skip p p.next } h2 with ⟨a, b, c⟩ | a | a
    · exact absurd c hn
    · exact .inr (.inl a)
    · exact .inr (.inr (.inl a))

theorem mOf_1 {p : Pxs} (h : p.phase = 1) : mOf p = 13 := if_pos h
theorem mOf_2 {p : Pxs} (h : p.phase = 2) : mOf p = 12 - p.next.toNat := by unfold mOf; rw [if_neg (by omega), if_pos h]
theorem mOf_3 {p : Pxs} (h : p.phase = 3) : mOf p = 6 := by unfold mOf; rw [if_neg (by omega), if_neg (by omega), if_pos h]
theorem mOf_4 {p : Pxs} (h : p.phase = 4) : mOf p = 5 - p.next.toNat := by unfold mOf; rw [if_neg (by omega), if_neg (by omega), if_neg (by omega), if_pos h]
theorem mOf_5 {p : Pxs} (h : 5 ≤ p.phase) : mOf p = 0 := by unfold mOf; rw [if_neg (by omega), if_neg (by omega), if_neg (by omega), if_neg (by omega)]
theorem px_parts {p : Pxs} (h : pxB p = true) : (0 ≤ p.host ∧ p.host ≤ 3) ∧ (0 ≤ p.ver ∧ p.ver ≤ 1000000) ∧ (1 ≤ p.phase ∧ p.phase ≤ 6) ∧ (1 ≤ p.ballot ∧ p.ballot ≤ 1000000) ∧ (0 ≤ p.value ∧ p.value ≤ 2147483647) ∧ (0 ≤ p.next ∧ p.next ≤ 4) := by
  obtain ⟨a, b, c, d, e, f, g, _⟩ := pxB_iff.1 h
  exact ⟨a, b, c, d, f, g⟩
theorem mOf_le {p : Pxs} (h : pxB p = true) : mOf p ≤ 13 := by
  unfold mOf; split; · omega
  split; · omega
  split; · omega
  split <;> omega
theorem step_kinds {p : Pxs} {bs : List Bk} (hp : pxB p = true) (h5 : p.phase < 5) : ((p.phase = 2 ∨ p.phase = 4) ∧ pxStepP p bs = (pxRd p bs, bs)) ∨ ((p.phase = 1 ∨ p.phase = 3) ∧ pxNo p (pxOwn p bs) ∧ pxStepP p bs = ({ p with phase := 6 }, bs)) ∨
    ((p.phase = 1 ∨ p.phase = 3) ∧ ¬ pxNo p (pxOwn p bs) ∧ pxStepP p bs = (pxW1 p (pxOwn p bs), bs.set p.host.toNat (pxW2 p (pxOwn p bs)))) := by
  obtain ⟨_, _, ⟨h1, h6⟩, _⟩ := px_parts hp
  rcases (show p.phase = 1 ∨ p.phase = 2 ∨ p.phase = 3 ∨ p.phase = 4 by omega) with e | e | e | e
  · by_cases c : pxNo p (pxOwn p bs)
    · exact .inr (.inl ⟨.inl e, c, pxStepP_no bs (.inl e) c⟩)
    · exact .inr (.inr ⟨.inl e, c, pxStepP_wr bs (.inl e) c⟩)
  · exact .inl ⟨.inl e, pxStepP_rd bs (.inl e)⟩
  · by_cases c : pxNo p (pxOwn p bs)
    · exact .inr (.inl ⟨.inr e, c, pxStepP_no bs (.inr e) c⟩)
    · exact .inr (.inr ⟨.inr e, c, pxStepP_wr bs (.inr e) c⟩)
  · exact .inl ⟨.inr e, pxStepP_rd bs (.inr e)⟩
theorem w1_ph1 {p : Pxs} {o : Bk} (h : p.phase = 1) : (pxW1 p o).phase = 2 ∧ (pxW1 p o).next = 0 := by unfold pxW1; rw [if_pos h]; exact ⟨rfl, rfl⟩
theorem w1_ph3 {p : Pxs} {o : Bk} (h : p.phase = 3) : (pxW1 p o).phase = 4 ∧ (pxW1 p o).next = 0 := by unfold pxW1; rw [if_neg (by omega)]; exact ⟨rfl, rfl⟩
theorem w1_at (p : Pxs) (o : Bk) : (pxW1 p o).host = p.host ∧ (pxW1 p o).ballot = p.ballot ∧ (pxW1 p o).ver = p.ver := by unfold pxW1; split <;> exact ⟨rfl, rfl, rfl⟩
theorem step_less {p : Pxs} {bs : List Bk} (hp : pxB p = true) (h5 : p.phase < 5) : mOf (pxStepP p bs).1 < mOf p := by
  obtain ⟨_, _, _, _, _, n0, n4⟩ := px_parts hp
  rcases step_kinds (bs := bs) hp h5 with ⟨e, h⟩ | ⟨e, _, h⟩ | ⟨e, _, h⟩ <;> rw [h]
  · show mOf (pxRd p bs) < mOf p
    rcases pxRd_ph p bs e with ⟨a, b, c⟩ | ⟨a, b⟩ | ⟨a, b⟩ | a
    · rcases e with e | e
      · rw [mOf_2 e, mOf_2 (a.trans e)]; omega
      · rw [mOf_4 e, mOf_4 (a.trans e)]; omega
    · rw [mOf_2 a, mOf_3 b]; omega
    · rw [mOf_4 a, mOf_5 (by omega)]; omega
    · rw [mOf_5 (p := pxRd p bs) (by omega)]
      rcases e with e | e
      · rw [mOf_2 e]; omega
      · rw [mOf_4 e]; omega
  · rw [mOf_5 (p := { p with phase := 6 }) (by show (5 : Int) ≤ 6; decide)]
    rcases e with e | e
    · rw [mOf_1 e]; omega
    · rw [mOf_3 e]; omega
  · show mOf (pxW1 p (pxOwn p bs)) < mOf p
    rcases e with e | e
    · obtain ⟨a, b⟩ := w1_ph1 (o := pxOwn p bs) e
      rw [mOf_1 e, mOf_2 a]; omega
    · obtain ⟨a, b⟩ := w1_ph3 (o := pxOwn p bs) e
      rw [mOf_3 e, mOf_4 a, b]; decide
theorem own_set {bs : List Bk} {p : Pxs} {y : Bk} (h4 : bs.length = 4) (hh : 0 ≤ p.host ∧ p.host ≤ 3) : ownK p (bs.set p.host.toNat y) = y := by
  have : p.host.toNat < bs.length := by omega
  simp [ownK, this]
theorem wrote_iff {p : Pxs} {bs : List Bk} (hp : pxB p = true) (hb : bksB bs = true) (h5 : p.phase < 5) (hj : p.phase = 2 ∨ p.phase = 3 → (ownK p bs).bal < p.ballot) :
    (wroteB p.phase (pxStepP p bs).1.phase = true ∧ ownK p (pxStepP p bs).2 ≠ ownK p bs) ∨ (wroteB p.phase (pxStepP p bs).1.phase = false ∧ ownK p (pxStepP p bs).2 = ownK p bs) := by
  obtain ⟨h4, hk⟩ := bksB_parts hb
  obtain ⟨hh, _, _, hbal, _, n0, n4⟩ := px_parts hp
  rcases step_kinds (bs := bs) hp h5 with ⟨e, h⟩ | ⟨e, _, h⟩ | ⟨e, c, h⟩ <;> rw [h]
  · refine .inr ⟨?_, rfl⟩
    show wroteB p.phase (pxRd p bs).phase = false
    rcases e with e | e <;> simp [wroteB, e]
  · refine .inr ⟨?_, rfl⟩
    show wroteB p.phase 6 = false
    rcases e with e | e <;> simp [wroteB]
  · refine .inl ⟨?_, ?_⟩
    · show wroteB p.phase (pxW1 p (pxOwn p bs)).phase = true
      rcases e with e | e
      · rw [(w1_ph1 e).1, e]; rfl
      · rw [(w1_ph3 e).1, e]; rfl
    · show ownK p (bs.set p.host.toNat (pxW2 p (pxOwn p bs))) ≠ ownK p bs
      rw [own_set h4 hh]
      simp only [pxNo, not_or, not_and] at c
      obtain ⟨c1, c2, c3, c4⟩ := c
      intro heq
      have hO : pxOwn p bs = bkOf (ownK p bs) p.ver := rfl
      rcases e with e | e
      · have c3' := c3 e
        rw [hO] at c1 c2 c3' heq
        unfold pxW2 at heq
        rw [if_pos e] at heq
        have e1 := congrArg Bk.ver heq
        have e2 := congrArg Bk.mbal heq
        simp only at e1 e2
        unfold bkOf at c1 c2 c3'
        split at c3'
        · omega
        · rename_i hv
          rw [if_neg hv] at c2
          omega
      · have c4' := c4 e
        rw [hO] at c1 c2 c4' heq
        unfold pxW2 at heq
        rw [if_neg (by omega)] at heq
        have e2 := congrArg Bk.bal heq
        simp only at e2
        have := hj (.inr e)
        omega
theorem own_right {p : Pxs} {bs : List Bk} (hp : pxB p = true) (hb : bksB bs = true) : bkB (ownK p bs) = true := by
  obtain ⟨h4, hk⟩ := bksB_parts hb
  obtain ⟨hh, _⟩ := px_parts hp
  exact hk p.host.toNat (by omega)
theorem ElOK.step {h : Int} {s : Est} (k : ElOK h s) (h5 : s.p.phase < 5) : ElOK h (elStep s) := by
  obtain ⟨h4, hk⟩ := bksB_parts k.b
  obtain ⟨hh, hv, _, hbal, _, n0, n4⟩ := px_parts k.p
  obtain ⟨q1, q2⟩ := px_right k.p k.b
  obtain ⟨e1, e2⟩ := step_p s
  have hhost : (pxStepP s.p s.bs).1.host = s.p.host ∧ (pxStepP s.p s.bs).1.ballot = s.p.ballot := by
    rcases step_kinds (bs := s.bs) k.p h5 with ⟨e, hq⟩ | ⟨e, _, hq⟩ | ⟨e, _, hq⟩ <;> rw [hq]
    · exact ⟨(pxRd_at _ _).1, (pxRd_at _ _).2.1⟩
    · exact ⟨rfl, rfl⟩
    · exact ⟨(w1_at _ _).1, (w1_at _ _).2.1⟩
  have hj : (elStep s).p.phase = 2 ∨ (elStep s).p.phase = 3 → (ownK (elStep s).p (elStep s).bs).bal < (elStep s).p.ballot := by
    rw [e1, e2, hhost.2]
    intro hph
    have hO : ownK (pxStepP s.p s.bs).1 (pxStepP s.p s.bs).2 = ownK s.p (pxStepP s.p s.bs).2 := by unfold ownK; rw [hhost.1]
    rw [hO]
    rcases step_kinds (bs := s.bs) k.p h5 with ⟨e, hq⟩ | ⟨e, _, hq⟩ | ⟨e, c, hq⟩ <;> rw [hq] at hph ⊢
    · rcases e with e | e
      · exact k.j (.inl e)
      · rcases pxRd_ph s.p s.bs (.inr e) with ⟨a, _⟩ | ⟨a, _⟩ | ⟨_, a⟩ | a
        · have : (pxRd s.p s.bs).phase = 2 ∨ (pxRd s.p s.bs).phase = 3 := hph
          omega
        · omega
        · have : (pxRd s.p s.bs).phase = 2 ∨ (pxRd s.p s.bs).phase = 3 := hph
          omega
        · have : (pxRd s.p s.bs).phase = 2 ∨ (pxRd s.p s.bs).phase = 3 := hph
          omega
    · have : (6 : Int) = 2 ∨ (6 : Int) = 3 := hph
      omega
    · rcases e with e | e
      · show (ownK s.p (s.bs.set s.p.host.toNat (pxW2 s.p (pxOwn s.p s.bs)))).bal < s.p.ballot
        rw [own_set h4 hh]
        unfold pxW2
        rw [if_pos e]
        show (pxOwn s.p s.bs).bal < s.p.ballot
        have hr : bkB (pxOwn s.p s.bs) = true := bkOf_right (own_right k.p k.b) hv
        obtain ⟨_, _, b3, _⟩ := bkB_iff.1 hr
        simp only [pxNo, not_or, not_and] at c
        have := c.2.1
        have := c.2.2.1 e
        omega
      · have : (pxW1 s.p (pxOwn s.p s.bs)).phase = 2 ∨ (pxW1 s.p (pxOwn s.p s.bs)).phase = 3 := hph
        rw [(w1_ph3 e).1] at this
        omega
  have hd : diskB (elStep s).ss (elStep s).xs = true ∧ (elStep s).xs.length < 200 := by
    unfold elStep
    split
    · refine ⟨w_right k.d k.l hh.1 hh.2 (by omega) (by omega) (by rw [encB_size]; decide), ?_⟩
      exact Nat.lt_of_le_of_lt (wX_len _ _ _ _) k.l
    · exact ⟨k.d, k.l⟩
  exact ⟨by rw [e1]; exact q1, by rw [e2]; exact q2, hd.1, hd.2, by rw [e1, hhost.1]; exact k.o, hj⟩
theorem elRun_any {h : Int} : ∀ (n m : Nat) (s : Est), ElOK h s → mOf s.p ≤ n → mOf s.p ≤ m → elRun n s = elRun m s
  | 0, 0, _, _, _, _ => rfl
  | 0, m + 1, s, k, hn, _ => by
    have : ¬ s.p.phase < 5 := fun h5 => by have := step_less (bs := s.bs) k.p h5; omega
    rw [elRun, elRun, if_neg this]
  | n + 1, 0, s, k, _, hm => by
    have : ¬ s.p.phase < 5 := fun h5 => by have := step_less (bs := s.bs) k.p h5; omega
    rw [elRun, elRun, if_neg this]
  | n + 1, m + 1, s, k, hn, hm => by
    rw [elRun, elRun]
    by_cases h5 : s.p.phase < 5
    · rw [if_pos h5, if_pos h5]
      have := step_less (bs := s.bs) k.p h5
      have e := (step_p s).1
      exact elRun_any n m (elStep s) (k.step h5) (by rw [e]; omega) (by rw [e]; omega)
    · rw [if_neg h5, if_neg h5]
theorem elEnd_on {h : Int} {s : Est} (k : ElOK h s) (h5 : s.p.phase < 5) : elEnd (elStep s) = elEnd s := by
  have := step_less (bs := s.bs) k.p h5
  have hm := mOf_le k.p
  have e := (step_p s).1
  show elRun 13 (elStep s) = elRun 13 s
  rw [show elRun 13 s = elRun 12 (elStep s) from by rw [elRun, if_pos h5]]
  exact elRun_any 13 12 (elStep s) (k.step h5) (by rw [e]; omega) (by rw [e]; omega)
theorem elEnd_at {s : Est} (h5 : ¬ s.p.phase < 5) : elEnd s = s := by
  show elRun 13 s = s
  rw [elRun, if_neg h5]
theorem elRun_ok {h : Int} : ∀ (n : Nat) (s : Est), ElOK h s → ElOK h (elRun n s)
  | 0, _, k => k
  | n + 1, s, k => by
    rw [elRun]
    split
    · exact elRun_ok n _ (k.step (by assumption))
    · exact k
def ldOf (ss : List ByteArray) (xs : List Wr) (h : Int) : Ld := ldK (readV ss xs h 0)
def bksOf (ss : List ByteArray) (xs : List Wr) (h : Int) : List Bk := [bdK (readV ss xs h 1), bdK (readV ss xs h 2), bdK (readV ss xs h 3), bdK (readV ss xs h 4)]
theorem bdK_right (t : ByteArray) : bkB (bdK t) = true := by
  by_cases h : bdB t = true
  · exact bd_right h
  · rw [Bool.not_eq_true] at h; rw [bd_no h]; rfl
theorem bksOf_right (ss : List ByteArray) (xs : List Wr) (h : Int) : bksB (bksOf ss xs h) = true := by
  simp [bksB, bksOf, bdK_right]
def leC (ss : List ByteArray) (xs : List Wr) (h : Int) : Int := if hostC ss xs h = 0 then (if xs.length = 200 then 7 else 0) else hostC ss xs h
theorem leC_host {ss : List ByteArray} {xs : List Wr} {h : Int} (e : hostC ss xs h ≠ 0) : leC ss xs h = hostC ss xs h := if_neg e
theorem leC_full {ss : List ByteArray} {xs : List Wr} {h : Int} (e : hostC ss xs h = 0) (l : xs.length = 200) : leC ss xs h = 7 := by rw [leC, if_pos e, if_pos l]
theorem leC_ok {ss : List ByteArray} {xs : List Wr} {h : Int} (e : hostC ss xs h = 0) (l : ¬ xs.length = 200) : leC ss xs h = 0 := by rw [leC, if_pos e, if_neg l]
theorem leC_eq {ss : List ByteArray} {xs : List Wr} {h : Int} (e : leC ss xs h = 0) : diskB ss xs = true ∧ (0 ≤ h ∧ h ≤ 3) ∧ xs.length < 200 := by
  by_cases e0 : hostC ss xs h = 0
  · obtain ⟨ed, e1, e2⟩ := hostC_eq e0
    by_cases l : xs.length = 200
    · rw [leC_full e0 l] at e; cases e
    · have := (diskB_len ed).2
      exact ⟨ed, ⟨e1, e2⟩, by omega⟩
  · rw [leC_host e0] at e; exact absurd e e0
structure Ans where
  ss : List ByteArray
  xs : List Wr
  l : Ld
  c : Int
def leadOf (v : Int) (value : Int) : Ld := ⟨v, value % 1024, value / 1024⟩
def elTry (ss : List ByteArray) (xs : List Wr) (h o g : Int) : Pxs := ⟨h, (ldOf ss xs h).ver + 1, 1, nxBal h ((ldOf ss xs h).ver + 1) (bksOf ss xs h), 1024 * g + o, 0, 0, 0⟩
def elFrom (ss : List ByteArray) (xs : List Wr) (h o g : Int) : Est := ⟨ss, xs, elTry ss xs h o g, bksOf ss xs h⟩
def elLast (h : Int) (old : Ld) (e : Est) : Ans :=
  if e.p.phase = 5 ∧ ldB (leadOf (old.ver + 1) e.p.value) = true then ⟨wS e.ss e.xs h 0 (encL (leadOf (old.ver + 1) e.p.value)), wX e.xs h 0 (encL (leadOf (old.ver + 1) e.p.value)), leadOf (old.ver + 1) e.p.value, 0⟩
  else ⟨e.ss, e.xs, old, 19⟩
def elMany (ss : List ByteArray) (xs : List Wr) (h : Int) : Bool := decide (1000000 < (ldOf ss xs h).ver + 1) || decide (1000000 < nxBal h ((ldOf ss xs h).ver + 1) (bksOf ss xs h))
def elA (ss : List ByteArray) (xs : List Wr) (h o g : Int) : Ans :=
  if leC ss xs h = 0 then
    (if (inB o 0 3 && inB g 1 1000000) = true then
      (if elMany ss xs h = true then ⟨ss, xs, ldOf ss xs h, 6⟩ else elLast h (ldOf ss xs h) (elEnd (elFrom ss xs h o g)))
    else ⟨[], [], ld0, 4⟩)
  else ⟨[], [], ld0, leC ss xs h⟩
theorem elA_room {ss : List ByteArray} {xs : List Wr} {h o g : Int} (e : leC ss xs h ≠ 0) : elA ss xs h o g = ⟨[], [], ld0, leC ss xs h⟩ := if_neg e
theorem elA_range {ss : List ByteArray} {xs : List Wr} {h o g : Int} (e : leC ss xs h = 0) (e1 : (inB o 0 3 && inB g 1 1000000) = false) : elA ss xs h o g = ⟨[], [], ld0, 4⟩ := by rw [elA, if_pos e, if_neg (by simp [e1])]
theorem elA_many {ss : List ByteArray} {xs : List Wr} {h o g : Int} (e : leC ss xs h = 0) (e1 : (inB o 0 3 && inB g 1 1000000) = true) (e2 : elMany ss xs h = true) : elA ss xs h o g = ⟨ss, xs, ldOf ss xs h, 6⟩ := by rw [elA, if_pos e, if_pos e1, if_pos e2]
theorem elA_end {ss : List ByteArray} {xs : List Wr} {h o g : Int} (e : leC ss xs h = 0) (e1 : (inB o 0 3 && inB g 1 1000000) = true) (e2 : elMany ss xs h = false) : elA ss xs h o g = elLast h (ldOf ss xs h) (elEnd (elFrom ss xs h o g)) := by rw [elA, if_pos e, if_pos e1, if_neg (by simp [e2])]
theorem elFrom_ok {ss : List ByteArray} {xs : List Wr} {h o g : Int} (e : leC ss xs h = 0) (e1 : (inB o 0 3 && inB g 1 1000000) = true) (e2 : elMany ss xs h = false) : ElOK h (elFrom ss xs h o g) := by
  obtain ⟨ed, ⟨h0, h3⟩, el⟩ := leC_eq e
  simp only [elMany, Bool.or_eq_false_iff, decide_eq_false_iff_not] at e2
  simp only [inB, Bool.and_eq_true, decide_eq_true_eq] at e1
  have hl := (ldB_lo (ld_right (readV ss xs h 0))).1
  have hl' : 0 ≤ (ldOf ss xs h).ver ∧ (ldOf ss xs h).ver ≤ 1000000 := hl
  obtain ⟨n, rfl⟩ : ∃ n : Nat, h = n := ⟨h.toNat, by omega⟩
  have hm := nxBal_mod (bksOf ss xs n) (h := n) (by omega) ((ldOf ss xs n).ver + 1)
  have hg := nxBal_gt (bs := bksOf ss xs n) n 0 (by simp [bksOf]) ((ldOf ss xs n).ver + 1)
  have hb0 : 0 ≤ (bkOf ((bksOf ss xs n).getD 0 bk0) ((ldOf ss xs n).ver + 1)).mbal := by
    have := bkB_iff.1 (bkOf_right (v := (ldOf ss xs n).ver + 1) (bdK_right (readV ss xs n 1)) (by omega))
    exact this.2.1.1
  refine ⟨?_, bksOf_right ss xs n, ed, el, rfl, ?_⟩
  · refine pxB_iff.2 ⟨⟨h0, h3⟩, ⟨by show 0 ≤ (ldOf ss xs n).ver + 1; omega, by show (ldOf ss xs n).ver + 1 ≤ 1000000; omega⟩, ⟨by show (1 : Int) ≤ 1; decide, by show (1 : Int) ≤ 6; decide⟩, ⟨?_, ?_⟩, hm, ⟨?_, ?_⟩, ⟨by show (0 : Int) ≤ 0; decide, by show (0 : Int) ≤ 4; decide⟩, ⟨by show (0 : Int) ≤ 0; decide, by show (0 : Int) ≤ 2147483647; decide⟩, by show (0 : Int) ≤ 0; decide, by show (0 : Int) ≤ 1000000; decide⟩
    · show 1 ≤ nxBal n _ _; omega
    · show nxBal n _ _ ≤ 1000000; omega
    · show 0 ≤ 1024 * g + o; omega
    · show 1024 * g + o ≤ 2147483647; omega
  · intro hp
    have : (1 : Int) = 2 ∨ (1 : Int) = 3 := hp
    omega

def sameL (a b : Ld) : Bool := decide (a.ver = b.ver) && (decide (a.own = b.own) && decide (a.gen = b.gen))
theorem sameL_iff {a b : Ld} : sameL a b = true ↔ a = b := by
  rw [Ld.eq_iff]; simp [sameL]
def rsA (ss : List ByteArray) (xs : List Wr) (h : Int) (x : Ld) : Ans :=
  if leC ss xs h = 0 then
    (if ldB x = true then
      (if sameL (ldOf ss xs h) x = true then
        (if x.own = h then
          (if x.ver = 1000000 then ⟨ss, xs, x, 6⟩ else ⟨wS ss xs h 0 (encL (ldN (x.ver + 1))), wX xs h 0 (encL (ldN (x.ver + 1))), ldN (x.ver + 1), 0⟩)
        else ⟨ss, xs, x, 9⟩)
      else ⟨ss, xs, ldOf ss xs h, 13⟩)
    else ⟨[], [], ld0, 1⟩)
  else ⟨[], [], ld0, leC ss xs h⟩
def rlK (ss : List ByteArray) (xs : List Wr) (h : Int) : Ld := if hostC ss xs h = 0 then ldOf ss xs h else ld0
def hlB (ss : List ByteArray) (xs : List Wr) (h g : Int) : Bool := decide (hostC ss xs h = 0) && (decide ((ldOf ss xs h).own = h) && decide ((ldOf ss xs h).gen = g))

end Go.Proofs.YtefnapcegeojoaaGreatDoor

namespace Go.Proofs.YtefnapcegeojoaaGreatDoor
open Go.RowKit
set_option linter.unusedVariables false
set_option maxRecDepth 100000

theorem ret_l {a b : Ld} (h : a = b) : Ending.returned (lV a) = .returned (lV b) := by rw [h]
theorem ret_bi2 {a b : Bool} {x y : Int} (h : a = b) (k : x = y) : Ending.returned (.tuple #[.bool a, .int .i64 x]) = .returned (.tuple #[.bool b, .int .i64 y]) := by rw [h, k]
theorem varL_new (w : World) (x : Obj) (a b c : Int) : VarT ((w.alloc x).alloc (.cells #[.int .i64 a, .int .i64 b, .int .i64 c] 30)) (w.heap.size + 1) 30 a b c := by
  have := VarT.new (w.alloc x) 30 a b c
  simp only [World.size_alloc] at this
  exact this

set_option maxHeartbeats 1600000 in
theorem l06Read_any (ao bo : Option Addr) (ca cb : Nat) (ss : List ByteArray) (xs : List Wr) (h : Int) (L : Ld) (w : World) (hL : ldOf ss xs h = L) (hd : diskB ss xs = true) (h1 : Ss w ao ss) (h2 : Ios w bo xs) :
    Calls Tryz.prog 51 #[.agg #[.slice ao ss.length ca, .slice bo xs.length cb], .int .i64 h] w fun e w' => e = .returned (lV L) ∧ Below w.heap.size w w' := by
  have HS := hide (readV_size hd h 0)
  obtain ⟨hlen, hlx⟩ := diskB_len hd
  have HL : Hid (ss.length ≤ 1048576) := hide (by omega)
  have HN : Hid (0 < ss.length) := hide (by omega)
  have HM : Hid (xs.length ≤ maxLen) := hide (by unfold maxLen; omega)
  have HA := hide (Joins.below_alloc2 w (.cells #[.slice ao ss.length ca, .slice bo xs.length cb] 26) (.cells #[.int .i64 0, .int .i64 0, .int .i64 0] 30))
  have H1 := hide (h1.below (unhide HA))
  have H2 := hide (h2.below (unhide HA))
  have HR := hide (varL_new w (.cells #[.slice ao ss.length ca, .slice bo xs.length cb] 26) 0 0 0)
  obtain ⟨T, HT⟩ : ∃ T, Hid (readV ss xs h 0 = T) := ⟨_, hide rfl⟩
  have HK : Hid (ldK T = L) := hide (by rw [← unhide HT]; exact hL)
  rw [unhide HT] at HS
  clear h1 h2 hd hlen hlx hL
  go_enter Tryz.func51, Tryz.ntmps51
  go_wp2_with fail
  refine Calls.mono (show Calls _ _ #[.agg #[.slice ao ss.length ca, .slice bo xs.length cb], .int .i64 h, .int .i64 0] _ _ from l01Read_any _ _ _ _ ss xs h 0 _ (unhide HN) (unhide HL) (unhide HM) (unhide H1) (unhide H2)) ?_
  rintro e w1 ⟨rfl, hb1⟩
  have HB1 := hide (fr (unhide HA) hb1)
  have HR1 := hide ((unhide HR).below hb1)
  rw [show readV ss xs h ((0 : Nat) : Int) = T from unhide HT]
  clear hb1
  go_wp2_with fail
  refine (l06Decode_any T _ (Nat.le_trans (unhide HS) (by decide))).mono ?_
  rintro e w2 ⟨rfl, hb2⟩
  rw [unhide HK]
  have HB2 := hide (fr (unhide HB1) hb2)
  have HR2 := hide ((unhide HR1).below hb2)
  obtain ⟨hc0, hc1, hc2⟩ := (unhide HR2).cells
  obtain ⟨hf0, hf1, hf2⟩ := (unhide HR2).free
  have hlt := (unhide HR2).lt
  have HE := hide (fun u v x => fr (below3 (g := w.heap.size + 1) (unhide HB2) (by omega) 0 1 2 u v x) (Joins.below_alloc1 _ (.cells #[.int .i64 L.ver, .int .i64 L.own, .int .i64 L.gen] 30)))
  clear hb2
  go_wp2
  exact bodyPost_ret (v := lV L) (by simp [results, Tryz.results51, go_sem, hc0, hc1, hc2, hlt]) rfl ⟨rfl, unhide HE _ _ _⟩

end Go.Proofs.YtefnapcegeojoaaGreatDoor

namespace Go.Proofs.YtefnapcegeojoaaGreatDoor
open Go.RowKit
set_option linter.unusedVariables false
set_option maxRecDepth 100000

theorem hidB {p : Prop} (h : p) : Hid p := h
def betw (n low high : Int) : Bool := decide (low ≤ n) && decide (n ≤ high)
theorem betw_yes {n low high : Int} (h : low ≤ n) (h' : n ≤ high) : betw n low high = true := by simp [betw, h, h']
theorem betw_no {n low high : Int} (h : ¬ (low ≤ n ∧ n ≤ high)) : betw n low high = false := by simp only [betw, Bool.and_eq_false_iff, decide_eq_false_iff_not]; omega
set_option maxHeartbeats 800000 in
theorem within_any (n low high : Int) (w : World) : Calls Tryz.prog 48 #[.int .i64 n, .int .i64 low, .int .i64 high] w fun e w' => e = .returned (.bool (betw n low high)) ∧ w' = w := by
  by_cases h1 : low ≤ n
  · by_cases h2 : n ≤ high
    · have hr := hidB (betw_yes h1 h2)
      go_enter Tryz.func48, Tryz.ntmps48
      go_wp2
      go_ret
      rw [show betw n low high = true from hr]
      exact ⟨rfl, rfl⟩
    · have hr := hidB (betw_no (n := n) (low := low) (high := high) (by omega))
      go_enter Tryz.func48, Tryz.ntmps48
      go_wp2
      go_ret
      rw [show betw n low high = false from hr]
      exact ⟨rfl, rfl⟩
  · have hr := hidB (betw_no (n := n) (low := low) (high := high) (by omega))
    go_enter Tryz.func48, Tryz.ntmps48
    go_wp2
    go_ret
    rw [show betw n low high = false from hr]
    exact ⟨rfl, rfl⟩
end Go.Proofs.YtefnapcegeojoaaGreatDoor
