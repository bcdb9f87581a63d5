import Derived.Test.YtjmianalknnekabGreatDoorRows
import Derived.Test.YtjmianalknnekabGreatDoorPart1
import Derived.Test.YtjmianalknnekabGreatDoorPart4
import Derived.Test.YtjmianalknnekabGreatDoorPart12
import Derived.Test.YtjmianalknnekabGreatDoorPart13
import Derived.WalkKit
import Derived.Test.YtjmianalknnekabGreatDoorPart3
import Derived.Test.YtjmianalknnekabGreatDoorPart8
import Derived.Test.YtjmianalknnekabGreatDoorPart6
import Derived.WalkSpells
import Derived.KernelRfl
import Derived.Deep.MidRow
import Derived.Deep.CutRange
import Derived.Test.YtjmianalknnekabGreatDoorPart2
import Derived.Lib.SmallJoins

/- The program's store of a leader in a variable: its cells, what it owns. -/
namespace Go.Proofs.YtjmianalknnekabGreatDoor
open Go.RowKit
set_option linter.unusedVariables false
set_option maxRecDepth 100000

def VarS (w : World) (x : Nat) (p : Pxs) (b s d : Value) (L : Ld) : Prop := w.heap[x]? = some (.cells #[.int .i64 p.host, .int .i64 p.ver, .int .i64 p.phase, .int .i64 p.ballot, .int .i64 p.value, .int .i64 p.next, .int .i64 p.best, .int .i64 p.bestBal, b, s, d, .int .i64 L.ver, .int .i64 L.own, .int .i64 L.gen] 59 (0, 0))
theorem VarS.lt {w : World} {x : Nat} {p : Pxs} {b s d : Value} {L : Ld} (k : VarS w x p b s d L) : x < w.heap.size := (Array.getElem?_eq_some_iff.1 k).1
theorem VarS.px {w : World} {x : Nat} {p : Pxs} {b s d : Value} {L : Ld} (k : VarS w x p b s d L) : w.cell? ⟨x, 0, none⟩ = some (.int .i64 p.host) ∧ w.cell? ⟨x, 1, none⟩ = some (.int .i64 p.ver) ∧ w.cell? ⟨x, 2, none⟩ = some (.int .i64 p.phase) ∧ w.cell? ⟨x, 3, none⟩ = some (.int .i64 p.ballot) ∧ w.cell? ⟨x, 4, none⟩ = some (.int .i64 p.value) ∧ w.cell? ⟨x, 5, none⟩ = some (.int .i64 p.next) ∧ w.cell? ⟨x, 6, none⟩ = some (.int .i64 p.best) ∧ w.cell? ⟨x, 7, none⟩ = some (.int .i64 p.bestBal) :=
  ⟨by rw [Joins.cell_of_block k]; rfl, by rw [Joins.cell_of_block k]; rfl, by rw [Joins.cell_of_block k]; rfl, by rw [Joins.cell_of_block k]; rfl, by rw [Joins.cell_of_block k]; rfl, by rw [Joins.cell_of_block k]; rfl, by rw [Joins.cell_of_block k]; rfl, by rw [Joins.cell_of_block k]; rfl⟩
theorem VarS.rest {w : World} {x : Nat} {p : Pxs} {b s d : Value} {L : Ld} (k : VarS w x p b s d L) : w.cell? ⟨x, 8, none⟩ = some b ∧ w.cell? ⟨x, 9, none⟩ = some s ∧ w.cell? ⟨x, 10, none⟩ = some d ∧ w.cell? ⟨x, 11, none⟩ = some (.int .i64 L.ver) ∧ w.cell? ⟨x, 12, none⟩ = some (.int .i64 L.own) ∧ w.cell? ⟨x, 13, none⟩ = some (.int .i64 L.gen) :=
  ⟨by rw [Joins.cell_of_block k]; rfl, by rw [Joins.cell_of_block k]; rfl, by rw [Joins.cell_of_block k]; rfl, by rw [Joins.cell_of_block k]; rfl, by rw [Joins.cell_of_block k]; rfl, by rw [Joins.cell_of_block k]; rfl⟩
theorem VarS.free {w : World} {x : Nat} {p : Pxs} {b s d : Value} {L : Ld} (k : VarS w x p b s d L) (i : Nat) : w.frozen? ⟨x, i, none⟩ = false := Joins.unfrozen_of_block k i
theorem VarS.below {w w' : World} {x : Nat} {p : Pxs} {b s d : Value} {L : Ld} (k : VarS w x p b s d L) (hb : Below w.heap.size w w') : VarS w' x p b s d L := by
  unfold VarS; rw [hb.block x k.lt]; exact k
theorem VarS.keep {S : Nat → Prop} {w w' : World} {x : Nat} {p : Pxs} {b s d : Value} {L : Ld} (k : VarS w x p b s d L) (hk : Keep S w w') (hs : ¬ S x) : VarS w' x p b s d L := by
  unfold VarS; rw [hk.block x k.lt hs]; exact k
theorem VarS.new (w : World) (p : Pxs) (b s d : Value) (L : Ld) : VarS (w.alloc (.cells #[.int .i64 p.host, .int .i64 p.ver, .int .i64 p.phase, .int .i64 p.ballot, .int .i64 p.value, .int .i64 p.next, .int .i64 p.best, .int .i64 p.bestBal, b, s, d, .int .i64 L.ver, .int .i64 L.own, .int .i64 L.gen] 59)) w.heap.size p b s d L := heap_alloc_new w _
/-- A try is stored; the blocks; the disk; the leader. -/
abbrev set8 (w : World) (x : Nat) (q : Pxs) : World := (((((((w.setCell ⟨x, 0, none⟩ (.int .i64 q.host)).setCell ⟨x, 1, none⟩ (.int .i64 q.ver)).setCell ⟨x, 2, none⟩ (.int .i64 q.phase)).setCell ⟨x, 3, none⟩ (.int .i64 q.ballot)).setCell ⟨x, 4, none⟩ (.int .i64 q.value)).setCell ⟨x, 5, none⟩ (.int .i64 q.next)).setCell ⟨x, 6, none⟩ (.int .i64 q.best)).setCell ⟨x, 7, none⟩ (.int .i64 q.bestBal)
theorem VarS.set0 {w : World} {x : Nat} {p : Pxs} {b s d : Value} {L : Ld} (k : VarS w x p b s d L) (n : Int) : VarS (w.setCell ⟨x, 0, none⟩ (.int .i64 n)) x { p with host := n } b s d L := set_heap (i := 0) k _
theorem VarS.set1 {w : World} {x : Nat} {p : Pxs} {b s d : Value} {L : Ld} (k : VarS w x p b s d L) (n : Int) : VarS (w.setCell ⟨x, 1, none⟩ (.int .i64 n)) x { p with ver := n } b s d L := set_heap (i := 1) k _
theorem VarS.set2 {w : World} {x : Nat} {p : Pxs} {b s d : Value} {L : Ld} (k : VarS w x p b s d L) (n : Int) : VarS (w.setCell ⟨x, 2, none⟩ (.int .i64 n)) x { p with phase := n } b s d L := set_heap (i := 2) k _
theorem VarS.set3 {w : World} {x : Nat} {p : Pxs} {b s d : Value} {L : Ld} (k : VarS w x p b s d L) (n : Int) : VarS (w.setCell ⟨x, 3, none⟩ (.int .i64 n)) x { p with ballot := n } b s d L := set_heap (i := 3) k _
theorem VarS.set4 {w : World} {x : Nat} {p : Pxs} {b s d : Value} {L : Ld} (k : VarS w x p b s d L) (n : Int) : VarS (w.setCell ⟨x, 4, none⟩ (.int .i64 n)) x { p with value := n } b s d L := set_heap (i := 4) k _
theorem VarS.set5 {w : World} {x : Nat} {p : Pxs} {b s d : Value} {L : Ld} (k : VarS w x p b s d L) (n : Int) : VarS (w.setCell ⟨x, 5, none⟩ (.int .i64 n)) x { p with next := n } b s d L := set_heap (i := 5) k _
theorem VarS.set6 {w : World} {x : Nat} {p : Pxs} {b s d : Value} {L : Ld} (k : VarS w x p b s d L) (n : Int) : VarS (w.setCell ⟨x, 6, none⟩ (.int .i64 n)) x { p with best := n } b s d L := set_heap (i := 6) k _
theorem VarS.set7 {w : World} {x : Nat} {p : Pxs} {b s d : Value} {L : Ld} (k : VarS w x p b s d L) (n : Int) : VarS (w.setCell ⟨x, 7, none⟩ (.int .i64 n)) x { p with bestBal := n } b s d L := set_heap (i := 7) k _
theorem VarS.put {w : World} {x : Nat} {p : Pxs} {b s d : Value} {L : Ld} (k : VarS w x p b s d L) (q : Pxs) : VarS (set8 w x q) x q b s d L := (((((((k.set0 q.host).set1 q.ver).set2 q.phase).set3 q.ballot).set4 q.value).set5 q.next).set6 q.best).set7 q.bestBal
theorem VarS.row {w : World} {x : Nat} {p : Pxs} {b s d : Value} {L : Ld} (k : VarS w x p b s d L) (b' : Value) : VarS (w.setCell ⟨x, 8, none⟩ b') x p b' s d L := set_heap (i := 8) k b'
theorem VarS.disk {w : World} {x : Nat} {p : Pxs} {b s d : Value} {L : Ld} (k : VarS w x p b s d L) (s' d' : Value) : VarS ((w.setCell ⟨x, 9, none⟩ s').setCell ⟨x, 10, none⟩ d') x p b s' d' L := set_heap (i := 10) (set_heap (i := 9) k s') d'
theorem VarS.lead {w : World} {x : Nat} {p : Pxs} {b s d : Value} {L : Ld} (k : VarS w x p b s d L) (M : Ld) : VarS (((w.setCell ⟨x, 11, none⟩ (.int .i64 M.ver)).setCell ⟨x, 12, none⟩ (.int .i64 M.own)).setCell ⟨x, 13, none⟩ (.int .i64 M.gen)) x p b s d M := set_heap (i := 13) (set_heap (i := 12) (set_heap (i := 11) k (.int .i64 M.ver)) (.int .i64 M.own)) (.int .i64 M.gen)

/-- The store, and what it owns. -/
structure Sto (W : World) (B x : Nat) (s : Est) (L : Ld) (bo : Option Addr) (ba : Nat) (ao : Option Addr) (ca : Nat) (qo : Option Addr) (cb : Nat) : Prop where
  v : VarS W x s.p (.slice bo 4 ba) (.slice ao s.ss.length ca) (.slice qo s.xs.length cb) L
  b : OwnR W B 91 4 (.slice bo 4 ba) 4 (bksV s.bs)
  d : OwnD W B ao s.ss.length ca qo s.xs.length cb s.ss s.xs
  k : B ≤ x
theorem Sto.below {W W' : World} {B x : Nat} {s : Est} {L : Ld} {bo ao qo : Option Addr} {ba ca cb : Nat} (h : Sto W B x s L bo ba ao ca qo cb) (hb : Below W.heap.size W W') : Sto W' B x s L bo ba ao ca qo cb := ⟨h.v.below hb, h.b.below hb, h.d.below hb, h.k⟩
theorem Sto.bks {W : World} {B x : Nat} {s : Est} {L : Ld} {bo ao qo : Option Addr} {ba ca cb : Nat} (h : Sto W B x s L bo ba ao ca qo cb) (h4 : s.bs.length = 4) : Bks W bo s.bs :=
  ownBks (B := B) (e := 91) (cap := ba) (by rw [h4]; exact h.b)
/-- Of its own cells nothing lies in what it owns. -/
theorem rowX {W W' : World} {B x n : Nat} {p : Pxs} {b s d v : Value} {L : Ld} {xs : List Value} (hv : VarS W x p b s d L) (h : OwnR W B 91 4 v n xs) (hk : Keep (fun j => j = x) W W') : OwnR W' B 91 4 v n xs :=
  h.keep hk (fun g hg e => by have e' : g = x := e; subst e'; exact h.other hv (by decide) hg)
theorem diskX {W W' : World} {B x n m ca cb : Nat} {p : Pxs} {b s d : Value} {L : Ld} {ao bo : Option Addr} {ss : List ByteArray} {xs : List Wr} (hv : VarS W x p b s d L) (h : OwnD W B ao n ca bo m cb ss xs) (hk : Keep (fun j => j = x) W W') : OwnD W' B ao n ca bo m cb ss xs :=
  h.keep hk (fun g hg e => by have e' : g = x := e; subst e'; exact h.other hv (by decide) (by decide) hg)
theorem Sto.owns {W W' : World} {B x : Nat} {s : Est} {L : Ld} {bo ao qo : Option Addr} {ba ca cb : Nat} (h : Sto W B x s L bo ba ao ca qo cb) (hk : Keep (fun j => j = x) W W') : OwnR W' B 91 4 (.slice bo 4 ba) 4 (bksV s.bs) ∧ OwnD W' B ao s.ss.length ca qo s.xs.length cb s.ss s.xs :=
  ⟨rowX h.v h.b hk, diskX h.v h.d hk⟩
theorem keep_set8 (W : World) (x : Nat) (q : Pxs) : Keep (fun j => j = x) W (set8 W x q) := keep8 (Keep.refl (fun j => j = x) W) (show x = x from rfl) _ _ _ _ _ _ _ _
theorem keep_row (W : World) (x : Nat) (b : Value) : Keep (fun j => j = x) W (W.setCell ⟨x, 8, none⟩ b) := (Keep.refl (fun j => j = x) W).setCell (p := ⟨x, 8, none⟩) rfl b
theorem keep_disk (W : World) (x : Nat) (a b : Value) : Keep (fun j => j = x) W ((W.setCell ⟨x, 9, none⟩ a).setCell ⟨x, 10, none⟩ b) := ((Keep.refl (fun j => j = x) W).setCell (p := ⟨x, 9, none⟩) rfl a).setCell (p := ⟨x, 10, none⟩) rfl b
theorem keep_lead (W : World) (x : Nat) (a b c : Value) : Keep (fun j => j = x) W (((W.setCell ⟨x, 11, none⟩ a).setCell ⟨x, 12, none⟩ b).setCell ⟨x, 13, none⟩ c) := (((Keep.refl (fun j => j = x) W).setCell (p := ⟨x, 11, none⟩) rfl a).setCell (p := ⟨x, 12, none⟩) rfl b).setCell (p := ⟨x, 13, none⟩) rfl c
/-- Another try. -/
theorem Sto.try {W : World} {B x : Nat} {s : Est} {L : Ld} {bo ao qo : Option Addr} {ba ca cb : Nat} (h : Sto W B x s L bo ba ao ca qo cb) (q : Pxs) : Sto (set8 W x q) B x ⟨s.ss, s.xs, q, s.bs⟩ L bo ba ao ca qo cb :=
  ⟨h.v.put q, (h.owns (keep_set8 W x q)).1, (h.owns (keep_set8 W x q)).2, h.k⟩
/-- Another try and other blocks: those were made by a call. -/
theorem Sto.step {W W' : World} {B x : Nat} {s : Est} {L : Ld} {bo ao qo ro : Option Addr} {ba ca cb ra : Nat} {bs : List Bk} (h : Sto W B x s L bo ba ao ca qo cb) (hb : Below W.heap.size W W') (ho : OwnR W' W.heap.size 91 4 (.slice ro 4 ra) 4 (bksV bs)) (q : Pxs) :
    Sto ((set8 W' x q).setCell ⟨x, 8, none⟩ (.slice ro 4 ra)) B x ⟨s.ss, s.xs, q, bs⟩ L ro ra ao ca qo cb ∧ Keep (fun j => j = x) W ((set8 W' x q).setCell ⟨x, 8, none⟩ (.slice ro 4 ra)) := by
  have hk : Keep (fun j => j = x) W' ((set8 W' x q).setCell ⟨x, 8, none⟩ (.slice ro 4 ra)) := (keep_set8 W' x q).trans (keep_row _ x _)
  have h' := h.below hb
  have ho' : OwnR W' B 91 4 (.slice ro 4 ra) 4 (bksV bs) := ho.base (Nat.le_trans h.k (Nat.le_of_lt h.v.lt))
  exact ⟨⟨(h'.v.put q).row _, rowX h'.v ho' hk, (h'.owns hk).2, h.k⟩, (Keep.of_below hb).trans hk⟩
/-- Another disk, made by a call. -/
theorem Sto.write {W W' : World} {B x : Nat} {s : Est} {L : Ld} {bo ao qo ro so : Option Addr} {ba ca cb ra sa : Nat} {S : List ByteArray} {X : List Wr} (h : Sto W B x s L bo ba ao ca qo cb) (hb : Below W.heap.size W W') (ho : OwnD W' W.heap.size ro S.length ra so X.length sa S X) :
    Sto ((W'.setCell ⟨x, 9, none⟩ (.slice ro S.length ra)).setCell ⟨x, 10, none⟩ (.slice so X.length sa)) B x ⟨S, X, s.p, s.bs⟩ L bo ba ro ra so sa ∧ Keep (fun j => j = x) W ((W'.setCell ⟨x, 9, none⟩ (.slice ro S.length ra)).setCell ⟨x, 10, none⟩ (.slice so X.length sa)) := by
  have hk := keep_disk W' x (.slice ro S.length ra) (.slice so X.length sa)
  have h' := h.below hb
  have ho' : OwnD W' B ro S.length ra so X.length sa S X := ho.base (Nat.le_trans h.k (Nat.le_of_lt h.v.lt))
  exact ⟨⟨h'.v.disk _ _, (h'.owns hk).1, diskX h'.v ho' hk, h.k⟩, (Keep.of_below hb).trans hk⟩
theorem Sto.leader {W : World} {B x : Nat} {s : Est} {L : Ld} {bo ao qo : Option Addr} {ba ca cb : Nat} (h : Sto W B x s L bo ba ao ca qo cb) (M : Ld) : Sto (((W.setCell ⟨x, 11, none⟩ (.int .i64 M.ver)).setCell ⟨x, 12, none⟩ (.int .i64 M.own)).setCell ⟨x, 13, none⟩ (.int .i64 M.gen)) B x s M bo ba ao ca qo cb :=
  ⟨h.v.lead M, (h.owns (keep_lead W x _ _ _)).1, (h.owns (keep_lead W x _ _ _)).2, h.k⟩
/-- With whatever addresses. -/
def StoE (W : World) (B x : Nat) (s : Est) (L : Ld) : Prop := ∃ bo ba ao ca qo cb, Sto W B x s L bo ba ao ca qo cb

end Go.Proofs.YtjmianalknnekabGreatDoor

/- Contracts of the methods of the program's store that only read, and of what they reckon: own, hasEnded, ballotValue, leaderOf; roomFault. -/
namespace Go.Proofs.YtjmianalknnekabGreatDoor
open Go.RowKit
set_option linter.unusedVariables false
set_option maxRecDepth 100000

theorem ended_iff {p : Pxs} (hp : pxB p = true) : ((p.phase == 5) || (p.phase == 6)) = decide (¬ p.phase < 5) := by
  obtain ⟨_, _, ⟨h1, h6⟩, _⟩ := px_parts hp
  rw [Bool.eq_iff_iff]; simp; omega
set_option maxHeartbeats 1600000 in
theorem roomFault_any (ao bo : Option Addr) (ca cb : Nat) (ss : List ByteArray) (xs : List Wr) (h : Int) (w : World) (hl : ss.length ≤ maxLen) (hm : xs.length ≤ maxLen) (h1 : Ss w ao ss) (h2 : Ios w bo xs) :
    Calls Tryz.prog 24 #[.agg #[.slice ao ss.length ca, .slice bo xs.length cb], .int .i64 h] w fun e w' => e = .returned (.int .i64 (leC ss xs h)) ∧ Below w.heap.size w w' := by
  have HA := hide (Joins.below_alloc1 w (.cells #[.slice ao ss.length ca, .slice bo xs.length cb] 31))
  have H1 := hide (h1.below (unhide HA))
  have H2 := hide (h2.below (unhide HA))
  have HV := hide (VarD.new w (.slice ao ss.length ca) (.slice bo xs.length cb))
  have HL := hide hl
  have HM := hide hm
  clear h1 h2 hl hm
  go_enter Tryz.func24, Tryz.ntmps24
  go_wp2_with fail
  refine (hostFault_any _ _ _ _ ss xs h _ (unhide HL) (unhide HM) (unhide H1) (unhide H2)).mono ?_
  rintro e w1 ⟨rfl, hb1⟩
  have HB1 := hide (fr (unhide HA) hb1)
  obtain ⟨hc0, hc1⟩ := ((unhide HV).below hb1).cells
  clear hb1
  by_cases e0 : hostC ss xs h = 0
  · have hb : (hostC ss xs h != 0) = false := by simp [e0]
    obtain ⟨ed, _⟩ := hostC_eq e0
    have hl2 := (diskB_len ed).2
    by_cases e2 : xs.length = 200
    · have HX := hide (leC_full e0 e2)
      have hfb : (200 : Int) ≤ (xs.length : Int) := by omega
      clear e2 ed
      go_wp2
      go_ret
      exact ⟨ret_int (unhide HX).symm, unhide HB1⟩
    · have HX := hide (leC_ok e0 e2)
      have hfb : ¬ (200 : Int) ≤ (xs.length : Int) := by omega
      clear e2 ed
      go_wp2
      go_ret
      exact ⟨ret_int (unhide HX).symm, unhide HB1⟩
  · have hb : (hostC ss xs h != 0) = true := by simp [e0]
    have HX := hide (leC_host e0)
    go_wp2
    go_ret
    exact ⟨ret_int (unhide HX).symm, unhide HB1⟩

end Go.Proofs.YtjmianalknnekabGreatDoor

/- Contracts of spec's leader, the plain ones: LeaderOK, l06Encode, EncodeLeader. -/
namespace Go.Proofs.YtjmianalknnekabGreatDoor
open Go.RowKit
set_option linter.unusedVariables false
set_option maxRecDepth 100000

set_option maxHeartbeats 1600000 in
theorem leaderOK_spec (x : Ld) (w : World) : Calls Tryz.prog 16 #[lV x] w fun e w' => e = .returned (.bool (ldB x)) ∧ Below w.heap.size w w' := by
  obtain ⟨v, o, g⟩ := x
  go_enter Tryz.func16, Tryz.ntmps16
  go_wp2_with fail
  refine (l01In_num v 0 1000000 _).mono ?_
  rintro e w1 ⟨rfl, rfl⟩
  by_cases h1 : inB v 0 1000000 = false
  · have hr : Hid (ldB ⟨v, o, g⟩ = false) := hide (by simp [ldB, h1])
    go_wp2
    go_ret
    rw [unhide hr]
    exact ⟨rfl, Joins.below_alloc1 _ _⟩
  rw [Bool.not_eq_false] at h1
  by_cases hn : o = -1 ∧ g = 0
  · obtain ⟨hn1, hn2⟩ := hn
    have hr : Hid (ldB ⟨v, o, g⟩ = true) := hide (by simp [ldB, h1, hn1, hn2])
    have hb1 : (o == -1) = true := beq_iff_eq.2 hn1
    have hb2 : (g == 0) = true := beq_iff_eq.2 hn2
    clear hn1 hn2
    go_wp2
    go_ret
    rw [unhide hr]
    exact ⟨rfl, Joins.below_alloc1 _ _⟩
  have hr : Hid (ldB ⟨v, o, g⟩ = (decide (0 < v) && (inB o 0 3 && inB g 1 1000000))) := hide (by
    have : (decide (o = -1) && decide (g = 0)) = false := by simpa using hn
    simp [ldB, h1, this])
  rcases (show ((o == -1) = false) ∨ ((o == -1) = true ∧ (g == 0) = false) by simp only [beq_eq_false_iff_ne, beq_iff_eq]; omega) with ho | ⟨ho, hg⟩
  all_goals
    clear hn
    by_cases h2 : 0 < v
    · have hr2 : Hid (ldB ⟨v, o, g⟩ = (inB o 0 3 && inB g 1 1000000)) := hide (by rw [unhide hr]; simp [h2])
      go_wp2_with fail
      refine (l04Host_any o _).mono ?_
      rintro e w1 ⟨rfl, rfl⟩
      by_cases h3 : inB o 0 3 = false
      · have hr3 : Hid (ldB ⟨v, o, g⟩ = false) := hide (by rw [unhide hr2]; simp [h3])
        go_wp2
        go_ret
        rw [unhide hr3]
        exact ⟨rfl, Joins.below_alloc1 _ _⟩
      rw [Bool.not_eq_false] at h3
      have hr3 : Hid (ldB ⟨v, o, g⟩ = inB g 1 1000000) := hide (by rw [unhide hr2]; simp [h3])
      go_wp2_with fail
      refine (l01In_num g 1 1000000 _).mono ?_
      rintro e w1 ⟨rfl, rfl⟩
      go_wp2
      go_ret
      rw [unhide hr3]
      exact ⟨rfl, Joins.below_alloc1 _ _⟩
    · have hr2 : Hid (ldB ⟨v, o, g⟩ = false) := hide (by rw [unhide hr]; simp [h2])
      go_wp2
      go_ret
      rw [unhide hr2]
      exact ⟨rfl, Joins.below_alloc1 _ _⟩

set_option maxHeartbeats 1600000 in
theorem l06Encode_ld (x : Ld) (w : World) (hd : ldB x = true) : Calls Tryz.prog 21 #[lV x] w fun e w' => e = .returned (.string (encL x)) ∧ Below w.heap.size w w' := by
  have wr1 : IntKind.i64.wrap (x.own + 1) = x.own + 1 := by have := ldB_lo hd; rw [IntKind.wrap_i64]; omega
  have HD := hide (l3_nums hd)
  clear hd
  go_enter Tryz.func21, Tryz.ntmps21
  go_wp2_with fail
  refine (l02Seal_any 6 _ 3 [x.ver, x.own + 1, x.gen] _ (by decide) (by simp) (unhide HD) (is3 _ _ _ _ _ _ (by simp))).mono ?_
  rintro e w1 ⟨rfl, hb⟩
  have HB := hide hb
  clear hb
  go_wp2
  go_ret
  exact ⟨rfl, fr (Joins.below_alloc2 _ _ _) (unhide HB)⟩

end Go.Proofs.YtjmianalknnekabGreatDoor

/- Contracts of spec's leader: l06Decode, DecodeLeader. -/
namespace Go.Proofs.YtjmianalknnekabGreatDoor
open Go.RowKit
set_option linter.unusedVariables false
set_option maxRecDepth 100000

set_option maxHeartbeats 1600000 in
theorem l06Decode_any (t : ByteArray) (w : World) (hs : t.size ≤ 65536) : Calls Tryz.prog 38 #[.string t] w fun e w' => e = .returned (.tuple #[lV (ldK t), .bool (ldD t)]) ∧ Below w.heap.size w w' := by
  have HA := hide (Joins.below_alloc1 w (.cells #[.int .i64 0, .int .i64 0, .int .i64 0] 32))
  have HV := hide (VarT.new w 32 0 0 0)
  go_enter Tryz.func38, Tryz.ntmps38
  go_wp2_with fail
  refine (l02Open_any t 6 _ hs).mono ?_
  rintro e w1 ⟨v, rfl, ⟨qo, qa, rfl, ho⟩, hb⟩
  have HB := hide (fr (unhide HA) hb)
  have HB1 := hide hb
  have HO := hide ho
  obtain ⟨hc0, hc1, hc2⟩ := ((unhide HV).below hb).cells
  obtain ⟨hf0, hf1, hf2⟩ := ((unhide HV).below hb).free
  have HR := hide (fun u v x => below3 (unhide HB) (Nat.le_refl _) 0 1 2 u v x)
  clear hb ho
  by_cases hb : openB t 6 = false
  · have HE := hide (ldD_open hb)
    go_wp2
    refine bodyPost_ret (v := .tuple #[lV (ldN 0), .bool false]) (by simp [results, Tryz.results38, go_sem, hc0, hc1, hc2, ldN]) rfl ⟨?_, unhide HR _ _ _⟩
    exact ret_lb (ld_no (unhide HE)).symm (unhide HE).symm
  rw [Bool.not_eq_false] at hb
  by_cases h3 : (openL t 6).length = 3
  · obtain ⟨a, b, c, hl⟩ := three h3
    have wr1 := open_mid hb hl
    have HL := hide hl
    have hI := ownRN (unhide HO)
    rw [hl] at hI
    obtain ⟨g, off, rfl, hi0⟩ := hI 0 (by simp)
    obtain ⟨g', off', he, hi1⟩ := hI 1 (by simp)
    cases he
    obtain ⟨g', off', he, hi2⟩ := hI 2 (by simp)
    cases he
    simp only [List.getElem_cons_zero, List.getElem_cons_succ, Nat.add_zero] at hi0 hi1 hi2
    have hg := World.block_lt_of_cell? _ _ hi0
    clear hI
    go_wp2_with fail
    have HA2 := hide (Joins.below_alloc1 w1 (.cells #[.int .i64 a, .int .i64 (b - 1), .int .i64 c] 32)).drew
    have HV2 := hide (((unhide HV).below (unhide HB1)).below (unhide HA2))
    have HV3 : Hid (VarT (w1.alloc (.cells #[.int .i64 a, .int .i64 (b - 1), .int .i64 c] 32)).drew w1.heap.size 32 a (b - 1) c) := hide ((VarT.new w1 32 a (b - 1) c).below (Below.refl _ _).drew)
    have HB2 := hide (fr (unhide HB) (unhide HA2))
    clear hc0 hc1 hc2 hf0 hf1 hf2 HR
    go_region
    go_wp2_with fail
    refine (leaderOK_spec ⟨a, b - 1, c⟩ _).mono ?_
    rintro e w2 ⟨rfl, hb2⟩
    have HB3 := hide (fr (unhide HB2) hb2)
    obtain ⟨hc0, hc1, hc2⟩ := ((unhide HV2).below hb2).cells
    obtain ⟨hf0, hf1, hf2⟩ := ((unhide HV2).below hb2).free
    obtain ⟨hx0, hx1, hx2⟩ := ((unhide HV3).below hb2).cells
    have HR := hide (fun u v x => below3 (unhide HB3) (Nat.le_refl _) 0 1 2 u v x)
    have HE := hide (ldD_at hb (unhide HL))
    clear hb2 hi0 hi1 hi2
    by_cases hd : ldB ⟨a, b - 1, c⟩ = true
    · go_wp2
      refine bodyPost_ret (v := .tuple #[lV ⟨a, b - 1, c⟩, .bool true]) (by simp [results, Tryz.results38, go_sem, hc0, hc1, hc2]) rfl ⟨?_, unhide HR _ _ _⟩
      exact ret_lb (ld_yes (by rw [unhide HE]; exact hd) (unhide HL)).symm (by rw [unhide HE]; exact hd.symm)
    · rw [Bool.not_eq_true] at hd
      go_wp2
      refine bodyPost_ret (v := .tuple #[lV (ldN 0), .bool false]) (by simp [results, Tryz.results38, go_sem, hc0, hc1, hc2, ldN]) rfl ⟨?_, unhide HR _ _ _⟩
      exact ret_lb (ld_no (by rw [unhide HE]; exact hd)).symm (by rw [unhide HE]; exact hd.symm)
  · have HE := hide (ldD_len h3)
    go_wp2
    refine bodyPost_ret (v := .tuple #[lV (ldN 0), .bool false]) (by simp [results, Tryz.results38, go_sem, hc0, hc1, hc2, ldN]) rfl ⟨?_, unhide HR _ _ _⟩
    exact ret_lb (ld_no (unhide HE)).symm (unhide HE).symm

end Go.Proofs.YtjmianalknnekabGreatDoor

/- Contracts of spec's leader on a disk: l06Read, ReadLeader, Holds. -/
namespace Go.Proofs.YtjmianalknnekabGreatDoor
open Go.RowKit
set_option linter.unusedVariables false
set_option maxRecDepth 100000

theorem ret_l {a b : Ld} (h : a = b) : Ending.returned (lV a) = .returned (lV b) := by rw [h]
theorem ret_bi2 {a b : Bool} {x y : Int} (h : a = b) (k : x = y) : Ending.returned (.tuple #[.bool a, .int .i64 x]) = .returned (.tuple #[.bool b, .int .i64 y]) := by rw [h, k]
/-- A leader's variable beside a disk's. -/
theorem varL_new (w : World) (x : Obj) (a b c : Int) : VarT ((w.alloc x).alloc (.cells #[.int .i64 a, .int .i64 b, .int .i64 c] 32)) (w.heap.size + 1) 32 a b c := by
  have := VarT.new (w.alloc x) 32 a b c
  simp only [World.size_alloc] at this
  exact this

set_option maxHeartbeats 1600000 in
theorem l06Read_any (ao bo : Option Addr) (ca cb : Nat) (ss : List ByteArray) (xs : List Wr) (h : Int) (L : Ld) (w : World) (hL : ldOf ss xs h = L) (hd : diskB ss xs = true) (h1 : Ss w ao ss) (h2 : Ios w bo xs) :
    Calls Tryz.prog 17 #[.agg #[.slice ao ss.length ca, .slice bo xs.length cb], .int .i64 h] w fun e w' => e = .returned (lV L) ∧ Below w.heap.size w w' := by
  have HS := hide (readV_size hd h 0)
  obtain ⟨hlen, hlx⟩ := diskB_len hd
  have HL : Hid (ss.length ≤ 1048576) := hide (by omega)
  have HN : Hid (0 < ss.length) := hide (by omega)
  have HM : Hid (xs.length ≤ maxLen) := hide (by unfold maxLen; omega)
  have HA := hide (Joins.below_alloc2 w (.cells #[.slice ao ss.length ca, .slice bo xs.length cb] 31) (.cells #[.int .i64 0, .int .i64 0, .int .i64 0] 32))
  have H1 := hide (h1.below (unhide HA))
  have H2 := hide (h2.below (unhide HA))
  have HR := hide (varL_new w (.cells #[.slice ao ss.length ca, .slice bo xs.length cb] 31) 0 0 0)
  obtain ⟨T, HT⟩ : ∃ T, Hid (readV ss xs h 0 = T) := ⟨_, hide rfl⟩
  have HK : Hid (ldK T = L) := hide (by rw [← unhide HT]; exact hL)
  rw [unhide HT] at HS
  clear h1 h2 hd hlen hlx hL
  go_enter Tryz.func17, Tryz.ntmps17
  go_wp2_with fail
  refine Calls.mono (show Calls _ _ #[.agg #[.slice ao ss.length ca, .slice bo xs.length cb], .int .i64 h, .int .i64 0] _ _ from l01Read_any _ _ _ _ ss xs h 0 _ (unhide HN) (unhide HL) (unhide HM) (unhide H1) (unhide H2)) ?_
  rintro e w1 ⟨rfl, hb1⟩
  have HB1 := hide (fr (unhide HA) hb1)
  have HR1 := hide ((unhide HR).below hb1)
  rw [show readV ss xs h ((0 : Nat) : Int) = T from unhide HT]
  clear hb1
  go_wp2_with fail
  refine (l06Decode_any T _ (Nat.le_trans (unhide HS) (by decide))).mono ?_
  rintro e w2 ⟨rfl, hb2⟩
  rw [unhide HK]
  have HB2 := hide (fr (unhide HB1) hb2)
  have HR2 := hide ((unhide HR1).below hb2)
  obtain ⟨hc0, hc1, hc2⟩ := (unhide HR2).cells
  obtain ⟨hf0, hf1, hf2⟩ := (unhide HR2).free
  have hlt := (unhide HR2).lt
  have HE := hide (fun u v x => fr (below3 (g := w.heap.size + 1) (unhide HB2) (by omega) 0 1 2 u v x) (Joins.below_alloc1 _ (.cells #[.int .i64 L.ver, .int .i64 L.own, .int .i64 L.gen] 32)))
  clear hb2
  go_wp2
  exact bodyPost_ret (v := lV L) (by simp [results, Tryz.results17, go_sem, hc0, hc1, hc2, hlt]) rfl ⟨rfl, unhide HE _ _ _⟩

theorem gen_pos {L : Ld} {h : Int} (hr : ldB L = true) (h0 : 0 ≤ h) (ho : L.own = h) : 0 < L.gen := by
  obtain ⟨_, h2⟩ := ldB_iff.1 hr
  omega
end Go.Proofs.YtjmianalknnekabGreatDoor

/- Contract of impl.readNumbers. -/
namespace Go.Proofs.YtjmianalknnekabGreatDoor
open Go.RowKit
set_option linter.unusedVariables false
set_option maxRecDepth 100000

def txt : Value → ByteArray
  | .string s => s
  | _ => ⟨#[]⟩
/-- What is left of a text behind some bytes. -/
def Rest (s u : ByteArray) (k : Nat) : Prop := u.size + k = s.size ∧ ∀ j, j < u.size → byteAt u j = byteAt s (k + j)
theorem Rest.zero (s : ByteArray) : Rest s s 0 := ⟨rfl, fun j _ => by rw [Nat.zero_add]⟩
theorem Rest.num {s u : ByteArray} {k : Nat} (h : Rest s u k) (h4 : 4 ≤ u.size) : numAt u 0 = numAt s k := by
  unfold numAt
  rw [h.2 0 (by omega), h.2 (0 + 1) (by omega), h.2 (0 + 2) (by omega), h.2 (0 + 3) (by omega)]
  simp

theorem cut_size {u : ByteArray} (a : Nat) : (u.extract a u.size).size = u.size - a := by simp
theorem cut_byte {u : ByteArray} {a j : Nat} (h : a + j < u.size) : byteAt (u.extract a u.size) j = byteAt u (a + j) := by
  have h' : a + j < u.data.size := h
  have e : (u.extract a u.size).data = u.data.extract a u.size := by simp
  unfold byteAt
  rw [e, Array.getElem?_extract]
  have : j < u.size - a := by omega
  simp [this]
theorem Rest.cut {s u : ByteArray} {k : Nat} (h : Rest s u k) (h4 : 4 ≤ u.size) : Rest s (u.extract 4 u.size) (k + 4) := by
  refine ⟨by rw [cut_size]; have := h.1; omega, fun j hj => ?_⟩
  rw [cut_size] at hj
  rw [cut_byte (by omega), h.2 (4 + j) (by omega), Nat.add_assoc]

set_option maxHeartbeats 1600000 in
theorem readNumbers_ok (s : ByteArray) (w : World) (h4 : s.size % 4 = 0) (hl : s.size ≤ 64) (hn : ∀ k, k < s.size / 4 → numB (numAt s (k * 4)) = true) :
    Calls Tryz.prog 98 #[.string s] w fun e w' => ∃ v, e = .returned v ∧ OwnN w' w.heap.size v (unL s) ∧ Below w.heap.size w w' := by
  obtain ⟨j0, hj, hy0, hy1, hy2⟩ := info_parts infoM
  have hb4 : ((s.size : Int) % 4 == 0) = true := by simp; omega
  have hli : (s.size : Int) ≤ 64 := by omega
  have HN := hide hn
  clear hn
  go_enter Tryz.func98, Tryz.ntmps98
  go_wp2_with (go_at_call 84; refine (demand_true _).mono ?_; rintro e w' ⟨rfl, hw⟩; replace hw := hw.symm; subst hw)
  go_loopw [0, 3] (fun t o wr => ∃ (k : Nat) (u : ByteArray) (qo : Option Addr) (qa : Nat), k ≤ s.size / 4 ∧ t = .string u ∧ o = .slice qo k qa ∧ u.size + k * 4 = s.size ∧ Hid (Rest s u (k * 4)) ∧ Hid (OwnR wr w.heap.size 3 1 (.slice qo k qa) k (intV ((unL s).take k))) ∧ Hid (Below w.heap.size w wr)) (fun t _ _ => (txt t).size)
  case atStart => exact ⟨0, s, _, _, Nat.zero_le _, rfl, rfl, rfl, hide (Rest.zero s), hide (.inl ⟨rfl, rfl, _, rfl⟩), hide (Below.refl _ _)⟩
  case round =>
    obtain ⟨k, u, qo, qa, hk, rfl, rfl, hu, HR, HO, HB⟩ := hrel
    by_cases hlt : k < s.size / 4
    · have hu4 : 4 ≤ u.size := by omega
      have HNU : Hid (numB (numAt u 0) = true) := hide (by rw [(unhide HR).num hu4]; exact unhide HN k hlt)
      have HNE := hide ((unhide HR).num hu4)
      have hu0 : 0 < u.size := by omega
      have HSZU := hide (cut_size (u := u) 4)
      go_wp2_with fail
      refine (readNumber_ok u _ hu4 (unhide HNU)).mono ?_
      rintro e w1 ⟨rfl, hb1⟩
      have HB1 := hide (fr (unhide HB) hb1)
      have HO1 := hide ((unhide HO).below hb1)
      clear hb1
      have HOA := hide ((unhide HO1).below (Joins.below_alloc1 _ (.cells #[.int .i64 (numAt u 0)] 3)))
      have HBA := hide (fr (unhide HB1) (Joins.below_alloc1 _ (.cells #[.int .i64 (numAt u 0)] 3)))
      have HSZ := hide (unhide HB1).size
      go_wp2_with (at_builtin; refine wpList_append_one rfl _ _ 75 rfl w.heap.size 3 j0 (.int .i64 0) 1 8 Tryz.underlying75 hj hy0 hy1 hy2 rfl (by omega) qo k qa (intV ((unL s).take k)) rfl (unhide HOA) (by have := unhide HSZ; simp; omega) ⟨w1.heap.size, 0, none⟩ _ [.int .i64 (numAt u 0)] rfl rfl (byte_news w1 _ _) (int_one _) (by unfold maxLen; omega) (by omega) ?_; intro g2 cap2 wA hoA hkA; have HSF := hide (And.intro hoA (keep_below (unhide HBA) (unhide HOA) (Nat.le_refl _) hkA)); clear hoA hkA)
      go_roundw
      case rel => exact ⟨k + 1, _, _, _, by omega, rfl, rfl, by rw [unhide HSZU]; omega, hide (by rw [show (k + 1) * 4 = k * 4 + 4 by omega]; exact (unhide HR).cut hu4), hide (.inr ⟨by omega, by rw [unL_succ hlt, intV_snoc, ← unhide HNE]; exact (unhide HSF).1⟩), hide (unhide HSF).2⟩
      case measure => show (u.extract 4 u.size).size < u.size; rw [unhide HSZU]; omega
    · have hke : k = (unL s).length := by rw [unL_length]; omega
      have hu0 : u.size = 0 := by omega
      have HT : Hid ((unL s).take k = unL s) := hide (List.take_of_length_le (by omega))
      have HON : Hid (OwnR wr w.heap.size 3 1 (.slice qo (unL s).length qa) (unL s).length (intV (unL s))) := hide (by have := unhide HO; rw [unhide HT, hke] at this; exact this)
      subst hke
      go_wp2
      go_ret
      exact ⟨.slice qo (unL s).length qa, rfl, ⟨qo, qa, rfl, unhide HON⟩, unhide HB⟩

set_option maxHeartbeats 1600000 in
theorem readNumbers_bad (s : ByteArray) (w : World) (k0 : Nat) (h4 : s.size % 4 = 0) (hl : s.size ≤ 64) (hk0 : k0 < s.size / 4) (hn : ∀ k, k < k0 → numB (numAt s (k * 4)) = true) (hn0 : numB (numAt s (k0 * 4)) = false) (hE : ErrW w) :
    Calls Tryz.prog 98 #[.string s] w fun e w' => (∃ u pv, e = .panicked [{ v := .iface u pv, recovered := false }]) ∧ Below w.heap.size w w' := by
  obtain ⟨j0, hj, hy0, hy1, hy2⟩ := info_parts infoM
  have hb4 : ((s.size : Int) % 4 == 0) = true := by simp; omega
  have hli : (s.size : Int) ≤ 64 := by omega
  have HN := hide hn
  have HN0 := hide hn0
  have HE := hide hE
  clear hn hn0 hE
  go_enter Tryz.func98, Tryz.ntmps98
  go_wp2_with (go_at_call 84; refine (demand_true _).mono ?_; rintro e w' ⟨rfl, hw⟩; replace hw := hw.symm; subst hw)
  go_loopw [0, 3] (fun t o wr => ∃ (k : Nat) (u : ByteArray) (qo : Option Addr) (qa : Nat), k ≤ k0 ∧ t = .string u ∧ o = .slice qo k qa ∧ u.size + k * 4 = s.size ∧ Hid (Rest s u (k * 4)) ∧ Hid (OwnR wr w.heap.size 3 1 (.slice qo k qa) k (intV ((unL s).take k))) ∧ Hid (Below w.heap.size w wr)) (fun t _ _ => (txt t).size)
  case atStart => exact ⟨0, s, _, _, Nat.zero_le _, rfl, rfl, rfl, hide (Rest.zero s), hide (.inl ⟨rfl, rfl, _, rfl⟩), hide (Below.refl _ _)⟩
  case round =>
    obtain ⟨k, u, qo, qa, hk, rfl, rfl, hu, HR, HO, HB⟩ := hrel
    have hlt0 : k < s.size / 4 := by omega
    by_cases hlt : k < k0
    · have hu4 : 4 ≤ u.size := by omega
      have HNU : Hid (numB (numAt u 0) = true) := hide (by rw [(unhide HR).num hu4]; exact unhide HN k hlt)
      have HNE := hide ((unhide HR).num hu4)
      have hu0 : 0 < u.size := by omega
      have HSZU := hide (cut_size (u := u) 4)
      go_wp2_with fail
      refine (readNumber_ok u _ hu4 (unhide HNU)).mono ?_
      rintro e w1 ⟨rfl, hb1⟩
      have HB1 := hide (fr (unhide HB) hb1)
      have HO1 := hide ((unhide HO).below hb1)
      clear hb1
      have HOA := hide ((unhide HO1).below (Joins.below_alloc1 _ (.cells #[.int .i64 (numAt u 0)] 3)))
      have HBA := hide (fr (unhide HB1) (Joins.below_alloc1 _ (.cells #[.int .i64 (numAt u 0)] 3)))
      have HSZ := hide (unhide HB1).size
      go_wp2_with (at_builtin; refine wpList_append_one rfl _ _ 75 rfl w.heap.size 3 j0 (.int .i64 0) 1 8 Tryz.underlying75 hj hy0 hy1 hy2 rfl (by omega) qo k qa (intV ((unL s).take k)) rfl (unhide HOA) (by have := unhide HSZ; simp; omega) ⟨w1.heap.size, 0, none⟩ _ [.int .i64 (numAt u 0)] rfl rfl (byte_news w1 _ _) (int_one _) (by unfold maxLen; omega) (by omega) ?_; intro g2 cap2 wA hoA hkA; have HSF := hide (And.intro hoA (keep_below (unhide HBA) (unhide HOA) (Nat.le_refl _) hkA)); clear hoA hkA)
      go_roundw
      case rel => exact ⟨k + 1, _, _, _, by omega, rfl, rfl, by rw [unhide HSZU]; omega, hide (by rw [show (k + 1) * 4 = k * 4 + 4 by omega]; exact (unhide HR).cut hu4), hide (.inr ⟨by omega, by rw [unL_succ hlt0, intV_snoc, ← unhide HNE]; exact (unhide HSF).1⟩), hide (unhide HSF).2⟩
      case measure => show (u.extract 4 u.size).size < u.size; rw [unhide HSZU]; omega
    · have hu4 : 4 ≤ u.size := by omega
      have hu0 : 0 < u.size := by omega
      have hke : k = k0 := by omega
      have HNU : Hid (numB (numAt u 0) = false) := hide (by rw [(unhide HR).num hu4, hke]; exact unhide HN0)
      go_wp2_with fail
      refine (readNumber_no u _ hu4 (unhide HNU) ((unhide HE).below (unhide HB))).mono ?_
      rintro e w1 ⟨⟨u1, pv, rfl⟩, hb1⟩
      have HB1 := hide (fr (unhide HB) hb1)
      clear hb1
      go_wp2
      exact ⟨rfl, ⟨u1, pv, rfl⟩, unhide HB1⟩

set_option maxHeartbeats 800000 in
theorem readNumbers_form (s : ByteArray) (w : World) (h : s.size % 4 ≠ 0 ∨ 64 < s.size) (hE : ErrW w) :
    Calls Tryz.prog 98 #[.string s] w fun e w' => (∃ u pv, e = .panicked [{ v := .iface u pv, recovered := false }]) ∧ Below w.heap.size w w' := by
  have HE := hide hE
  clear hE
  by_cases h4 : s.size % 4 = 0
  · have hb4 : ((s.size : Int) % 4 == 0) = true := by simp; omega
    have hli : ¬ (s.size : Int) ≤ 64 := by omega
    go_enter Tryz.func98, Tryz.ntmps98
    go_wp2_with (go_at_call 84; refine (demand_false _ (unhide HE)).mono ?_; rintro e w' ⟨⟨u1, pv, rfl⟩, hw⟩; replace hw := hw.symm; subst hw)
    exact ⟨rfl, ⟨_, _, rfl⟩, Below.refl _ _⟩
  · have hb4 : ((s.size : Int) % 4 == 0) = false := by simp; omega
    go_enter Tryz.func98, Tryz.ntmps98
    go_wp2_with (go_at_call 84; refine (demand_false _ (unhide HE)).mono ?_; rintro e w' ⟨⟨u1, pv, rfl⟩, hw⟩; replace hw := hw.symm; subst hw)
    exact ⟨rfl, ⟨_, _, rfl⟩, Below.refl _ _⟩

theorem first_bad {p : Nat → Bool} : ∀ n, (∀ k, k < n → p k = true) ∨ ∃ k0, k0 < n ∧ (∀ k, k < k0 → p k = true) ∧ p k0 = false
  | 0 => .inl (fun k hk => by omega)
  | n + 1 => by
    rcases first_bad (p := p) n with h | ⟨k0, h0, h1, h2⟩
    · cases hp : p n with
      | true => exact .inl (fun k hk => by
          by_cases e : k = n
          · subst e; exact hp
          · exact h k (by omega))
      | false => exact .inr ⟨n, by omega, h, hp⟩
    · exact .inr ⟨k0, by omega, h1, h2⟩

/-- readNumbers, by what the text is. -/
theorem readNumbers_yes (s : ByteArray) (w : World) (h : okU s = true) :
    Calls Tryz.prog 98 #[.string s] w fun e w' => ∃ v, e = .returned v ∧ OwnN w' w.heap.size v (unL s) ∧ Below w.heap.size w w' := by
  have h4 : s.size % 4 = 0 := by
    by_cases h4 : s.size % 4 = 0
    · exact h4
    · rw [okU_rest h4] at h; cases h
  have hl : s.size ≤ 64 := by
    by_cases hl : 64 < s.size
    · rw [okU_long hl] at h; cases h
    · omega
  refine readNumbers_ok s w h4 hl (fun k hk => ?_)
  cases hb : numB (numAt s (k * 4)) with
  | true => rfl
  | false => rw [okU_bad hk hb] at h; cases h
theorem readNumbers_no (s : ByteArray) (w : World) (h : okU s = false) (hE : ErrW w) :
    Calls Tryz.prog 98 #[.string s] w fun e w' => (∃ u pv, e = .panicked [{ v := .iface u pv, recovered := false }]) ∧ Below w.heap.size w w' := by
  by_cases h4 : s.size % 4 = 0
  · by_cases hl : s.size ≤ 64
    · rcases first_bad (p := fun k => numB (numAt s (k * 4))) (s.size / 4) with hg | ⟨k0, h0, h1, h2⟩
      · rw [okU_true h4 hl hg] at h; cases h
      · exact readNumbers_bad s w k0 h4 hl h0 h1 h2 hE
    · exact readNumbers_form s w (.inr (by omega)) hE
  · exact readNumbers_form s w (.inl h4) hE

end Go.Proofs.YtjmianalknnekabGreatDoor
