import Derived.Test.YtefnapcegeojoaaGreatDoorRows
import Derived.Test.YtefnapcegeojoaaGreatDoorLReleasePart1
import Derived.Test.YtefnapcegeojoaaGreatDoorLReleasePart2
import Derived.Test.YtefnapcegeojoaaGreatDoorLReleasePart3
import Derived.Test.YtefnapcegeojoaaGreatDoorLReleasePart4
import Derived.Test.YtefnapcegeojoaaGreatDoorLReleasePart6
import Derived.WalkKit
import Derived.WalkSpells
import Derived.KernelRfl
import Derived.Deep.MidRow
import Derived.Deep.CutRange
import Derived.BigQuiet
import Derived.Deep.QuietTactic
import Derived.Deep.RegionWith
import Derived.Lib.SmallJoins
import Derived.Deep.RegionHeld3
import Derived.Deep.RegionLawGrows
import Derived.Test.YtefnapcegeojoaaGreatDoorLReleasePart5
import Derived.Defers
import Derived.Recover
import Derived.WalkMore

namespace Go.Proofs.YtefnapcegeojoaaGreatDoor
open Go.RowKit
set_option linter.unusedVariables false
set_option maxRecDepth 100000

set_option maxHeartbeats 1600000 in
theorem own_any (B x : Nat) (s : Est) (L : Ld) (bo ao qo : Option Addr) (ba ca cb : Nat) (w : World) (h4 : s.bs.length = 4) (hh : 0 ≤ s.p.host ∧ s.p.host ≤ 3) (hs : Sto w B x s L bo ba ao ca qo cb) :
    Calls Tryz.prog 116 #[.pointer (some ⟨x, 0, none⟩)] w fun e w' => e = .returned (bV (ownK s.p s.bs)) ∧ Below w.heap.size w w' := by
  have HA := hide (Joins.below_alloc1 w (.cells #[.int .i64 0, .int .i64 0, .int .i64 0, .int .i64 0] 96))
  have H0 := hide (hs.below (unhide HA))
  have HV := hide (VarB.new0 w 96)
  have hlt := hs.v.lt
  have hne : w.heap.size ≠ x := by omega
  have hne' : x ≠ w.heap.size := by omega
  obtain ⟨k, hk⟩ : ∃ k : Nat, s.p.host = k := ⟨s.p.host.toNat, by omega⟩
  have hk5 : (k : Int) < 4 := by omega
  have hk6 : (0 : Int) ≤ (k : Int) := by omega
  have hkl : k < s.bs.length := by omega
  rw [show ownK s.p s.bs = s.bs.getD k bk0 by unfold ownK; rw [show s.p.host.toNat = k by omega]]
  obtain ⟨y, hy⟩ : ∃ y, s.bs.getD k bk0 = y := ⟨_, rfl⟩
  rw [hy]
  have HY := hide hy
  clear hs hlt hy
  go_enter Tryz.func116, Tryz.ntmps116
  go_upto_region 1 with fail
  revert HA H0 HV
  generalize w.alloc (.cells #[.int .i64 0, .int .i64 0, .int .i64 0, .int .i64 0] 96) = W0
  intro HA H0 HV
  obtain ⟨c0, _⟩ := (unhide H0).v.px
  obtain ⟨c8, _⟩ := (unhide H0).v.rest
  obtain ⟨b, off, rfl, hbl, g0, g1, g2, g3⟩ := ((unhide H0).bks h4).get k hkl
  rw [hk] at c0
  rw [unhide HY] at g0 g1 g2 g3
  obtain ⟨v0, v1, v2, v3⟩ := (unhide HV).cells
  obtain ⟨f0, f1, f2, f3⟩ := (unhide HV).free
  have HE := hide (fun u v x y => below4 (unhide HA) (Nat.le_refl _) 0 1 2 3 u v x y)
  clear hk hkl h4 hh
  go_region
  go_wp2
  exact bodyPost_ret (v := bV y) (by simp [results, Tryz.results116, go_sem, v0, v1, v2, v3]) rfl ⟨rfl, (unhide HE _ _ _ _).drew⟩

theorem ended_iff {p : Pxs} (hp : pxB p = true) : ((p.phase == 5) || (p.phase == 6)) = decide (¬ p.phase < 5) := by
  obtain ⟨_, _, ⟨h1, h6⟩, _⟩ := px_parts hp
  rw [Bool.eq_iff_iff]; simp; omega
set_option maxHeartbeats 1600000 in
theorem hasEnded_any (B x : Nat) (s : Est) (L : Ld) (bo ao qo : Option Addr) (ba ca cb : Nat) (w : World) (hp : pxB s.p = true) (hs : Sto w B x s L bo ba ao ca qo cb) :
    Calls Tryz.prog 80 #[.pointer (some ⟨x, 0, none⟩)] w fun e w' => e = .returned (.bool (decide (¬ s.p.phase < 5))) ∧ w' = w := by
  rw [← ended_iff hp]
  obtain ⟨c0, c1, c2, c3, c4, c5, c6, c7⟩ := hs.v.px
  clear hs hp c0 c1 c3 c4 c5 c6 c7
  go_enter Tryz.func80, Tryz.ntmps80
  by_cases h5 : s.p.phase = 5
  · have b5 : (s.p.phase == 5) = true := by simp [h5]
    clear h5
    go_wp2
    go_ret
    rw [b5]
    exact ⟨rfl, rfl⟩
  · have b5 : (s.p.phase == 5) = false := by simp [h5]
    clear h5
    go_wp2
    go_ret
    rw [b5]
    exact ⟨rfl, rfl⟩

set_option maxHeartbeats 1600000 in
theorem ballotValue_any (y : Ld) (w : World) (hg : 0 ≤ y.gen ∧ y.gen ≤ 1000000) (ho : 0 ≤ y.own ∧ y.own ≤ 3) : Calls Tryz.prog 79 #[lV y] w fun e w' => e = .returned (.int .i64 (1024 * y.gen + y.own)) ∧ Below w.heap.size w w' := by
  have w1 : IntKind.i64.wrap (1024 * y.gen) = 1024 * y.gen := by rw [IntKind.wrap_i64]; omega
  have w2 : IntKind.i64.wrap (1024 * y.gen + y.own) = 1024 * y.gen + y.own := by rw [IntKind.wrap_i64]; omega
  go_enter Tryz.func79, Tryz.ntmps79
  go_wp2
  go_ret
  exact ⟨rfl, Joins.below_alloc1 _ _⟩

set_option maxHeartbeats 1600000 in
theorem leaderOf_any (v x : Int) (w : World) (hx : 0 ≤ x ∧ x ≤ 2147483647) : Calls Tryz.prog 83 #[.int .i64 v, .int .i64 x] w fun e w' => e = .returned (lV (leadOf v x)) ∧ Below w.heap.size w w' := by
  have e1 : Int.tmod x 1024 = x % 1024 := Int.tmod_eq_emod_of_nonneg hx.1
  have e2 : Int.tdiv x 1024 = x / 1024 := Int.tdiv_eq_ediv_of_nonneg hx.1
  have w1 : IntKind.i64.wrap (x % 1024) = x % 1024 := by rw [IntKind.wrap_i64]; omega
  have w2 : IntKind.i64.wrap (x / 1024) = x / 1024 := by rw [IntKind.wrap_i64]; omega
  go_enter Tryz.func83, Tryz.ntmps83
  go_wp2
  exact bodyPost_ret (v := lV (leadOf v x)) (by simp [results, Tryz.results83, go_sem, leadOf]) rfl ⟨rfl, Joins.below_alloc1 _ _⟩

set_option maxHeartbeats 1600000 in
theorem roomFault_any (ao bo : Option Addr) (ca cb : Nat) (ss : List ByteArray) (xs : List Wr) (h : Int) (w : World) (hl : ss.length ≤ maxLen) (hm : xs.length ≤ maxLen) (h1 : Ss w ao ss) (h2 : Ios w bo xs) :
    Calls Tryz.prog 34 #[.agg #[.slice ao ss.length ca, .slice bo xs.length cb], .int .i64 h] w fun e w' => e = .returned (.int .i64 (leC ss xs h)) ∧ Below w.heap.size w w' := by
  have HA := hide (Joins.below_alloc1 w (.cells #[.slice ao ss.length ca, .slice bo xs.length cb] 26))
  have H1 := hide (h1.below (unhide HA))
  have H2 := hide (h2.below (unhide HA))
  have HV := hide (VarD.new w (.slice ao ss.length ca) (.slice bo xs.length cb))
  have HL := hide hl
  have HM := hide hm
  clear h1 h2 hl hm
  go_enter Tryz.func34, Tryz.ntmps34
  go_wp2_with fail
  refine (hostFault_any _ _ _ _ ss xs h _ (unhide HL) (unhide HM) (unhide H1) (unhide H2)).mono ?_
  rintro e w1 ⟨rfl, hb1⟩
  have HB1 := hide (fr (unhide HA) hb1)
  obtain ⟨hc0, hc1⟩ := ((unhide HV).below hb1).cells
  clear hb1
  by_cases e0 : hostC ss xs h = 0
  · have hb : (hostC ss xs h != 0) = false := by simp [e0]
    obtain ⟨ed, _⟩ := hostC_eq e0
    have hl2 := (diskB_len ed).2
    by_cases e2 : xs.length = 200
    · have HX := hide (leC_full e0 e2)
      have hfb : (200 : Int) ≤ (xs.length : Int) := by omega
      clear e2 ed
      go_wp2
      go_ret
      exact ⟨ret_int (unhide HX).symm, unhide HB1⟩
    · have HX := hide (leC_ok e0 e2)
      have hfb : ¬ (200 : Int) ≤ (xs.length : Int) := by omega
      clear e2 ed
      go_wp2
      go_ret
      exact ⟨ret_int (unhide HX).symm, unhide HB1⟩
  · have hb : (hostC ss xs h != 0) = true := by simp [e0]
    have HX := hide (leC_host e0)
    go_wp2
    go_ret
    exact ⟨ret_int (unhide HX).symm, unhide HB1⟩

end Go.Proofs.YtefnapcegeojoaaGreatDoor

namespace Go.Proofs.YtefnapcegeojoaaGreatDoor
open Go.RowKit
set_option linter.unusedVariables false
end Go.Proofs.YtefnapcegeojoaaGreatDoor

namespace Go.Proofs.YtefnapcegeojoaaGreatDoor
open Go.RowKit
set_option linter.unusedVariables false
set_option maxRecDepth 100000

set_option maxHeartbeats 1600000 in
theorem l05Of_any (x : Bk) (v : Int) (w : World) : Calls Tryz.prog 121 #[bV x, .int .i64 v] w fun e w' => e = .returned (bV (bkOf x v)) ∧ Below w.heap.size w w' := by
  by_cases h : x.ver < v
  · rw [show bkOf x v = ⟨v, 0, 0, 0⟩ from if_pos h]
    go_enter Tryz.func121, Tryz.ntmps121
    go_wp2
    exact bodyPost_ret (v := bV ⟨v, 0, 0, 0⟩) (by simp [results, Tryz.results121, go_sem]) rfl ⟨rfl, Joins.below_alloc2 _ _ _⟩
  · rw [show bkOf x v = x from if_neg h]
    go_enter Tryz.func121, Tryz.ntmps121
    go_wp2
    exact bodyPost_ret (v := bV x) (by simp [results, Tryz.results121, go_sem]) rfl ⟨rfl, Joins.below_alloc2 _ _ _⟩

end Go.Proofs.YtefnapcegeojoaaGreatDoor

namespace Go.Proofs.YtefnapcegeojoaaGreatDoor
open Go.RowKit
set_option linter.unusedVariables false
set_option maxRecDepth 100000

structure PxAt (w W : World) (x : Nat) (p : Pxs) : Prop where
  v : VarP W x 63 p
  r : VarP W (x + 1) 63 p00
  k : Below w.heap.size w W
  ge : w.heap.size ≤ x
theorem PxAt.below {w W W' : World} {x : Nat} {p : Pxs} (h : PxAt w W x p) (hb : Below W.heap.size W W') : PxAt w W' x p := ⟨h.v.below hb, h.r.below hb, fr h.k hb, h.ge⟩
theorem PxAt.set {w W : World} {x : Nat} {p : Pxs} (h : PxAt w W x p) (i : Nat) (u : Value) (q : Pxs) (hv : VarP (W.setCell ⟨x, i, none⟩ u) x 63 q) : PxAt w (W.setCell ⟨x, i, none⟩ u) x q :=
  ⟨hv, h.r.keep ((Keep.refl (fun k => k = x) W).setCell (p := ⟨x, i, none⟩) rfl u) (by show ¬ x + 1 = x; omega), h.k.setCell (p := ⟨x, i, none⟩) h.ge u, h.ge⟩

def pxRd1 (p : Pxs) (bs : List Bk) : Pxs :=
  if p.next < 4 then
    (if p.ver < (bkOf (bs.getD p.next.toNat bk0) p.ver).ver ∨ p.ballot < (bkOf (bs.getD p.next.toNat bk0) p.ver).mbal then { p with phase := 6 } else pxEnd (pxLook p (bkOf (bs.getD p.next.toNat bk0) p.ver)))
  else pxEnd p
end Go.Proofs.YtefnapcegeojoaaGreatDoor

namespace Go.Proofs.YtefnapcegeojoaaGreatDoor
open Go.RowKit
set_option linter.unusedVariables false
section
variable {P : Program}
end
end Go.Proofs.YtefnapcegeojoaaGreatDoor

namespace Go.Proofs.YtefnapcegeojoaaGreatDoor
open Go.RowKit
set_option linter.unusedVariables false
set_option maxRecDepth 100000

theorem infoK : (Tryz.prog.info? 96).map (fun i => (i.zero, i.size, i.bytes)) = some (some (.agg #[.int .i64 0, .int .i64 0, .int .i64 0, .int .i64 0]), 4, 32) := by kernel_rfl

structure StAt (w W : World) (x : Nat) (p : Pxs) (qo : Option Addr) (qa : Nat) (bs : List Bk) : Prop where
  a : PxAt w W x p
  o : OwnR W (x + 2) 96 4 (.slice qo 4 qa) 4 (bksV bs)
theorem StAt.below {w W W' : World} {x : Nat} {p : Pxs} {qo : Option Addr} {qa : Nat} {bs : List Bk} (h : StAt w W x p qo qa bs) (hb : Below W.heap.size W W') : StAt w W' x p qo qa bs := ⟨h.a.below hb, h.o.below hb⟩
theorem StAt.out {w W : World} {x : Nat} {p : Pxs} {qo : Option Addr} {qa : Nat} {bs : List Bk} (h : StAt w W x p qo qa bs) (u0 u1 u2 u3 u4 u5 u6 u7 : Value) :
    OwnR ((((((((W.setCell ⟨x + 1, 0, none⟩ u0).setCell ⟨x + 1, 1, none⟩ u1).setCell ⟨x + 1, 2, none⟩ u2).setCell ⟨x + 1, 3, none⟩ u3).setCell ⟨x + 1, 4, none⟩ u4).setCell ⟨x + 1, 5, none⟩ u5).setCell ⟨x + 1, 6, none⟩ u6).setCell ⟨x + 1, 7, none⟩ u7) w.heap.size 96 4 (.slice qo 4 qa) 4 (bksV bs) ∧
    Below w.heap.size w ((((((((W.setCell ⟨x + 1, 0, none⟩ u0).setCell ⟨x + 1, 1, none⟩ u1).setCell ⟨x + 1, 2, none⟩ u2).setCell ⟨x + 1, 3, none⟩ u3).setCell ⟨x + 1, 4, none⟩ u4).setCell ⟨x + 1, 5, none⟩ u5).setCell ⟨x + 1, 6, none⟩ u6).setCell ⟨x + 1, 7, none⟩ u7) := by
  have hg := h.a.ge
  refine ⟨?_, below8 h.a.k (by omega) _ _ _ _ _ _ _ _⟩
  exact OwnR.base ((((((((h.o.setCell (a := ⟨x + 1, 0, none⟩) (by simp) u0).setCell (a := ⟨x + 1, 1, none⟩) (by simp) u1).setCell (a := ⟨x + 1, 2, none⟩) (by simp) u2).setCell (a := ⟨x + 1, 3, none⟩) (by simp) u3).setCell (a := ⟨x + 1, 4, none⟩) (by simp) u4).setCell (a := ⟨x + 1, 5, none⟩) (by simp) u5).setCell (a := ⟨x + 1, 6, none⟩) (by simp) u6).setCell (a := ⟨x + 1, 7, none⟩) (by simp) u7) (by omega)
theorem StAt.bks {w W : World} {x : Nat} {p : Pxs} {qo : Option Addr} {qa : Nat} {bs : List Bk} (h : StAt w W x p qo qa bs) (h4 : bs.length = 4) : Bks W qo bs := by
  exact ownBks (B := x + 2) (e := 96) (cap := qa) (by rw [h4]; exact h.o)
theorem own_put {w : World} {B t n cap g : Nat} {bs : List Bk} (h : w.ownsRow B t 4 (.slice (some ⟨g, 0, none⟩) n cap) n (bksV bs)) {k : Nat} (hk : k < bs.length) (y : Bk) :
    ((((w.setCell ⟨g, k * 4, none⟩ (.int .i64 y.ver)).setCell ⟨g, k * 4 + 1, none⟩ (.int .i64 y.mbal)).setCell ⟨g, k * 4 + 2, none⟩ (.int .i64 y.bal)).setCell ⟨g, k * 4 + 3, none⟩ (.int .i64 y.inp)).ownsRow B t 4 (.slice (some ⟨g, 0, none⟩) n cap) n (bksV (bs.set k y)) := by
  rw [← bksV_set hk y]
  have h3 := stored3 h (k * 4) (k * 4 + 1) (k * 4 + 2) (.int .i64 y.ver) (.int .i64 y.mbal) (.int .i64 y.bal)
  exact (h3.stored (k * 4 + 3) (.int .i64 y.inp)).1

theorem row_free {W : World} {B t n cap g : Nat} {xs : List Value} (h : OwnR W B t 4 (.slice (some ⟨g, 0, none⟩) (n + 1) cap) (n + 1) xs) : (∀ i, W.frozen? ⟨g, i, none⟩ = false) ∧ True ∧ True ∧ True := by
  rcases h with ⟨h0, _, _⟩ | ⟨h0, ho⟩
  · omega
  · obtain ⟨g', cap', cur, e, hB, hg⟩ := own_form h0 ho
    simp only [Value.slice.injEq, Option.some.injEq, Addr.mk.injEq, and_true] at e
    obtain ⟨rfl, _⟩ := e
    exact ⟨fun i => Joins.unfrozen_of_block hg i, trivial, trivial, trivial⟩
end Go.Proofs.YtefnapcegeojoaaGreatDoor

namespace Go.Proofs.YtefnapcegeojoaaGreatDoor
open Go.RowKit
set_option linter.unusedVariables false
set_option maxRecDepth 100000

theorem openB_rec {t : ByteArray} {k : Int} : openB t k = true ↔ RecP t ∧ byteAt t 0 = k := by
  simp only [openB, Bool.and_eq_true, decide_eq_true_eq, recB_iff]
theorem bd_open {t : ByteArray} (h : bdB t = true) : (RecP t ∧ byteAt t 0 = 5) ∧ ∃ a b c d, unL (bodyT t) = [a, b, c, d] ∧ bkB ⟨a, b, c, d⟩ = true ∧ bdK t = ⟨a, b, c, d⟩ := by
  have h' := h
  simp only [bdB, Bool.and_eq_true, decide_eq_true_eq] at h'
  obtain ⟨ho, hl, hd⟩ := h'
  obtain ⟨a, b, c, d, e⟩ := fourK hl
  rw [e] at hd
  refine ⟨openB_rec.1 ho, a, b, c, d, ?_, hd, bd_yes h e⟩
  rw [← e, bdL, openL_yes ho]
theorem bd_shut {t : ByteArray} (h : bdB t = false) (ho : RecP t ∧ byteAt t 0 = 5) (hl : (unL (bodyT t)).length = 4) : ∃ a b c d, unL (bodyT t) = [a, b, c, d] ∧ bkB ⟨a, b, c, d⟩ = false := by
  have ho' := openB_rec.2 ho
  obtain ⟨a, b, c, d, e⟩ := fourK hl
  refine ⟨a, b, c, d, e, ?_⟩
  have e' : bdL t = [a, b, c, d] := by rw [← e, bdL, openL_yes ho']
  rw [← bdB_at ho' e']; exact h

set_option maxHeartbeats 1600000 in
theorem readBlock_yes (t : ByteArray) (w : World) (hs : t.size ≤ 65536) (hd : bdB t = true) :
    Calls Tryz.prog 134 #[.string t] w fun e w' => e = .returned (bV (bdK t)) ∧ Below w.heap.size w w' := by
  obtain ⟨⟨hr, hk⟩, a, b, c, d, hl, hdd, e1⟩ := bd_open hd
  rw [e1]
  have HL := hide hl
  have HDD := hide hdd
  have HR := hide hr
  have HK := hide hk
  clear hl hdd e1 hr hk hd
  have HA := hide (Joins.below_alloc1 w (.cells #[.int .i64 0, .int .i64 0, .int .i64 0, .int .i64 0] 96))
  have HV := hide (VarB.new0 w 96)
  go_enter Tryz.func134, Tryz.ntmps134
  go_wp2_with fail
  refine (readKind_yes t 5 _ hs (unhide HR) (unhide HK)).mono ?_
  rintro e w1 ⟨v, rfl, ⟨qo, qa, rfl, ho⟩, hb⟩
  have HB := hide (fr (unhide HA) hb)
  have HB1 := hide hb
  have hI := ownRN ho
  rw [unhide HL] at hI ⊢
  obtain ⟨g, off, rfl, hi0⟩ := hI 0 (by simp)
  obtain ⟨g', off', he, hi1⟩ := hI 1 (by simp)
  cases he
  obtain ⟨g', off', he, hi2⟩ := hI 2 (by simp)
  cases he
  obtain ⟨g', off', he, hi3⟩ := hI 3 (by simp)
  cases he
  simp only [List.getElem_cons_zero, List.getElem_cons_succ, Nat.add_zero] at hi0 hi1 hi2 hi3
  have hg := World.block_lt_of_cell? _ _ hi0
  clear hI ho hb
  simp only [List.length_cons, List.length_nil, Nat.zero_add, Nat.reduceAdd]
  go_wp2_with (go_at_call 95; refine (demand_true _).mono ?_; rintro e w' ⟨rfl, hw⟩; replace hw := hw.symm; subst hw)
  have HA2 := hide (Joins.below_alloc1 w1 (.cells #[.int .i64 a, .int .i64 b, .int .i64 c, .int .i64 d] 96)).drew
  have HV2 := hide (((unhide HV).below (unhide HB1)).below (unhide HA2))
  have HV3 : Hid (VarB (w1.alloc (.cells #[.int .i64 a, .int .i64 b, .int .i64 c, .int .i64 d] 96)).drew w1.heap.size 96 ⟨a, b, c, d⟩) := hide ((VarB.new w1 96 ⟨a, b, c, d⟩).below (Below.refl _ _).drew)
  have HB2 := hide (fr (unhide HB) (unhide HA2))
  go_region
  go_wp2_with fail
  refine (blockOK_impl ⟨a, b, c, d⟩ _).mono ?_
  rintro e w2 ⟨rfl, hb2⟩
  rw [unhide HDD]
  have HB3 := hide (fr (unhide HB2) hb2)
  obtain ⟨hc0, hc1, hc2, hc3⟩ := ((unhide HV2).below hb2).cells
  obtain ⟨hf0, hf1, hf2, hf3⟩ := ((unhide HV2).below hb2).free
  obtain ⟨hx0, hx1, hx2, hx3⟩ := ((unhide HV3).below hb2).cells
  have HR3 := hide (fun u v x y => below4 (unhide HB3) (Nat.le_refl _) 0 1 2 3 u v x y)
  clear hb2 hi0 hi1 hi2 hi3
  go_wp2_with (go_at_call 95; refine (demand_true _).mono ?_; rintro e w' ⟨rfl, hw⟩; replace hw := hw.symm; subst hw)
  exact bodyPost_ret (v := bV ⟨a, b, c, d⟩) (by simp [results, Tryz.results134, go_sem, hc0, hc1, hc2, hc3]) rfl ⟨rfl, unhide HR3 _ _ _ _⟩

set_option maxHeartbeats 1600000 in
theorem readBlock_no (t : ByteArray) (w : World) (hs : t.size ≤ 65536) (hd : bdB t = false) (hE : ErrW w) :
    Calls Tryz.prog 134 #[.string t] w fun e w' => (∃ u pv, e = .panicked [{ v := .iface u pv, recovered := false }]) ∧ Below w.heap.size w w' := by
  have HA := hide (Joins.below_alloc1 w (.cells #[.int .i64 0, .int .i64 0, .int .i64 0, .int .i64 0] 96))
  have HE := hide (hE.below (unhide HA))
  clear hE
  by_cases hr : RecP t ∧ byteAt t 0 = 5
  · obtain ⟨hr1, hr2⟩ := hr
    by_cases hl : (unL (bodyT t)).length = 4
    · obtain ⟨a, b, c, d, hl, hdd⟩ := bd_shut hd ⟨hr1, hr2⟩ hl
      have HL := hide hl
      have HDD := hide hdd
      have HR := hide hr1
      have HK := hide hr2
      clear hl hdd hr1 hr2 hd
      go_enter Tryz.func134, Tryz.ntmps134
      go_wp2_with fail
      refine (readKind_yes t 5 _ hs (unhide HR) (unhide HK)).mono ?_
      rintro e w1 ⟨v, rfl, ⟨qo, qa, rfl, ho⟩, hb⟩
      have HB := hide (fr (unhide HA) hb)
      have HE1 := hide ((unhide HE).below hb)
      have hI := ownRN ho
      rw [unhide HL] at hI ⊢
      obtain ⟨g, off, rfl, hi0⟩ := hI 0 (by simp)
      obtain ⟨g', off', he, hi1⟩ := hI 1 (by simp)
      cases he
      obtain ⟨g', off', he, hi2⟩ := hI 2 (by simp)
      cases he
      obtain ⟨g', off', he, hi3⟩ := hI 3 (by simp)
      cases he
      simp only [List.getElem_cons_zero, List.getElem_cons_succ, Nat.add_zero] at hi0 hi1 hi2 hi3
      have hg := World.block_lt_of_cell? _ _ hi0
      clear hI ho hb
      simp only [List.length_cons, List.length_nil, Nat.zero_add, Nat.reduceAdd]
      go_wp2_with (go_at_call 95; refine (demand_true _).mono ?_; rintro e w' ⟨rfl, hw⟩; replace hw := hw.symm; subst hw)
      have HA2 := hide (Joins.below_alloc1 w1 (.cells #[.int .i64 a, .int .i64 b, .int .i64 c, .int .i64 d] 96)).drew
      have HV3 : Hid (VarB (w1.alloc (.cells #[.int .i64 a, .int .i64 b, .int .i64 c, .int .i64 d] 96)).drew w1.heap.size 96 ⟨a, b, c, d⟩) := hide ((VarB.new w1 96 ⟨a, b, c, d⟩).below (Below.refl _ _).drew)
      have HB2 := hide (fr (unhide HB) (unhide HA2))
      go_region
      go_wp2_with fail
      refine (blockOK_impl ⟨a, b, c, d⟩ _).mono ?_
      rintro e w2 ⟨rfl, hb2⟩
      rw [unhide HDD]
      have HB3 := hide (fr (unhide HB2) hb2)
      have HE2 := hide (((unhide HE1).below (unhide HA2)).below hb2)
      clear hb2 hi0 hi1 hi2 hi3
      go_wp2_with (go_at_call 95; refine (demand_false _ (unhide HE2)).mono ?_; rintro e w' ⟨⟨u, pv, rfl⟩, hw⟩; replace hw := hw.symm; subst hw)
      exact ⟨rfl, ⟨_, _, rfl⟩, unhide HB3⟩
    · have hl3 : ((((unL (bodyT t)).length : Nat) : Int) == 4) = false := by rw [beq_eq_false_iff_ne]; omega
      have HR := hide hr1
      have HK := hide hr2
      clear hl hr1 hr2 hd
      go_enter Tryz.func134, Tryz.ntmps134
      go_wp2_with fail
      refine (readKind_yes t 5 _ hs (unhide HR) (unhide HK)).mono ?_
      rintro e w1 ⟨v, rfl, ⟨qo, qa, rfl, ho⟩, hb⟩
      have HB := hide (fr (unhide HA) hb)
      have HE1 := hide ((unhide HE).below hb)
      clear ho hb
      go_wp2_with (go_at_call 95; refine (demand_false _ (unhide HE1)).mono ?_; rintro e w' ⟨⟨u, pv, rfl⟩, hw⟩; replace hw := hw.symm; subst hw)
      exact ⟨rfl, ⟨_, _, rfl⟩, unhide HB⟩
  · go_enter Tryz.func134, Tryz.ntmps134
    go_wp2_with fail
    refine (readKind_no t 5 _ hs hr (unhide HE)).mono ?_
    rintro e w1 ⟨⟨u, pv, rfl⟩, hb⟩
    have HB := hide (fr (unhide HA) hb)
    clear hb
    go_wp2
    exact ⟨rfl, ⟨_, _, rfl⟩, unhide HB⟩

theorem catchB_panicking (p : Addr) (x : Int) (u : TypeId) (pv : Value) (older : List PanicEntry) (w : World) (hc : w.cell? p = some (.int .i64 x)) (hz : w.frozen? p = false) :
    CallsD Tryz.prog 148 #[.pointer (some p)] (.panicking ({ v := .iface u pv, recovered := false } :: older)) w fun e u' w' =>
      e = .returned (.tuple #[]) ∧ u' = .panicking ({ v := .iface u pv, recovered := true } :: older) ∧ w' = w.setCell p (.int .i64 3) := by
  refine callsD_of_wpS Tryz.func148 rfl fun c₀ cs hu => ?_
  apply wpS_seq
  apply wpS_region
  simp [wpOpsS, go_sem, recoverD, hu, Tryz.ntmps148, Exit.thenS]
  refine wpS_cond (t := true) (by simp [Act.eval, Array.replicate]) ?_
  simp only [if_true]
  apply wpS_region
  simp [wpOpsS, go_sem, hc, hz, bodyPostS, results, Tryz.results148]

theorem catchB_idle (p : Addr) (w : World) :
    CallsD Tryz.prog 148 #[.pointer (some p)] .returning w fun e u' w' => e = .returned (.tuple #[]) ∧ u' = .returning ∧ w' = w := by
  refine callsD_of_wpS Tryz.func148 rfl fun c₀ cs hu => ?_
  apply wpS_seq
  apply wpS_region
  simp [wpOpsS, go_sem, recoverD, hu, Tryz.ntmps148, Exit.thenS]
  refine wpS_cond (t := false) (by simp [Act.eval, Array.replicate]) ?_
  simp only [Bool.false_eq_true, if_false]
  refine wpS_of_wp (wp_skip ?_)
  cases c₀
  simp_all [bodyPostS, results, Tryz.results148]

end Go.Proofs.YtefnapcegeojoaaGreatDoor

namespace Go.Proofs.YtefnapcegeojoaaGreatDoor
open Go.RowKit
set_option linter.unusedVariables false
set_option maxRecDepth 100000

theorem two_newB {w w1 : World} (hb : Below ((w.alloc (.cells #[.int .i64 0, .int .i64 0, .int .i64 0, .int .i64 0] 96)).alloc (.cells #[.int .i64 0] 3)).heap.size ((w.alloc (.cells #[.int .i64 0, .int .i64 0, .int .i64 0, .int .i64 0] 96)).alloc (.cells #[.int .i64 0] 3)) w1) : VarB w1 w.heap.size 96 bk0 ∧ w1.heap[w.heap.size + 1]? = some (.cells #[.int .i64 0] 3 (0, 0)) := by
  constructor
  · exact ((VarB.new0 w _).below (Joins.below_alloc1 _ _)).below hb
  · rw [hb.block _ (by simp)]
    have := heap_alloc_new (w.alloc (.cells #[.int .i64 0, .int .i64 0, .int .i64 0, .int .i64 0] 96)) (.cells #[.int .i64 0] 3)
    simp only [World.size_alloc] at this
    exact this

set_option maxHeartbeats 1600000 in
theorem readTextB_yes (s : ByteArray) (w : World) (hs : s.size ≤ 65536) (hd : bdB s = true) :
    Calls Tryz.prog 133 #[.string s, .func (.func 134) #[] #[]] w fun e w' => e = .returned (.tuple #[bV (bdK s), .int .i64 0]) ∧ Below w.heap.size w w' := by
  have hmf : ∀ (fn : Fn) (first cap : Array Value) (w : World), (Instr.makeFunc fn first cap).run Tryz.prog w = .ok (.func fn first cap) w := fun _ _ _ _ => rfl
  have HD := hide hd
  clear hd
  go_enter_defers Tryz.func133, Tryz.ntmps133
  go_wp2_with fail
  refine (readBlock_yes s _ hs (unhide HD)).mono ?_
  rintro e w1 ⟨rfl, hb1⟩
  obtain ⟨hv, hblk⟩ := two_newB hb1
  obtain ⟨v0, v1, v2, v3⟩ := hv.cells
  obtain ⟨f0, f1, f2, f3⟩ := hv.free
  have hc0 := Joins.cell_of_block hblk 0
  have hf0 := Joins.unfrozen_of_block hblk 0
  simp only [List.size_toArray, List.length_cons, List.length_nil, Nat.zero_add, Nat.lt_add_one, getElem?_pos, List.getElem_toArray, List.getElem_cons_zero] at hc0
  have HB := hide (fr (Joins.below_alloc2 w _ _) hb1)
  clear hb1 hblk hv
  go_wp2
  refine leaves_cons (f := 148) (args := #[.pointer (some ⟨w.heap.size + 1, 0, none⟩)]) (by simp) (by simp [go_sem]) ?_
  refine (catchB_idle ⟨w.heap.size + 1, 0, none⟩ _).mono ?_
  rintro e u' w'' ⟨rfl, rfl, rfl⟩
  simp [Leaves, settle, results, Tryz.results133, go_sem, v0, v1, v2, v3, hc0, bk0]
  exact (below4 (unhide HB) (Nat.le_refl _) 0 1 2 3 _ _ _ _).setCell (p := ⟨w.heap.size + 1, 0, none⟩) (Nat.le_succ _) _

set_option maxHeartbeats 1600000 in
theorem readTextB_no (s : ByteArray) (w : World) (hs : s.size ≤ 65536) (hd : bdB s = false) (hE : ErrW w) :
    Calls Tryz.prog 133 #[.string s, .func (.func 134) #[] #[]] w fun e w' => e = .returned (.tuple #[bV bk0, .int .i64 3]) ∧ Below w.heap.size w w' := by
  have hmf : ∀ (fn : Fn) (first cap : Array Value) (w : World), (Instr.makeFunc fn first cap).run Tryz.prog w = .ok (.func fn first cap) w := fun _ _ _ _ => rfl
  have HD := hide hd
  have HE := hide (hE.below (Joins.below_alloc2 w (.cells #[.int .i64 0, .int .i64 0, .int .i64 0, .int .i64 0] 96) (.cells #[.int .i64 0] 3)))
  clear hd hE
  go_enter_defers Tryz.func133, Tryz.ntmps133
  go_wp2_with fail
  refine (readBlock_no s _ hs (unhide HD) (unhide HE)).mono ?_
  rintro e w1 ⟨⟨u, pv, rfl⟩, hb1⟩
  obtain ⟨hv, hblk⟩ := two_newB hb1
  obtain ⟨v0, v1, v2, v3⟩ := hv.cells
  have hc0 := Joins.cell_of_block hblk 0
  have hf0 := Joins.unfrozen_of_block hblk 0
  simp only [List.size_toArray, List.length_cons, List.length_nil, Nat.zero_add, Nat.lt_add_one, getElem?_pos, List.getElem_toArray, List.getElem_cons_zero] at hc0
  have HB := hide (fr (Joins.below_alloc2 w _ _) hb1)
  clear hb1 hblk hv
  go_wp2
  refine leaves_cons (f := 148) (args := #[.pointer (some ⟨w.heap.size + 1, 0, none⟩)]) (by simp) (by simp [go_sem]) ?_
  refine (catchB_panicking ⟨w.heap.size + 1, 0, none⟩ 0 u pv [] _ hc0 hf0).mono ?_
  rintro e u' w'' ⟨rfl, rfl, rfl⟩
  simp [Leaves, settle, results, Tryz.results133, go_sem, v0, v1, v2, v3, hc0, bk0]
  exact (unhide HB).setCell (p := ⟨w.heap.size + 1, 0, none⟩) (Nat.le_succ _) _

theorem readTextB_long (s : ByteArray) (w : World) (hs : 65536 < s.size) (f : Value) :
    Calls Tryz.prog 133 #[.string s, f] w fun e w' => e = .returned (.tuple #[bV bk0, .int .i64 2]) ∧ Below w.heap.size w w' := by
  go_enter_defers Tryz.func133, Tryz.ntmps133
  go_wp2
  simp [bodyPostD, Leaves, results, Tryz.results133, go_sem, bk0]
  exact Joins.below_alloc2 _ _ _

set_option maxHeartbeats 1600000 in
theorem decodeBlock_impl (t : ByteArray) (w : World) (hE : ErrW w) : Calls Tryz.prog 111 #[.string t] w fun e w' => e = .returned (.tuple #[bV (bcK t), .int .i64 (bcC t)]) ∧ Below w.heap.size w w' := by
  have hmf : ∀ (fn : Fn) (first cap : Array Value) (w : World), (Instr.makeFunc fn first cap).run Tryz.prog w = .ok (.func fn first cap) w := fun _ _ _ _ => rfl
  have HA := hide (Joins.below_alloc1 w (.cells #[.int .i64 0, .int .i64 0, .int .i64 0, .int .i64 0] 96))
  have HE := hide (hE.below (unhide HA))
  have HV := hide (VarB.new0 w 96)
  clear hE
  obtain ⟨K, HK⟩ : ∃ K : Prop, Hid K := ⟨True, trivial⟩
  have key : ∀ (K1 : Bk) (d : Int), (bcK t = K1 ∧ bcC t = d) → (∀ W, ErrW W → Calls Tryz.prog 133 #[.string t, .func (.func 134) #[] #[]] W fun e w' => e = .returned (.tuple #[bV K1, .int .i64 d]) ∧ Below W.heap.size W w') →
      Calls Tryz.prog 111 #[.string t] w fun e w' => e = .returned (.tuple #[bV (bcK t), .int .i64 (bcC t)]) ∧ Below w.heap.size w w' := by
    intro K1 d hq hc
    have HQ := hide hq
    have HC := hide hc
    clear hq hc
    go_enter Tryz.func111, Tryz.ntmps111
    go_wp2_with fail
    refine (unhide HC _ (unhide HE)).mono ?_
    rintro e w1 ⟨rfl, hb⟩
    have HV1 := hide ((unhide HV).below hb)
    obtain ⟨hc0, hc1, hc2, hc3⟩ := (unhide HV1).cells
    obtain ⟨hf0, hf1, hf2, hf3⟩ := (unhide HV1).free
    have HB := hide (fun u v x y => below4 (fr (unhide HA) hb) (Nat.le_refl _) 0 1 2 3 u v x y)
    clear hb
    go_wp2
    refine bodyPost_ret (v := .tuple #[bV K1, .int .i64 d]) (by simp [results, Tryz.results111, go_sem, hc0, hc1, hc2, hc3]) rfl ⟨?_, unhide HB _ _ _ _⟩
    exact ret_bi (unhide HQ).1.symm (unhide HQ).2.symm
  by_cases h1 : 65536 < t.size
  · exact key _ _ (bc_long h1) (fun W _ => readTextB_long t W h1 _)
  · by_cases hd : bdB t = true
    · exact key _ _ (bc_yes h1 hd) (fun W _ => readTextB_yes t W (by omega) hd)
    · rw [Bool.not_eq_true] at hd
      exact key _ _ (bc_no h1 hd) (fun W hW => readTextB_no t W (by omega) hd hW)

end Go.Proofs.YtefnapcegeojoaaGreatDoor

namespace Go.Proofs.YtefnapcegeojoaaGreatDoor
open Go.RowKit
set_option linter.unusedVariables false
set_option maxRecDepth 100000

theorem infoL : (Tryz.prog.info? 96).map (fun i => (i.zero, i.size, i.bytes)) = some (some (.agg #[.int .i64 0, .int .i64 0, .int .i64 0, .int .i64 0]), 4, 32) := by kernel_rfl
theorem made4 : (madeCells #[Value.int .i64 0, Value.int .i64 0, Value.int .i64 0, Value.int .i64 0] 16).toList = bksV [bk0, bk0, bk0, bk0] := by
  first
    | rfl
    | (simp [madeCells, bksV, bk0]; rfl)
theorem bksOf_at (ss : List ByteArray) (xs : List Wr) (h : Int) {k : Nat} (hk : k < 4) : (bksOf ss xs h).getD k bk0 = bdK (readV ss xs h (1 + (k : Int))) := by
  rcases (show k = 0 ∨ k = 1 ∨ k = 2 ∨ k = 3 by omega) with rfl | rfl | rfl | rfl <;> rfl
theorem list4 {l m : List Bk} (hl : l.length = 4) (hm : m.length = 4) (h : ∀ j, j < 4 → l.getD j bk0 = m.getD j bk0) : l = m := by
  apply List.ext_getElem (hl.trans hm.symm)
  intro i h1 h2
  have := h i (by omega)
  simpa [h1, h2] using this
theorem bcK_right {T : ByteArray} (h : T.size ≤ 80) : bcK T = bdK T := if_neg (by omega)
structure SeI (w wr : World) (D : Nat) (dv dx : Value) (g : Nat) (l : List Bk) : Prop where
  below : Below w.heap.size w wr
  d : VarD wr D dv dx
  o : wr.ownsRow (D + 1) 96 4 (.slice (some ⟨g, 0, none⟩) 4 4) 4 (bksV l)
  n : l.length = 4
  g : D + 1 ≤ g
theorem SeI.next {w wr w' : World} {D : Nat} {dv dx : Value} {g : Nat} {l : List Bk} (k : SeI w wr D dv dx g l) (hb : Below wr.heap.size wr w') : SeI w w' D dv dx g l := ⟨fr k.below hb, k.d.below hb, own_below k.o hb, k.n, k.g⟩
theorem SeI.put {w wr : World} {D : Nat} {dv dx : Value} {g : Nat} {l : List Bk} (h : SeI w wr D dv dx g l) (hw : w.heap.size ≤ D) {k : Nat} (hk : k < 4) (y : Bk) :
    SeI w ((((wr.setCell ⟨g, k * 4, none⟩ (.int .i64 y.ver)).setCell ⟨g, k * 4 + 1, none⟩ (.int .i64 y.mbal)).setCell ⟨g, k * 4 + 2, none⟩ (.int .i64 y.bal)).setCell ⟨g, k * 4 + 3, none⟩ (.int .i64 y.inp)) D dv dx g (l.set k y) := by
  have hgw : w.heap.size ≤ g := by have := h.g; omega
  have hk' : Keep (fun j => j = g) wr ((((wr.setCell ⟨g, k * 4, none⟩ (.int .i64 y.ver)).setCell ⟨g, k * 4 + 1, none⟩ (.int .i64 y.mbal)).setCell ⟨g, k * 4 + 2, none⟩ (.int .i64 y.bal)).setCell ⟨g, k * 4 + 3, none⟩ (.int .i64 y.inp)) :=
    ((((Keep.refl (fun j => j = g) wr).setCell (p := ⟨g, k * 4, none⟩) rfl _).setCell (p := ⟨g, k * 4 + 1, none⟩) rfl _).setCell (p := ⟨g, k * 4 + 2, none⟩) rfl _).setCell (p := ⟨g, k * 4 + 3, none⟩) rfl _
  exact ⟨below4 h.below hgw _ _ _ _ _ _ _ _, h.d.keep hk' (by have := h.g; omega), own_put h.o (by rw [h.n]; exact hk) y, by simp [h.n], h.g⟩

set_option maxHeartbeats 3200000 in
theorem blocksSeen_any (ao bo : Option Addr) (ca cb : Nat) (ss : List ByteArray) (xs : List Wr) (h : Int) (w : World) (hd : diskB ss xs = true) (h1 : Ss w ao ss) (h2 : Ios w bo xs) (hE : ErrW w) :
    Calls Tryz.prog 76 #[.agg #[.slice ao ss.length ca, .slice bo xs.length cb], .int .i64 h] w fun e w' => ∃ g, e = .returned (.slice (some ⟨g, 0, none⟩) 4 4) ∧ OwnR w' w.heap.size 96 4 (.slice (some ⟨g, 0, none⟩) 4 4) 4 (bksV (bksOf ss xs h)) ∧ Below w.heap.size w w' := by
  have H1 := hide h1
  have H2 := hide h2
  have HE := hide hE
  have HD := hide hd
  have HA := hide (Joins.below_alloc1 w (.cells #[.slice ao ss.length ca, .slice bo xs.length cb] 26))
  have HV := hide (VarD.new w (.slice ao ss.length ca) (.slice bo xs.length cb))
  clear h1 h2 hE hd
  obtain ⟨i0, hi, hz0, hz1, hz2⟩ := info_parts infoL
  go_enter Tryz.func76, Tryz.ntmps76
  go_wp2_with (first | (at_make; refine wpList_make_full _ rfl _ _ 64 rfl (w.heap.size + 1) 96 i0 _ 4 Tryz.underlying64 hi hz0 hz1 _ _ _ _ 4 rfl rfl rfl rfl ?c1 ?c2 ?c3 ?_))
  case c1 => rw [hz2]; omega
  case c2 => unfold maxLen; omega
  case c3 => simp
  intro w1 hown hgrow
  replace hown : w1.ownsRow (w.heap.size + 1) 96 4 (.slice (some ⟨w.heap.size + 1, 0, none⟩) 4 4) 4 (bksV [bk0, bk0, bk0, bk0]) := by rw [show bksV [bk0, bk0, bk0, bk0] = (madeCells #[Value.int .i64 0, Value.int .i64 0, Value.int .i64 0, Value.int .i64 0] 16).toList from made4.symm]; simpa using hown
  have hB : Below (w.alloc (.cells #[.slice ao ss.length ca, .slice bo xs.length cb] 26)).heap.size (w.alloc (.cells #[.slice ao ss.length ca, .slice bo xs.length cb] 26)) w1 := (Below.refl _ _).grown hgrow (Nat.le_refl _) (fun _ h => by cases h)
  have E1 : Hid (SeI w w1 w.heap.size (.slice ao ss.length ca) (.slice bo xs.length cb) (w.heap.size + 1) [bk0, bk0, bk0, bk0]) := hide ⟨fr (unhide HA) hB, (unhide HV).below hB, hown, rfl, Nat.le_refl _⟩
  clear hown hB hgrow HA HV
  revert E1
  generalize hG : w.heap.size + 1 = G
  replace hG := hide hG
  intro E1
  go_wp2
  go_loopw [6, 10] (fun _ i wr => ∃ (k : Nat) (l : List Bk), k ≤ 4 ∧ i = .int .i64 k ∧ Hid (SeI w wr w.heap.size (.slice ao ss.length ca) (.slice bo xs.length cb) G l) ∧ Hid (∀ j, j < k → l.getD j bk0 = (bksOf ss xs h).getD j bk0)) (fun _ i _ => 4 - (intOf i).toNat)
  case atStart => exact ⟨0, _, Nat.zero_le _, rfl, E1, hide (fun j hj => absurd hj (Nat.not_lt_zero _))⟩
  case round =>
    obtain ⟨k, l, hk, rfl, ER, HP⟩ := hrel
    by_cases hlt : k < 4
    · have hki : (k : Int) < 4 := by omega
      obtain ⟨T, HT⟩ : ∃ T, Hid (readV ss xs h (1 + (k : Int)) = T) := ⟨_, hide rfl⟩
      have HTZ : Hid (T.size ≤ 80) := hide (by rw [← unhide HT]; exact readV_size (unhide HD) h _)
      obtain ⟨d0, d1⟩ := (unhide ER).d.cells
      have wr1 : IntKind.i64.wrap (1 + (k : Int)) = 1 + (k : Int) := by rw [IntKind.wrap_i64]; omega
      go_wp2_with fail
      refine (seenAt ao bo ca cb ss xs h (1 + (k : Int)) T _ (unhide HD) (by omega) (by omega) (unhide HT) ((unhide H1).below (unhide ER).below) ((unhide H2).below (unhide ER).below)).mono ?_
      rintro e w2 ⟨rfl, hb2⟩
      have E2 := hide ((unhide ER).next hb2)
      clear hb2 d0 d1
      go_wp2_with fail
      refine (decodeBlock_impl T _ ((unhide HE).below (unhide E2).below)).mono ?_
      rintro e w3 ⟨rfl, hb3⟩
      rw [bcK_right (unhide HTZ)]
      have E3 := hide ((unhide E2).next hb3)
      have HB : Hid (bdK T = (bksOf ss xs h).getD k bk0) := hide (by rw [bksOf_at ss xs h hlt, unhide HT])
      clear hb3
      revert HB
      generalize bdK T = y
      intro HB
      have E4 := hide ((unhide E3).put (Nat.le_refl _) hlt y)
      have hkl : k < l.length := by rw [(unhide E3).n]; exact hlt
      obtain ⟨b', off', eb, _, g0, g1, g2, g3⟩ := (ownBks (B := w.heap.size + 1) (e := 96) (cap := 4) (xs := l) (by rw [(unhide E3).n]; exact .inr ⟨by omega, (unhide E3).o⟩)).get k hkl
      simp only [Option.some.injEq, Addr.mk.injEq, and_true] at eb
      obtain ⟨rfl, rfl⟩ := eb
      simp only [Nat.zero_add] at g0 g1 g2 g3
      have fz := (row_free (n := 3) (.inr ⟨by omega, (unhide E3).o⟩)).1
      have hnn : l.length = 4 := (unhide E3).n
      have HPP : Hid (∀ j, j < k + 1 → (l.set k y).getD j bk0 = (bksOf ss xs h).getD j bk0) := hide (fun j hj => by
        by_cases e : j = k
        · subst e; rw [← unhide HB]; simp [hkl]
        · rw [← unhide HP j (by omega)]; simp [Ne.symm e])
      clear hkl hnn
      have f0 := fz (k * 4)
      have f1 := fz (k * 4 + 1)
      have f2 := fz (k * 4 + 2)
      have f3 := fz (k * 4 + 3)
      clear fz
      go_wp2
      go_roundw
      case rel => exact ⟨k + 1, l.set k y, by omega, by go_num, E4, HPP⟩
      case measure => simp [intOf]; omega
    · have hk4 : k = 4 := by omega
      have HL : Hid (l = bksOf ss xs h) := hide (list4 (unhide ER).n rfl (fun j hj => unhide HP j (by omega)))
      have hki : ¬ (k : Int) < 4 := by omega
      clear hk4
      go_wp2
      go_ret
      refine ⟨_, rfl, ?_, (unhide ER).below⟩
      rw [← unhide HL]
      exact .inr ⟨by omega, own_base (unhide ER).o (Nat.le_succ _)⟩
end Go.Proofs.YtefnapcegeojoaaGreatDoor

namespace Go.Proofs.YtefnapcegeojoaaGreatDoor
open Go.RowKit
set_option linter.unusedVariables false
set_option maxRecDepth 100000

abbrev set14 (w : World) (x : Nat) (q : Pxs) (b s d : Value) (L : Ld) : World := ((((((set8 w x q).setCell ⟨x, 8, none⟩ b).setCell ⟨x, 9, none⟩ s).setCell ⟨x, 10, none⟩ d).setCell ⟨x, 11, none⟩ (.int .i64 L.ver)).setCell ⟨x, 12, none⟩ (.int .i64 L.own)).setCell ⟨x, 13, none⟩ (.int .i64 L.gen)
theorem keep14 (W : World) (x : Nat) (q : Pxs) (b s d : Value) (L : Ld) : Keep (fun j => j = x) W (set14 W x q b s d L) :=
  (((keep_set8 W x q).trans (keep_row _ x b)).trans (keep_disk _ x s d)).trans (keep_lead _ x _ _ _)
structure OpI (w W : World) (D : Nat) (dv dx : Value) : Prop where
  below : Below w.heap.size w W
  d : VarD W D dv dx
  r : VarS W (D + 1) p00 (.slice none 0 0) (.slice none 0 0) (.slice none 0 0) ld0
  k : w.heap.size ≤ D
theorem OpI.next {w W W' : World} {D : Nat} {dv dx : Value} (h : OpI w W D dv dx) (hb : Below W.heap.size W W') : OpI w W' D dv dx := ⟨fr h.below hb, h.d.below hb, h.r.below hb, h.k⟩
theorem OpI.last {w W : World} {D n m ca cb ba : Nat} {dv dx : Value} {bo ao qo : Option Addr} {bs : List Bk} {ss : List ByteArray} {xs : List Wr} (h : OpI w W D dv dx) (ho : OwnR W w.heap.size 96 4 (.slice bo 4 ba) 4 (bksV bs)) (hd : OwnD W w.heap.size ao n ca qo m cb ss xs) (q : Pxs) (b s d : Value) (L : Ld) :
    OwnR (set14 W (D + 1) q b s d L) w.heap.size 96 4 (.slice bo 4 ba) 4 (bksV bs) ∧ OwnD (set14 W (D + 1) q b s d L) w.heap.size ao n ca qo m cb ss xs ∧ Below w.heap.size w (set14 W (D + 1) q b s d L) :=
  have hk := keep14 W (D + 1) q b s d L
  ⟨rowX h.r ho hk, diskX h.r hd hk, h.below.trans (hk.below (B := w.heap.size) h.below.size (fun j e => by have e' : j = D + 1 := e; have := h.k; omega))⟩

set_option maxHeartbeats 1600000 in
theorem openStore_any (ao bo : Option Addr) (ca cb : Nat) (ss : List ByteArray) (xs : List Wr) (h : Int) (L : Ld) (w : World) (hL : ldOf ss xs h = L) (hd : diskB ss xs = true) (h1 : Ss w ao ss) (h2 : Ios w bo xs) (hE : ErrW w) :
    Calls Tryz.prog 36 #[.agg #[.slice ao ss.length ca, .slice bo xs.length cb], .int .i64 h] w fun e w' => ∃ g po pa ro ra, e = .returned (.agg #[.int .i64 h, .int .i64 0, .int .i64 0, .int .i64 0, .int .i64 0, .int .i64 0, .int .i64 0, .int .i64 0, .slice (some ⟨g, 0, none⟩) 4 4, .slice po ss.length pa, .slice ro xs.length ra, .int .i64 L.ver, .int .i64 L.own, .int .i64 L.gen]) ∧ OwnR w' w.heap.size 96 4 (.slice (some ⟨g, 0, none⟩) 4 4) 4 (bksV (bksOf ss xs h)) ∧ OwnD w' w.heap.size po ss.length pa ro xs.length ra ss xs ∧ Below w.heap.size w w' := by
  obtain ⟨l1, l2⟩ := diskB_len hd
  have HC1 := hide (fun W (hW : Below w.heap.size w W) => blocksSeen_any ao bo ca cb ss xs h W hd (h1.below hW) (h2.below hW) (hE.below hW))
  have HC2 := hide (fun W (hW : Below w.heap.size w W) => copyDisk_any ao bo ca cb ss xs W (by omega) (by omega) (h1.below hW) (h2.below hW))
  have HC3 := hide (fun W (hW : Below w.heap.size w W) => leaderSeen_any ao bo ca cb ss xs h L W hL hd (h1.below hW) (h2.below hW) (hE.below hW))
  have HA := hide (Joins.below_alloc2 w (.cells #[.slice ao ss.length ca, .slice bo xs.length cb] 26) (.cells #[.int .i64 0, .int .i64 0, .int .i64 0, .int .i64 0, .int .i64 0, .int .i64 0, .int .i64 0, .int .i64 0, .slice none 0 0, .slice none 0 0, .slice none 0 0, .int .i64 0, .int .i64 0, .int .i64 0] 68))
  have HS : Hid (OpI w ((w.alloc (.cells #[.slice ao ss.length ca, .slice bo xs.length cb] 26)).alloc (.cells #[.int .i64 0, .int .i64 0, .int .i64 0, .int .i64 0, .int .i64 0, .int .i64 0, .int .i64 0, .int .i64 0, .slice none 0 0, .slice none 0 0, .slice none 0 0, .int .i64 0, .int .i64 0, .int .i64 0] 68)) w.heap.size (.slice ao ss.length ca) (.slice bo xs.length cb)) :=
    hide ⟨unhide HA, (VarD.new w _ _).below (Joins.below_alloc1 _ _), by
      have := VarS.new (w.alloc (.cells #[.slice ao ss.length ca, .slice bo xs.length cb] 26)) p00 (.slice none 0 0) (.slice none 0 0) (.slice none 0 0) ld0
      simp only [World.size_alloc] at this
      exact this, Nat.le_refl _⟩
  clear hd h1 h2 hE hL l1 l2
  go_enter Tryz.func36, Tryz.ntmps36
  go_upto_region 1 with fail
  revert HS
  clear HA
  generalize (w.alloc (.cells #[.slice ao ss.length ca, .slice bo xs.length cb] 26)).alloc (.cells #[.int .i64 0, .int .i64 0, .int .i64 0, .int .i64 0, .int .i64 0, .int .i64 0, .int .i64 0, .int .i64 0, .slice none 0 0, .slice none 0 0, .slice none 0 0, .int .i64 0, .int .i64 0, .int .i64 0] 68) = W0
  intro HS
  obtain ⟨d0, d1⟩ := (unhide HS).d.cells
  replace HS := hide ((unhide HS).next (Below.refl _ W0).drew)
  go_region_held3 (fun w' => w'.cell? ⟨w.heap.size, 0, none⟩ = some (.slice ao ss.length ca) ∧ w'.cell? ⟨w.heap.size, 1, none⟩ = some (.slice bo xs.length cb)) (go_keep) (first
    | (go_at_call 76; refine (unhide HC1 _ (by exact (unhide HS).below)).mono ?_; rintro e wA ⟨g, rfl, ho, hb⟩; (try replace HO1 := hide ((unhide HO1).below hb)); (try replace HO2 := hide ((unhide HO2).below hb)); have HO1 := hide (ho.base (B' := w.heap.size) (unhide HS).below.size); replace HS := hide ((unhide HS).next hb); clear ho; clear hb; (try clear d0 d1); (first | (have u1 := HO1; have u2 := HO2; have u3 := HO3; clear u1 u2 u3; obtain ⟨r0, r1, r2, r3, r4, r5, r6, r7⟩ := (unhide HS).r.px; obtain ⟨r8, r9, r10, r11, r12, r13⟩ := (unhide HS).r.rest; have f0 := (unhide HS).r.free 0; have f1 := (unhide HS).r.free 1; have f2 := (unhide HS).r.free 2; have f3 := (unhide HS).r.free 3; have f4 := (unhide HS).r.free 4; have f5 := (unhide HS).r.free 5; have f6 := (unhide HS).r.free 6; have f7 := (unhide HS).r.free 7; have f8 := (unhide HS).r.free 8; have f9 := (unhide HS).r.free 9; have f10 := (unhide HS).r.free 10; have f11 := (unhide HS).r.free 11; have f12 := (unhide HS).r.free 12; have f13 := (unhide HS).r.free 13) | skip); obtain ⟨d0, d1⟩ := (unhide HS).d.cells)
    | (go_at_call 77; refine (unhide HC2 _ (by exact (unhide HS).below)).mono ?_; rintro e wA ⟨po, pa, ro, ra, rfl, ho, hb⟩; (try replace HO1 := hide ((unhide HO1).below hb)); (try replace HO2 := hide ((unhide HO2).below hb)); have HO2 := hide (ho.base (B' := w.heap.size) (unhide HS).below.size); replace HS := hide ((unhide HS).next hb); clear ho; clear hb; (try clear d0 d1); (first | (have u1 := HO1; have u2 := HO2; have u3 := HO3; clear u1 u2 u3; obtain ⟨r0, r1, r2, r3, r4, r5, r6, r7⟩ := (unhide HS).r.px; obtain ⟨r8, r9, r10, r11, r12, r13⟩ := (unhide HS).r.rest; have f0 := (unhide HS).r.free 0; have f1 := (unhide HS).r.free 1; have f2 := (unhide HS).r.free 2; have f3 := (unhide HS).r.free 3; have f4 := (unhide HS).r.free 4; have f5 := (unhide HS).r.free 5; have f6 := (unhide HS).r.free 6; have f7 := (unhide HS).r.free 7; have f8 := (unhide HS).r.free 8; have f9 := (unhide HS).r.free 9; have f10 := (unhide HS).r.free 10; have f11 := (unhide HS).r.free 11; have f12 := (unhide HS).r.free 12; have f13 := (unhide HS).r.free 13) | skip); obtain ⟨d0, d1⟩ := (unhide HS).d.cells)
    | (go_at_call 33; refine (unhide HC3 _ (by exact (unhide HS).below)).mono ?_; rintro e wA ⟨rfl, hb⟩; (try replace HO1 := hide ((unhide HO1).below hb)); (try replace HO2 := hide ((unhide HO2).below hb)); have HO3 : Hid True := hide trivial; replace HS := hide ((unhide HS).next hb); clear hb; (try clear d0 d1); (first | (have u1 := HO1; have u2 := HO2; have u3 := HO3; clear u1 u2 u3; obtain ⟨r0, r1, r2, r3, r4, r5, r6, r7⟩ := (unhide HS).r.px; obtain ⟨r8, r9, r10, r11, r12, r13⟩ := (unhide HS).r.rest; have f0 := (unhide HS).r.free 0; have f1 := (unhide HS).r.free 1; have f2 := (unhide HS).r.free 2; have f3 := (unhide HS).r.free 3; have f4 := (unhide HS).r.free 4; have f5 := (unhide HS).r.free 5; have f6 := (unhide HS).r.free 6; have f7 := (unhide HS).r.free 7; have f8 := (unhide HS).r.free 8; have f9 := (unhide HS).r.free 9; have f10 := (unhide HS).r.free 10; have f11 := (unhide HS).r.free 11; have f12 := (unhide HS).r.free 12; have f13 := (unhide HS).r.free 13) | skip); obtain ⟨d0, d1⟩ := (unhide HS).d.cells))
  all_goals
    have HF := hide (OpI.last (unhide HS) (unhide HO1) (unhide HO2) ⟨h, 0, 0, 0, 0, 0, 0, 0⟩ (.slice (some ⟨g, 0, none⟩) 4 4) (.slice po ss.length pa) (.slice ro xs.length ra) L)
    go_wp2
    exact bodyPost_ret (v := .agg #[.int .i64 h, .int .i64 0, .int .i64 0, .int .i64 0, .int .i64 0, .int .i64 0, .int .i64 0, .int .i64 0, .slice (some ⟨g, 0, none⟩) 4 4, .slice po ss.length pa, .slice ro xs.length ra, .int .i64 L.ver, .int .i64 L.own, .int .i64 L.gen]) (by simp [results, Tryz.results36, go_sem, r0, r1, r2, r3, r4, r5, r6, r7, r8, r9, r10, r11, r12, r13]) rfl ⟨g, po, pa, ro, ra, rfl, (unhide HF).1, (unhide HF).2.1, (unhide HF).2.2⟩

end Go.Proofs.YtefnapcegeojoaaGreatDoor

namespace Go.Proofs.YtefnapcegeojoaaGreatDoor
open Go.RowKit
set_option linter.unusedVariables false
set_option maxRecDepth 100000

set_option maxHeartbeats 1600000 in
theorem numbersB (x : Bk) (w : World) : Calls Tryz.prog 141 #[bV x] w fun e w' => ∃ ao, e = .returned (.slice ao 4 4) ∧ Is w' ao [x.ver, x.mbal, x.bal, x.inp] ∧ Below w.heap.size w w' := by
  go_enter Tryz.func141, Tryz.ntmps141
  go_wp2
  go_ret
  exact ⟨_, rfl, is4 _ _ _ _ _ _ _ (by simp), Joins.below_alloc2 _ _ _⟩

set_option maxHeartbeats 1600000 in
theorem encodeBlock_impl (x : Bk) (w : World) : Calls Tryz.prog 118 #[bV x] w fun e w' => e = .returned (.tuple #[.string (ebR x), .int .i64 (ebC x)]) ∧ Below w.heap.size w w' := by
  have HA := hide (Joins.below_alloc1 w (.cells #[.int .i64 x.ver, .int .i64 x.mbal, .int .i64 x.bal, .int .i64 x.inp] 96))
  have HV := hide (VarB.new w 96 x)
  go_enter Tryz.func118, Tryz.ntmps118
  go_wp2_with fail
  refine (blockOK_impl x _).mono ?_
  rintro e w1 ⟨rfl, hb⟩
  have HB := hide (fr (unhide HA) hb)
  obtain ⟨hc0, hc1, hc2, hc3⟩ := ((unhide HV).below hb).cells
  clear hb
  by_cases hd : bkB x = true
  · have HE : Hid (ebR x = encB x ∧ ebC x = 0) := hide ⟨if_pos hd, if_pos hd⟩
    have HD := hide (b4_seal hd)
    go_wp2_with fail
    refine (numbersB x _).mono ?_
    rintro e w2 ⟨ao, rfl, hi, hb⟩
    have HB2 := hide (fr (unhide HB) hb)
    have HI := hide hi
    clear hb hi hc0 hc1 hc2 hc3
    go_wp2_with fail
    refine (sealRecord_impl 5 ao 4 [x.ver, x.mbal, x.bal, x.inp] _ (by simp) (unhide HI)).mono ?_
    rintro e w3 ⟨rfl, hb⟩
    have HB3 := hide (fr (unhide HB2) hb)
    clear hb
    rw [(unhide HD).1, (unhide HD).2]
    go_wp2
    go_ret2
    exact ⟨ret_se (unhide HE).1.symm (unhide HE).2.symm, unhide HB3⟩
  · have HE : Hid (ebR x = ⟨#[]⟩ ∧ ebC x = 1) := hide ⟨if_neg hd, if_neg hd⟩
    rw [Bool.not_eq_true] at hd
    go_wp2
    go_ret2
    exact ⟨ret_se (unhide HE).1.symm (unhide HE).2.symm, unhide HB⟩

end Go.Proofs.YtefnapcegeojoaaGreatDoor

namespace Go.Proofs.YtefnapcegeojoaaGreatDoor
open Go.RowKit
set_option linter.unusedVariables false
set_option maxRecDepth 100000

set_option maxHeartbeats 1600000 in
theorem put_any (B x : Nat) (s : Est) (L : Ld) (bo ao qo : Option Addr) (ba ca cb : Nat) (a : Int) (t : ByteArray) (S : List ByteArray) (X : List Wr) (w : World) (hS : wS s.ss s.xs s.p.host a t = S) (hX : wX s.xs s.p.host a t = X) (hd : diskB s.ss s.xs = true) (hl : s.xs.length < 200) (ht : t.size ≤ 80) (hh : 0 ≤ s.p.host ∧ s.p.host ≤ 3) (a0 : 0 ≤ a) (a1 : a ≤ 63) (hs : Sto w B x s L bo ba ao ca qo cb) :
    Calls Tryz.prog 119 #[.pointer (some ⟨x, 0, none⟩), .int .i64 a, .string t] w fun e w' => e = .returned (.tuple #[]) ∧ StoE w' B x ⟨S, X, s.p, s.bs⟩ L ∧ Keep (fun j => j = x) w w' := by
  obtain ⟨_, z1, z2⟩ := right_sz hd
  have HC : Hid (∀ W, Below w.heap.size w W → Calls Tryz.prog 142 #[.agg #[.slice ao s.ss.length ca, .slice qo s.xs.length cb], .int .i64 s.p.host, .int .i64 a, .string t] W fun e w' => ∃ po pa ro ra, e = .returned (.tuple #[.agg #[.slice po S.length pa, .slice ro X.length ra], .int .i64 0]) ∧ OwnD w' W.heap.size po S.length pa ro X.length ra S X ∧ Below W.heap.size W w') :=
    hide (fun W hW => writeSure_ok ao qo ca cb s.ss s.xs s.p.host a t S X W hS hX hd hl ht hh.1 hh.2 a0 a1 ((hs.below hW).d.ss z1) ((hs.below hW).d.ios z2))
  have HS := hide hs
  obtain ⟨c0, _⟩ := hs.v.px
  obtain ⟨_, c9, c10, _⟩ := hs.v.rest
  clear hS hX hd hl ht hs z1 z2 hh
  go_enter Tryz.func119, Tryz.ntmps119
  go_wp2
  go_region_with (go_at_call 142; refine (unhide HC _ (Below.refl _ w).drew).mono ?_; rintro e wA ⟨po, pa, ro, ra, rfl, hoA, hbA⟩; have HBA := hide (fr (Below.refl _ w).drew hbA); have HOA := hide hoA; have HSA := hide ((unhide HS).below (unhide HBA)); obtain ⟨_, d9, d10, _⟩ := (unhide HSA).v.rest; have f9 := (unhide HSA).v.free 9; have f10 := (unhide HSA).v.free 10; clear hoA hbA)
  all_goals
    have HW := hide (Sto.write (unhide HS) (unhide HBA) (by exact unhide HOA))
    go_wp2
    go_end0
    exact ⟨rfl, ⟨_, _, _, _, _, _, (unhide HW).1⟩, (unhide HW).2⟩

set_option maxHeartbeats 1600000 in
theorem putBlock_any (B x : Nat) (s : Est) (L : Ld) (bo ao qo : Option Addr) (ba ca cb : Nat) (S : List ByteArray) (X : List Wr) (w : World) (hS : wS s.ss s.xs s.p.host (1 + s.p.host) (encB (ownK s.p s.bs)) = S) (hX : wX s.xs s.p.host (1 + s.p.host) (encB (ownK s.p s.bs)) = X) (hd : diskB s.ss s.xs = true) (hl : s.xs.length < 200) (hp : pxB s.p = true) (hb : bksB s.bs = true) (hs : Sto w B x s L bo ba ao ca qo cb) :
    Calls Tryz.prog 82 #[.pointer (some ⟨x, 0, none⟩)] w fun e w' => e = .returned (.tuple #[]) ∧ StoE w' B x ⟨S, X, s.p, s.bs⟩ L ∧ Keep (fun j => j = x) w w' := by
  obtain ⟨hh, _⟩ := px_parts hp
  have hr := own_right hp hb
  have h4 := (bksB_parts hb).1
  obtain ⟨y, hy⟩ : ∃ y, ownK s.p s.bs = y := ⟨_, rfl⟩
  rw [hy] at hS hX hr
  have HY := hide hy
  have HO := hide (fun W hW => own_any B x s L bo ao qo ba ca cb W h4 hh hW)
  rw [hy] at HO
  have HE : Hid (ebR y = encB y) := hide (if_pos hr)
  have HP := hide (fun W hW => put_any B x s L bo ao qo ba ca cb (1 + s.p.host) (encB y) S X W hS hX hd hl (by rw [encB_size]; decide) hh (by omega) (by omega) hW)
  have HS := hide hs
  have wr1 : IntKind.i64.wrap (1 + s.p.host) = 1 + s.p.host := by rw [IntKind.wrap_i64]; omega
  clear hS hX hd hl hp hb hs hh hr h4 hy
  go_enter Tryz.func82, Tryz.ntmps82
  go_wp2_with fail
  refine (unhide HO _ (unhide HS)).mono ?_
  rintro e w1 ⟨rfl, hb1⟩
  have HB1 := hide hb1
  clear hb1
  go_wp2_with fail
  refine (encodeBlock_impl y _).mono ?_
  rintro e w2 ⟨rfl, hb2⟩
  rw [unhide HE]
  have HB2 := hide (fr (unhide HB1) hb2)
  have HS2 := hide ((unhide HS).below (unhide HB2))
  obtain ⟨c0, _⟩ := (unhide HS2).v.px
  clear hb2
  go_wp2_with fail
  refine (unhide HP _ (unhide HS2)).mono ?_
  rintro e w3 ⟨rfl, hst, hk⟩
  have HST := hide hst
  have HK := hide ((Keep.of_below (unhide HB2)).trans hk)
  clear hst hk c0
  go_wp2
  go_end0
  exact ⟨rfl, unhide HST, unhide HK⟩

set_option maxHeartbeats 1600000 in
theorem putLeader_any (B x : Nat) (s : Est) (L M : Ld) (bo ao qo : Option Addr) (ba ca cb : Nat) (S : List ByteArray) (X : List Wr) (w : World) (hS : wS s.ss s.xs s.p.host 0 (encL M) = S) (hX : wX s.xs s.p.host 0 (encL M) = X) (hd : diskB s.ss s.xs = true) (hl : s.xs.length < 200) (hh : 0 ≤ s.p.host ∧ s.p.host ≤ 3) (hM : ldB M = true) (hs : Sto w B x s L bo ba ao ca qo cb) :
    Calls Tryz.prog 84 #[.pointer (some ⟨x, 0, none⟩), lV M] w fun e w' => e = .returned (.tuple #[]) ∧ StoE w' B x ⟨S, X, s.p, s.bs⟩ M ∧ Keep (fun j => j = x) w w' := by
  have HE : Hid (elR M = encL M) := hide (if_pos hM)
  have HP := hide (fun W hW => put_any B x s L bo ao qo ba ca cb 0 (encL M) S X W hS hX hd hl (by rw [encL_size]; decide) hh (by omega) (by omega) hW)
  have HA := hide (Joins.below_alloc1 w (.cells #[.int .i64 M.ver, .int .i64 M.own, .int .i64 M.gen] 30))
  have HS := hide (hs.below (unhide HA))
  have HV := hide (VarT.new w 30 M.ver M.own M.gen)
  have hlt := hs.v.lt
  have HN : Hid (¬ w.heap.size = x) := hide (by omega)
  clear hS hX hd hl hh hM hs hlt
  go_enter Tryz.func84, Tryz.ntmps84
  go_wp2_with fail
  refine (encodeLeader_impl M _).mono ?_
  rintro e w2 ⟨rfl, hb2⟩
  rw [unhide HE]
  have HB2 := hide (fr (unhide HA) hb2)
  have HS2 := hide ((unhide HS).below hb2)
  have HV2 := hide ((unhide HV).below hb2)
  clear hb2
  go_wp2_with fail
  refine (unhide HP _ (unhide HS2)).mono ?_
  rintro e w3 ⟨rfl, hst, hk⟩
  obtain ⟨bo', ba', ao', ca', qo', cb', hst⟩ := hst
  have HV3 := hide ((unhide HV2).keep hk (unhide HN))
  have HK := hide ((Keep.of_below (unhide HB2)).trans hk)
  have HL := hide (hst.leader M)
  have HST := hide hst
  obtain ⟨_, _, _, d11, d12, d13⟩ := hst.v.rest
  have f11 := hst.v.free 11
  have f12 := hst.v.free 12
  have f13 := hst.v.free 13
  obtain ⟨t0, t1, t2⟩ := (unhide HV3).cells
  clear hst hk
  go_wp2
  go_end0
  exact ⟨rfl, ⟨_, _, _, _, _, _, unhide HL⟩, (unhide HK).trans (keep_lead w3 x _ _ _)⟩

end Go.Proofs.YtefnapcegeojoaaGreatDoor

namespace Go.Proofs.YtefnapcegeojoaaGreatDoor
open Go.RowKit
set_option linter.unusedVariables false
set_option maxRecDepth 100000

end Go.Proofs.YtefnapcegeojoaaGreatDoor

namespace Go.Proofs.YtefnapcegeojoaaGreatDoor
open Go.RowKit
set_option linter.unusedVariables false
set_option maxRecDepth 100000

theorem fieldB1 (x : Bk) (W : World) : (Instr.field 96 (bV x) 1).run Tryz.prog W = .ok (.int .i64 x.mbal) W := by kernel_rfl

end Go.Proofs.YtefnapcegeojoaaGreatDoor

namespace Go.Proofs.YtefnapcegeojoaaGreatDoor
open Go.RowKit
set_option linter.unusedVariables false
set_option maxRecDepth 100000

theorem max_le {n m : Int} (h : m ≤ n) : max n m = n := by omega
theorem max_gt {n m : Int} (h : ¬ m ≤ n) : max n m = m := by omega

set_option maxHeartbeats 1600000 in
theorem l05Next_any (h v : Int) (ao : Option Addr) (n cap : Nat) (xs : List Bk) (w : World) (hn : xs.length = n) (hl : n ≤ 1048576) (hh : 0 ≤ h ∧ h ≤ 3) (hm : ∀ i (hi : i < xs.length), xs[i].mbal ≤ 1000000000) (hc : Bks w ao xs) :
    Calls Tryz.prog 87 #[.int .i64 h, .int .i64 v, .slice ao n cap] w fun e w' => e = .returned (.int .i64 (nxBal h v xs)) ∧ Below w.heap.size w w' := by
  have HC := hide hc
  have HM := hide hm
  clear hc hm
  subst hn
  go_enter Tryz.func87, Tryz.ntmps87
  go_wp2
  go_loopw [7, 8] (fun c i wr => ∃ k : Nat, ∃ n : Int, k ≤ xs.length ∧ i = .int .i64 k ∧ c = .int .i64 n ∧ (0 ≤ n ∧ n ≤ 1000000000) ∧ Hid (nxMax v (xs.drop k) n = nxMax v xs 0) ∧ Hid (Below w.heap.size w wr)) (fun _ i _ => xs.length - (intOf i).toNat)
  case atStart => exact ⟨0, 0, Nat.zero_le _, rfl, rfl, by omega, hide rfl, hide (Below.refl _ _)⟩
  case round =>
    obtain ⟨k, n, hk, rfl, rfl, hn, HA, HB⟩ := hrel
    by_cases hlt : k < xs.length
    · obtain ⟨b, off, rfl, c0, c1, c2, c3⟩ := (unhide HC).below (unhide HB) k hlt
      have hf := fieldB1 (bkOf xs[k] v)
      have HN := hide ((nxMax_drop (v := v) hlt n).symm.trans (unhide HA))
      have hmb := bkOf_mbal xs[k] v
      have hm1 := unhide HM k hlt
      go_wp2_with fail
      refine (l05Of_any xs[k] v _).mono ?_
      rintro e w1 ⟨rfl, hb⟩
      have HB1 := hide (fr (unhide HB) hb)
      clear hb
      by_cases hx : (bkOf xs[k] v).mbal ≤ n
      · have HX : Hid (nxMax v (xs.drop (k + 1)) n = nxMax v xs 0) := hide (by rw [← unhide HN, max_le hx])
        go_wp2_with fail
        go_roundw
        case rel => exact ⟨k + 1, n, by omega, by go_num, by first | rfl | (rw [max_le hx]), hn, HX, HB1⟩
        case measure => simp [intOf]; omega
      · have HX : Hid (nxMax v (xs.drop (k + 1)) (bkOf xs[k] v).mbal = nxMax v xs 0) := hide (by rw [← unhide HN, max_gt hx])
        go_wp2_with fail
        go_roundw
        case rel => exact ⟨k + 1, (bkOf xs[k] v).mbal, by omega, by go_num, by first | rfl | (rw [max_gt hx]), by omega, HX, HB1⟩
        case measure => simp [intOf]; omega
    · have HF : Hid (nxBal h v xs = (Int.tdiv n 4 + 1) * 4 + h) := hide (by rw [nxBal, ← unhide HA, nxMax_done hlt])
      have hq : 0 ≤ Int.tdiv n 4 ∧ Int.tdiv n 4 ≤ 1000000000 := by rw [Int.tdiv_eq_ediv_of_nonneg hn.1]; omega
      have w1 : IntKind.i64.wrap (Int.tdiv n 4 + 1) = Int.tdiv n 4 + 1 := by rw [IntKind.wrap_i64]; omega
      have w2 : IntKind.i64.wrap ((Int.tdiv n 4 + 1) * 4) = (Int.tdiv n 4 + 1) * 4 := by rw [IntKind.wrap_i64]; omega
      have w3 : IntKind.i64.wrap ((Int.tdiv n 4 + 1) * 4 + h) = (Int.tdiv n 4 + 1) * 4 + h := by rw [IntKind.wrap_i64]; omega
      go_wp2
      go_ret
      exact ⟨ret_int (unhide HF).symm, unhide HB⟩

set_option maxHeartbeats 1600000 in
theorem asOf_any (x : Bk) (v : Int) (w : World) : Calls Tryz.prog 149 #[bV x, .int .i64 v] w fun e w' => e = .returned (bV (bkOf x v)) ∧ Below w.heap.size w w' := by
  by_cases h : x.ver < v
  · rw [show bkOf x v = ⟨v, 0, 0, 0⟩ from if_pos h]
    go_enter Tryz.func149, Tryz.ntmps149
    go_wp2
    exact bodyPost_ret (v := bV ⟨v, 0, 0, 0⟩) (by simp [results, Tryz.results149, go_sem]) rfl ⟨rfl, Joins.below_alloc2 _ _ _⟩
  · rw [show bkOf x v = x from if_neg h]
    go_enter Tryz.func149, Tryz.ntmps149
    go_wp2
    exact bodyPost_ret (v := bV x) (by simp [results, Tryz.results149, go_sem]) rfl ⟨rfl, Joins.below_alloc2 _ _ _⟩

set_option maxHeartbeats 1600000 in
theorem blocksFault_any (ao : Option Addr) (cap : Nat) (xs : List Bk) (w : World) (hl : xs.length ≤ 1048576) (hc : Bks w ao xs) :
    Calls Tryz.prog 135 #[.slice ao xs.length cap] w fun e w' => e = .returned (.int .i64 (bfC xs)) ∧ Below w.heap.size w w' := by
  have HC := hide hc
  clear hc
  by_cases h1 : 4096 < xs.length
  · have HE := hide (bfC_long h1)
    go_enter Tryz.func135, Tryz.ntmps135
    go_wp2
    go_ret
    exact ⟨ret_int (unhide HE).symm, Below.refl _ _⟩
  by_cases h4 : ¬ xs.length = 4
  · have HE := hide (bfC_bad h1 (bksB_false_len h4))
    have hb : ((xs.length : Int) != 4) = true := by simp; omega
    go_enter Tryz.func135, Tryz.ntmps135
    go_wp2
    go_ret
    exact ⟨ret_int (unhide HE).symm, Below.refl _ _⟩
  rw [Decidable.not_not] at h4
  have hb : ((xs.length : Int) != 4) = false := by simp; omega
  have H4 := hide h4
  clear h4
  go_enter Tryz.func135, Tryz.ntmps135
  go_wp2
  go_loopw [4, 13] (fun _ i wr => ∃ k : Nat, k ≤ xs.length ∧ i = .int .i64 k ∧ Hid (∀ j (h : j < xs.length), j < k → bkB xs[j] = true) ∧ Hid (Below w.heap.size w wr)) (fun _ i _ => xs.length - (intOf i).toNat)
  case atStart => exact ⟨0, Nat.zero_le _, rfl, hide (fun j _ h => by omega), hide (Below.refl _ _)⟩
  case round =>
    obtain ⟨k, hk, rfl, HA, HB⟩ := hrel
    by_cases hlt : k < xs.length
    · obtain ⟨b, off, rfl, c0, c1, c2, c3⟩ := (unhide HC).below (unhide HB) k hlt
      by_cases hn : bkB xs[k] = true
      · have HN := hide (all_succ (p := bkB) hlt (unhide HA) hn)
        go_wp2_with fail
        refine (blockOK_impl xs[k] _).mono ?_
        rintro e w1 ⟨rfl, hb⟩
        have HB1 := hide (fr (fr (unhide HB) (Joins.below_alloc1 _ _)) hb)
        clear hb
        go_wp2_with fail
        go_roundw
        case rel => exact ⟨k + 1, by omega, by go_num, HN, HB1⟩
        case measure => simp [intOf]; omega
      · have hn' : bkB xs[k] = false := by simpa using hn
        have HF := hide (bfC_bad h1 (bksB_false_at hlt hn'))
        clear hn
        go_wp2_with fail
        refine (blockOK_impl xs[k] _).mono ?_
        rintro e w1 ⟨rfl, hb⟩
        have HB1 := hide (fr (fr (unhide HB) (Joins.below_alloc1 _ _)) hb)
        clear hb
        go_wp2
        go_ret
        exact ⟨ret_int (unhide HF).symm, unhide HB1⟩
    · have HF := hide (bfC_ok h1 (bksB_true (unhide H4) (fun j h => unhide HA j h (by omega))))
      go_wp2
      go_ret
      exact ⟨ret_int (unhide HF).symm, unhide HB⟩

set_option maxHeartbeats 1600000 in
theorem greatestBegun_any (v : Int) (ao : Option Addr) (n cap : Nat) (xs : List Bk) (w : World) (hn : xs.length = n) (hl : n ≤ 1048576) (hm : ∀ i (hi : i < xs.length), xs[i].mbal ≤ 1000000000) (hc : Bks w ao xs) :
    Calls Tryz.prog 136 #[.slice ao n cap, .int .i64 v] w fun e w' => e = .returned (.int .i64 (nxMax v xs 0)) ∧ (0 ≤ nxMax v xs 0 ∧ nxMax v xs 0 ≤ 1000000000) ∧ Below w.heap.size w w' := by
  have HC := hide hc
  have HM := hide hm
  clear hc hm
  subst hn
  go_enter Tryz.func136, Tryz.ntmps136
  go_wp2
  go_loopw [5, 7, 10] (fun c _ i wr => ∃ k : Nat, ∃ n : Int, k ≤ xs.length ∧ i = .int .i64 k ∧ c = .int .i64 n ∧ (0 ≤ n ∧ n ≤ 1000000000) ∧ Hid (nxMax v (xs.drop k) n = nxMax v xs 0) ∧ Hid (Below w.heap.size w wr)) (fun _ _ i _ => xs.length - (intOf i).toNat)
  case atStart => exact ⟨0, 0, Nat.zero_le _, rfl, rfl, by omega, hide rfl, hide (Below.refl _ _)⟩
  case round =>
    obtain ⟨k, n, hk, rfl, rfl, hn, HA, HB⟩ := hrel
    by_cases hlt : k < xs.length
    · obtain ⟨b, off, rfl, c0, c1, c2, c3⟩ := (unhide HC).below (unhide HB) k hlt
      have hf := fieldB1 (bkOf xs[k] v)
      have HN := hide ((nxMax_drop (v := v) hlt n).symm.trans (unhide HA))
      have hmb := bkOf_mbal xs[k] v
      have hm1 := unhide HM k hlt
      go_wp2_with fail
      refine (asOf_any xs[k] v _).mono ?_
      rintro e w1 ⟨rfl, hb⟩
      have HB1 := hide (fr (fr (unhide HB) (Joins.below_alloc1 _ _)) hb)
      clear hb
      by_cases hx : (bkOf xs[k] v).mbal ≤ n
      · have HX : Hid (nxMax v (xs.drop (k + 1)) n = nxMax v xs 0) := hide (by rw [← unhide HN, max_le hx])
        go_wp2_with fail
        go_roundw
        case rel => exact ⟨k + 1, n, by omega, by go_num, by first | rfl | (rw [max_le hx]), hn, HX, HB1⟩
        case measure => simp [intOf]; omega
      · have HX : Hid (nxMax v (xs.drop (k + 1)) (bkOf xs[k] v).mbal = nxMax v xs 0) := hide (by rw [← unhide HN, max_gt hx])
        go_wp2_with fail
        go_roundw
        case rel => exact ⟨k + 1, (bkOf xs[k] v).mbal, by omega, by go_num, by first | rfl | (rw [max_gt hx]), by omega, HX, HB1⟩
        case measure => simp [intOf]; omega
    · have HF : Hid (nxMax v xs 0 = n) := hide (by rw [← unhide HA, nxMax_done hlt])
      go_wp2
      go_ret
      rw [unhide HF]
      exact ⟨rfl, hn, unhide HB⟩

theorem bks_mbal {xs : List Bk} (h : bksB xs = true) : ∀ i (hi : i < xs.length), xs[i].mbal ≤ 1000000000 := fun i hi => by
  have := (bksB_parts h).2 i hi
  have e : xs.getD i bk0 = xs[i] := by simp [hi]
  rw [e] at this
  have := (bkB_iff.1 this).2.1
  omega
theorem ret_ii {a b c d : Int} (h : a = b) (k : c = d) : Ending.returned (.tuple #[.int .i64 a, .int .i64 c]) = .returned (.tuple #[.int .i64 b, .int .i64 d]) := by rw [h, k]

set_option maxHeartbeats 3200000 in
theorem nextBallot_impl (h v : Int) (ao : Option Addr) (cap : Nat) (xs : List Bk) (w : World) (hl : xs.length ≤ 1048576) (hc : Bks w ao xs) :
    Calls Tryz.prog 114 #[.int .i64 h, .int .i64 v, .slice ao xs.length cap] w fun e w' => e = .returned (.tuple #[.int .i64 (nbN h v xs), .int .i64 (nbC h v xs)]) ∧ Below w.heap.size w w' := by
  have HC := hide hc
  clear hc
  go_enter Tryz.func114, Tryz.ntmps114
  go_wp2_with fail
  refine (blocksFault_any ao cap xs _ hl (unhide HC)).mono ?_
  rintro e w1 ⟨rfl, hb⟩
  have HB := hide hb
  clear hb
  by_cases h0 : ¬ bfC xs = 0
  · have HE := hide (nb_fault (h := h) (v := v) h0)
    have hb : (bfC xs != 0) = true := by simp [h0]
    go_wp2
    go_ret2
    exact ⟨ret_ii (unhide HE).1.symm (unhide HE).2.symm, unhide HB⟩
  rw [Decidable.not_not] at h0
  have hb : (bfC xs != 0) = false := by simp [h0]
  have H0 := hide h0
  clear h0
  go_wp2_with fail
  refine (hostOK_any h _).mono ?_
  rintro e w2 ⟨rfl, rfl⟩
  by_cases h1 : inB h 0 3 = false
  · have HE := hide (nb_range (h := h) (v := v) (unhide H0) (by rw [h1]; rfl))
    go_wp2
    go_ret2
    exact ⟨ret_ii (unhide HE).1.symm (unhide HE).2.symm, unhide HB⟩
  rw [Bool.not_eq_false] at h1
  go_wp2_with fail
  refine (verOK_any v _).mono ?_
  rintro e w2 ⟨rfl, rfl⟩
  by_cases h2 : inB v 0 1000000 = false
  · have HE := hide (nb_range (h := h) (v := v) (unhide H0) (by rw [h1, h2]; rfl))
    go_wp2
    go_ret2
    exact ⟨ret_ii (unhide HE).1.symm (unhide HE).2.symm, unhide HB⟩
  rw [Bool.not_eq_false] at h2
  go_wp2_with fail
  refine (greatestBegun_any v ao xs.length cap xs _ rfl hl (bks_mbal (bfC_zero (unhide H0))) ((unhide HC).below (unhide HB))).mono ?_
  rintro e w3 ⟨rfl, hn, hb3⟩
  have HB3 := hide (fr (unhide HB) hb3)
  clear hb3
  have HX : Hid (nxBal h v xs = (Int.tdiv (nxMax v xs 0) 4 + 1) * 4 + h) := hide rfl
  have hh : 0 ≤ h ∧ h ≤ 3 := by simpa [inB] using h1
  have HM := hide (fun e => nb_many (h := h) (v := v) (unhide H0) h1 h2 e)
  have HO := hide (fun e => nb_ok (h := h) (v := v) (unhide H0) h1 h2 e)
  revert HX hn
  generalize nxMax v xs 0 = n
  intro hn HX
  have hq : 0 ≤ Int.tdiv n 4 ∧ Int.tdiv n 4 ≤ 1000000000 := by rw [Int.tdiv_eq_ediv_of_nonneg hn.1]; omega
  have w1 : IntKind.i64.wrap (Int.tdiv n 4 + 1) = Int.tdiv n 4 + 1 := by rw [IntKind.wrap_i64]; omega
  have w2 : IntKind.i64.wrap ((Int.tdiv n 4 + 1) * 4) = (Int.tdiv n 4 + 1) * 4 := by rw [IntKind.wrap_i64]; omega
  have w3 : IntKind.i64.wrap ((Int.tdiv n 4 + 1) * 4 + h) = (Int.tdiv n 4 + 1) * 4 + h := by rw [IntKind.wrap_i64]; omega
  by_cases hm : 1000000 < (Int.tdiv n 4 + 1) * 4 + h
  · have HE := hide (unhide HM (by rw [unhide HX]; exact hm))
    go_wp2
    go_ret2
    exact ⟨ret_ii (unhide HE).1.symm (unhide HE).2.symm, unhide HB3⟩
  · have HE := hide (unhide HO (by rw [unhide HX]; exact hm))
    go_wp2
    go_ret2
    exact ⟨ret_ii ((unhide HX).symm.trans (unhide HE).1.symm) (unhide HE).2.symm, unhide HB3⟩

end Go.Proofs.YtefnapcegeojoaaGreatDoor
