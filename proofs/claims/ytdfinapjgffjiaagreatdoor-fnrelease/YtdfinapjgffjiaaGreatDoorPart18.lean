import Derived.Test.YtdfinapjgffjiaaGreatDoorRows
import Derived.Test.YtdfinapjgffjiaaGreatDoorPart1
import Derived.Test.YtdfinapjgffjiaaGreatDoorPart6
import Derived.Test.YtdfinapjgffjiaaGreatDoorPart3
import Derived.Test.YtdfinapjgffjiaaGreatDoorPart2
import Derived.Test.YtdfinapjgffjiaaGreatDoorPart4
import Derived.Test.YtdfinapjgffjiaaGreatDoorPart7
import Derived.Test.YtdfinapjgffjiaaGreatDoorPart14
import Derived.Test.YtdfinapjgffjiaaGreatDoorPart8
import Derived.Test.YtdfinapjgffjiaaGreatDoorPart11
import Derived.WalkKit
import Derived.WalkSpells
import Derived.KernelRfl
import Derived.Deep.MidRow
import Derived.WalkMore
import Derived.Test.YtdfinapjgffjiaaGreatDoorPart5
import Derived.Test.YtdfinapjgffjiaaGreatDoorPart12
import Derived.Test.YtdfinapjgffjiaaGreatDoorPart13
import Derived.Test.YtdfinapjgffjiaaGreatDoorPart9
import Derived.Deep.RegionWith
import Derived.Deep.RegionHeld3
import Derived.Deep.CutRange
import Derived.Deep.LoopGhost

/- Contracts of spec's l06Ask, l06Blocks. -/
namespace Go.Proofs.YtdfinapjgffjiaaGreatDoor
open Go.RowKit
set_option linter.unusedVariables false
set_option maxRecDepth 100000

set_option maxHeartbeats 1600000 in
theorem l06Ask_any (ao bo : Option Addr) (ca cb : Nat) (ss : List ByteArray) (xs : List Wr) (h : Int) (w : World) (hl : ss.length ≤ maxLen) (hm : xs.length ≤ maxLen) (h1 : Ss w ao ss) (h2 : Ios w bo xs) :
    Calls Tryz.prog 29 #[.agg #[.slice ao ss.length ca, .slice bo xs.length cb], .int .i64 h] w fun e w' => e = .returned (.int .i64 (leC ss xs h)) ∧ Below w.heap.size w w' := by
  have HA := hide (Joins.below_alloc1 w (.cells #[.slice ao ss.length ca, .slice bo xs.length cb] 26))
  have H1 := hide (h1.below (unhide HA))
  have H2 := hide (h2.below (unhide HA))
  have HV := hide (VarD.new w (.slice ao ss.length ca) (.slice bo xs.length cb))
  have HL := hide hl
  have HM := hide hm
  clear h1 h2 hl hm
  go_enter Tryz.func29, Tryz.ntmps29
  go_wp2_with fail
  refine (l01Ask_any _ _ _ _ ss xs h 0 _ (unhide HL) (unhide HM) (unhide H1) (unhide H2)).mono ?_
  rintro e w1 ⟨rfl, hb1⟩
  have HB1 := hide (fr (unhide HA) hb1)
  obtain ⟨hc0, hc1⟩ := ((unhide HV).below hb1).cells
  clear hb1
  rw [ask_zero]
  by_cases e0 : hostC ss xs h = 0
  · have hb : (hostC ss xs h != 0) = false := by simp [e0]
    by_cases e2 : xs.length = 200
    · have HX := hide (leC_full e0 e2)
      have hfb : ((xs.length : Int) == 200) = true := by simp [e2]
      clear e2
      go_wp2
      go_ret
      exact ⟨ret_int (unhide HX).symm, unhide HB1⟩
    · have HX := hide (leC_ok e0 e2)
      have hfb : ((xs.length : Int) == 200) = false := by exact beq_eq_false_iff_ne.2 (by omega)
      clear e2
      go_wp2
      go_ret
      exact ⟨ret_int (unhide HX).symm, unhide HB1⟩
  · have hb : (hostC ss xs h != 0) = true := by simp [e0]
    have HX := hide (leC_host e0)
    go_wp2
    go_ret
    exact ⟨ret_int (unhide HX).symm, unhide HB1⟩

theorem infoV : (Tryz.prog.info? 80).map (fun i => (i.zero, i.size, i.bytes)) = some (some (.agg #[.int .i64 0, .int .i64 0, .int .i64 0, .int .i64 0]), 4, 32) := by kernel_rfl
theorem news4 (w : World) (b : Bk) (t : TypeId) : ∀ j u, (bksV [b])[j]? = some u → (w.alloc (.cells #[.int .i64 b.ver, .int .i64 b.mbal, .int .i64 b.bal, .int .i64 b.inp] t)).cell? ((⟨w.heap.size, 0, none⟩ : Addr).add j) = some u := by
  intro j u hj
  have hl : j < 4 := by
    have := (List.getElem?_eq_some_iff.1 hj).1
    simpa [bksV] using this
  rcases (show j = 0 ∨ j = 1 ∨ j = 2 ∨ j = 3 by omega) with rfl | rfl | rfl | rfl <;> simp [bksV] at hj <;> subst hj <;> simp [go_sem, Addr.add]
theorem cell4 (b : Bk) : ∀ u ∈ bksV [b], u.oneCell' = true := by
  intro u hu
  simp [bksV] at hu
  rcases hu with rfl | rfl | rfl | rfl <;> rfl
theorem bksV_app (xs : List Bk) (b : Bk) : bksV (xs ++ [b]) = bksV xs ++ bksV [b] := by simp [bksV]
theorem bksOf_take (ss : List ByteArray) (xs : List Wr) (h : Int) {k : Nat} (hk : k < 4) : (bksOf ss xs h).take (k + 1) = (bksOf ss xs h).take k ++ [bdK (readV ss xs h (1 + (k : Int)))] := by
  rcases (show k = 0 ∨ k = 1 ∨ k = 2 ∨ k = 3 by omega) with rfl | rfl | rfl | rfl <;> rfl
/-- What is between two of its rounds. -/
structure SbI (w wr : World) (D : Nat) (dv dx v : Value) (k : Nat) (l : List Bk) : Prop where
  below : Below w.heap.size w wr
  d : VarD wr D dv dx
  o : OwnR wr w.heap.size 80 4 v k (bksV l)
theorem SbI.next {w wr w' : World} {D k : Nat} {dv dx v : Value} {l : List Bk} (i : SbI w wr D dv dx v k l) (hb : Below wr.heap.size wr w') : SbI w w' D dv dx v k l := ⟨fr i.below hb, i.d.below hb, i.o.below hb⟩
theorem SbI.more {w wr w' : World} {D k g cap : Nat} {dv dx v : Value} {l m : List Bk} (i : SbI w wr D dv dx v k l) (ho : w'.ownsRow w.heap.size 80 4 (.slice (some ⟨g, 0, none⟩) (k + 1) cap) (k + 1) (bksV m)) (hk : Keep (Own v) wr w') : SbI w w' D dv dx (.slice (some ⟨g, 0, none⟩) (k + 1) cap) (k + 1) m :=
  ⟨i.below.trans (hk.below (B := w.heap.size) i.below.size (fun j hj => (i.o.ge j hj).1)), i.d.keep hk (i.o.other i.d (by decide)), .inr ⟨by omega, ho⟩⟩

set_option maxHeartbeats 1600000 in
theorem l06Blocks_any (ao bo : Option Addr) (ca cb : Nat) (ss : List ByteArray) (xs : List Wr) (h : Int) (w : World) (hd : diskB ss xs = true) (h1 : Ss w ao ss) (h2 : Ios w bo xs) :
    Calls Tryz.prog 67 #[.agg #[.slice ao ss.length ca, .slice bo xs.length cb], .int .i64 h] w fun e w' => ∃ qo qa, e = .returned (.slice qo 4 qa) ∧ OwnR w' w.heap.size 80 4 (.slice qo 4 qa) 4 (bksV (bksOf ss xs h)) ∧ Below w.heap.size w w' := by
  have H1 := hide h1
  have H2 := hide h2
  have HD := hide hd
  obtain ⟨l1, l2⟩ := diskB_len hd
  have HRD : Hid (∀ (k : Nat) (W : World), k < 4 → Below w.heap.size w W → Calls Tryz.prog 78 #[.agg #[.slice ao ss.length ca, .slice bo xs.length cb], .int .i64 h, .int .i64 (1 + (k : Int))] W fun e w' => e = .returned (.string (readV ss xs h (1 + (k : Int)))) ∧ Below W.heap.size W w') := hide (fun k W hk hW => by
    have := l01Read_any ao bo ca cb ss xs h (1 + k) W (by omega) (by omega) (by unfold maxLen; omega) (h1.below hW) (h2.below hW)
    rw [show ((1 + k : Nat) : Int) = 1 + (k : Int) by omega] at this
    exact this)
  have E1 : Hid (SbI w ((w.alloc (.cells #[.slice ao ss.length ca, .slice bo xs.length cb] 26)).alloc (.cells #[] 80)) w.heap.size (.slice ao ss.length ca) (.slice bo xs.length cb) (.slice (some ⟨w.heap.size + 1, 0, none⟩) 0 0) 0 []) :=
    hide ⟨Joins.below_alloc2 _ _ _, (VarD.new w _ _).below (Joins.below_alloc1 _ _), .inl ⟨rfl, rfl, _, rfl⟩⟩
  clear h1 h2 hd l1 l2
  obtain ⟨i0, hi, hz0, hz1, hz2⟩ := info_parts infoV
  go_enter Tryz.func67, Tryz.ntmps67
  go_wp2
  revert E1
  generalize (w.alloc (.cells #[.slice ao ss.length ca, .slice bo xs.length cb] 26)).alloc (.cells #[] 80) = W1
  intro E1
  go_loopw [5, 6, 7, 8] (fun out i _ _ wr => ∃ (k : Nat) (qo : Option Addr) (qa : Nat), k ≤ 4 ∧ i = .int .i64 k ∧ out = .slice qo k qa ∧ Hid (SbI w wr w.heap.size (.slice ao ss.length ca) (.slice bo xs.length cb) (.slice qo k qa) k ((bksOf ss xs h).take k))) (fun _ i _ _ _ => 4 - (intOf i).toNat)
  case atStart => exact ⟨0, _, _, by omega, rfl, rfl, E1⟩
  case round =>
    obtain ⟨k, qo, qa, hk, rfl, rfl, ER⟩ := hrel
    by_cases hlt : k < 4
    · have hki : (k : Int) < 4 := by omega
      obtain ⟨d0, d1⟩ := (unhide ER).d.cells
      have wr1 : IntKind.i64.wrap (1 + (k : Int)) = 1 + (k : Int) := by rw [IntKind.wrap_i64]; omega
      obtain ⟨T, HT⟩ : ∃ T, Hid (readV ss xs h (1 + (k : Int)) = T) := ⟨_, hide rfl⟩
      have HTZ : Hid (T.size ≤ 80) := hide (by rw [← unhide HT]; exact readV_size (unhide HD) h _)
      have HTK : Hid ((bksOf ss xs h).take (k + 1) = (bksOf ss xs h).take k ++ [bdK T]) := hide (by rw [← unhide HT]; exact bksOf_take ss xs h hlt)
      have HRK := hide (unhide HRD k _ hlt (unhide ER).below)
      rw [unhide HT] at HRK
      go_wp2_with fail
      refine (unhide HRK).mono ?_
      rintro e w2 ⟨rfl, hb2⟩
      have E2 := hide ((unhide ER).next hb2)
      clear hb2 d0 d1
      go_wp2_with fail
      refine (l05Decode_any T _ (Nat.le_trans (unhide HTZ) (by decide))).mono ?_
      rintro e w3 ⟨rfl, hb3⟩
      have E3 := hide ((unhide E2).next hb3)
      clear hb3
      revert HTK
      generalize bdK T = y
      intro HTK
      have E4 := hide (((unhide E3).next (Joins.below_alloc1 w3 (.cells #[.int .i64 y.ver, .int .i64 y.mbal, .int .i64 y.bal, .int .i64 y.inp] 80))).next (Joins.below_alloc1 _ (.cells #[.int .i64 y.ver, .int .i64 y.mbal, .int .i64 y.bal, .int .i64 y.inp] 80)))
      have HI := hide (news4 (w3.alloc (.cells #[.int .i64 y.ver, .int .i64 y.mbal, .int .i64 y.bal, .int .i64 y.inp] 80)) y 80)
      simp only [World.size_alloc] at HI
      have HSZ := hide (unhide E4).below.size
      go_wp2_with (at_builtin; refine wpList_append_one rfl _ _ 54 rfl w.heap.size 80 i0 (.agg #[.int .i64 0, .int .i64 0, .int .i64 0, .int .i64 0]) 4 32 Tryz.underlying54 hi hz0 hz1 hz2 rfl (by omega) qo k qa _ rfl (unhide E4).o (unhide HSZ) ⟨w3.heap.size + 1, 0, none⟩ _ (bksV [y]) rfl rfl (unhide HI) (cell4 y) (by unfold maxLen; omega) (by omega) ?_; intro g2 cap2 wA hoA hkA; have HSF : Hid (SbI w wA w.heap.size (.slice ao ss.length ca) (.slice bo xs.length cb) (.slice (some ⟨g2, 0, none⟩) (k + 1) cap2) (k + 1) ((bksOf ss xs h).take (k + 1))) := hide ((unhide E4).more (by rw [unhide HTK, bksV_app]; exact hoA) hkA); clear hoA hkA)
      go_roundw
      case rel => exact ⟨k + 1, _, _, by omega, by go_num, rfl, HSF⟩
      case measure => simp [intOf]; omega
    · have hk4 : k = 4 := by omega
      have hki : ¬ (k : Int) < 4 := by omega
      have HO : Hid (OwnR wr w.heap.size 80 4 (.slice qo 4 qa) 4 (bksV (bksOf ss xs h))) := hide (by have := (unhide ER).o; rw [hk4] at this; exact this)
      subst hk4
      go_wp2
      go_ret
      exact ⟨_, _, rfl, unhide HO, (unhide ER).below⟩

theorem l01Flush_sure (ao : Option Addr) (ca gg cap B : Nat) (ss : List ByteArray) (xs : List Wr) (h a : Int) (t : ByteArray) (S : List ByteArray) (Y : List Wr) (W : World) (hS : wS ss xs h a t = S) (hX : wX xs h a t = Y) (hP : diskB ss (xs ++ [⟨h, a, t⟩]) = true) (h1 : Ss W ao ss) (hO : W.ownsRow B 65 3 (.slice (some ⟨gg, 0, none⟩) (xs.length + 1) cap) (xs.length + 1) (ioV (xs ++ [⟨h, a, t⟩]))) :
    Calls Tryz.prog 43 #[.agg #[.slice ao ss.length ca, .slice (some ⟨gg, 0, none⟩) (xs.length + 1) cap], .int .i64 h] W fun e w' => ∃ po pa qo qa, e = .returned (.agg #[.slice po ss.length pa, .slice qo Y.length qa]) ∧ OwnD w' W.heap.size po ss.length pa qo Y.length qa S Y ∧ Below W.heap.size W w' := by
  have hn : (xs ++ [(⟨h, a, t⟩ : Wr)]).length = xs.length + 1 := by simp
  exact l01Flush_put ao (some ⟨gg, 0, none⟩) ca cap ss (xs ++ [⟨h, a, t⟩]) h ss.length (xs.length + 1) S Y W rfl hn (show putW ss (ofH h (xs ++ [⟨h, a, t⟩])) = S from hS) (show dropF h (xs ++ [⟨h, a, t⟩]) = Y from hX) hP h1 (ownI (e := 65) (B := B) (cap := cap) (xs := xs ++ [⟨h, a, t⟩]) (by rw [hn]; exact hO) (rightX hP))

end Go.Proofs.YtdfinapjgffjiaaGreatDoor

/- What is between the parts of spec's election: the disk, the answer, the leader that was; in its loop also a try and the blocks. -/
namespace Go.Proofs.YtdfinapjgffjiaaGreatDoor
open Go.RowKit
set_option linter.unusedVariables false
set_option maxRecDepth 100000

/-- A disk that is the argument's, or owned. -/
def Rd (w W : World) (ao : Option Addr) (ca : Nat) (qo : Option Addr) (cb : Nat) (ss : List ByteArray) (xs : List Wr) : Prop := (Ss w ao ss ∧ Ios w qo xs) ∨ (OwnD W w.heap.size ao ss.length ca qo xs.length cb ss xs ∧ diskB ss xs = true)
theorem Rd.ss {w W : World} {ao qo : Option Addr} {ca cb : Nat} {ss : List ByteArray} {xs : List Wr} (h : Rd w W ao ca qo cb ss xs) (hb : Below w.heap.size w W) : Ss W ao ss ∧ Ios W qo xs := by
  rcases h with ⟨h1, h2⟩ | ⟨h1, h2⟩
  · exact ⟨h1.below hb, h2.below hb⟩
  · exact ⟨h1.ss (right_sz h2).2.1, h1.ios (right_sz h2).2.2⟩
theorem Rd.below {w W W' : World} {ao qo : Option Addr} {ca cb : Nat} {ss : List ByteArray} {xs : List Wr} (h : Rd w W ao ca qo cb ss xs) (hb : Below W.heap.size W W') : Rd w W' ao ca qo cb ss xs := h.imp id (fun k => ⟨k.1.below hb, k.2⟩)
theorem Rd.keep {w W W' : World} {ao qo : Option Addr} {ca cb : Nat} {ss : List ByteArray} {xs : List Wr} {x t : Nat} {c : Array Value} {f : Nat × Nat} (h : Rd w W ao ca qo cb ss xs) (hk : Keep (fun j => j = x) W W') (hx : W.heap[x]? = some (.cells c t f)) (h1 : t ≠ 9) (h2 : t ≠ 65) : Rd w W' ao ca qo cb ss xs :=
  h.imp id (fun k => ⟨k.1.keep hk (fun g hg e => by have e' : g = x := e; subst e'; exact k.1.other hx h1 h2 hg), k.2⟩)

structure LeI (w W : World) (B0 B1 B2 O : Nat) (ss : List ByteArray) (xs : List Wr) (L : Ld) (ao : Option Addr) (ca : Nat) (qo : Option Addr) (cb : Nat) : Prop where
  below : Below w.heap.size w W
  d : VarD W B0 (.slice ao ss.length ca) (.slice qo xs.length cb)
  r : VarD W B1 (.slice none 0 0) (.slice none 0 0)
  t : VarT W B2 30 0 0 0
  o : VarT W O 30 L.ver L.own L.gen
  a : Rd w W ao ca qo cb ss xs
/-- The variables lie apart. -/
structure Apart (w : World) (B0 B1 B2 O : Nat) : Prop where
  k0 : w.heap.size ≤ B0
  k1 : w.heap.size ≤ B1
  k2 : w.heap.size ≤ B2
  k3 : w.heap.size ≤ O
  n01 : B0 ≠ B1
  n02 : B0 ≠ B2
  n03 : B0 ≠ O
  n12 : B1 ≠ B2
  n13 : B1 ≠ O
  n23 : B2 ≠ O
theorem LeI.next {w W W' : World} {B0 B1 B2 O : Nat} {ss : List ByteArray} {xs : List Wr} {L : Ld} {ao qo : Option Addr} {ca cb : Nat} (h : LeI w W B0 B1 B2 O ss xs L ao ca qo cb) (hb : Below W.heap.size W W') : LeI w W' B0 B1 B2 O ss xs L ao ca qo cb :=
  ⟨fr h.below hb, h.d.below hb, h.r.below hb, h.t.below hb, h.o.below hb, h.a.below hb⟩
theorem LeI.keep {w W W' : World} {B0 B1 B2 O x t : Nat} {c : Array Value} {f : Nat × Nat} {ss : List ByteArray} {xs : List Wr} {L : Ld} {ao qo : Option Addr} {ca cb : Nat} (h : LeI w W B0 B1 B2 O ss xs L ao ca qo cb) (hk : Keep (fun j => j = x) W W') (hw : w.heap.size ≤ x) (hx : W.heap[x]? = some (.cells c t f)) (h1 : t ≠ 9) (h2 : t ≠ 65) (n0 : B0 ≠ x) (n1 : B1 ≠ x) (n2 : B2 ≠ x) (n3 : O ≠ x) : LeI w W' B0 B1 B2 O ss xs L ao ca qo cb :=
  ⟨h.below.trans (hk.below (B := w.heap.size) h.below.size (fun j e => by have e' : j = x := e; omega)), h.d.keep hk n0, h.r.keep hk n1, h.t.keep hk n2, h.o.keep hk n3, h.a.keep hk hx h1 h2⟩
theorem keep2 (W : World) (x : Nat) (a b : Value) : Keep (fun j => j = x) W ((W.setCell ⟨x, 0, none⟩ a).setCell ⟨x, 1, none⟩ b) := ((Keep.refl (fun j => j = x) W).setCell (p := ⟨x, 0, none⟩) rfl a).setCell (p := ⟨x, 1, none⟩) rfl b
/-- Another disk is stored: a call made it. -/
theorem LeI.write {w W W' : World} {B0 B1 B2 O : Nat} {ss S : List ByteArray} {xs Y : List Wr} {L : Ld} {ao qo po ro : Option Addr} {ca cb pa ra : Nat} (h : LeI w W B0 B1 B2 O ss xs L ao ca qo cb) (ap : Apart w B0 B1 B2 O) (hb : Below W.heap.size W W') (ho : OwnD W' w.heap.size po S.length pa ro Y.length ra S Y) (hr : diskB S Y = true) :
    LeI w ((W'.setCell ⟨B0, 0, none⟩ (.slice po S.length pa)).setCell ⟨B0, 1, none⟩ (.slice ro Y.length ra)) B0 B1 B2 O S Y L po pa ro ra := by
  have h' := h.next hb
  have hk := keep2 W' B0 (.slice po S.length pa) (.slice ro Y.length ra)
  refine ⟨h'.below.trans (hk.below (B := w.heap.size) h'.below.size (fun j e => by have e' : j = B0 := e; have := ap.k0; omega)), ?_, h'.r.keep hk (Ne.symm ap.n01), h'.t.keep hk (Ne.symm ap.n02), h'.o.keep hk (Ne.symm ap.n03), .inr ⟨ho.keep hk (fun g hg e => by have e' : g = B0 := e; subst e'; exact ho.other h'.d (by decide) (by decide) hg), hr⟩⟩
  exact set_heap (i := 1) (set_heap (i := 0) h'.d (.slice po S.length pa)) (.slice ro Y.length ra)
/-- What its end leaves. -/
def Left (w W : World) (R : Ans) (e : Ending) : Prop := ∃ po pa qo qa, e = .returned (.tuple #[.agg #[.slice po R.ss.length pa, .slice qo R.xs.length qa], lV R.l, .int .i64 R.c]) ∧ Ss W po R.ss ∧ Ios W qo R.xs ∧ Below w.heap.size w W
theorem LeI.out {w W : World} {B0 B1 B2 O : Nat} {ss : List ByteArray} {xs : List Wr} {L : Ld} {ao qo : Option Addr} {ca cb : Nat} (h : LeI w W B0 B1 B2 O ss xs L ao ca qo cb) (ap : Apart w B0 B1 B2 O) (a b x y z : Value) :
    (Ss (set5 W B1 B2 a b x y z) ao ss ∧ Ios (set5 W B1 B2 a b x y z) qo xs ∧ Below w.heap.size w (set5 W B1 B2 a b x y z)) ∧ (Ss (((((W.setCell ⟨B2, 0, none⟩ x).setCell ⟨B2, 1, none⟩ y).setCell ⟨B2, 2, none⟩ z).setCell ⟨B1, 0, none⟩ a).setCell ⟨B1, 1, none⟩ b) ao ss ∧ Ios (((((W.setCell ⟨B2, 0, none⟩ x).setCell ⟨B2, 1, none⟩ y).setCell ⟨B2, 2, none⟩ z).setCell ⟨B1, 0, none⟩ a).setCell ⟨B1, 1, none⟩ b) qo xs ∧ Below w.heap.size w (((((W.setCell ⟨B2, 0, none⟩ x).setCell ⟨B2, 1, none⟩ y).setCell ⟨B2, 2, none⟩ z).setCell ⟨B1, 0, none⟩ a).setCell ⟨B1, 1, none⟩ b)) := by
  have k3 : ∀ V : World, Keep (fun j => j = B2) V (((V.setCell ⟨B2, 0, none⟩ x).setCell ⟨B2, 1, none⟩ y).setCell ⟨B2, 2, none⟩ z) := fun V => (((Keep.refl (fun j => j = B2) V).setCell (p := ⟨B2, 0, none⟩) rfl x).setCell (p := ⟨B2, 1, none⟩) rfl y).setCell (p := ⟨B2, 2, none⟩) rfl z
  have hb1 : ∀ {V V' : World} {q : Nat}, Below w.heap.size w V → w.heap.size ≤ q → Keep (fun j => j = q) V V' → Below w.heap.size w V' := fun hV hq hk => hV.trans (hk.below (B := w.heap.size) hV.size (fun j e => by have e' : j = _ := e; omega))
  constructor
  · have a1 : Rd w ((W.setCell ⟨B1, 0, none⟩ a).setCell ⟨B1, 1, none⟩ b) ao ca qo cb ss xs := h.a.keep (keep2 W B1 a b) h.r (by decide) (by decide)
    have t1 : VarT ((W.setCell ⟨B1, 0, none⟩ a).setCell ⟨B1, 1, none⟩ b) B2 30 0 0 0 := h.t.keep (keep2 W B1 a b) (Ne.symm ap.n12)
    have b1 := hb1 h.below ap.k1 (keep2 W B1 a b)
    have a2 : Rd w (set5 W B1 B2 a b x y z) ao ca qo cb ss xs := a1.keep (k3 _) t1 (by decide) (by decide)
    have b2 : Below w.heap.size w (set5 W B1 B2 a b x y z) := hb1 b1 ap.k2 (k3 _)
    exact ⟨(a2.ss b2).1, (a2.ss b2).2, b2⟩
  · have a1 := h.a.keep (k3 W) h.t (by decide) (by decide)
    have r1 := h.r.keep (k3 W) ap.n12
    have b1 := hb1 h.below ap.k2 (k3 W)
    have a2 := a1.keep (keep2 _ B1 a b) r1 (by decide) (by decide)
    have b2 := hb1 b1 ap.k1 (keep2 _ B1 a b)
    exact ⟨(a2.ss b2).1, (a2.ss b2).2, b2⟩
theorem left_end {w W : World} {R : Ans} {ss : List ByteArray} {xs : List Wr} {L : Ld} {c : Int} {po qo : Option Addr} {pa qa : Nat} (hR : R = ⟨ss, xs, L, c⟩) (h : Ss W po ss ∧ Ios W qo xs ∧ Below w.heap.size w W) : Left w W R (.returned (.tuple #[.agg #[.slice po ss.length pa, .slice qo xs.length qa], lV L, .int .i64 c])) := by
  subst hR
  exact ⟨po, pa, qo, qa, rfl, h.1, h.2.1, h.2.2⟩
theorem left_drew {w W : World} {ss : List ByteArray} {xs : List Wr} {po qo : Option Addr} (h : Ss W po ss ∧ Ios W qo xs ∧ Below w.heap.size w W) : Ss W.drew po ss ∧ Ios W.drew qo xs ∧ Below w.heap.size w W.drew := ⟨h.1.below (Below.refl _ _).drew, h.2.1.below (Below.refl _ _).drew, h.2.2.drew⟩

/-- In the loop. -/
structure LpI (w W : World) (B0 B1 B2 O P : Nat) (s : Est) (L : Ld) (bo : Option Addr) (ba : Nat) (ao : Option Addr) (ca : Nat) (qo : Option Addr) (cb : Nat) : Prop where
  l : LeI w W B0 B1 B2 O s.ss s.xs L ao ca qo cb
  p : VarP W P 53 s.p
  b : OwnR W w.heap.size 80 4 (.slice bo 4 ba) 4 (bksV s.bs)
theorem LpI.next {w W W' : World} {B0 B1 B2 O P : Nat} {s : Est} {L : Ld} {bo ao qo : Option Addr} {ba ca cb : Nat} (h : LpI w W B0 B1 B2 O P s L bo ba ao ca qo cb) (hb : Below W.heap.size W W') : LpI w W' B0 B1 B2 O P s L bo ba ao ca qo cb := ⟨h.l.next hb, h.p.below hb, h.b.below hb⟩
/-- The next try is stored, with its blocks: a call made these. -/
theorem LpI.put {w W : World} {B0 B1 B2 O P : Nat} {s : Est} {L : Ld} {bo ao qo ro : Option Addr} {ba ca cb ra : Nat} {bs : List Bk} (h : LpI w W B0 B1 B2 O P s L bo ba ao ca qo cb) (q : Pxs) (ho : OwnR W w.heap.size 80 4 (.slice ro 4 ra) 4 (bksV bs)) (hP : w.heap.size ≤ P) (n0 : B0 ≠ P) (n1 : B1 ≠ P) (n2 : B2 ≠ P) (n3 : O ≠ P) :
    LpI w ((((((((W.setCell ⟨P, 0, none⟩ (.int .i64 q.host)).setCell ⟨P, 1, none⟩ (.int .i64 q.ver)).setCell ⟨P, 2, none⟩ (.int .i64 q.phase)).setCell ⟨P, 3, none⟩ (.int .i64 q.ballot)).setCell ⟨P, 4, none⟩ (.int .i64 q.value)).setCell ⟨P, 5, none⟩ (.int .i64 q.next)).setCell ⟨P, 6, none⟩ (.int .i64 q.best)).setCell ⟨P, 7, none⟩ (.int .i64 q.bestBal)) B0 B1 B2 O P ⟨s.ss, s.xs, q, bs⟩ L ro ra ao ca qo cb := by
  have hk := keep8 (Keep.refl (fun j => j = P) W) (g := P) (show P = P from rfl) (.int .i64 q.host) (.int .i64 q.ver) (.int .i64 q.phase) (.int .i64 q.ballot) (.int .i64 q.value) (.int .i64 q.next) (.int .i64 q.best) (.int .i64 q.bestBal)
  exact ⟨h.l.keep hk hP h.p (by decide) (by decide) n0 n1 n2 n3, h.p.put q, ho.keep hk (fun g hg e => by have e' : g = P := e; subst e'; exact ho.other h.p (by decide) hg)⟩
/-- The disk is written. -/
theorem LpI.write {w W W' : World} {B0 B1 B2 O P : Nat} {s : Est} {S : List ByteArray} {Y : List Wr} {L : Ld} {bo ao qo po ro : Option Addr} {ba ca cb pa ra : Nat} (h : LpI w W B0 B1 B2 O P s L bo ba ao ca qo cb) (ap : Apart w B0 B1 B2 O) (n0 : B0 ≠ P) (hb : Below W.heap.size W W') (ho : OwnD W' w.heap.size po S.length pa ro Y.length ra S Y) (hr : diskB S Y = true) :
    LpI w ((W'.setCell ⟨B0, 0, none⟩ (.slice po S.length pa)).setCell ⟨B0, 1, none⟩ (.slice ro Y.length ra)) B0 B1 B2 O P ⟨S, Y, s.p, s.bs⟩ L bo ba po pa ro ra := by
  have hk := keep2 W' B0 (.slice po S.length pa) (.slice ro Y.length ra)
  have h' := h.next hb
  exact ⟨h.l.write ap hb ho hr, h'.p.keep hk (Ne.symm n0), h'.b.keep hk (fun g hg e => by have e' : g = B0 := e; subst e'; exact h'.b.other h'.l.d (by decide) hg)⟩

theorem wrote_beq (a b : Int) : wroteB a b = (((b == 2) && (a == 1)) || ((b == 4) && (a == 3))) := by
  rw [Bool.eq_iff_iff]; simp [wroteB]

end Go.Proofs.YtdfinapjgffjiaaGreatDoor

/- Contract of spec.l06Elect. -/
namespace Go.Proofs.YtdfinapjgffjiaaGreatDoor
open Go.RowKit
set_option linter.unusedVariables false
set_option maxRecDepth 100000

theorem le_new (w : World) (ao bo : Option Addr) (ca cb : Nat) (ss : List ByteArray) (xs : List Wr) (h1 : Ss w ao ss) (h2 : Ios w bo xs) :
    (Below w.heap.size w (((w.alloc (.cells #[.slice ao ss.length ca, .slice bo xs.length cb] 26)).alloc (.cells #[.slice none 0 0, .slice none 0 0] 26)).alloc (.cells #[.int .i64 0, .int .i64 0, .int .i64 0] 30))) ∧ VarD (((w.alloc (.cells #[.slice ao ss.length ca, .slice bo xs.length cb] 26)).alloc (.cells #[.slice none 0 0, .slice none 0 0] 26)).alloc (.cells #[.int .i64 0, .int .i64 0, .int .i64 0] 30)) w.heap.size (.slice ao ss.length ca) (.slice bo xs.length cb) ∧
    VarD (((w.alloc (.cells #[.slice ao ss.length ca, .slice bo xs.length cb] 26)).alloc (.cells #[.slice none 0 0, .slice none 0 0] 26)).alloc (.cells #[.int .i64 0, .int .i64 0, .int .i64 0] 30)) (w.heap.size + 1) (.slice none 0 0) (.slice none 0 0) ∧ VarT (((w.alloc (.cells #[.slice ao ss.length ca, .slice bo xs.length cb] 26)).alloc (.cells #[.slice none 0 0, .slice none 0 0] 26)).alloc (.cells #[.int .i64 0, .int .i64 0, .int .i64 0] 30)) (w.heap.size + 1 + 1) 30 0 0 0 := by
  have b1 := Joins.below_alloc1 w (.cells #[.slice ao ss.length ca, .slice bo xs.length cb] 26)
  have b3 := Joins.below_alloc1 (w.alloc (.cells #[.slice ao ss.length ca, .slice bo xs.length cb] 26)) (.cells #[.slice none 0 0, .slice none 0 0] 26)
  have b4 := Joins.below_alloc1 ((w.alloc (.cells #[.slice ao ss.length ca, .slice bo xs.length cb] 26)).alloc (.cells #[.slice none 0 0, .slice none 0 0] 26)) (.cells #[.int .i64 0, .int .i64 0, .int .i64 0] 30)
  refine ⟨fr (fr b1 b3) b4, (VarD.new w _ _).below (fr b3 b4), ?_, ?_⟩
  · have := (VarD.new (w.alloc (.cells #[.slice ao ss.length ca, .slice bo xs.length cb] 26)) (.slice none 0 0) (.slice none 0 0)).below b4
    simp only [World.size_alloc] at this
    exact this
  · have := VarT.new ((w.alloc (.cells #[.slice ao ss.length ca, .slice bo xs.length cb] 26)).alloc (.cells #[.slice none 0 0, .slice none 0 0] 26)) 30 0 0 0
    simp only [World.size_alloc] at this
    exact this
theorem l05Step_el (p : Pxs) (ao : Option Addr) (cap : Nat) (bs : List Bk) (w : World) (hp : pxB p = true) (hb : bksB bs = true) (hr : Bks w ao bs) :
    Calls Tryz.prog 69 #[pV p, .slice ao 4 cap] w fun e w' => ∃ qo qa c, e = .returned (.tuple #[pV (pxStepP p bs).1, .slice qo 4 qa, .int .i64 c]) ∧ OwnR w' w.heap.size 80 4 (.slice qo 4 qa) 4 (bksV (pxStepP p bs).2) ∧ Below w.heap.size w w' := by
  obtain ⟨hh, _, _, _, _, hn⟩ := px_parts hp
  refine (l05Step_any p ao 4 cap bs w (bksB_parts hb).1 rfl hh hn hr).mono ?_
  rintro e w' ⟨qo, qa, he, ho, hk⟩
  exact ⟨qo, qa, _, he, ho, hk⟩

set_option maxHeartbeats 3200000 in
theorem l06Elect_any (R : Ans) (ao bo : Option Addr) (ca cb : Nat) (ss : List ByteArray) (xs : List Wr) (h o g : Int) (w : World) (hR : elA ss xs h o g = R) (e0 : leC ss xs h = 0) (e1 : (inB o 0 3 && inB g 1 1000000) = true) (h1 : Ss w ao ss) (h2 : Ios w bo xs) :
    Calls Tryz.prog 32 #[.agg #[.slice ao ss.length ca, .slice bo xs.length cb], .int .i64 h, .int .i64 o, .int .i64 g] w fun e w' => Left w w' R e := by
  obtain ⟨ed, ⟨h0, h3⟩, el⟩ := leC_eq e0
  obtain ⟨L, hL⟩ : ∃ L, ldOf ss xs h = L := ⟨_, rfl⟩
  have hv : 0 ≤ L.ver ∧ L.ver ≤ 1000000 := by rw [← hL]; exact (ldB_lo (ld_right (readV ss xs h 0))).1
  have eo : (0 ≤ o ∧ o ≤ 3) ∧ 1 ≤ g ∧ g ≤ 1000000 := by simpa [inB] using e1
  have wr1 : IntKind.i64.wrap (L.ver + 1) = L.ver + 1 := by rw [IntKind.wrap_i64]; omega
  have wr2 : IntKind.i64.wrap (1024 * g) = 1024 * g := by rw [IntKind.wrap_i64]; omega
  have wr3 : IntKind.i64.wrap (1024 * g + o) = 1024 * g + o := by rw [IntKind.wrap_i64]; omega
  have wr4 : IntKind.i64.wrap (1 + h) = 1 + h := by rw [IntKind.wrap_i64]; omega
  have HBK := hide (bksOf_right ss xs h)
  have HMV : Hid (1000000 < L.ver + 1 → R = ⟨ss, xs, L, 6⟩) := hide (fun hq => by rw [← hR, ← hL]; exact elA_many e0 e1 (by rw [elMany, hL, decide_eq_true hq]; rfl))
  have HMB : Hid (1000000 < nxBal h (L.ver + 1) (bksOf ss xs h) → R = ⟨ss, xs, L, 6⟩) := hide (fun hq => by rw [← hR, ← hL]; rw [← hL] at hq; exact elA_many e0 e1 (by rw [elMany, decide_eq_true hq]; simp))
  have HGO : Hid (¬ 1000000 < L.ver + 1 → ¬ 1000000 < nxBal h (L.ver + 1) (bksOf ss xs h) → ElOK h (elFrom ss xs h o g) ∧ R = elLast h L (elEnd (elFrom ss xs h o g)) ∧ elTry ss xs h o g = ⟨h, L.ver + 1, 1, nxBal h (L.ver + 1) (bksOf ss xs h), 1024 * g + o, 0, 0, 0⟩) := hide (fun q1 q2 => by
    have em : elMany ss xs h = false := by rw [elMany, hL, decide_eq_false q1, decide_eq_false q2]; rfl
    refine ⟨elFrom_ok e0 e1 em, by rw [← hR, ← hL]; exact elA_end e0 e1 em, by rw [elTry, hL]⟩)
  have HED := hide ed
  have HEL := hide el
  have HK := hide hL
  have H1 := hide h1
  have H2 := hide h2
  have HN := hide (le_new w ao bo ca cb ss xs h1 h2)
  clear hL hR e0 e1 ed el h1 h2
  go_enter Tryz.func32, Tryz.ntmps32
  go_upto_region 1 with fail
  revert HN
  generalize (((w.alloc (.cells #[.slice ao ss.length ca, .slice bo xs.length cb] 26)).alloc (.cells #[.slice none 0 0, .slice none 0 0] 26)).alloc (.cells #[.int .i64 0, .int .i64 0, .int .i64 0] 30)) = W0
  intro HN
  obtain ⟨d0, d1⟩ := (unhide HN).2.1.cells
  go_wp2_with fail
  refine (l06Read_any _ _ _ _ ss xs h L _ (unhide HK) (unhide HED) ((unhide H1).below (unhide HN).1) ((unhide H2).below (unhide HN).1)).mono ?_
  rintro e w1 ⟨rfl, hb1⟩
  have HA1 := hide (fr hb1 (Joins.below_alloc1 w1 (.cells #[.int .i64 L.ver, .int .i64 L.own, .int .i64 L.gen] 30)))
  have HI : Hid (LeI w (w1.alloc (.cells #[.int .i64 L.ver, .int .i64 L.own, .int .i64 L.gen] 30)) w.heap.size (w.heap.size + 1) (w.heap.size + 1 + 1) w1.heap.size ss xs L ao ca bo cb) :=
    hide ⟨fr (unhide HN).1 (unhide HA1), (unhide HN).2.1.below (unhide HA1), (unhide HN).2.2.1.below (unhide HA1), (unhide HN).2.2.2.below (unhide HA1), VarT.new w1 _ _ _ _, .inl ⟨unhide H1, unhide H2⟩⟩
  have HAP : Hid (Apart w w.heap.size (w.heap.size + 1) (w.heap.size + 1 + 1) w1.heap.size) := hide (by
    have z := ((unhide HN).2.2.2.below hb1).lt
    exact ⟨Nat.le_refl _, by omega, by omega, by omega, by omega, by omega, by omega, by omega, by omega, by omega⟩)
  clear hb1 d0 d1 HA1
  go_upto_region 2 with fail
  revert HI HAP
  clear HN
  generalize w1.alloc (.cells #[.int .i64 L.ver, .int .i64 L.own, .int .i64 L.gen] 30) = W1
  generalize w1.heap.size = O
  generalize w.heap.size + 1 + 1 = B2
  generalize w.heap.size + 1 = B1
  intro HI HAP
  obtain ⟨d0, d1⟩ := (unhide HI).d.cells
  obtain ⟨t0, t1, t2⟩ := (unhide HI).o.cells
  have HRS := hide ((unhide HI).a.ss (unhide HI).below)
  go_wp2_with fail
  refine (l06Blocks_any _ _ _ _ ss xs h _ (unhide HED) (unhide HRS).1 (unhide HRS).2).mono ?_
  rintro e w2 ⟨ro, ra, rfl, hob, hb2⟩
  have HI2 := hide ((unhide HI).next hb2)
  have HOB := hide (hob.base (B' := w.heap.size) (unhide HI).below.size)
  clear hb2 hob d0 d1 t0 t1 t2 HRS
  have HBS : Hid (Bks w2 ro (bksOf ss xs h)) := hide (ownBks (B := w.heap.size) (e := 80) (cap := ra) (xs := bksOf ss xs h) (unhide HOB))
  have HMB4 := hide (bks_mbal (unhide HBK))
  go_wp2_with fail
  refine (l05Next_any h (L.ver + 1) ro 4 ra (bksOf ss xs h) _ rfl (by decide) ⟨h0, h3⟩ (unhide HMB4) (unhide HBS)).mono ?_
  rintro e w3 ⟨rfl, hb3⟩
  have HI3 := hide ((unhide HI2).next hb3)
  have HOB3 := hide ((unhide HOB).below hb3)
  clear hb3 HBS
  obtain ⟨n, HNX⟩ : ∃ n, Hid (nxBal h (L.ver + 1) (bksOf ss xs h) = n) := ⟨_, hide rfl⟩
  rw [unhide HNX]
  have HMB' : Hid (1000000 < n → R = ⟨ss, xs, L, 6⟩) := hide (fun hq => unhide HMB (by rw [unhide HNX]; exact hq))
  have n12 := (unhide HAP).n12
  have n12' := Ne.symm (unhide HAP).n12
  have n01 := (unhide HAP).n01
  have n01' := Ne.symm (unhide HAP).n01
  have n02 := (unhide HAP).n02
  have n02' := Ne.symm (unhide HAP).n02
  have n13 := (unhide HAP).n13
  have n13' := Ne.symm (unhide HAP).n13
  have n23 := (unhide HAP).n23
  have n23' := Ne.symm (unhide HAP).n23
  by_cases hmany : 1000000 < L.ver + 1 ∨ 1000000 < n
  · have HQ : Hid (R = ⟨ss, xs, L, 6⟩) := hide (hmany.elim (unhide HMV) (unhide HMB'))
    obtain ⟨d0, d1⟩ := (unhide HI3).d.cells
    obtain ⟨t0, t1, t2⟩ := (unhide HI3).o.cells
    obtain ⟨r0, r1⟩ := (unhide HI3).r.cells
    have r2 := (unhide HI3).r.free 0
    have r3 := (unhide HI3).r.free 1
    obtain ⟨u0, u1, u2⟩ := (unhide HI3).t.cells
    obtain ⟨u3, u4, u5⟩ := (unhide HI3).t.free
    have HF := hide (fun a b x y z => (unhide HI3).out (unhide HAP) a b x y z)
    by_cases q1 : 1000000 < L.ver + 1
    · clear hmany
      go_wp2
      go_region
      all_goals
        go_wp2
        refine bodyPost_ret (v := .tuple #[.agg #[.slice ao ss.length ca, .slice bo xs.length cb], lV L, .int .i64 6]) (by simp [results, Tryz.results32, go_sem, r0, r1, u0, u1, u2]) rfl ?_
        first
          | exact left_end (unhide HQ) (left_drew (unhide HF _ _ _ _ _).1)
          | exact left_end (unhide HQ) (left_drew (unhide HF _ _ _ _ _).2)
          | exact left_end (unhide HQ) (unhide HF _ _ _ _ _).1
          | exact left_end (unhide HQ) (unhide HF _ _ _ _ _).2
    · have q2 : 1000000 < n := by omega
      clear hmany
      go_wp2
      go_region
      all_goals
        go_wp2
        refine bodyPost_ret (v := .tuple #[.agg #[.slice ao ss.length ca, .slice bo xs.length cb], lV L, .int .i64 6]) (by simp [results, Tryz.results32, go_sem, r0, r1, u0, u1, u2]) rfl ?_
        first
          | exact left_end (unhide HQ) (left_drew (unhide HF _ _ _ _ _).1)
          | exact left_end (unhide HQ) (left_drew (unhide HF _ _ _ _ _).2)
          | exact left_end (unhide HQ) (unhide HF _ _ _ _ _).1
          | exact left_end (unhide HQ) (unhide HF _ _ _ _ _).2
  have q1 : ¬ 1000000 < L.ver + 1 := fun k => hmany (.inl k)
  have q2 : ¬ 1000000 < n := fun k => hmany (.inr k)
  clear hmany
  obtain ⟨k1, k2, k3⟩ := unhide HGO (by omega) (by rw [unhide HNX]; omega)
  obtain ⟨q, hq⟩ : ∃ q, elTry ss xs h o g = q := ⟨_, rfl⟩
  obtain ⟨E, hEE⟩ : ∃ E, elEnd (elFrom ss xs h o g) = E := ⟨_, rfl⟩
  rw [hEE] at k2
  have HLAST := hide k2
  have HPE : Hid ((⟨h, L.ver + 1, 1, n, 1024 * g + o, 0, 0, 0⟩ : Pxs) = q) := hide (by rw [← hq, k3, unhide HNX])
  have HFR : Hid (ElOK h ⟨ss, xs, q, bksOf ss xs h⟩ ∧ elEnd ⟨ss, xs, q, bksOf ss xs h⟩ = E) := hide (by rw [← hq]; exact ⟨k1, hEE⟩)
  have HA7 := hide (Joins.below_alloc1 w3 (.cells #[.int .i64 h, .int .i64 (L.ver + 1), .int .i64 1, .int .i64 n, .int .i64 (1024 * g + o), .int .i64 0, .int .i64 0, .int .i64 0] 53))
  have HLP : Hid (LpI w (w3.alloc (.cells #[.int .i64 h, .int .i64 (L.ver + 1), .int .i64 1, .int .i64 n, .int .i64 (1024 * g + o), .int .i64 0, .int .i64 0, .int .i64 0] 53)) w.heap.size B1 B2 O w3.heap.size ⟨ss, xs, q, bksOf ss xs h⟩ L ro ra ao ca bo cb) :=
    hide ⟨(unhide HI3).next (unhide HA7), by rw [← unhide HPE]; exact VarP.new w3 _ ⟨h, L.ver + 1, 1, n, 1024 * g + o, 0, 0, 0⟩, (unhide HOB3).below (unhide HA7)⟩
  have HNP : Hid (w.heap.size ≤ w3.heap.size ∧ w.heap.size ≠ w3.heap.size ∧ B1 ≠ w3.heap.size ∧ B2 ≠ w3.heap.size ∧ O ≠ w3.heap.size) := hide (by
    have z0 := (unhide HI3).d.lt
    have z1 := (unhide HI3).r.lt
    have z2 := (unhide HI3).t.lt
    have z3 := (unhide HI3).o.lt
    omega)
  clear k1 k2 k3 hq hEE HA7
  go_wp2
  clear q1 q2
  revert HLP HNP
  generalize w3.alloc (.cells #[.int .i64 h, .int .i64 (L.ver + 1), .int .i64 1, .int .i64 n, .int .i64 (1024 * g + o), .int .i64 0, .int .i64 0, .int .i64 0] 53) = W4
  generalize w3.heap.size = P
  intro HLP HNP
  go_loopg [13, 16, 17, 18] 14 (fun k bl _ _ _ wr => ∃ (s : Est) (bo : Option Addr) (ba : Nat) (ao : Option Addr) (ca : Nat) (qo : Option Addr) (cb : Nat), bl = .slice bo 4 ba ∧ Hid (LpI w wr w.heap.size B1 B2 O P s L bo ba ao ca qo cb) ∧ Hid (ElOK h s ∧ elEnd s = E) ∧ mOf s.p < k)
  case atStart => exact ⟨_, _, _, _, _, _, _, rfl, HLP, HFR, Nat.lt_succ_of_le (mOf_le (unhide HFR).1.p)⟩
  case round =>
    obtain ⟨s, bo', ba', ao', ca', qo', cb', rfl, HI, HOK, hmk⟩ := hrel
    obtain ⟨c0, c1, c2, c3, c4, c5, c6, c7⟩ := (unhide HI).p.cells
    by_cases h5 : s.p.phase < 5
    · have HLS := hide (step_less (bs := s.bs) (unhide HOK).1.p h5)
      have HOK2 := hide ((unhide HOK).1.step h5)
      have HON := hide ((elEnd_on (unhide HOK).1 h5).trans (unhide HOK).2)
      have HRT := hide (px_right (unhide HOK).1.p (unhide HOK).1.b)
      have HSP := hide (step_p s).1
      have HBS : Hid (Bks wr bo' s.bs) := hide (by
        have h4 := (bksB_parts (unhide HOK).1.b).1
        exact ownBks (B := w.heap.size) (e := 80) (cap := ba') (xs := s.bs) (by rw [h4]; exact (unhide HI).b))
      have HELS : Hid (elStep s = if wroteB s.p.phase (pxStepP s.p s.bs).1.phase = true then ⟨wS s.ss s.xs h (1 + h) (encB ((pxStepP s.p s.bs).2.getD h.toNat bk0)), wX s.xs h (1 + h) (encB ((pxStepP s.p s.bs).2.getD h.toNat bk0)), (pxStepP s.p s.bs).1, (pxStepP s.p s.bs).2⟩ else ⟨s.ss, s.xs, (pxStepP s.p s.bs).1, (pxStepP s.p s.bs).2⟩) := hide (by
        have e := (unhide HOK).1.o
        unfold elStep ownK
        rw [e])
      go_wp2_with fail
      refine (l05Step_el s.p bo' ba' s.bs _ (unhide HOK).1.p (unhide HOK).1.b (unhide HBS)).mono ?_
      rintro e wA ⟨so, sa, cc, rfl, hoA, hbA⟩
      obtain ⟨x, HX⟩ : ∃ x, Hid ((pxStepP s.p s.bs).1 = x) := ⟨_, hide rfl⟩
      obtain ⟨cs, HCS⟩ : ∃ cs, Hid ((pxStepP s.p s.bs).2 = cs) := ⟨_, hide rfl⟩
      rw [unhide HCS] at hoA
      rw [unhide HX]
      rw [unhide HX] at HELS HRT HSP HLS
      rw [unhide HCS] at HELS HRT
      have HA5 := hide (fr hbA (Joins.below_alloc1 wA (.cells #[.int .i64 x.host, .int .i64 x.ver, .int .i64 x.phase, .int .i64 x.ballot, .int .i64 x.value, .int .i64 x.next, .int .i64 x.best, .int .i64 x.bestBal] 53)))
      have HI5 := hide ((unhide HI).next (unhide HA5))
      have HV5 := hide (VarP.new wA 53 x)
      have HO5 := hide ((hoA.base (B' := w.heap.size) (unhide HI).l.below.size).below (Joins.below_alloc1 wA (.cells #[.int .i64 x.host, .int .i64 x.ver, .int .i64 x.phase, .int .i64 x.ballot, .int .i64 x.value, .int .i64 x.next, .int .i64 x.best, .int .i64 x.bestBal] 53)))
      have HNC : Hid (P ≠ wA.heap.size ∧ w.heap.size ≠ wA.heap.size) := hide (by
        have z0 := (unhide HI).p.lt
        have z1 := (unhide HI).l.d.lt
        have z2 := hbA.size
        omega)
      clear hoA hbA c0 c1 c2 c3 c4 c5 c6 c7 HBS
      go_upto_region 10 with fail
      clear h5
      revert HI5 HV5 HO5 HNC
      clear HA5
      generalize wA.alloc (.cells #[.int .i64 x.host, .int .i64 x.ver, .int .i64 x.phase, .int .i64 x.ballot, .int .i64 x.value, .int .i64 x.next, .int .i64 x.best, .int .i64 x.bestBal] 53) = W5
      generalize wA.heap.size = C
      intro HI5 HV5 HO5 HNC
      go_cut [76] from 49 to 91 (fun c wx => ∃ b : Bool, c = .bool b ∧ Hid (b = wroteB s.p.phase x.phase) ∧ wx = W5)
      case first =>
        obtain ⟨a0, a1, a2, a3, a4, a5, a6, a7⟩ := (unhide HV5).cells
        obtain ⟨c0, c1, c2, c3, c4, c5, c6, c7⟩ := (unhide HI5).p.cells
        clear a0 a1 a3 a4 a5 a6 a7 c0 c1 c3 c4 c5 c6 c7
        have HWB := hide (wrote_beq s.p.phase x.phase)
        cases g1 : (x.phase == 2) <;> cases g2 : (s.p.phase == 1) <;> cases g3 : (x.phase == 4) <;> cases g4 : (s.p.phase == 3)
        all_goals
          rw [g1, g2, g3, g4] at HWB
          go_wp2_with fail
          go_meet
          exact ⟨_, rfl, hide (by rw [unhide HWB]; rfl), rfl⟩
      case rest =>
        obtain ⟨b9, rfl, HB9, hw⟩ := hcut
        replace hw := hw.symm
        subst hw
        by_cases hwr : wroteB s.p.phase x.phase = true
        · obtain rfl : b9 = true := by rw [unhide HB9, hwr]
          rw [if_pos hwr] at HELS
          clear HB9 hwr
          obtain ⟨K, hK⟩ : ∃ K : Nat, h = K := ⟨h.toNat, by omega⟩
          subst hK
          have hk4 : K < 4 := by omega
          have hk5 : (K : Int) < 4 := by omega
          have hk6 : (0 : Int) ≤ (K : Int) := by omega
          have h4 : cs.length = 4 := (bksB_parts (unhide HRT).2).1
          obtain ⟨y, HYE⟩ : ∃ y, Hid (cs.getD K bk0 = y) := ⟨_, hide rfl⟩
          have HYR : Hid (bkB y = true) := hide (by rw [← unhide HYE]; exact (bksB_parts (unhide HRT).2).2 K (by omega))
          rw [show ((K : Int)).toNat = K by omega, unhide HYE] at HELS
          obtain ⟨t, HTE⟩ : ∃ t, Hid (encB y = t) := ⟨_, hide rfl⟩
          rw [unhide HTE] at HELS
          have HTS : Hid (t.size ≤ 80) := hide (by rw [← unhide HTE]; first | (rw [encB_size]; decide) | (rw [encL_size]; decide))
          have HP : Hid (diskB s.ss (s.xs ++ [⟨(K : Int), 1 + (K : Int), t⟩]) = true) := hide (diskB_snoc (unhide HOK).1.d (unhide HOK).1.l (w_io h0 h3 (by omega) (by omega) (unhide HTS)))
          have HXL : Hid (s.xs.length ≤ 1048576) := hide (by have := (unhide HOK).1.l; omega)
          have HRGT := hide (w_right (t := t) (unhide HOK).1.d (unhide HOK).1.l h0 h3 (show 0 ≤ 1 + (K : Int) by omega) (show 1 + (K : Int) ≤ 63 by omega) (unhide HTS))
          have HNL := hide (wS_len s.ss s.xs (K : Int) (1 + (K : Int)) t)
          obtain ⟨S, HSS⟩ : ∃ S, Hid (wS s.ss s.xs (K : Int) (1 + (K : Int)) t = S) := ⟨_, hide rfl⟩
          obtain ⟨Y, HXX⟩ : ∃ Y, Hid (wX s.xs (K : Int) (1 + (K : Int)) t = Y) := ⟨_, hide rfl⟩
          rw [unhide HSS] at HRGT HNL
          rw [unhide HXX] at HRGT
          rw [unhide HSS, unhide HXX] at HELS
          have HEQ := HELS
          have HRS := hide ((unhide HI5).l.a.ss (unhide HI5).l.below)
          obtain ⟨b, off, rfl, hbl, g0, g1, g2, g3⟩ := (ownBks (B := w.heap.size) (e := 80) (cap := sa) (xs := cs) (by rw [h4]; exact unhide HO5)).get K (by omega)
          rw [unhide HYE] at g0 g1 g2 g3
          obtain ⟨d0, d1⟩ := (unhide HI5).l.d.cells
          have HENC : Hid (∀ W, Calls Tryz.prog 49 #[bV y] W fun e w' => e = .returned (.string t) ∧ Below W.heap.size W w') := hide (fun W => by have k9 := l05Encode_bk y W (unhide HYR); rw [unhide HTE] at k9; exact k9)
          have HFL : Hid (∀ (gg cap B : Nat) (W : World), Below W5.heap.size W5 W → W.ownsRow B 65 3 (.slice (some ⟨gg, 0, none⟩) (s.xs.length + 1) cap) (s.xs.length + 1) (ioV (s.xs ++ [⟨(K : Int), 1 + (K : Int), t⟩])) → Calls Tryz.prog 43 #[.agg #[.slice ao' s.ss.length ca', .slice (some ⟨gg, 0, none⟩) (s.xs.length + 1) cap], .int .i64 (K : Int)] W fun e w' => ∃ po pa qo qa, e = .returned (.agg #[.slice po S.length pa, .slice qo Y.length qa]) ∧ OwnD w' W.heap.size po S.length pa qo Y.length qa S Y ∧ Below W.heap.size W w') := hide (fun gg cap B W hW hO => by
            refine (l01Flush_sure ao' ca' gg cap B s.ss s.xs (K : Int) (1 + (K : Int)) t S Y W (unhide HSS) (unhide HXX) (unhide HP) ((unhide HRS).1.below hW) hO).mono ?_
            rintro e w' ⟨po, pa, qo, qa, he, ho, hb⟩
            exact ⟨po, pa, qo, qa, by rw [he, unhide HNL], by rw [unhide HNL]; exact ho, hb⟩)
          have HWR := hide (fun (W : World) (hW : Below W5.heap.size W5 W) => l01Write_hd ao' qo' s.ss.length ca' cb' s.xs (K : Int) (1 + (K : Int)) t W (unhide HXL) ((unhide HRS).2.below hW))
          have hdl : w.heap.size < W5.heap.size := (unhide HI5).l.d.lt
          go_wp2_with fail
          go_cut [17] from 49 to 91 (fun c wx => c = .slice (some ⟨b, off, none⟩) 4 sa ∧ ∃ po pa ro ra, Hid (LpI w wx w.heap.size B1 B2 O P ⟨S, Y, s.p, s.bs⟩ L bo' ba' po pa ro ra) ∧ Hid (VarP wx C 53 x) ∧ Hid (OwnR wx w.heap.size 80 4 (.slice (some ⟨b, off, none⟩) 4 sa) 4 (bksV cs)))
          case first =>
            go_region_with
              (first
                | (go_at_call 49; refine (unhide HENC _).mono ?_; rintro e wF ⟨rfl, hbF⟩; have HBF := hide (fr (Below.refl _ W5).drew hbF); clear hbF; have a0 := ((unhide HBF).cell (p := ⟨w.heap.size, 0, none⟩) hdl).trans d0; have a1 := ((unhide HBF).cell (p := ⟨w.heap.size, 1, none⟩) hdl).trans d1; have a2 := ((unhide HBF).cell (p := ⟨b, off + K * 4, none⟩) hbl).trans g0; have a3 := ((unhide HBF).cell (p := ⟨b, off + K * 4 + 1, none⟩) hbl).trans g1; have a4 := ((unhide HBF).cell (p := ⟨b, off + K * 4 + 2, none⟩) hbl).trans g2; have a5 := ((unhide HBF).cell (p := ⟨b, off + K * 4 + 3, none⟩) hbl).trans g3)
                | (go_at_call 44; refine (unhide HWR _ (unhide HBF)).mono ?_; rintro e wG ⟨gg, cap, rfl, hoG, hbG⟩; have HOG := hide hoG; have HBG := hide (fr (unhide HBF) hbG); clear hoG hbG; have a6 := ((unhide HBG).cell (p := ⟨w.heap.size, 0, none⟩) hdl).trans d0; have a7 := ((unhide HBG).cell (p := ⟨w.heap.size, 1, none⟩) hdl).trans d1; have a8 := ((unhide HBG).cell (p := ⟨b, off + K * 4, none⟩) hbl).trans g0; have a9 := ((unhide HBG).cell (p := ⟨b, off + K * 4 + 1, none⟩) hbl).trans g1; have aa := ((unhide HBG).cell (p := ⟨b, off + K * 4 + 2, none⟩) hbl).trans g2; have ab := ((unhide HBG).cell (p := ⟨b, off + K * 4 + 3, none⟩) hbl).trans g3)
                | (go_at_call 43; refine (unhide HFL gg cap _ _ (unhide HBG) (unhide HOG)).mono ?_; rintro e wH ⟨po, pa, ro2, ra2, rfl, hoH, hbH⟩; have HOH := hide (hoH.base (B' := w.heap.size) (Nat.le_trans (unhide HI5).l.below.size (unhide HBG).size)); have HBH := hide (fr (unhide HBG) hbH); clear hoH hbH; have b0 := ((unhide HBH).cell (p := ⟨w.heap.size, 0, none⟩) hdl).trans d0; have b1 := ((unhide HBH).cell (p := ⟨w.heap.size, 1, none⟩) hdl).trans d1; have b2 := ((unhide HBH).cell (p := ⟨b, off + K * 4, none⟩) hbl).trans g0; have b3 := ((unhide HBH).cell (p := ⟨b, off + K * 4 + 1, none⟩) hbl).trans g1; have b4 := ((unhide HBH).cell (p := ⟨b, off + K * 4 + 2, none⟩) hbl).trans g2; have b5 := ((unhide HBH).cell (p := ⟨b, off + K * 4 + 3, none⟩) hbl).trans g3; have b6 := ((unhide HI5).l.d.below (unhide HBH)).free 0; have b7 := ((unhide HI5).l.d.below (unhide HBH)).free 1))
            all_goals
              have HIW := hide (LpI.write (unhide HI5) (unhide HAP) (unhide HNP).2.1 (unhide HBH) (unhide HOH) (unhide HRGT))
              have hk9 := keep2 wH w.heap.size (.slice po S.length pa) (.slice ro2 Y.length ra2)
              have HVC := hide (((unhide HV5).below (unhide HBH)).keep hk9 (Ne.symm (unhide HNC).2))
              have ho9 := (unhide HO5).below (unhide HBH)
              have HOC := hide (ho9.keep hk9 (fun g hg e => by have e' : g = w.heap.size := e; subst e'; exact ho9.other ((unhide HI5).l.d.below (unhide HBH)) (by decide) hg))
              clear hk9 ho9
              go_wp2_with fail
              go_meet
              exact ⟨rfl, po, pa, ro2, ra2, HIW, HVC, HOC⟩
          case rest =>
            obtain ⟨rfl, po, pa, ro2, ra2, HIW, HVC, HOC⟩ := hcut
            have m1 := (unhide HNC).1
            have m1' := Ne.symm (unhide HNC).1
            clear d0 d1 g0 g1 g2 g3 hbl hdl
            obtain ⟨e0, e1, e2, e3, e4, e5, e6, e7⟩ := (unhide HVC).cells
            obtain ⟨c0, c1, c2, c3, c4, c5, c6, c7⟩ := (unhide HIW).p.cells
            obtain ⟨f0, f1, f2, f3, f4, f5, f6, f7⟩ := (unhide HIW).p.free
            have HI9 := hide (LpI.put (unhide HIW) x (unhide HOC) (unhide HNP).1 (unhide HNP).2.1 (unhide HNP).2.2.1 (unhide HNP).2.2.2.1 (unhide HNP).2.2.2.2)
            go_wp2
            go_roundg (gk - 1)
            case measure => have := unhide HLS; omega
            case rel => exact ⟨elStep s, _, _, _, _, _, _, rfl, by rw [unhide HEQ]; exact HI9, hide ⟨unhide HOK2, unhide HON⟩, by have h9 := unhide HLS; rw [unhide HSP]; omega⟩
        · obtain rfl : b9 = false := by rw [unhide HB9]; exact Bool.eq_false_iff.2 hwr
          rw [if_neg hwr] at HELS
          have HEQ := HELS
          have HIW := HI5
          have HVC := HV5
          have HOC := HO5
          have m1 := (unhide HNC).1
          have m1' := Ne.symm (unhide HNC).1
          clear HB9 hwr
          obtain ⟨e0, e1, e2, e3, e4, e5, e6, e7⟩ := (unhide HVC).cells
          obtain ⟨c0, c1, c2, c3, c4, c5, c6, c7⟩ := (unhide HIW).p.cells
          obtain ⟨f0, f1, f2, f3, f4, f5, f6, f7⟩ := (unhide HIW).p.free
          have HI9 := hide (LpI.put (unhide HIW) x (unhide HOC) (unhide HNP).1 (unhide HNP).2.1 (unhide HNP).2.2.1 (unhide HNP).2.2.2.1 (unhide HNP).2.2.2.2)
          go_wp2
          go_roundg (gk - 1)
          case measure => have := unhide HLS; omega
          case rel => exact ⟨elStep s, _, _, _, _, _, _, rfl, by rw [unhide HEQ]; exact HI9, hide ⟨unhide HOK2, unhide HON⟩, by have h9 := unhide HLS; rw [unhide HSP]; omega⟩
    · have HES : Hid (E = s) := hide ((unhide HOK).2.symm.trans (elEnd_at h5))
      have HPH := hide (px_parts (unhide HOK).1.p)
      have HI6 := hide (unhide HI).l
      clear hmk
      obtain ⟨t0, t1, t2⟩ := (unhide HI6).o.cells
      by_cases p6 : s.p.phase = 6
      · have b6 : (s.p.phase == 6) = true := by simp [p6]
        have HQ : Hid (R = ⟨s.ss, s.xs, L, 19⟩) := hide (by rw [unhide HLAST, unhide HES, elLast, if_neg (fun hq => by have := hq.1; omega)])
        clear p6
        obtain ⟨d0, d1⟩ := (unhide HI6).d.cells
        obtain ⟨r0, r1⟩ := (unhide HI6).r.cells
        have r2 := (unhide HI6).r.free 0
        have r3 := (unhide HI6).r.free 1
        obtain ⟨u0, u1, u2⟩ := (unhide HI6).t.cells
        obtain ⟨u3, u4, u5⟩ := (unhide HI6).t.free
        have HF := hide (fun a b x y z => (unhide HI6).out (unhide HAP) a b x y z)
        go_wp2
        go_region
        all_goals
          go_wp2
          refine bodyPost_ret (v := .tuple #[.agg #[.slice ao' s.ss.length ca', .slice qo' s.xs.length cb'], lV L, .int .i64 19]) (by simp [results, Tryz.results32, go_sem, r0, r1, u0, u1, u2]) rfl ?_
          first
            | exact left_end (unhide HQ) (left_drew (unhide HF _ _ _ _ _).1)
            | exact left_end (unhide HQ) (left_drew (unhide HF _ _ _ _ _).2)
            | exact left_end (unhide HQ) (unhide HF _ _ _ _ _).1
            | exact left_end (unhide HQ) (unhide HF _ _ _ _ _).2
      have b6 : (s.p.phase == 6) = false := by simp [p6]
      have HP5 : Hid (s.p.phase = 5) := hide (by have := (unhide HPH).2.2.1; omega)
      have hvl := (unhide HPH).2.2.2.2.1
      have z1 : Int.tmod s.p.value 1024 = s.p.value % 1024 := Int.tmod_eq_emod_of_nonneg hvl.1
      have z2 : Int.tdiv s.p.value 1024 = s.p.value / 1024 := Int.tdiv_eq_ediv_of_nonneg hvl.1
      have z3 : IntKind.i64.wrap (s.p.value % 1024) = s.p.value % 1024 := by rw [IntKind.wrap_i64]; omega
      have z4 : IntKind.i64.wrap (s.p.value / 1024) = s.p.value / 1024 := by rw [IntKind.wrap_i64]; omega
      have HA8 := hide (Joins.below_alloc1 wr (.cells #[.int .i64 (L.ver + 1), .int .i64 (s.p.value % 1024), .int .i64 (s.p.value / 1024)] 30))
      have HI8 := hide ((unhide HI6).next (unhide HA8))
      have HV8 : Hid (VarT (wr.alloc (.cells #[.int .i64 (L.ver + 1), .int .i64 (s.p.value % 1024), .int .i64 (s.p.value / 1024)] 30)) wr.heap.size 30 (L.ver + 1) (s.p.value % 1024) (s.p.value / 1024)) := hide (VarT.new wr _ _ _ _)
      have HNM : Hid (w.heap.size ≠ wr.heap.size ∧ B1 ≠ wr.heap.size ∧ B2 ≠ wr.heap.size) := hide (by
        have y0 := (unhide HI6).d.lt
        have y1 := (unhide HI6).r.lt
        have y2 := (unhide HI6).t.lt
        omega)
      clear p6 hvl t0 t1 t2
      go_upto_region 17 with fail
      clear h5 c0 c1 c2 c3 c4 c5 c6 c7 z1 z2 z3 z4
      revert HI8 HV8 HNM
      clear HA8
      generalize wr.alloc (.cells #[.int .i64 (L.ver + 1), .int .i64 (s.p.value % 1024), .int .i64 (s.p.value / 1024)] 30) = W8
      generalize wr.heap.size = N
      intro HI8 HV8 HNM
      obtain ⟨M, HM⟩ : ∃ M, Hid (leadOf (L.ver + 1) s.p.value = M) := ⟨_, hide rfl⟩
      have HVM : Hid (VarT W8 N 30 M.ver M.own M.gen) := hide (by rw [← unhide HM]; exact unhide HV8)
      obtain ⟨v0, v1, v2⟩ := (unhide HVM).cells
      clear HV8
      go_wp2_with fail
      refine (leaderOK_spec M _).mono ?_
      rintro e wB ⟨rfl, hbB⟩
      have HI9 := hide ((unhide HI8).next hbB)
      have HVN := hide ((unhide HVM).below hbB)
      clear hbB v0 v1 v2
      obtain ⟨bl, HBL⟩ : ∃ bl, Hid (ldB M = bl) := ⟨_, hide rfl⟩
      rw [unhide HBL]
      obtain ⟨t0, t1, t2⟩ := (unhide HI9).o.cells
      cases bl with
      | false =>
        have HQ : Hid (R = ⟨s.ss, s.xs, L, 19⟩) := hide (by rw [unhide HLAST, unhide HES, elLast, unhide HM, if_neg (fun hq => by have := hq.2; rw [unhide HBL] at this; cases this)])
        obtain ⟨d0, d1⟩ := (unhide HI9).d.cells
        obtain ⟨r0, r1⟩ := (unhide HI9).r.cells
        have r2 := (unhide HI9).r.free 0
        have r3 := (unhide HI9).r.free 1
        obtain ⟨u0, u1, u2⟩ := (unhide HI9).t.cells
        obtain ⟨u3, u4, u5⟩ := (unhide HI9).t.free
        have HF := hide (fun a b x y z => (unhide HI9).out (unhide HAP) a b x y z)
        go_wp2
        go_region
        all_goals
          go_wp2
          refine bodyPost_ret (v := .tuple #[.agg #[.slice ao' s.ss.length ca', .slice qo' s.xs.length cb'], lV L, .int .i64 19]) (by simp [results, Tryz.results32, go_sem, r0, r1, u0, u1, u2]) rfl ?_
          first
            | exact left_end (unhide HQ) (left_drew (unhide HF _ _ _ _ _).1)
            | exact left_end (unhide HQ) (left_drew (unhide HF _ _ _ _ _).2)
            | exact left_end (unhide HQ) (unhide HF _ _ _ _ _).1
            | exact left_end (unhide HQ) (unhide HF _ _ _ _ _).2
      | true =>
        obtain ⟨t, HTE⟩ : ∃ t, Hid (encL M = t) := ⟨_, hide rfl⟩
        have HTS : Hid (t.size ≤ 80) := hide (by rw [← unhide HTE]; first | (rw [encB_size]; decide) | (rw [encL_size]; decide))
        have HP : Hid (diskB s.ss (s.xs ++ [⟨h, (0 : Int), t⟩]) = true) := hide (diskB_snoc (unhide HOK).1.d (unhide HOK).1.l (w_io h0 h3 (by omega) (by omega) (unhide HTS)))
        have HXL : Hid (s.xs.length ≤ 1048576) := hide (by have := (unhide HOK).1.l; omega)
        have HRGT := hide (w_right (t := t) (unhide HOK).1.d (unhide HOK).1.l h0 h3 (show 0 ≤ (0 : Int) by omega) (show (0 : Int) ≤ 63 by omega) (unhide HTS))
        have HNL := hide (wS_len s.ss s.xs h ((0 : Int)) t)
        obtain ⟨S, HSS⟩ : ∃ S, Hid (wS s.ss s.xs h ((0 : Int)) t = S) := ⟨_, hide rfl⟩
        obtain ⟨Y, HXX⟩ : ∃ Y, Hid (wX s.xs h ((0 : Int)) t = Y) := ⟨_, hide rfl⟩
        rw [unhide HSS] at HRGT HNL
        rw [unhide HXX] at HRGT
        have HQ : Hid (R = ⟨S, Y, M, 0⟩) := hide (by rw [unhide HLAST, unhide HES, elLast, unhide HM, if_pos ⟨unhide HP5, unhide HBL⟩, unhide HTE, unhide HSS, unhide HXX])
        have HRS := hide ((unhide HI9).a.ss (unhide HI9).below)
        have HENC : Hid (∀ W, Calls Tryz.prog 45 #[lV M] W fun e w' => e = .returned (.string t) ∧ Below W.heap.size W w') := hide (fun W => by have k9 := l06Encode_ld M W (unhide HBL); rw [unhide HTE] at k9; exact k9)
        have HFL : Hid (∀ (gg cap B : Nat) (W : World), Below wB.heap.size wB W → W.ownsRow B 65 3 (.slice (some ⟨gg, 0, none⟩) (s.xs.length + 1) cap) (s.xs.length + 1) (ioV (s.xs ++ [⟨h, 0, t⟩])) → Calls Tryz.prog 43 #[.agg #[.slice ao' s.ss.length ca', .slice (some ⟨gg, 0, none⟩) (s.xs.length + 1) cap], .int .i64 h] W fun e w' => ∃ po pa qo qa, e = .returned (.agg #[.slice po S.length pa, .slice qo Y.length qa]) ∧ OwnD w' W.heap.size po S.length pa qo Y.length qa S Y ∧ Below W.heap.size W w') := hide (fun gg cap B W hW hO => by
          refine (l01Flush_sure ao' ca' gg cap B s.ss s.xs h 0 t S Y W (unhide HSS) (unhide HXX) (unhide HP) ((unhide HRS).1.below hW) hO).mono ?_
          rintro e w' ⟨po, pa, qo, qa, he, ho, hb⟩
          exact ⟨po, pa, qo, qa, by rw [he, unhide HNL], by rw [unhide HNL]; exact ho, hb⟩)
        have HWR := hide (fun (W : World) (hW : Below wB.heap.size wB W) => l01Write_hd ao' qo' s.ss.length ca' cb' s.xs h 0 t W (unhide HXL) ((unhide HRS).2.below hW))
        obtain ⟨d0, d1⟩ := (unhide HI9).d.cells
        obtain ⟨v0, v1, v2⟩ := (unhide HVN).cells
        have hdl : w.heap.size < wB.heap.size := (unhide HI9).d.lt
        have hnl : N < wB.heap.size := (unhide HVN).lt
        have x1 := (unhide HNM).1
        have x1' := Ne.symm (unhide HNM).1
        have x2 := (unhide HNM).2.1
        have x2' := Ne.symm (unhide HNM).2.1
        have x3 := (unhide HNM).2.2
        have x3' := Ne.symm (unhide HNM).2.2
        clear t0 t1 t2
        go_wp2_with fail
        go_cut [19] from 110 to 117 (fun c wx => c = .pointer (some ⟨N, 0, none⟩) ∧ ∃ po pa ro ra, Hid (LeI w wx w.heap.size B1 B2 O S Y L po pa ro ra) ∧ Hid (VarT wx N 30 M.ver M.own M.gen))
        case first =>
          go_region_with
            (first
              | (go_at_call 45; refine (unhide HENC _).mono ?_; rintro e wF ⟨rfl, hbF⟩; have HBF := hide (fr (Below.refl _ wB).drew hbF); clear hbF; have a0 := ((unhide HBF).cell (p := ⟨w.heap.size, 0, none⟩) hdl).trans d0; have a1 := ((unhide HBF).cell (p := ⟨w.heap.size, 1, none⟩) hdl).trans d1; obtain ⟨a2, a3, a4⟩ := ((unhide HVN).below (unhide HBF)).cells)
              | (go_at_call 44; refine (unhide HWR _ (unhide HBF)).mono ?_; rintro e wG ⟨gg, cap, rfl, hoG, hbG⟩; have HOG := hide hoG; have HBG := hide (fr (unhide HBF) hbG); clear hoG hbG; have a6 := ((unhide HBG).cell (p := ⟨w.heap.size, 0, none⟩) hdl).trans d0; have a7 := ((unhide HBG).cell (p := ⟨w.heap.size, 1, none⟩) hdl).trans d1; obtain ⟨a8, a9, aa⟩ := ((unhide HVN).below (unhide HBG)).cells)
              | (go_at_call 43; refine (unhide HFL gg cap _ _ (unhide HBG) (unhide HOG)).mono ?_; rintro e wH ⟨po, pa, ro2, ra2, rfl, hoH, hbH⟩; have HOH := hide (hoH.base (B' := w.heap.size) (Nat.le_trans (unhide HI9).below.size (unhide HBG).size)); have HBH := hide (fr (unhide HBG) hbH); clear hoH hbH; have b0 := ((unhide HBH).cell (p := ⟨w.heap.size, 0, none⟩) hdl).trans d0; have b1 := ((unhide HBH).cell (p := ⟨w.heap.size, 1, none⟩) hdl).trans d1; obtain ⟨b2, b3, b4⟩ := ((unhide HVN).below (unhide HBH)).cells; have b6 := ((unhide HI9).d.below (unhide HBH)).free 0; have b7 := ((unhide HI9).d.below (unhide HBH)).free 1))
          all_goals
            have HIW := hide (LeI.write (unhide HI9) (unhide HAP) (unhide HBH) (unhide HOH) (unhide HRGT))
            have HVC := hide (((unhide HVN).below (unhide HBH)).keep (keep2 wH w.heap.size (.slice po S.length pa) (.slice ro2 Y.length ra2)) (Ne.symm (unhide HNM).1))
            go_wp2_with fail
            go_meet
            exact ⟨rfl, po, pa, ro2, ra2, HIW, HVC⟩
        case rest =>
          obtain ⟨rfl, ao', ca', qo', cb', HIW, HVC⟩ := hcut
          clear d0 d1 v0 v1 v2 hdl hnl
          obtain ⟨v0, v1, v2⟩ := (unhide HVC).cells
          obtain ⟨d0, d1⟩ := (unhide HIW).d.cells
          obtain ⟨r0, r1⟩ := (unhide HIW).r.cells
          have r2 := (unhide HIW).r.free 0
          have r3 := (unhide HIW).r.free 1
          obtain ⟨u0, u1, u2⟩ := (unhide HIW).t.cells
          obtain ⟨u3, u4, u5⟩ := (unhide HIW).t.free
          have HF := hide (fun a b x y z => (unhide HIW).out (unhide HAP) a b x y z)
          go_wp2
          go_region
          all_goals
            go_wp2
            refine bodyPost_ret (v := .tuple #[.agg #[.slice ao' S.length ca', .slice qo' Y.length cb'], lV M, .int .i64 0]) (by simp [results, Tryz.results32, go_sem, r0, r1, u0, u1, u2]) rfl ?_
            first
              | exact left_end (unhide HQ) (left_drew (unhide HF _ _ _ _ _).1)
              | exact left_end (unhide HQ) (left_drew (unhide HF _ _ _ _ _).2)
              | exact left_end (unhide HQ) (unhide HF _ _ _ _ _).1
              | exact left_end (unhide HQ) (unhide HF _ _ _ _ _).2

end Go.Proofs.YtdfinapjgffjiaaGreatDoor
