/- The walk of laws.FnBallot. -/
import Derived.Test.YtdfinapjgffjiaaRows
import Derived.Test.YtdfinapjgffjiaaPart1
import Derived.Test.YtdfinapjgffjiaaPart3
import Derived.Test.YtdfinapjgffjiaaPart4
import Derived.Test.YtdfinapjgffjiaaPart5
import Derived.Test.YtdfinapjgffjiaaPart7
import Derived.Test.YtdfinapjgffjiaaPart8
import Derived.Test.YtdfinapjgffjiaaPart10
import Derived.WalkKit
import Derived.WalkSpells
import Derived.BigQuiet
import Derived.Deep.QuietTactic
import Derived.Deep.RegionWith
import Derived.Deep.RegionHeld3
import Derived.Deep.CutRange
import Derived.Deep.LoopGhost

namespace Go.Proofs.Ytdfinapjgffjiaa
open Go.RowKit
set_option linter.unusedVariables false
set_option maxRecDepth 100000

theorem nextBallot_bal (p : Pxs) (ao : Option Addr) (n cap : Nat) (xs : List Bk) (w : World) (hn : xs.length = n) (h4 : n = 4) (hp : pxB p = true) (hd : ∀ i, i < 4 → bkD (xs.getD i bk0)) (hc : Bks w ao xs) :
    Calls Try.prog 8 #[.int .i64 p.host, .int .i64 p.ver, .slice ao n cap] w fun e w' => e = .returned (.tuple #[.int .i64 (nxBal p.host p.ver xs), .int .i64 0]) ∧ Below w.heap.size w w' := by
  subst hn
  refine (nextBallot_impl p.host p.ver ao cap xs w (by omega) hc).mono ?_
  rintro e w' ⟨rfl, hb⟩
  obtain ⟨e1, e2, _⟩ := bal_next hp h4 hd
  rw [e1, e2]
  exact ⟨rfl, hb⟩
theorem bal_st {p : Pxs} {xs : List Bk} (hl : xs.length = 4) (hp : pxB p = true) (hb : bksB xs = true) : stP p xs = (pxStepP p xs).1 ∧ stL p xs = (pxStepP p xs).2 ∧ stC p xs = stEnd p ∧ (pxStepP p xs).2.length = 4 := by
  obtain ⟨h1, h2, h3⟩ := st_ok (p := p) (xs := xs) (by omega) hp hb
  exact ⟨h1, h2, h3, (bksB_parts (px_right hp hb).2).1⟩
theorem pxStep_balI (p q : Pxs) (ao : Option Addr) (n ca : Nat) (xs ys : List Bk) (cc : Int) (w : World) (hr : pxStepP p xs = (q, ys)) (hcc : stEnd p = cc) (hn : xs.length = n) (h4 : n = 4) (hp : pxB p = true) (hb : bksB xs = true) (hc : Bks w ao xs) :
    Calls Try.prog 9 #[pV p, .slice ao n ca] w fun e w' => ∃ qo qa, e = .returned (.tuple #[pV q, .slice qo 4 qa, .int .i64 cc]) ∧ Bks w' qo ys ∧ Below w.heap.size w w' := by
  subst hn
  refine (pxStep_impl p ao ca xs w (by omega) hc).mono ?_
  rintro e w' ⟨qo, qa, he, ho, hk⟩
  obtain ⟨h1, h2, h3, hl⟩ := bal_st h4 hp hb
  have hB := ownBks ho
  rw [h1, h2, h3, hl, hr, hcc] at he
  rw [h2, hr] at hB
  exact ⟨qo, qa, he, hB, hk⟩
theorem pxStep_balS (p q : Pxs) (ao : Option Addr) (n ca : Nat) (xs ys : List Bk) (cc : Int) (w : World) (hr : pxStepP p xs = (q, ys)) (hcc : stEnd p = cc) (hn : xs.length = n) (h4 : n = 4) (hp : pxB p = true) (hb : bksB xs = true) (hc : Bks w ao xs) :
    Calls Try.prog 10 #[pV p, .slice ao n ca] w fun e w' => ∃ qo qa, e = .returned (.tuple #[pV q, .slice qo 4 qa, .int .i64 cc]) ∧ Bks w' qo ys ∧ Below w.heap.size w w' := by
  subst hn
  refine (pxStep_spec p ao ca xs w (by omega) hc).mono ?_
  rintro e w' ⟨qo, qa, he, ho, hk⟩
  obtain ⟨h1, h2, h3, hl⟩ := bal_st h4 hp hb
  have hB := ownBks ho
  rw [h1, h2, h3, hl, hr, hcc] at he
  rw [h2, hr] at hB
  exact ⟨qo, qa, he, hB, hk⟩

set_option maxHeartbeats 6400000 in
theorem lawBallot (ao : Option Addr) (ca n : Nat) (bo : Option Addr) (cb l : Nat) (w : World) (hn : n ≤ maxLen) (hB : Bs w ao n) (hl : l ≤ maxLen) (hC : Bs w bo l) :
    Calls Try.prog 3 #[.slice ao n ca, .slice bo l cb] w fun e w' => e = .returned (.bool true) ∧ Below w.heap.size w w' := by
  have HBS := hide hB
  have HCS := hide hC
  clear hB hC
  unfold maxLen at hn hl
  by_cases h : 1048576 < n
  · go_enter Try.func3, Try.ntmps3
    go_wp2
    go_ret
    exact ⟨rfl, Below.refl _ _⟩
  by_cases h2 : 1048576 < l
  · go_enter Try.func3, Try.ntmps3
    go_wp2
    go_ret
    exact ⟨rfl, Below.refl _ _⟩
  have hn' : n ≤ 1048576 := by omega
  have hl' : l ≤ 1048576 := by omega
  go_enter Try.func3, Try.ntmps3
  go_wp2_with fail
  refine (pxOf_any ao n ca _ hn' (unhide HBS)).mono ?_
  rintro e w1 ⟨p, rfl, hp, hb⟩
  have HP := hide hp
  have HB1 := hide (fr hb (Joins.below_alloc1 w1 (.cells #[.int .i64 p.host, .int .i64 p.ver, .int .i64 p.phase, .int .i64 p.ballot, .int .i64 p.value, .int .i64 p.next, .int .i64 p.best, .int .i64 p.bestBal] 24)))
  have HV1 := hide (VarP.new w1 24 p)
  clear hp hb
  go_upto_region 4 with fail
  revert HB1 HV1
  generalize w1.alloc (.cells #[.int .i64 p.host, .int .i64 p.ver, .int .i64 p.phase, .int .i64 p.ballot, .int .i64 p.value, .int .i64 p.next, .int .i64 p.best, .int .i64 p.bestBal] 24) = W1
  generalize w1.heap.size = P
  intro HB1 HV1
  go_wp2_with fail
  refine (blocksOf_any bo l cb _ hl' ((unhide HCS).below (unhide HB1))).mono ?_
  rintro e w2 ⟨g, x1, x2, x3, x4, rfl, hk, hd, hb⟩
  have HL : Hid ([x1, x2, x3, x4].length = 4) := hide rfl
  have HD : Hid (∀ i, i < 4 → bkD ([x1, x2, x3, x4].getD i bk0)) := hide (four_all hd)
  have HK2 := hide hk
  have HB2 := hide (fr (unhide HB1) hb)
  have HV2 := hide ((unhide HV1).below hb)
  clear hk hd hb HB1 HV1
  revert HL HD HK2
  generalize [x1, x2, x3, x4] = xs
  intro HL HD HK2
  have HXB := hide (bal_right (unhide HL) (unhide HD))
  obtain ⟨c0, c1, c2, c3, c4, c5, c6, c7⟩ := (unhide HV2).cells
  go_wp2_with fail
  refine (nextBallot_bal p (some ⟨g, 0, none⟩) 4 4 xs _ (unhide HL) rfl (unhide HP) (unhide HD) (unhide HK2)).mono ?_
  rintro e w3 ⟨rfl, hb⟩
  have HNB := hide (bal_next (unhide HP) (unhide HL) (unhide HD)).2.2
  have HK3 := hide ((unhide HK2).below hb)
  have HB3 := hide (fr (unhide HB2) hb)
  have HV3 := hide ((unhide HV2).below hb)
  clear hb HB2 HV2 HK2 c0 c1 c2 c3 c4 c5 c6 c7
  revert HNB
  generalize nxBal p.host p.ver xs = N
  intro HNB
  obtain ⟨q, ys, HR⟩ : ∃ q ys, Hid (pxStepP p xs = (q, ys)) := ⟨_, _, hide rfl⟩
  obtain ⟨cc, HCC⟩ : ∃ cc, Hid (stEnd p = cc) := ⟨_, hide rfl⟩
  have HRT : Hid (pxB q = true ∧ bksB ys = true) := hide (by have := px_right (unhide HP) (unhide HXB); rw [unhide HR] at this; exact this)
  have HOW : Hid ((∀ i : Nat, i < 4 → (i : Int) ≠ p.host → ys.getD i bk0 = xs.getD i bk0) ∧ ∀ i, i < 4 → (ys.getD i bk0).ver = (xs.getD i bk0).ver → (xs.getD i bk0).mbal ≤ (ys.getD i bk0).mbal) := hide (by have := bal_own (unhide HP) (unhide HL); rw [unhide HR] at this; exact this)
  have HYL : Hid (ys.length = 4) := hide (bksB_parts (unhide HRT).2).1
  obtain ⟨c0, c1, c2, c3, c4, c5, c6, c7⟩ := (unhide HV3).cells
  go_wp2_with fail
  refine (pxStep_balI p q (some ⟨g, 0, none⟩) 4 4 xs ys cc _ (unhide HR) (unhide HCC) (unhide HL) rfl (unhide HP) (unhide HXB) (unhide HK3)).mono ?_
  rintro e w4 ⟨qo, qa, rfl, hq, hb⟩
  have HX4 := hide (VarP.new w4 24 q)
  have HB4 := hide (fr (fr (unhide HB3) hb) (Joins.below_alloc1 w4 (.cells #[.int .i64 q.host, .int .i64 q.ver, .int .i64 q.phase, .int .i64 q.ballot, .int .i64 q.value, .int .i64 q.next, .int .i64 q.best, .int .i64 q.bestBal] 24)))
  have HK4 := hide (((unhide HK3).below hb).below (Joins.below_alloc1 w4 (.cells #[.int .i64 q.host, .int .i64 q.ver, .int .i64 q.phase, .int .i64 q.ballot, .int .i64 q.value, .int .i64 q.next, .int .i64 q.best, .int .i64 q.bestBal] 24)))
  have HV4 := hide (((unhide HV3).below hb).below (Joins.below_alloc1 w4 (.cells #[.int .i64 q.host, .int .i64 q.ver, .int .i64 q.phase, .int .i64 q.ballot, .int .i64 q.value, .int .i64 q.next, .int .i64 q.best, .int .i64 q.bestBal] 24)))
  have HQ4 := hide (hq.below (Joins.below_alloc1 w4 (.cells #[.int .i64 q.host, .int .i64 q.ver, .int .i64 q.phase, .int .i64 q.ballot, .int .i64 q.value, .int .i64 q.next, .int .i64 q.best, .int .i64 q.bestBal] 24)))
  clear hb hq HB3 HV3 HK3 c0 c1 c2 c3 c4 c5 c6 c7
  go_upto_region 7 with fail
  revert HX4 HB4 HK4 HV4 HQ4
  generalize w4.alloc (.cells #[.int .i64 q.host, .int .i64 q.ver, .int .i64 q.phase, .int .i64 q.ballot, .int .i64 q.value, .int .i64 q.next, .int .i64 q.best, .int .i64 q.bestBal] 24) = W4
  generalize w4.heap.size = X
  intro HX4 HB4 HK4 HV4 HQ4
  obtain ⟨c0, c1, c2, c3, c4, c5, c6, c7⟩ := (unhide HV4).cells
  go_wp2_with fail
  refine (pxStep_balS p q (some ⟨g, 0, none⟩) 4 4 xs ys cc _ (unhide HR) (unhide HCC) (unhide HL) rfl (unhide HP) (unhide HXB) (unhide HK4)).mono ?_
  rintro e w5 ⟨ro, ra, rfl, hq, hb⟩
  have HY5 := hide (VarP.new w5 24 q)
  have HX5 := hide (((unhide HX4).below hb).below (Joins.below_alloc1 w5 (.cells #[.int .i64 q.host, .int .i64 q.ver, .int .i64 q.phase, .int .i64 q.ballot, .int .i64 q.value, .int .i64 q.next, .int .i64 q.best, .int .i64 q.bestBal] 24)))
  have HB5 := hide (fr (fr (unhide HB4) hb) (Joins.below_alloc1 w5 (.cells #[.int .i64 q.host, .int .i64 q.ver, .int .i64 q.phase, .int .i64 q.ballot, .int .i64 q.value, .int .i64 q.next, .int .i64 q.best, .int .i64 q.bestBal] 24)))
  have HK5 := hide (((unhide HK4).below hb).below (Joins.below_alloc1 w5 (.cells #[.int .i64 q.host, .int .i64 q.ver, .int .i64 q.phase, .int .i64 q.ballot, .int .i64 q.value, .int .i64 q.next, .int .i64 q.best, .int .i64 q.bestBal] 24)))
  have HV5 := hide (((unhide HV4).below hb).below (Joins.below_alloc1 w5 (.cells #[.int .i64 q.host, .int .i64 q.ver, .int .i64 q.phase, .int .i64 q.ballot, .int .i64 q.value, .int .i64 q.next, .int .i64 q.best, .int .i64 q.bestBal] 24)))
  have HQ5 := hide (((unhide HQ4).below hb).below (Joins.below_alloc1 w5 (.cells #[.int .i64 q.host, .int .i64 q.ver, .int .i64 q.phase, .int .i64 q.ballot, .int .i64 q.value, .int .i64 q.next, .int .i64 q.best, .int .i64 q.bestBal] 24)))
  have HR5 := hide (hq.below (Joins.below_alloc1 w5 (.cells #[.int .i64 q.host, .int .i64 q.ver, .int .i64 q.phase, .int .i64 q.ballot, .int .i64 q.value, .int .i64 q.next, .int .i64 q.best, .int .i64 q.bestBal] 24)))
  clear hb hq HX4 HB4 HV4 HK4 HQ4 HCC HR c0 c1 c2 c3 c4 c5 c6 c7
  go_upto_region 8 with fail
  revert HY5 HX5 HB5 HK5 HV5 HQ5 HR5
  generalize w5.alloc (.cells #[.int .i64 q.host, .int .i64 q.ver, .int .i64 q.phase, .int .i64 q.ballot, .int .i64 q.value, .int .i64 q.next, .int .i64 q.best, .int .i64 q.bestBal] 24) = W5
  generalize w5.heap.size = Y
  intro HY5 HX5 HB5 HK5 HV5 HQ5 HR5
  obtain ⟨c0, c1, c2, c3, c4, c5, c6, c7⟩ := (unhide HV5).cells
  obtain ⟨d0, d1, d2, d3, d4, d5, d6, d7⟩ := (unhide HX5).cells
  obtain ⟨f0, f1, f2, f3, f4, f5, f6, f7⟩ := (unhide HY5).cells
  have bm : (N.tmod 4 != p.host) = false := by
    have h1 := (unhide HNB).1
    have h2 := (unhide HNB).2.1
    rw [Int.tmod_eq_emod_of_nonneg (by omega), h2]
    exact bne_self_eq_false _
  have bc : (cc != cc) = false := bne_self_eq_false _
  go_wp2_with fail
  refine (sameBlocks_same qo ro qa ra 4 ys _ (unhide HYL) (by omega) (unhide HQ5) (unhide HR5)).mono ?_
  rintro e w6 ⟨rfl, hb⟩
  have HX6 := hide ((unhide HX5).below hb)
  have HB6 := hide (fr (unhide HB5) hb)
  have HK6 := hide ((unhide HK5).below hb)
  have HV6 := hide ((unhide HV5).below hb)
  have HQ6 := hide ((unhide HQ5).below hb)
  clear hb HX5 HB5 HV5 HK5 HQ5 HR5 HY5 bm bc c0 c1 c2 c3 c4 c5 c6 c7 d0 d1 d2 d3 d4 d5 d6 d7 f0 f1 f2 f3 f4 f5 f6 f7
  obtain ⟨d0, d1, d2, d3, d4, d5, d6, d7⟩ := (unhide HX6).cells
  go_wp2_with fail
  refine (pxOK_impl q _).mono ?_
  rintro e w7 ⟨rfl, hb⟩
  have HB7 := hide (fr (unhide HB6) hb)
  have HK7 := hide ((unhide HK6).below hb)
  have HV7 := hide ((unhide HV6).below hb)
  have HQ7 := hide ((unhide HQ6).below hb)
  clear hb HX6 HB6 HV6 HK6 HQ6 d0 d1 d2 d3 d4 d5 d6 d7
  rw [(unhide HRT).1]
  go_wp2
  go_loopg [15] 5 (fun q i wr => ∃ (k : Nat), k ≤ 4 ∧ q = 5 - k ∧ i = .int .i64 k ∧ Hid (Below w7.heap.size w7 wr))
  case atStart => exact ⟨0, by omega, rfl, rfl, hide (Below.refl _ _)⟩
  case round =>
    obtain ⟨k, hk, hgk, rfl, HB⟩ := hrel
    replace hgk := hide hgk
    by_cases hlt : k < 4
    · obtain ⟨c0, c1, c2, c3, c4, c5, c6, c7⟩ := ((unhide HV7).below (unhide HB)).cells
      obtain ⟨gb, go, hge, _, x0, x1, x2, x3⟩ := ((unhide HK7).below (unhide HB)).get k (by rw [unhide HL]; exact hlt)
      simp only [Option.some.injEq, Addr.mk.injEq] at hge
      obtain ⟨rfl, rfl, _⟩ := hge
      rw [Nat.zero_add] at x0 x1 x2 x3
      obtain ⟨yb, yo, rfl, _, y0, y1, y2, y3⟩ := ((unhide HQ7).below (unhide HB)).get k (by rw [unhide HYL]; exact hlt)
      have HA := hide ((unhide HNB).2.2 k hlt)
      have HO := hide ((unhide HOW).1 k hlt)
      have HM := hide ((unhide HOW).2 k hlt)
      have HYB := hide ((bksB_parts (unhide HRT).2).2 k (by rw [unhide HYL]; exact hlt))
      clear c2 c3 c4 c5 c6 c7
      have hk4 : (k : Int) < 4 := by omega
      revert x0 x1 x2 x3 y0 y1 y2 y3 HA HO HM HYB
      generalize xs.getD k bk0 = x
      generalize ys.getD k bk0 = y
      intro x0 x1 x2 x3 y0 y1 y2 y3 HA HO HM HYB
      have hPl : P < wr.heap.size := ((unhide HV7).below (unhide HB)).lt
      have hgl := World.block_lt_of_cell? _ _ x0
      have hyl := World.block_lt_of_cell? _ _ y0
      simp only at hgl hyl
      go_upto_region 13 with fail
      go_cut [159] from 88 to 159 (fun c wx => c = .bool false ∧ Hid (Below w7.heap.size w7 wx))
      case first =>
        simp only [List.append]
        by_cases ha : p.ver ≤ x.ver
        · have ha2 : ¬ N ≤ x.mbal := by have := unhide HA ha; omega
          by_cases ho : (k : Int) = p.host
          · have bo : ((k : Int) != p.host) = false := by rw [ho]; exact bne_self_eq_false _
            clear ho
            by_cases hm : y.ver = x.ver
            · have bm : (y.ver == x.ver) = true := beq_iff_eq.2 hm
              have hm2 : ¬ y.mbal < x.mbal := by have := unhide HM hm; omega
              clear hm
              refine wp_region_held_drew (S := (fun w' => w'.cell? ⟨P, 0, none⟩ = some (.int .i64 p.host) ∧ w'.cell? ⟨P, 1, none⟩ = some (.int .i64 p.ver) ∧ w'.cell? ⟨g, k * 4, none⟩ = some (.int .i64 x.ver) ∧ w'.cell? ⟨g, k * 4 + 1, none⟩ = some (.int .i64 x.mbal) ∧ w'.cell? ⟨g, k * 4 + 2, none⟩ = some (.int .i64 x.bal) ∧ w'.cell? ⟨g, k * 4 + 3, none⟩ = some (.int .i64 x.inp) ∧ w'.cell? ⟨yb, yo + k * 4, none⟩ = some (.int .i64 y.ver) ∧ w'.cell? ⟨yb, yo + k * 4 + 1, none⟩ = some (.int .i64 y.mbal) ∧ w'.cell? ⟨yb, yo + k * 4 + 2, none⟩ = some (.int .i64 y.bal) ∧ w'.cell? ⟨yb, yo + k * 4 + 3, none⟩ = some (.int .i64 y.inp))) (by kernel_rfl) ?kA0 (fun hHeld => ?_)
              case kA0 => ((try dsimp only); go_keep)
              refine wpAnyH_take (i := 0) (oi := { dst := some 92, op := Op.move (Operand.tmp 6), type := 26, pos := "laws.go:346", after := #[], guard := none }) (v := ?v0q0) rfl (by kernel_rfl) (by kernel_rfl) (by kernel_rfl) (fun _ _ _ h => h) (Or.inl ⟨by rfl, ?h0q0⟩) hHeld ?_
              case h0q0 => (intro w hSw; (try dsimp only at hSw); go_simp; try with_reducible rfl)
              try simp only [Act.put, List.setIfInBounds_toArray, List.set_cons_zero, List.set_cons_succ]
              refine wpAnyH_take (i := 1) (oi := { dst := some 93, op := Op.move (Operand.tmp 15), type := 3, pos := "laws.go:346", after := #[], guard := none }) (v := ?v0q1) rfl (by kernel_rfl) (by kernel_rfl) (by kernel_rfl) (fun _ _ _ h => h) (Or.inl ⟨by rfl, ?h0q1⟩) hHeld ?_
              case h0q1 => (intro w hSw; (try dsimp only at hSw); go_simp; try with_reducible rfl)
              try simp only [Act.put, List.setIfInBounds_toArray, List.set_cons_zero, List.set_cons_succ]
              refine wpAnyH_take (i := 2) (oi := { dst := some 94, op := Op.indexAddr 26 (Operand.tmp 92) (Operand.tmp 93), type := 0, pos := "laws.go:346", after := #[{ on := 0, ground := Ground.data }, { on := 1, ground := Ground.data }], guard := none }) (v := ?v0q2) rfl (by kernel_rfl) (by kernel_rfl) (by kernel_rfl) (fun _ _ _ h => h) (Or.inl ⟨by rfl, ?h0q2⟩) hHeld ?_
              case h0q2 => (intro w hSw; (try dsimp only at hSw); go_simp; try with_reducible rfl)
              try simp only [Act.put, List.setIfInBounds_toArray, List.set_cons_zero, List.set_cons_succ]
              refine wpAnyH_take (i := 3) (oi := { dst := some 95, op := Op.fieldAddr 35 (Operand.tmp 94) 0, type := 0, pos := "laws.go:346", after := #[{ on := 2, ground := Ground.data }], guard := none }) (v := ?v0q3) rfl (by kernel_rfl) (by kernel_rfl) (by kernel_rfl) (fun _ _ _ h => h) (Or.inl ⟨by rfl, ?h0q3⟩) hHeld ?_
              case h0q3 => (intro w hSw; (try dsimp only at hSw); go_simp; try with_reducible rfl)
              try simp only [Act.put, List.setIfInBounds_toArray, List.set_cons_zero, List.set_cons_succ]
              refine wpAnyH_take (i := 4) (oi := { dst := some 96, op := Op.load 3 (Operand.tmp 95), type := 3, pos := "laws.go:346", after := #[{ on := 3, ground := Ground.data }], guard := none }) (v := ?v0q4) rfl (by kernel_rfl) (by kernel_rfl) (by kernel_rfl) (fun _ _ _ h => h) (Or.inl ⟨by rfl, ?h0q4⟩) hHeld ?_
              case h0q4 => (intro w hSw; (try dsimp only at hSw); go_simp; try with_reducible rfl)
              try simp only [Act.put, List.setIfInBounds_toArray, List.set_cons_zero, List.set_cons_succ]
              refine wpAnyH_take (i := 5) (oi := { dst := some 97, op := Op.fieldAddr 24 (Operand.tmp 5) 1, type := 0, pos := "laws.go:346", after := #[], guard := none }) (v := ?v0q5) rfl (by kernel_rfl) (by kernel_rfl) (by kernel_rfl) (fun _ _ _ h => h) (Or.inl ⟨by rfl, ?h0q5⟩) hHeld ?_
              case h0q5 => (intro w hSw; (try dsimp only at hSw); go_simp; try with_reducible rfl)
              try simp only [Act.put, List.setIfInBounds_toArray, List.set_cons_zero, List.set_cons_succ]
              refine wpAnyH_take (i := 6) (oi := { dst := some 98, op := Op.load 3 (Operand.tmp 97), type := 3, pos := "laws.go:346", after := #[{ on := 5, ground := Ground.data }], guard := none }) (v := ?v0q6) rfl (by kernel_rfl) (by kernel_rfl) (by kernel_rfl) (fun _ _ _ h => h) (Or.inl ⟨by rfl, ?h0q6⟩) hHeld ?_
              case h0q6 => (intro w hSw; (try dsimp only at hSw); go_simp; try with_reducible rfl)
              try simp only [Act.put, List.setIfInBounds_toArray, List.set_cons_zero, List.set_cons_succ]
              refine wpAnyH_take (i := 7) (oi := { dst := some 99, op := Op.binOp BinOp.geq 3 (Operand.tmp 96) (Operand.tmp 98) 3, type := 4, pos := "laws.go:346", after := #[{ on := 4, ground := Ground.data }, { on := 6, ground := Ground.data }], guard := none }) (v := ?v0q7) rfl (by kernel_rfl) (by kernel_rfl) (by kernel_rfl) (fun _ _ _ h => h) (Or.inl ⟨by rfl, ?h0q7⟩) hHeld ?_
              case h0q7 => (intro w hSw; (try dsimp only at hSw); go_simp; try with_reducible rfl)
              try simp only [Act.put, List.setIfInBounds_toArray, List.set_cons_zero, List.set_cons_succ]
              refine wpAnyH_take (i := 8) (oi := { dst := some 100, op := Op.move (Operand.tmp 99), type := 4, pos := "laws.go:346", after := #[{ on := 7, ground := Ground.data }], guard := none }) (v := ?v0q8) rfl (by kernel_rfl) (by kernel_rfl) (by kernel_rfl) (fun _ _ _ h => h) (Or.inl ⟨by rfl, ?h0q8⟩) hHeld ?_
              case h0q8 => (intro w hSw; (try dsimp only at hSw); go_simp; try with_reducible rfl)
              try simp only [Act.put, List.setIfInBounds_toArray, List.set_cons_zero, List.set_cons_succ]
              refine wpAnyH_take (i := 9) (oi := { dst := some 101, op := Op.move (Operand.tmp 6), type := 26, pos := "laws.go:346", after := #[{ on := 8, ground := Ground.guard }], guard := some (8, true) }) (v := ?v0q9) rfl (by kernel_rfl) (by kernel_rfl) (by kernel_rfl) (fun _ _ _ h => h) (Or.inl ⟨by rfl, ?h0q9⟩) hHeld ?_
              case h0q9 => (intro w hSw; (try dsimp only at hSw); go_simp; try with_reducible rfl)
              try simp only [Act.put, List.setIfInBounds_toArray, List.set_cons_zero, List.set_cons_succ]
              refine wpAnyH_take (i := 10) (oi := { dst := some 102, op := Op.move (Operand.tmp 15), type := 3, pos := "laws.go:346", after := #[{ on := 8, ground := Ground.guard }], guard := some (8, true) }) (v := ?v0q10) rfl (by kernel_rfl) (by kernel_rfl) (by kernel_rfl) (fun _ _ _ h => h) (Or.inl ⟨by rfl, ?h0q10⟩) hHeld ?_
              case h0q10 => (intro w hSw; (try dsimp only at hSw); go_simp; try with_reducible rfl)
              try simp only [Act.put, List.setIfInBounds_toArray, List.set_cons_zero, List.set_cons_succ]
              refine wpAnyH_take (i := 11) (oi := { dst := some 103, op := Op.indexAddr 26 (Operand.tmp 101) (Operand.tmp 102), type := 0, pos := "laws.go:346", after := #[{ on := 9, ground := Ground.data }, { on := 10, ground := Ground.data }, { on := 8, ground := Ground.guard }], guard := some (8, true) }) (v := ?v0q11) rfl (by kernel_rfl) (by kernel_rfl) (by kernel_rfl) (fun _ _ _ h => h) (Or.inl ⟨by rfl, ?h0q11⟩) hHeld ?_
              case h0q11 => (intro w hSw; (try dsimp only at hSw); go_simp; try with_reducible rfl)
              try simp only [Act.put, List.setIfInBounds_toArray, List.set_cons_zero, List.set_cons_succ]
              refine wpAnyH_take (i := 12) (oi := { dst := some 104, op := Op.fieldAddr 35 (Operand.tmp 103) 1, type := 0, pos := "laws.go:346", after := #[{ on := 11, ground := Ground.data }, { on := 8, ground := Ground.guard }], guard := some (8, true) }) (v := ?v0q12) rfl (by kernel_rfl) (by kernel_rfl) (by kernel_rfl) (fun _ _ _ h => h) (Or.inl ⟨by rfl, ?h0q12⟩) hHeld ?_
              case h0q12 => (intro w hSw; (try dsimp only at hSw); go_simp; try with_reducible rfl)
              try simp only [Act.put, List.setIfInBounds_toArray, List.set_cons_zero, List.set_cons_succ]
              refine wpAnyH_take (i := 13) (oi := { dst := some 105, op := Op.load 3 (Operand.tmp 104), type := 3, pos := "laws.go:346", after := #[{ on := 12, ground := Ground.data }, { on := 8, ground := Ground.guard }], guard := some (8, true) }) (v := ?v0q13) rfl (by kernel_rfl) (by kernel_rfl) (by kernel_rfl) (fun _ _ _ h => h) (Or.inl ⟨by rfl, ?h0q13⟩) hHeld ?_
              case h0q13 => (intro w hSw; (try dsimp only at hSw); go_simp; try with_reducible rfl)
              try simp only [Act.put, List.setIfInBounds_toArray, List.set_cons_zero, List.set_cons_succ]
              refine wpAnyH_take (i := 14) (oi := { dst := some 106, op := Op.move (Operand.tmp 7), type := 3, pos := "laws.go:346", after := #[{ on := 8, ground := Ground.guard }], guard := some (8, true) }) (v := ?v0q14) rfl (by kernel_rfl) (by kernel_rfl) (by kernel_rfl) (fun _ _ _ h => h) (Or.inl ⟨by rfl, ?h0q14⟩) hHeld ?_
              case h0q14 => (intro w hSw; (try dsimp only at hSw); go_simp; try with_reducible rfl)
              try simp only [Act.put, List.setIfInBounds_toArray, List.set_cons_zero, List.set_cons_succ]
              refine wpAnyH_take (i := 15) (oi := { dst := some 107, op := Op.binOp BinOp.geq 3 (Operand.tmp 105) (Operand.tmp 106) 3, type := 4, pos := "laws.go:346", after := #[{ on := 13, ground := Ground.data }, { on := 14, ground := Ground.data }, { on := 8, ground := Ground.guard }], guard := some (8, true) }) (v := ?v0q15) rfl (by kernel_rfl) (by kernel_rfl) (by kernel_rfl) (fun _ _ _ h => h) (Or.inl ⟨by rfl, ?h0q15⟩) hHeld ?_
              case h0q15 => (intro w hSw; (try dsimp only at hSw); go_simp; try with_reducible rfl)
              try simp only [Act.put, List.setIfInBounds_toArray, List.set_cons_zero, List.set_cons_succ]
              refine wpAnyH_take (i := 16) (oi := { dst := some 108, op := Op.pick (Operand.tmp 100) (Operand.tmp 107) (Operand.const (Value.bool false)), type := 4, pos := "laws.go:346", after := #[{ on := 8, ground := Ground.data }, { on := 15, ground := Ground.data }], guard := none }) (v := ?v0q16) rfl (by kernel_rfl) (by kernel_rfl) (by kernel_rfl) (fun _ _ _ h => h) (Or.inl ⟨by rfl, ?h0q16⟩) hHeld ?_
              case h0q16 => (intro w hSw; (try dsimp only at hSw); go_simp; try with_reducible rfl)
              try simp only [Act.put, List.setIfInBounds_toArray, List.set_cons_zero, List.set_cons_succ]
              refine wpAnyH_take (i := 17) (oi := { dst := some 109, op := Op.move (Operand.tmp 108), type := 4, pos := "laws.go:346", after := #[{ on := 16, ground := Ground.data }, { on := 8, ground := Ground.chain }], guard := none }) (v := ?v0q17) rfl (by kernel_rfl) (by kernel_rfl) (by kernel_rfl) (fun _ _ _ h => h) (Or.inl ⟨by rfl, ?h0q17⟩) hHeld ?_
              case h0q17 => (intro w hSw; (try dsimp only at hSw); go_simp; try with_reducible rfl)
              try simp only [Act.put, List.setIfInBounds_toArray, List.set_cons_zero, List.set_cons_succ]
              refine wpAnyH_take (i := 18) (oi := { dst := some 110, op := Op.move (Operand.tmp 15), type := 3, pos := "laws.go:346", after := #[{ on := 17, ground := Ground.guard }], guard := some (17, false) }) (v := ?v0q18) rfl (by kernel_rfl) (by kernel_rfl) (by kernel_rfl) (fun _ _ _ h => h) (Or.inl ⟨by rfl, ?h0q18⟩) hHeld ?_
              case h0q18 => (intro w hSw; (try dsimp only at hSw); go_simp; try with_reducible rfl)
              try simp only [Act.put, List.setIfInBounds_toArray, List.set_cons_zero, List.set_cons_succ]
              refine wpAnyH_take (i := 19) (oi := { dst := some 111, op := Op.fieldAddr 24 (Operand.tmp 5) 0, type := 0, pos := "laws.go:346", after := #[{ on := 17, ground := Ground.guard }], guard := some (17, false) }) (v := ?v0q19) rfl (by kernel_rfl) (by kernel_rfl) (by kernel_rfl) (fun _ _ _ h => h) (Or.inl ⟨by rfl, ?h0q19⟩) hHeld ?_
              case h0q19 => (intro w hSw; (try dsimp only at hSw); go_simp; try with_reducible rfl)
              try simp only [Act.put, List.setIfInBounds_toArray, List.set_cons_zero, List.set_cons_succ]
              refine wpAnyH_take (i := 20) (oi := { dst := some 112, op := Op.load 3 (Operand.tmp 111), type := 3, pos := "laws.go:346", after := #[{ on := 19, ground := Ground.data }, { on := 17, ground := Ground.guard }], guard := some (17, false) }) (v := ?v0q20) rfl (by kernel_rfl) (by kernel_rfl) (by kernel_rfl) (fun _ _ _ h => h) (Or.inl ⟨by rfl, ?h0q20⟩) hHeld ?_
              case h0q20 => (intro w hSw; (try dsimp only at hSw); go_simp; try with_reducible rfl)
              try simp only [Act.put, List.setIfInBounds_toArray, List.set_cons_zero, List.set_cons_succ]
              refine wpAnyH_take (i := 21) (oi := { dst := some 113, op := Op.binOp BinOp.neq 3 (Operand.tmp 110) (Operand.tmp 112) 3, type := 4, pos := "laws.go:346", after := #[{ on := 18, ground := Ground.data }, { on := 20, ground := Ground.data }, { on := 17, ground := Ground.guard }], guard := some (17, false) }) (v := ?v0q21) rfl (by kernel_rfl) (by kernel_rfl) (by kernel_rfl) (fun _ _ _ h => h) (Or.inl ⟨by rfl, ?h0q21⟩) hHeld ?_
              case h0q21 => (intro w hSw; (try dsimp only at hSw); go_simp; try with_reducible rfl)
              try simp only [Act.put, List.setIfInBounds_toArray, List.set_cons_zero, List.set_cons_succ]
              refine wpAnyH_take (i := 22) (oi := { dst := some 114, op := Op.move (Operand.tmp 113), type := 4, pos := "laws.go:346", after := #[{ on := 21, ground := Ground.data }, { on := 17, ground := Ground.chain }, { on := 17, ground := Ground.guard }], guard := some (17, false) }) (v := ?v0q22) rfl (by kernel_rfl) (by kernel_rfl) (by kernel_rfl) (fun _ _ _ h => h) (Or.inl ⟨by rfl, ?h0q22⟩) hHeld ?_
              case h0q22 => (intro w hSw; (try dsimp only at hSw); go_simp; try with_reducible rfl)
              try simp only [Act.put, List.setIfInBounds_toArray, List.set_cons_zero, List.set_cons_succ]
              refine wpAnyH_take (i := 23) (oi := { dst := some 115, op := Op.move (Operand.tmp 10), type := 26, pos := "laws.go:346", after := #[{ on := 22, ground := Ground.guard }], guard := some (22, true) }) (v := undef) rfl (by kernel_rfl) (by kernel_rfl) (by kernel_rfl) (fun _ _ _ h => h) (Or.inr ⟨by rfl, rfl⟩) hHeld ?_
              try simp only [Act.put, List.setIfInBounds_toArray, List.set_cons_zero, List.set_cons_succ]
              refine wpAnyH_take (i := 24) (oi := { dst := some 116, op := Op.move (Operand.tmp 15), type := 3, pos := "laws.go:346", after := #[{ on := 22, ground := Ground.guard }], guard := some (22, true) }) (v := undef) rfl (by kernel_rfl) (by kernel_rfl) (by kernel_rfl) (fun _ _ _ h => h) (Or.inr ⟨by rfl, rfl⟩) hHeld ?_
              try simp only [Act.put, List.setIfInBounds_toArray, List.set_cons_zero, List.set_cons_succ]
              refine wpAnyH_take (i := 25) (oi := { dst := some 117, op := Op.indexAddr 26 (Operand.tmp 115) (Operand.tmp 116), type := 0, pos := "laws.go:346", after := #[{ on := 23, ground := Ground.data }, { on := 24, ground := Ground.data }, { on := 22, ground := Ground.guard }], guard := some (22, true) }) (v := undef) rfl (by kernel_rfl) (by kernel_rfl) (by kernel_rfl) (fun _ _ _ h => h) (Or.inr ⟨by rfl, rfl⟩) hHeld ?_
              try simp only [Act.put, List.setIfInBounds_toArray, List.set_cons_zero, List.set_cons_succ]
              refine wpAnyH_take (i := 26) (oi := { dst := some 118, op := Op.load 35 (Operand.tmp 117), type := 35, pos := "laws.go:346", after := #[{ on := 25, ground := Ground.data }, { on := 22, ground := Ground.guard }], guard := some (22, true) }) (v := undef) rfl (by kernel_rfl) (by kernel_rfl) (by kernel_rfl) (fun _ _ _ h => h) (Or.inr ⟨by rfl, rfl⟩) hHeld ?_
              try simp only [Act.put, List.setIfInBounds_toArray, List.set_cons_zero, List.set_cons_succ]
              refine wpAnyH_take (i := 27) (oi := { dst := some 119, op := Op.move (Operand.tmp 6), type := 26, pos := "laws.go:346", after := #[{ on := 22, ground := Ground.guard }], guard := some (22, true) }) (v := undef) rfl (by kernel_rfl) (by kernel_rfl) (by kernel_rfl) (fun _ _ _ h => h) (Or.inr ⟨by rfl, rfl⟩) hHeld ?_
              try simp only [Act.put, List.setIfInBounds_toArray, List.set_cons_zero, List.set_cons_succ]
              refine wpAnyH_take (i := 28) (oi := { dst := some 120, op := Op.move (Operand.tmp 15), type := 3, pos := "laws.go:346", after := #[{ on := 22, ground := Ground.guard }], guard := some (22, true) }) (v := undef) rfl (by kernel_rfl) (by kernel_rfl) (by kernel_rfl) (fun _ _ _ h => h) (Or.inr ⟨by rfl, rfl⟩) hHeld ?_
              try simp only [Act.put, List.setIfInBounds_toArray, List.set_cons_zero, List.set_cons_succ]
              refine wpAnyH_take (i := 29) (oi := { dst := some 121, op := Op.indexAddr 26 (Operand.tmp 119) (Operand.tmp 120), type := 0, pos := "laws.go:346", after := #[{ on := 27, ground := Ground.data }, { on := 28, ground := Ground.data }, { on := 22, ground := Ground.guard }], guard := some (22, true) }) (v := undef) rfl (by kernel_rfl) (by kernel_rfl) (by kernel_rfl) (fun _ _ _ h => h) (Or.inr ⟨by rfl, rfl⟩) hHeld ?_
              try simp only [Act.put, List.setIfInBounds_toArray, List.set_cons_zero, List.set_cons_succ]
              refine wpAnyH_take (i := 30) (oi := { dst := some 122, op := Op.load 35 (Operand.tmp 121), type := 35, pos := "laws.go:346", after := #[{ on := 29, ground := Ground.data }, { on := 22, ground := Ground.guard }], guard := some (22, true) }) (v := undef) rfl (by kernel_rfl) (by kernel_rfl) (by kernel_rfl) (fun _ _ _ h => h) (Or.inr ⟨by rfl, rfl⟩) hHeld ?_
              try simp only [Act.put, List.setIfInBounds_toArray, List.set_cons_zero, List.set_cons_succ]
              refine wpAnyH_take (i := 31) (oi := { dst := some 123, op := Op.binOp BinOp.neq 35 (Operand.tmp 118) (Operand.tmp 122) 35, type := 4, pos := "laws.go:346", after := #[{ on := 26, ground := Ground.data }, { on := 30, ground := Ground.data }, { on := 22, ground := Ground.guard }], guard := some (22, true) }) (v := undef) rfl (by kernel_rfl) (by kernel_rfl) (by kernel_rfl) (fun _ _ _ h => h) (Or.inr ⟨by rfl, rfl⟩) hHeld ?_
              try simp only [Act.put, List.setIfInBounds_toArray, List.set_cons_zero, List.set_cons_succ]
              refine wpAnyH_take (i := 32) (oi := { dst := some 124, op := Op.pick (Operand.tmp 114) (Operand.tmp 123) (Operand.const (Value.bool false)), type := 4, pos := "laws.go:346", after := #[{ on := 22, ground := Ground.data }, { on := 31, ground := Ground.data }, { on := 17, ground := Ground.guard }], guard := some (17, false) }) (v := ?v0q32) rfl (by kernel_rfl) (by kernel_rfl) (by kernel_rfl) (fun _ _ _ h => h) (Or.inl ⟨by rfl, ?h0q32⟩) hHeld ?_
              case h0q32 => (intro w hSw; (try dsimp only at hSw); go_simp; try with_reducible rfl)
              try simp only [Act.put, List.setIfInBounds_toArray, List.set_cons_zero, List.set_cons_succ]
              refine wpAnyH_take (i := 33) (oi := { dst := some 125, op := Op.pick (Operand.tmp 109) (Operand.const (Value.bool true)) (Operand.tmp 124), type := 4, pos := "laws.go:346", after := #[{ on := 17, ground := Ground.data }, { on := 32, ground := Ground.data }], guard := none }) (v := ?v0q33) rfl (by kernel_rfl) (by kernel_rfl) (by kernel_rfl) (fun _ _ _ h => h) (Or.inl ⟨by rfl, ?h0q33⟩) hHeld ?_
              case h0q33 => (intro w hSw; (try dsimp only at hSw); go_simp; try with_reducible rfl)
              try simp only [Act.put, List.setIfInBounds_toArray, List.set_cons_zero, List.set_cons_succ]
              refine wpAnyH_take (i := 34) (oi := { dst := some 126, op := Op.move (Operand.tmp 125), type := 4, pos := "laws.go:346", after := #[{ on := 33, ground := Ground.data }, { on := 22, ground := Ground.chain }], guard := none }) (v := ?v0q34) rfl (by kernel_rfl) (by kernel_rfl) (by kernel_rfl) (fun _ _ _ h => h) (Or.inl ⟨by rfl, ?h0q34⟩) hHeld ?_
              case h0q34 => (intro w hSw; (try dsimp only at hSw); go_simp; try with_reducible rfl)
              try simp only [Act.put, List.setIfInBounds_toArray, List.set_cons_zero, List.set_cons_succ]
              refine wpAnyH_take (i := 35) (oi := { dst := some 127, op := Op.move (Operand.tmp 10), type := 26, pos := "laws.go:346", after := #[{ on := 34, ground := Ground.guard }], guard := some (34, false) }) (v := ?v0q35) rfl (by kernel_rfl) (by kernel_rfl) (by kernel_rfl) (fun _ _ _ h => h) (Or.inl ⟨by rfl, ?h0q35⟩) hHeld ?_
              case h0q35 => (intro w hSw; (try dsimp only at hSw); go_simp; try with_reducible rfl)
              try simp only [Act.put, List.setIfInBounds_toArray, List.set_cons_zero, List.set_cons_succ]
              refine wpAnyH_take (i := 36) (oi := { dst := some 128, op := Op.move (Operand.tmp 15), type := 3, pos := "laws.go:346", after := #[{ on := 34, ground := Ground.guard }], guard := some (34, false) }) (v := ?v0q36) rfl (by kernel_rfl) (by kernel_rfl) (by kernel_rfl) (fun _ _ _ h => h) (Or.inl ⟨by rfl, ?h0q36⟩) hHeld ?_
              case h0q36 => (intro w hSw; (try dsimp only at hSw); go_simp; try with_reducible rfl)
              try simp only [Act.put, List.setIfInBounds_toArray, List.set_cons_zero, List.set_cons_succ]
              refine wpAnyH_take (i := 37) (oi := { dst := some 129, op := Op.indexAddr 26 (Operand.tmp 127) (Operand.tmp 128), type := 0, pos := "laws.go:346", after := #[{ on := 35, ground := Ground.data }, { on := 36, ground := Ground.data }, { on := 34, ground := Ground.guard }], guard := some (34, false) }) (v := ?v0q37) rfl (by kernel_rfl) (by kernel_rfl) (by kernel_rfl) (fun _ _ _ h => h) (Or.inl ⟨by rfl, ?h0q37⟩) hHeld ?_
              case h0q37 => (intro w hSw; (try dsimp only at hSw); go_simp; try with_reducible rfl)
              try simp only [Act.put, List.setIfInBounds_toArray, List.set_cons_zero, List.set_cons_succ]
              refine wpAnyH_take (i := 38) (oi := { dst := some 130, op := Op.load 35 (Operand.tmp 129), type := 35, pos := "laws.go:346", after := #[{ on := 37, ground := Ground.data }, { on := 34, ground := Ground.guard }], guard := some (34, false) }) (v := ?v0q38) rfl (by kernel_rfl) (by kernel_rfl) (by kernel_rfl) (fun _ _ _ h => h) (Or.inl ⟨by rfl, ?h0q38⟩) hHeld ?_
              case h0q38 => (intro w hSw; (try dsimp only at hSw); go_simp; try with_reducible rfl)
              try simp only [Act.put, List.setIfInBounds_toArray, List.set_cons_zero, List.set_cons_succ]
              refine wpAnyH_ready (rs := [39]) (by kernel_rfl) (by simp) ?_
              refine AllReadyH.cons (o := { dst := some 131, op := Op.call { callee := Callee.value (Operand.func 13), args := #[Operand.tmp 130], argTypes := #[35] }, type := 4, pos := "laws.go:346", after := #[{ on := 38, ground := Ground.data }, { on := 34, ground := Ground.chain }, { on := 34, ground := Ground.guard }], guard := some (34, false) }) rfl (fun K hK => ?_) AllReadyH.nil
              go_simp
              refine (blockOK_impl y _).mono ?_
              rintro e w8 ⟨rfl, hb8⟩
              rw [unhide HYB]
              have HB8 := hide (fr (Below.refl _ wr).drew hb8)
              clear hb8
              have m0 := ((unhide HB8).cell (p := ⟨P, 0, none⟩) hPl).trans c0
              have m1 := ((unhide HB8).cell (p := ⟨P, 1, none⟩) hPl).trans c1
              have m2 := ((unhide HB8).cell (p := ⟨g, k * 4, none⟩) hgl).trans x0
              have m3 := ((unhide HB8).cell (p := ⟨g, k * 4 + 1, none⟩) hgl).trans x1
              have m4 := ((unhide HB8).cell (p := ⟨g, k * 4 + 2, none⟩) hgl).trans x2
              have m5 := ((unhide HB8).cell (p := ⟨g, k * 4 + 3, none⟩) hgl).trans x3
              have m6 := ((unhide HB8).cell (p := ⟨yb, yo + k * 4, none⟩) hyl).trans y0
              have m7 := ((unhide HB8).cell (p := ⟨yb, yo + k * 4 + 1, none⟩) hyl).trans y1
              have m8 := ((unhide HB8).cell (p := ⟨yb, yo + k * 4 + 2, none⟩) hyl).trans y2
              have m9 := ((unhide HB8).cell (p := ⟨yb, yo + k * 4 + 3, none⟩) hyl).trans y3
              go_wp2_with fail
              refine hK.out _ _ ?kB0 (fun hHeld2 => ?_)
              case kB0 => ((try dsimp only); go_keep)
              clear hK K hHeld
              try simp only [Act.put, List.setIfInBounds_toArray, List.set_cons_zero, List.set_cons_succ]
              refine wpAnyH_take (i := 40) (oi := { dst := some 132, op := Op.unOp UnOp.not 4 (Operand.tmp 131), type := 4, pos := "laws.go:346", after := #[{ on := 39, ground := Ground.data }, { on := 34, ground := Ground.guard }], guard := some (34, false) }) (v := ?v0q40) rfl (by kernel_rfl) (by kernel_rfl) (by kernel_rfl) (fun _ _ _ h => h) (Or.inl ⟨by rfl, ?h0q40⟩) hHeld2 ?_
              case h0q40 => (intro w hSw; (try dsimp only at hSw); go_simp; try with_reducible rfl)
              try simp only [Act.put, List.setIfInBounds_toArray, List.set_cons_zero, List.set_cons_succ]
              refine wpAnyH_take (i := 41) (oi := { dst := some 133, op := Op.pick (Operand.tmp 126) (Operand.const (Value.bool true)) (Operand.tmp 132), type := 4, pos := "laws.go:346", after := #[{ on := 34, ground := Ground.data }, { on := 40, ground := Ground.data }], guard := none }) (v := ?v0q41) rfl (by kernel_rfl) (by kernel_rfl) (by kernel_rfl) (fun _ _ _ h => h) (Or.inl ⟨by rfl, ?h0q41⟩) hHeld2 ?_
              case h0q41 => (intro w hSw; (try dsimp only at hSw); go_simp; try with_reducible rfl)
              try simp only [Act.put, List.setIfInBounds_toArray, List.set_cons_zero, List.set_cons_succ]
              refine wpAnyH_take (i := 42) (oi := { dst := some 134, op := Op.move (Operand.tmp 133), type := 4, pos := "laws.go:346", after := #[{ on := 41, ground := Ground.data }, { on := 39, ground := Ground.chain }], guard := none }) (v := ?v0q42) rfl (by kernel_rfl) (by kernel_rfl) (by kernel_rfl) (fun _ _ _ h => h) (Or.inl ⟨by rfl, ?h0q42⟩) hHeld2 ?_
              case h0q42 => (intro w hSw; (try dsimp only at hSw); go_simp; try with_reducible rfl)
              try simp only [Act.put, List.setIfInBounds_toArray, List.set_cons_zero, List.set_cons_succ]
              refine wpAnyH_take (i := 43) (oi := { dst := some 135, op := Op.move (Operand.tmp 10), type := 26, pos := "laws.go:346", after := #[{ on := 42, ground := Ground.guard }], guard := some (42, false) }) (v := ?v0q43) rfl (by kernel_rfl) (by kernel_rfl) (by kernel_rfl) (fun _ _ _ h => h) (Or.inl ⟨by rfl, ?h0q43⟩) hHeld2 ?_
              case h0q43 => (intro w hSw; (try dsimp only at hSw); go_simp; try with_reducible rfl)
              try simp only [Act.put, List.setIfInBounds_toArray, List.set_cons_zero, List.set_cons_succ]
              refine wpAnyH_take (i := 44) (oi := { dst := some 136, op := Op.move (Operand.tmp 15), type := 3, pos := "laws.go:346", after := #[{ on := 42, ground := Ground.guard }], guard := some (42, false) }) (v := ?v0q44) rfl (by kernel_rfl) (by kernel_rfl) (by kernel_rfl) (fun _ _ _ h => h) (Or.inl ⟨by rfl, ?h0q44⟩) hHeld2 ?_
              case h0q44 => (intro w hSw; (try dsimp only at hSw); go_simp; try with_reducible rfl)
              try simp only [Act.put, List.setIfInBounds_toArray, List.set_cons_zero, List.set_cons_succ]
              refine wpAnyH_take (i := 45) (oi := { dst := some 137, op := Op.indexAddr 26 (Operand.tmp 135) (Operand.tmp 136), type := 0, pos := "laws.go:346", after := #[{ on := 43, ground := Ground.data }, { on := 44, ground := Ground.data }, { on := 42, ground := Ground.guard }], guard := some (42, false) }) (v := ?v0q45) rfl (by kernel_rfl) (by kernel_rfl) (by kernel_rfl) (fun _ _ _ h => h) (Or.inl ⟨by rfl, ?h0q45⟩) hHeld2 ?_
              case h0q45 => (intro w hSw; (try dsimp only at hSw); go_simp; try with_reducible rfl)
              try simp only [Act.put, List.setIfInBounds_toArray, List.set_cons_zero, List.set_cons_succ]
              refine wpAnyH_take (i := 46) (oi := { dst := some 138, op := Op.fieldAddr 35 (Operand.tmp 137) 0, type := 0, pos := "laws.go:346", after := #[{ on := 45, ground := Ground.data }, { on := 42, ground := Ground.guard }], guard := some (42, false) }) (v := ?v0q46) rfl (by kernel_rfl) (by kernel_rfl) (by kernel_rfl) (fun _ _ _ h => h) (Or.inl ⟨by rfl, ?h0q46⟩) hHeld2 ?_
              case h0q46 => (intro w hSw; (try dsimp only at hSw); go_simp; try with_reducible rfl)
              try simp only [Act.put, List.setIfInBounds_toArray, List.set_cons_zero, List.set_cons_succ]
              refine wpAnyH_take (i := 47) (oi := { dst := some 139, op := Op.load 3 (Operand.tmp 138), type := 3, pos := "laws.go:346", after := #[{ on := 46, ground := Ground.data }, { on := 42, ground := Ground.guard }], guard := some (42, false) }) (v := ?v0q47) rfl (by kernel_rfl) (by kernel_rfl) (by kernel_rfl) (fun _ _ _ h => h) (Or.inl ⟨by rfl, ?h0q47⟩) hHeld2 ?_
              case h0q47 => (intro w hSw; (try dsimp only at hSw); go_simp; try with_reducible rfl)
              try simp only [Act.put, List.setIfInBounds_toArray, List.set_cons_zero, List.set_cons_succ]
              refine wpAnyH_take (i := 48) (oi := { dst := some 140, op := Op.move (Operand.tmp 6), type := 26, pos := "laws.go:346", after := #[{ on := 42, ground := Ground.guard }], guard := some (42, false) }) (v := ?v0q48) rfl (by kernel_rfl) (by kernel_rfl) (by kernel_rfl) (fun _ _ _ h => h) (Or.inl ⟨by rfl, ?h0q48⟩) hHeld2 ?_
              case h0q48 => (intro w hSw; (try dsimp only at hSw); go_simp; try with_reducible rfl)
              try simp only [Act.put, List.setIfInBounds_toArray, List.set_cons_zero, List.set_cons_succ]
              refine wpAnyH_take (i := 49) (oi := { dst := some 141, op := Op.move (Operand.tmp 15), type := 3, pos := "laws.go:346", after := #[{ on := 42, ground := Ground.guard }], guard := some (42, false) }) (v := ?v0q49) rfl (by kernel_rfl) (by kernel_rfl) (by kernel_rfl) (fun _ _ _ h => h) (Or.inl ⟨by rfl, ?h0q49⟩) hHeld2 ?_
              case h0q49 => (intro w hSw; (try dsimp only at hSw); go_simp; try with_reducible rfl)
              try simp only [Act.put, List.setIfInBounds_toArray, List.set_cons_zero, List.set_cons_succ]
              refine wpAnyH_take (i := 50) (oi := { dst := some 142, op := Op.indexAddr 26 (Operand.tmp 140) (Operand.tmp 141), type := 0, pos := "laws.go:346", after := #[{ on := 48, ground := Ground.data }, { on := 49, ground := Ground.data }, { on := 42, ground := Ground.guard }], guard := some (42, false) }) (v := ?v0q50) rfl (by kernel_rfl) (by kernel_rfl) (by kernel_rfl) (fun _ _ _ h => h) (Or.inl ⟨by rfl, ?h0q50⟩) hHeld2 ?_
              case h0q50 => (intro w hSw; (try dsimp only at hSw); go_simp; try with_reducible rfl)
              try simp only [Act.put, List.setIfInBounds_toArray, List.set_cons_zero, List.set_cons_succ]
              refine wpAnyH_take (i := 51) (oi := { dst := some 143, op := Op.fieldAddr 35 (Operand.tmp 142) 0, type := 0, pos := "laws.go:346", after := #[{ on := 50, ground := Ground.data }, { on := 42, ground := Ground.guard }], guard := some (42, false) }) (v := ?v0q51) rfl (by kernel_rfl) (by kernel_rfl) (by kernel_rfl) (fun _ _ _ h => h) (Or.inl ⟨by rfl, ?h0q51⟩) hHeld2 ?_
              case h0q51 => (intro w hSw; (try dsimp only at hSw); go_simp; try with_reducible rfl)
              try simp only [Act.put, List.setIfInBounds_toArray, List.set_cons_zero, List.set_cons_succ]
              refine wpAnyH_take (i := 52) (oi := { dst := some 144, op := Op.load 3 (Operand.tmp 143), type := 3, pos := "laws.go:346", after := #[{ on := 51, ground := Ground.data }, { on := 42, ground := Ground.guard }], guard := some (42, false) }) (v := ?v0q52) rfl (by kernel_rfl) (by kernel_rfl) (by kernel_rfl) (fun _ _ _ h => h) (Or.inl ⟨by rfl, ?h0q52⟩) hHeld2 ?_
              case h0q52 => (intro w hSw; (try dsimp only at hSw); go_simp; try with_reducible rfl)
              try simp only [Act.put, List.setIfInBounds_toArray, List.set_cons_zero, List.set_cons_succ]
              refine wpAnyH_take (i := 53) (oi := { dst := some 145, op := Op.binOp BinOp.eql 3 (Operand.tmp 139) (Operand.tmp 144) 3, type := 4, pos := "laws.go:346", after := #[{ on := 47, ground := Ground.data }, { on := 52, ground := Ground.data }, { on := 42, ground := Ground.guard }], guard := some (42, false) }) (v := ?v0q53) rfl (by kernel_rfl) (by kernel_rfl) (by kernel_rfl) (fun _ _ _ h => h) (Or.inl ⟨by rfl, ?h0q53⟩) hHeld2 ?_
              case h0q53 => (intro w hSw; (try dsimp only at hSw); go_simp; try with_reducible rfl)
              try simp only [Act.put, List.setIfInBounds_toArray, List.set_cons_zero, List.set_cons_succ]
              refine wpAnyH_take (i := 54) (oi := { dst := some 146, op := Op.move (Operand.tmp 145), type := 4, pos := "laws.go:346", after := #[{ on := 53, ground := Ground.data }, { on := 42, ground := Ground.chain }, { on := 42, ground := Ground.guard }], guard := some (42, false) }) (v := ?v0q54) rfl (by kernel_rfl) (by kernel_rfl) (by kernel_rfl) (fun _ _ _ h => h) (Or.inl ⟨by rfl, ?h0q54⟩) hHeld2 ?_
              case h0q54 => (intro w hSw; (try dsimp only at hSw); go_simp; try with_reducible rfl)
              try simp only [Act.put, List.setIfInBounds_toArray, List.set_cons_zero, List.set_cons_succ]
              refine wpAnyH_take (i := 55) (oi := { dst := some 147, op := Op.move (Operand.tmp 10), type := 26, pos := "laws.go:346", after := #[{ on := 54, ground := Ground.guard }], guard := some (54, true) }) (v := ?v0q55) rfl (by kernel_rfl) (by kernel_rfl) (by kernel_rfl) (fun _ _ _ h => h) (Or.inl ⟨by rfl, ?h0q55⟩) hHeld2 ?_
              case h0q55 => (intro w hSw; (try dsimp only at hSw); go_simp; try with_reducible rfl)
              try simp only [Act.put, List.setIfInBounds_toArray, List.set_cons_zero, List.set_cons_succ]
              refine wpAnyH_take (i := 56) (oi := { dst := some 148, op := Op.move (Operand.tmp 15), type := 3, pos := "laws.go:346", after := #[{ on := 54, ground := Ground.guard }], guard := some (54, true) }) (v := ?v0q56) rfl (by kernel_rfl) (by kernel_rfl) (by kernel_rfl) (fun _ _ _ h => h) (Or.inl ⟨by rfl, ?h0q56⟩) hHeld2 ?_
              case h0q56 => (intro w hSw; (try dsimp only at hSw); go_simp; try with_reducible rfl)
              try simp only [Act.put, List.setIfInBounds_toArray, List.set_cons_zero, List.set_cons_succ]
              refine wpAnyH_take (i := 57) (oi := { dst := some 149, op := Op.indexAddr 26 (Operand.tmp 147) (Operand.tmp 148), type := 0, pos := "laws.go:346", after := #[{ on := 55, ground := Ground.data }, { on := 56, ground := Ground.data }, { on := 54, ground := Ground.guard }], guard := some (54, true) }) (v := ?v0q57) rfl (by kernel_rfl) (by kernel_rfl) (by kernel_rfl) (fun _ _ _ h => h) (Or.inl ⟨by rfl, ?h0q57⟩) hHeld2 ?_
              case h0q57 => (intro w hSw; (try dsimp only at hSw); go_simp; try with_reducible rfl)
              try simp only [Act.put, List.setIfInBounds_toArray, List.set_cons_zero, List.set_cons_succ]
              refine wpAnyH_take (i := 58) (oi := { dst := some 150, op := Op.fieldAddr 35 (Operand.tmp 149) 1, type := 0, pos := "laws.go:346", after := #[{ on := 57, ground := Ground.data }, { on := 54, ground := Ground.guard }], guard := some (54, true) }) (v := ?v0q58) rfl (by kernel_rfl) (by kernel_rfl) (by kernel_rfl) (fun _ _ _ h => h) (Or.inl ⟨by rfl, ?h0q58⟩) hHeld2 ?_
              case h0q58 => (intro w hSw; (try dsimp only at hSw); go_simp; try with_reducible rfl)
              try simp only [Act.put, List.setIfInBounds_toArray, List.set_cons_zero, List.set_cons_succ]
              refine wpAnyH_take (i := 59) (oi := { dst := some 151, op := Op.load 3 (Operand.tmp 150), type := 3, pos := "laws.go:346", after := #[{ on := 58, ground := Ground.data }, { on := 54, ground := Ground.guard }], guard := some (54, true) }) (v := ?v0q59) rfl (by kernel_rfl) (by kernel_rfl) (by kernel_rfl) (fun _ _ _ h => h) (Or.inl ⟨by rfl, ?h0q59⟩) hHeld2 ?_
              case h0q59 => (intro w hSw; (try dsimp only at hSw); go_simp; try with_reducible rfl)
              try simp only [Act.put, List.setIfInBounds_toArray, List.set_cons_zero, List.set_cons_succ]
              refine wpAnyH_take (i := 60) (oi := { dst := some 152, op := Op.move (Operand.tmp 6), type := 26, pos := "laws.go:346", after := #[{ on := 54, ground := Ground.guard }], guard := some (54, true) }) (v := ?v0q60) rfl (by kernel_rfl) (by kernel_rfl) (by kernel_rfl) (fun _ _ _ h => h) (Or.inl ⟨by rfl, ?h0q60⟩) hHeld2 ?_
              case h0q60 => (intro w hSw; (try dsimp only at hSw); go_simp; try with_reducible rfl)
              try simp only [Act.put, List.setIfInBounds_toArray, List.set_cons_zero, List.set_cons_succ]
              refine wpAnyH_take (i := 61) (oi := { dst := some 153, op := Op.move (Operand.tmp 15), type := 3, pos := "laws.go:346", after := #[{ on := 54, ground := Ground.guard }], guard := some (54, true) }) (v := ?v0q61) rfl (by kernel_rfl) (by kernel_rfl) (by kernel_rfl) (fun _ _ _ h => h) (Or.inl ⟨by rfl, ?h0q61⟩) hHeld2 ?_
              case h0q61 => (intro w hSw; (try dsimp only at hSw); go_simp; try with_reducible rfl)
              try simp only [Act.put, List.setIfInBounds_toArray, List.set_cons_zero, List.set_cons_succ]
              refine wpAnyH_take (i := 62) (oi := { dst := some 154, op := Op.indexAddr 26 (Operand.tmp 152) (Operand.tmp 153), type := 0, pos := "laws.go:346", after := #[{ on := 60, ground := Ground.data }, { on := 61, ground := Ground.data }, { on := 54, ground := Ground.guard }], guard := some (54, true) }) (v := ?v0q62) rfl (by kernel_rfl) (by kernel_rfl) (by kernel_rfl) (fun _ _ _ h => h) (Or.inl ⟨by rfl, ?h0q62⟩) hHeld2 ?_
              case h0q62 => (intro w hSw; (try dsimp only at hSw); go_simp; try with_reducible rfl)
              try simp only [Act.put, List.setIfInBounds_toArray, List.set_cons_zero, List.set_cons_succ]
              refine wpAnyH_take (i := 63) (oi := { dst := some 155, op := Op.fieldAddr 35 (Operand.tmp 154) 1, type := 0, pos := "laws.go:346", after := #[{ on := 62, ground := Ground.data }, { on := 54, ground := Ground.guard }], guard := some (54, true) }) (v := ?v0q63) rfl (by kernel_rfl) (by kernel_rfl) (by kernel_rfl) (fun _ _ _ h => h) (Or.inl ⟨by rfl, ?h0q63⟩) hHeld2 ?_
              case h0q63 => (intro w hSw; (try dsimp only at hSw); go_simp; try with_reducible rfl)
              try simp only [Act.put, List.setIfInBounds_toArray, List.set_cons_zero, List.set_cons_succ]
              refine wpAnyH_take (i := 64) (oi := { dst := some 156, op := Op.load 3 (Operand.tmp 155), type := 3, pos := "laws.go:346", after := #[{ on := 63, ground := Ground.data }, { on := 54, ground := Ground.guard }], guard := some (54, true) }) (v := ?v0q64) rfl (by kernel_rfl) (by kernel_rfl) (by kernel_rfl) (fun _ _ _ h => h) (Or.inl ⟨by rfl, ?h0q64⟩) hHeld2 ?_
              case h0q64 => (intro w hSw; (try dsimp only at hSw); go_simp; try with_reducible rfl)
              try simp only [Act.put, List.setIfInBounds_toArray, List.set_cons_zero, List.set_cons_succ]
              refine wpAnyH_take (i := 65) (oi := { dst := some 157, op := Op.binOp BinOp.lss 3 (Operand.tmp 151) (Operand.tmp 156) 3, type := 4, pos := "laws.go:346", after := #[{ on := 59, ground := Ground.data }, { on := 64, ground := Ground.data }, { on := 54, ground := Ground.guard }], guard := some (54, true) }) (v := ?v0q65) rfl (by kernel_rfl) (by kernel_rfl) (by kernel_rfl) (fun _ _ _ h => h) (Or.inl ⟨by rfl, ?h0q65⟩) hHeld2 ?_
              case h0q65 => (intro w hSw; (try dsimp only at hSw); go_simp; try with_reducible rfl)
              try simp only [Act.put, List.setIfInBounds_toArray, List.set_cons_zero, List.set_cons_succ]
              refine wpAnyH_take (i := 66) (oi := { dst := some 158, op := Op.pick (Operand.tmp 146) (Operand.tmp 157) (Operand.const (Value.bool false)), type := 4, pos := "laws.go:346", after := #[{ on := 54, ground := Ground.data }, { on := 65, ground := Ground.data }, { on := 42, ground := Ground.guard }], guard := some (42, false) }) (v := ?v0q66) rfl (by kernel_rfl) (by kernel_rfl) (by kernel_rfl) (fun _ _ _ h => h) (Or.inl ⟨by rfl, ?h0q66⟩) hHeld2 ?_
              case h0q66 => (intro w hSw; (try dsimp only at hSw); go_simp; try with_reducible rfl)
              try simp only [Act.put, List.setIfInBounds_toArray, List.set_cons_zero, List.set_cons_succ]
              refine wpAnyH_take (i := 67) (oi := { dst := some 159, op := Op.pick (Operand.tmp 134) (Operand.const (Value.bool true)) (Operand.tmp 158), type := 4, pos := "laws.go:346", after := #[{ on := 42, ground := Ground.data }, { on := 66, ground := Ground.data }], guard := none }) (v := ?v0q67) rfl (by kernel_rfl) (by kernel_rfl) (by kernel_rfl) (fun _ _ _ h => h) (Or.inl ⟨by rfl, ?h0q67⟩) hHeld2 ?_
              case h0q67 => (intro w hSw; (try dsimp only at hSw); go_simp; try with_reducible rfl)
              try simp only [Act.put, List.setIfInBounds_toArray, List.set_cons_zero, List.set_cons_succ]
              refine wpAnyH_done (by kernel_rfl) ?_ _
              go_wp2_with fail
              go_meet
              first | exact ⟨rfl, hide (fr (unhide HB) (unhide HB8))⟩ | exact ⟨congrArg Value.bool (decide_eq_false (by first | exact hm2 | exact Int.not_lt.2 hm2)), hide (fr (unhide HB) (unhide HB8))⟩
            · have bm : (y.ver == x.ver) = false := by simp [hm]
              clear hm
              refine wp_region_held_drew (S := (fun w' => w'.cell? ⟨P, 0, none⟩ = some (.int .i64 p.host) ∧ w'.cell? ⟨P, 1, none⟩ = some (.int .i64 p.ver) ∧ w'.cell? ⟨g, k * 4, none⟩ = some (.int .i64 x.ver) ∧ w'.cell? ⟨g, k * 4 + 1, none⟩ = some (.int .i64 x.mbal) ∧ w'.cell? ⟨g, k * 4 + 2, none⟩ = some (.int .i64 x.bal) ∧ w'.cell? ⟨g, k * 4 + 3, none⟩ = some (.int .i64 x.inp) ∧ w'.cell? ⟨yb, yo + k * 4, none⟩ = some (.int .i64 y.ver) ∧ w'.cell? ⟨yb, yo + k * 4 + 1, none⟩ = some (.int .i64 y.mbal) ∧ w'.cell? ⟨yb, yo + k * 4 + 2, none⟩ = some (.int .i64 y.bal) ∧ w'.cell? ⟨yb, yo + k * 4 + 3, none⟩ = some (.int .i64 y.inp))) (by kernel_rfl) ?kA1 (fun hHeld => ?_)
              case kA1 => ((try dsimp only); go_keep)
              refine wpAnyH_take (i := 0) (oi := { dst := some 92, op := Op.move (Operand.tmp 6), type := 26, pos := "laws.go:346", after := #[], guard := none }) (v := ?v1q0) rfl (by kernel_rfl) (by kernel_rfl) (by kernel_rfl) (fun _ _ _ h => h) (Or.inl ⟨by rfl, ?h1q0⟩) hHeld ?_
              case h1q0 => (intro w hSw; (try dsimp only at hSw); go_simp; try with_reducible rfl)
              try simp only [Act.put, List.setIfInBounds_toArray, List.set_cons_zero, List.set_cons_succ]
              refine wpAnyH_take (i := 1) (oi := { dst := some 93, op := Op.move (Operand.tmp 15), type := 3, pos := "laws.go:346", after := #[], guard := none }) (v := ?v1q1) rfl (by kernel_rfl) (by kernel_rfl) (by kernel_rfl) (fun _ _ _ h => h) (Or.inl ⟨by rfl, ?h1q1⟩) hHeld ?_
              case h1q1 => (intro w hSw; (try dsimp only at hSw); go_simp; try with_reducible rfl)
              try simp only [Act.put, List.setIfInBounds_toArray, List.set_cons_zero, List.set_cons_succ]
              refine wpAnyH_take (i := 2) (oi := { dst := some 94, op := Op.indexAddr 26 (Operand.tmp 92) (Operand.tmp 93), type := 0, pos := "laws.go:346", after := #[{ on := 0, ground := Ground.data }, { on := 1, ground := Ground.data }], guard := none }) (v := ?v1q2) rfl (by kernel_rfl) (by kernel_rfl) (by kernel_rfl) (fun _ _ _ h => h) (Or.inl ⟨by rfl, ?h1q2⟩) hHeld ?_
              case h1q2 => (intro w hSw; (try dsimp only at hSw); go_simp; try with_reducible rfl)
              try simp only [Act.put, List.setIfInBounds_toArray, List.set_cons_zero, List.set_cons_succ]
              refine wpAnyH_take (i := 3) (oi := { dst := some 95, op := Op.fieldAddr 35 (Operand.tmp 94) 0, type := 0, pos := "laws.go:346", after := #[{ on := 2, ground := Ground.data }], guard := none }) (v := ?v1q3) rfl (by kernel_rfl) (by kernel_rfl) (by kernel_rfl) (fun _ _ _ h => h) (Or.inl ⟨by rfl, ?h1q3⟩) hHeld ?_
              case h1q3 => (intro w hSw; (try dsimp only at hSw); go_simp; try with_reducible rfl)
              try simp only [Act.put, List.setIfInBounds_toArray, List.set_cons_zero, List.set_cons_succ]
              refine wpAnyH_take (i := 4) (oi := { dst := some 96, op := Op.load 3 (Operand.tmp 95), type := 3, pos := "laws.go:346", after := #[{ on := 3, ground := Ground.data }], guard := none }) (v := ?v1q4) rfl (by kernel_rfl) (by kernel_rfl) (by kernel_rfl) (fun _ _ _ h => h) (Or.inl ⟨by rfl, ?h1q4⟩) hHeld ?_
              case h1q4 => (intro w hSw; (try dsimp only at hSw); go_simp; try with_reducible rfl)
              try simp only [Act.put, List.setIfInBounds_toArray, List.set_cons_zero, List.set_cons_succ]
              refine wpAnyH_take (i := 5) (oi := { dst := some 97, op := Op.fieldAddr 24 (Operand.tmp 5) 1, type := 0, pos := "laws.go:346", after := #[], guard := none }) (v := ?v1q5) rfl (by kernel_rfl) (by kernel_rfl) (by kernel_rfl) (fun _ _ _ h => h) (Or.inl ⟨by rfl, ?h1q5⟩) hHeld ?_
              case h1q5 => (intro w hSw; (try dsimp only at hSw); go_simp; try with_reducible rfl)
              try simp only [Act.put, List.setIfInBounds_toArray, List.set_cons_zero, List.set_cons_succ]
              refine wpAnyH_take (i := 6) (oi := { dst := some 98, op := Op.load 3 (Operand.tmp 97), type := 3, pos := "laws.go:346", after := #[{ on := 5, ground := Ground.data }], guard := none }) (v := ?v1q6) rfl (by kernel_rfl) (by kernel_rfl) (by kernel_rfl) (fun _ _ _ h => h) (Or.inl ⟨by rfl, ?h1q6⟩) hHeld ?_
              case h1q6 => (intro w hSw; (try dsimp only at hSw); go_simp; try with_reducible rfl)
              try simp only [Act.put, List.setIfInBounds_toArray, List.set_cons_zero, List.set_cons_succ]
              refine wpAnyH_take (i := 7) (oi := { dst := some 99, op := Op.binOp BinOp.geq 3 (Operand.tmp 96) (Operand.tmp 98) 3, type := 4, pos := "laws.go:346", after := #[{ on := 4, ground := Ground.data }, { on := 6, ground := Ground.data }], guard := none }) (v := ?v1q7) rfl (by kernel_rfl) (by kernel_rfl) (by kernel_rfl) (fun _ _ _ h => h) (Or.inl ⟨by rfl, ?h1q7⟩) hHeld ?_
              case h1q7 => (intro w hSw; (try dsimp only at hSw); go_simp; try with_reducible rfl)
              try simp only [Act.put, List.setIfInBounds_toArray, List.set_cons_zero, List.set_cons_succ]
              refine wpAnyH_take (i := 8) (oi := { dst := some 100, op := Op.move (Operand.tmp 99), type := 4, pos := "laws.go:346", after := #[{ on := 7, ground := Ground.data }], guard := none }) (v := ?v1q8) rfl (by kernel_rfl) (by kernel_rfl) (by kernel_rfl) (fun _ _ _ h => h) (Or.inl ⟨by rfl, ?h1q8⟩) hHeld ?_
              case h1q8 => (intro w hSw; (try dsimp only at hSw); go_simp; try with_reducible rfl)
              try simp only [Act.put, List.setIfInBounds_toArray, List.set_cons_zero, List.set_cons_succ]
              refine wpAnyH_take (i := 9) (oi := { dst := some 101, op := Op.move (Operand.tmp 6), type := 26, pos := "laws.go:346", after := #[{ on := 8, ground := Ground.guard }], guard := some (8, true) }) (v := ?v1q9) rfl (by kernel_rfl) (by kernel_rfl) (by kernel_rfl) (fun _ _ _ h => h) (Or.inl ⟨by rfl, ?h1q9⟩) hHeld ?_
              case h1q9 => (intro w hSw; (try dsimp only at hSw); go_simp; try with_reducible rfl)
              try simp only [Act.put, List.setIfInBounds_toArray, List.set_cons_zero, List.set_cons_succ]
              refine wpAnyH_take (i := 10) (oi := { dst := some 102, op := Op.move (Operand.tmp 15), type := 3, pos := "laws.go:346", after := #[{ on := 8, ground := Ground.guard }], guard := some (8, true) }) (v := ?v1q10) rfl (by kernel_rfl) (by kernel_rfl) (by kernel_rfl) (fun _ _ _ h => h) (Or.inl ⟨by rfl, ?h1q10⟩) hHeld ?_
              case h1q10 => (intro w hSw; (try dsimp only at hSw); go_simp; try with_reducible rfl)
              try simp only [Act.put, List.setIfInBounds_toArray, List.set_cons_zero, List.set_cons_succ]
              refine wpAnyH_take (i := 11) (oi := { dst := some 103, op := Op.indexAddr 26 (Operand.tmp 101) (Operand.tmp 102), type := 0, pos := "laws.go:346", after := #[{ on := 9, ground := Ground.data }, { on := 10, ground := Ground.data }, { on := 8, ground := Ground.guard }], guard := some (8, true) }) (v := ?v1q11) rfl (by kernel_rfl) (by kernel_rfl) (by kernel_rfl) (fun _ _ _ h => h) (Or.inl ⟨by rfl, ?h1q11⟩) hHeld ?_
              case h1q11 => (intro w hSw; (try dsimp only at hSw); go_simp; try with_reducible rfl)
              try simp only [Act.put, List.setIfInBounds_toArray, List.set_cons_zero, List.set_cons_succ]
              refine wpAnyH_take (i := 12) (oi := { dst := some 104, op := Op.fieldAddr 35 (Operand.tmp 103) 1, type := 0, pos := "laws.go:346", after := #[{ on := 11, ground := Ground.data }, { on := 8, ground := Ground.guard }], guard := some (8, true) }) (v := ?v1q12) rfl (by kernel_rfl) (by kernel_rfl) (by kernel_rfl) (fun _ _ _ h => h) (Or.inl ⟨by rfl, ?h1q12⟩) hHeld ?_
              case h1q12 => (intro w hSw; (try dsimp only at hSw); go_simp; try with_reducible rfl)
              try simp only [Act.put, List.setIfInBounds_toArray, List.set_cons_zero, List.set_cons_succ]
              refine wpAnyH_take (i := 13) (oi := { dst := some 105, op := Op.load 3 (Operand.tmp 104), type := 3, pos := "laws.go:346", after := #[{ on := 12, ground := Ground.data }, { on := 8, ground := Ground.guard }], guard := some (8, true) }) (v := ?v1q13) rfl (by kernel_rfl) (by kernel_rfl) (by kernel_rfl) (fun _ _ _ h => h) (Or.inl ⟨by rfl, ?h1q13⟩) hHeld ?_
              case h1q13 => (intro w hSw; (try dsimp only at hSw); go_simp; try with_reducible rfl)
              try simp only [Act.put, List.setIfInBounds_toArray, List.set_cons_zero, List.set_cons_succ]
              refine wpAnyH_take (i := 14) (oi := { dst := some 106, op := Op.move (Operand.tmp 7), type := 3, pos := "laws.go:346", after := #[{ on := 8, ground := Ground.guard }], guard := some (8, true) }) (v := ?v1q14) rfl (by kernel_rfl) (by kernel_rfl) (by kernel_rfl) (fun _ _ _ h => h) (Or.inl ⟨by rfl, ?h1q14⟩) hHeld ?_
              case h1q14 => (intro w hSw; (try dsimp only at hSw); go_simp; try with_reducible rfl)
              try simp only [Act.put, List.setIfInBounds_toArray, List.set_cons_zero, List.set_cons_succ]
              refine wpAnyH_take (i := 15) (oi := { dst := some 107, op := Op.binOp BinOp.geq 3 (Operand.tmp 105) (Operand.tmp 106) 3, type := 4, pos := "laws.go:346", after := #[{ on := 13, ground := Ground.data }, { on := 14, ground := Ground.data }, { on := 8, ground := Ground.guard }], guard := some (8, true) }) (v := ?v1q15) rfl (by kernel_rfl) (by kernel_rfl) (by kernel_rfl) (fun _ _ _ h => h) (Or.inl ⟨by rfl, ?h1q15⟩) hHeld ?_
              case h1q15 => (intro w hSw; (try dsimp only at hSw); go_simp; try with_reducible rfl)
              try simp only [Act.put, List.setIfInBounds_toArray, List.set_cons_zero, List.set_cons_succ]
              refine wpAnyH_take (i := 16) (oi := { dst := some 108, op := Op.pick (Operand.tmp 100) (Operand.tmp 107) (Operand.const (Value.bool false)), type := 4, pos := "laws.go:346", after := #[{ on := 8, ground := Ground.data }, { on := 15, ground := Ground.data }], guard := none }) (v := ?v1q16) rfl (by kernel_rfl) (by kernel_rfl) (by kernel_rfl) (fun _ _ _ h => h) (Or.inl ⟨by rfl, ?h1q16⟩) hHeld ?_
              case h1q16 => (intro w hSw; (try dsimp only at hSw); go_simp; try with_reducible rfl)
              try simp only [Act.put, List.setIfInBounds_toArray, List.set_cons_zero, List.set_cons_succ]
              refine wpAnyH_take (i := 17) (oi := { dst := some 109, op := Op.move (Operand.tmp 108), type := 4, pos := "laws.go:346", after := #[{ on := 16, ground := Ground.data }, { on := 8, ground := Ground.chain }], guard := none }) (v := ?v1q17) rfl (by kernel_rfl) (by kernel_rfl) (by kernel_rfl) (fun _ _ _ h => h) (Or.inl ⟨by rfl, ?h1q17⟩) hHeld ?_
              case h1q17 => (intro w hSw; (try dsimp only at hSw); go_simp; try with_reducible rfl)
              try simp only [Act.put, List.setIfInBounds_toArray, List.set_cons_zero, List.set_cons_succ]
              refine wpAnyH_take (i := 18) (oi := { dst := some 110, op := Op.move (Operand.tmp 15), type := 3, pos := "laws.go:346", after := #[{ on := 17, ground := Ground.guard }], guard := some (17, false) }) (v := ?v1q18) rfl (by kernel_rfl) (by kernel_rfl) (by kernel_rfl) (fun _ _ _ h => h) (Or.inl ⟨by rfl, ?h1q18⟩) hHeld ?_
              case h1q18 => (intro w hSw; (try dsimp only at hSw); go_simp; try with_reducible rfl)
              try simp only [Act.put, List.setIfInBounds_toArray, List.set_cons_zero, List.set_cons_succ]
              refine wpAnyH_take (i := 19) (oi := { dst := some 111, op := Op.fieldAddr 24 (Operand.tmp 5) 0, type := 0, pos := "laws.go:346", after := #[{ on := 17, ground := Ground.guard }], guard := some (17, false) }) (v := ?v1q19) rfl (by kernel_rfl) (by kernel_rfl) (by kernel_rfl) (fun _ _ _ h => h) (Or.inl ⟨by rfl, ?h1q19⟩) hHeld ?_
              case h1q19 => (intro w hSw; (try dsimp only at hSw); go_simp; try with_reducible rfl)
              try simp only [Act.put, List.setIfInBounds_toArray, List.set_cons_zero, List.set_cons_succ]
              refine wpAnyH_take (i := 20) (oi := { dst := some 112, op := Op.load 3 (Operand.tmp 111), type := 3, pos := "laws.go:346", after := #[{ on := 19, ground := Ground.data }, { on := 17, ground := Ground.guard }], guard := some (17, false) }) (v := ?v1q20) rfl (by kernel_rfl) (by kernel_rfl) (by kernel_rfl) (fun _ _ _ h => h) (Or.inl ⟨by rfl, ?h1q20⟩) hHeld ?_
              case h1q20 => (intro w hSw; (try dsimp only at hSw); go_simp; try with_reducible rfl)
              try simp only [Act.put, List.setIfInBounds_toArray, List.set_cons_zero, List.set_cons_succ]
              refine wpAnyH_take (i := 21) (oi := { dst := some 113, op := Op.binOp BinOp.neq 3 (Operand.tmp 110) (Operand.tmp 112) 3, type := 4, pos := "laws.go:346", after := #[{ on := 18, ground := Ground.data }, { on := 20, ground := Ground.data }, { on := 17, ground := Ground.guard }], guard := some (17, false) }) (v := ?v1q21) rfl (by kernel_rfl) (by kernel_rfl) (by kernel_rfl) (fun _ _ _ h => h) (Or.inl ⟨by rfl, ?h1q21⟩) hHeld ?_
              case h1q21 => (intro w hSw; (try dsimp only at hSw); go_simp; try with_reducible rfl)
              try simp only [Act.put, List.setIfInBounds_toArray, List.set_cons_zero, List.set_cons_succ]
              refine wpAnyH_take (i := 22) (oi := { dst := some 114, op := Op.move (Operand.tmp 113), type := 4, pos := "laws.go:346", after := #[{ on := 21, ground := Ground.data }, { on := 17, ground := Ground.chain }, { on := 17, ground := Ground.guard }], guard := some (17, false) }) (v := ?v1q22) rfl (by kernel_rfl) (by kernel_rfl) (by kernel_rfl) (fun _ _ _ h => h) (Or.inl ⟨by rfl, ?h1q22⟩) hHeld ?_
              case h1q22 => (intro w hSw; (try dsimp only at hSw); go_simp; try with_reducible rfl)
              try simp only [Act.put, List.setIfInBounds_toArray, List.set_cons_zero, List.set_cons_succ]
              refine wpAnyH_take (i := 23) (oi := { dst := some 115, op := Op.move (Operand.tmp 10), type := 26, pos := "laws.go:346", after := #[{ on := 22, ground := Ground.guard }], guard := some (22, true) }) (v := undef) rfl (by kernel_rfl) (by kernel_rfl) (by kernel_rfl) (fun _ _ _ h => h) (Or.inr ⟨by rfl, rfl⟩) hHeld ?_
              try simp only [Act.put, List.setIfInBounds_toArray, List.set_cons_zero, List.set_cons_succ]
              refine wpAnyH_take (i := 24) (oi := { dst := some 116, op := Op.move (Operand.tmp 15), type := 3, pos := "laws.go:346", after := #[{ on := 22, ground := Ground.guard }], guard := some (22, true) }) (v := undef) rfl (by kernel_rfl) (by kernel_rfl) (by kernel_rfl) (fun _ _ _ h => h) (Or.inr ⟨by rfl, rfl⟩) hHeld ?_
              try simp only [Act.put, List.setIfInBounds_toArray, List.set_cons_zero, List.set_cons_succ]
              refine wpAnyH_take (i := 25) (oi := { dst := some 117, op := Op.indexAddr 26 (Operand.tmp 115) (Operand.tmp 116), type := 0, pos := "laws.go:346", after := #[{ on := 23, ground := Ground.data }, { on := 24, ground := Ground.data }, { on := 22, ground := Ground.guard }], guard := some (22, true) }) (v := undef) rfl (by kernel_rfl) (by kernel_rfl) (by kernel_rfl) (fun _ _ _ h => h) (Or.inr ⟨by rfl, rfl⟩) hHeld ?_
              try simp only [Act.put, List.setIfInBounds_toArray, List.set_cons_zero, List.set_cons_succ]
              refine wpAnyH_take (i := 26) (oi := { dst := some 118, op := Op.load 35 (Operand.tmp 117), type := 35, pos := "laws.go:346", after := #[{ on := 25, ground := Ground.data }, { on := 22, ground := Ground.guard }], guard := some (22, true) }) (v := undef) rfl (by kernel_rfl) (by kernel_rfl) (by kernel_rfl) (fun _ _ _ h => h) (Or.inr ⟨by rfl, rfl⟩) hHeld ?_
              try simp only [Act.put, List.setIfInBounds_toArray, List.set_cons_zero, List.set_cons_succ]
              refine wpAnyH_take (i := 27) (oi := { dst := some 119, op := Op.move (Operand.tmp 6), type := 26, pos := "laws.go:346", after := #[{ on := 22, ground := Ground.guard }], guard := some (22, true) }) (v := undef) rfl (by kernel_rfl) (by kernel_rfl) (by kernel_rfl) (fun _ _ _ h => h) (Or.inr ⟨by rfl, rfl⟩) hHeld ?_
              try simp only [Act.put, List.setIfInBounds_toArray, List.set_cons_zero, List.set_cons_succ]
              refine wpAnyH_take (i := 28) (oi := { dst := some 120, op := Op.move (Operand.tmp 15), type := 3, pos := "laws.go:346", after := #[{ on := 22, ground := Ground.guard }], guard := some (22, true) }) (v := undef) rfl (by kernel_rfl) (by kernel_rfl) (by kernel_rfl) (fun _ _ _ h => h) (Or.inr ⟨by rfl, rfl⟩) hHeld ?_
              try simp only [Act.put, List.setIfInBounds_toArray, List.set_cons_zero, List.set_cons_succ]
              refine wpAnyH_take (i := 29) (oi := { dst := some 121, op := Op.indexAddr 26 (Operand.tmp 119) (Operand.tmp 120), type := 0, pos := "laws.go:346", after := #[{ on := 27, ground := Ground.data }, { on := 28, ground := Ground.data }, { on := 22, ground := Ground.guard }], guard := some (22, true) }) (v := undef) rfl (by kernel_rfl) (by kernel_rfl) (by kernel_rfl) (fun _ _ _ h => h) (Or.inr ⟨by rfl, rfl⟩) hHeld ?_
              try simp only [Act.put, List.setIfInBounds_toArray, List.set_cons_zero, List.set_cons_succ]
              refine wpAnyH_take (i := 30) (oi := { dst := some 122, op := Op.load 35 (Operand.tmp 121), type := 35, pos := "laws.go:346", after := #[{ on := 29, ground := Ground.data }, { on := 22, ground := Ground.guard }], guard := some (22, true) }) (v := undef) rfl (by kernel_rfl) (by kernel_rfl) (by kernel_rfl) (fun _ _ _ h => h) (Or.inr ⟨by rfl, rfl⟩) hHeld ?_
              try simp only [Act.put, List.setIfInBounds_toArray, List.set_cons_zero, List.set_cons_succ]
              refine wpAnyH_take (i := 31) (oi := { dst := some 123, op := Op.binOp BinOp.neq 35 (Operand.tmp 118) (Operand.tmp 122) 35, type := 4, pos := "laws.go:346", after := #[{ on := 26, ground := Ground.data }, { on := 30, ground := Ground.data }, { on := 22, ground := Ground.guard }], guard := some (22, true) }) (v := undef) rfl (by kernel_rfl) (by kernel_rfl) (by kernel_rfl) (fun _ _ _ h => h) (Or.inr ⟨by rfl, rfl⟩) hHeld ?_
              try simp only [Act.put, List.setIfInBounds_toArray, List.set_cons_zero, List.set_cons_succ]
              refine wpAnyH_take (i := 32) (oi := { dst := some 124, op := Op.pick (Operand.tmp 114) (Operand.tmp 123) (Operand.const (Value.bool false)), type := 4, pos := "laws.go:346", after := #[{ on := 22, ground := Ground.data }, { on := 31, ground := Ground.data }, { on := 17, ground := Ground.guard }], guard := some (17, false) }) (v := ?v1q32) rfl (by kernel_rfl) (by kernel_rfl) (by kernel_rfl) (fun _ _ _ h => h) (Or.inl ⟨by rfl, ?h1q32⟩) hHeld ?_
              case h1q32 => (intro w hSw; (try dsimp only at hSw); go_simp; try with_reducible rfl)
              try simp only [Act.put, List.setIfInBounds_toArray, List.set_cons_zero, List.set_cons_succ]
              refine wpAnyH_take (i := 33) (oi := { dst := some 125, op := Op.pick (Operand.tmp 109) (Operand.const (Value.bool true)) (Operand.tmp 124), type := 4, pos := "laws.go:346", after := #[{ on := 17, ground := Ground.data }, { on := 32, ground := Ground.data }], guard := none }) (v := ?v1q33) rfl (by kernel_rfl) (by kernel_rfl) (by kernel_rfl) (fun _ _ _ h => h) (Or.inl ⟨by rfl, ?h1q33⟩) hHeld ?_
              case h1q33 => (intro w hSw; (try dsimp only at hSw); go_simp; try with_reducible rfl)
              try simp only [Act.put, List.setIfInBounds_toArray, List.set_cons_zero, List.set_cons_succ]
              refine wpAnyH_take (i := 34) (oi := { dst := some 126, op := Op.move (Operand.tmp 125), type := 4, pos := "laws.go:346", after := #[{ on := 33, ground := Ground.data }, { on := 22, ground := Ground.chain }], guard := none }) (v := ?v1q34) rfl (by kernel_rfl) (by kernel_rfl) (by kernel_rfl) (fun _ _ _ h => h) (Or.inl ⟨by rfl, ?h1q34⟩) hHeld ?_
              case h1q34 => (intro w hSw; (try dsimp only at hSw); go_simp; try with_reducible rfl)
              try simp only [Act.put, List.setIfInBounds_toArray, List.set_cons_zero, List.set_cons_succ]
              refine wpAnyH_take (i := 35) (oi := { dst := some 127, op := Op.move (Operand.tmp 10), type := 26, pos := "laws.go:346", after := #[{ on := 34, ground := Ground.guard }], guard := some (34, false) }) (v := ?v1q35) rfl (by kernel_rfl) (by kernel_rfl) (by kernel_rfl) (fun _ _ _ h => h) (Or.inl ⟨by rfl, ?h1q35⟩) hHeld ?_
              case h1q35 => (intro w hSw; (try dsimp only at hSw); go_simp; try with_reducible rfl)
              try simp only [Act.put, List.setIfInBounds_toArray, List.set_cons_zero, List.set_cons_succ]
              refine wpAnyH_take (i := 36) (oi := { dst := some 128, op := Op.move (Operand.tmp 15), type := 3, pos := "laws.go:346", after := #[{ on := 34, ground := Ground.guard }], guard := some (34, false) }) (v := ?v1q36) rfl (by kernel_rfl) (by kernel_rfl) (by kernel_rfl) (fun _ _ _ h => h) (Or.inl ⟨by rfl, ?h1q36⟩) hHeld ?_
              case h1q36 => (intro w hSw; (try dsimp only at hSw); go_simp; try with_reducible rfl)
              try simp only [Act.put, List.setIfInBounds_toArray, List.set_cons_zero, List.set_cons_succ]
              refine wpAnyH_take (i := 37) (oi := { dst := some 129, op := Op.indexAddr 26 (Operand.tmp 127) (Operand.tmp 128), type := 0, pos := "laws.go:346", after := #[{ on := 35, ground := Ground.data }, { on := 36, ground := Ground.data }, { on := 34, ground := Ground.guard }], guard := some (34, false) }) (v := ?v1q37) rfl (by kernel_rfl) (by kernel_rfl) (by kernel_rfl) (fun _ _ _ h => h) (Or.inl ⟨by rfl, ?h1q37⟩) hHeld ?_
              case h1q37 => (intro w hSw; (try dsimp only at hSw); go_simp; try with_reducible rfl)
              try simp only [Act.put, List.setIfInBounds_toArray, List.set_cons_zero, List.set_cons_succ]
              refine wpAnyH_take (i := 38) (oi := { dst := some 130, op := Op.load 35 (Operand.tmp 129), type := 35, pos := "laws.go:346", after := #[{ on := 37, ground := Ground.data }, { on := 34, ground := Ground.guard }], guard := some (34, false) }) (v := ?v1q38) rfl (by kernel_rfl) (by kernel_rfl) (by kernel_rfl) (fun _ _ _ h => h) (Or.inl ⟨by rfl, ?h1q38⟩) hHeld ?_
              case h1q38 => (intro w hSw; (try dsimp only at hSw); go_simp; try with_reducible rfl)
              try simp only [Act.put, List.setIfInBounds_toArray, List.set_cons_zero, List.set_cons_succ]
              refine wpAnyH_ready (rs := [39]) (by kernel_rfl) (by simp) ?_
              refine AllReadyH.cons (o := { dst := some 131, op := Op.call { callee := Callee.value (Operand.func 13), args := #[Operand.tmp 130], argTypes := #[35] }, type := 4, pos := "laws.go:346", after := #[{ on := 38, ground := Ground.data }, { on := 34, ground := Ground.chain }, { on := 34, ground := Ground.guard }], guard := some (34, false) }) rfl (fun K hK => ?_) AllReadyH.nil
              go_simp
              refine (blockOK_impl y _).mono ?_
              rintro e w8 ⟨rfl, hb8⟩
              rw [unhide HYB]
              have HB8 := hide (fr (Below.refl _ wr).drew hb8)
              clear hb8
              have m0 := ((unhide HB8).cell (p := ⟨P, 0, none⟩) hPl).trans c0
              have m1 := ((unhide HB8).cell (p := ⟨P, 1, none⟩) hPl).trans c1
              have m2 := ((unhide HB8).cell (p := ⟨g, k * 4, none⟩) hgl).trans x0
              have m3 := ((unhide HB8).cell (p := ⟨g, k * 4 + 1, none⟩) hgl).trans x1
              have m4 := ((unhide HB8).cell (p := ⟨g, k * 4 + 2, none⟩) hgl).trans x2
              have m5 := ((unhide HB8).cell (p := ⟨g, k * 4 + 3, none⟩) hgl).trans x3
              have m6 := ((unhide HB8).cell (p := ⟨yb, yo + k * 4, none⟩) hyl).trans y0
              have m7 := ((unhide HB8).cell (p := ⟨yb, yo + k * 4 + 1, none⟩) hyl).trans y1
              have m8 := ((unhide HB8).cell (p := ⟨yb, yo + k * 4 + 2, none⟩) hyl).trans y2
              have m9 := ((unhide HB8).cell (p := ⟨yb, yo + k * 4 + 3, none⟩) hyl).trans y3
              go_wp2_with fail
              refine hK.out _ _ ?kB1 (fun hHeld2 => ?_)
              case kB1 => ((try dsimp only); go_keep)
              clear hK K hHeld
              try simp only [Act.put, List.setIfInBounds_toArray, List.set_cons_zero, List.set_cons_succ]
              refine wpAnyH_take (i := 40) (oi := { dst := some 132, op := Op.unOp UnOp.not 4 (Operand.tmp 131), type := 4, pos := "laws.go:346", after := #[{ on := 39, ground := Ground.data }, { on := 34, ground := Ground.guard }], guard := some (34, false) }) (v := ?v1q40) rfl (by kernel_rfl) (by kernel_rfl) (by kernel_rfl) (fun _ _ _ h => h) (Or.inl ⟨by rfl, ?h1q40⟩) hHeld2 ?_
              case h1q40 => (intro w hSw; (try dsimp only at hSw); go_simp; try with_reducible rfl)
              try simp only [Act.put, List.setIfInBounds_toArray, List.set_cons_zero, List.set_cons_succ]
              refine wpAnyH_take (i := 41) (oi := { dst := some 133, op := Op.pick (Operand.tmp 126) (Operand.const (Value.bool true)) (Operand.tmp 132), type := 4, pos := "laws.go:346", after := #[{ on := 34, ground := Ground.data }, { on := 40, ground := Ground.data }], guard := none }) (v := ?v1q41) rfl (by kernel_rfl) (by kernel_rfl) (by kernel_rfl) (fun _ _ _ h => h) (Or.inl ⟨by rfl, ?h1q41⟩) hHeld2 ?_
              case h1q41 => (intro w hSw; (try dsimp only at hSw); go_simp; try with_reducible rfl)
              try simp only [Act.put, List.setIfInBounds_toArray, List.set_cons_zero, List.set_cons_succ]
              refine wpAnyH_take (i := 42) (oi := { dst := some 134, op := Op.move (Operand.tmp 133), type := 4, pos := "laws.go:346", after := #[{ on := 41, ground := Ground.data }, { on := 39, ground := Ground.chain }], guard := none }) (v := ?v1q42) rfl (by kernel_rfl) (by kernel_rfl) (by kernel_rfl) (fun _ _ _ h => h) (Or.inl ⟨by rfl, ?h1q42⟩) hHeld2 ?_
              case h1q42 => (intro w hSw; (try dsimp only at hSw); go_simp; try with_reducible rfl)
              try simp only [Act.put, List.setIfInBounds_toArray, List.set_cons_zero, List.set_cons_succ]
              refine wpAnyH_take (i := 43) (oi := { dst := some 135, op := Op.move (Operand.tmp 10), type := 26, pos := "laws.go:346", after := #[{ on := 42, ground := Ground.guard }], guard := some (42, false) }) (v := ?v1q43) rfl (by kernel_rfl) (by kernel_rfl) (by kernel_rfl) (fun _ _ _ h => h) (Or.inl ⟨by rfl, ?h1q43⟩) hHeld2 ?_
              case h1q43 => (intro w hSw; (try dsimp only at hSw); go_simp; try with_reducible rfl)
              try simp only [Act.put, List.setIfInBounds_toArray, List.set_cons_zero, List.set_cons_succ]
              refine wpAnyH_take (i := 44) (oi := { dst := some 136, op := Op.move (Operand.tmp 15), type := 3, pos := "laws.go:346", after := #[{ on := 42, ground := Ground.guard }], guard := some (42, false) }) (v := ?v1q44) rfl (by kernel_rfl) (by kernel_rfl) (by kernel_rfl) (fun _ _ _ h => h) (Or.inl ⟨by rfl, ?h1q44⟩) hHeld2 ?_
              case h1q44 => (intro w hSw; (try dsimp only at hSw); go_simp; try with_reducible rfl)
              try simp only [Act.put, List.setIfInBounds_toArray, List.set_cons_zero, List.set_cons_succ]
              refine wpAnyH_take (i := 45) (oi := { dst := some 137, op := Op.indexAddr 26 (Operand.tmp 135) (Operand.tmp 136), type := 0, pos := "laws.go:346", after := #[{ on := 43, ground := Ground.data }, { on := 44, ground := Ground.data }, { on := 42, ground := Ground.guard }], guard := some (42, false) }) (v := ?v1q45) rfl (by kernel_rfl) (by kernel_rfl) (by kernel_rfl) (fun _ _ _ h => h) (Or.inl ⟨by rfl, ?h1q45⟩) hHeld2 ?_
              case h1q45 => (intro w hSw; (try dsimp only at hSw); go_simp; try with_reducible rfl)
              try simp only [Act.put, List.setIfInBounds_toArray, List.set_cons_zero, List.set_cons_succ]
              refine wpAnyH_take (i := 46) (oi := { dst := some 138, op := Op.fieldAddr 35 (Operand.tmp 137) 0, type := 0, pos := "laws.go:346", after := #[{ on := 45, ground := Ground.data }, { on := 42, ground := Ground.guard }], guard := some (42, false) }) (v := ?v1q46) rfl (by kernel_rfl) (by kernel_rfl) (by kernel_rfl) (fun _ _ _ h => h) (Or.inl ⟨by rfl, ?h1q46⟩) hHeld2 ?_
              case h1q46 => (intro w hSw; (try dsimp only at hSw); go_simp; try with_reducible rfl)
              try simp only [Act.put, List.setIfInBounds_toArray, List.set_cons_zero, List.set_cons_succ]
              refine wpAnyH_take (i := 47) (oi := { dst := some 139, op := Op.load 3 (Operand.tmp 138), type := 3, pos := "laws.go:346", after := #[{ on := 46, ground := Ground.data }, { on := 42, ground := Ground.guard }], guard := some (42, false) }) (v := ?v1q47) rfl (by kernel_rfl) (by kernel_rfl) (by kernel_rfl) (fun _ _ _ h => h) (Or.inl ⟨by rfl, ?h1q47⟩) hHeld2 ?_
              case h1q47 => (intro w hSw; (try dsimp only at hSw); go_simp; try with_reducible rfl)
              try simp only [Act.put, List.setIfInBounds_toArray, List.set_cons_zero, List.set_cons_succ]
              refine wpAnyH_take (i := 48) (oi := { dst := some 140, op := Op.move (Operand.tmp 6), type := 26, pos := "laws.go:346", after := #[{ on := 42, ground := Ground.guard }], guard := some (42, false) }) (v := ?v1q48) rfl (by kernel_rfl) (by kernel_rfl) (by kernel_rfl) (fun _ _ _ h => h) (Or.inl ⟨by rfl, ?h1q48⟩) hHeld2 ?_
              case h1q48 => (intro w hSw; (try dsimp only at hSw); go_simp; try with_reducible rfl)
              try simp only [Act.put, List.setIfInBounds_toArray, List.set_cons_zero, List.set_cons_succ]
              refine wpAnyH_take (i := 49) (oi := { dst := some 141, op := Op.move (Operand.tmp 15), type := 3, pos := "laws.go:346", after := #[{ on := 42, ground := Ground.guard }], guard := some (42, false) }) (v := ?v1q49) rfl (by kernel_rfl) (by kernel_rfl) (by kernel_rfl) (fun _ _ _ h => h) (Or.inl ⟨by rfl, ?h1q49⟩) hHeld2 ?_
              case h1q49 => (intro w hSw; (try dsimp only at hSw); go_simp; try with_reducible rfl)
              try simp only [Act.put, List.setIfInBounds_toArray, List.set_cons_zero, List.set_cons_succ]
              refine wpAnyH_take (i := 50) (oi := { dst := some 142, op := Op.indexAddr 26 (Operand.tmp 140) (Operand.tmp 141), type := 0, pos := "laws.go:346", after := #[{ on := 48, ground := Ground.data }, { on := 49, ground := Ground.data }, { on := 42, ground := Ground.guard }], guard := some (42, false) }) (v := ?v1q50) rfl (by kernel_rfl) (by kernel_rfl) (by kernel_rfl) (fun _ _ _ h => h) (Or.inl ⟨by rfl, ?h1q50⟩) hHeld2 ?_
              case h1q50 => (intro w hSw; (try dsimp only at hSw); go_simp; try with_reducible rfl)
              try simp only [Act.put, List.setIfInBounds_toArray, List.set_cons_zero, List.set_cons_succ]
              refine wpAnyH_take (i := 51) (oi := { dst := some 143, op := Op.fieldAddr 35 (Operand.tmp 142) 0, type := 0, pos := "laws.go:346", after := #[{ on := 50, ground := Ground.data }, { on := 42, ground := Ground.guard }], guard := some (42, false) }) (v := ?v1q51) rfl (by kernel_rfl) (by kernel_rfl) (by kernel_rfl) (fun _ _ _ h => h) (Or.inl ⟨by rfl, ?h1q51⟩) hHeld2 ?_
              case h1q51 => (intro w hSw; (try dsimp only at hSw); go_simp; try with_reducible rfl)
              try simp only [Act.put, List.setIfInBounds_toArray, List.set_cons_zero, List.set_cons_succ]
              refine wpAnyH_take (i := 52) (oi := { dst := some 144, op := Op.load 3 (Operand.tmp 143), type := 3, pos := "laws.go:346", after := #[{ on := 51, ground := Ground.data }, { on := 42, ground := Ground.guard }], guard := some (42, false) }) (v := ?v1q52) rfl (by kernel_rfl) (by kernel_rfl) (by kernel_rfl) (fun _ _ _ h => h) (Or.inl ⟨by rfl, ?h1q52⟩) hHeld2 ?_
              case h1q52 => (intro w hSw; (try dsimp only at hSw); go_simp; try with_reducible rfl)
              try simp only [Act.put, List.setIfInBounds_toArray, List.set_cons_zero, List.set_cons_succ]
              refine wpAnyH_take (i := 53) (oi := { dst := some 145, op := Op.binOp BinOp.eql 3 (Operand.tmp 139) (Operand.tmp 144) 3, type := 4, pos := "laws.go:346", after := #[{ on := 47, ground := Ground.data }, { on := 52, ground := Ground.data }, { on := 42, ground := Ground.guard }], guard := some (42, false) }) (v := ?v1q53) rfl (by kernel_rfl) (by kernel_rfl) (by kernel_rfl) (fun _ _ _ h => h) (Or.inl ⟨by rfl, ?h1q53⟩) hHeld2 ?_
              case h1q53 => (intro w hSw; (try dsimp only at hSw); go_simp; try with_reducible rfl)
              try simp only [Act.put, List.setIfInBounds_toArray, List.set_cons_zero, List.set_cons_succ]
              refine wpAnyH_take (i := 54) (oi := { dst := some 146, op := Op.move (Operand.tmp 145), type := 4, pos := "laws.go:346", after := #[{ on := 53, ground := Ground.data }, { on := 42, ground := Ground.chain }, { on := 42, ground := Ground.guard }], guard := some (42, false) }) (v := ?v1q54) rfl (by kernel_rfl) (by kernel_rfl) (by kernel_rfl) (fun _ _ _ h => h) (Or.inl ⟨by rfl, ?h1q54⟩) hHeld2 ?_
              case h1q54 => (intro w hSw; (try dsimp only at hSw); go_simp; try with_reducible rfl)
              try simp only [Act.put, List.setIfInBounds_toArray, List.set_cons_zero, List.set_cons_succ]
              refine wpAnyH_take (i := 55) (oi := { dst := some 147, op := Op.move (Operand.tmp 10), type := 26, pos := "laws.go:346", after := #[{ on := 54, ground := Ground.guard }], guard := some (54, true) }) (v := undef) rfl (by kernel_rfl) (by kernel_rfl) (by kernel_rfl) (fun _ _ _ h => h) (Or.inr ⟨by rfl, rfl⟩) hHeld2 ?_
              try simp only [Act.put, List.setIfInBounds_toArray, List.set_cons_zero, List.set_cons_succ]
              refine wpAnyH_take (i := 56) (oi := { dst := some 148, op := Op.move (Operand.tmp 15), type := 3, pos := "laws.go:346", after := #[{ on := 54, ground := Ground.guard }], guard := some (54, true) }) (v := undef) rfl (by kernel_rfl) (by kernel_rfl) (by kernel_rfl) (fun _ _ _ h => h) (Or.inr ⟨by rfl, rfl⟩) hHeld2 ?_
              try simp only [Act.put, List.setIfInBounds_toArray, List.set_cons_zero, List.set_cons_succ]
              refine wpAnyH_take (i := 57) (oi := { dst := some 149, op := Op.indexAddr 26 (Operand.tmp 147) (Operand.tmp 148), type := 0, pos := "laws.go:346", after := #[{ on := 55, ground := Ground.data }, { on := 56, ground := Ground.data }, { on := 54, ground := Ground.guard }], guard := some (54, true) }) (v := undef) rfl (by kernel_rfl) (by kernel_rfl) (by kernel_rfl) (fun _ _ _ h => h) (Or.inr ⟨by rfl, rfl⟩) hHeld2 ?_
              try simp only [Act.put, List.setIfInBounds_toArray, List.set_cons_zero, List.set_cons_succ]
              refine wpAnyH_take (i := 58) (oi := { dst := some 150, op := Op.fieldAddr 35 (Operand.tmp 149) 1, type := 0, pos := "laws.go:346", after := #[{ on := 57, ground := Ground.data }, { on := 54, ground := Ground.guard }], guard := some (54, true) }) (v := undef) rfl (by kernel_rfl) (by kernel_rfl) (by kernel_rfl) (fun _ _ _ h => h) (Or.inr ⟨by rfl, rfl⟩) hHeld2 ?_
              try simp only [Act.put, List.setIfInBounds_toArray, List.set_cons_zero, List.set_cons_succ]
              refine wpAnyH_take (i := 59) (oi := { dst := some 151, op := Op.load 3 (Operand.tmp 150), type := 3, pos := "laws.go:346", after := #[{ on := 58, ground := Ground.data }, { on := 54, ground := Ground.guard }], guard := some (54, true) }) (v := undef) rfl (by kernel_rfl) (by kernel_rfl) (by kernel_rfl) (fun _ _ _ h => h) (Or.inr ⟨by rfl, rfl⟩) hHeld2 ?_
              try simp only [Act.put, List.setIfInBounds_toArray, List.set_cons_zero, List.set_cons_succ]
              refine wpAnyH_take (i := 60) (oi := { dst := some 152, op := Op.move (Operand.tmp 6), type := 26, pos := "laws.go:346", after := #[{ on := 54, ground := Ground.guard }], guard := some (54, true) }) (v := undef) rfl (by kernel_rfl) (by kernel_rfl) (by kernel_rfl) (fun _ _ _ h => h) (Or.inr ⟨by rfl, rfl⟩) hHeld2 ?_
              try simp only [Act.put, List.setIfInBounds_toArray, List.set_cons_zero, List.set_cons_succ]
              refine wpAnyH_take (i := 61) (oi := { dst := some 153, op := Op.move (Operand.tmp 15), type := 3, pos := "laws.go:346", after := #[{ on := 54, ground := Ground.guard }], guard := some (54, true) }) (v := undef) rfl (by kernel_rfl) (by kernel_rfl) (by kernel_rfl) (fun _ _ _ h => h) (Or.inr ⟨by rfl, rfl⟩) hHeld2 ?_
              try simp only [Act.put, List.setIfInBounds_toArray, List.set_cons_zero, List.set_cons_succ]
              refine wpAnyH_take (i := 62) (oi := { dst := some 154, op := Op.indexAddr 26 (Operand.tmp 152) (Operand.tmp 153), type := 0, pos := "laws.go:346", after := #[{ on := 60, ground := Ground.data }, { on := 61, ground := Ground.data }, { on := 54, ground := Ground.guard }], guard := some (54, true) }) (v := undef) rfl (by kernel_rfl) (by kernel_rfl) (by kernel_rfl) (fun _ _ _ h => h) (Or.inr ⟨by rfl, rfl⟩) hHeld2 ?_
              try simp only [Act.put, List.setIfInBounds_toArray, List.set_cons_zero, List.set_cons_succ]
              refine wpAnyH_take (i := 63) (oi := { dst := some 155, op := Op.fieldAddr 35 (Operand.tmp 154) 1, type := 0, pos := "laws.go:346", after := #[{ on := 62, ground := Ground.data }, { on := 54, ground := Ground.guard }], guard := some (54, true) }) (v := undef) rfl (by kernel_rfl) (by kernel_rfl) (by kernel_rfl) (fun _ _ _ h => h) (Or.inr ⟨by rfl, rfl⟩) hHeld2 ?_
              try simp only [Act.put, List.setIfInBounds_toArray, List.set_cons_zero, List.set_cons_succ]
              refine wpAnyH_take (i := 64) (oi := { dst := some 156, op := Op.load 3 (Operand.tmp 155), type := 3, pos := "laws.go:346", after := #[{ on := 63, ground := Ground.data }, { on := 54, ground := Ground.guard }], guard := some (54, true) }) (v := undef) rfl (by kernel_rfl) (by kernel_rfl) (by kernel_rfl) (fun _ _ _ h => h) (Or.inr ⟨by rfl, rfl⟩) hHeld2 ?_
              try simp only [Act.put, List.setIfInBounds_toArray, List.set_cons_zero, List.set_cons_succ]
              refine wpAnyH_take (i := 65) (oi := { dst := some 157, op := Op.binOp BinOp.lss 3 (Operand.tmp 151) (Operand.tmp 156) 3, type := 4, pos := "laws.go:346", after := #[{ on := 59, ground := Ground.data }, { on := 64, ground := Ground.data }, { on := 54, ground := Ground.guard }], guard := some (54, true) }) (v := undef) rfl (by kernel_rfl) (by kernel_rfl) (by kernel_rfl) (fun _ _ _ h => h) (Or.inr ⟨by rfl, rfl⟩) hHeld2 ?_
              try simp only [Act.put, List.setIfInBounds_toArray, List.set_cons_zero, List.set_cons_succ]
              refine wpAnyH_take (i := 66) (oi := { dst := some 158, op := Op.pick (Operand.tmp 146) (Operand.tmp 157) (Operand.const (Value.bool false)), type := 4, pos := "laws.go:346", after := #[{ on := 54, ground := Ground.data }, { on := 65, ground := Ground.data }, { on := 42, ground := Ground.guard }], guard := some (42, false) }) (v := ?v1q66) rfl (by kernel_rfl) (by kernel_rfl) (by kernel_rfl) (fun _ _ _ h => h) (Or.inl ⟨by rfl, ?h1q66⟩) hHeld2 ?_
              case h1q66 => (intro w hSw; (try dsimp only at hSw); go_simp; try with_reducible rfl)
              try simp only [Act.put, List.setIfInBounds_toArray, List.set_cons_zero, List.set_cons_succ]
              refine wpAnyH_take (i := 67) (oi := { dst := some 159, op := Op.pick (Operand.tmp 134) (Operand.const (Value.bool true)) (Operand.tmp 158), type := 4, pos := "laws.go:346", after := #[{ on := 42, ground := Ground.data }, { on := 66, ground := Ground.data }], guard := none }) (v := ?v1q67) rfl (by kernel_rfl) (by kernel_rfl) (by kernel_rfl) (fun _ _ _ h => h) (Or.inl ⟨by rfl, ?h1q67⟩) hHeld2 ?_
              case h1q67 => (intro w hSw; (try dsimp only at hSw); go_simp; try with_reducible rfl)
              try simp only [Act.put, List.setIfInBounds_toArray, List.set_cons_zero, List.set_cons_succ]
              refine wpAnyH_done (by kernel_rfl) ?_ _
              go_wp2_with fail
              go_meet
              first | exact ⟨rfl, hide (fr (unhide HB) (unhide HB8))⟩ | exact ⟨congrArg Value.bool (decide_eq_false (by first | exact hm2 | exact Int.not_lt.2 hm2)), hide (fr (unhide HB) (unhide HB8))⟩
          · have bo : ((k : Int) != p.host) = true := by simp [ho]
            have hyx := unhide HO ho
            subst hyx
            clear ho
            have e0 : (y.ver == y.ver) = true := by simp
            have e1 : (y.mbal == y.mbal) = true := by simp
            have e2 : (y.bal == y.bal) = true := by simp
            have e3 : (y.inp == y.inp) = true := by simp
            have hm2 : ¬ y.mbal < y.mbal := by omega
            refine wp_region_held_drew (S := (fun w' => w'.cell? ⟨P, 0, none⟩ = some (.int .i64 p.host) ∧ w'.cell? ⟨P, 1, none⟩ = some (.int .i64 p.ver) ∧ w'.cell? ⟨g, k * 4, none⟩ = some (.int .i64 y.ver) ∧ w'.cell? ⟨g, k * 4 + 1, none⟩ = some (.int .i64 y.mbal) ∧ w'.cell? ⟨g, k * 4 + 2, none⟩ = some (.int .i64 y.bal) ∧ w'.cell? ⟨g, k * 4 + 3, none⟩ = some (.int .i64 y.inp) ∧ w'.cell? ⟨yb, yo + k * 4, none⟩ = some (.int .i64 y.ver) ∧ w'.cell? ⟨yb, yo + k * 4 + 1, none⟩ = some (.int .i64 y.mbal) ∧ w'.cell? ⟨yb, yo + k * 4 + 2, none⟩ = some (.int .i64 y.bal) ∧ w'.cell? ⟨yb, yo + k * 4 + 3, none⟩ = some (.int .i64 y.inp))) (by kernel_rfl) ?kA2 (fun hHeld => ?_)
            case kA2 => ((try dsimp only); go_keep)
            refine wpAnyH_take (i := 0) (oi := { dst := some 92, op := Op.move (Operand.tmp 6), type := 26, pos := "laws.go:346", after := #[], guard := none }) (v := ?v2q0) rfl (by kernel_rfl) (by kernel_rfl) (by kernel_rfl) (fun _ _ _ h => h) (Or.inl ⟨by rfl, ?h2q0⟩) hHeld ?_
            case h2q0 => (intro w hSw; (try dsimp only at hSw); go_simp; try with_reducible rfl)
            try simp only [Act.put, List.setIfInBounds_toArray, List.set_cons_zero, List.set_cons_succ]
            refine wpAnyH_take (i := 1) (oi := { dst := some 93, op := Op.move (Operand.tmp 15), type := 3, pos := "laws.go:346", after := #[], guard := none }) (v := ?v2q1) rfl (by kernel_rfl) (by kernel_rfl) (by kernel_rfl) (fun _ _ _ h => h) (Or.inl ⟨by rfl, ?h2q1⟩) hHeld ?_
            case h2q1 => (intro w hSw; (try dsimp only at hSw); go_simp; try with_reducible rfl)
            try simp only [Act.put, List.setIfInBounds_toArray, List.set_cons_zero, List.set_cons_succ]
            refine wpAnyH_take (i := 2) (oi := { dst := some 94, op := Op.indexAddr 26 (Operand.tmp 92) (Operand.tmp 93), type := 0, pos := "laws.go:346", after := #[{ on := 0, ground := Ground.data }, { on := 1, ground := Ground.data }], guard := none }) (v := ?v2q2) rfl (by kernel_rfl) (by kernel_rfl) (by kernel_rfl) (fun _ _ _ h => h) (Or.inl ⟨by rfl, ?h2q2⟩) hHeld ?_
            case h2q2 => (intro w hSw; (try dsimp only at hSw); go_simp; try with_reducible rfl)
            try simp only [Act.put, List.setIfInBounds_toArray, List.set_cons_zero, List.set_cons_succ]
            refine wpAnyH_take (i := 3) (oi := { dst := some 95, op := Op.fieldAddr 35 (Operand.tmp 94) 0, type := 0, pos := "laws.go:346", after := #[{ on := 2, ground := Ground.data }], guard := none }) (v := ?v2q3) rfl (by kernel_rfl) (by kernel_rfl) (by kernel_rfl) (fun _ _ _ h => h) (Or.inl ⟨by rfl, ?h2q3⟩) hHeld ?_
            case h2q3 => (intro w hSw; (try dsimp only at hSw); go_simp; try with_reducible rfl)
            try simp only [Act.put, List.setIfInBounds_toArray, List.set_cons_zero, List.set_cons_succ]
            refine wpAnyH_take (i := 4) (oi := { dst := some 96, op := Op.load 3 (Operand.tmp 95), type := 3, pos := "laws.go:346", after := #[{ on := 3, ground := Ground.data }], guard := none }) (v := ?v2q4) rfl (by kernel_rfl) (by kernel_rfl) (by kernel_rfl) (fun _ _ _ h => h) (Or.inl ⟨by rfl, ?h2q4⟩) hHeld ?_
            case h2q4 => (intro w hSw; (try dsimp only at hSw); go_simp; try with_reducible rfl)
            try simp only [Act.put, List.setIfInBounds_toArray, List.set_cons_zero, List.set_cons_succ]
            refine wpAnyH_take (i := 5) (oi := { dst := some 97, op := Op.fieldAddr 24 (Operand.tmp 5) 1, type := 0, pos := "laws.go:346", after := #[], guard := none }) (v := ?v2q5) rfl (by kernel_rfl) (by kernel_rfl) (by kernel_rfl) (fun _ _ _ h => h) (Or.inl ⟨by rfl, ?h2q5⟩) hHeld ?_
            case h2q5 => (intro w hSw; (try dsimp only at hSw); go_simp; try with_reducible rfl)
            try simp only [Act.put, List.setIfInBounds_toArray, List.set_cons_zero, List.set_cons_succ]
            refine wpAnyH_take (i := 6) (oi := { dst := some 98, op := Op.load 3 (Operand.tmp 97), type := 3, pos := "laws.go:346", after := #[{ on := 5, ground := Ground.data }], guard := none }) (v := ?v2q6) rfl (by kernel_rfl) (by kernel_rfl) (by kernel_rfl) (fun _ _ _ h => h) (Or.inl ⟨by rfl, ?h2q6⟩) hHeld ?_
            case h2q6 => (intro w hSw; (try dsimp only at hSw); go_simp; try with_reducible rfl)
            try simp only [Act.put, List.setIfInBounds_toArray, List.set_cons_zero, List.set_cons_succ]
            refine wpAnyH_take (i := 7) (oi := { dst := some 99, op := Op.binOp BinOp.geq 3 (Operand.tmp 96) (Operand.tmp 98) 3, type := 4, pos := "laws.go:346", after := #[{ on := 4, ground := Ground.data }, { on := 6, ground := Ground.data }], guard := none }) (v := ?v2q7) rfl (by kernel_rfl) (by kernel_rfl) (by kernel_rfl) (fun _ _ _ h => h) (Or.inl ⟨by rfl, ?h2q7⟩) hHeld ?_
            case h2q7 => (intro w hSw; (try dsimp only at hSw); go_simp; try with_reducible rfl)
            try simp only [Act.put, List.setIfInBounds_toArray, List.set_cons_zero, List.set_cons_succ]
            refine wpAnyH_take (i := 8) (oi := { dst := some 100, op := Op.move (Operand.tmp 99), type := 4, pos := "laws.go:346", after := #[{ on := 7, ground := Ground.data }], guard := none }) (v := ?v2q8) rfl (by kernel_rfl) (by kernel_rfl) (by kernel_rfl) (fun _ _ _ h => h) (Or.inl ⟨by rfl, ?h2q8⟩) hHeld ?_
            case h2q8 => (intro w hSw; (try dsimp only at hSw); go_simp; try with_reducible rfl)
            try simp only [Act.put, List.setIfInBounds_toArray, List.set_cons_zero, List.set_cons_succ]
            refine wpAnyH_take (i := 9) (oi := { dst := some 101, op := Op.move (Operand.tmp 6), type := 26, pos := "laws.go:346", after := #[{ on := 8, ground := Ground.guard }], guard := some (8, true) }) (v := ?v2q9) rfl (by kernel_rfl) (by kernel_rfl) (by kernel_rfl) (fun _ _ _ h => h) (Or.inl ⟨by rfl, ?h2q9⟩) hHeld ?_
            case h2q9 => (intro w hSw; (try dsimp only at hSw); go_simp; try with_reducible rfl)
            try simp only [Act.put, List.setIfInBounds_toArray, List.set_cons_zero, List.set_cons_succ]
            refine wpAnyH_take (i := 10) (oi := { dst := some 102, op := Op.move (Operand.tmp 15), type := 3, pos := "laws.go:346", after := #[{ on := 8, ground := Ground.guard }], guard := some (8, true) }) (v := ?v2q10) rfl (by kernel_rfl) (by kernel_rfl) (by kernel_rfl) (fun _ _ _ h => h) (Or.inl ⟨by rfl, ?h2q10⟩) hHeld ?_
            case h2q10 => (intro w hSw; (try dsimp only at hSw); go_simp; try with_reducible rfl)
            try simp only [Act.put, List.setIfInBounds_toArray, List.set_cons_zero, List.set_cons_succ]
            refine wpAnyH_take (i := 11) (oi := { dst := some 103, op := Op.indexAddr 26 (Operand.tmp 101) (Operand.tmp 102), type := 0, pos := "laws.go:346", after := #[{ on := 9, ground := Ground.data }, { on := 10, ground := Ground.data }, { on := 8, ground := Ground.guard }], guard := some (8, true) }) (v := ?v2q11) rfl (by kernel_rfl) (by kernel_rfl) (by kernel_rfl) (fun _ _ _ h => h) (Or.inl ⟨by rfl, ?h2q11⟩) hHeld ?_
            case h2q11 => (intro w hSw; (try dsimp only at hSw); go_simp; try with_reducible rfl)
            try simp only [Act.put, List.setIfInBounds_toArray, List.set_cons_zero, List.set_cons_succ]
            refine wpAnyH_take (i := 12) (oi := { dst := some 104, op := Op.fieldAddr 35 (Operand.tmp 103) 1, type := 0, pos := "laws.go:346", after := #[{ on := 11, ground := Ground.data }, { on := 8, ground := Ground.guard }], guard := some (8, true) }) (v := ?v2q12) rfl (by kernel_rfl) (by kernel_rfl) (by kernel_rfl) (fun _ _ _ h => h) (Or.inl ⟨by rfl, ?h2q12⟩) hHeld ?_
            case h2q12 => (intro w hSw; (try dsimp only at hSw); go_simp; try with_reducible rfl)
            try simp only [Act.put, List.setIfInBounds_toArray, List.set_cons_zero, List.set_cons_succ]
            refine wpAnyH_take (i := 13) (oi := { dst := some 105, op := Op.load 3 (Operand.tmp 104), type := 3, pos := "laws.go:346", after := #[{ on := 12, ground := Ground.data }, { on := 8, ground := Ground.guard }], guard := some (8, true) }) (v := ?v2q13) rfl (by kernel_rfl) (by kernel_rfl) (by kernel_rfl) (fun _ _ _ h => h) (Or.inl ⟨by rfl, ?h2q13⟩) hHeld ?_
            case h2q13 => (intro w hSw; (try dsimp only at hSw); go_simp; try with_reducible rfl)
            try simp only [Act.put, List.setIfInBounds_toArray, List.set_cons_zero, List.set_cons_succ]
            refine wpAnyH_take (i := 14) (oi := { dst := some 106, op := Op.move (Operand.tmp 7), type := 3, pos := "laws.go:346", after := #[{ on := 8, ground := Ground.guard }], guard := some (8, true) }) (v := ?v2q14) rfl (by kernel_rfl) (by kernel_rfl) (by kernel_rfl) (fun _ _ _ h => h) (Or.inl ⟨by rfl, ?h2q14⟩) hHeld ?_
            case h2q14 => (intro w hSw; (try dsimp only at hSw); go_simp; try with_reducible rfl)
            try simp only [Act.put, List.setIfInBounds_toArray, List.set_cons_zero, List.set_cons_succ]
            refine wpAnyH_take (i := 15) (oi := { dst := some 107, op := Op.binOp BinOp.geq 3 (Operand.tmp 105) (Operand.tmp 106) 3, type := 4, pos := "laws.go:346", after := #[{ on := 13, ground := Ground.data }, { on := 14, ground := Ground.data }, { on := 8, ground := Ground.guard }], guard := some (8, true) }) (v := ?v2q15) rfl (by kernel_rfl) (by kernel_rfl) (by kernel_rfl) (fun _ _ _ h => h) (Or.inl ⟨by rfl, ?h2q15⟩) hHeld ?_
            case h2q15 => (intro w hSw; (try dsimp only at hSw); go_simp; try with_reducible rfl)
            try simp only [Act.put, List.setIfInBounds_toArray, List.set_cons_zero, List.set_cons_succ]
            refine wpAnyH_take (i := 16) (oi := { dst := some 108, op := Op.pick (Operand.tmp 100) (Operand.tmp 107) (Operand.const (Value.bool false)), type := 4, pos := "laws.go:346", after := #[{ on := 8, ground := Ground.data }, { on := 15, ground := Ground.data }], guard := none }) (v := ?v2q16) rfl (by kernel_rfl) (by kernel_rfl) (by kernel_rfl) (fun _ _ _ h => h) (Or.inl ⟨by rfl, ?h2q16⟩) hHeld ?_
            case h2q16 => (intro w hSw; (try dsimp only at hSw); go_simp; try with_reducible rfl)
            try simp only [Act.put, List.setIfInBounds_toArray, List.set_cons_zero, List.set_cons_succ]
            refine wpAnyH_take (i := 17) (oi := { dst := some 109, op := Op.move (Operand.tmp 108), type := 4, pos := "laws.go:346", after := #[{ on := 16, ground := Ground.data }, { on := 8, ground := Ground.chain }], guard := none }) (v := ?v2q17) rfl (by kernel_rfl) (by kernel_rfl) (by kernel_rfl) (fun _ _ _ h => h) (Or.inl ⟨by rfl, ?h2q17⟩) hHeld ?_
            case h2q17 => (intro w hSw; (try dsimp only at hSw); go_simp; try with_reducible rfl)
            try simp only [Act.put, List.setIfInBounds_toArray, List.set_cons_zero, List.set_cons_succ]
            refine wpAnyH_take (i := 18) (oi := { dst := some 110, op := Op.move (Operand.tmp 15), type := 3, pos := "laws.go:346", after := #[{ on := 17, ground := Ground.guard }], guard := some (17, false) }) (v := ?v2q18) rfl (by kernel_rfl) (by kernel_rfl) (by kernel_rfl) (fun _ _ _ h => h) (Or.inl ⟨by rfl, ?h2q18⟩) hHeld ?_
            case h2q18 => (intro w hSw; (try dsimp only at hSw); go_simp; try with_reducible rfl)
            try simp only [Act.put, List.setIfInBounds_toArray, List.set_cons_zero, List.set_cons_succ]
            refine wpAnyH_take (i := 19) (oi := { dst := some 111, op := Op.fieldAddr 24 (Operand.tmp 5) 0, type := 0, pos := "laws.go:346", after := #[{ on := 17, ground := Ground.guard }], guard := some (17, false) }) (v := ?v2q19) rfl (by kernel_rfl) (by kernel_rfl) (by kernel_rfl) (fun _ _ _ h => h) (Or.inl ⟨by rfl, ?h2q19⟩) hHeld ?_
            case h2q19 => (intro w hSw; (try dsimp only at hSw); go_simp; try with_reducible rfl)
            try simp only [Act.put, List.setIfInBounds_toArray, List.set_cons_zero, List.set_cons_succ]
            refine wpAnyH_take (i := 20) (oi := { dst := some 112, op := Op.load 3 (Operand.tmp 111), type := 3, pos := "laws.go:346", after := #[{ on := 19, ground := Ground.data }, { on := 17, ground := Ground.guard }], guard := some (17, false) }) (v := ?v2q20) rfl (by kernel_rfl) (by kernel_rfl) (by kernel_rfl) (fun _ _ _ h => h) (Or.inl ⟨by rfl, ?h2q20⟩) hHeld ?_
            case h2q20 => (intro w hSw; (try dsimp only at hSw); go_simp; try with_reducible rfl)
            try simp only [Act.put, List.setIfInBounds_toArray, List.set_cons_zero, List.set_cons_succ]
            refine wpAnyH_take (i := 21) (oi := { dst := some 113, op := Op.binOp BinOp.neq 3 (Operand.tmp 110) (Operand.tmp 112) 3, type := 4, pos := "laws.go:346", after := #[{ on := 18, ground := Ground.data }, { on := 20, ground := Ground.data }, { on := 17, ground := Ground.guard }], guard := some (17, false) }) (v := ?v2q21) rfl (by kernel_rfl) (by kernel_rfl) (by kernel_rfl) (fun _ _ _ h => h) (Or.inl ⟨by rfl, ?h2q21⟩) hHeld ?_
            case h2q21 => (intro w hSw; (try dsimp only at hSw); go_simp; try with_reducible rfl)
            try simp only [Act.put, List.setIfInBounds_toArray, List.set_cons_zero, List.set_cons_succ]
            refine wpAnyH_take (i := 22) (oi := { dst := some 114, op := Op.move (Operand.tmp 113), type := 4, pos := "laws.go:346", after := #[{ on := 21, ground := Ground.data }, { on := 17, ground := Ground.chain }, { on := 17, ground := Ground.guard }], guard := some (17, false) }) (v := ?v2q22) rfl (by kernel_rfl) (by kernel_rfl) (by kernel_rfl) (fun _ _ _ h => h) (Or.inl ⟨by rfl, ?h2q22⟩) hHeld ?_
            case h2q22 => (intro w hSw; (try dsimp only at hSw); go_simp; try with_reducible rfl)
            try simp only [Act.put, List.setIfInBounds_toArray, List.set_cons_zero, List.set_cons_succ]
            refine wpAnyH_take (i := 23) (oi := { dst := some 115, op := Op.move (Operand.tmp 10), type := 26, pos := "laws.go:346", after := #[{ on := 22, ground := Ground.guard }], guard := some (22, true) }) (v := ?v2q23) rfl (by kernel_rfl) (by kernel_rfl) (by kernel_rfl) (fun _ _ _ h => h) (Or.inl ⟨by rfl, ?h2q23⟩) hHeld ?_
            case h2q23 => (intro w hSw; (try dsimp only at hSw); go_simp; try with_reducible rfl)
            try simp only [Act.put, List.setIfInBounds_toArray, List.set_cons_zero, List.set_cons_succ]
            refine wpAnyH_take (i := 24) (oi := { dst := some 116, op := Op.move (Operand.tmp 15), type := 3, pos := "laws.go:346", after := #[{ on := 22, ground := Ground.guard }], guard := some (22, true) }) (v := ?v2q24) rfl (by kernel_rfl) (by kernel_rfl) (by kernel_rfl) (fun _ _ _ h => h) (Or.inl ⟨by rfl, ?h2q24⟩) hHeld ?_
            case h2q24 => (intro w hSw; (try dsimp only at hSw); go_simp; try with_reducible rfl)
            try simp only [Act.put, List.setIfInBounds_toArray, List.set_cons_zero, List.set_cons_succ]
            refine wpAnyH_take (i := 25) (oi := { dst := some 117, op := Op.indexAddr 26 (Operand.tmp 115) (Operand.tmp 116), type := 0, pos := "laws.go:346", after := #[{ on := 23, ground := Ground.data }, { on := 24, ground := Ground.data }, { on := 22, ground := Ground.guard }], guard := some (22, true) }) (v := ?v2q25) rfl (by kernel_rfl) (by kernel_rfl) (by kernel_rfl) (fun _ _ _ h => h) (Or.inl ⟨by rfl, ?h2q25⟩) hHeld ?_
            case h2q25 => (intro w hSw; (try dsimp only at hSw); go_simp; try with_reducible rfl)
            try simp only [Act.put, List.setIfInBounds_toArray, List.set_cons_zero, List.set_cons_succ]
            refine wpAnyH_take (i := 26) (oi := { dst := some 118, op := Op.load 35 (Operand.tmp 117), type := 35, pos := "laws.go:346", after := #[{ on := 25, ground := Ground.data }, { on := 22, ground := Ground.guard }], guard := some (22, true) }) (v := ?v2q26) rfl (by kernel_rfl) (by kernel_rfl) (by kernel_rfl) (fun _ _ _ h => h) (Or.inl ⟨by rfl, ?h2q26⟩) hHeld ?_
            case h2q26 => (intro w hSw; (try dsimp only at hSw); go_simp; try with_reducible rfl)
            try simp only [Act.put, List.setIfInBounds_toArray, List.set_cons_zero, List.set_cons_succ]
            refine wpAnyH_take (i := 27) (oi := { dst := some 119, op := Op.move (Operand.tmp 6), type := 26, pos := "laws.go:346", after := #[{ on := 22, ground := Ground.guard }], guard := some (22, true) }) (v := ?v2q27) rfl (by kernel_rfl) (by kernel_rfl) (by kernel_rfl) (fun _ _ _ h => h) (Or.inl ⟨by rfl, ?h2q27⟩) hHeld ?_
            case h2q27 => (intro w hSw; (try dsimp only at hSw); go_simp; try with_reducible rfl)
            try simp only [Act.put, List.setIfInBounds_toArray, List.set_cons_zero, List.set_cons_succ]
            refine wpAnyH_take (i := 28) (oi := { dst := some 120, op := Op.move (Operand.tmp 15), type := 3, pos := "laws.go:346", after := #[{ on := 22, ground := Ground.guard }], guard := some (22, true) }) (v := ?v2q28) rfl (by kernel_rfl) (by kernel_rfl) (by kernel_rfl) (fun _ _ _ h => h) (Or.inl ⟨by rfl, ?h2q28⟩) hHeld ?_
            case h2q28 => (intro w hSw; (try dsimp only at hSw); go_simp; try with_reducible rfl)
            try simp only [Act.put, List.setIfInBounds_toArray, List.set_cons_zero, List.set_cons_succ]
            refine wpAnyH_take (i := 29) (oi := { dst := some 121, op := Op.indexAddr 26 (Operand.tmp 119) (Operand.tmp 120), type := 0, pos := "laws.go:346", after := #[{ on := 27, ground := Ground.data }, { on := 28, ground := Ground.data }, { on := 22, ground := Ground.guard }], guard := some (22, true) }) (v := ?v2q29) rfl (by kernel_rfl) (by kernel_rfl) (by kernel_rfl) (fun _ _ _ h => h) (Or.inl ⟨by rfl, ?h2q29⟩) hHeld ?_
            case h2q29 => (intro w hSw; (try dsimp only at hSw); go_simp; try with_reducible rfl)
            try simp only [Act.put, List.setIfInBounds_toArray, List.set_cons_zero, List.set_cons_succ]
            refine wpAnyH_take (i := 30) (oi := { dst := some 122, op := Op.load 35 (Operand.tmp 121), type := 35, pos := "laws.go:346", after := #[{ on := 29, ground := Ground.data }, { on := 22, ground := Ground.guard }], guard := some (22, true) }) (v := ?v2q30) rfl (by kernel_rfl) (by kernel_rfl) (by kernel_rfl) (fun _ _ _ h => h) (Or.inl ⟨by rfl, ?h2q30⟩) hHeld ?_
            case h2q30 => (intro w hSw; (try dsimp only at hSw); go_simp; try with_reducible rfl)
            try simp only [Act.put, List.setIfInBounds_toArray, List.set_cons_zero, List.set_cons_succ]
            refine wpAnyH_take (i := 31) (oi := { dst := some 123, op := Op.binOp BinOp.neq 35 (Operand.tmp 118) (Operand.tmp 122) 35, type := 4, pos := "laws.go:346", after := #[{ on := 26, ground := Ground.data }, { on := 30, ground := Ground.data }, { on := 22, ground := Ground.guard }], guard := some (22, true) }) (v := ?v2q31) rfl (by kernel_rfl) (by kernel_rfl) (by kernel_rfl) (fun _ _ _ h => h) (Or.inl ⟨by rfl, ?h2q31⟩) hHeld ?_
            case h2q31 => (intro w hSw; (try dsimp only at hSw); go_simp; try with_reducible rfl)
            try simp only [Act.put, List.setIfInBounds_toArray, List.set_cons_zero, List.set_cons_succ]
            refine wpAnyH_take (i := 32) (oi := { dst := some 124, op := Op.pick (Operand.tmp 114) (Operand.tmp 123) (Operand.const (Value.bool false)), type := 4, pos := "laws.go:346", after := #[{ on := 22, ground := Ground.data }, { on := 31, ground := Ground.data }, { on := 17, ground := Ground.guard }], guard := some (17, false) }) (v := ?v2q32) rfl (by kernel_rfl) (by kernel_rfl) (by kernel_rfl) (fun _ _ _ h => h) (Or.inl ⟨by rfl, ?h2q32⟩) hHeld ?_
            case h2q32 => (intro w hSw; (try dsimp only at hSw); go_simp; try with_reducible rfl)
            try simp only [Act.put, List.setIfInBounds_toArray, List.set_cons_zero, List.set_cons_succ]
            refine wpAnyH_take (i := 33) (oi := { dst := some 125, op := Op.pick (Operand.tmp 109) (Operand.const (Value.bool true)) (Operand.tmp 124), type := 4, pos := "laws.go:346", after := #[{ on := 17, ground := Ground.data }, { on := 32, ground := Ground.data }], guard := none }) (v := ?v2q33) rfl (by kernel_rfl) (by kernel_rfl) (by kernel_rfl) (fun _ _ _ h => h) (Or.inl ⟨by rfl, ?h2q33⟩) hHeld ?_
            case h2q33 => (intro w hSw; (try dsimp only at hSw); go_simp; try with_reducible rfl)
            try simp only [Act.put, List.setIfInBounds_toArray, List.set_cons_zero, List.set_cons_succ]
            refine wpAnyH_take (i := 34) (oi := { dst := some 126, op := Op.move (Operand.tmp 125), type := 4, pos := "laws.go:346", after := #[{ on := 33, ground := Ground.data }, { on := 22, ground := Ground.chain }], guard := none }) (v := ?v2q34) rfl (by kernel_rfl) (by kernel_rfl) (by kernel_rfl) (fun _ _ _ h => h) (Or.inl ⟨by rfl, ?h2q34⟩) hHeld ?_
            case h2q34 => (intro w hSw; (try dsimp only at hSw); go_simp; try with_reducible rfl)
            try simp only [Act.put, List.setIfInBounds_toArray, List.set_cons_zero, List.set_cons_succ]
            refine wpAnyH_take (i := 35) (oi := { dst := some 127, op := Op.move (Operand.tmp 10), type := 26, pos := "laws.go:346", after := #[{ on := 34, ground := Ground.guard }], guard := some (34, false) }) (v := ?v2q35) rfl (by kernel_rfl) (by kernel_rfl) (by kernel_rfl) (fun _ _ _ h => h) (Or.inl ⟨by rfl, ?h2q35⟩) hHeld ?_
            case h2q35 => (intro w hSw; (try dsimp only at hSw); go_simp; try with_reducible rfl)
            try simp only [Act.put, List.setIfInBounds_toArray, List.set_cons_zero, List.set_cons_succ]
            refine wpAnyH_take (i := 36) (oi := { dst := some 128, op := Op.move (Operand.tmp 15), type := 3, pos := "laws.go:346", after := #[{ on := 34, ground := Ground.guard }], guard := some (34, false) }) (v := ?v2q36) rfl (by kernel_rfl) (by kernel_rfl) (by kernel_rfl) (fun _ _ _ h => h) (Or.inl ⟨by rfl, ?h2q36⟩) hHeld ?_
            case h2q36 => (intro w hSw; (try dsimp only at hSw); go_simp; try with_reducible rfl)
            try simp only [Act.put, List.setIfInBounds_toArray, List.set_cons_zero, List.set_cons_succ]
            refine wpAnyH_take (i := 37) (oi := { dst := some 129, op := Op.indexAddr 26 (Operand.tmp 127) (Operand.tmp 128), type := 0, pos := "laws.go:346", after := #[{ on := 35, ground := Ground.data }, { on := 36, ground := Ground.data }, { on := 34, ground := Ground.guard }], guard := some (34, false) }) (v := ?v2q37) rfl (by kernel_rfl) (by kernel_rfl) (by kernel_rfl) (fun _ _ _ h => h) (Or.inl ⟨by rfl, ?h2q37⟩) hHeld ?_
            case h2q37 => (intro w hSw; (try dsimp only at hSw); go_simp; try with_reducible rfl)
            try simp only [Act.put, List.setIfInBounds_toArray, List.set_cons_zero, List.set_cons_succ]
            refine wpAnyH_take (i := 38) (oi := { dst := some 130, op := Op.load 35 (Operand.tmp 129), type := 35, pos := "laws.go:346", after := #[{ on := 37, ground := Ground.data }, { on := 34, ground := Ground.guard }], guard := some (34, false) }) (v := ?v2q38) rfl (by kernel_rfl) (by kernel_rfl) (by kernel_rfl) (fun _ _ _ h => h) (Or.inl ⟨by rfl, ?h2q38⟩) hHeld ?_
            case h2q38 => (intro w hSw; (try dsimp only at hSw); go_simp; try with_reducible rfl)
            try simp only [Act.put, List.setIfInBounds_toArray, List.set_cons_zero, List.set_cons_succ]
            refine wpAnyH_ready (rs := [39]) (by kernel_rfl) (by simp) ?_
            refine AllReadyH.cons (o := { dst := some 131, op := Op.call { callee := Callee.value (Operand.func 13), args := #[Operand.tmp 130], argTypes := #[35] }, type := 4, pos := "laws.go:346", after := #[{ on := 38, ground := Ground.data }, { on := 34, ground := Ground.chain }, { on := 34, ground := Ground.guard }], guard := some (34, false) }) rfl (fun K hK => ?_) AllReadyH.nil
            go_simp
            refine (blockOK_impl y _).mono ?_
            rintro e w8 ⟨rfl, hb8⟩
            rw [unhide HYB]
            have HB8 := hide (fr (Below.refl _ wr).drew hb8)
            clear hb8
            have m0 := ((unhide HB8).cell (p := ⟨P, 0, none⟩) hPl).trans c0
            have m1 := ((unhide HB8).cell (p := ⟨P, 1, none⟩) hPl).trans c1
            have m2 := ((unhide HB8).cell (p := ⟨g, k * 4, none⟩) hgl).trans x0
            have m3 := ((unhide HB8).cell (p := ⟨g, k * 4 + 1, none⟩) hgl).trans x1
            have m4 := ((unhide HB8).cell (p := ⟨g, k * 4 + 2, none⟩) hgl).trans x2
            have m5 := ((unhide HB8).cell (p := ⟨g, k * 4 + 3, none⟩) hgl).trans x3
            have m6 := ((unhide HB8).cell (p := ⟨yb, yo + k * 4, none⟩) hyl).trans y0
            have m7 := ((unhide HB8).cell (p := ⟨yb, yo + k * 4 + 1, none⟩) hyl).trans y1
            have m8 := ((unhide HB8).cell (p := ⟨yb, yo + k * 4 + 2, none⟩) hyl).trans y2
            have m9 := ((unhide HB8).cell (p := ⟨yb, yo + k * 4 + 3, none⟩) hyl).trans y3
            go_wp2_with fail
            refine hK.out _ _ ?kB2 (fun hHeld2 => ?_)
            case kB2 => ((try dsimp only); go_keep)
            clear hK K hHeld
            try simp only [Act.put, List.setIfInBounds_toArray, List.set_cons_zero, List.set_cons_succ]
            refine wpAnyH_take (i := 40) (oi := { dst := some 132, op := Op.unOp UnOp.not 4 (Operand.tmp 131), type := 4, pos := "laws.go:346", after := #[{ on := 39, ground := Ground.data }, { on := 34, ground := Ground.guard }], guard := some (34, false) }) (v := ?v2q40) rfl (by kernel_rfl) (by kernel_rfl) (by kernel_rfl) (fun _ _ _ h => h) (Or.inl ⟨by rfl, ?h2q40⟩) hHeld2 ?_
            case h2q40 => (intro w hSw; (try dsimp only at hSw); go_simp; try with_reducible rfl)
            try simp only [Act.put, List.setIfInBounds_toArray, List.set_cons_zero, List.set_cons_succ]
            refine wpAnyH_take (i := 41) (oi := { dst := some 133, op := Op.pick (Operand.tmp 126) (Operand.const (Value.bool true)) (Operand.tmp 132), type := 4, pos := "laws.go:346", after := #[{ on := 34, ground := Ground.data }, { on := 40, ground := Ground.data }], guard := none }) (v := ?v2q41) rfl (by kernel_rfl) (by kernel_rfl) (by kernel_rfl) (fun _ _ _ h => h) (Or.inl ⟨by rfl, ?h2q41⟩) hHeld2 ?_
            case h2q41 => (intro w hSw; (try dsimp only at hSw); go_simp; try with_reducible rfl)
            try simp only [Act.put, List.setIfInBounds_toArray, List.set_cons_zero, List.set_cons_succ]
            refine wpAnyH_take (i := 42) (oi := { dst := some 134, op := Op.move (Operand.tmp 133), type := 4, pos := "laws.go:346", after := #[{ on := 41, ground := Ground.data }, { on := 39, ground := Ground.chain }], guard := none }) (v := ?v2q42) rfl (by kernel_rfl) (by kernel_rfl) (by kernel_rfl) (fun _ _ _ h => h) (Or.inl ⟨by rfl, ?h2q42⟩) hHeld2 ?_
            case h2q42 => (intro w hSw; (try dsimp only at hSw); go_simp; try with_reducible rfl)
            try simp only [Act.put, List.setIfInBounds_toArray, List.set_cons_zero, List.set_cons_succ]
            refine wpAnyH_take (i := 43) (oi := { dst := some 135, op := Op.move (Operand.tmp 10), type := 26, pos := "laws.go:346", after := #[{ on := 42, ground := Ground.guard }], guard := some (42, false) }) (v := ?v2q43) rfl (by kernel_rfl) (by kernel_rfl) (by kernel_rfl) (fun _ _ _ h => h) (Or.inl ⟨by rfl, ?h2q43⟩) hHeld2 ?_
            case h2q43 => (intro w hSw; (try dsimp only at hSw); go_simp; try with_reducible rfl)
            try simp only [Act.put, List.setIfInBounds_toArray, List.set_cons_zero, List.set_cons_succ]
            refine wpAnyH_take (i := 44) (oi := { dst := some 136, op := Op.move (Operand.tmp 15), type := 3, pos := "laws.go:346", after := #[{ on := 42, ground := Ground.guard }], guard := some (42, false) }) (v := ?v2q44) rfl (by kernel_rfl) (by kernel_rfl) (by kernel_rfl) (fun _ _ _ h => h) (Or.inl ⟨by rfl, ?h2q44⟩) hHeld2 ?_
            case h2q44 => (intro w hSw; (try dsimp only at hSw); go_simp; try with_reducible rfl)
            try simp only [Act.put, List.setIfInBounds_toArray, List.set_cons_zero, List.set_cons_succ]
            refine wpAnyH_take (i := 45) (oi := { dst := some 137, op := Op.indexAddr 26 (Operand.tmp 135) (Operand.tmp 136), type := 0, pos := "laws.go:346", after := #[{ on := 43, ground := Ground.data }, { on := 44, ground := Ground.data }, { on := 42, ground := Ground.guard }], guard := some (42, false) }) (v := ?v2q45) rfl (by kernel_rfl) (by kernel_rfl) (by kernel_rfl) (fun _ _ _ h => h) (Or.inl ⟨by rfl, ?h2q45⟩) hHeld2 ?_
            case h2q45 => (intro w hSw; (try dsimp only at hSw); go_simp; try with_reducible rfl)
            try simp only [Act.put, List.setIfInBounds_toArray, List.set_cons_zero, List.set_cons_succ]
            refine wpAnyH_take (i := 46) (oi := { dst := some 138, op := Op.fieldAddr 35 (Operand.tmp 137) 0, type := 0, pos := "laws.go:346", after := #[{ on := 45, ground := Ground.data }, { on := 42, ground := Ground.guard }], guard := some (42, false) }) (v := ?v2q46) rfl (by kernel_rfl) (by kernel_rfl) (by kernel_rfl) (fun _ _ _ h => h) (Or.inl ⟨by rfl, ?h2q46⟩) hHeld2 ?_
            case h2q46 => (intro w hSw; (try dsimp only at hSw); go_simp; try with_reducible rfl)
            try simp only [Act.put, List.setIfInBounds_toArray, List.set_cons_zero, List.set_cons_succ]
            refine wpAnyH_take (i := 47) (oi := { dst := some 139, op := Op.load 3 (Operand.tmp 138), type := 3, pos := "laws.go:346", after := #[{ on := 46, ground := Ground.data }, { on := 42, ground := Ground.guard }], guard := some (42, false) }) (v := ?v2q47) rfl (by kernel_rfl) (by kernel_rfl) (by kernel_rfl) (fun _ _ _ h => h) (Or.inl ⟨by rfl, ?h2q47⟩) hHeld2 ?_
            case h2q47 => (intro w hSw; (try dsimp only at hSw); go_simp; try with_reducible rfl)
            try simp only [Act.put, List.setIfInBounds_toArray, List.set_cons_zero, List.set_cons_succ]
            refine wpAnyH_take (i := 48) (oi := { dst := some 140, op := Op.move (Operand.tmp 6), type := 26, pos := "laws.go:346", after := #[{ on := 42, ground := Ground.guard }], guard := some (42, false) }) (v := ?v2q48) rfl (by kernel_rfl) (by kernel_rfl) (by kernel_rfl) (fun _ _ _ h => h) (Or.inl ⟨by rfl, ?h2q48⟩) hHeld2 ?_
            case h2q48 => (intro w hSw; (try dsimp only at hSw); go_simp; try with_reducible rfl)
            try simp only [Act.put, List.setIfInBounds_toArray, List.set_cons_zero, List.set_cons_succ]
            refine wpAnyH_take (i := 49) (oi := { dst := some 141, op := Op.move (Operand.tmp 15), type := 3, pos := "laws.go:346", after := #[{ on := 42, ground := Ground.guard }], guard := some (42, false) }) (v := ?v2q49) rfl (by kernel_rfl) (by kernel_rfl) (by kernel_rfl) (fun _ _ _ h => h) (Or.inl ⟨by rfl, ?h2q49⟩) hHeld2 ?_
            case h2q49 => (intro w hSw; (try dsimp only at hSw); go_simp; try with_reducible rfl)
            try simp only [Act.put, List.setIfInBounds_toArray, List.set_cons_zero, List.set_cons_succ]
            refine wpAnyH_take (i := 50) (oi := { dst := some 142, op := Op.indexAddr 26 (Operand.tmp 140) (Operand.tmp 141), type := 0, pos := "laws.go:346", after := #[{ on := 48, ground := Ground.data }, { on := 49, ground := Ground.data }, { on := 42, ground := Ground.guard }], guard := some (42, false) }) (v := ?v2q50) rfl (by kernel_rfl) (by kernel_rfl) (by kernel_rfl) (fun _ _ _ h => h) (Or.inl ⟨by rfl, ?h2q50⟩) hHeld2 ?_
            case h2q50 => (intro w hSw; (try dsimp only at hSw); go_simp; try with_reducible rfl)
            try simp only [Act.put, List.setIfInBounds_toArray, List.set_cons_zero, List.set_cons_succ]
            refine wpAnyH_take (i := 51) (oi := { dst := some 143, op := Op.fieldAddr 35 (Operand.tmp 142) 0, type := 0, pos := "laws.go:346", after := #[{ on := 50, ground := Ground.data }, { on := 42, ground := Ground.guard }], guard := some (42, false) }) (v := ?v2q51) rfl (by kernel_rfl) (by kernel_rfl) (by kernel_rfl) (fun _ _ _ h => h) (Or.inl ⟨by rfl, ?h2q51⟩) hHeld2 ?_
            case h2q51 => (intro w hSw; (try dsimp only at hSw); go_simp; try with_reducible rfl)
            try simp only [Act.put, List.setIfInBounds_toArray, List.set_cons_zero, List.set_cons_succ]
            refine wpAnyH_take (i := 52) (oi := { dst := some 144, op := Op.load 3 (Operand.tmp 143), type := 3, pos := "laws.go:346", after := #[{ on := 51, ground := Ground.data }, { on := 42, ground := Ground.guard }], guard := some (42, false) }) (v := ?v2q52) rfl (by kernel_rfl) (by kernel_rfl) (by kernel_rfl) (fun _ _ _ h => h) (Or.inl ⟨by rfl, ?h2q52⟩) hHeld2 ?_
            case h2q52 => (intro w hSw; (try dsimp only at hSw); go_simp; try with_reducible rfl)
            try simp only [Act.put, List.setIfInBounds_toArray, List.set_cons_zero, List.set_cons_succ]
            refine wpAnyH_take (i := 53) (oi := { dst := some 145, op := Op.binOp BinOp.eql 3 (Operand.tmp 139) (Operand.tmp 144) 3, type := 4, pos := "laws.go:346", after := #[{ on := 47, ground := Ground.data }, { on := 52, ground := Ground.data }, { on := 42, ground := Ground.guard }], guard := some (42, false) }) (v := ?v2q53) rfl (by kernel_rfl) (by kernel_rfl) (by kernel_rfl) (fun _ _ _ h => h) (Or.inl ⟨by rfl, ?h2q53⟩) hHeld2 ?_
            case h2q53 => (intro w hSw; (try dsimp only at hSw); go_simp; try with_reducible rfl)
            try simp only [Act.put, List.setIfInBounds_toArray, List.set_cons_zero, List.set_cons_succ]
            refine wpAnyH_take (i := 54) (oi := { dst := some 146, op := Op.move (Operand.tmp 145), type := 4, pos := "laws.go:346", after := #[{ on := 53, ground := Ground.data }, { on := 42, ground := Ground.chain }, { on := 42, ground := Ground.guard }], guard := some (42, false) }) (v := ?v2q54) rfl (by kernel_rfl) (by kernel_rfl) (by kernel_rfl) (fun _ _ _ h => h) (Or.inl ⟨by rfl, ?h2q54⟩) hHeld2 ?_
            case h2q54 => (intro w hSw; (try dsimp only at hSw); go_simp; try with_reducible rfl)
            try simp only [Act.put, List.setIfInBounds_toArray, List.set_cons_zero, List.set_cons_succ]
            refine wpAnyH_take (i := 55) (oi := { dst := some 147, op := Op.move (Operand.tmp 10), type := 26, pos := "laws.go:346", after := #[{ on := 54, ground := Ground.guard }], guard := some (54, true) }) (v := ?v2q55) rfl (by kernel_rfl) (by kernel_rfl) (by kernel_rfl) (fun _ _ _ h => h) (Or.inl ⟨by rfl, ?h2q55⟩) hHeld2 ?_
            case h2q55 => (intro w hSw; (try dsimp only at hSw); go_simp; try with_reducible rfl)
            try simp only [Act.put, List.setIfInBounds_toArray, List.set_cons_zero, List.set_cons_succ]
            refine wpAnyH_take (i := 56) (oi := { dst := some 148, op := Op.move (Operand.tmp 15), type := 3, pos := "laws.go:346", after := #[{ on := 54, ground := Ground.guard }], guard := some (54, true) }) (v := ?v2q56) rfl (by kernel_rfl) (by kernel_rfl) (by kernel_rfl) (fun _ _ _ h => h) (Or.inl ⟨by rfl, ?h2q56⟩) hHeld2 ?_
            case h2q56 => (intro w hSw; (try dsimp only at hSw); go_simp; try with_reducible rfl)
            try simp only [Act.put, List.setIfInBounds_toArray, List.set_cons_zero, List.set_cons_succ]
            refine wpAnyH_take (i := 57) (oi := { dst := some 149, op := Op.indexAddr 26 (Operand.tmp 147) (Operand.tmp 148), type := 0, pos := "laws.go:346", after := #[{ on := 55, ground := Ground.data }, { on := 56, ground := Ground.data }, { on := 54, ground := Ground.guard }], guard := some (54, true) }) (v := ?v2q57) rfl (by kernel_rfl) (by kernel_rfl) (by kernel_rfl) (fun _ _ _ h => h) (Or.inl ⟨by rfl, ?h2q57⟩) hHeld2 ?_
            case h2q57 => (intro w hSw; (try dsimp only at hSw); go_simp; try with_reducible rfl)
            try simp only [Act.put, List.setIfInBounds_toArray, List.set_cons_zero, List.set_cons_succ]
            refine wpAnyH_take (i := 58) (oi := { dst := some 150, op := Op.fieldAddr 35 (Operand.tmp 149) 1, type := 0, pos := "laws.go:346", after := #[{ on := 57, ground := Ground.data }, { on := 54, ground := Ground.guard }], guard := some (54, true) }) (v := ?v2q58) rfl (by kernel_rfl) (by kernel_rfl) (by kernel_rfl) (fun _ _ _ h => h) (Or.inl ⟨by rfl, ?h2q58⟩) hHeld2 ?_
            case h2q58 => (intro w hSw; (try dsimp only at hSw); go_simp; try with_reducible rfl)
            try simp only [Act.put, List.setIfInBounds_toArray, List.set_cons_zero, List.set_cons_succ]
            refine wpAnyH_take (i := 59) (oi := { dst := some 151, op := Op.load 3 (Operand.tmp 150), type := 3, pos := "laws.go:346", after := #[{ on := 58, ground := Ground.data }, { on := 54, ground := Ground.guard }], guard := some (54, true) }) (v := ?v2q59) rfl (by kernel_rfl) (by kernel_rfl) (by kernel_rfl) (fun _ _ _ h => h) (Or.inl ⟨by rfl, ?h2q59⟩) hHeld2 ?_
            case h2q59 => (intro w hSw; (try dsimp only at hSw); go_simp; try with_reducible rfl)
            try simp only [Act.put, List.setIfInBounds_toArray, List.set_cons_zero, List.set_cons_succ]
            refine wpAnyH_take (i := 60) (oi := { dst := some 152, op := Op.move (Operand.tmp 6), type := 26, pos := "laws.go:346", after := #[{ on := 54, ground := Ground.guard }], guard := some (54, true) }) (v := ?v2q60) rfl (by kernel_rfl) (by kernel_rfl) (by kernel_rfl) (fun _ _ _ h => h) (Or.inl ⟨by rfl, ?h2q60⟩) hHeld2 ?_
            case h2q60 => (intro w hSw; (try dsimp only at hSw); go_simp; try with_reducible rfl)
            try simp only [Act.put, List.setIfInBounds_toArray, List.set_cons_zero, List.set_cons_succ]
            refine wpAnyH_take (i := 61) (oi := { dst := some 153, op := Op.move (Operand.tmp 15), type := 3, pos := "laws.go:346", after := #[{ on := 54, ground := Ground.guard }], guard := some (54, true) }) (v := ?v2q61) rfl (by kernel_rfl) (by kernel_rfl) (by kernel_rfl) (fun _ _ _ h => h) (Or.inl ⟨by rfl, ?h2q61⟩) hHeld2 ?_
            case h2q61 => (intro w hSw; (try dsimp only at hSw); go_simp; try with_reducible rfl)
            try simp only [Act.put, List.setIfInBounds_toArray, List.set_cons_zero, List.set_cons_succ]
            refine wpAnyH_take (i := 62) (oi := { dst := some 154, op := Op.indexAddr 26 (Operand.tmp 152) (Operand.tmp 153), type := 0, pos := "laws.go:346", after := #[{ on := 60, ground := Ground.data }, { on := 61, ground := Ground.data }, { on := 54, ground := Ground.guard }], guard := some (54, true) }) (v := ?v2q62) rfl (by kernel_rfl) (by kernel_rfl) (by kernel_rfl) (fun _ _ _ h => h) (Or.inl ⟨by rfl, ?h2q62⟩) hHeld2 ?_
            case h2q62 => (intro w hSw; (try dsimp only at hSw); go_simp; try with_reducible rfl)
            try simp only [Act.put, List.setIfInBounds_toArray, List.set_cons_zero, List.set_cons_succ]
            refine wpAnyH_take (i := 63) (oi := { dst := some 155, op := Op.fieldAddr 35 (Operand.tmp 154) 1, type := 0, pos := "laws.go:346", after := #[{ on := 62, ground := Ground.data }, { on := 54, ground := Ground.guard }], guard := some (54, true) }) (v := ?v2q63) rfl (by kernel_rfl) (by kernel_rfl) (by kernel_rfl) (fun _ _ _ h => h) (Or.inl ⟨by rfl, ?h2q63⟩) hHeld2 ?_
            case h2q63 => (intro w hSw; (try dsimp only at hSw); go_simp; try with_reducible rfl)
            try simp only [Act.put, List.setIfInBounds_toArray, List.set_cons_zero, List.set_cons_succ]
            refine wpAnyH_take (i := 64) (oi := { dst := some 156, op := Op.load 3 (Operand.tmp 155), type := 3, pos := "laws.go:346", after := #[{ on := 63, ground := Ground.data }, { on := 54, ground := Ground.guard }], guard := some (54, true) }) (v := ?v2q64) rfl (by kernel_rfl) (by kernel_rfl) (by kernel_rfl) (fun _ _ _ h => h) (Or.inl ⟨by rfl, ?h2q64⟩) hHeld2 ?_
            case h2q64 => (intro w hSw; (try dsimp only at hSw); go_simp; try with_reducible rfl)
            try simp only [Act.put, List.setIfInBounds_toArray, List.set_cons_zero, List.set_cons_succ]
            refine wpAnyH_take (i := 65) (oi := { dst := some 157, op := Op.binOp BinOp.lss 3 (Operand.tmp 151) (Operand.tmp 156) 3, type := 4, pos := "laws.go:346", after := #[{ on := 59, ground := Ground.data }, { on := 64, ground := Ground.data }, { on := 54, ground := Ground.guard }], guard := some (54, true) }) (v := ?v2q65) rfl (by kernel_rfl) (by kernel_rfl) (by kernel_rfl) (fun _ _ _ h => h) (Or.inl ⟨by rfl, ?h2q65⟩) hHeld2 ?_
            case h2q65 => (intro w hSw; (try dsimp only at hSw); go_simp; try with_reducible rfl)
            try simp only [Act.put, List.setIfInBounds_toArray, List.set_cons_zero, List.set_cons_succ]
            refine wpAnyH_take (i := 66) (oi := { dst := some 158, op := Op.pick (Operand.tmp 146) (Operand.tmp 157) (Operand.const (Value.bool false)), type := 4, pos := "laws.go:346", after := #[{ on := 54, ground := Ground.data }, { on := 65, ground := Ground.data }, { on := 42, ground := Ground.guard }], guard := some (42, false) }) (v := ?v2q66) rfl (by kernel_rfl) (by kernel_rfl) (by kernel_rfl) (fun _ _ _ h => h) (Or.inl ⟨by rfl, ?h2q66⟩) hHeld2 ?_
            case h2q66 => (intro w hSw; (try dsimp only at hSw); go_simp; try with_reducible rfl)
            try simp only [Act.put, List.setIfInBounds_toArray, List.set_cons_zero, List.set_cons_succ]
            refine wpAnyH_take (i := 67) (oi := { dst := some 159, op := Op.pick (Operand.tmp 134) (Operand.const (Value.bool true)) (Operand.tmp 158), type := 4, pos := "laws.go:346", after := #[{ on := 42, ground := Ground.data }, { on := 66, ground := Ground.data }], guard := none }) (v := ?v2q67) rfl (by kernel_rfl) (by kernel_rfl) (by kernel_rfl) (fun _ _ _ h => h) (Or.inl ⟨by rfl, ?h2q67⟩) hHeld2 ?_
            case h2q67 => (intro w hSw; (try dsimp only at hSw); go_simp; try with_reducible rfl)
            try simp only [Act.put, List.setIfInBounds_toArray, List.set_cons_zero, List.set_cons_succ]
            refine wpAnyH_done (by kernel_rfl) ?_ _
            go_wp2_with fail
            go_meet
            first | exact ⟨rfl, hide (fr (unhide HB) (unhide HB8))⟩ | exact ⟨congrArg Value.bool (decide_eq_false (by first | exact hm2 | exact Int.not_lt.2 hm2)), hide (fr (unhide HB) (unhide HB8))⟩
        · by_cases ho : (k : Int) = p.host
          · have bo : ((k : Int) != p.host) = false := by rw [ho]; exact bne_self_eq_false _
            clear ho
            by_cases hm : y.ver = x.ver
            · have bm : (y.ver == x.ver) = true := beq_iff_eq.2 hm
              have hm2 : ¬ y.mbal < x.mbal := by have := unhide HM hm; omega
              clear hm
              refine wp_region_held_drew (S := (fun w' => w'.cell? ⟨P, 0, none⟩ = some (.int .i64 p.host) ∧ w'.cell? ⟨P, 1, none⟩ = some (.int .i64 p.ver) ∧ w'.cell? ⟨g, k * 4, none⟩ = some (.int .i64 x.ver) ∧ w'.cell? ⟨g, k * 4 + 1, none⟩ = some (.int .i64 x.mbal) ∧ w'.cell? ⟨g, k * 4 + 2, none⟩ = some (.int .i64 x.bal) ∧ w'.cell? ⟨g, k * 4 + 3, none⟩ = some (.int .i64 x.inp) ∧ w'.cell? ⟨yb, yo + k * 4, none⟩ = some (.int .i64 y.ver) ∧ w'.cell? ⟨yb, yo + k * 4 + 1, none⟩ = some (.int .i64 y.mbal) ∧ w'.cell? ⟨yb, yo + k * 4 + 2, none⟩ = some (.int .i64 y.bal) ∧ w'.cell? ⟨yb, yo + k * 4 + 3, none⟩ = some (.int .i64 y.inp))) (by kernel_rfl) ?kA3 (fun hHeld => ?_)
              case kA3 => ((try dsimp only); go_keep)
              refine wpAnyH_take (i := 0) (oi := { dst := some 92, op := Op.move (Operand.tmp 6), type := 26, pos := "laws.go:346", after := #[], guard := none }) (v := ?v3q0) rfl (by kernel_rfl) (by kernel_rfl) (by kernel_rfl) (fun _ _ _ h => h) (Or.inl ⟨by rfl, ?h3q0⟩) hHeld ?_
              case h3q0 => (intro w hSw; (try dsimp only at hSw); go_simp; try with_reducible rfl)
              try simp only [Act.put, List.setIfInBounds_toArray, List.set_cons_zero, List.set_cons_succ]
              refine wpAnyH_take (i := 1) (oi := { dst := some 93, op := Op.move (Operand.tmp 15), type := 3, pos := "laws.go:346", after := #[], guard := none }) (v := ?v3q1) rfl (by kernel_rfl) (by kernel_rfl) (by kernel_rfl) (fun _ _ _ h => h) (Or.inl ⟨by rfl, ?h3q1⟩) hHeld ?_
              case h3q1 => (intro w hSw; (try dsimp only at hSw); go_simp; try with_reducible rfl)
              try simp only [Act.put, List.setIfInBounds_toArray, List.set_cons_zero, List.set_cons_succ]
              refine wpAnyH_take (i := 2) (oi := { dst := some 94, op := Op.indexAddr 26 (Operand.tmp 92) (Operand.tmp 93), type := 0, pos := "laws.go:346", after := #[{ on := 0, ground := Ground.data }, { on := 1, ground := Ground.data }], guard := none }) (v := ?v3q2) rfl (by kernel_rfl) (by kernel_rfl) (by kernel_rfl) (fun _ _ _ h => h) (Or.inl ⟨by rfl, ?h3q2⟩) hHeld ?_
              case h3q2 => (intro w hSw; (try dsimp only at hSw); go_simp; try with_reducible rfl)
              try simp only [Act.put, List.setIfInBounds_toArray, List.set_cons_zero, List.set_cons_succ]
              refine wpAnyH_take (i := 3) (oi := { dst := some 95, op := Op.fieldAddr 35 (Operand.tmp 94) 0, type := 0, pos := "laws.go:346", after := #[{ on := 2, ground := Ground.data }], guard := none }) (v := ?v3q3) rfl (by kernel_rfl) (by kernel_rfl) (by kernel_rfl) (fun _ _ _ h => h) (Or.inl ⟨by rfl, ?h3q3⟩) hHeld ?_
              case h3q3 => (intro w hSw; (try dsimp only at hSw); go_simp; try with_reducible rfl)
              try simp only [Act.put, List.setIfInBounds_toArray, List.set_cons_zero, List.set_cons_succ]
              refine wpAnyH_take (i := 4) (oi := { dst := some 96, op := Op.load 3 (Operand.tmp 95), type := 3, pos := "laws.go:346", after := #[{ on := 3, ground := Ground.data }], guard := none }) (v := ?v3q4) rfl (by kernel_rfl) (by kernel_rfl) (by kernel_rfl) (fun _ _ _ h => h) (Or.inl ⟨by rfl, ?h3q4⟩) hHeld ?_
              case h3q4 => (intro w hSw; (try dsimp only at hSw); go_simp; try with_reducible rfl)
              try simp only [Act.put, List.setIfInBounds_toArray, List.set_cons_zero, List.set_cons_succ]
              refine wpAnyH_take (i := 5) (oi := { dst := some 97, op := Op.fieldAddr 24 (Operand.tmp 5) 1, type := 0, pos := "laws.go:346", after := #[], guard := none }) (v := ?v3q5) rfl (by kernel_rfl) (by kernel_rfl) (by kernel_rfl) (fun _ _ _ h => h) (Or.inl ⟨by rfl, ?h3q5⟩) hHeld ?_
              case h3q5 => (intro w hSw; (try dsimp only at hSw); go_simp; try with_reducible rfl)
              try simp only [Act.put, List.setIfInBounds_toArray, List.set_cons_zero, List.set_cons_succ]
              refine wpAnyH_take (i := 6) (oi := { dst := some 98, op := Op.load 3 (Operand.tmp 97), type := 3, pos := "laws.go:346", after := #[{ on := 5, ground := Ground.data }], guard := none }) (v := ?v3q6) rfl (by kernel_rfl) (by kernel_rfl) (by kernel_rfl) (fun _ _ _ h => h) (Or.inl ⟨by rfl, ?h3q6⟩) hHeld ?_
              case h3q6 => (intro w hSw; (try dsimp only at hSw); go_simp; try with_reducible rfl)
              try simp only [Act.put, List.setIfInBounds_toArray, List.set_cons_zero, List.set_cons_succ]
              refine wpAnyH_take (i := 7) (oi := { dst := some 99, op := Op.binOp BinOp.geq 3 (Operand.tmp 96) (Operand.tmp 98) 3, type := 4, pos := "laws.go:346", after := #[{ on := 4, ground := Ground.data }, { on := 6, ground := Ground.data }], guard := none }) (v := ?v3q7) rfl (by kernel_rfl) (by kernel_rfl) (by kernel_rfl) (fun _ _ _ h => h) (Or.inl ⟨by rfl, ?h3q7⟩) hHeld ?_
              case h3q7 => (intro w hSw; (try dsimp only at hSw); go_simp; try with_reducible rfl)
              try simp only [Act.put, List.setIfInBounds_toArray, List.set_cons_zero, List.set_cons_succ]
              refine wpAnyH_take (i := 8) (oi := { dst := some 100, op := Op.move (Operand.tmp 99), type := 4, pos := "laws.go:346", after := #[{ on := 7, ground := Ground.data }], guard := none }) (v := ?v3q8) rfl (by kernel_rfl) (by kernel_rfl) (by kernel_rfl) (fun _ _ _ h => h) (Or.inl ⟨by rfl, ?h3q8⟩) hHeld ?_
              case h3q8 => (intro w hSw; (try dsimp only at hSw); go_simp; try with_reducible rfl)
              try simp only [Act.put, List.setIfInBounds_toArray, List.set_cons_zero, List.set_cons_succ]
              refine wpAnyH_take (i := 9) (oi := { dst := some 101, op := Op.move (Operand.tmp 6), type := 26, pos := "laws.go:346", after := #[{ on := 8, ground := Ground.guard }], guard := some (8, true) }) (v := undef) rfl (by kernel_rfl) (by kernel_rfl) (by kernel_rfl) (fun _ _ _ h => h) (Or.inr ⟨by rfl, rfl⟩) hHeld ?_
              try simp only [Act.put, List.setIfInBounds_toArray, List.set_cons_zero, List.set_cons_succ]
              refine wpAnyH_take (i := 10) (oi := { dst := some 102, op := Op.move (Operand.tmp 15), type := 3, pos := "laws.go:346", after := #[{ on := 8, ground := Ground.guard }], guard := some (8, true) }) (v := undef) rfl (by kernel_rfl) (by kernel_rfl) (by kernel_rfl) (fun _ _ _ h => h) (Or.inr ⟨by rfl, rfl⟩) hHeld ?_
              try simp only [Act.put, List.setIfInBounds_toArray, List.set_cons_zero, List.set_cons_succ]
              refine wpAnyH_take (i := 11) (oi := { dst := some 103, op := Op.indexAddr 26 (Operand.tmp 101) (Operand.tmp 102), type := 0, pos := "laws.go:346", after := #[{ on := 9, ground := Ground.data }, { on := 10, ground := Ground.data }, { on := 8, ground := Ground.guard }], guard := some (8, true) }) (v := undef) rfl (by kernel_rfl) (by kernel_rfl) (by kernel_rfl) (fun _ _ _ h => h) (Or.inr ⟨by rfl, rfl⟩) hHeld ?_
              try simp only [Act.put, List.setIfInBounds_toArray, List.set_cons_zero, List.set_cons_succ]
              refine wpAnyH_take (i := 12) (oi := { dst := some 104, op := Op.fieldAddr 35 (Operand.tmp 103) 1, type := 0, pos := "laws.go:346", after := #[{ on := 11, ground := Ground.data }, { on := 8, ground := Ground.guard }], guard := some (8, true) }) (v := undef) rfl (by kernel_rfl) (by kernel_rfl) (by kernel_rfl) (fun _ _ _ h => h) (Or.inr ⟨by rfl, rfl⟩) hHeld ?_
              try simp only [Act.put, List.setIfInBounds_toArray, List.set_cons_zero, List.set_cons_succ]
              refine wpAnyH_take (i := 13) (oi := { dst := some 105, op := Op.load 3 (Operand.tmp 104), type := 3, pos := "laws.go:346", after := #[{ on := 12, ground := Ground.data }, { on := 8, ground := Ground.guard }], guard := some (8, true) }) (v := undef) rfl (by kernel_rfl) (by kernel_rfl) (by kernel_rfl) (fun _ _ _ h => h) (Or.inr ⟨by rfl, rfl⟩) hHeld ?_
              try simp only [Act.put, List.setIfInBounds_toArray, List.set_cons_zero, List.set_cons_succ]
              refine wpAnyH_take (i := 14) (oi := { dst := some 106, op := Op.move (Operand.tmp 7), type := 3, pos := "laws.go:346", after := #[{ on := 8, ground := Ground.guard }], guard := some (8, true) }) (v := undef) rfl (by kernel_rfl) (by kernel_rfl) (by kernel_rfl) (fun _ _ _ h => h) (Or.inr ⟨by rfl, rfl⟩) hHeld ?_
              try simp only [Act.put, List.setIfInBounds_toArray, List.set_cons_zero, List.set_cons_succ]
              refine wpAnyH_take (i := 15) (oi := { dst := some 107, op := Op.binOp BinOp.geq 3 (Operand.tmp 105) (Operand.tmp 106) 3, type := 4, pos := "laws.go:346", after := #[{ on := 13, ground := Ground.data }, { on := 14, ground := Ground.data }, { on := 8, ground := Ground.guard }], guard := some (8, true) }) (v := undef) rfl (by kernel_rfl) (by kernel_rfl) (by kernel_rfl) (fun _ _ _ h => h) (Or.inr ⟨by rfl, rfl⟩) hHeld ?_
              try simp only [Act.put, List.setIfInBounds_toArray, List.set_cons_zero, List.set_cons_succ]
              refine wpAnyH_take (i := 16) (oi := { dst := some 108, op := Op.pick (Operand.tmp 100) (Operand.tmp 107) (Operand.const (Value.bool false)), type := 4, pos := "laws.go:346", after := #[{ on := 8, ground := Ground.data }, { on := 15, ground := Ground.data }], guard := none }) (v := ?v3q16) rfl (by kernel_rfl) (by kernel_rfl) (by kernel_rfl) (fun _ _ _ h => h) (Or.inl ⟨by rfl, ?h3q16⟩) hHeld ?_
              case h3q16 => (intro w hSw; (try dsimp only at hSw); go_simp; try with_reducible rfl)
              try simp only [Act.put, List.setIfInBounds_toArray, List.set_cons_zero, List.set_cons_succ]
              refine wpAnyH_take (i := 17) (oi := { dst := some 109, op := Op.move (Operand.tmp 108), type := 4, pos := "laws.go:346", after := #[{ on := 16, ground := Ground.data }, { on := 8, ground := Ground.chain }], guard := none }) (v := ?v3q17) rfl (by kernel_rfl) (by kernel_rfl) (by kernel_rfl) (fun _ _ _ h => h) (Or.inl ⟨by rfl, ?h3q17⟩) hHeld ?_
              case h3q17 => (intro w hSw; (try dsimp only at hSw); go_simp; try with_reducible rfl)
              try simp only [Act.put, List.setIfInBounds_toArray, List.set_cons_zero, List.set_cons_succ]
              refine wpAnyH_take (i := 18) (oi := { dst := some 110, op := Op.move (Operand.tmp 15), type := 3, pos := "laws.go:346", after := #[{ on := 17, ground := Ground.guard }], guard := some (17, false) }) (v := ?v3q18) rfl (by kernel_rfl) (by kernel_rfl) (by kernel_rfl) (fun _ _ _ h => h) (Or.inl ⟨by rfl, ?h3q18⟩) hHeld ?_
              case h3q18 => (intro w hSw; (try dsimp only at hSw); go_simp; try with_reducible rfl)
              try simp only [Act.put, List.setIfInBounds_toArray, List.set_cons_zero, List.set_cons_succ]
              refine wpAnyH_take (i := 19) (oi := { dst := some 111, op := Op.fieldAddr 24 (Operand.tmp 5) 0, type := 0, pos := "laws.go:346", after := #[{ on := 17, ground := Ground.guard }], guard := some (17, false) }) (v := ?v3q19) rfl (by kernel_rfl) (by kernel_rfl) (by kernel_rfl) (fun _ _ _ h => h) (Or.inl ⟨by rfl, ?h3q19⟩) hHeld ?_
              case h3q19 => (intro w hSw; (try dsimp only at hSw); go_simp; try with_reducible rfl)
              try simp only [Act.put, List.setIfInBounds_toArray, List.set_cons_zero, List.set_cons_succ]
              refine wpAnyH_take (i := 20) (oi := { dst := some 112, op := Op.load 3 (Operand.tmp 111), type := 3, pos := "laws.go:346", after := #[{ on := 19, ground := Ground.data }, { on := 17, ground := Ground.guard }], guard := some (17, false) }) (v := ?v3q20) rfl (by kernel_rfl) (by kernel_rfl) (by kernel_rfl) (fun _ _ _ h => h) (Or.inl ⟨by rfl, ?h3q20⟩) hHeld ?_
              case h3q20 => (intro w hSw; (try dsimp only at hSw); go_simp; try with_reducible rfl)
              try simp only [Act.put, List.setIfInBounds_toArray, List.set_cons_zero, List.set_cons_succ]
              refine wpAnyH_take (i := 21) (oi := { dst := some 113, op := Op.binOp BinOp.neq 3 (Operand.tmp 110) (Operand.tmp 112) 3, type := 4, pos := "laws.go:346", after := #[{ on := 18, ground := Ground.data }, { on := 20, ground := Ground.data }, { on := 17, ground := Ground.guard }], guard := some (17, false) }) (v := ?v3q21) rfl (by kernel_rfl) (by kernel_rfl) (by kernel_rfl) (fun _ _ _ h => h) (Or.inl ⟨by rfl, ?h3q21⟩) hHeld ?_
              case h3q21 => (intro w hSw; (try dsimp only at hSw); go_simp; try with_reducible rfl)
              try simp only [Act.put, List.setIfInBounds_toArray, List.set_cons_zero, List.set_cons_succ]
              refine wpAnyH_take (i := 22) (oi := { dst := some 114, op := Op.move (Operand.tmp 113), type := 4, pos := "laws.go:346", after := #[{ on := 21, ground := Ground.data }, { on := 17, ground := Ground.chain }, { on := 17, ground := Ground.guard }], guard := some (17, false) }) (v := ?v3q22) rfl (by kernel_rfl) (by kernel_rfl) (by kernel_rfl) (fun _ _ _ h => h) (Or.inl ⟨by rfl, ?h3q22⟩) hHeld ?_
              case h3q22 => (intro w hSw; (try dsimp only at hSw); go_simp; try with_reducible rfl)
              try simp only [Act.put, List.setIfInBounds_toArray, List.set_cons_zero, List.set_cons_succ]
              refine wpAnyH_take (i := 23) (oi := { dst := some 115, op := Op.move (Operand.tmp 10), type := 26, pos := "laws.go:346", after := #[{ on := 22, ground := Ground.guard }], guard := some (22, true) }) (v := undef) rfl (by kernel_rfl) (by kernel_rfl) (by kernel_rfl) (fun _ _ _ h => h) (Or.inr ⟨by rfl, rfl⟩) hHeld ?_
              try simp only [Act.put, List.setIfInBounds_toArray, List.set_cons_zero, List.set_cons_succ]
              refine wpAnyH_take (i := 24) (oi := { dst := some 116, op := Op.move (Operand.tmp 15), type := 3, pos := "laws.go:346", after := #[{ on := 22, ground := Ground.guard }], guard := some (22, true) }) (v := undef) rfl (by kernel_rfl) (by kernel_rfl) (by kernel_rfl) (fun _ _ _ h => h) (Or.inr ⟨by rfl, rfl⟩) hHeld ?_
              try simp only [Act.put, List.setIfInBounds_toArray, List.set_cons_zero, List.set_cons_succ]
              refine wpAnyH_take (i := 25) (oi := { dst := some 117, op := Op.indexAddr 26 (Operand.tmp 115) (Operand.tmp 116), type := 0, pos := "laws.go:346", after := #[{ on := 23, ground := Ground.data }, { on := 24, ground := Ground.data }, { on := 22, ground := Ground.guard }], guard := some (22, true) }) (v := undef) rfl (by kernel_rfl) (by kernel_rfl) (by kernel_rfl) (fun _ _ _ h => h) (Or.inr ⟨by rfl, rfl⟩) hHeld ?_
              try simp only [Act.put, List.setIfInBounds_toArray, List.set_cons_zero, List.set_cons_succ]
              refine wpAnyH_take (i := 26) (oi := { dst := some 118, op := Op.load 35 (Operand.tmp 117), type := 35, pos := "laws.go:346", after := #[{ on := 25, ground := Ground.data }, { on := 22, ground := Ground.guard }], guard := some (22, true) }) (v := undef) rfl (by kernel_rfl) (by kernel_rfl) (by kernel_rfl) (fun _ _ _ h => h) (Or.inr ⟨by rfl, rfl⟩) hHeld ?_
              try simp only [Act.put, List.setIfInBounds_toArray, List.set_cons_zero, List.set_cons_succ]
              refine wpAnyH_take (i := 27) (oi := { dst := some 119, op := Op.move (Operand.tmp 6), type := 26, pos := "laws.go:346", after := #[{ on := 22, ground := Ground.guard }], guard := some (22, true) }) (v := undef) rfl (by kernel_rfl) (by kernel_rfl) (by kernel_rfl) (fun _ _ _ h => h) (Or.inr ⟨by rfl, rfl⟩) hHeld ?_
              try simp only [Act.put, List.setIfInBounds_toArray, List.set_cons_zero, List.set_cons_succ]
              refine wpAnyH_take (i := 28) (oi := { dst := some 120, op := Op.move (Operand.tmp 15), type := 3, pos := "laws.go:346", after := #[{ on := 22, ground := Ground.guard }], guard := some (22, true) }) (v := undef) rfl (by kernel_rfl) (by kernel_rfl) (by kernel_rfl) (fun _ _ _ h => h) (Or.inr ⟨by rfl, rfl⟩) hHeld ?_
              try simp only [Act.put, List.setIfInBounds_toArray, List.set_cons_zero, List.set_cons_succ]
              refine wpAnyH_take (i := 29) (oi := { dst := some 121, op := Op.indexAddr 26 (Operand.tmp 119) (Operand.tmp 120), type := 0, pos := "laws.go:346", after := #[{ on := 27, ground := Ground.data }, { on := 28, ground := Ground.data }, { on := 22, ground := Ground.guard }], guard := some (22, true) }) (v := undef) rfl (by kernel_rfl) (by kernel_rfl) (by kernel_rfl) (fun _ _ _ h => h) (Or.inr ⟨by rfl, rfl⟩) hHeld ?_
              try simp only [Act.put, List.setIfInBounds_toArray, List.set_cons_zero, List.set_cons_succ]
              refine wpAnyH_take (i := 30) (oi := { dst := some 122, op := Op.load 35 (Operand.tmp 121), type := 35, pos := "laws.go:346", after := #[{ on := 29, ground := Ground.data }, { on := 22, ground := Ground.guard }], guard := some (22, true) }) (v := undef) rfl (by kernel_rfl) (by kernel_rfl) (by kernel_rfl) (fun _ _ _ h => h) (Or.inr ⟨by rfl, rfl⟩) hHeld ?_
              try simp only [Act.put, List.setIfInBounds_toArray, List.set_cons_zero, List.set_cons_succ]
              refine wpAnyH_take (i := 31) (oi := { dst := some 123, op := Op.binOp BinOp.neq 35 (Operand.tmp 118) (Operand.tmp 122) 35, type := 4, pos := "laws.go:346", after := #[{ on := 26, ground := Ground.data }, { on := 30, ground := Ground.data }, { on := 22, ground := Ground.guard }], guard := some (22, true) }) (v := undef) rfl (by kernel_rfl) (by kernel_rfl) (by kernel_rfl) (fun _ _ _ h => h) (Or.inr ⟨by rfl, rfl⟩) hHeld ?_
              try simp only [Act.put, List.setIfInBounds_toArray, List.set_cons_zero, List.set_cons_succ]
              refine wpAnyH_take (i := 32) (oi := { dst := some 124, op := Op.pick (Operand.tmp 114) (Operand.tmp 123) (Operand.const (Value.bool false)), type := 4, pos := "laws.go:346", after := #[{ on := 22, ground := Ground.data }, { on := 31, ground := Ground.data }, { on := 17, ground := Ground.guard }], guard := some (17, false) }) (v := ?v3q32) rfl (by kernel_rfl) (by kernel_rfl) (by kernel_rfl) (fun _ _ _ h => h) (Or.inl ⟨by rfl, ?h3q32⟩) hHeld ?_
              case h3q32 => (intro w hSw; (try dsimp only at hSw); go_simp; try with_reducible rfl)
              try simp only [Act.put, List.setIfInBounds_toArray, List.set_cons_zero, List.set_cons_succ]
              refine wpAnyH_take (i := 33) (oi := { dst := some 125, op := Op.pick (Operand.tmp 109) (Operand.const (Value.bool true)) (Operand.tmp 124), type := 4, pos := "laws.go:346", after := #[{ on := 17, ground := Ground.data }, { on := 32, ground := Ground.data }], guard := none }) (v := ?v3q33) rfl (by kernel_rfl) (by kernel_rfl) (by kernel_rfl) (fun _ _ _ h => h) (Or.inl ⟨by rfl, ?h3q33⟩) hHeld ?_
              case h3q33 => (intro w hSw; (try dsimp only at hSw); go_simp; try with_reducible rfl)
              try simp only [Act.put, List.setIfInBounds_toArray, List.set_cons_zero, List.set_cons_succ]
              refine wpAnyH_take (i := 34) (oi := { dst := some 126, op := Op.move (Operand.tmp 125), type := 4, pos := "laws.go:346", after := #[{ on := 33, ground := Ground.data }, { on := 22, ground := Ground.chain }], guard := none }) (v := ?v3q34) rfl (by kernel_rfl) (by kernel_rfl) (by kernel_rfl) (fun _ _ _ h => h) (Or.inl ⟨by rfl, ?h3q34⟩) hHeld ?_
              case h3q34 => (intro w hSw; (try dsimp only at hSw); go_simp; try with_reducible rfl)
              try simp only [Act.put, List.setIfInBounds_toArray, List.set_cons_zero, List.set_cons_succ]
              refine wpAnyH_take (i := 35) (oi := { dst := some 127, op := Op.move (Operand.tmp 10), type := 26, pos := "laws.go:346", after := #[{ on := 34, ground := Ground.guard }], guard := some (34, false) }) (v := ?v3q35) rfl (by kernel_rfl) (by kernel_rfl) (by kernel_rfl) (fun _ _ _ h => h) (Or.inl ⟨by rfl, ?h3q35⟩) hHeld ?_
              case h3q35 => (intro w hSw; (try dsimp only at hSw); go_simp; try with_reducible rfl)
              try simp only [Act.put, List.setIfInBounds_toArray, List.set_cons_zero, List.set_cons_succ]
              refine wpAnyH_take (i := 36) (oi := { dst := some 128, op := Op.move (Operand.tmp 15), type := 3, pos := "laws.go:346", after := #[{ on := 34, ground := Ground.guard }], guard := some (34, false) }) (v := ?v3q36) rfl (by kernel_rfl) (by kernel_rfl) (by kernel_rfl) (fun _ _ _ h => h) (Or.inl ⟨by rfl, ?h3q36⟩) hHeld ?_
              case h3q36 => (intro w hSw; (try dsimp only at hSw); go_simp; try with_reducible rfl)
              try simp only [Act.put, List.setIfInBounds_toArray, List.set_cons_zero, List.set_cons_succ]
              refine wpAnyH_take (i := 37) (oi := { dst := some 129, op := Op.indexAddr 26 (Operand.tmp 127) (Operand.tmp 128), type := 0, pos := "laws.go:346", after := #[{ on := 35, ground := Ground.data }, { on := 36, ground := Ground.data }, { on := 34, ground := Ground.guard }], guard := some (34, false) }) (v := ?v3q37) rfl (by kernel_rfl) (by kernel_rfl) (by kernel_rfl) (fun _ _ _ h => h) (Or.inl ⟨by rfl, ?h3q37⟩) hHeld ?_
              case h3q37 => (intro w hSw; (try dsimp only at hSw); go_simp; try with_reducible rfl)
              try simp only [Act.put, List.setIfInBounds_toArray, List.set_cons_zero, List.set_cons_succ]
              refine wpAnyH_take (i := 38) (oi := { dst := some 130, op := Op.load 35 (Operand.tmp 129), type := 35, pos := "laws.go:346", after := #[{ on := 37, ground := Ground.data }, { on := 34, ground := Ground.guard }], guard := some (34, false) }) (v := ?v3q38) rfl (by kernel_rfl) (by kernel_rfl) (by kernel_rfl) (fun _ _ _ h => h) (Or.inl ⟨by rfl, ?h3q38⟩) hHeld ?_
              case h3q38 => (intro w hSw; (try dsimp only at hSw); go_simp; try with_reducible rfl)
              try simp only [Act.put, List.setIfInBounds_toArray, List.set_cons_zero, List.set_cons_succ]
              refine wpAnyH_ready (rs := [39]) (by kernel_rfl) (by simp) ?_
              refine AllReadyH.cons (o := { dst := some 131, op := Op.call { callee := Callee.value (Operand.func 13), args := #[Operand.tmp 130], argTypes := #[35] }, type := 4, pos := "laws.go:346", after := #[{ on := 38, ground := Ground.data }, { on := 34, ground := Ground.chain }, { on := 34, ground := Ground.guard }], guard := some (34, false) }) rfl (fun K hK => ?_) AllReadyH.nil
              go_simp
              refine (blockOK_impl y _).mono ?_
              rintro e w8 ⟨rfl, hb8⟩
              rw [unhide HYB]
              have HB8 := hide (fr (Below.refl _ wr).drew hb8)
              clear hb8
              have m0 := ((unhide HB8).cell (p := ⟨P, 0, none⟩) hPl).trans c0
              have m1 := ((unhide HB8).cell (p := ⟨P, 1, none⟩) hPl).trans c1
              have m2 := ((unhide HB8).cell (p := ⟨g, k * 4, none⟩) hgl).trans x0
              have m3 := ((unhide HB8).cell (p := ⟨g, k * 4 + 1, none⟩) hgl).trans x1
              have m4 := ((unhide HB8).cell (p := ⟨g, k * 4 + 2, none⟩) hgl).trans x2
              have m5 := ((unhide HB8).cell (p := ⟨g, k * 4 + 3, none⟩) hgl).trans x3
              have m6 := ((unhide HB8).cell (p := ⟨yb, yo + k * 4, none⟩) hyl).trans y0
              have m7 := ((unhide HB8).cell (p := ⟨yb, yo + k * 4 + 1, none⟩) hyl).trans y1
              have m8 := ((unhide HB8).cell (p := ⟨yb, yo + k * 4 + 2, none⟩) hyl).trans y2
              have m9 := ((unhide HB8).cell (p := ⟨yb, yo + k * 4 + 3, none⟩) hyl).trans y3
              go_wp2_with fail
              refine hK.out _ _ ?kB3 (fun hHeld2 => ?_)
              case kB3 => ((try dsimp only); go_keep)
              clear hK K hHeld
              try simp only [Act.put, List.setIfInBounds_toArray, List.set_cons_zero, List.set_cons_succ]
              refine wpAnyH_take (i := 40) (oi := { dst := some 132, op := Op.unOp UnOp.not 4 (Operand.tmp 131), type := 4, pos := "laws.go:346", after := #[{ on := 39, ground := Ground.data }, { on := 34, ground := Ground.guard }], guard := some (34, false) }) (v := ?v3q40) rfl (by kernel_rfl) (by kernel_rfl) (by kernel_rfl) (fun _ _ _ h => h) (Or.inl ⟨by rfl, ?h3q40⟩) hHeld2 ?_
              case h3q40 => (intro w hSw; (try dsimp only at hSw); go_simp; try with_reducible rfl)
              try simp only [Act.put, List.setIfInBounds_toArray, List.set_cons_zero, List.set_cons_succ]
              refine wpAnyH_take (i := 41) (oi := { dst := some 133, op := Op.pick (Operand.tmp 126) (Operand.const (Value.bool true)) (Operand.tmp 132), type := 4, pos := "laws.go:346", after := #[{ on := 34, ground := Ground.data }, { on := 40, ground := Ground.data }], guard := none }) (v := ?v3q41) rfl (by kernel_rfl) (by kernel_rfl) (by kernel_rfl) (fun _ _ _ h => h) (Or.inl ⟨by rfl, ?h3q41⟩) hHeld2 ?_
              case h3q41 => (intro w hSw; (try dsimp only at hSw); go_simp; try with_reducible rfl)
              try simp only [Act.put, List.setIfInBounds_toArray, List.set_cons_zero, List.set_cons_succ]
              refine wpAnyH_take (i := 42) (oi := { dst := some 134, op := Op.move (Operand.tmp 133), type := 4, pos := "laws.go:346", after := #[{ on := 41, ground := Ground.data }, { on := 39, ground := Ground.chain }], guard := none }) (v := ?v3q42) rfl (by kernel_rfl) (by kernel_rfl) (by kernel_rfl) (fun _ _ _ h => h) (Or.inl ⟨by rfl, ?h3q42⟩) hHeld2 ?_
              case h3q42 => (intro w hSw; (try dsimp only at hSw); go_simp; try with_reducible rfl)
              try simp only [Act.put, List.setIfInBounds_toArray, List.set_cons_zero, List.set_cons_succ]
              refine wpAnyH_take (i := 43) (oi := { dst := some 135, op := Op.move (Operand.tmp 10), type := 26, pos := "laws.go:346", after := #[{ on := 42, ground := Ground.guard }], guard := some (42, false) }) (v := ?v3q43) rfl (by kernel_rfl) (by kernel_rfl) (by kernel_rfl) (fun _ _ _ h => h) (Or.inl ⟨by rfl, ?h3q43⟩) hHeld2 ?_
              case h3q43 => (intro w hSw; (try dsimp only at hSw); go_simp; try with_reducible rfl)
              try simp only [Act.put, List.setIfInBounds_toArray, List.set_cons_zero, List.set_cons_succ]
              refine wpAnyH_take (i := 44) (oi := { dst := some 136, op := Op.move (Operand.tmp 15), type := 3, pos := "laws.go:346", after := #[{ on := 42, ground := Ground.guard }], guard := some (42, false) }) (v := ?v3q44) rfl (by kernel_rfl) (by kernel_rfl) (by kernel_rfl) (fun _ _ _ h => h) (Or.inl ⟨by rfl, ?h3q44⟩) hHeld2 ?_
              case h3q44 => (intro w hSw; (try dsimp only at hSw); go_simp; try with_reducible rfl)
              try simp only [Act.put, List.setIfInBounds_toArray, List.set_cons_zero, List.set_cons_succ]
              refine wpAnyH_take (i := 45) (oi := { dst := some 137, op := Op.indexAddr 26 (Operand.tmp 135) (Operand.tmp 136), type := 0, pos := "laws.go:346", after := #[{ on := 43, ground := Ground.data }, { on := 44, ground := Ground.data }, { on := 42, ground := Ground.guard }], guard := some (42, false) }) (v := ?v3q45) rfl (by kernel_rfl) (by kernel_rfl) (by kernel_rfl) (fun _ _ _ h => h) (Or.inl ⟨by rfl, ?h3q45⟩) hHeld2 ?_
              case h3q45 => (intro w hSw; (try dsimp only at hSw); go_simp; try with_reducible rfl)
              try simp only [Act.put, List.setIfInBounds_toArray, List.set_cons_zero, List.set_cons_succ]
              refine wpAnyH_take (i := 46) (oi := { dst := some 138, op := Op.fieldAddr 35 (Operand.tmp 137) 0, type := 0, pos := "laws.go:346", after := #[{ on := 45, ground := Ground.data }, { on := 42, ground := Ground.guard }], guard := some (42, false) }) (v := ?v3q46) rfl (by kernel_rfl) (by kernel_rfl) (by kernel_rfl) (fun _ _ _ h => h) (Or.inl ⟨by rfl, ?h3q46⟩) hHeld2 ?_
              case h3q46 => (intro w hSw; (try dsimp only at hSw); go_simp; try with_reducible rfl)
              try simp only [Act.put, List.setIfInBounds_toArray, List.set_cons_zero, List.set_cons_succ]
              refine wpAnyH_take (i := 47) (oi := { dst := some 139, op := Op.load 3 (Operand.tmp 138), type := 3, pos := "laws.go:346", after := #[{ on := 46, ground := Ground.data }, { on := 42, ground := Ground.guard }], guard := some (42, false) }) (v := ?v3q47) rfl (by kernel_rfl) (by kernel_rfl) (by kernel_rfl) (fun _ _ _ h => h) (Or.inl ⟨by rfl, ?h3q47⟩) hHeld2 ?_
              case h3q47 => (intro w hSw; (try dsimp only at hSw); go_simp; try with_reducible rfl)
              try simp only [Act.put, List.setIfInBounds_toArray, List.set_cons_zero, List.set_cons_succ]
              refine wpAnyH_take (i := 48) (oi := { dst := some 140, op := Op.move (Operand.tmp 6), type := 26, pos := "laws.go:346", after := #[{ on := 42, ground := Ground.guard }], guard := some (42, false) }) (v := ?v3q48) rfl (by kernel_rfl) (by kernel_rfl) (by kernel_rfl) (fun _ _ _ h => h) (Or.inl ⟨by rfl, ?h3q48⟩) hHeld2 ?_
              case h3q48 => (intro w hSw; (try dsimp only at hSw); go_simp; try with_reducible rfl)
              try simp only [Act.put, List.setIfInBounds_toArray, List.set_cons_zero, List.set_cons_succ]
              refine wpAnyH_take (i := 49) (oi := { dst := some 141, op := Op.move (Operand.tmp 15), type := 3, pos := "laws.go:346", after := #[{ on := 42, ground := Ground.guard }], guard := some (42, false) }) (v := ?v3q49) rfl (by kernel_rfl) (by kernel_rfl) (by kernel_rfl) (fun _ _ _ h => h) (Or.inl ⟨by rfl, ?h3q49⟩) hHeld2 ?_
              case h3q49 => (intro w hSw; (try dsimp only at hSw); go_simp; try with_reducible rfl)
              try simp only [Act.put, List.setIfInBounds_toArray, List.set_cons_zero, List.set_cons_succ]
              refine wpAnyH_take (i := 50) (oi := { dst := some 142, op := Op.indexAddr 26 (Operand.tmp 140) (Operand.tmp 141), type := 0, pos := "laws.go:346", after := #[{ on := 48, ground := Ground.data }, { on := 49, ground := Ground.data }, { on := 42, ground := Ground.guard }], guard := some (42, false) }) (v := ?v3q50) rfl (by kernel_rfl) (by kernel_rfl) (by kernel_rfl) (fun _ _ _ h => h) (Or.inl ⟨by rfl, ?h3q50⟩) hHeld2 ?_
              case h3q50 => (intro w hSw; (try dsimp only at hSw); go_simp; try with_reducible rfl)
              try simp only [Act.put, List.setIfInBounds_toArray, List.set_cons_zero, List.set_cons_succ]
              refine wpAnyH_take (i := 51) (oi := { dst := some 143, op := Op.fieldAddr 35 (Operand.tmp 142) 0, type := 0, pos := "laws.go:346", after := #[{ on := 50, ground := Ground.data }, { on := 42, ground := Ground.guard }], guard := some (42, false) }) (v := ?v3q51) rfl (by kernel_rfl) (by kernel_rfl) (by kernel_rfl) (fun _ _ _ h => h) (Or.inl ⟨by rfl, ?h3q51⟩) hHeld2 ?_
              case h3q51 => (intro w hSw; (try dsimp only at hSw); go_simp; try with_reducible rfl)
              try simp only [Act.put, List.setIfInBounds_toArray, List.set_cons_zero, List.set_cons_succ]
              refine wpAnyH_take (i := 52) (oi := { dst := some 144, op := Op.load 3 (Operand.tmp 143), type := 3, pos := "laws.go:346", after := #[{ on := 51, ground := Ground.data }, { on := 42, ground := Ground.guard }], guard := some (42, false) }) (v := ?v3q52) rfl (by kernel_rfl) (by kernel_rfl) (by kernel_rfl) (fun _ _ _ h => h) (Or.inl ⟨by rfl, ?h3q52⟩) hHeld2 ?_
              case h3q52 => (intro w hSw; (try dsimp only at hSw); go_simp; try with_reducible rfl)
              try simp only [Act.put, List.setIfInBounds_toArray, List.set_cons_zero, List.set_cons_succ]
              refine wpAnyH_take (i := 53) (oi := { dst := some 145, op := Op.binOp BinOp.eql 3 (Operand.tmp 139) (Operand.tmp 144) 3, type := 4, pos := "laws.go:346", after := #[{ on := 47, ground := Ground.data }, { on := 52, ground := Ground.data }, { on := 42, ground := Ground.guard }], guard := some (42, false) }) (v := ?v3q53) rfl (by kernel_rfl) (by kernel_rfl) (by kernel_rfl) (fun _ _ _ h => h) (Or.inl ⟨by rfl, ?h3q53⟩) hHeld2 ?_
              case h3q53 => (intro w hSw; (try dsimp only at hSw); go_simp; try with_reducible rfl)
              try simp only [Act.put, List.setIfInBounds_toArray, List.set_cons_zero, List.set_cons_succ]
              refine wpAnyH_take (i := 54) (oi := { dst := some 146, op := Op.move (Operand.tmp 145), type := 4, pos := "laws.go:346", after := #[{ on := 53, ground := Ground.data }, { on := 42, ground := Ground.chain }, { on := 42, ground := Ground.guard }], guard := some (42, false) }) (v := ?v3q54) rfl (by kernel_rfl) (by kernel_rfl) (by kernel_rfl) (fun _ _ _ h => h) (Or.inl ⟨by rfl, ?h3q54⟩) hHeld2 ?_
              case h3q54 => (intro w hSw; (try dsimp only at hSw); go_simp; try with_reducible rfl)
              try simp only [Act.put, List.setIfInBounds_toArray, List.set_cons_zero, List.set_cons_succ]
              refine wpAnyH_take (i := 55) (oi := { dst := some 147, op := Op.move (Operand.tmp 10), type := 26, pos := "laws.go:346", after := #[{ on := 54, ground := Ground.guard }], guard := some (54, true) }) (v := ?v3q55) rfl (by kernel_rfl) (by kernel_rfl) (by kernel_rfl) (fun _ _ _ h => h) (Or.inl ⟨by rfl, ?h3q55⟩) hHeld2 ?_
              case h3q55 => (intro w hSw; (try dsimp only at hSw); go_simp; try with_reducible rfl)
              try simp only [Act.put, List.setIfInBounds_toArray, List.set_cons_zero, List.set_cons_succ]
              refine wpAnyH_take (i := 56) (oi := { dst := some 148, op := Op.move (Operand.tmp 15), type := 3, pos := "laws.go:346", after := #[{ on := 54, ground := Ground.guard }], guard := some (54, true) }) (v := ?v3q56) rfl (by kernel_rfl) (by kernel_rfl) (by kernel_rfl) (fun _ _ _ h => h) (Or.inl ⟨by rfl, ?h3q56⟩) hHeld2 ?_
              case h3q56 => (intro w hSw; (try dsimp only at hSw); go_simp; try with_reducible rfl)
              try simp only [Act.put, List.setIfInBounds_toArray, List.set_cons_zero, List.set_cons_succ]
              refine wpAnyH_take (i := 57) (oi := { dst := some 149, op := Op.indexAddr 26 (Operand.tmp 147) (Operand.tmp 148), type := 0, pos := "laws.go:346", after := #[{ on := 55, ground := Ground.data }, { on := 56, ground := Ground.data }, { on := 54, ground := Ground.guard }], guard := some (54, true) }) (v := ?v3q57) rfl (by kernel_rfl) (by kernel_rfl) (by kernel_rfl) (fun _ _ _ h => h) (Or.inl ⟨by rfl, ?h3q57⟩) hHeld2 ?_
              case h3q57 => (intro w hSw; (try dsimp only at hSw); go_simp; try with_reducible rfl)
              try simp only [Act.put, List.setIfInBounds_toArray, List.set_cons_zero, List.set_cons_succ]
              refine wpAnyH_take (i := 58) (oi := { dst := some 150, op := Op.fieldAddr 35 (Operand.tmp 149) 1, type := 0, pos := "laws.go:346", after := #[{ on := 57, ground := Ground.data }, { on := 54, ground := Ground.guard }], guard := some (54, true) }) (v := ?v3q58) rfl (by kernel_rfl) (by kernel_rfl) (by kernel_rfl) (fun _ _ _ h => h) (Or.inl ⟨by rfl, ?h3q58⟩) hHeld2 ?_
              case h3q58 => (intro w hSw; (try dsimp only at hSw); go_simp; try with_reducible rfl)
              try simp only [Act.put, List.setIfInBounds_toArray, List.set_cons_zero, List.set_cons_succ]
              refine wpAnyH_take (i := 59) (oi := { dst := some 151, op := Op.load 3 (Operand.tmp 150), type := 3, pos := "laws.go:346", after := #[{ on := 58, ground := Ground.data }, { on := 54, ground := Ground.guard }], guard := some (54, true) }) (v := ?v3q59) rfl (by kernel_rfl) (by kernel_rfl) (by kernel_rfl) (fun _ _ _ h => h) (Or.inl ⟨by rfl, ?h3q59⟩) hHeld2 ?_
              case h3q59 => (intro w hSw; (try dsimp only at hSw); go_simp; try with_reducible rfl)
              try simp only [Act.put, List.setIfInBounds_toArray, List.set_cons_zero, List.set_cons_succ]
              refine wpAnyH_take (i := 60) (oi := { dst := some 152, op := Op.move (Operand.tmp 6), type := 26, pos := "laws.go:346", after := #[{ on := 54, ground := Ground.guard }], guard := some (54, true) }) (v := ?v3q60) rfl (by kernel_rfl) (by kernel_rfl) (by kernel_rfl) (fun _ _ _ h => h) (Or.inl ⟨by rfl, ?h3q60⟩) hHeld2 ?_
              case h3q60 => (intro w hSw; (try dsimp only at hSw); go_simp; try with_reducible rfl)
              try simp only [Act.put, List.setIfInBounds_toArray, List.set_cons_zero, List.set_cons_succ]
              refine wpAnyH_take (i := 61) (oi := { dst := some 153, op := Op.move (Operand.tmp 15), type := 3, pos := "laws.go:346", after := #[{ on := 54, ground := Ground.guard }], guard := some (54, true) }) (v := ?v3q61) rfl (by kernel_rfl) (by kernel_rfl) (by kernel_rfl) (fun _ _ _ h => h) (Or.inl ⟨by rfl, ?h3q61⟩) hHeld2 ?_
              case h3q61 => (intro w hSw; (try dsimp only at hSw); go_simp; try with_reducible rfl)
              try simp only [Act.put, List.setIfInBounds_toArray, List.set_cons_zero, List.set_cons_succ]
              refine wpAnyH_take (i := 62) (oi := { dst := some 154, op := Op.indexAddr 26 (Operand.tmp 152) (Operand.tmp 153), type := 0, pos := "laws.go:346", after := #[{ on := 60, ground := Ground.data }, { on := 61, ground := Ground.data }, { on := 54, ground := Ground.guard }], guard := some (54, true) }) (v := ?v3q62) rfl (by kernel_rfl) (by kernel_rfl) (by kernel_rfl) (fun _ _ _ h => h) (Or.inl ⟨by rfl, ?h3q62⟩) hHeld2 ?_
              case h3q62 => (intro w hSw; (try dsimp only at hSw); go_simp; try with_reducible rfl)
              try simp only [Act.put, List.setIfInBounds_toArray, List.set_cons_zero, List.set_cons_succ]
              refine wpAnyH_take (i := 63) (oi := { dst := some 155, op := Op.fieldAddr 35 (Operand.tmp 154) 1, type := 0, pos := "laws.go:346", after := #[{ on := 62, ground := Ground.data }, { on := 54, ground := Ground.guard }], guard := some (54, true) }) (v := ?v3q63) rfl (by kernel_rfl) (by kernel_rfl) (by kernel_rfl) (fun _ _ _ h => h) (Or.inl ⟨by rfl, ?h3q63⟩) hHeld2 ?_
              case h3q63 => (intro w hSw; (try dsimp only at hSw); go_simp; try with_reducible rfl)
              try simp only [Act.put, List.setIfInBounds_toArray, List.set_cons_zero, List.set_cons_succ]
              refine wpAnyH_take (i := 64) (oi := { dst := some 156, op := Op.load 3 (Operand.tmp 155), type := 3, pos := "laws.go:346", after := #[{ on := 63, ground := Ground.data }, { on := 54, ground := Ground.guard }], guard := some (54, true) }) (v := ?v3q64) rfl (by kernel_rfl) (by kernel_rfl) (by kernel_rfl) (fun _ _ _ h => h) (Or.inl ⟨by rfl, ?h3q64⟩) hHeld2 ?_
              case h3q64 => (intro w hSw; (try dsimp only at hSw); go_simp; try with_reducible rfl)
              try simp only [Act.put, List.setIfInBounds_toArray, List.set_cons_zero, List.set_cons_succ]
              refine wpAnyH_take (i := 65) (oi := { dst := some 157, op := Op.binOp BinOp.lss 3 (Operand.tmp 151) (Operand.tmp 156) 3, type := 4, pos := "laws.go:346", after := #[{ on := 59, ground := Ground.data }, { on := 64, ground := Ground.data }, { on := 54, ground := Ground.guard }], guard := some (54, true) }) (v := ?v3q65) rfl (by kernel_rfl) (by kernel_rfl) (by kernel_rfl) (fun _ _ _ h => h) (Or.inl ⟨by rfl, ?h3q65⟩) hHeld2 ?_
              case h3q65 => (intro w hSw; (try dsimp only at hSw); go_simp; try with_reducible rfl)
              try simp only [Act.put, List.setIfInBounds_toArray, List.set_cons_zero, List.set_cons_succ]
              refine wpAnyH_take (i := 66) (oi := { dst := some 158, op := Op.pick (Operand.tmp 146) (Operand.tmp 157) (Operand.const (Value.bool false)), type := 4, pos := "laws.go:346", after := #[{ on := 54, ground := Ground.data }, { on := 65, ground := Ground.data }, { on := 42, ground := Ground.guard }], guard := some (42, false) }) (v := ?v3q66) rfl (by kernel_rfl) (by kernel_rfl) (by kernel_rfl) (fun _ _ _ h => h) (Or.inl ⟨by rfl, ?h3q66⟩) hHeld2 ?_
              case h3q66 => (intro w hSw; (try dsimp only at hSw); go_simp; try with_reducible rfl)
              try simp only [Act.put, List.setIfInBounds_toArray, List.set_cons_zero, List.set_cons_succ]
              refine wpAnyH_take (i := 67) (oi := { dst := some 159, op := Op.pick (Operand.tmp 134) (Operand.const (Value.bool true)) (Operand.tmp 158), type := 4, pos := "laws.go:346", after := #[{ on := 42, ground := Ground.data }, { on := 66, ground := Ground.data }], guard := none }) (v := ?v3q67) rfl (by kernel_rfl) (by kernel_rfl) (by kernel_rfl) (fun _ _ _ h => h) (Or.inl ⟨by rfl, ?h3q67⟩) hHeld2 ?_
              case h3q67 => (intro w hSw; (try dsimp only at hSw); go_simp; try with_reducible rfl)
              try simp only [Act.put, List.setIfInBounds_toArray, List.set_cons_zero, List.set_cons_succ]
              refine wpAnyH_done (by kernel_rfl) ?_ _
              go_wp2_with fail
              go_meet
              first | exact ⟨rfl, hide (fr (unhide HB) (unhide HB8))⟩ | exact ⟨congrArg Value.bool (decide_eq_false (by first | exact hm2 | exact Int.not_lt.2 hm2)), hide (fr (unhide HB) (unhide HB8))⟩
            · have bm : (y.ver == x.ver) = false := by simp [hm]
              clear hm
              refine wp_region_held_drew (S := (fun w' => w'.cell? ⟨P, 0, none⟩ = some (.int .i64 p.host) ∧ w'.cell? ⟨P, 1, none⟩ = some (.int .i64 p.ver) ∧ w'.cell? ⟨g, k * 4, none⟩ = some (.int .i64 x.ver) ∧ w'.cell? ⟨g, k * 4 + 1, none⟩ = some (.int .i64 x.mbal) ∧ w'.cell? ⟨g, k * 4 + 2, none⟩ = some (.int .i64 x.bal) ∧ w'.cell? ⟨g, k * 4 + 3, none⟩ = some (.int .i64 x.inp) ∧ w'.cell? ⟨yb, yo + k * 4, none⟩ = some (.int .i64 y.ver) ∧ w'.cell? ⟨yb, yo + k * 4 + 1, none⟩ = some (.int .i64 y.mbal) ∧ w'.cell? ⟨yb, yo + k * 4 + 2, none⟩ = some (.int .i64 y.bal) ∧ w'.cell? ⟨yb, yo + k * 4 + 3, none⟩ = some (.int .i64 y.inp))) (by kernel_rfl) ?kA4 (fun hHeld => ?_)
              case kA4 => ((try dsimp only); go_keep)
              refine wpAnyH_take (i := 0) (oi := { dst := some 92, op := Op.move (Operand.tmp 6), type := 26, pos := "laws.go:346", after := #[], guard := none }) (v := ?v4q0) rfl (by kernel_rfl) (by kernel_rfl) (by kernel_rfl) (fun _ _ _ h => h) (Or.inl ⟨by rfl, ?h4q0⟩) hHeld ?_
              case h4q0 => (intro w hSw; (try dsimp only at hSw); go_simp; try with_reducible rfl)
              try simp only [Act.put, List.setIfInBounds_toArray, List.set_cons_zero, List.set_cons_succ]
              refine wpAnyH_take (i := 1) (oi := { dst := some 93, op := Op.move (Operand.tmp 15), type := 3, pos := "laws.go:346", after := #[], guard := none }) (v := ?v4q1) rfl (by kernel_rfl) (by kernel_rfl) (by kernel_rfl) (fun _ _ _ h => h) (Or.inl ⟨by rfl, ?h4q1⟩) hHeld ?_
              case h4q1 => (intro w hSw; (try dsimp only at hSw); go_simp; try with_reducible rfl)
              try simp only [Act.put, List.setIfInBounds_toArray, List.set_cons_zero, List.set_cons_succ]
              refine wpAnyH_take (i := 2) (oi := { dst := some 94, op := Op.indexAddr 26 (Operand.tmp 92) (Operand.tmp 93), type := 0, pos := "laws.go:346", after := #[{ on := 0, ground := Ground.data }, { on := 1, ground := Ground.data }], guard := none }) (v := ?v4q2) rfl (by kernel_rfl) (by kernel_rfl) (by kernel_rfl) (fun _ _ _ h => h) (Or.inl ⟨by rfl, ?h4q2⟩) hHeld ?_
              case h4q2 => (intro w hSw; (try dsimp only at hSw); go_simp; try with_reducible rfl)
              try simp only [Act.put, List.setIfInBounds_toArray, List.set_cons_zero, List.set_cons_succ]
              refine wpAnyH_take (i := 3) (oi := { dst := some 95, op := Op.fieldAddr 35 (Operand.tmp 94) 0, type := 0, pos := "laws.go:346", after := #[{ on := 2, ground := Ground.data }], guard := none }) (v := ?v4q3) rfl (by kernel_rfl) (by kernel_rfl) (by kernel_rfl) (fun _ _ _ h => h) (Or.inl ⟨by rfl, ?h4q3⟩) hHeld ?_
              case h4q3 => (intro w hSw; (try dsimp only at hSw); go_simp; try with_reducible rfl)
              try simp only [Act.put, List.setIfInBounds_toArray, List.set_cons_zero, List.set_cons_succ]
              refine wpAnyH_take (i := 4) (oi := { dst := some 96, op := Op.load 3 (Operand.tmp 95), type := 3, pos := "laws.go:346", after := #[{ on := 3, ground := Ground.data }], guard := none }) (v := ?v4q4) rfl (by kernel_rfl) (by kernel_rfl) (by kernel_rfl) (fun _ _ _ h => h) (Or.inl ⟨by rfl, ?h4q4⟩) hHeld ?_
              case h4q4 => (intro w hSw; (try dsimp only at hSw); go_simp; try with_reducible rfl)
              try simp only [Act.put, List.setIfInBounds_toArray, List.set_cons_zero, List.set_cons_succ]
              refine wpAnyH_take (i := 5) (oi := { dst := some 97, op := Op.fieldAddr 24 (Operand.tmp 5) 1, type := 0, pos := "laws.go:346", after := #[], guard := none }) (v := ?v4q5) rfl (by kernel_rfl) (by kernel_rfl) (by kernel_rfl) (fun _ _ _ h => h) (Or.inl ⟨by rfl, ?h4q5⟩) hHeld ?_
              case h4q5 => (intro w hSw; (try dsimp only at hSw); go_simp; try with_reducible rfl)
              try simp only [Act.put, List.setIfInBounds_toArray, List.set_cons_zero, List.set_cons_succ]
              refine wpAnyH_take (i := 6) (oi := { dst := some 98, op := Op.load 3 (Operand.tmp 97), type := 3, pos := "laws.go:346", after := #[{ on := 5, ground := Ground.data }], guard := none }) (v := ?v4q6) rfl (by kernel_rfl) (by kernel_rfl) (by kernel_rfl) (fun _ _ _ h => h) (Or.inl ⟨by rfl, ?h4q6⟩) hHeld ?_
              case h4q6 => (intro w hSw; (try dsimp only at hSw); go_simp; try with_reducible rfl)
              try simp only [Act.put, List.setIfInBounds_toArray, List.set_cons_zero, List.set_cons_succ]
              refine wpAnyH_take (i := 7) (oi := { dst := some 99, op := Op.binOp BinOp.geq 3 (Operand.tmp 96) (Operand.tmp 98) 3, type := 4, pos := "laws.go:346", after := #[{ on := 4, ground := Ground.data }, { on := 6, ground := Ground.data }], guard := none }) (v := ?v4q7) rfl (by kernel_rfl) (by kernel_rfl) (by kernel_rfl) (fun _ _ _ h => h) (Or.inl ⟨by rfl, ?h4q7⟩) hHeld ?_
              case h4q7 => (intro w hSw; (try dsimp only at hSw); go_simp; try with_reducible rfl)
              try simp only [Act.put, List.setIfInBounds_toArray, List.set_cons_zero, List.set_cons_succ]
              refine wpAnyH_take (i := 8) (oi := { dst := some 100, op := Op.move (Operand.tmp 99), type := 4, pos := "laws.go:346", after := #[{ on := 7, ground := Ground.data }], guard := none }) (v := ?v4q8) rfl (by kernel_rfl) (by kernel_rfl) (by kernel_rfl) (fun _ _ _ h => h) (Or.inl ⟨by rfl, ?h4q8⟩) hHeld ?_
              case h4q8 => (intro w hSw; (try dsimp only at hSw); go_simp; try with_reducible rfl)
              try simp only [Act.put, List.setIfInBounds_toArray, List.set_cons_zero, List.set_cons_succ]
              refine wpAnyH_take (i := 9) (oi := { dst := some 101, op := Op.move (Operand.tmp 6), type := 26, pos := "laws.go:346", after := #[{ on := 8, ground := Ground.guard }], guard := some (8, true) }) (v := undef) rfl (by kernel_rfl) (by kernel_rfl) (by kernel_rfl) (fun _ _ _ h => h) (Or.inr ⟨by rfl, rfl⟩) hHeld ?_
              try simp only [Act.put, List.setIfInBounds_toArray, List.set_cons_zero, List.set_cons_succ]
              refine wpAnyH_take (i := 10) (oi := { dst := some 102, op := Op.move (Operand.tmp 15), type := 3, pos := "laws.go:346", after := #[{ on := 8, ground := Ground.guard }], guard := some (8, true) }) (v := undef) rfl (by kernel_rfl) (by kernel_rfl) (by kernel_rfl) (fun _ _ _ h => h) (Or.inr ⟨by rfl, rfl⟩) hHeld ?_
              try simp only [Act.put, List.setIfInBounds_toArray, List.set_cons_zero, List.set_cons_succ]
              refine wpAnyH_take (i := 11) (oi := { dst := some 103, op := Op.indexAddr 26 (Operand.tmp 101) (Operand.tmp 102), type := 0, pos := "laws.go:346", after := #[{ on := 9, ground := Ground.data }, { on := 10, ground := Ground.data }, { on := 8, ground := Ground.guard }], guard := some (8, true) }) (v := undef) rfl (by kernel_rfl) (by kernel_rfl) (by kernel_rfl) (fun _ _ _ h => h) (Or.inr ⟨by rfl, rfl⟩) hHeld ?_
              try simp only [Act.put, List.setIfInBounds_toArray, List.set_cons_zero, List.set_cons_succ]
              refine wpAnyH_take (i := 12) (oi := { dst := some 104, op := Op.fieldAddr 35 (Operand.tmp 103) 1, type := 0, pos := "laws.go:346", after := #[{ on := 11, ground := Ground.data }, { on := 8, ground := Ground.guard }], guard := some (8, true) }) (v := undef) rfl (by kernel_rfl) (by kernel_rfl) (by kernel_rfl) (fun _ _ _ h => h) (Or.inr ⟨by rfl, rfl⟩) hHeld ?_
              try simp only [Act.put, List.setIfInBounds_toArray, List.set_cons_zero, List.set_cons_succ]
              refine wpAnyH_take (i := 13) (oi := { dst := some 105, op := Op.load 3 (Operand.tmp 104), type := 3, pos := "laws.go:346", after := #[{ on := 12, ground := Ground.data }, { on := 8, ground := Ground.guard }], guard := some (8, true) }) (v := undef) rfl (by kernel_rfl) (by kernel_rfl) (by kernel_rfl) (fun _ _ _ h => h) (Or.inr ⟨by rfl, rfl⟩) hHeld ?_
              try simp only [Act.put, List.setIfInBounds_toArray, List.set_cons_zero, List.set_cons_succ]
              refine wpAnyH_take (i := 14) (oi := { dst := some 106, op := Op.move (Operand.tmp 7), type := 3, pos := "laws.go:346", after := #[{ on := 8, ground := Ground.guard }], guard := some (8, true) }) (v := undef) rfl (by kernel_rfl) (by kernel_rfl) (by kernel_rfl) (fun _ _ _ h => h) (Or.inr ⟨by rfl, rfl⟩) hHeld ?_
              try simp only [Act.put, List.setIfInBounds_toArray, List.set_cons_zero, List.set_cons_succ]
              refine wpAnyH_take (i := 15) (oi := { dst := some 107, op := Op.binOp BinOp.geq 3 (Operand.tmp 105) (Operand.tmp 106) 3, type := 4, pos := "laws.go:346", after := #[{ on := 13, ground := Ground.data }, { on := 14, ground := Ground.data }, { on := 8, ground := Ground.guard }], guard := some (8, true) }) (v := undef) rfl (by kernel_rfl) (by kernel_rfl) (by kernel_rfl) (fun _ _ _ h => h) (Or.inr ⟨by rfl, rfl⟩) hHeld ?_
              try simp only [Act.put, List.setIfInBounds_toArray, List.set_cons_zero, List.set_cons_succ]
              refine wpAnyH_take (i := 16) (oi := { dst := some 108, op := Op.pick (Operand.tmp 100) (Operand.tmp 107) (Operand.const (Value.bool false)), type := 4, pos := "laws.go:346", after := #[{ on := 8, ground := Ground.data }, { on := 15, ground := Ground.data }], guard := none }) (v := ?v4q16) rfl (by kernel_rfl) (by kernel_rfl) (by kernel_rfl) (fun _ _ _ h => h) (Or.inl ⟨by rfl, ?h4q16⟩) hHeld ?_
              case h4q16 => (intro w hSw; (try dsimp only at hSw); go_simp; try with_reducible rfl)
              try simp only [Act.put, List.setIfInBounds_toArray, List.set_cons_zero, List.set_cons_succ]
              refine wpAnyH_take (i := 17) (oi := { dst := some 109, op := Op.move (Operand.tmp 108), type := 4, pos := "laws.go:346", after := #[{ on := 16, ground := Ground.data }, { on := 8, ground := Ground.chain }], guard := none }) (v := ?v4q17) rfl (by kernel_rfl) (by kernel_rfl) (by kernel_rfl) (fun _ _ _ h => h) (Or.inl ⟨by rfl, ?h4q17⟩) hHeld ?_
              case h4q17 => (intro w hSw; (try dsimp only at hSw); go_simp; try with_reducible rfl)
              try simp only [Act.put, List.setIfInBounds_toArray, List.set_cons_zero, List.set_cons_succ]
              refine wpAnyH_take (i := 18) (oi := { dst := some 110, op := Op.move (Operand.tmp 15), type := 3, pos := "laws.go:346", after := #[{ on := 17, ground := Ground.guard }], guard := some (17, false) }) (v := ?v4q18) rfl (by kernel_rfl) (by kernel_rfl) (by kernel_rfl) (fun _ _ _ h => h) (Or.inl ⟨by rfl, ?h4q18⟩) hHeld ?_
              case h4q18 => (intro w hSw; (try dsimp only at hSw); go_simp; try with_reducible rfl)
              try simp only [Act.put, List.setIfInBounds_toArray, List.set_cons_zero, List.set_cons_succ]
              refine wpAnyH_take (i := 19) (oi := { dst := some 111, op := Op.fieldAddr 24 (Operand.tmp 5) 0, type := 0, pos := "laws.go:346", after := #[{ on := 17, ground := Ground.guard }], guard := some (17, false) }) (v := ?v4q19) rfl (by kernel_rfl) (by kernel_rfl) (by kernel_rfl) (fun _ _ _ h => h) (Or.inl ⟨by rfl, ?h4q19⟩) hHeld ?_
              case h4q19 => (intro w hSw; (try dsimp only at hSw); go_simp; try with_reducible rfl)
              try simp only [Act.put, List.setIfInBounds_toArray, List.set_cons_zero, List.set_cons_succ]
              refine wpAnyH_take (i := 20) (oi := { dst := some 112, op := Op.load 3 (Operand.tmp 111), type := 3, pos := "laws.go:346", after := #[{ on := 19, ground := Ground.data }, { on := 17, ground := Ground.guard }], guard := some (17, false) }) (v := ?v4q20) rfl (by kernel_rfl) (by kernel_rfl) (by kernel_rfl) (fun _ _ _ h => h) (Or.inl ⟨by rfl, ?h4q20⟩) hHeld ?_
              case h4q20 => (intro w hSw; (try dsimp only at hSw); go_simp; try with_reducible rfl)
              try simp only [Act.put, List.setIfInBounds_toArray, List.set_cons_zero, List.set_cons_succ]
              refine wpAnyH_take (i := 21) (oi := { dst := some 113, op := Op.binOp BinOp.neq 3 (Operand.tmp 110) (Operand.tmp 112) 3, type := 4, pos := "laws.go:346", after := #[{ on := 18, ground := Ground.data }, { on := 20, ground := Ground.data }, { on := 17, ground := Ground.guard }], guard := some (17, false) }) (v := ?v4q21) rfl (by kernel_rfl) (by kernel_rfl) (by kernel_rfl) (fun _ _ _ h => h) (Or.inl ⟨by rfl, ?h4q21⟩) hHeld ?_
              case h4q21 => (intro w hSw; (try dsimp only at hSw); go_simp; try with_reducible rfl)
              try simp only [Act.put, List.setIfInBounds_toArray, List.set_cons_zero, List.set_cons_succ]
              refine wpAnyH_take (i := 22) (oi := { dst := some 114, op := Op.move (Operand.tmp 113), type := 4, pos := "laws.go:346", after := #[{ on := 21, ground := Ground.data }, { on := 17, ground := Ground.chain }, { on := 17, ground := Ground.guard }], guard := some (17, false) }) (v := ?v4q22) rfl (by kernel_rfl) (by kernel_rfl) (by kernel_rfl) (fun _ _ _ h => h) (Or.inl ⟨by rfl, ?h4q22⟩) hHeld ?_
              case h4q22 => (intro w hSw; (try dsimp only at hSw); go_simp; try with_reducible rfl)
              try simp only [Act.put, List.setIfInBounds_toArray, List.set_cons_zero, List.set_cons_succ]
              refine wpAnyH_take (i := 23) (oi := { dst := some 115, op := Op.move (Operand.tmp 10), type := 26, pos := "laws.go:346", after := #[{ on := 22, ground := Ground.guard }], guard := some (22, true) }) (v := undef) rfl (by kernel_rfl) (by kernel_rfl) (by kernel_rfl) (fun _ _ _ h => h) (Or.inr ⟨by rfl, rfl⟩) hHeld ?_
              try simp only [Act.put, List.setIfInBounds_toArray, List.set_cons_zero, List.set_cons_succ]
              refine wpAnyH_take (i := 24) (oi := { dst := some 116, op := Op.move (Operand.tmp 15), type := 3, pos := "laws.go:346", after := #[{ on := 22, ground := Ground.guard }], guard := some (22, true) }) (v := undef) rfl (by kernel_rfl) (by kernel_rfl) (by kernel_rfl) (fun _ _ _ h => h) (Or.inr ⟨by rfl, rfl⟩) hHeld ?_
              try simp only [Act.put, List.setIfInBounds_toArray, List.set_cons_zero, List.set_cons_succ]
              refine wpAnyH_take (i := 25) (oi := { dst := some 117, op := Op.indexAddr 26 (Operand.tmp 115) (Operand.tmp 116), type := 0, pos := "laws.go:346", after := #[{ on := 23, ground := Ground.data }, { on := 24, ground := Ground.data }, { on := 22, ground := Ground.guard }], guard := some (22, true) }) (v := undef) rfl (by kernel_rfl) (by kernel_rfl) (by kernel_rfl) (fun _ _ _ h => h) (Or.inr ⟨by rfl, rfl⟩) hHeld ?_
              try simp only [Act.put, List.setIfInBounds_toArray, List.set_cons_zero, List.set_cons_succ]
              refine wpAnyH_take (i := 26) (oi := { dst := some 118, op := Op.load 35 (Operand.tmp 117), type := 35, pos := "laws.go:346", after := #[{ on := 25, ground := Ground.data }, { on := 22, ground := Ground.guard }], guard := some (22, true) }) (v := undef) rfl (by kernel_rfl) (by kernel_rfl) (by kernel_rfl) (fun _ _ _ h => h) (Or.inr ⟨by rfl, rfl⟩) hHeld ?_
              try simp only [Act.put, List.setIfInBounds_toArray, List.set_cons_zero, List.set_cons_succ]
              refine wpAnyH_take (i := 27) (oi := { dst := some 119, op := Op.move (Operand.tmp 6), type := 26, pos := "laws.go:346", after := #[{ on := 22, ground := Ground.guard }], guard := some (22, true) }) (v := undef) rfl (by kernel_rfl) (by kernel_rfl) (by kernel_rfl) (fun _ _ _ h => h) (Or.inr ⟨by rfl, rfl⟩) hHeld ?_
              try simp only [Act.put, List.setIfInBounds_toArray, List.set_cons_zero, List.set_cons_succ]
              refine wpAnyH_take (i := 28) (oi := { dst := some 120, op := Op.move (Operand.tmp 15), type := 3, pos := "laws.go:346", after := #[{ on := 22, ground := Ground.guard }], guard := some (22, true) }) (v := undef) rfl (by kernel_rfl) (by kernel_rfl) (by kernel_rfl) (fun _ _ _ h => h) (Or.inr ⟨by rfl, rfl⟩) hHeld ?_
              try simp only [Act.put, List.setIfInBounds_toArray, List.set_cons_zero, List.set_cons_succ]
              refine wpAnyH_take (i := 29) (oi := { dst := some 121, op := Op.indexAddr 26 (Operand.tmp 119) (Operand.tmp 120), type := 0, pos := "laws.go:346", after := #[{ on := 27, ground := Ground.data }, { on := 28, ground := Ground.data }, { on := 22, ground := Ground.guard }], guard := some (22, true) }) (v := undef) rfl (by kernel_rfl) (by kernel_rfl) (by kernel_rfl) (fun _ _ _ h => h) (Or.inr ⟨by rfl, rfl⟩) hHeld ?_
              try simp only [Act.put, List.setIfInBounds_toArray, List.set_cons_zero, List.set_cons_succ]
              refine wpAnyH_take (i := 30) (oi := { dst := some 122, op := Op.load 35 (Operand.tmp 121), type := 35, pos := "laws.go:346", after := #[{ on := 29, ground := Ground.data }, { on := 22, ground := Ground.guard }], guard := some (22, true) }) (v := undef) rfl (by kernel_rfl) (by kernel_rfl) (by kernel_rfl) (fun _ _ _ h => h) (Or.inr ⟨by rfl, rfl⟩) hHeld ?_
              try simp only [Act.put, List.setIfInBounds_toArray, List.set_cons_zero, List.set_cons_succ]
              refine wpAnyH_take (i := 31) (oi := { dst := some 123, op := Op.binOp BinOp.neq 35 (Operand.tmp 118) (Operand.tmp 122) 35, type := 4, pos := "laws.go:346", after := #[{ on := 26, ground := Ground.data }, { on := 30, ground := Ground.data }, { on := 22, ground := Ground.guard }], guard := some (22, true) }) (v := undef) rfl (by kernel_rfl) (by kernel_rfl) (by kernel_rfl) (fun _ _ _ h => h) (Or.inr ⟨by rfl, rfl⟩) hHeld ?_
              try simp only [Act.put, List.setIfInBounds_toArray, List.set_cons_zero, List.set_cons_succ]
              refine wpAnyH_take (i := 32) (oi := { dst := some 124, op := Op.pick (Operand.tmp 114) (Operand.tmp 123) (Operand.const (Value.bool false)), type := 4, pos := "laws.go:346", after := #[{ on := 22, ground := Ground.data }, { on := 31, ground := Ground.data }, { on := 17, ground := Ground.guard }], guard := some (17, false) }) (v := ?v4q32) rfl (by kernel_rfl) (by kernel_rfl) (by kernel_rfl) (fun _ _ _ h => h) (Or.inl ⟨by rfl, ?h4q32⟩) hHeld ?_
              case h4q32 => (intro w hSw; (try dsimp only at hSw); go_simp; try with_reducible rfl)
              try simp only [Act.put, List.setIfInBounds_toArray, List.set_cons_zero, List.set_cons_succ]
              refine wpAnyH_take (i := 33) (oi := { dst := some 125, op := Op.pick (Operand.tmp 109) (Operand.const (Value.bool true)) (Operand.tmp 124), type := 4, pos := "laws.go:346", after := #[{ on := 17, ground := Ground.data }, { on := 32, ground := Ground.data }], guard := none }) (v := ?v4q33) rfl (by kernel_rfl) (by kernel_rfl) (by kernel_rfl) (fun _ _ _ h => h) (Or.inl ⟨by rfl, ?h4q33⟩) hHeld ?_
              case h4q33 => (intro w hSw; (try dsimp only at hSw); go_simp; try with_reducible rfl)
              try simp only [Act.put, List.setIfInBounds_toArray, List.set_cons_zero, List.set_cons_succ]
              refine wpAnyH_take (i := 34) (oi := { dst := some 126, op := Op.move (Operand.tmp 125), type := 4, pos := "laws.go:346", after := #[{ on := 33, ground := Ground.data }, { on := 22, ground := Ground.chain }], guard := none }) (v := ?v4q34) rfl (by kernel_rfl) (by kernel_rfl) (by kernel_rfl) (fun _ _ _ h => h) (Or.inl ⟨by rfl, ?h4q34⟩) hHeld ?_
              case h4q34 => (intro w hSw; (try dsimp only at hSw); go_simp; try with_reducible rfl)
              try simp only [Act.put, List.setIfInBounds_toArray, List.set_cons_zero, List.set_cons_succ]
              refine wpAnyH_take (i := 35) (oi := { dst := some 127, op := Op.move (Operand.tmp 10), type := 26, pos := "laws.go:346", after := #[{ on := 34, ground := Ground.guard }], guard := some (34, false) }) (v := ?v4q35) rfl (by kernel_rfl) (by kernel_rfl) (by kernel_rfl) (fun _ _ _ h => h) (Or.inl ⟨by rfl, ?h4q35⟩) hHeld ?_
              case h4q35 => (intro w hSw; (try dsimp only at hSw); go_simp; try with_reducible rfl)
              try simp only [Act.put, List.setIfInBounds_toArray, List.set_cons_zero, List.set_cons_succ]
              refine wpAnyH_take (i := 36) (oi := { dst := some 128, op := Op.move (Operand.tmp 15), type := 3, pos := "laws.go:346", after := #[{ on := 34, ground := Ground.guard }], guard := some (34, false) }) (v := ?v4q36) rfl (by kernel_rfl) (by kernel_rfl) (by kernel_rfl) (fun _ _ _ h => h) (Or.inl ⟨by rfl, ?h4q36⟩) hHeld ?_
              case h4q36 => (intro w hSw; (try dsimp only at hSw); go_simp; try with_reducible rfl)
              try simp only [Act.put, List.setIfInBounds_toArray, List.set_cons_zero, List.set_cons_succ]
              refine wpAnyH_take (i := 37) (oi := { dst := some 129, op := Op.indexAddr 26 (Operand.tmp 127) (Operand.tmp 128), type := 0, pos := "laws.go:346", after := #[{ on := 35, ground := Ground.data }, { on := 36, ground := Ground.data }, { on := 34, ground := Ground.guard }], guard := some (34, false) }) (v := ?v4q37) rfl (by kernel_rfl) (by kernel_rfl) (by kernel_rfl) (fun _ _ _ h => h) (Or.inl ⟨by rfl, ?h4q37⟩) hHeld ?_
              case h4q37 => (intro w hSw; (try dsimp only at hSw); go_simp; try with_reducible rfl)
              try simp only [Act.put, List.setIfInBounds_toArray, List.set_cons_zero, List.set_cons_succ]
              refine wpAnyH_take (i := 38) (oi := { dst := some 130, op := Op.load 35 (Operand.tmp 129), type := 35, pos := "laws.go:346", after := #[{ on := 37, ground := Ground.data }, { on := 34, ground := Ground.guard }], guard := some (34, false) }) (v := ?v4q38) rfl (by kernel_rfl) (by kernel_rfl) (by kernel_rfl) (fun _ _ _ h => h) (Or.inl ⟨by rfl, ?h4q38⟩) hHeld ?_
              case h4q38 => (intro w hSw; (try dsimp only at hSw); go_simp; try with_reducible rfl)
              try simp only [Act.put, List.setIfInBounds_toArray, List.set_cons_zero, List.set_cons_succ]
              refine wpAnyH_ready (rs := [39]) (by kernel_rfl) (by simp) ?_
              refine AllReadyH.cons (o := { dst := some 131, op := Op.call { callee := Callee.value (Operand.func 13), args := #[Operand.tmp 130], argTypes := #[35] }, type := 4, pos := "laws.go:346", after := #[{ on := 38, ground := Ground.data }, { on := 34, ground := Ground.chain }, { on := 34, ground := Ground.guard }], guard := some (34, false) }) rfl (fun K hK => ?_) AllReadyH.nil
              go_simp
              refine (blockOK_impl y _).mono ?_
              rintro e w8 ⟨rfl, hb8⟩
              rw [unhide HYB]
              have HB8 := hide (fr (Below.refl _ wr).drew hb8)
              clear hb8
              have m0 := ((unhide HB8).cell (p := ⟨P, 0, none⟩) hPl).trans c0
              have m1 := ((unhide HB8).cell (p := ⟨P, 1, none⟩) hPl).trans c1
              have m2 := ((unhide HB8).cell (p := ⟨g, k * 4, none⟩) hgl).trans x0
              have m3 := ((unhide HB8).cell (p := ⟨g, k * 4 + 1, none⟩) hgl).trans x1
              have m4 := ((unhide HB8).cell (p := ⟨g, k * 4 + 2, none⟩) hgl).trans x2
              have m5 := ((unhide HB8).cell (p := ⟨g, k * 4 + 3, none⟩) hgl).trans x3
              have m6 := ((unhide HB8).cell (p := ⟨yb, yo + k * 4, none⟩) hyl).trans y0
              have m7 := ((unhide HB8).cell (p := ⟨yb, yo + k * 4 + 1, none⟩) hyl).trans y1
              have m8 := ((unhide HB8).cell (p := ⟨yb, yo + k * 4 + 2, none⟩) hyl).trans y2
              have m9 := ((unhide HB8).cell (p := ⟨yb, yo + k * 4 + 3, none⟩) hyl).trans y3
              go_wp2_with fail
              refine hK.out _ _ ?kB4 (fun hHeld2 => ?_)
              case kB4 => ((try dsimp only); go_keep)
              clear hK K hHeld
              try simp only [Act.put, List.setIfInBounds_toArray, List.set_cons_zero, List.set_cons_succ]
              refine wpAnyH_take (i := 40) (oi := { dst := some 132, op := Op.unOp UnOp.not 4 (Operand.tmp 131), type := 4, pos := "laws.go:346", after := #[{ on := 39, ground := Ground.data }, { on := 34, ground := Ground.guard }], guard := some (34, false) }) (v := ?v4q40) rfl (by kernel_rfl) (by kernel_rfl) (by kernel_rfl) (fun _ _ _ h => h) (Or.inl ⟨by rfl, ?h4q40⟩) hHeld2 ?_
              case h4q40 => (intro w hSw; (try dsimp only at hSw); go_simp; try with_reducible rfl)
              try simp only [Act.put, List.setIfInBounds_toArray, List.set_cons_zero, List.set_cons_succ]
              refine wpAnyH_take (i := 41) (oi := { dst := some 133, op := Op.pick (Operand.tmp 126) (Operand.const (Value.bool true)) (Operand.tmp 132), type := 4, pos := "laws.go:346", after := #[{ on := 34, ground := Ground.data }, { on := 40, ground := Ground.data }], guard := none }) (v := ?v4q41) rfl (by kernel_rfl) (by kernel_rfl) (by kernel_rfl) (fun _ _ _ h => h) (Or.inl ⟨by rfl, ?h4q41⟩) hHeld2 ?_
              case h4q41 => (intro w hSw; (try dsimp only at hSw); go_simp; try with_reducible rfl)
              try simp only [Act.put, List.setIfInBounds_toArray, List.set_cons_zero, List.set_cons_succ]
              refine wpAnyH_take (i := 42) (oi := { dst := some 134, op := Op.move (Operand.tmp 133), type := 4, pos := "laws.go:346", after := #[{ on := 41, ground := Ground.data }, { on := 39, ground := Ground.chain }], guard := none }) (v := ?v4q42) rfl (by kernel_rfl) (by kernel_rfl) (by kernel_rfl) (fun _ _ _ h => h) (Or.inl ⟨by rfl, ?h4q42⟩) hHeld2 ?_
              case h4q42 => (intro w hSw; (try dsimp only at hSw); go_simp; try with_reducible rfl)
              try simp only [Act.put, List.setIfInBounds_toArray, List.set_cons_zero, List.set_cons_succ]
              refine wpAnyH_take (i := 43) (oi := { dst := some 135, op := Op.move (Operand.tmp 10), type := 26, pos := "laws.go:346", after := #[{ on := 42, ground := Ground.guard }], guard := some (42, false) }) (v := ?v4q43) rfl (by kernel_rfl) (by kernel_rfl) (by kernel_rfl) (fun _ _ _ h => h) (Or.inl ⟨by rfl, ?h4q43⟩) hHeld2 ?_
              case h4q43 => (intro w hSw; (try dsimp only at hSw); go_simp; try with_reducible rfl)
              try simp only [Act.put, List.setIfInBounds_toArray, List.set_cons_zero, List.set_cons_succ]
              refine wpAnyH_take (i := 44) (oi := { dst := some 136, op := Op.move (Operand.tmp 15), type := 3, pos := "laws.go:346", after := #[{ on := 42, ground := Ground.guard }], guard := some (42, false) }) (v := ?v4q44) rfl (by kernel_rfl) (by kernel_rfl) (by kernel_rfl) (fun _ _ _ h => h) (Or.inl ⟨by rfl, ?h4q44⟩) hHeld2 ?_
              case h4q44 => (intro w hSw; (try dsimp only at hSw); go_simp; try with_reducible rfl)
              try simp only [Act.put, List.setIfInBounds_toArray, List.set_cons_zero, List.set_cons_succ]
              refine wpAnyH_take (i := 45) (oi := { dst := some 137, op := Op.indexAddr 26 (Operand.tmp 135) (Operand.tmp 136), type := 0, pos := "laws.go:346", after := #[{ on := 43, ground := Ground.data }, { on := 44, ground := Ground.data }, { on := 42, ground := Ground.guard }], guard := some (42, false) }) (v := ?v4q45) rfl (by kernel_rfl) (by kernel_rfl) (by kernel_rfl) (fun _ _ _ h => h) (Or.inl ⟨by rfl, ?h4q45⟩) hHeld2 ?_
              case h4q45 => (intro w hSw; (try dsimp only at hSw); go_simp; try with_reducible rfl)
              try simp only [Act.put, List.setIfInBounds_toArray, List.set_cons_zero, List.set_cons_succ]
              refine wpAnyH_take (i := 46) (oi := { dst := some 138, op := Op.fieldAddr 35 (Operand.tmp 137) 0, type := 0, pos := "laws.go:346", after := #[{ on := 45, ground := Ground.data }, { on := 42, ground := Ground.guard }], guard := some (42, false) }) (v := ?v4q46) rfl (by kernel_rfl) (by kernel_rfl) (by kernel_rfl) (fun _ _ _ h => h) (Or.inl ⟨by rfl, ?h4q46⟩) hHeld2 ?_
              case h4q46 => (intro w hSw; (try dsimp only at hSw); go_simp; try with_reducible rfl)
              try simp only [Act.put, List.setIfInBounds_toArray, List.set_cons_zero, List.set_cons_succ]
              refine wpAnyH_take (i := 47) (oi := { dst := some 139, op := Op.load 3 (Operand.tmp 138), type := 3, pos := "laws.go:346", after := #[{ on := 46, ground := Ground.data }, { on := 42, ground := Ground.guard }], guard := some (42, false) }) (v := ?v4q47) rfl (by kernel_rfl) (by kernel_rfl) (by kernel_rfl) (fun _ _ _ h => h) (Or.inl ⟨by rfl, ?h4q47⟩) hHeld2 ?_
              case h4q47 => (intro w hSw; (try dsimp only at hSw); go_simp; try with_reducible rfl)
              try simp only [Act.put, List.setIfInBounds_toArray, List.set_cons_zero, List.set_cons_succ]
              refine wpAnyH_take (i := 48) (oi := { dst := some 140, op := Op.move (Operand.tmp 6), type := 26, pos := "laws.go:346", after := #[{ on := 42, ground := Ground.guard }], guard := some (42, false) }) (v := ?v4q48) rfl (by kernel_rfl) (by kernel_rfl) (by kernel_rfl) (fun _ _ _ h => h) (Or.inl ⟨by rfl, ?h4q48⟩) hHeld2 ?_
              case h4q48 => (intro w hSw; (try dsimp only at hSw); go_simp; try with_reducible rfl)
              try simp only [Act.put, List.setIfInBounds_toArray, List.set_cons_zero, List.set_cons_succ]
              refine wpAnyH_take (i := 49) (oi := { dst := some 141, op := Op.move (Operand.tmp 15), type := 3, pos := "laws.go:346", after := #[{ on := 42, ground := Ground.guard }], guard := some (42, false) }) (v := ?v4q49) rfl (by kernel_rfl) (by kernel_rfl) (by kernel_rfl) (fun _ _ _ h => h) (Or.inl ⟨by rfl, ?h4q49⟩) hHeld2 ?_
              case h4q49 => (intro w hSw; (try dsimp only at hSw); go_simp; try with_reducible rfl)
              try simp only [Act.put, List.setIfInBounds_toArray, List.set_cons_zero, List.set_cons_succ]
              refine wpAnyH_take (i := 50) (oi := { dst := some 142, op := Op.indexAddr 26 (Operand.tmp 140) (Operand.tmp 141), type := 0, pos := "laws.go:346", after := #[{ on := 48, ground := Ground.data }, { on := 49, ground := Ground.data }, { on := 42, ground := Ground.guard }], guard := some (42, false) }) (v := ?v4q50) rfl (by kernel_rfl) (by kernel_rfl) (by kernel_rfl) (fun _ _ _ h => h) (Or.inl ⟨by rfl, ?h4q50⟩) hHeld2 ?_
              case h4q50 => (intro w hSw; (try dsimp only at hSw); go_simp; try with_reducible rfl)
              try simp only [Act.put, List.setIfInBounds_toArray, List.set_cons_zero, List.set_cons_succ]
              refine wpAnyH_take (i := 51) (oi := { dst := some 143, op := Op.fieldAddr 35 (Operand.tmp 142) 0, type := 0, pos := "laws.go:346", after := #[{ on := 50, ground := Ground.data }, { on := 42, ground := Ground.guard }], guard := some (42, false) }) (v := ?v4q51) rfl (by kernel_rfl) (by kernel_rfl) (by kernel_rfl) (fun _ _ _ h => h) (Or.inl ⟨by rfl, ?h4q51⟩) hHeld2 ?_
              case h4q51 => (intro w hSw; (try dsimp only at hSw); go_simp; try with_reducible rfl)
              try simp only [Act.put, List.setIfInBounds_toArray, List.set_cons_zero, List.set_cons_succ]
              refine wpAnyH_take (i := 52) (oi := { dst := some 144, op := Op.load 3 (Operand.tmp 143), type := 3, pos := "laws.go:346", after := #[{ on := 51, ground := Ground.data }, { on := 42, ground := Ground.guard }], guard := some (42, false) }) (v := ?v4q52) rfl (by kernel_rfl) (by kernel_rfl) (by kernel_rfl) (fun _ _ _ h => h) (Or.inl ⟨by rfl, ?h4q52⟩) hHeld2 ?_
              case h4q52 => (intro w hSw; (try dsimp only at hSw); go_simp; try with_reducible rfl)
              try simp only [Act.put, List.setIfInBounds_toArray, List.set_cons_zero, List.set_cons_succ]
              refine wpAnyH_take (i := 53) (oi := { dst := some 145, op := Op.binOp BinOp.eql 3 (Operand.tmp 139) (Operand.tmp 144) 3, type := 4, pos := "laws.go:346", after := #[{ on := 47, ground := Ground.data }, { on := 52, ground := Ground.data }, { on := 42, ground := Ground.guard }], guard := some (42, false) }) (v := ?v4q53) rfl (by kernel_rfl) (by kernel_rfl) (by kernel_rfl) (fun _ _ _ h => h) (Or.inl ⟨by rfl, ?h4q53⟩) hHeld2 ?_
              case h4q53 => (intro w hSw; (try dsimp only at hSw); go_simp; try with_reducible rfl)
              try simp only [Act.put, List.setIfInBounds_toArray, List.set_cons_zero, List.set_cons_succ]
              refine wpAnyH_take (i := 54) (oi := { dst := some 146, op := Op.move (Operand.tmp 145), type := 4, pos := "laws.go:346", after := #[{ on := 53, ground := Ground.data }, { on := 42, ground := Ground.chain }, { on := 42, ground := Ground.guard }], guard := some (42, false) }) (v := ?v4q54) rfl (by kernel_rfl) (by kernel_rfl) (by kernel_rfl) (fun _ _ _ h => h) (Or.inl ⟨by rfl, ?h4q54⟩) hHeld2 ?_
              case h4q54 => (intro w hSw; (try dsimp only at hSw); go_simp; try with_reducible rfl)
              try simp only [Act.put, List.setIfInBounds_toArray, List.set_cons_zero, List.set_cons_succ]
              refine wpAnyH_take (i := 55) (oi := { dst := some 147, op := Op.move (Operand.tmp 10), type := 26, pos := "laws.go:346", after := #[{ on := 54, ground := Ground.guard }], guard := some (54, true) }) (v := undef) rfl (by kernel_rfl) (by kernel_rfl) (by kernel_rfl) (fun _ _ _ h => h) (Or.inr ⟨by rfl, rfl⟩) hHeld2 ?_
              try simp only [Act.put, List.setIfInBounds_toArray, List.set_cons_zero, List.set_cons_succ]
              refine wpAnyH_take (i := 56) (oi := { dst := some 148, op := Op.move (Operand.tmp 15), type := 3, pos := "laws.go:346", after := #[{ on := 54, ground := Ground.guard }], guard := some (54, true) }) (v := undef) rfl (by kernel_rfl) (by kernel_rfl) (by kernel_rfl) (fun _ _ _ h => h) (Or.inr ⟨by rfl, rfl⟩) hHeld2 ?_
              try simp only [Act.put, List.setIfInBounds_toArray, List.set_cons_zero, List.set_cons_succ]
              refine wpAnyH_take (i := 57) (oi := { dst := some 149, op := Op.indexAddr 26 (Operand.tmp 147) (Operand.tmp 148), type := 0, pos := "laws.go:346", after := #[{ on := 55, ground := Ground.data }, { on := 56, ground := Ground.data }, { on := 54, ground := Ground.guard }], guard := some (54, true) }) (v := undef) rfl (by kernel_rfl) (by kernel_rfl) (by kernel_rfl) (fun _ _ _ h => h) (Or.inr ⟨by rfl, rfl⟩) hHeld2 ?_
              try simp only [Act.put, List.setIfInBounds_toArray, List.set_cons_zero, List.set_cons_succ]
              refine wpAnyH_take (i := 58) (oi := { dst := some 150, op := Op.fieldAddr 35 (Operand.tmp 149) 1, type := 0, pos := "laws.go:346", after := #[{ on := 57, ground := Ground.data }, { on := 54, ground := Ground.guard }], guard := some (54, true) }) (v := undef) rfl (by kernel_rfl) (by kernel_rfl) (by kernel_rfl) (fun _ _ _ h => h) (Or.inr ⟨by rfl, rfl⟩) hHeld2 ?_
              try simp only [Act.put, List.setIfInBounds_toArray, List.set_cons_zero, List.set_cons_succ]
              refine wpAnyH_take (i := 59) (oi := { dst := some 151, op := Op.load 3 (Operand.tmp 150), type := 3, pos := "laws.go:346", after := #[{ on := 58, ground := Ground.data }, { on := 54, ground := Ground.guard }], guard := some (54, true) }) (v := undef) rfl (by kernel_rfl) (by kernel_rfl) (by kernel_rfl) (fun _ _ _ h => h) (Or.inr ⟨by rfl, rfl⟩) hHeld2 ?_
              try simp only [Act.put, List.setIfInBounds_toArray, List.set_cons_zero, List.set_cons_succ]
              refine wpAnyH_take (i := 60) (oi := { dst := some 152, op := Op.move (Operand.tmp 6), type := 26, pos := "laws.go:346", after := #[{ on := 54, ground := Ground.guard }], guard := some (54, true) }) (v := undef) rfl (by kernel_rfl) (by kernel_rfl) (by kernel_rfl) (fun _ _ _ h => h) (Or.inr ⟨by rfl, rfl⟩) hHeld2 ?_
              try simp only [Act.put, List.setIfInBounds_toArray, List.set_cons_zero, List.set_cons_succ]
              refine wpAnyH_take (i := 61) (oi := { dst := some 153, op := Op.move (Operand.tmp 15), type := 3, pos := "laws.go:346", after := #[{ on := 54, ground := Ground.guard }], guard := some (54, true) }) (v := undef) rfl (by kernel_rfl) (by kernel_rfl) (by kernel_rfl) (fun _ _ _ h => h) (Or.inr ⟨by rfl, rfl⟩) hHeld2 ?_
              try simp only [Act.put, List.setIfInBounds_toArray, List.set_cons_zero, List.set_cons_succ]
              refine wpAnyH_take (i := 62) (oi := { dst := some 154, op := Op.indexAddr 26 (Operand.tmp 152) (Operand.tmp 153), type := 0, pos := "laws.go:346", after := #[{ on := 60, ground := Ground.data }, { on := 61, ground := Ground.data }, { on := 54, ground := Ground.guard }], guard := some (54, true) }) (v := undef) rfl (by kernel_rfl) (by kernel_rfl) (by kernel_rfl) (fun _ _ _ h => h) (Or.inr ⟨by rfl, rfl⟩) hHeld2 ?_
              try simp only [Act.put, List.setIfInBounds_toArray, List.set_cons_zero, List.set_cons_succ]
              refine wpAnyH_take (i := 63) (oi := { dst := some 155, op := Op.fieldAddr 35 (Operand.tmp 154) 1, type := 0, pos := "laws.go:346", after := #[{ on := 62, ground := Ground.data }, { on := 54, ground := Ground.guard }], guard := some (54, true) }) (v := undef) rfl (by kernel_rfl) (by kernel_rfl) (by kernel_rfl) (fun _ _ _ h => h) (Or.inr ⟨by rfl, rfl⟩) hHeld2 ?_
              try simp only [Act.put, List.setIfInBounds_toArray, List.set_cons_zero, List.set_cons_succ]
              refine wpAnyH_take (i := 64) (oi := { dst := some 156, op := Op.load 3 (Operand.tmp 155), type := 3, pos := "laws.go:346", after := #[{ on := 63, ground := Ground.data }, { on := 54, ground := Ground.guard }], guard := some (54, true) }) (v := undef) rfl (by kernel_rfl) (by kernel_rfl) (by kernel_rfl) (fun _ _ _ h => h) (Or.inr ⟨by rfl, rfl⟩) hHeld2 ?_
              try simp only [Act.put, List.setIfInBounds_toArray, List.set_cons_zero, List.set_cons_succ]
              refine wpAnyH_take (i := 65) (oi := { dst := some 157, op := Op.binOp BinOp.lss 3 (Operand.tmp 151) (Operand.tmp 156) 3, type := 4, pos := "laws.go:346", after := #[{ on := 59, ground := Ground.data }, { on := 64, ground := Ground.data }, { on := 54, ground := Ground.guard }], guard := some (54, true) }) (v := undef) rfl (by kernel_rfl) (by kernel_rfl) (by kernel_rfl) (fun _ _ _ h => h) (Or.inr ⟨by rfl, rfl⟩) hHeld2 ?_
              try simp only [Act.put, List.setIfInBounds_toArray, List.set_cons_zero, List.set_cons_succ]
              refine wpAnyH_take (i := 66) (oi := { dst := some 158, op := Op.pick (Operand.tmp 146) (Operand.tmp 157) (Operand.const (Value.bool false)), type := 4, pos := "laws.go:346", after := #[{ on := 54, ground := Ground.data }, { on := 65, ground := Ground.data }, { on := 42, ground := Ground.guard }], guard := some (42, false) }) (v := ?v4q66) rfl (by kernel_rfl) (by kernel_rfl) (by kernel_rfl) (fun _ _ _ h => h) (Or.inl ⟨by rfl, ?h4q66⟩) hHeld2 ?_
              case h4q66 => (intro w hSw; (try dsimp only at hSw); go_simp; try with_reducible rfl)
              try simp only [Act.put, List.setIfInBounds_toArray, List.set_cons_zero, List.set_cons_succ]
              refine wpAnyH_take (i := 67) (oi := { dst := some 159, op := Op.pick (Operand.tmp 134) (Operand.const (Value.bool true)) (Operand.tmp 158), type := 4, pos := "laws.go:346", after := #[{ on := 42, ground := Ground.data }, { on := 66, ground := Ground.data }], guard := none }) (v := ?v4q67) rfl (by kernel_rfl) (by kernel_rfl) (by kernel_rfl) (fun _ _ _ h => h) (Or.inl ⟨by rfl, ?h4q67⟩) hHeld2 ?_
              case h4q67 => (intro w hSw; (try dsimp only at hSw); go_simp; try with_reducible rfl)
              try simp only [Act.put, List.setIfInBounds_toArray, List.set_cons_zero, List.set_cons_succ]
              refine wpAnyH_done (by kernel_rfl) ?_ _
              go_wp2_with fail
              go_meet
              first | exact ⟨rfl, hide (fr (unhide HB) (unhide HB8))⟩ | exact ⟨congrArg Value.bool (decide_eq_false (by first | exact hm2 | exact Int.not_lt.2 hm2)), hide (fr (unhide HB) (unhide HB8))⟩
          · have bo : ((k : Int) != p.host) = true := by simp [ho]
            have hyx := unhide HO ho
            subst hyx
            clear ho
            have e0 : (y.ver == y.ver) = true := by simp
            have e1 : (y.mbal == y.mbal) = true := by simp
            have e2 : (y.bal == y.bal) = true := by simp
            have e3 : (y.inp == y.inp) = true := by simp
            have hm2 : ¬ y.mbal < y.mbal := by omega
            refine wp_region_held_drew (S := (fun w' => w'.cell? ⟨P, 0, none⟩ = some (.int .i64 p.host) ∧ w'.cell? ⟨P, 1, none⟩ = some (.int .i64 p.ver) ∧ w'.cell? ⟨g, k * 4, none⟩ = some (.int .i64 y.ver) ∧ w'.cell? ⟨g, k * 4 + 1, none⟩ = some (.int .i64 y.mbal) ∧ w'.cell? ⟨g, k * 4 + 2, none⟩ = some (.int .i64 y.bal) ∧ w'.cell? ⟨g, k * 4 + 3, none⟩ = some (.int .i64 y.inp) ∧ w'.cell? ⟨yb, yo + k * 4, none⟩ = some (.int .i64 y.ver) ∧ w'.cell? ⟨yb, yo + k * 4 + 1, none⟩ = some (.int .i64 y.mbal) ∧ w'.cell? ⟨yb, yo + k * 4 + 2, none⟩ = some (.int .i64 y.bal) ∧ w'.cell? ⟨yb, yo + k * 4 + 3, none⟩ = some (.int .i64 y.inp))) (by kernel_rfl) ?kA5 (fun hHeld => ?_)
            case kA5 => ((try dsimp only); go_keep)
            refine wpAnyH_take (i := 0) (oi := { dst := some 92, op := Op.move (Operand.tmp 6), type := 26, pos := "laws.go:346", after := #[], guard := none }) (v := ?v5q0) rfl (by kernel_rfl) (by kernel_rfl) (by kernel_rfl) (fun _ _ _ h => h) (Or.inl ⟨by rfl, ?h5q0⟩) hHeld ?_
            case h5q0 => (intro w hSw; (try dsimp only at hSw); go_simp; try with_reducible rfl)
            try simp only [Act.put, List.setIfInBounds_toArray, List.set_cons_zero, List.set_cons_succ]
            refine wpAnyH_take (i := 1) (oi := { dst := some 93, op := Op.move (Operand.tmp 15), type := 3, pos := "laws.go:346", after := #[], guard := none }) (v := ?v5q1) rfl (by kernel_rfl) (by kernel_rfl) (by kernel_rfl) (fun _ _ _ h => h) (Or.inl ⟨by rfl, ?h5q1⟩) hHeld ?_
            case h5q1 => (intro w hSw; (try dsimp only at hSw); go_simp; try with_reducible rfl)
            try simp only [Act.put, List.setIfInBounds_toArray, List.set_cons_zero, List.set_cons_succ]
            refine wpAnyH_take (i := 2) (oi := { dst := some 94, op := Op.indexAddr 26 (Operand.tmp 92) (Operand.tmp 93), type := 0, pos := "laws.go:346", after := #[{ on := 0, ground := Ground.data }, { on := 1, ground := Ground.data }], guard := none }) (v := ?v5q2) rfl (by kernel_rfl) (by kernel_rfl) (by kernel_rfl) (fun _ _ _ h => h) (Or.inl ⟨by rfl, ?h5q2⟩) hHeld ?_
            case h5q2 => (intro w hSw; (try dsimp only at hSw); go_simp; try with_reducible rfl)
            try simp only [Act.put, List.setIfInBounds_toArray, List.set_cons_zero, List.set_cons_succ]
            refine wpAnyH_take (i := 3) (oi := { dst := some 95, op := Op.fieldAddr 35 (Operand.tmp 94) 0, type := 0, pos := "laws.go:346", after := #[{ on := 2, ground := Ground.data }], guard := none }) (v := ?v5q3) rfl (by kernel_rfl) (by kernel_rfl) (by kernel_rfl) (fun _ _ _ h => h) (Or.inl ⟨by rfl, ?h5q3⟩) hHeld ?_
            case h5q3 => (intro w hSw; (try dsimp only at hSw); go_simp; try with_reducible rfl)
            try simp only [Act.put, List.setIfInBounds_toArray, List.set_cons_zero, List.set_cons_succ]
            refine wpAnyH_take (i := 4) (oi := { dst := some 96, op := Op.load 3 (Operand.tmp 95), type := 3, pos := "laws.go:346", after := #[{ on := 3, ground := Ground.data }], guard := none }) (v := ?v5q4) rfl (by kernel_rfl) (by kernel_rfl) (by kernel_rfl) (fun _ _ _ h => h) (Or.inl ⟨by rfl, ?h5q4⟩) hHeld ?_
            case h5q4 => (intro w hSw; (try dsimp only at hSw); go_simp; try with_reducible rfl)
            try simp only [Act.put, List.setIfInBounds_toArray, List.set_cons_zero, List.set_cons_succ]
            refine wpAnyH_take (i := 5) (oi := { dst := some 97, op := Op.fieldAddr 24 (Operand.tmp 5) 1, type := 0, pos := "laws.go:346", after := #[], guard := none }) (v := ?v5q5) rfl (by kernel_rfl) (by kernel_rfl) (by kernel_rfl) (fun _ _ _ h => h) (Or.inl ⟨by rfl, ?h5q5⟩) hHeld ?_
            case h5q5 => (intro w hSw; (try dsimp only at hSw); go_simp; try with_reducible rfl)
            try simp only [Act.put, List.setIfInBounds_toArray, List.set_cons_zero, List.set_cons_succ]
            refine wpAnyH_take (i := 6) (oi := { dst := some 98, op := Op.load 3 (Operand.tmp 97), type := 3, pos := "laws.go:346", after := #[{ on := 5, ground := Ground.data }], guard := none }) (v := ?v5q6) rfl (by kernel_rfl) (by kernel_rfl) (by kernel_rfl) (fun _ _ _ h => h) (Or.inl ⟨by rfl, ?h5q6⟩) hHeld ?_
            case h5q6 => (intro w hSw; (try dsimp only at hSw); go_simp; try with_reducible rfl)
            try simp only [Act.put, List.setIfInBounds_toArray, List.set_cons_zero, List.set_cons_succ]
            refine wpAnyH_take (i := 7) (oi := { dst := some 99, op := Op.binOp BinOp.geq 3 (Operand.tmp 96) (Operand.tmp 98) 3, type := 4, pos := "laws.go:346", after := #[{ on := 4, ground := Ground.data }, { on := 6, ground := Ground.data }], guard := none }) (v := ?v5q7) rfl (by kernel_rfl) (by kernel_rfl) (by kernel_rfl) (fun _ _ _ h => h) (Or.inl ⟨by rfl, ?h5q7⟩) hHeld ?_
            case h5q7 => (intro w hSw; (try dsimp only at hSw); go_simp; try with_reducible rfl)
            try simp only [Act.put, List.setIfInBounds_toArray, List.set_cons_zero, List.set_cons_succ]
            refine wpAnyH_take (i := 8) (oi := { dst := some 100, op := Op.move (Operand.tmp 99), type := 4, pos := "laws.go:346", after := #[{ on := 7, ground := Ground.data }], guard := none }) (v := ?v5q8) rfl (by kernel_rfl) (by kernel_rfl) (by kernel_rfl) (fun _ _ _ h => h) (Or.inl ⟨by rfl, ?h5q8⟩) hHeld ?_
            case h5q8 => (intro w hSw; (try dsimp only at hSw); go_simp; try with_reducible rfl)
            try simp only [Act.put, List.setIfInBounds_toArray, List.set_cons_zero, List.set_cons_succ]
            refine wpAnyH_take (i := 9) (oi := { dst := some 101, op := Op.move (Operand.tmp 6), type := 26, pos := "laws.go:346", after := #[{ on := 8, ground := Ground.guard }], guard := some (8, true) }) (v := undef) rfl (by kernel_rfl) (by kernel_rfl) (by kernel_rfl) (fun _ _ _ h => h) (Or.inr ⟨by rfl, rfl⟩) hHeld ?_
            try simp only [Act.put, List.setIfInBounds_toArray, List.set_cons_zero, List.set_cons_succ]
            refine wpAnyH_take (i := 10) (oi := { dst := some 102, op := Op.move (Operand.tmp 15), type := 3, pos := "laws.go:346", after := #[{ on := 8, ground := Ground.guard }], guard := some (8, true) }) (v := undef) rfl (by kernel_rfl) (by kernel_rfl) (by kernel_rfl) (fun _ _ _ h => h) (Or.inr ⟨by rfl, rfl⟩) hHeld ?_
            try simp only [Act.put, List.setIfInBounds_toArray, List.set_cons_zero, List.set_cons_succ]
            refine wpAnyH_take (i := 11) (oi := { dst := some 103, op := Op.indexAddr 26 (Operand.tmp 101) (Operand.tmp 102), type := 0, pos := "laws.go:346", after := #[{ on := 9, ground := Ground.data }, { on := 10, ground := Ground.data }, { on := 8, ground := Ground.guard }], guard := some (8, true) }) (v := undef) rfl (by kernel_rfl) (by kernel_rfl) (by kernel_rfl) (fun _ _ _ h => h) (Or.inr ⟨by rfl, rfl⟩) hHeld ?_
            try simp only [Act.put, List.setIfInBounds_toArray, List.set_cons_zero, List.set_cons_succ]
            refine wpAnyH_take (i := 12) (oi := { dst := some 104, op := Op.fieldAddr 35 (Operand.tmp 103) 1, type := 0, pos := "laws.go:346", after := #[{ on := 11, ground := Ground.data }, { on := 8, ground := Ground.guard }], guard := some (8, true) }) (v := undef) rfl (by kernel_rfl) (by kernel_rfl) (by kernel_rfl) (fun _ _ _ h => h) (Or.inr ⟨by rfl, rfl⟩) hHeld ?_
            try simp only [Act.put, List.setIfInBounds_toArray, List.set_cons_zero, List.set_cons_succ]
            refine wpAnyH_take (i := 13) (oi := { dst := some 105, op := Op.load 3 (Operand.tmp 104), type := 3, pos := "laws.go:346", after := #[{ on := 12, ground := Ground.data }, { on := 8, ground := Ground.guard }], guard := some (8, true) }) (v := undef) rfl (by kernel_rfl) (by kernel_rfl) (by kernel_rfl) (fun _ _ _ h => h) (Or.inr ⟨by rfl, rfl⟩) hHeld ?_
            try simp only [Act.put, List.setIfInBounds_toArray, List.set_cons_zero, List.set_cons_succ]
            refine wpAnyH_take (i := 14) (oi := { dst := some 106, op := Op.move (Operand.tmp 7), type := 3, pos := "laws.go:346", after := #[{ on := 8, ground := Ground.guard }], guard := some (8, true) }) (v := undef) rfl (by kernel_rfl) (by kernel_rfl) (by kernel_rfl) (fun _ _ _ h => h) (Or.inr ⟨by rfl, rfl⟩) hHeld ?_
            try simp only [Act.put, List.setIfInBounds_toArray, List.set_cons_zero, List.set_cons_succ]
            refine wpAnyH_take (i := 15) (oi := { dst := some 107, op := Op.binOp BinOp.geq 3 (Operand.tmp 105) (Operand.tmp 106) 3, type := 4, pos := "laws.go:346", after := #[{ on := 13, ground := Ground.data }, { on := 14, ground := Ground.data }, { on := 8, ground := Ground.guard }], guard := some (8, true) }) (v := undef) rfl (by kernel_rfl) (by kernel_rfl) (by kernel_rfl) (fun _ _ _ h => h) (Or.inr ⟨by rfl, rfl⟩) hHeld ?_
            try simp only [Act.put, List.setIfInBounds_toArray, List.set_cons_zero, List.set_cons_succ]
            refine wpAnyH_take (i := 16) (oi := { dst := some 108, op := Op.pick (Operand.tmp 100) (Operand.tmp 107) (Operand.const (Value.bool false)), type := 4, pos := "laws.go:346", after := #[{ on := 8, ground := Ground.data }, { on := 15, ground := Ground.data }], guard := none }) (v := ?v5q16) rfl (by kernel_rfl) (by kernel_rfl) (by kernel_rfl) (fun _ _ _ h => h) (Or.inl ⟨by rfl, ?h5q16⟩) hHeld ?_
            case h5q16 => (intro w hSw; (try dsimp only at hSw); go_simp; try with_reducible rfl)
            try simp only [Act.put, List.setIfInBounds_toArray, List.set_cons_zero, List.set_cons_succ]
            refine wpAnyH_take (i := 17) (oi := { dst := some 109, op := Op.move (Operand.tmp 108), type := 4, pos := "laws.go:346", after := #[{ on := 16, ground := Ground.data }, { on := 8, ground := Ground.chain }], guard := none }) (v := ?v5q17) rfl (by kernel_rfl) (by kernel_rfl) (by kernel_rfl) (fun _ _ _ h => h) (Or.inl ⟨by rfl, ?h5q17⟩) hHeld ?_
            case h5q17 => (intro w hSw; (try dsimp only at hSw); go_simp; try with_reducible rfl)
            try simp only [Act.put, List.setIfInBounds_toArray, List.set_cons_zero, List.set_cons_succ]
            refine wpAnyH_take (i := 18) (oi := { dst := some 110, op := Op.move (Operand.tmp 15), type := 3, pos := "laws.go:346", after := #[{ on := 17, ground := Ground.guard }], guard := some (17, false) }) (v := ?v5q18) rfl (by kernel_rfl) (by kernel_rfl) (by kernel_rfl) (fun _ _ _ h => h) (Or.inl ⟨by rfl, ?h5q18⟩) hHeld ?_
            case h5q18 => (intro w hSw; (try dsimp only at hSw); go_simp; try with_reducible rfl)
            try simp only [Act.put, List.setIfInBounds_toArray, List.set_cons_zero, List.set_cons_succ]
            refine wpAnyH_take (i := 19) (oi := { dst := some 111, op := Op.fieldAddr 24 (Operand.tmp 5) 0, type := 0, pos := "laws.go:346", after := #[{ on := 17, ground := Ground.guard }], guard := some (17, false) }) (v := ?v5q19) rfl (by kernel_rfl) (by kernel_rfl) (by kernel_rfl) (fun _ _ _ h => h) (Or.inl ⟨by rfl, ?h5q19⟩) hHeld ?_
            case h5q19 => (intro w hSw; (try dsimp only at hSw); go_simp; try with_reducible rfl)
            try simp only [Act.put, List.setIfInBounds_toArray, List.set_cons_zero, List.set_cons_succ]
            refine wpAnyH_take (i := 20) (oi := { dst := some 112, op := Op.load 3 (Operand.tmp 111), type := 3, pos := "laws.go:346", after := #[{ on := 19, ground := Ground.data }, { on := 17, ground := Ground.guard }], guard := some (17, false) }) (v := ?v5q20) rfl (by kernel_rfl) (by kernel_rfl) (by kernel_rfl) (fun _ _ _ h => h) (Or.inl ⟨by rfl, ?h5q20⟩) hHeld ?_
            case h5q20 => (intro w hSw; (try dsimp only at hSw); go_simp; try with_reducible rfl)
            try simp only [Act.put, List.setIfInBounds_toArray, List.set_cons_zero, List.set_cons_succ]
            refine wpAnyH_take (i := 21) (oi := { dst := some 113, op := Op.binOp BinOp.neq 3 (Operand.tmp 110) (Operand.tmp 112) 3, type := 4, pos := "laws.go:346", after := #[{ on := 18, ground := Ground.data }, { on := 20, ground := Ground.data }, { on := 17, ground := Ground.guard }], guard := some (17, false) }) (v := ?v5q21) rfl (by kernel_rfl) (by kernel_rfl) (by kernel_rfl) (fun _ _ _ h => h) (Or.inl ⟨by rfl, ?h5q21⟩) hHeld ?_
            case h5q21 => (intro w hSw; (try dsimp only at hSw); go_simp; try with_reducible rfl)
            try simp only [Act.put, List.setIfInBounds_toArray, List.set_cons_zero, List.set_cons_succ]
            refine wpAnyH_take (i := 22) (oi := { dst := some 114, op := Op.move (Operand.tmp 113), type := 4, pos := "laws.go:346", after := #[{ on := 21, ground := Ground.data }, { on := 17, ground := Ground.chain }, { on := 17, ground := Ground.guard }], guard := some (17, false) }) (v := ?v5q22) rfl (by kernel_rfl) (by kernel_rfl) (by kernel_rfl) (fun _ _ _ h => h) (Or.inl ⟨by rfl, ?h5q22⟩) hHeld ?_
            case h5q22 => (intro w hSw; (try dsimp only at hSw); go_simp; try with_reducible rfl)
            try simp only [Act.put, List.setIfInBounds_toArray, List.set_cons_zero, List.set_cons_succ]
            refine wpAnyH_take (i := 23) (oi := { dst := some 115, op := Op.move (Operand.tmp 10), type := 26, pos := "laws.go:346", after := #[{ on := 22, ground := Ground.guard }], guard := some (22, true) }) (v := ?v5q23) rfl (by kernel_rfl) (by kernel_rfl) (by kernel_rfl) (fun _ _ _ h => h) (Or.inl ⟨by rfl, ?h5q23⟩) hHeld ?_
            case h5q23 => (intro w hSw; (try dsimp only at hSw); go_simp; try with_reducible rfl)
            try simp only [Act.put, List.setIfInBounds_toArray, List.set_cons_zero, List.set_cons_succ]
            refine wpAnyH_take (i := 24) (oi := { dst := some 116, op := Op.move (Operand.tmp 15), type := 3, pos := "laws.go:346", after := #[{ on := 22, ground := Ground.guard }], guard := some (22, true) }) (v := ?v5q24) rfl (by kernel_rfl) (by kernel_rfl) (by kernel_rfl) (fun _ _ _ h => h) (Or.inl ⟨by rfl, ?h5q24⟩) hHeld ?_
            case h5q24 => (intro w hSw; (try dsimp only at hSw); go_simp; try with_reducible rfl)
            try simp only [Act.put, List.setIfInBounds_toArray, List.set_cons_zero, List.set_cons_succ]
            refine wpAnyH_take (i := 25) (oi := { dst := some 117, op := Op.indexAddr 26 (Operand.tmp 115) (Operand.tmp 116), type := 0, pos := "laws.go:346", after := #[{ on := 23, ground := Ground.data }, { on := 24, ground := Ground.data }, { on := 22, ground := Ground.guard }], guard := some (22, true) }) (v := ?v5q25) rfl (by kernel_rfl) (by kernel_rfl) (by kernel_rfl) (fun _ _ _ h => h) (Or.inl ⟨by rfl, ?h5q25⟩) hHeld ?_
            case h5q25 => (intro w hSw; (try dsimp only at hSw); go_simp; try with_reducible rfl)
            try simp only [Act.put, List.setIfInBounds_toArray, List.set_cons_zero, List.set_cons_succ]
            refine wpAnyH_take (i := 26) (oi := { dst := some 118, op := Op.load 35 (Operand.tmp 117), type := 35, pos := "laws.go:346", after := #[{ on := 25, ground := Ground.data }, { on := 22, ground := Ground.guard }], guard := some (22, true) }) (v := ?v5q26) rfl (by kernel_rfl) (by kernel_rfl) (by kernel_rfl) (fun _ _ _ h => h) (Or.inl ⟨by rfl, ?h5q26⟩) hHeld ?_
            case h5q26 => (intro w hSw; (try dsimp only at hSw); go_simp; try with_reducible rfl)
            try simp only [Act.put, List.setIfInBounds_toArray, List.set_cons_zero, List.set_cons_succ]
            refine wpAnyH_take (i := 27) (oi := { dst := some 119, op := Op.move (Operand.tmp 6), type := 26, pos := "laws.go:346", after := #[{ on := 22, ground := Ground.guard }], guard := some (22, true) }) (v := ?v5q27) rfl (by kernel_rfl) (by kernel_rfl) (by kernel_rfl) (fun _ _ _ h => h) (Or.inl ⟨by rfl, ?h5q27⟩) hHeld ?_
            case h5q27 => (intro w hSw; (try dsimp only at hSw); go_simp; try with_reducible rfl)
            try simp only [Act.put, List.setIfInBounds_toArray, List.set_cons_zero, List.set_cons_succ]
            refine wpAnyH_take (i := 28) (oi := { dst := some 120, op := Op.move (Operand.tmp 15), type := 3, pos := "laws.go:346", after := #[{ on := 22, ground := Ground.guard }], guard := some (22, true) }) (v := ?v5q28) rfl (by kernel_rfl) (by kernel_rfl) (by kernel_rfl) (fun _ _ _ h => h) (Or.inl ⟨by rfl, ?h5q28⟩) hHeld ?_
            case h5q28 => (intro w hSw; (try dsimp only at hSw); go_simp; try with_reducible rfl)
            try simp only [Act.put, List.setIfInBounds_toArray, List.set_cons_zero, List.set_cons_succ]
            refine wpAnyH_take (i := 29) (oi := { dst := some 121, op := Op.indexAddr 26 (Operand.tmp 119) (Operand.tmp 120), type := 0, pos := "laws.go:346", after := #[{ on := 27, ground := Ground.data }, { on := 28, ground := Ground.data }, { on := 22, ground := Ground.guard }], guard := some (22, true) }) (v := ?v5q29) rfl (by kernel_rfl) (by kernel_rfl) (by kernel_rfl) (fun _ _ _ h => h) (Or.inl ⟨by rfl, ?h5q29⟩) hHeld ?_
            case h5q29 => (intro w hSw; (try dsimp only at hSw); go_simp; try with_reducible rfl)
            try simp only [Act.put, List.setIfInBounds_toArray, List.set_cons_zero, List.set_cons_succ]
            refine wpAnyH_take (i := 30) (oi := { dst := some 122, op := Op.load 35 (Operand.tmp 121), type := 35, pos := "laws.go:346", after := #[{ on := 29, ground := Ground.data }, { on := 22, ground := Ground.guard }], guard := some (22, true) }) (v := ?v5q30) rfl (by kernel_rfl) (by kernel_rfl) (by kernel_rfl) (fun _ _ _ h => h) (Or.inl ⟨by rfl, ?h5q30⟩) hHeld ?_
            case h5q30 => (intro w hSw; (try dsimp only at hSw); go_simp; try with_reducible rfl)
            try simp only [Act.put, List.setIfInBounds_toArray, List.set_cons_zero, List.set_cons_succ]
            refine wpAnyH_take (i := 31) (oi := { dst := some 123, op := Op.binOp BinOp.neq 35 (Operand.tmp 118) (Operand.tmp 122) 35, type := 4, pos := "laws.go:346", after := #[{ on := 26, ground := Ground.data }, { on := 30, ground := Ground.data }, { on := 22, ground := Ground.guard }], guard := some (22, true) }) (v := ?v5q31) rfl (by kernel_rfl) (by kernel_rfl) (by kernel_rfl) (fun _ _ _ h => h) (Or.inl ⟨by rfl, ?h5q31⟩) hHeld ?_
            case h5q31 => (intro w hSw; (try dsimp only at hSw); go_simp; try with_reducible rfl)
            try simp only [Act.put, List.setIfInBounds_toArray, List.set_cons_zero, List.set_cons_succ]
            refine wpAnyH_take (i := 32) (oi := { dst := some 124, op := Op.pick (Operand.tmp 114) (Operand.tmp 123) (Operand.const (Value.bool false)), type := 4, pos := "laws.go:346", after := #[{ on := 22, ground := Ground.data }, { on := 31, ground := Ground.data }, { on := 17, ground := Ground.guard }], guard := some (17, false) }) (v := ?v5q32) rfl (by kernel_rfl) (by kernel_rfl) (by kernel_rfl) (fun _ _ _ h => h) (Or.inl ⟨by rfl, ?h5q32⟩) hHeld ?_
            case h5q32 => (intro w hSw; (try dsimp only at hSw); go_simp; try with_reducible rfl)
            try simp only [Act.put, List.setIfInBounds_toArray, List.set_cons_zero, List.set_cons_succ]
            refine wpAnyH_take (i := 33) (oi := { dst := some 125, op := Op.pick (Operand.tmp 109) (Operand.const (Value.bool true)) (Operand.tmp 124), type := 4, pos := "laws.go:346", after := #[{ on := 17, ground := Ground.data }, { on := 32, ground := Ground.data }], guard := none }) (v := ?v5q33) rfl (by kernel_rfl) (by kernel_rfl) (by kernel_rfl) (fun _ _ _ h => h) (Or.inl ⟨by rfl, ?h5q33⟩) hHeld ?_
            case h5q33 => (intro w hSw; (try dsimp only at hSw); go_simp; try with_reducible rfl)
            try simp only [Act.put, List.setIfInBounds_toArray, List.set_cons_zero, List.set_cons_succ]
            refine wpAnyH_take (i := 34) (oi := { dst := some 126, op := Op.move (Operand.tmp 125), type := 4, pos := "laws.go:346", after := #[{ on := 33, ground := Ground.data }, { on := 22, ground := Ground.chain }], guard := none }) (v := ?v5q34) rfl (by kernel_rfl) (by kernel_rfl) (by kernel_rfl) (fun _ _ _ h => h) (Or.inl ⟨by rfl, ?h5q34⟩) hHeld ?_
            case h5q34 => (intro w hSw; (try dsimp only at hSw); go_simp; try with_reducible rfl)
            try simp only [Act.put, List.setIfInBounds_toArray, List.set_cons_zero, List.set_cons_succ]
            refine wpAnyH_take (i := 35) (oi := { dst := some 127, op := Op.move (Operand.tmp 10), type := 26, pos := "laws.go:346", after := #[{ on := 34, ground := Ground.guard }], guard := some (34, false) }) (v := ?v5q35) rfl (by kernel_rfl) (by kernel_rfl) (by kernel_rfl) (fun _ _ _ h => h) (Or.inl ⟨by rfl, ?h5q35⟩) hHeld ?_
            case h5q35 => (intro w hSw; (try dsimp only at hSw); go_simp; try with_reducible rfl)
            try simp only [Act.put, List.setIfInBounds_toArray, List.set_cons_zero, List.set_cons_succ]
            refine wpAnyH_take (i := 36) (oi := { dst := some 128, op := Op.move (Operand.tmp 15), type := 3, pos := "laws.go:346", after := #[{ on := 34, ground := Ground.guard }], guard := some (34, false) }) (v := ?v5q36) rfl (by kernel_rfl) (by kernel_rfl) (by kernel_rfl) (fun _ _ _ h => h) (Or.inl ⟨by rfl, ?h5q36⟩) hHeld ?_
            case h5q36 => (intro w hSw; (try dsimp only at hSw); go_simp; try with_reducible rfl)
            try simp only [Act.put, List.setIfInBounds_toArray, List.set_cons_zero, List.set_cons_succ]
            refine wpAnyH_take (i := 37) (oi := { dst := some 129, op := Op.indexAddr 26 (Operand.tmp 127) (Operand.tmp 128), type := 0, pos := "laws.go:346", after := #[{ on := 35, ground := Ground.data }, { on := 36, ground := Ground.data }, { on := 34, ground := Ground.guard }], guard := some (34, false) }) (v := ?v5q37) rfl (by kernel_rfl) (by kernel_rfl) (by kernel_rfl) (fun _ _ _ h => h) (Or.inl ⟨by rfl, ?h5q37⟩) hHeld ?_
            case h5q37 => (intro w hSw; (try dsimp only at hSw); go_simp; try with_reducible rfl)
            try simp only [Act.put, List.setIfInBounds_toArray, List.set_cons_zero, List.set_cons_succ]
            refine wpAnyH_take (i := 38) (oi := { dst := some 130, op := Op.load 35 (Operand.tmp 129), type := 35, pos := "laws.go:346", after := #[{ on := 37, ground := Ground.data }, { on := 34, ground := Ground.guard }], guard := some (34, false) }) (v := ?v5q38) rfl (by kernel_rfl) (by kernel_rfl) (by kernel_rfl) (fun _ _ _ h => h) (Or.inl ⟨by rfl, ?h5q38⟩) hHeld ?_
            case h5q38 => (intro w hSw; (try dsimp only at hSw); go_simp; try with_reducible rfl)
            try simp only [Act.put, List.setIfInBounds_toArray, List.set_cons_zero, List.set_cons_succ]
            refine wpAnyH_ready (rs := [39]) (by kernel_rfl) (by simp) ?_
            refine AllReadyH.cons (o := { dst := some 131, op := Op.call { callee := Callee.value (Operand.func 13), args := #[Operand.tmp 130], argTypes := #[35] }, type := 4, pos := "laws.go:346", after := #[{ on := 38, ground := Ground.data }, { on := 34, ground := Ground.chain }, { on := 34, ground := Ground.guard }], guard := some (34, false) }) rfl (fun K hK => ?_) AllReadyH.nil
            go_simp
            refine (blockOK_impl y _).mono ?_
            rintro e w8 ⟨rfl, hb8⟩
            rw [unhide HYB]
            have HB8 := hide (fr (Below.refl _ wr).drew hb8)
            clear hb8
            have m0 := ((unhide HB8).cell (p := ⟨P, 0, none⟩) hPl).trans c0
            have m1 := ((unhide HB8).cell (p := ⟨P, 1, none⟩) hPl).trans c1
            have m2 := ((unhide HB8).cell (p := ⟨g, k * 4, none⟩) hgl).trans x0
            have m3 := ((unhide HB8).cell (p := ⟨g, k * 4 + 1, none⟩) hgl).trans x1
            have m4 := ((unhide HB8).cell (p := ⟨g, k * 4 + 2, none⟩) hgl).trans x2
            have m5 := ((unhide HB8).cell (p := ⟨g, k * 4 + 3, none⟩) hgl).trans x3
            have m6 := ((unhide HB8).cell (p := ⟨yb, yo + k * 4, none⟩) hyl).trans y0
            have m7 := ((unhide HB8).cell (p := ⟨yb, yo + k * 4 + 1, none⟩) hyl).trans y1
            have m8 := ((unhide HB8).cell (p := ⟨yb, yo + k * 4 + 2, none⟩) hyl).trans y2
            have m9 := ((unhide HB8).cell (p := ⟨yb, yo + k * 4 + 3, none⟩) hyl).trans y3
            go_wp2_with fail
            refine hK.out _ _ ?kB5 (fun hHeld2 => ?_)
            case kB5 => ((try dsimp only); go_keep)
            clear hK K hHeld
            try simp only [Act.put, List.setIfInBounds_toArray, List.set_cons_zero, List.set_cons_succ]
            refine wpAnyH_take (i := 40) (oi := { dst := some 132, op := Op.unOp UnOp.not 4 (Operand.tmp 131), type := 4, pos := "laws.go:346", after := #[{ on := 39, ground := Ground.data }, { on := 34, ground := Ground.guard }], guard := some (34, false) }) (v := ?v5q40) rfl (by kernel_rfl) (by kernel_rfl) (by kernel_rfl) (fun _ _ _ h => h) (Or.inl ⟨by rfl, ?h5q40⟩) hHeld2 ?_
            case h5q40 => (intro w hSw; (try dsimp only at hSw); go_simp; try with_reducible rfl)
            try simp only [Act.put, List.setIfInBounds_toArray, List.set_cons_zero, List.set_cons_succ]
            refine wpAnyH_take (i := 41) (oi := { dst := some 133, op := Op.pick (Operand.tmp 126) (Operand.const (Value.bool true)) (Operand.tmp 132), type := 4, pos := "laws.go:346", after := #[{ on := 34, ground := Ground.data }, { on := 40, ground := Ground.data }], guard := none }) (v := ?v5q41) rfl (by kernel_rfl) (by kernel_rfl) (by kernel_rfl) (fun _ _ _ h => h) (Or.inl ⟨by rfl, ?h5q41⟩) hHeld2 ?_
            case h5q41 => (intro w hSw; (try dsimp only at hSw); go_simp; try with_reducible rfl)
            try simp only [Act.put, List.setIfInBounds_toArray, List.set_cons_zero, List.set_cons_succ]
            refine wpAnyH_take (i := 42) (oi := { dst := some 134, op := Op.move (Operand.tmp 133), type := 4, pos := "laws.go:346", after := #[{ on := 41, ground := Ground.data }, { on := 39, ground := Ground.chain }], guard := none }) (v := ?v5q42) rfl (by kernel_rfl) (by kernel_rfl) (by kernel_rfl) (fun _ _ _ h => h) (Or.inl ⟨by rfl, ?h5q42⟩) hHeld2 ?_
            case h5q42 => (intro w hSw; (try dsimp only at hSw); go_simp; try with_reducible rfl)
            try simp only [Act.put, List.setIfInBounds_toArray, List.set_cons_zero, List.set_cons_succ]
            refine wpAnyH_take (i := 43) (oi := { dst := some 135, op := Op.move (Operand.tmp 10), type := 26, pos := "laws.go:346", after := #[{ on := 42, ground := Ground.guard }], guard := some (42, false) }) (v := ?v5q43) rfl (by kernel_rfl) (by kernel_rfl) (by kernel_rfl) (fun _ _ _ h => h) (Or.inl ⟨by rfl, ?h5q43⟩) hHeld2 ?_
            case h5q43 => (intro w hSw; (try dsimp only at hSw); go_simp; try with_reducible rfl)
            try simp only [Act.put, List.setIfInBounds_toArray, List.set_cons_zero, List.set_cons_succ]
            refine wpAnyH_take (i := 44) (oi := { dst := some 136, op := Op.move (Operand.tmp 15), type := 3, pos := "laws.go:346", after := #[{ on := 42, ground := Ground.guard }], guard := some (42, false) }) (v := ?v5q44) rfl (by kernel_rfl) (by kernel_rfl) (by kernel_rfl) (fun _ _ _ h => h) (Or.inl ⟨by rfl, ?h5q44⟩) hHeld2 ?_
            case h5q44 => (intro w hSw; (try dsimp only at hSw); go_simp; try with_reducible rfl)
            try simp only [Act.put, List.setIfInBounds_toArray, List.set_cons_zero, List.set_cons_succ]
            refine wpAnyH_take (i := 45) (oi := { dst := some 137, op := Op.indexAddr 26 (Operand.tmp 135) (Operand.tmp 136), type := 0, pos := "laws.go:346", after := #[{ on := 43, ground := Ground.data }, { on := 44, ground := Ground.data }, { on := 42, ground := Ground.guard }], guard := some (42, false) }) (v := ?v5q45) rfl (by kernel_rfl) (by kernel_rfl) (by kernel_rfl) (fun _ _ _ h => h) (Or.inl ⟨by rfl, ?h5q45⟩) hHeld2 ?_
            case h5q45 => (intro w hSw; (try dsimp only at hSw); go_simp; try with_reducible rfl)
            try simp only [Act.put, List.setIfInBounds_toArray, List.set_cons_zero, List.set_cons_succ]
            refine wpAnyH_take (i := 46) (oi := { dst := some 138, op := Op.fieldAddr 35 (Operand.tmp 137) 0, type := 0, pos := "laws.go:346", after := #[{ on := 45, ground := Ground.data }, { on := 42, ground := Ground.guard }], guard := some (42, false) }) (v := ?v5q46) rfl (by kernel_rfl) (by kernel_rfl) (by kernel_rfl) (fun _ _ _ h => h) (Or.inl ⟨by rfl, ?h5q46⟩) hHeld2 ?_
            case h5q46 => (intro w hSw; (try dsimp only at hSw); go_simp; try with_reducible rfl)
            try simp only [Act.put, List.setIfInBounds_toArray, List.set_cons_zero, List.set_cons_succ]
            refine wpAnyH_take (i := 47) (oi := { dst := some 139, op := Op.load 3 (Operand.tmp 138), type := 3, pos := "laws.go:346", after := #[{ on := 46, ground := Ground.data }, { on := 42, ground := Ground.guard }], guard := some (42, false) }) (v := ?v5q47) rfl (by kernel_rfl) (by kernel_rfl) (by kernel_rfl) (fun _ _ _ h => h) (Or.inl ⟨by rfl, ?h5q47⟩) hHeld2 ?_
            case h5q47 => (intro w hSw; (try dsimp only at hSw); go_simp; try with_reducible rfl)
            try simp only [Act.put, List.setIfInBounds_toArray, List.set_cons_zero, List.set_cons_succ]
            refine wpAnyH_take (i := 48) (oi := { dst := some 140, op := Op.move (Operand.tmp 6), type := 26, pos := "laws.go:346", after := #[{ on := 42, ground := Ground.guard }], guard := some (42, false) }) (v := ?v5q48) rfl (by kernel_rfl) (by kernel_rfl) (by kernel_rfl) (fun _ _ _ h => h) (Or.inl ⟨by rfl, ?h5q48⟩) hHeld2 ?_
            case h5q48 => (intro w hSw; (try dsimp only at hSw); go_simp; try with_reducible rfl)
            try simp only [Act.put, List.setIfInBounds_toArray, List.set_cons_zero, List.set_cons_succ]
            refine wpAnyH_take (i := 49) (oi := { dst := some 141, op := Op.move (Operand.tmp 15), type := 3, pos := "laws.go:346", after := #[{ on := 42, ground := Ground.guard }], guard := some (42, false) }) (v := ?v5q49) rfl (by kernel_rfl) (by kernel_rfl) (by kernel_rfl) (fun _ _ _ h => h) (Or.inl ⟨by rfl, ?h5q49⟩) hHeld2 ?_
            case h5q49 => (intro w hSw; (try dsimp only at hSw); go_simp; try with_reducible rfl)
            try simp only [Act.put, List.setIfInBounds_toArray, List.set_cons_zero, List.set_cons_succ]
            refine wpAnyH_take (i := 50) (oi := { dst := some 142, op := Op.indexAddr 26 (Operand.tmp 140) (Operand.tmp 141), type := 0, pos := "laws.go:346", after := #[{ on := 48, ground := Ground.data }, { on := 49, ground := Ground.data }, { on := 42, ground := Ground.guard }], guard := some (42, false) }) (v := ?v5q50) rfl (by kernel_rfl) (by kernel_rfl) (by kernel_rfl) (fun _ _ _ h => h) (Or.inl ⟨by rfl, ?h5q50⟩) hHeld2 ?_
            case h5q50 => (intro w hSw; (try dsimp only at hSw); go_simp; try with_reducible rfl)
            try simp only [Act.put, List.setIfInBounds_toArray, List.set_cons_zero, List.set_cons_succ]
            refine wpAnyH_take (i := 51) (oi := { dst := some 143, op := Op.fieldAddr 35 (Operand.tmp 142) 0, type := 0, pos := "laws.go:346", after := #[{ on := 50, ground := Ground.data }, { on := 42, ground := Ground.guard }], guard := some (42, false) }) (v := ?v5q51) rfl (by kernel_rfl) (by kernel_rfl) (by kernel_rfl) (fun _ _ _ h => h) (Or.inl ⟨by rfl, ?h5q51⟩) hHeld2 ?_
            case h5q51 => (intro w hSw; (try dsimp only at hSw); go_simp; try with_reducible rfl)
            try simp only [Act.put, List.setIfInBounds_toArray, List.set_cons_zero, List.set_cons_succ]
            refine wpAnyH_take (i := 52) (oi := { dst := some 144, op := Op.load 3 (Operand.tmp 143), type := 3, pos := "laws.go:346", after := #[{ on := 51, ground := Ground.data }, { on := 42, ground := Ground.guard }], guard := some (42, false) }) (v := ?v5q52) rfl (by kernel_rfl) (by kernel_rfl) (by kernel_rfl) (fun _ _ _ h => h) (Or.inl ⟨by rfl, ?h5q52⟩) hHeld2 ?_
            case h5q52 => (intro w hSw; (try dsimp only at hSw); go_simp; try with_reducible rfl)
            try simp only [Act.put, List.setIfInBounds_toArray, List.set_cons_zero, List.set_cons_succ]
            refine wpAnyH_take (i := 53) (oi := { dst := some 145, op := Op.binOp BinOp.eql 3 (Operand.tmp 139) (Operand.tmp 144) 3, type := 4, pos := "laws.go:346", after := #[{ on := 47, ground := Ground.data }, { on := 52, ground := Ground.data }, { on := 42, ground := Ground.guard }], guard := some (42, false) }) (v := ?v5q53) rfl (by kernel_rfl) (by kernel_rfl) (by kernel_rfl) (fun _ _ _ h => h) (Or.inl ⟨by rfl, ?h5q53⟩) hHeld2 ?_
            case h5q53 => (intro w hSw; (try dsimp only at hSw); go_simp; try with_reducible rfl)
            try simp only [Act.put, List.setIfInBounds_toArray, List.set_cons_zero, List.set_cons_succ]
            refine wpAnyH_take (i := 54) (oi := { dst := some 146, op := Op.move (Operand.tmp 145), type := 4, pos := "laws.go:346", after := #[{ on := 53, ground := Ground.data }, { on := 42, ground := Ground.chain }, { on := 42, ground := Ground.guard }], guard := some (42, false) }) (v := ?v5q54) rfl (by kernel_rfl) (by kernel_rfl) (by kernel_rfl) (fun _ _ _ h => h) (Or.inl ⟨by rfl, ?h5q54⟩) hHeld2 ?_
            case h5q54 => (intro w hSw; (try dsimp only at hSw); go_simp; try with_reducible rfl)
            try simp only [Act.put, List.setIfInBounds_toArray, List.set_cons_zero, List.set_cons_succ]
            refine wpAnyH_take (i := 55) (oi := { dst := some 147, op := Op.move (Operand.tmp 10), type := 26, pos := "laws.go:346", after := #[{ on := 54, ground := Ground.guard }], guard := some (54, true) }) (v := ?v5q55) rfl (by kernel_rfl) (by kernel_rfl) (by kernel_rfl) (fun _ _ _ h => h) (Or.inl ⟨by rfl, ?h5q55⟩) hHeld2 ?_
            case h5q55 => (intro w hSw; (try dsimp only at hSw); go_simp; try with_reducible rfl)
            try simp only [Act.put, List.setIfInBounds_toArray, List.set_cons_zero, List.set_cons_succ]
            refine wpAnyH_take (i := 56) (oi := { dst := some 148, op := Op.move (Operand.tmp 15), type := 3, pos := "laws.go:346", after := #[{ on := 54, ground := Ground.guard }], guard := some (54, true) }) (v := ?v5q56) rfl (by kernel_rfl) (by kernel_rfl) (by kernel_rfl) (fun _ _ _ h => h) (Or.inl ⟨by rfl, ?h5q56⟩) hHeld2 ?_
            case h5q56 => (intro w hSw; (try dsimp only at hSw); go_simp; try with_reducible rfl)
            try simp only [Act.put, List.setIfInBounds_toArray, List.set_cons_zero, List.set_cons_succ]
            refine wpAnyH_take (i := 57) (oi := { dst := some 149, op := Op.indexAddr 26 (Operand.tmp 147) (Operand.tmp 148), type := 0, pos := "laws.go:346", after := #[{ on := 55, ground := Ground.data }, { on := 56, ground := Ground.data }, { on := 54, ground := Ground.guard }], guard := some (54, true) }) (v := ?v5q57) rfl (by kernel_rfl) (by kernel_rfl) (by kernel_rfl) (fun _ _ _ h => h) (Or.inl ⟨by rfl, ?h5q57⟩) hHeld2 ?_
            case h5q57 => (intro w hSw; (try dsimp only at hSw); go_simp; try with_reducible rfl)
            try simp only [Act.put, List.setIfInBounds_toArray, List.set_cons_zero, List.set_cons_succ]
            refine wpAnyH_take (i := 58) (oi := { dst := some 150, op := Op.fieldAddr 35 (Operand.tmp 149) 1, type := 0, pos := "laws.go:346", after := #[{ on := 57, ground := Ground.data }, { on := 54, ground := Ground.guard }], guard := some (54, true) }) (v := ?v5q58) rfl (by kernel_rfl) (by kernel_rfl) (by kernel_rfl) (fun _ _ _ h => h) (Or.inl ⟨by rfl, ?h5q58⟩) hHeld2 ?_
            case h5q58 => (intro w hSw; (try dsimp only at hSw); go_simp; try with_reducible rfl)
            try simp only [Act.put, List.setIfInBounds_toArray, List.set_cons_zero, List.set_cons_succ]
            refine wpAnyH_take (i := 59) (oi := { dst := some 151, op := Op.load 3 (Operand.tmp 150), type := 3, pos := "laws.go:346", after := #[{ on := 58, ground := Ground.data }, { on := 54, ground := Ground.guard }], guard := some (54, true) }) (v := ?v5q59) rfl (by kernel_rfl) (by kernel_rfl) (by kernel_rfl) (fun _ _ _ h => h) (Or.inl ⟨by rfl, ?h5q59⟩) hHeld2 ?_
            case h5q59 => (intro w hSw; (try dsimp only at hSw); go_simp; try with_reducible rfl)
            try simp only [Act.put, List.setIfInBounds_toArray, List.set_cons_zero, List.set_cons_succ]
            refine wpAnyH_take (i := 60) (oi := { dst := some 152, op := Op.move (Operand.tmp 6), type := 26, pos := "laws.go:346", after := #[{ on := 54, ground := Ground.guard }], guard := some (54, true) }) (v := ?v5q60) rfl (by kernel_rfl) (by kernel_rfl) (by kernel_rfl) (fun _ _ _ h => h) (Or.inl ⟨by rfl, ?h5q60⟩) hHeld2 ?_
            case h5q60 => (intro w hSw; (try dsimp only at hSw); go_simp; try with_reducible rfl)
            try simp only [Act.put, List.setIfInBounds_toArray, List.set_cons_zero, List.set_cons_succ]
            refine wpAnyH_take (i := 61) (oi := { dst := some 153, op := Op.move (Operand.tmp 15), type := 3, pos := "laws.go:346", after := #[{ on := 54, ground := Ground.guard }], guard := some (54, true) }) (v := ?v5q61) rfl (by kernel_rfl) (by kernel_rfl) (by kernel_rfl) (fun _ _ _ h => h) (Or.inl ⟨by rfl, ?h5q61⟩) hHeld2 ?_
            case h5q61 => (intro w hSw; (try dsimp only at hSw); go_simp; try with_reducible rfl)
            try simp only [Act.put, List.setIfInBounds_toArray, List.set_cons_zero, List.set_cons_succ]
            refine wpAnyH_take (i := 62) (oi := { dst := some 154, op := Op.indexAddr 26 (Operand.tmp 152) (Operand.tmp 153), type := 0, pos := "laws.go:346", after := #[{ on := 60, ground := Ground.data }, { on := 61, ground := Ground.data }, { on := 54, ground := Ground.guard }], guard := some (54, true) }) (v := ?v5q62) rfl (by kernel_rfl) (by kernel_rfl) (by kernel_rfl) (fun _ _ _ h => h) (Or.inl ⟨by rfl, ?h5q62⟩) hHeld2 ?_
            case h5q62 => (intro w hSw; (try dsimp only at hSw); go_simp; try with_reducible rfl)
            try simp only [Act.put, List.setIfInBounds_toArray, List.set_cons_zero, List.set_cons_succ]
            refine wpAnyH_take (i := 63) (oi := { dst := some 155, op := Op.fieldAddr 35 (Operand.tmp 154) 1, type := 0, pos := "laws.go:346", after := #[{ on := 62, ground := Ground.data }, { on := 54, ground := Ground.guard }], guard := some (54, true) }) (v := ?v5q63) rfl (by kernel_rfl) (by kernel_rfl) (by kernel_rfl) (fun _ _ _ h => h) (Or.inl ⟨by rfl, ?h5q63⟩) hHeld2 ?_
            case h5q63 => (intro w hSw; (try dsimp only at hSw); go_simp; try with_reducible rfl)
            try simp only [Act.put, List.setIfInBounds_toArray, List.set_cons_zero, List.set_cons_succ]
            refine wpAnyH_take (i := 64) (oi := { dst := some 156, op := Op.load 3 (Operand.tmp 155), type := 3, pos := "laws.go:346", after := #[{ on := 63, ground := Ground.data }, { on := 54, ground := Ground.guard }], guard := some (54, true) }) (v := ?v5q64) rfl (by kernel_rfl) (by kernel_rfl) (by kernel_rfl) (fun _ _ _ h => h) (Or.inl ⟨by rfl, ?h5q64⟩) hHeld2 ?_
            case h5q64 => (intro w hSw; (try dsimp only at hSw); go_simp; try with_reducible rfl)
            try simp only [Act.put, List.setIfInBounds_toArray, List.set_cons_zero, List.set_cons_succ]
            refine wpAnyH_take (i := 65) (oi := { dst := some 157, op := Op.binOp BinOp.lss 3 (Operand.tmp 151) (Operand.tmp 156) 3, type := 4, pos := "laws.go:346", after := #[{ on := 59, ground := Ground.data }, { on := 64, ground := Ground.data }, { on := 54, ground := Ground.guard }], guard := some (54, true) }) (v := ?v5q65) rfl (by kernel_rfl) (by kernel_rfl) (by kernel_rfl) (fun _ _ _ h => h) (Or.inl ⟨by rfl, ?h5q65⟩) hHeld2 ?_
            case h5q65 => (intro w hSw; (try dsimp only at hSw); go_simp; try with_reducible rfl)
            try simp only [Act.put, List.setIfInBounds_toArray, List.set_cons_zero, List.set_cons_succ]
            refine wpAnyH_take (i := 66) (oi := { dst := some 158, op := Op.pick (Operand.tmp 146) (Operand.tmp 157) (Operand.const (Value.bool false)), type := 4, pos := "laws.go:346", after := #[{ on := 54, ground := Ground.data }, { on := 65, ground := Ground.data }, { on := 42, ground := Ground.guard }], guard := some (42, false) }) (v := ?v5q66) rfl (by kernel_rfl) (by kernel_rfl) (by kernel_rfl) (fun _ _ _ h => h) (Or.inl ⟨by rfl, ?h5q66⟩) hHeld2 ?_
            case h5q66 => (intro w hSw; (try dsimp only at hSw); go_simp; try with_reducible rfl)
            try simp only [Act.put, List.setIfInBounds_toArray, List.set_cons_zero, List.set_cons_succ]
            refine wpAnyH_take (i := 67) (oi := { dst := some 159, op := Op.pick (Operand.tmp 134) (Operand.const (Value.bool true)) (Operand.tmp 158), type := 4, pos := "laws.go:346", after := #[{ on := 42, ground := Ground.data }, { on := 66, ground := Ground.data }], guard := none }) (v := ?v5q67) rfl (by kernel_rfl) (by kernel_rfl) (by kernel_rfl) (fun _ _ _ h => h) (Or.inl ⟨by rfl, ?h5q67⟩) hHeld2 ?_
            case h5q67 => (intro w hSw; (try dsimp only at hSw); go_simp; try with_reducible rfl)
            try simp only [Act.put, List.setIfInBounds_toArray, List.set_cons_zero, List.set_cons_succ]
            refine wpAnyH_done (by kernel_rfl) ?_ _
            go_wp2_with fail
            go_meet
            first | exact ⟨rfl, hide (fr (unhide HB) (unhide HB8))⟩ | exact ⟨congrArg Value.bool (decide_eq_false (by first | exact hm2 | exact Int.not_lt.2 hm2)), hide (fr (unhide HB) (unhide HB8))⟩
      case rest =>
        obtain ⟨rfl, HBN⟩ := hcut
        go_wp2
        go_roundg (gk - 1)
        case measure => have := unhide hgk; omega
        case rel => exact ⟨k + 1, by omega, by have := unhide hgk; omega, by go_num, HBN⟩
    · obtain ⟨c0, c1, c2, c3, c4, c5, c6, c7⟩ := ((unhide HV7).below (unhide HB)).cells
      have HBE := hide (fr (unhide HB7) (unhide HB))
      have HSB := hide (bal_start (unhide HP) (unhide HNB).1 (unhide HNB).2.1)
      go_wp2_with fail
      refine (pxStart_impl p.host p.ver N p.value _).mono ?_
      rintro e w8 ⟨rfl, hb⟩
      obtain ⟨y, HYE⟩ : ∃ y, Hid (psP p.host p.ver N p.value = y) := ⟨_, hide rfl⟩
      rw [unhide HYE, (unhide HSB).2]
      have b1 : (y.ballot == N) = true := by rw [← unhide HYE, (unhide HSB).1]; exact beq_self_eq_true N
      have b2 : (y.phase == 1) = true := by rw [← unhide HYE, (unhide HSB).1]; rfl
      have HBF := hide (fr (unhide HBE) hb)
      clear hb c0 c1 c2 c3 c4 c5 c6 c7
      go_wp2
      go_ret
      exact ⟨rfl, fr (unhide HBF) (Joins.below_alloc1 _ _)⟩
end Go.Proofs.Ytdfinapjgffjiaa
