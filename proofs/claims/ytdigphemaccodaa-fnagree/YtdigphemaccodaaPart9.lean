import Derived.Test.YtdigphemaccodaaRows
import Derived.Test.YtdigphemaccodaaPart1
import Derived.Test.YtdigphemaccodaaPart4
import Derived.Test.YtdigphemaccodaaPart7
import Derived.Test.YtdigphemaccodaaPart8
import Derived.WalkKit
import Derived.WalkSpells
import Derived.KernelRfl
import Derived.Deep.MidRow
import Derived.Deep.CutRange
import Derived.WalkMore
import Derived.Test.YtdigphemaccodaaPart2
import Derived.Test.YtdigphemaccodaaPart5
import Derived.Test.YtdigphemaccodaaPart6
import Derived.BigQuiet
import Derived.Deep.QuietTactic
import Derived.Deep.RegionWith
import Derived.Deep.RegionHeld3

/- The program's RunPaxos. -/
namespace Go.Proofs.Ytdigphemaccodaa
open Go.RowKit
set_option linter.unusedVariables false
set_option maxRecDepth 100000

/-- What a run leaves. -/
def Ran (w W : World) (vs sc : List Int) (e : Ending) : Prop := ∃ ao ca bo cb, e = .returned (.tuple #[.slice ao (rnO vs sc).length ca, .slice bo (rnB vs sc).length cb, .int .i64 (rfC vs sc)]) ∧ OwnR W w.heap.size 3 1 (.slice ao (rnO vs sc).length ca) (rnO vs sc).length (intV (rnO vs sc)) ∧ OwnR W w.heap.size 42 4 (.slice bo (rnB vs sc).length cb) (rnB vs sc).length (bksV (rnB vs sc)) ∧ Below w.heap.size w W
theorem ran_none {w W : World} {vs sc : List Int} {c : Int} (ao bo : Option Addr) (h : rfC vs sc = c) (hc : c ≠ 0) (hb : Below w.heap.size w W) : Ran w W vs sc (.returned (.tuple #[.slice ao 0 0, .slice bo 0 0, .int .i64 c])) := by
  obtain ⟨h1, h2, h3⟩ := rn_no h hc
  unfold Ran
  rw [h1, h2, h3]
  exact ⟨ao, 0, bo, 0, rfl, .inl ⟨rfl, rfl, ao, rfl⟩, .inl ⟨rfl, rfl, bo, rfl⟩, hb⟩
theorem ran_done {w W : World} {vs sc : List Int} {ao bo : Option Addr} {ca cb : Nat} (h : rfC vs sc = 0) (ho : OwnR W w.heap.size 3 1 (.slice ao 4 ca) 4 (intV (told (rnS vs sc).1))) (hb : OwnR W w.heap.size 42 4 (.slice bo 4 cb) 4 (bksV (rnS vs sc).2)) (hk : Below w.heap.size w W) :
    Ran w W vs sc (.returned (.tuple #[.slice ao 4 ca, .slice bo 4 cb, .int .i64 0])) := by
  obtain ⟨h1, h2⟩ := rn_yes h
  obtain ⟨l1, l2⟩ := rn_len h
  unfold Ran
  rw [h1, h2, h, told_len, l1, l2]
  exact ⟨ao, ca, bo, cb, rfl, ho, hb, hk⟩

/-- The hosts' array and the blocks. -/
structure RnI (w W : World) (Y : Nat) (qs : List Pxs) (qo : Option Addr) (qa : Nat) (bs : List Bk) : Prop where
  t : VarA W Y 55 qs
  o : OwnR W w.heap.size 42 4 (.slice qo 4 qa) 4 (bksV bs)
  k : Below w.heap.size w W
  y : w.heap.size ≤ Y
theorem RnI.below {w W W' : World} {Y : Nat} {qs : List Pxs} {qo : Option Addr} {qa : Nat} {bs : List Bk} (h : RnI w W Y qs qo qa bs) (hb : Below W.heap.size W W') : RnI w W' Y qs qo qa bs := ⟨h.t.below hb, h.o.below hb, fr h.k hb, h.y⟩
theorem RnI.bks {w W : World} {Y : Nat} {qs : List Pxs} {qo : Option Addr} {qa : Nat} {bs : List Bk} (h : RnI w W Y qs qo qa bs) (h4 : bs.length = 4) : Bks W qo bs :=
  ownBks (B := w.heap.size) (e := 42) (cap := qa) (by rw [h4]; exact h.o)
theorem RnI.put {w W : World} {Y : Nat} {qs : List Pxs} {qo : Option Addr} {qa : Nat} {bs : List Bk} (h : RnI w W Y qs qo qa bs) {i : Nat} (hi : i < qs.length) (y : Pxs) : RnI w ((((((((W.setCell ⟨Y, i * 8, none⟩ (.int .i64 y.host)).setCell ⟨Y, i * 8 + 1, none⟩ (.int .i64 y.ver)).setCell ⟨Y, i * 8 + 2, none⟩ (.int .i64 y.phase)).setCell ⟨Y, i * 8 + 3, none⟩ (.int .i64 y.ballot)).setCell ⟨Y, i * 8 + 4, none⟩ (.int .i64 y.value)).setCell ⟨Y, i * 8 + 5, none⟩ (.int .i64 y.next)).setCell ⟨Y, i * 8 + 6, none⟩ (.int .i64 y.best)).setCell ⟨Y, i * 8 + 7, none⟩ (.int .i64 y.bestBal)) Y (qs.set i y) qo qa bs :=
  ⟨h.t.put hi y, h.o.keep (keepA (Keep.refl (fun j => j = Y) W) rfl i y) (fun g hg hj => by have : g = Y := hj; subst this; exact h.o.other h.t (by decide) hg), belowA h.k h.y i y, h.y⟩
theorem RnI.var {w W : World} {Y P : Nat} {qs : List Pxs} {qo : Option Addr} {qa : Nat} {bs : List Bk} {p : Pxs} (h : RnI w W Y qs qo qa bs) (hp : VarP W P 33 p) (hw : w.heap.size ≤ P) (y : Pxs) : RnI w ((((((((W.setCell ⟨P, 0, none⟩ (.int .i64 y.host)).setCell ⟨P, 1, none⟩ (.int .i64 y.ver)).setCell ⟨P, 2, none⟩ (.int .i64 y.phase)).setCell ⟨P, 3, none⟩ (.int .i64 y.ballot)).setCell ⟨P, 4, none⟩ (.int .i64 y.value)).setCell ⟨P, 5, none⟩ (.int .i64 y.next)).setCell ⟨P, 6, none⟩ (.int .i64 y.best)).setCell ⟨P, 7, none⟩ (.int .i64 y.bestBal)) Y qs qo qa bs ∧ VarP ((((((((W.setCell ⟨P, 0, none⟩ (.int .i64 y.host)).setCell ⟨P, 1, none⟩ (.int .i64 y.ver)).setCell ⟨P, 2, none⟩ (.int .i64 y.phase)).setCell ⟨P, 3, none⟩ (.int .i64 y.ballot)).setCell ⟨P, 4, none⟩ (.int .i64 y.value)).setCell ⟨P, 5, none⟩ (.int .i64 y.next)).setCell ⟨P, 6, none⟩ (.int .i64 y.best)).setCell ⟨P, 7, none⟩ (.int .i64 y.bestBal)) P 33 y := by
  have hk := keep8 (Keep.refl (fun j => j = P) W) (g := P) rfl (.int .i64 y.host) (.int .i64 y.ver) (.int .i64 y.phase) (.int .i64 y.ballot) (.int .i64 y.value) (.int .i64 y.next) (.int .i64 y.best) (.int .i64 y.bestBal)
  have hne : ¬ Y = P := fun e => by
    subst e
    have h1 := h.t
    unfold VarA at h1
    rw [hp] at h1
    simp at h1
  exact ⟨⟨h.t.keep hk hne, h.o.keep hk (fun g hg hj => by have : g = P := hj; subst this; exact h.o.other hp (by decide) hg), below8 h.k hw _ _ _ _ _ _ _ _, h.y⟩, hp.put y⟩
theorem RnI.swap {w W W' : World} {Y B : Nat} {qs : List Pxs} {qo ro : Option Addr} {qa ra : Nat} {bs cs : List Bk} (h : RnI w W Y qs qo qa bs) (hb : Below W.heap.size W W') (ho : OwnR W' W.heap.size 42 4 (.slice ro 4 ra) 4 (bksV cs)) : RnI w W' Y qs ro ra cs := ⟨h.t.below hb, ho.base h.k.size, fr h.k hb, h.y⟩
theorem hsOf_at {qs : List Pxs} {m : Nat} (h : m < qs.length) : qs[m] = hsOf qs m := by simp [hsOf, h]

set_option maxHeartbeats 1600000 in
theorem pxStep_run (p : Pxs) (ao : Option Addr) (n ca : Nat) (bs : List Bk) (w : World) (hn : bs.length = n) (h4 : n = 4) (hp : pxB p = true) (hb : bksB bs = true) (hc : Bks w ao bs) :
    Calls Try.prog 17 #[pV p, .slice ao n ca] w fun e w' => ∃ qo qa c, e = .returned (.tuple #[pV (pxStepP p bs).1, .slice qo 4 qa, .int .i64 c]) ∧ OwnR w' w.heap.size 42 4 (.slice qo 4 qa) 4 (bksV (pxStepP p bs).2) ∧ Below w.heap.size w w' := by
  subst hn
  refine (pxStep_impl p ao ca bs w (by omega) hc).mono ?_
  rintro e w' ⟨qo, qa, he, ho, hk⟩
  obtain ⟨h1, h2, h3⟩ := st_ok (p := p) (xs := bs) (by omega) hp hb
  have hl := pxStep_len p bs
  rw [h4] at hl
  rw [h1, h2, hl] at he
  rw [h2, hl] at ho
  exact ⟨qo, qa, _, he, ho, hk⟩

theorem infoZ : (Try.prog.info? 42).map (fun i => (i.zero, i.size, i.bytes)) = some (some (.agg #[.int .i64 0, .int .i64 0, .int .i64 0, .int .i64 0]), 4, 32) := by kernel_rfl

theorem made16 : (madeCells #[Value.int .i64 0, Value.int .i64 0, Value.int .i64 0, Value.int .i64 0] 16).toList = bksV [bk0, bk0, bk0, bk0] := by
  first
    | rfl
    | (simp [madeCells, bksV, bk0]; rfl)
theorem four_px {l : List Pxs} (h : l.length = 4) : ∃ a b c d, l = [a, b, c, d] := by
  match l, h with
  | [a, b, c, d], _ => exact ⟨a, b, c, d, rfl⟩

set_option maxHeartbeats 3200000 in
theorem runPaxos_impl (ao bo : Option Addr) (ca cb : Nat) (vs sc : List Int) (w : World) (hl : vs.length ≤ 1048576) (hm : sc.length ≤ 1048576) (h1 : Is w ao vs) (h2 : Is w bo sc) :
    Calls Try.prog 10 #[.slice ao vs.length ca, .slice bo sc.length cb] w fun e w' => Ran w w' vs sc e := by
  have H1 := hide h1
  have H2 := hide h2
  clear h1 h2
  obtain ⟨i0, hi, hz0, hz1, hz2⟩ := info_parts infoZ
  go_enter Try.func10, Try.ntmps10
  go_wp2
  go_step3
  go_wp2_with fail
  refine (runFault_any ao bo ca cb vs sc _ hl hm (unhide H1) (unhide H2)).mono ?_
  rintro e w0 ⟨rfl, hw⟩
  replace hw := hw.symm
  subst hw
  by_cases hf : ¬ rfC vs sc = 0
  · have hb : (rfC vs sc != 0) = true := by simp [hf]
    have HR : Hid (∀ W, Below w.heap.size w W → Ran w W vs sc (.returned (.tuple #[.slice none 0 0, .slice none 0 0, .int .i64 (rfC vs sc)]))) := hide (fun W hW => ran_none none none rfl hf hW)
    clear hf
    revert HR hb
    generalize rfC vs sc = c9
    intro hb HR
    go_wp2
    rw [Exit.noGoto_ret]
    exact bodyPost_ret (v := .tuple #[.slice none 0 0, .slice none 0 0, .int .i64 c9]) (by simp [results, Try.results10, go_sem]) rfl (unhide HR _ (Below.refl _ _))
  rw [Decidable.not_not] at hf
  have hb0 : (rfC vs sc != 0) = false := by simp [hf]
  have HF := hide hf
  clear hf
  revert hb0
  generalize hc9 : rfC vs sc = c9
  intro hb0
  clear hc9
  go_wp2_with (first | (at_make; refine wpList_make_full _ rfl _ _ 26 rfl w.heap.size 42 i0 _ 4 Try.underlying26 hi hz0 hz1 _ _ _ _ 4 rfl rfl rfl rfl ?c1 ?c2 ?c3 ?_))
  case c1 => rw [hz2]; omega
  case c2 => unfold maxLen; omega
  case c3 => exact Nat.le_refl _
  intro w1 hown hgrow
  replace hown : w1.ownsRow w.heap.size 42 4 (.slice (some ⟨w.heap.size, 0, none⟩) 4 4) 4 (bksV (run0 vs).2) := by rw [show bksV (run0 vs).2 = (madeCells #[Value.int .i64 0, Value.int .i64 0, Value.int .i64 0, Value.int .i64 0] 16).toList from made16.symm]; exact hown
  have hB : Below w.heap.size w w1 := (Below.refl _ _).grown hgrow (Nat.le_refl _) (fun _ h => by cases h)
  have E1 : Hid (RnI w (w1.alloc (.cells #[.int .i64 0, .int .i64 0, .int .i64 0, .int .i64 0, .int .i64 0, .int .i64 0, .int .i64 0, .int .i64 0, .int .i64 0, .int .i64 0, .int .i64 0, .int .i64 0, .int .i64 0, .int .i64 0, .int .i64 0, .int .i64 0, .int .i64 0, .int .i64 0, .int .i64 0, .int .i64 0, .int .i64 0, .int .i64 0, .int .i64 0, .int .i64 0, .int .i64 0, .int .i64 0, .int .i64 0, .int .i64 0, .int .i64 0, .int .i64 0, .int .i64 0, .int .i64 0] 55)) w1.heap.size [p00, p00, p00, p00] (some ⟨w.heap.size, 0, none⟩) 4 (run0 vs).2) :=
    hide ⟨heap_alloc_new w1 _, .inr ⟨by omega, own_below hown (Joins.below_alloc1 _ _)⟩, fr hB (Joins.below_alloc1 _ _), hB.size⟩
  clear hown hB hgrow
  go_upto_region 6 with fail
  revert E1
  generalize w1.alloc (.cells #[.int .i64 0, .int .i64 0, .int .i64 0, .int .i64 0, .int .i64 0, .int .i64 0, .int .i64 0, .int .i64 0, .int .i64 0, .int .i64 0, .int .i64 0, .int .i64 0, .int .i64 0, .int .i64 0, .int .i64 0, .int .i64 0, .int .i64 0, .int .i64 0, .int .i64 0, .int .i64 0, .int .i64 0, .int .i64 0, .int .i64 0, .int .i64 0, .int .i64 0, .int .i64 0, .int .i64 0, .int .i64 0, .int .i64 0, .int .i64 0, .int .i64 0, .int .i64 0] 55) = W1
  generalize w1.heap.size = Y
  generalize (some ⟨w.heap.size, 0, none⟩ : Option Addr) = ro
  intro E1
  go_step3
  go_wp2
  go_loopw [8, 11, 12, 22] (fun bl _ _ i wr => ∃ (k : Nat) (qs : List Pxs) (qo : Option Addr) (qa : Nat), k ≤ sc.length ∧ i = .int .i64 k ∧ bl = .slice qo 4 qa ∧ Hid (RnI w wr Y qs qo qa (RS vs sc k).2) ∧ Hid (Alike qs (RS vs sc k).1)) (fun _ _ _ i _ => sc.length - (intOf i).toNat)
  case atStart => exact ⟨0, _, _, _, Nat.zero_le _, rfl, rfl, E1, hide (alike0 vs)⟩
  case round =>
    obtain ⟨k, qs, qo, qa, hk, rfl, rfl, ER, HA⟩ := hrel
    by_cases hlt : k < sc.length
    · obtain ⟨m, hm, hm4⟩ := RS_host (unhide HF) hlt
      have HM := hide hm
      have hmv : m < vs.length := by have := (rf_zero (unhide HF)).1; omega
      have hmq : m < qs.length := by rw [(unhide HA).1]; exact hm4
      obtain ⟨b, off, rfl, hsc⟩ := (unhide H2).below (unhide ER).k k hlt
      rw [hm] at hsc
      obtain ⟨b', off', rfl, hva⟩ := (unhide H1).below (unhide ER).k m hmv
      have HVA : Hid (vs.getD m 0 = vs[m]) := hide (by simp [hmv])
      obtain ⟨c0, c1, c2, c3, c4, c5, c6, c7⟩ := (unhide ER).t.get hmq
      rw [hsOf_at hmq] at c0 c1 c2 c3 c4 c5 c6 c7
      have hmi : (m : Int) < 4 := by omega
      have HR := hide (RS_right (unhide HF) (Nat.le_of_lt hlt))
      clear hm
      have hYl : Y < wr.heap.size := (unhide ER).t.lt
      have hPs := (unhide ER).k.size
      have E2 := hide ((unhide ER).below (Joins.below_alloc1 wr (.cells #[.int .i64 (hsOf qs m).host, .int .i64 (hsOf qs m).ver, .int .i64 (hsOf qs m).phase, .int .i64 (hsOf qs m).ballot, .int .i64 (hsOf qs m).value, .int .i64 (hsOf qs m).next, .int .i64 (hsOf qs m).best, .int .i64 (hsOf qs m).bestBal] 33)))
      have V2 := hide (VarP.new wr 33 (hsOf qs m))
      have HSF := hide (fun h => step_fresh (unhide HF) hlt (unhide HA) hm4 h)
      have HSO := hide (fun h h' => step_on (unhide HF) hlt (unhide HA) hm4 h h')
      have HSD := hide (fun h => step_done (unhide HF) hlt (unhide HM) (unhide HA) hm4 h)
      have HNX := hide (RS_next (vs := vs) hlt (unhide HM))
      go_upto_region 10 with fail
      clear c0 c1 c2 c3 c4 c5 c6 c7 hYl
      revert E2 V2 HSF HSO HSD hPs
      generalize wr.alloc (.cells #[.int .i64 (hsOf qs m).host, .int .i64 (hsOf qs m).ver, .int .i64 (hsOf qs m).phase, .int .i64 (hsOf qs m).ballot, .int .i64 (hsOf qs m).value, .int .i64 (hsOf qs m).next, .int .i64 (hsOf qs m).best, .int .i64 (hsOf qs m).bestBal] 33) = W2
      generalize wr.heap.size = P
      generalize hsOf qs m = q
      intro hPs E2 V2 HSF HSO HSD
      obtain ⟨c0, c1, c2, c3, c4, c5, c6, c7⟩ := (unhide V2).cells
      obtain ⟨f0, f1, f2, f3, f4, f5, f6, f7⟩ := (unhide V2).free
      by_cases h5 : q.phase = 5
      · have b5 : (q.phase == 5) = true := by simp [h5]
        have HEQ := hide (unhide HSD h5)
        clear h5 HNX
        go_wp2
        go_roundw
        case rel => exact ⟨k + 1, qs, qo, qa, by omega, by go_num, rfl, by rw [unhide HEQ]; exact E2, by rw [unhide HEQ]; exact HA⟩
        case measure => simp [intOf]; omega
      have b5 : (q.phase == 5) = false := by simp [h5]
      by_cases h06 : q.phase = 0 ∨ q.phase = 6
      · have HFR := hide (unhide HSF h06)
        have hl4 : Hid ((RS vs sc k).2.length = 4) := hide (unhide HR).g.lb
        rw [(unhide HFR).1] at HNX
        rcases h06 with h0 | h6
        · have b0 : (q.phase == 0) = true := by simp [h0]
          clear h0 h5
          have HPX := hide (unhide HFR).2.1
          have HBS := hide (unhide HR).b
          have HFT := hide (fun W hx => freshTry_any (m : Int) (vs.getD m 0) qo 4 qa (RS vs sc k).2 W (unhide hl4) rfl hx (unhide HBS) (unhide HFR).2.1 (unhide HFR).2.2)
          rw [unhide HVA] at HFT HPX HNX
          revert HPX HNX HFT
          clear HFR
          generalize ps0 (m : Int) 0 (nxBal (m : Int) 0 (RS vs sc k).2) vs[m] = fq
          intro HNX HPX HFT
          obtain ⟨b', off', eo', hva⟩ := (unhide H1).below (unhide E2).k m hmv
          cases eo'
          go_wp2_with fail
          refine (unhide HFT _ ((unhide E2).bks (unhide hl4))).mono ?_
          rintro e W3 ⟨rfl, hb⟩
          have E3 := hide ((unhide E2).below hb)
          have V3 := hide ((unhide V2).below hb)
          clear hb c0 c1 c2 c3 c4 c5 c6 c7 f0 f1 f2 f3 f4 f5 f6 f7 hva
          obtain ⟨f0, f1, f2, f3, f4, f5, f6, f7⟩ := (unhide V3).free
          obtain ⟨c0, c1, c2, c3, c4, c5, c6, c7⟩ := (unhide V3).cells
          have E4 := hide ((unhide E3).var (unhide V3) hPs fq).1
          have V4 := hide ((unhide E3).var (unhide V3) hPs fq).2
          go_upto_region 15 with fail
          clear c0 c1 c2 c3 c4 c5 c6 c7 f0 f1 f2 f3 f4 f5 f6 f7
          revert E4 V4
          generalize (((((((W3.setCell ⟨P, 0, none⟩ (.int .i64 fq.host)).setCell ⟨P, 1, none⟩ (.int .i64 fq.ver)).setCell ⟨P, 2, none⟩ (.int .i64 fq.phase)).setCell ⟨P, 3, none⟩ (.int .i64 fq.ballot)).setCell ⟨P, 4, none⟩ (.int .i64 fq.value)).setCell ⟨P, 5, none⟩ (.int .i64 fq.next)).setCell ⟨P, 6, none⟩ (.int .i64 fq.best)).setCell ⟨P, 7, none⟩ (.int .i64 fq.bestBal) = W4
          intro E4 V4
          obtain ⟨d0, d1, d2, d3, d4, d5, d6, d7⟩ := (unhide V4).cells
          go_wp2_with fail
          refine (pxStep_run fq qo 4 qa (RS vs sc k).2 _ (unhide hl4) rfl (unhide HPX) (unhide HBS) ((unhide E4).bks (unhide hl4))).mono ?_
          rintro e W5 ⟨so, sa, cc, rfl, ho, hb⟩
          have E5 := hide (RnI.swap (B := 0) (unhide E4) hb ho)
          clear ho hb d0 d1 d2 d3 d4 d5 d6 d7
          have HN2 : Hid (RS vs sc (k + 1) = ((RS vs sc k).1.set m (pxStepP (fq) (RS vs sc k).2).1, (pxStepP (fq) (RS vs sc k).2).2)) := HNX
          revert E5 HN2
          generalize (pxStepP (fq) (RS vs sc k).2).1 = P9
          generalize (pxStepP (fq) (RS vs sc k).2).2 = B9
          intro E5 HN2
          obtain ⟨e0, e1, e2, e3, e4, e5, e6, e7⟩ := (unhide E5).t.get hmq
          have fz := fun i => (unhide E5).t.free i
          have E6 := hide ((unhide E5).put hmq P9)
          have HA2 := hide ((unhide HA).set (unhide HR).g.lh hm4 P9)
          go_wp2
          go_roundw
          case rel => exact ⟨k + 1, qs.set m P9, so, sa, by omega, by go_num, rfl, by rw [unhide HN2]; exact E6, by rw [unhide HN2]; exact HA2⟩
          case measure => simp [intOf]; omega
        · have b0 : (q.phase == 0) = false := by simp [h6]
          have b6 : (q.phase == 6) = true := by simp [h6]
          clear h6 h5
          have HPX := hide (unhide HFR).2.1
          have HBS := hide (unhide HR).b
          have HFT := hide (fun W hx => freshTry_any (m : Int) (vs.getD m 0) qo 4 qa (RS vs sc k).2 W (unhide hl4) rfl hx (unhide HBS) (unhide HFR).2.1 (unhide HFR).2.2)
          rw [unhide HVA] at HFT HPX HNX
          revert HPX HNX HFT
          clear HFR
          generalize ps0 (m : Int) 0 (nxBal (m : Int) 0 (RS vs sc k).2) vs[m] = fq
          intro HNX HPX HFT
          obtain ⟨b', off', eo', hva⟩ := (unhide H1).below (unhide E2).k m hmv
          cases eo'
          go_wp2_with fail
          refine (unhide HFT _ ((unhide E2).bks (unhide hl4))).mono ?_
          rintro e W3 ⟨rfl, hb⟩
          have E3 := hide ((unhide E2).below hb)
          have V3 := hide ((unhide V2).below hb)
          clear hb c0 c1 c2 c3 c4 c5 c6 c7 f0 f1 f2 f3 f4 f5 f6 f7 hva
          obtain ⟨f0, f1, f2, f3, f4, f5, f6, f7⟩ := (unhide V3).free
          obtain ⟨c0, c1, c2, c3, c4, c5, c6, c7⟩ := (unhide V3).cells
          have E4 := hide ((unhide E3).var (unhide V3) hPs fq).1
          have V4 := hide ((unhide E3).var (unhide V3) hPs fq).2
          go_upto_region 15 with fail
          clear c0 c1 c2 c3 c4 c5 c6 c7 f0 f1 f2 f3 f4 f5 f6 f7
          revert E4 V4
          generalize (((((((W3.setCell ⟨P, 0, none⟩ (.int .i64 fq.host)).setCell ⟨P, 1, none⟩ (.int .i64 fq.ver)).setCell ⟨P, 2, none⟩ (.int .i64 fq.phase)).setCell ⟨P, 3, none⟩ (.int .i64 fq.ballot)).setCell ⟨P, 4, none⟩ (.int .i64 fq.value)).setCell ⟨P, 5, none⟩ (.int .i64 fq.next)).setCell ⟨P, 6, none⟩ (.int .i64 fq.best)).setCell ⟨P, 7, none⟩ (.int .i64 fq.bestBal) = W4
          intro E4 V4
          obtain ⟨d0, d1, d2, d3, d4, d5, d6, d7⟩ := (unhide V4).cells
          go_wp2_with fail
          refine (pxStep_run fq qo 4 qa (RS vs sc k).2 _ (unhide hl4) rfl (unhide HPX) (unhide HBS) ((unhide E4).bks (unhide hl4))).mono ?_
          rintro e W5 ⟨so, sa, cc, rfl, ho, hb⟩
          have E5 := hide (RnI.swap (B := 0) (unhide E4) hb ho)
          clear ho hb d0 d1 d2 d3 d4 d5 d6 d7
          have HN2 : Hid (RS vs sc (k + 1) = ((RS vs sc k).1.set m (pxStepP (fq) (RS vs sc k).2).1, (pxStepP (fq) (RS vs sc k).2).2)) := HNX
          revert E5 HN2
          generalize (pxStepP (fq) (RS vs sc k).2).1 = P9
          generalize (pxStepP (fq) (RS vs sc k).2).2 = B9
          intro E5 HN2
          obtain ⟨e0, e1, e2, e3, e4, e5, e6, e7⟩ := (unhide E5).t.get hmq
          have fz := fun i => (unhide E5).t.free i
          have E6 := hide ((unhide E5).put hmq P9)
          have HA2 := hide ((unhide HA).set (unhide HR).g.lh hm4 P9)
          go_wp2
          go_roundw
          case rel => exact ⟨k + 1, qs.set m P9, so, sa, by omega, by go_num, rfl, by rw [unhide HN2]; exact E6, by rw [unhide HN2]; exact HA2⟩
          case measure => simp [intOf]; omega
      · have h0 : ¬ q.phase = 0 := fun h => h06 (.inl h)
        have h6 : ¬ q.phase = 6 := fun h => h06 (.inr h)
        have HON := hide (unhide HSO h0 h6)
        have b0 : (q.phase == 0) = false := by simp [h0]
        have b6 : (q.phase == 6) = false := by simp [h6]
        have hl4 : Hid ((RS vs sc k).2.length = 4) := hide (unhide HR).g.lb
        rw [(unhide HON).1] at HNX
        clear h06 h0 h6 h5
        have HBS := hide (unhide HR).b
        have HPX := hide (unhide HON).2
        have E4 := E2
        have V4 := V2
        obtain ⟨d0, d1, d2, d3, d4, d5, d6, d7⟩ := (unhide V4).cells
        go_wp2_with fail
        refine (pxStep_run q qo 4 qa (RS vs sc k).2 _ (unhide hl4) rfl (unhide HPX) (unhide HBS) ((unhide E4).bks (unhide hl4))).mono ?_
        rintro e W5 ⟨so, sa, cc, rfl, ho, hb⟩
        have E5 := hide (RnI.swap (B := 0) (unhide E4) hb ho)
        clear ho hb d0 d1 d2 d3 d4 d5 d6 d7
        have HN2 : Hid (RS vs sc (k + 1) = ((RS vs sc k).1.set m (pxStepP (q) (RS vs sc k).2).1, (pxStepP (q) (RS vs sc k).2).2)) := HNX
        revert E5 HN2
        generalize (pxStepP (q) (RS vs sc k).2).1 = P9
        generalize (pxStepP (q) (RS vs sc k).2).2 = B9
        intro E5 HN2
        obtain ⟨e0, e1, e2, e3, e4, e5, e6, e7⟩ := (unhide E5).t.get hmq
        have fz := fun i => (unhide E5).t.free i
        have E6 := hide ((unhide E5).put hmq P9)
        have HA2 := hide ((unhide HA).set (unhide HR).g.lh hm4 P9)
        go_wp2
        go_roundw
        case rel => exact ⟨k + 1, qs.set m P9, so, sa, by omega, by go_num, rfl, by rw [unhide HN2]; exact E6, by rw [unhide HN2]; exact HA2⟩
        case measure => simp [intOf]; omega
    · have hkn : k = sc.length := by omega
      subst hkn
      obtain ⟨q0, q1, q2, q3, rfl⟩ := four_px (unhide HA).1
      have HTO := hide ((unhide HA).told (unhide HF |> fun h => (rn_len h).1))
      have hrg : wr.rangeAt Y 0 (pxsV [q0, q1, q2, q3]) := fun j v hv => by rw [Nat.zero_add, Joins.cell_of_block (unhide ER).t]; simpa using hv
      have HRG := hide hrg
      have HIF : Hid ((Try.prog.info? 55).map (·.size) = some (pxsV [q0, q1, q2, q3]).length) := hide infoA
      clear hrg
      have HCC : Hid (pxsV [q0, q1, q2, q3] = [.int .i64 q0.host, .int .i64 q0.ver, .int .i64 q0.phase, .int .i64 q0.ballot, .int .i64 q0.value, .int .i64 q0.next, .int .i64 q0.best, .int .i64 q0.bestBal, .int .i64 q1.host, .int .i64 q1.ver, .int .i64 q1.phase, .int .i64 q1.ballot, .int .i64 q1.value, .int .i64 q1.next, .int .i64 q1.best, .int .i64 q1.bestBal, .int .i64 q2.host, .int .i64 q2.ver, .int .i64 q2.phase, .int .i64 q2.ballot, .int .i64 q2.value, .int .i64 q2.next, .int .i64 q2.best, .int .i64 q2.bestBal, .int .i64 q3.host, .int .i64 q3.ver, .int .i64 q3.phase, .int .i64 q3.ballot, .int .i64 q3.value, .int .i64 q3.next, .int .i64 q3.best, .int .i64 q3.bestBal]) := hide rfl
      revert HRG HIF HCC
      generalize pxsV [q0, q1, q2, q3] = cl
      intro HRG HIF HCC
      go_upto_region 17 with fail
      go_wp2_with (refine wpList_load_mid rfl 55 _ rfl Y 0 rfl cl _ (unhide HRG) Try.underlying55 rfl (unhide HIF) ?_)
      refine (decisions_any q0 q1 q2 q3 cl _ (unhide HCC)).mono ?_
      rintro e w9 ⟨ro9, ra9, rfl, ho9, hb9⟩
      have HRN : Hid (Ran w w9 vs sc (.returned (.tuple #[.slice ro9 4 ra9, .slice qo 4 qa, .int .i64 0]))) := hide (ran_done (unhide HF) (by have h9 := ho9.base (unhide ER).k.size; rw [unhide HTO] at h9; exact h9) ((unhide ER).o.below hb9) (fr (unhide ER).k hb9))
      clear ho9 hb9
      go_wp2
      rw [Exit.noGoto_ret]
      exact bodyPost_ret (v := .tuple #[.slice ro9 4 ra9, .slice qo 4 qa, .int .i64 0]) (by simp [results, Try.results10, go_sem]) rfl (unhide HRN)
end Go.Proofs.Ytdigphemaccodaa

/- The model's RunPaxos: its state. -/
namespace Go.Proofs.Ytdigphemaccodaa
open Go.RowKit
set_option linter.unusedVariables false
set_option maxRecDepth 100000

theorem runR_pre {vs sc : List Int} (hv : vsB vs) (hl : sc.length ≤ 4096) : ∀ k, k ≤ sc.length → (∀ j (hj : j < sc.length), j < k → hostB sc[j] = true) → RunR vs (7 * k) (RS vs sc k)
  | 0, _, _ => runR0 vs
  | k + 1, hk, hs => by
    have ih := runR_pre hv hl k (by omega) (fun j hj hlt => hs j hj (by omega))
    have hh : 0 ≤ sc[k] ∧ sc[k] ≤ 3 := by have := hs k (by omega) (by omega); simpa [hostB, inB] using this
    have := ih.step hv (by omega) (by omega) (h := sc[k].toNat) (by omega)
    unfold RS
    rw [run_succ (by omega)]
    have e : (7 : Int) * ((k + 1 : Nat) : Int) = 7 * (k : Int) + 7 := by omega
    rw [e]; exact this
/-- The hosts' row and the blocks. -/
structure RnS (w W : World) (g ha : Nat) (ps : List Pxs) (qo : Option Addr) (qa : Nat) (bs : List Bk) : Prop where
  p : W.ownsRow w.heap.size 33 8 (.slice (some ⟨g, 0, none⟩) 4 ha) 4 (pxsV ps)
  o : OwnR W w.heap.size 42 4 (.slice qo 4 qa) 4 (bksV bs)
  k : Below w.heap.size w W
theorem RnS.below {w W W' : World} {g ha : Nat} {ps : List Pxs} {qo : Option Addr} {qa : Nat} {bs : List Bk} (h : RnS w W g ha ps qo qa bs) (hb : Below W.heap.size W W') : RnS w W' g ha ps qo qa bs := ⟨own_below h.p hb, h.o.below hb, fr h.k hb⟩
theorem RnS.bks {w W : World} {g ha : Nat} {ps : List Pxs} {qo : Option Addr} {qa : Nat} {bs : List Bk} (h : RnS w W g ha ps qo qa bs) (h4 : bs.length = 4) : Bks W qo bs :=
  ownBks (B := w.heap.size) (e := 42) (cap := qa) (by rw [h4]; exact h.o)
theorem RnS.blk {w W : World} {g ha : Nat} {ps : List Pxs} {qo : Option Addr} {qa : Nat} {bs : List Bk} (h : RnS w W g ha ps qo qa bs) : w.heap.size ≤ g ∧ g < W.heap.size ∧ ∃ c, W.heap[g]? = some (.cells c 33 (0, 0)) := by
  obtain ⟨g', cap', cur, e, hB, hg⟩ := own_form (by omega) h.p
  simp only [Value.slice.injEq, Option.some.injEq, Addr.mk.injEq, and_true] at e
  obtain ⟨rfl, _⟩ := e
  exact ⟨hB, (Array.getElem?_eq_some_iff.1 hg).1, cur, hg⟩
theorem RnS.get {w W : World} {g ha : Nat} {ps : List Pxs} {qo : Option Addr} {qa : Nat} {bs : List Bk} (h : RnS w W g ha ps qo qa bs) {i : Nat} (hi : i < ps.length) (h4 : ps.length = 4) : W.cell? ⟨g, i * 8, none⟩ = some (.int .i64 ps[i].host) ∧ W.cell? ⟨g, i * 8 + 1, none⟩ = some (.int .i64 ps[i].ver) ∧ W.cell? ⟨g, i * 8 + 2, none⟩ = some (.int .i64 ps[i].phase) ∧ W.cell? ⟨g, i * 8 + 3, none⟩ = some (.int .i64 ps[i].ballot) ∧ W.cell? ⟨g, i * 8 + 4, none⟩ = some (.int .i64 ps[i].value) ∧ W.cell? ⟨g, i * 8 + 5, none⟩ = some (.int .i64 ps[i].next) ∧ W.cell? ⟨g, i * 8 + 6, none⟩ = some (.int .i64 ps[i].best) ∧ W.cell? ⟨g, i * 8 + 7, none⟩ = some (.int .i64 ps[i].bestBal) := by
  obtain ⟨g0, g1, g2, g3, g4, g5, g6, g7⟩ := pxsV_get hi
  refine ⟨?_, ?_, ?_, ?_, ?_, ?_, ?_, ?_⟩
  · rw [h.p.cellAt _ (by omega)]; exact g0
  · rw [h.p.cellAt _ (by omega)]; exact g1
  · rw [h.p.cellAt _ (by omega)]; exact g2
  · rw [h.p.cellAt _ (by omega)]; exact g3
  · rw [h.p.cellAt _ (by omega)]; exact g4
  · rw [h.p.cellAt _ (by omega)]; exact g5
  · rw [h.p.cellAt _ (by omega)]; exact g6
  · rw [h.p.cellAt _ (by omega)]; exact g7
theorem RnS.free {w W : World} {g ha : Nat} {ps : List Pxs} {qo : Option Addr} {qa : Nat} {bs : List Bk} (h : RnS w W g ha ps qo qa bs) (i : Nat) : W.frozen? ⟨g, i, none⟩ = false := h.p.frozenAt i
theorem RnS.put {w W : World} {g ha : Nat} {ps : List Pxs} {qo : Option Addr} {qa : Nat} {bs : List Bk} (h : RnS w W g ha ps qo qa bs) {i : Nat} (hi : i < ps.length) (y : Pxs) : RnS w ((((((((W.setCell ⟨g, i * 8, none⟩ (.int .i64 y.host)).setCell ⟨g, i * 8 + 1, none⟩ (.int .i64 y.ver)).setCell ⟨g, i * 8 + 2, none⟩ (.int .i64 y.phase)).setCell ⟨g, i * 8 + 3, none⟩ (.int .i64 y.ballot)).setCell ⟨g, i * 8 + 4, none⟩ (.int .i64 y.value)).setCell ⟨g, i * 8 + 5, none⟩ (.int .i64 y.next)).setCell ⟨g, i * 8 + 6, none⟩ (.int .i64 y.best)).setCell ⟨g, i * 8 + 7, none⟩ (.int .i64 y.bestBal)) g ha (ps.set i y) qo qa bs := by
  obtain ⟨hB, hg, c, hc⟩ := h.blk
  refine ⟨?_, h.o.keep (keepA (Keep.refl (fun j => j = g) W) rfl i y) (fun j hj e => by have : j = g := e; subst this; exact h.o.other hc (by decide) hj), belowA h.k hB i y⟩
  rw [← pxsV_set hi y]
  exact ((((((((((((((((h.p).stored (i * 8) (.int .i64 y.host)).1).stored (i * 8 + 1) (.int .i64 y.ver)).1).stored (i * 8 + 2) (.int .i64 y.phase)).1).stored (i * 8 + 3) (.int .i64 y.ballot)).1).stored (i * 8 + 4) (.int .i64 y.value)).1).stored (i * 8 + 5) (.int .i64 y.next)).1).stored (i * 8 + 6) (.int .i64 y.best)).1).stored (i * 8 + 7) (.int .i64 y.bestBal)).1
theorem RnS.swap {w W W' : World} {g ha : Nat} {ps : List Pxs} {qo ro : Option Addr} {qa ra : Nat} {bs cs : List Bk} (h : RnS w W g ha ps qo qa bs) (hb : Below W.heap.size W W') (ho : OwnR W' W.heap.size 42 4 (.slice ro 4 ra) 4 (bksV cs)) : RnS w W' g ha ps ro ra cs := ⟨own_below h.p hb, ho.base h.k.size, fr h.k hb⟩
/-- A row of numbers has been written. -/
theorem RnS.ints {w W W' : World} {g ha B n : Nat} {ps : List Pxs} {qo : Option Addr} {qa : Nat} {bs : List Bk} {v : Value} {xs : List Value} (h : RnS w W g ha ps qo qa bs) (hv : OwnR W w.heap.size 3 1 v n xs) (hk : Keep (Own v) W W') : RnS w W' g ha ps qo qa bs := by
  obtain ⟨hB, hg, c, hc⟩ := h.blk
  refine ⟨?_, h.o.keep hk (fun j hj e => own_apart h.o hv (by decide) j hj e), h.k.trans (hk.below h.k.size (fun j hj => (hv.ge j hj).1))⟩
  have := OwnR.keep (.inr ⟨by omega, h.p⟩ : OwnR W w.heap.size 33 8 (.slice (some ⟨g, 0, none⟩) 4 ha) 4 (pxsV ps)) hk (fun j hj e => own_apart (.inr ⟨by omega, h.p⟩ : OwnR W w.heap.size 33 8 (.slice (some ⟨g, 0, none⟩) 4 ha) 4 (pxsV ps)) hv (by decide) j hj e)
  rcases this with ⟨h0, _⟩ | ⟨_, h⟩
  · omega
  · exact h
theorem list_news (w : World) (l : List Value) (t : TypeId) : ∀ j u, l[j]? = some u → (w.alloc (.cells l.toArray t)).cell? ((⟨w.heap.size, 0, none⟩ : Addr).add j) = some u := by
  intro j u hu
  have ha : (⟨w.heap.size, 0, none⟩ : Addr).add j = ⟨w.heap.size, j, none⟩ := by unfold Addr.add; split <;> simp_all
  rw [ha, Joins.cell_of_block (heap_alloc_new w _)]
  simpa using hu
theorem infoX : (Try.prog.info? 33).map (fun i => (i.zero, i.size, i.bytes)) = some (some (.agg #[.int .i64 0, .int .i64 0, .int .i64 0, .int .i64 0, .int .i64 0, .int .i64 0, .int .i64 0, .int .i64 0]), 8, 64) := by kernel_rfl
theorem run0_at (vs : List Int) {k : Nat} (hk : k < 4) : (run0 vs).1.take (k + 1) = (run0 vs).1.take k ++ [⟨k, 0, 6, 0, vs.getD k 0, 0, 0, 0⟩] := by
  rcases (show k = 0 ∨ k = 1 ∨ k = 2 ∨ k = 3 by omega) with rfl | rfl | rfl | rfl <;> rfl
/-- Hosts while they are laid. -/
structure RnH (w W : World) (v : Value) (n : Nat) (ps : List Pxs) (qo : Option Addr) (qa : Nat) (bs : List Bk) : Prop where
  p : OwnR W w.heap.size 33 8 v n (pxsV ps)
  o : OwnR W w.heap.size 42 4 (.slice qo 4 qa) 4 (bksV bs)
  k : Below w.heap.size w W
theorem RnH.below {w W W' : World} {v : Value} {n : Nat} {ps : List Pxs} {qo : Option Addr} {qa : Nat} {bs : List Bk} (h : RnH w W v n ps qo qa bs) (hb : Below W.heap.size W W') : RnH w W' v n ps qo qa bs := ⟨h.p.below hb, h.o.below hb, fr h.k hb⟩
theorem RnH.more {w W W' : World} {v v' : Value} {n : Nat} {ps qs : List Pxs} {qo : Option Addr} {qa : Nat} {bs : List Bk} (h : RnH w W v n ps qo qa bs) (hp : W'.ownsRow w.heap.size 33 8 v' (n + 1) (pxsV qs)) (hk : Keep (Own v) W W') : RnH w W' v' (n + 1) qs qo qa bs :=
  ⟨.inr ⟨by omega, hp⟩, h.o.keep hk (fun j hj e => own_apart h.o h.p (by decide) j hj e), h.k.trans (hk.below h.k.size (fun j hj => (h.p.ge j hj).1))⟩
end Go.Proofs.Ytdigphemaccodaa

/- The model's RunPaxos. -/
namespace Go.Proofs.Ytdigphemaccodaa
open Go.RowKit
set_option linter.unusedVariables false
set_option maxRecDepth 100000

theorem two_none {w W : World} {vs sc : List Int} {c : Int} (h : rfC vs sc = c) (hc : c ≠ 0) (hb : Below w.heap.size w W) (o1 o2 : Obj) (a b : Option Addr) : Ran w ((W.alloc o1).alloc o2) vs sc (.returned (.tuple #[.slice a 0 0, .slice b 0 0, .int .i64 c])) :=
  ran_none _ _ h hc (fr hb (Joins.below_alloc2 _ _ _))
theorem ints4 {vs : List Int} (h : vs.length = 4) : intsB vs = allB vs := by
  unfold intsB
  rw [h]
  simp
theorem told_one {wr wA w : World} {qo : Option Addr} {k qa g cap : Nat} {ts : List Int} {r : Int} (hoA : wA.ownsRow w.heap.size 3 1 (.slice (some ⟨g, 0, none⟩) (k + 1) cap) (k + 1) (intV ts ++ [.int .i64 r])) : OwnR wA w.heap.size 3 1 (.slice (some ⟨g, 0, none⟩) (k + 1) cap) (k + 1) (intV (ts ++ [r])) := by
  rw [intV_snoc]; exact .inr ⟨by omega, hoA⟩

set_option maxHeartbeats 3200000 in
theorem runPaxos_spec (ao bo : Option Addr) (ca cb : Nat) (vs sc : List Int) (w : World) (hl : vs.length ≤ 1048576) (hm : sc.length ≤ 1048576) (h1 : Is w ao vs) (h2 : Is w bo sc) :
    Calls Try.prog 11 #[.slice ao vs.length ca, .slice bo sc.length cb] w fun e w' => Ran w w' vs sc e := by
  have H1 := hide h1
  have H2 := hide h2
  clear h1 h2
  obtain ⟨i0, hi, hz0, hz1, hz2⟩ := info_parts infoZ
  obtain ⟨x0, hx, hy0, hy1, hy2⟩ := info_parts infoX
  obtain ⟨n0, hn, hu0, hu1, hu2⟩ := info_parts infoI
  by_cases hv : 4096 < vs.length
  · have HE := hide (rf_long (sc := sc) (.inl hv))
    go_enter Try.func11, Try.ntmps11
    go_wp2
    exact bodyPost_ret (v := .tuple #[.slice (some ⟨w.heap.size, 0, none⟩) 0 0, .slice (some ⟨w.heap.size + 1, 0, none⟩) 0 0, .int .i64 2]) (by simp [results, Try.results11, go_sem]) rfl (two_none (unhide HE) (by decide) (Below.refl _ _) _ _ _ _)
  by_cases hs : 4096 < sc.length
  · have HE := hide (rf_long (vs := vs) (.inr hs))
    go_enter Try.func11, Try.ntmps11
    go_wp2
    exact bodyPost_ret (v := .tuple #[.slice (some ⟨w.heap.size, 0, none⟩) 0 0, .slice (some ⟨w.heap.size + 1, 0, none⟩) 0 0, .int .i64 2]) (by simp [results, Try.results11, go_sem]) rfl (two_none (unhide HE) (by decide) (Below.refl _ _) _ _ _ _)
  have HN : Hid (¬ (4096 < vs.length ∨ 4096 < sc.length)) := hide (by omega)
  by_cases h4 : ¬ vs.length = 4
  · have HE := hide (rf_bad (unhide HN) (by simp [h4]))
    have hb : ((vs.length : Int) != 4) = true := by simp; omega
    go_enter Try.func11, Try.ntmps11
    go_wp2
    exact bodyPost_ret (v := .tuple #[.slice (some ⟨w.heap.size, 0, none⟩) 0 0, .slice (some ⟨w.heap.size + 1, 0, none⟩) 0 0, .int .i64 1]) (by simp [results, Try.results11, go_sem]) rfl (two_none (unhide HE) (by decide) (Below.refl _ _) _ _ _ _)
  rw [Decidable.not_not] at h4
  have hb : ((vs.length : Int) != 4) = false := by simp; omega
  have H4 := hide h4
  have HIB := hide (ints4 h4)
  clear h4
  go_enter Try.func11, Try.ntmps11
  go_wp2_with fail
  refine (l02Ints_any ao ca vs _ hl (unhide H1)).mono ?_
  rintro e w0 ⟨rfl, hw⟩
  replace hw := hw.symm
  subst hw
  rw [unhide HIB]
  by_cases ha : allB vs = false
  · have HE := hide (rf_bad (unhide HN) (by rw [ha]; simp))
    go_wp2
    exact bodyPost_ret (v := .tuple #[.slice (some ⟨w.heap.size, 0, none⟩) 0 0, .slice (some ⟨w.heap.size + 1, 0, none⟩) 0 0, .int .i64 1]) (by simp [results, Try.results11, go_sem]) rfl (two_none (unhide HE) (by decide) (Below.refl _ _) _ _ _ _)
  rw [Bool.not_eq_false] at ha
  have HV : Hid ((decide (vs.length = 4) && allB vs) = true) := hide (by rw [decide_eq_true (unhide H4), ha]; rfl)
  have HVS : Hid (vsB vs) := hide (fun q hq => by
    have hq' : q < vs.length := by rw [unhide H4]; exact hq
    have := List.all_eq_true.1 ha vs[q] (List.getElem_mem hq')
    rw [show vs.getD q 0 = vs[q] by simp [hq']]
    simpa [numB, inB] using this)
  have HSL : Hid (sc.length ≤ 4096) := hide (by omega)
  go_wp2_with (first | (at_make; refine wpList_make_full _ rfl _ _ 26 rfl w.heap.size 42 i0 _ 4 Try.underlying26 hi hz0 hz1 _ _ _ _ 4 rfl rfl rfl rfl ?c1 ?c2 ?c3 ?_))
  case c1 => rw [hz2]; omega
  case c2 => unfold maxLen; omega
  case c3 => exact Nat.le_refl _
  intro w1 hown hgrow
  replace hown : w1.ownsRow w.heap.size 42 4 (.slice (some ⟨w.heap.size, 0, none⟩) 4 4) 4 (bksV (run0 vs).2) := by rw [show bksV (run0 vs).2 = (madeCells #[Value.int .i64 0, Value.int .i64 0, Value.int .i64 0, Value.int .i64 0] 16).toList from made16.symm]; exact hown
  have hB : Below w.heap.size w w1 := (Below.refl _ _).grown hgrow (Nat.le_refl _) (fun _ h => by cases h)
  have E1 : Hid (RnH w (w1.alloc (.cells #[] 33)) (.slice (some ⟨w1.heap.size, 0, none⟩) 0 0) 0 [] (some ⟨w.heap.size, 0, none⟩) 4 (run0 vs).2) :=
    hide ⟨.inl ⟨rfl, rfl, _, rfl⟩, .inr ⟨by omega, own_below hown (Joins.below_alloc1 _ _)⟩, fr hB (Joins.below_alloc1 _ _)⟩
  clear hown hB hgrow
  go_upto_region 7 with fail
  revert E1
  generalize w1.alloc (.cells #[] 33) = W1
  generalize w1.heap.size = a1
  generalize (some ⟨w.heap.size, 0, none⟩ : Option Addr) = ro
  intro E1
  go_wp2
  go_loopw [8, 9] (fun hs i wr => ∃ (k : Nat) (qo : Option Addr) (qa : Nat), k ≤ 4 ∧ i = .int .i64 k ∧ hs = .slice qo k qa ∧ Hid (RnH w wr (.slice qo k qa) k ((run0 vs).1.take k) ro 4 (run0 vs).2)) (fun _ i _ => 4 - (intOf i).toNat)
  case atStart => exact ⟨0, _, _, by omega, rfl, rfl, E1⟩
  case round =>
    obtain ⟨k, qo, qa, hk, rfl, rfl, ER⟩ := hrel
    by_cases hlt : k < 4
    · have hkv : k < vs.length := by rw [unhide H4]; exact hlt
      obtain ⟨b, off, rfl, hva⟩ := (unhide H1).below (unhide ER).k k hkv
      have HT : Hid ((run0 vs).1.take (k + 1) = (run0 vs).1.take k ++ [⟨k, 0, 6, 0, vs[k], 0, 0, 0⟩]) := hide (by rw [run0_at vs hlt]; simp [hkv])
      have EA := hide ((unhide ER).below (Joins.below_alloc1 wr (.cells #[.int .i64 (k : Int), .int .i64 0, .int .i64 6, .int .i64 0, .int .i64 vs[k], .int .i64 0, .int .i64 0, .int .i64 0] 33)))
      have HI : Hid (∀ j u, (pxsV [⟨k, 0, 6, 0, vs[k], 0, 0, 0⟩])[j]? = some u → (wr.alloc (.cells #[.int .i64 (k : Int), .int .i64 0, .int .i64 6, .int .i64 0, .int .i64 vs[k], .int .i64 0, .int .i64 0, .int .i64 0] 33)).cell? ((⟨wr.heap.size, 0, none⟩ : Addr).add j) = some u) := hide (list_news wr (pxsV [⟨k, 0, 6, 0, vs[k], 0, 0, 0⟩]) 33)
      have HSZ := hide (unhide EA).k.size
      go_wp2_with (at_builtin; refine wpList_append_one rfl _ _ 59 rfl w.heap.size 33 x0 (.agg #[.int .i64 0, .int .i64 0, .int .i64 0, .int .i64 0, .int .i64 0, .int .i64 0, .int .i64 0, .int .i64 0]) 8 64 Try.underlying59 hx hy0 hy1 hy2 rfl (by omega) qo k qa _ rfl (unhide EA).p (unhide HSZ) ⟨wr.heap.size, 0, none⟩ _ (pxsV [⟨k, 0, 6, 0, vs[k], 0, 0, 0⟩]) rfl rfl (unhide HI) (pxs_one _) (by unfold maxLen; omega) (by omega) ?_; intro g2 cap2 wA hoA hkA; have HSF : Hid (RnH w wA (.slice (some ⟨g2, 0, none⟩) (k + 1) cap2) (k + 1) ((run0 vs).1.take (k + 1)) ro 4 (run0 vs).2) := hide ((unhide EA).more (by rw [unhide HT, pxsV_append]; exact hoA) hkA); clear hoA hkA)
      go_roundw
      case rel => exact ⟨k + 1, _, _, by omega, by go_num, rfl, HSF⟩
      case measure => simp [intOf]; omega
    · have hk4 : k = 4 := by omega
      subst hk4
      obtain ⟨g, hg, E2⟩ : ∃ g, qo = some ⟨g, 0, none⟩ ∧ Hid (RnS w wr g qa (RS vs sc 0).1 ro 4 (RS vs sc 0).2) := by
        rcases (unhide ER).p with ⟨h0, _, _⟩ | ⟨h0, hp⟩
        · omega
        · obtain ⟨g', cap', cur, e, hB, hg⟩ := own_form h0 hp
          simp only [Value.slice.injEq, true_and] at e
          obtain ⟨rfl, _⟩ := e
          exact ⟨g', rfl, hide ⟨hp, (unhide ER).o, (unhide ER).k⟩⟩
      subst hg
      clear ER
      go_wp2
      go_loopw [7, 10, 11, 12, 13, 14] (fun bl i _ _ _ _ wr => ∃ (k : Nat) (qo : Option Addr) (qb : Nat), k ≤ sc.length ∧ i = .int .i64 k ∧ bl = .slice qo 4 qb ∧ Hid (RnS w wr g qa (RS vs sc k).1 qo qb (RS vs sc k).2) ∧ Hid (∀ j (h : j < sc.length), j < k → hostB sc[j] = true)) (fun _ i _ _ _ _ _ => sc.length - (intOf i).toNat)
      case atStart => exact ⟨0, _, _, Nat.zero_le _, rfl, rfl, E2, hide (fun j _ h => by omega)⟩
      case round =>
        obtain ⟨k, qo, qb, hk, rfl, rfl, ER, HA⟩ := hrel
        have HR := hide (runR_pre (unhide HVS) (unhide HSL) k hk (unhide HA))
        by_cases hlt : k < sc.length
        · obtain ⟨b, off, rfl, hsc⟩ := (unhide H2).below (unhide ER).k k hlt
          by_cases hh : hostB sc[k] = false
          · have HE := hide (rf_range (unhide HN) (unhide HV) (all_not (p := hostB) hlt hh))
            have hh2 : inB sc[k] 0 3 = false := hh
            have HK := hide (unhide ER).k
            clear hh
            go_wp2_with (go_at_call 32; refine (l04Host_px _ _).mono ?_; rintro e w' ⟨rfl, hw⟩; replace hw := hw.symm; subst hw)
            exact bodyPost_ret (v := .tuple #[.slice (some ⟨wr.heap.size, 0, none⟩) 0 0, .slice (some ⟨wr.heap.size + 1, 0, none⟩) 0 0, .int .i64 4]) (by simp [results, Try.results11, go_sem]) rfl (two_none (unhide HE) (by decide) (unhide HK) _ _ _ _)
          rw [Bool.not_eq_false] at hh
          have hh2 : inB sc[k] 0 3 = true := hh
          have HA2 := hide (all_succ (p := hostB) hlt (unhide HA) hh)
          obtain ⟨m, hm', hm4⟩ : ∃ m : Nat, sc[k] = m ∧ m < 4 := by
            have : 0 ≤ sc[k] ∧ sc[k] ≤ 3 := by simpa [inB] using hh2
            exact ⟨sc[k].toNat, by omega, by omega⟩
          have HM := hide hm'
          have HNX := hide (RS_next (vs := vs) hlt (unhide HM))
          have hmv : m < vs.length := by rw [unhide H4]; exact hm4
          have hmi : (m : Int) < 4 := by omega
          have hm0 : (0 : Int) ≤ (m : Int) := by omega
          rw [hm'] at hsc hh2
          obtain ⟨b', off', rfl, hva⟩ := (unhide H1).below (unhide ER).k m hmv
          have HVA : Hid (vs.getD m 0 = vs[m]) := hide (by simp [hmv])
          have hpl : m < (RS vs sc k).1.length := by rw [(unhide HR).g.lh]; exact hm4
          obtain ⟨c0, c1, c2, c3, c4, c5, c6, c7⟩ := (unhide ER).get hpl (unhide HR).g.lh
          have fz := fun i => (unhide ER).free i
          rw [hsOf_at hpl] at c0 c1 c2 c3 c4 c5 c6 c7
          have HW := hide ((unhide HR).with (unhide HVS) (by omega) (by have := unhide HSL; omega) hm4)
          have hl4 : Hid ((RS vs sc k).2.length = 4) := hide (unhide HR).g.lb
          have HPL := hide hpl
          have HMB := hide (bks_mbal (unhide HR).b)
          have HSW : Hid (stepWith vs (RS vs sc k) m = if (hsOf (RS vs sc k).1 m).phase = 6 then ps0 m 0 (nxBal m 0 (RS vs sc k).2) (vs.getD m 0) else hsOf (RS vs sc k).1 m) := hide rfl
          rw [unhide HVA] at HSW
          clear hm' hh hpl HA
          revert HNX HW HSW c0 c1 c2 c3 c4 c5 c6 c7
          generalize hsOf (RS vs sc k).1 m = q
          generalize stepWith vs (RS vs sc k) m = sw
          intro HNX c0 c1 c2 c3 c4 c5 c6 c7 HW HSW
          by_cases h6 : q.phase = 6
          · have b6 : (q.phase == 6) = true := by simp [h6]
            have HSQ := hide ((unhide HSW).trans (if_pos h6))
            clear h6 HSW
            go_upto_region 18 with (go_at_call 32; refine (l04Host_px _ _).mono ?_; rintro e w' ⟨rfl, hw⟩; replace hw := hw.symm; subst hw)
            obtain ⟨b3, off3, e3, hv3⟩ := unhide H1 m hmv
            cases e3
            have hbl := World.block_lt_of_cell? _ _ hv3
            clear hv3
            have hgB := (unhide ER).blk.1
            have nbg : b' ≠ g := by simp at hbl; omega
            have nbg' : g ≠ b' := fun e => nbg e.symm
            rw [unhide HSQ] at HNX HW
            clear HSQ
            go_region_held3 (fun w' => w'.cell? ⟨b', off' + m, none⟩ = some (.int .i64 vs[m])) (first | go_keep | simp [go_sem, *])
              ((go_at_call 33; refine (l05Next_any (m : Int) 0 qo 4 qb (RS vs sc k).2 _ (unhide hl4) (by omega) (by omega) (unhide HMB) (((unhide ER).bks (unhide hl4)).below ((Below.refl _ _).drew))).mono ?_; rintro e w2 ⟨rfl, hb2⟩; have ER2 := hide (((unhide ER).below ((Below.refl _ _).drew)).below hb2); obtain ⟨e0, e1, e2, e3, e4, e5, e6, e7⟩ := (unhide ER2).get (unhide HPL) (unhide HR).g.lh; have fz2 := (fun i => (unhide ER2).free i); have m0 := (hb2.cell (p := ⟨b', off' + m, none⟩) (World.block_lt_of_cell? _ _ hva)).trans hva; clear hb2))
            all_goals
              have E3 : Hid (RnS w ((((((((w2.setCell ⟨g, m * 8, none⟩ (.int .i64 (m : Int))).setCell ⟨g, m * 8 + 1, none⟩ (.int .i64 0)).setCell ⟨g, m * 8 + 2, none⟩ (.int .i64 1)).setCell ⟨g, m * 8 + 3, none⟩ (.int .i64 (nxBal (m : Int) 0 (RS vs sc k).2))).setCell ⟨g, m * 8 + 4, none⟩ (.int .i64 vs[m])).setCell ⟨g, m * 8 + 5, none⟩ (.int .i64 0)).setCell ⟨g, m * 8 + 6, none⟩ (.int .i64 0)).setCell ⟨g, m * 8 + 7, none⟩ (.int .i64 0)) g qa ((RS vs sc k).1.set m (ps0 (m : Int) 0 (nxBal (m : Int) 0 (RS vs sc k).2) vs[m])) qo qb (RS vs sc k).2) := hide ((unhide ER2).put (unhide HPL) (ps0 (m : Int) 0 (nxBal (m : Int) 0 (RS vs sc k).2) vs[m]))
              clear c0 c1 c2 c3 c4 c5 c6 c7 hva m0 nbg nbg'
              go_wp2_with fail
              clear e0 e1 e2 e3 e4 e5 e6 e7 fz2 ER2
              revert E3
              generalize ((((((((w2.setCell ⟨g, m * 8, none⟩ (.int .i64 (m : Int))).setCell ⟨g, m * 8 + 1, none⟩ (.int .i64 0)).setCell ⟨g, m * 8 + 2, none⟩ (.int .i64 1)).setCell ⟨g, m * 8 + 3, none⟩ (.int .i64 (nxBal (m : Int) 0 (RS vs sc k).2))).setCell ⟨g, m * 8 + 4, none⟩ (.int .i64 vs[m])).setCell ⟨g, m * 8 + 5, none⟩ (.int .i64 0)).setCell ⟨g, m * 8 + 6, none⟩ (.int .i64 0)).setCell ⟨g, m * 8 + 7, none⟩ (.int .i64 0)) = W4
              intro E3
              refine (l05Step_any (ps0 (m : Int) 0 (nxBal (m : Int) 0 (RS vs sc k).2) vs[m]) qo 4 qb (RS vs sc k).2 _ (unhide hl4) rfl (pxB_iff.1 (unhide HW)).1 (pxB_iff.1 (unhide HW)).2.2.2.2.2.2.1 ((unhide E3).bks (unhide hl4))).mono ?_
              rintro e W5 ⟨so, sa, rfl, ho, hb⟩
              have E5 := hide ((unhide E3).swap hb ho)
              clear ho hb
              revert E5 HNX
              generalize (pxStepP (ps0 (m : Int) 0 (nxBal (m : Int) 0 (RS vs sc k).2) vs[m]) (RS vs sc k).2).1 = P9
              generalize (pxStepP (ps0 (m : Int) 0 (nxBal (m : Int) 0 (RS vs sc k).2) vs[m]) (RS vs sc k).2).2 = B9
              generalize stEnd (ps0 (m : Int) 0 (nxBal (m : Int) 0 (RS vs sc k).2) vs[m]) = c9
              intro HNX E5
              have E6 := hide ((unhide E5).below (Joins.below_alloc1 W5 (.cells #[.int .i64 P9.host, .int .i64 P9.ver, .int .i64 P9.phase, .int .i64 P9.ballot, .int .i64 P9.value, .int .i64 P9.next, .int .i64 P9.best, .int .i64 P9.bestBal] 33)))
              have V6 := hide (VarP.new W5 33 P9)
              go_upto_region 20 with fail
              revert E6 V6
              generalize W5.alloc (.cells #[.int .i64 P9.host, .int .i64 P9.ver, .int .i64 P9.phase, .int .i64 P9.ballot, .int .i64 P9.value, .int .i64 P9.next, .int .i64 P9.best, .int .i64 P9.bestBal] 33) = W6
              generalize W5.heap.size = D
              intro E6 V6
              have HL9 : Hid (((RS vs sc k).1.set m (ps0 (m : Int) 0 (nxBal (m : Int) 0 (RS vs sc k).2) vs[m])).length = 4) := hide (by rw [List.length_set]; exact (unhide HR).g.lh)
              obtain ⟨d0, d1, d2, d3, d4, d5, d6, d7⟩ := (unhide E6).get (i := m) (by rw [unhide HL9]; exact hm4) (unhide HL9)
              have fz := fun i => (unhide E6).free i
              obtain ⟨v0, v1, v2, v3, v4, v5, v6, v7⟩ := (unhide V6).cells
              have E7 := hide ((unhide E6).put (i := m) (by rw [unhide HL9]; exact hm4) P9)
              go_wp2
              go_roundw
              case rel => ((repeat apply Exists.intro); exact ⟨⟨k + 1, so, sa, by omega, by go_num, rfl, (by rw [unhide HNX]; have E8 := unhide E7; rw [List.set_set] at E8; exact hide E8), HA2⟩, rfl⟩)
              case measure => simp [intOf]; omega
          · have b6 : (q.phase == 6) = false := by simp [h6]
            have HSQ := hide ((unhide HSW).trans (if_neg h6))
            rw [unhide HSQ] at HNX HW
            clear h6 HSW HSQ
            go_wp2_with (go_at_call 32; refine (l04Host_px _ _).mono ?_; rintro e w' ⟨rfl, hw⟩; replace hw := hw.symm; subst hw)
            clear c0 c1 c2 c3 c4 c5 c6 c7 fz hva
            refine (l05Step_any (q) qo 4 qb (RS vs sc k).2 _ (unhide hl4) rfl (pxB_iff.1 (unhide HW)).1 (pxB_iff.1 (unhide HW)).2.2.2.2.2.2.1 ((unhide ER).bks (unhide hl4))).mono ?_
            rintro e W5 ⟨so, sa, rfl, ho, hb⟩
            have E5 := hide ((unhide ER).swap hb ho)
            clear ho hb
            revert E5 HNX
            generalize (pxStepP (q) (RS vs sc k).2).1 = P9
            generalize (pxStepP (q) (RS vs sc k).2).2 = B9
            generalize stEnd (q) = c9
            intro HNX E5
            have E6 := hide ((unhide E5).below (Joins.below_alloc1 W5 (.cells #[.int .i64 P9.host, .int .i64 P9.ver, .int .i64 P9.phase, .int .i64 P9.ballot, .int .i64 P9.value, .int .i64 P9.next, .int .i64 P9.best, .int .i64 P9.bestBal] 33)))
            have V6 := hide (VarP.new W5 33 P9)
            go_upto_region 20 with fail
            revert E6 V6
            generalize W5.alloc (.cells #[.int .i64 P9.host, .int .i64 P9.ver, .int .i64 P9.phase, .int .i64 P9.ballot, .int .i64 P9.value, .int .i64 P9.next, .int .i64 P9.best, .int .i64 P9.bestBal] 33) = W6
            generalize W5.heap.size = D
            intro E6 V6
            have HL9 : Hid (((RS vs sc k).1).length = 4) := hide (by exact (unhide HR).g.lh)
            obtain ⟨d0, d1, d2, d3, d4, d5, d6, d7⟩ := (unhide E6).get (i := m) (by rw [unhide HL9]; exact hm4) (unhide HL9)
            have fz := fun i => (unhide E6).free i
            obtain ⟨v0, v1, v2, v3, v4, v5, v6, v7⟩ := (unhide V6).cells
            have E7 := hide ((unhide E6).put (i := m) (by rw [unhide HL9]; exact hm4) P9)
            go_wp2
            go_roundw
            case rel => ((repeat apply Exists.intro); exact ⟨⟨k + 1, so, sa, by omega, by go_num, rfl, (by rw [unhide HNX]; have E8 := unhide E7; skip; exact hide E8), HA2⟩, rfl⟩)
            case measure => simp [intOf]; omega
        · have hkn : k = sc.length := by omega
          subst hkn
          have HF : Hid (rfC vs sc = 0) := hide (rf_ok (unhide HN) (unhide HV) (all_of (p := hostB) (fun j h _ => unhide HA j h (by omega))))
          have HL4 := hide (unhide HR).g.lh
          have E4 := hide ((unhide ER).below (Joins.below_alloc1 wr (.cells #[] 3)))
          clear HR HA
          have HRS : Hid (RS vs sc sc.length = rnS vs sc) := hide rfl
          rw [unhide HRS] at E4 HL4
          go_upto_region 23 with fail
          revert E4
          generalize wr.alloc (.cells #[] 3) = W4
          generalize wr.heap.size = a4
          intro E4
          clear ER
          go_wp2
          go_loopw [15, 16] (fun o i wr => ∃ (k : Nat) (so : Option Addr) (sa : Nat), k ≤ 4 ∧ i = .int .i64 k ∧ o = .slice so k sa ∧ Hid (RnS w wr g qa (rnS vs sc).1 qo qb (rnS vs sc).2) ∧ Hid (OwnR wr w.heap.size 3 1 (.slice so k sa) k (intV ((told (rnS vs sc).1).take k)))) (fun _ i _ => 4 - (intOf i).toNat)
          case atStart => exact ⟨0, _, _, by omega, rfl, rfl, E4, hide (.inl ⟨rfl, rfl, _, rfl⟩)⟩
          case round =>
            obtain ⟨k, so, sa, hk, rfl, rfl, ER, HO⟩ := hrel
            by_cases hlt : k < 4
            · have hkp : k < (rnS vs sc).1.length := by rw [unhide HL4]; exact hlt
              obtain ⟨c0, c1, c2, c3, c4, c5, c6, c7⟩ := (unhide ER).get hkp (unhide HL4)
              have HT0 := hide (told_at (ps := (rnS vs sc).1) (k := k) hkp)
              have hki : (k : Int) < 4 := by omega
              revert HT0 c0 c1 c2 c3 c4 c5 c6 c7
              generalize (rnS vs sc).1[k] = q
              intro c0 c1 c2 c3 c4 c5 c6 c7 HT0
              by_cases h5 : q.phase = 5
              · have b5 : (q.phase == 5) = true := by simp [h5]
                have HT := hide ((unhide HT0).trans (by rw [if_pos h5]))
                clear h5 HT0
                have EA := hide ((unhide ER).below (Joins.below_alloc1 wr (.cells #[.int .i64 q.value] 3)))
                have HOA := hide ((unhide HO).below (Joins.below_alloc1 wr (.cells #[.int .i64 q.value] 3)))
                have HSZ := hide (unhide EA).k.size
                go_wp2_with (at_builtin; refine wpList_append_one rfl _ _ 24 rfl w.heap.size 3 n0 (.int .i64 0) 1 8 Try.underlying24 hn hu0 hu1 hu2 rfl (by omega) so k sa _ rfl (unhide HOA) (unhide HSZ) ⟨wr.heap.size, 0, none⟩ _ [.int .i64 q.value] rfl rfl (byte_news wr _ _) (int_one _) (by unfold maxLen; omega) (by omega) ?_; intro g2 cap2 wA hoA hkA; have HSF := hide (RnS.ints (B := 0) (unhide EA) (unhide HOA) hkA); have HSG : Hid (OwnR wA w.heap.size 3 1 (.slice (some ⟨g2, 0, none⟩) (k + 1) cap2) (k + 1) (intV ((told (rnS vs sc).1).take (k + 1)))) := hide (by rw [unhide HT]; exact told_one (wr := wr) (qo := so) (qa := sa) hoA); clear hoA hkA)
                go_roundw
                case rel => ((repeat apply Exists.intro); exact ⟨⟨k + 1, _, _, by omega, by go_num, rfl, HSF, HSG⟩, rfl⟩)
                case measure => simp [intOf]; omega
              · have b5 : (q.phase == 5) = false := by simp [h5]
                have HT := hide ((unhide HT0).trans (by rw [if_neg h5]))
                clear h5 HT0
                have EA := hide ((unhide ER).below (Joins.below_alloc1 wr (.cells #[.int .i64 (-1)] 3)))
                have HOA := hide ((unhide HO).below (Joins.below_alloc1 wr (.cells #[.int .i64 (-1)] 3)))
                have HSZ := hide (unhide EA).k.size
                go_wp2_with (at_builtin; refine wpList_append_one rfl _ _ 24 rfl w.heap.size 3 n0 (.int .i64 0) 1 8 Try.underlying24 hn hu0 hu1 hu2 rfl (by omega) so k sa _ rfl (unhide HOA) (unhide HSZ) ⟨wr.heap.size, 0, none⟩ _ [.int .i64 (-1)] rfl rfl (byte_news wr _ _) (int_one _) (by unfold maxLen; omega) (by omega) ?_; intro g2 cap2 wA hoA hkA; have HSF := hide (RnS.ints (B := 0) (unhide EA) (unhide HOA) hkA); have HSG : Hid (OwnR wA w.heap.size 3 1 (.slice (some ⟨g2, 0, none⟩) (k + 1) cap2) (k + 1) (intV ((told (rnS vs sc).1).take (k + 1)))) := hide (by rw [unhide HT]; exact told_one (wr := wr) (qo := so) (qa := sa) hoA); clear hoA hkA)
                go_roundw
                case rel => ((repeat apply Exists.intro); exact ⟨⟨k + 1, _, _, by omega, by go_num, rfl, HSF, HSG⟩, rfl⟩)
                case measure => simp [intOf]; omega
            · have hk4 : k = 4 := by omega
              subst hk4
              have HRN : Hid (Ran w wr vs sc (.returned (.tuple #[.slice so 4 sa, .slice qo 4 qb, .int .i64 0]))) := hide (ran_done (unhide HF) (by have h9 := unhide HO; rw [List.take_of_length_le (by rw [told_len, unhide HL4]; omega)] at h9; exact h9) (unhide ER).o (unhide ER).k)
              go_wp2
              exact bodyPost_ret (v := .tuple #[.slice so 4 sa, .slice qo 4 qb, .int .i64 0]) (by simp [results, Try.results11, go_sem]) rfl (unhide HRN)
end Go.Proofs.Ytdigphemaccodaa

/- Contract of the laws' comparison of lists of numbers (sameInts). -/
namespace Go.Proofs.Ytdigphemaccodaa
open Go.RowKit
set_option linter.unusedVariables false
set_option maxRecDepth 100000

set_option maxHeartbeats 800000 in
theorem sameInts_any (ao bo : Option Addr) (ca cb : Nat) (ss tt : List Int) (w : World) (hl : ss.length ≤ maxLen) (hc : Is w ao ss) (hd : Is w bo tt) :
    Calls Try.prog 12 #[.slice ao ss.length ca, .slice bo tt.length cb] w fun e w' => e = .returned (.bool (eqNB ss tt)) ∧ Below w.heap.size w w' := by
  have HC := hide hc
  have HD := hide hd
  clear hc hd
  unfold maxLen at hl
  by_cases hle : ss.length = tt.length
  · have hb : ((ss.length : Int) != (tt.length : Int)) = false := by simp [hle]
    have HLE := hide hle
    clear hle
    go_enter Try.func12, Try.ntmps12
    go_wp2
    go_loopw [5] (fun i wr => ∃ k : Nat, k ≤ ss.length ∧ i = .int .i64 k ∧ Hid (∀ j (h : j < ss.length) (h' : j < tt.length), j < k → ss[j] = tt[j]) ∧ Hid (Below w.heap.size w wr)) (fun i _ => ss.length - (intOf i).toNat)
    case atStart => exact ⟨0, Nat.zero_le _, rfl, hide (fun j _ _ h => by omega), hide (Below.refl _ _)⟩
    case round =>
      obtain ⟨k, hk, rfl, HA, HB⟩ := hrel
      by_cases hlt : k < ss.length
      · have hlt' : k < tt.length := by rw [← unhide HLE]; exact hlt
        obtain ⟨b, off, rfl, hc⟩ := (unhide HC).below (unhide HB) k hlt
        obtain ⟨b', off', rfl, hc'⟩ := (unhide HD).below (unhide HB) k hlt'
        by_cases he : ss[k] = tt[k]
        · have HN := hide (eq_succ hlt hlt' (unhide HA) he)
          have be : (ss[k] != tt[k]) = false := by simp [he]
          clear he
          go_wp2
          go_quiet (fail)
          go_wp2
          go_roundw
          case rel => exact ⟨k + 1, by omega, by go_num, HN, hide ((unhide HB).trans (Joins.below_draws _ _ _))⟩
          case measure => simp [intOf]; omega
        · have H := hide (eqNB_false hlt hlt' he)
          have be : (ss[k] != tt[k]) = true := by simp [he]
          clear he
          go_wp2
          go_quiet (fail)
          go_wp2
          go_ret
          exact ⟨ret_bool (unhide H).symm, (unhide HB).trans (Joins.below_draws _ _ _)⟩
      · have H := hide (eqNB_true (unhide HLE) (fun j h h' => unhide HA j h h' (by omega)))
        go_wp2
        go_ret
        exact ⟨ret_bool (unhide H).symm, unhide HB⟩
  · have hb : ((ss.length : Int) != (tt.length : Int)) = true := by simp; omega
    have H := hide (eqNB_false_len hle)
    clear hle
    go_enter Try.func12, Try.ntmps12
    go_wp2
    go_ret
    exact ⟨ret_bool (unhide H).symm, Below.refl _ _⟩

end Go.Proofs.Ytdigphemaccodaa
