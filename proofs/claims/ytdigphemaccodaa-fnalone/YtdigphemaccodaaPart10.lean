import Derived.Test.YtdigphemaccodaaRows
import Derived.Test.YtdigphemaccodaaPart1
import Derived.Test.YtdigphemaccodaaPart5
import Derived.Test.YtdigphemaccodaaPart8
import Derived.Test.YtdigphemaccodaaPart9
import Derived.WalkKit
import Derived.WalkSpells
import Derived.KernelRfl
import Derived.Deep.MidRow
import Derived.Deep.CutRange
import Derived.WalkMore
import Derived.Test.YtdigphemaccodaaPart2
import Derived.Test.YtdigphemaccodaaPart3
import Derived.Test.YtdigphemaccodaaPaxQ
import Derived.BigQuiet
import Derived.Deep.QuietTactic
import Derived.Deep.RegionWith

/- The program's RunPaxos. -/
namespace Go.Proofs.Ytdigphemaccodaa
open Go.RowKit
set_option linter.unusedVariables false
set_option maxRecDepth 100000

/-- What a run leaves. -/
def Ran (w W : World) (vs sc : List Int) (e : Ending) : Prop := ∃ ao ca bo cb, e = .returned (.tuple #[.slice ao (rnO vs sc).length ca, .slice bo (rnB vs sc).length cb, .int .i64 (rfC vs sc)]) ∧ OwnR W w.heap.size 3 1 (.slice ao (rnO vs sc).length ca) (rnO vs sc).length (intV (rnO vs sc)) ∧ OwnR W w.heap.size 42 4 (.slice bo (rnB vs sc).length cb) (rnB vs sc).length (bksV (rnB vs sc)) ∧ Below w.heap.size w W
theorem ran_none {w W : World} {vs sc : List Int} {c : Int} (ao bo : Option Addr) (h : rfC vs sc = c) (hc : c ≠ 0) (hb : Below w.heap.size w W) : Ran w W vs sc (.returned (.tuple #[.slice ao 0 0, .slice bo 0 0, .int .i64 c])) := by
  obtain ⟨h1, h2, h3⟩ := rn_no h hc
  unfold Ran
  rw [h1, h2, h3]
  exact ⟨ao, 0, bo, 0, rfl, .inl ⟨rfl, rfl, ao, rfl⟩, .inl ⟨rfl, rfl, bo, rfl⟩, hb⟩
theorem ran_done {w W : World} {vs sc : List Int} {ao bo : Option Addr} {ca cb : Nat} (h : rfC vs sc = 0) (ho : OwnR W w.heap.size 3 1 (.slice ao 4 ca) 4 (intV (told (rnS vs sc).1))) (hb : OwnR W w.heap.size 42 4 (.slice bo 4 cb) 4 (bksV (rnS vs sc).2)) (hk : Below w.heap.size w W) :
    Ran w W vs sc (.returned (.tuple #[.slice ao 4 ca, .slice bo 4 cb, .int .i64 0])) := by
  obtain ⟨h1, h2⟩ := rn_yes h
  obtain ⟨l1, l2⟩ := rn_len h
  unfold Ran
  rw [h1, h2, h, told_len, l1, l2]
  exact ⟨ao, ca, bo, cb, rfl, ho, hb, hk⟩

/-- The hosts' array and the blocks. -/
structure RnI (w W : World) (Y : Nat) (qs : List Pxs) (qo : Option Addr) (qa : Nat) (bs : List Bk) : Prop where
  t : VarA W Y 55 qs
  o : OwnR W w.heap.size 42 4 (.slice qo 4 qa) 4 (bksV bs)
  k : Below w.heap.size w W
  y : w.heap.size ≤ Y
theorem RnI.below {w W W' : World} {Y : Nat} {qs : List Pxs} {qo : Option Addr} {qa : Nat} {bs : List Bk} (h : RnI w W Y qs qo qa bs) (hb : Below W.heap.size W W') : RnI w W' Y qs qo qa bs := ⟨h.t.below hb, h.o.below hb, fr h.k hb, h.y⟩
theorem RnI.bks {w W : World} {Y : Nat} {qs : List Pxs} {qo : Option Addr} {qa : Nat} {bs : List Bk} (h : RnI w W Y qs qo qa bs) (h4 : bs.length = 4) : Bks W qo bs :=
  ownBks (B := w.heap.size) (e := 42) (cap := qa) (by rw [h4]; exact h.o)
theorem RnI.put {w W : World} {Y : Nat} {qs : List Pxs} {qo : Option Addr} {qa : Nat} {bs : List Bk} (h : RnI w W Y qs qo qa bs) {i : Nat} (hi : i < qs.length) (y : Pxs) : RnI w ((((((((W.setCell ⟨Y, i * 8, none⟩ (.int .i64 y.host)).setCell ⟨Y, i * 8 + 1, none⟩ (.int .i64 y.ver)).setCell ⟨Y, i * 8 + 2, none⟩ (.int .i64 y.phase)).setCell ⟨Y, i * 8 + 3, none⟩ (.int .i64 y.ballot)).setCell ⟨Y, i * 8 + 4, none⟩ (.int .i64 y.value)).setCell ⟨Y, i * 8 + 5, none⟩ (.int .i64 y.next)).setCell ⟨Y, i * 8 + 6, none⟩ (.int .i64 y.best)).setCell ⟨Y, i * 8 + 7, none⟩ (.int .i64 y.bestBal)) Y (qs.set i y) qo qa bs :=
  ⟨h.t.put hi y, h.o.keep (keepA (Keep.refl (fun j => j = Y) W) rfl i y) (fun g hg hj => by have : g = Y := hj; subst this; exact h.o.other h.t (by decide) hg), belowA h.k h.y i y, h.y⟩
theorem RnI.var {w W : World} {Y P : Nat} {qs : List Pxs} {qo : Option Addr} {qa : Nat} {bs : List Bk} {p : Pxs} (h : RnI w W Y qs qo qa bs) (hp : VarP W P 33 p) (hw : w.heap.size ≤ P) (y : Pxs) : RnI w ((((((((W.setCell ⟨P, 0, none⟩ (.int .i64 y.host)).setCell ⟨P, 1, none⟩ (.int .i64 y.ver)).setCell ⟨P, 2, none⟩ (.int .i64 y.phase)).setCell ⟨P, 3, none⟩ (.int .i64 y.ballot)).setCell ⟨P, 4, none⟩ (.int .i64 y.value)).setCell ⟨P, 5, none⟩ (.int .i64 y.next)).setCell ⟨P, 6, none⟩ (.int .i64 y.best)).setCell ⟨P, 7, none⟩ (.int .i64 y.bestBal)) Y qs qo qa bs ∧ VarP ((((((((W.setCell ⟨P, 0, none⟩ (.int .i64 y.host)).setCell ⟨P, 1, none⟩ (.int .i64 y.ver)).setCell ⟨P, 2, none⟩ (.int .i64 y.phase)).setCell ⟨P, 3, none⟩ (.int .i64 y.ballot)).setCell ⟨P, 4, none⟩ (.int .i64 y.value)).setCell ⟨P, 5, none⟩ (.int .i64 y.next)).setCell ⟨P, 6, none⟩ (.int .i64 y.best)).setCell ⟨P, 7, none⟩ (.int .i64 y.bestBal)) P 33 y := by
  have hk := keep8 (Keep.refl (fun j => j = P) W) (g := P) rfl (.int .i64 y.host) (.int .i64 y.ver) (.int .i64 y.phase) (.int .i64 y.ballot) (.int .i64 y.value) (.int .i64 y.next) (.int .i64 y.best) (.int .i64 y.bestBal)
  have hne : ¬ Y = P := fun e => by
    subst e
    have h1 := h.t
    unfold VarA at h1
    rw [hp] at h1
    simp at h1
  exact ⟨⟨h.t.keep hk hne, h.o.keep hk (fun g hg hj => by have : g = P := hj; subst this; exact h.o.other hp (by decide) hg), below8 h.k hw _ _ _ _ _ _ _ _, h.y⟩, hp.put y⟩
theorem RnI.swap {w W W' : World} {Y B : Nat} {qs : List Pxs} {qo ro : Option Addr} {qa ra : Nat} {bs cs : List Bk} (h : RnI w W Y qs qo qa bs) (hb : Below W.heap.size W W') (ho : OwnR W' W.heap.size 42 4 (.slice ro 4 ra) 4 (bksV cs)) : RnI w W' Y qs ro ra cs := ⟨h.t.below hb, ho.base h.k.size, fr h.k hb, h.y⟩
theorem hsOf_at {qs : List Pxs} {m : Nat} (h : m < qs.length) : qs[m] = hsOf qs m := by simp [hsOf, h]

set_option maxHeartbeats 1600000 in
theorem pxStep_run (p : Pxs) (ao : Option Addr) (n ca : Nat) (bs : List Bk) (w : World) (hn : bs.length = n) (h4 : n = 4) (hp : pxB p = true) (hb : bksB bs = true) (hc : Bks w ao bs) :
    Calls Try.prog 17 #[pV p, .slice ao n ca] w fun e w' => ∃ qo qa c, e = .returned (.tuple #[pV (pxStepP p bs).1, .slice qo 4 qa, .int .i64 c]) ∧ OwnR w' w.heap.size 42 4 (.slice qo 4 qa) 4 (bksV (pxStepP p bs).2) ∧ Below w.heap.size w w' := by
  subst hn
  refine (pxStep_impl p ao ca bs w (by omega) hc).mono ?_
  rintro e w' ⟨qo, qa, he, ho, hk⟩
  obtain ⟨h1, h2, h3⟩ := st_ok (p := p) (xs := bs) (by omega) hp hb
  have hl := pxStep_len p bs
  rw [h4] at hl
  rw [h1, h2, hl] at he
  rw [h2, hl] at ho
  exact ⟨qo, qa, _, he, ho, hk⟩

theorem infoZ : (Try.prog.info? 42).map (fun i => (i.zero, i.size, i.bytes)) = some (some (.agg #[.int .i64 0, .int .i64 0, .int .i64 0, .int .i64 0]), 4, 32) := by kernel_rfl

theorem made16 : (madeCells #[Value.int .i64 0, Value.int .i64 0, Value.int .i64 0, Value.int .i64 0] 16).toList = bksV [bk0, bk0, bk0, bk0] := by
  first
    | rfl
    | (simp [madeCells, bksV, bk0]; rfl)
theorem four_px {l : List Pxs} (h : l.length = 4) : ∃ a b c d, l = [a, b, c, d] := by
  match l, h with
  | [a, b, c, d], _ => exact ⟨a, b, c, d, rfl⟩

set_option maxHeartbeats 3200000 in
theorem runPaxos_impl (ao bo : Option Addr) (ca cb : Nat) (vs sc : List Int) (w : World) (hl : vs.length ≤ 1048576) (hm : sc.length ≤ 1048576) (h1 : Is w ao vs) (h2 : Is w bo sc) :
    Calls Try.prog 10 #[.slice ao vs.length ca, .slice bo sc.length cb] w fun e w' => Ran w w' vs sc e := by
  have H1 := hide h1
  have H2 := hide h2
  clear h1 h2
  obtain ⟨i0, hi, hz0, hz1, hz2⟩ := info_parts infoZ
  go_enter Try.func10, Try.ntmps10
  go_wp2
  go_step3
  go_wp2_with fail
  refine (runFault_any ao bo ca cb vs sc _ hl hm (unhide H1) (unhide H2)).mono ?_
  rintro e w0 ⟨rfl, hw⟩
  replace hw := hw.symm
  subst hw
  by_cases hf : ¬ rfC vs sc = 0
  · have hb : (rfC vs sc != 0) = true := by simp [hf]
    have HR : Hid (∀ W, Below w.heap.size w W → Ran w W vs sc (.returned (.tuple #[.slice none 0 0, .slice none 0 0, .int .i64 (rfC vs sc)]))) := hide (fun W hW => ran_none none none rfl hf hW)
    clear hf
    revert HR hb
    generalize rfC vs sc = c9
    intro hb HR
    go_wp2
    rw [Exit.noGoto_ret]
    exact bodyPost_ret (v := .tuple #[.slice none 0 0, .slice none 0 0, .int .i64 c9]) (by simp [results, Try.results10, go_sem]) rfl (unhide HR _ (Below.refl _ _))
  rw [Decidable.not_not] at hf
  have hb0 : (rfC vs sc != 0) = false := by simp [hf]
  have HF := hide hf
  clear hf
  revert hb0
  generalize hc9 : rfC vs sc = c9
  intro hb0
  clear hc9
  go_wp2_with (first | (at_make; refine wpList_make_full _ rfl _ _ 26 rfl w.heap.size 42 i0 _ 4 Try.underlying26 hi hz0 hz1 _ _ _ _ 4 rfl rfl rfl rfl ?c1 ?c2 ?c3 ?_))
  case c1 => rw [hz2]; omega
  case c2 => unfold maxLen; omega
  case c3 => exact Nat.le_refl _
  intro w1 hown hgrow
  replace hown : w1.ownsRow w.heap.size 42 4 (.slice (some ⟨w.heap.size, 0, none⟩) 4 4) 4 (bksV (run0 vs).2) := by rw [show bksV (run0 vs).2 = (madeCells #[Value.int .i64 0, Value.int .i64 0, Value.int .i64 0, Value.int .i64 0] 16).toList from made16.symm]; exact hown
  have hB : Below w.heap.size w w1 := (Below.refl _ _).grown hgrow (Nat.le_refl _) (fun _ h => by cases h)
  have E1 : Hid (RnI w (w1.alloc (.cells #[.int .i64 0, .int .i64 0, .int .i64 0, .int .i64 0, .int .i64 0, .int .i64 0, .int .i64 0, .int .i64 0, .int .i64 0, .int .i64 0, .int .i64 0, .int .i64 0, .int .i64 0, .int .i64 0, .int .i64 0, .int .i64 0, .int .i64 0, .int .i64 0, .int .i64 0, .int .i64 0, .int .i64 0, .int .i64 0, .int .i64 0, .int .i64 0, .int .i64 0, .int .i64 0, .int .i64 0, .int .i64 0, .int .i64 0, .int .i64 0, .int .i64 0, .int .i64 0] 55)) w1.heap.size [p00, p00, p00, p00] (some ⟨w.heap.size, 0, none⟩) 4 (run0 vs).2) :=
    hide ⟨heap_alloc_new w1 _, .inr ⟨by omega, own_below hown (Joins.below_alloc1 _ _)⟩, fr hB (Joins.below_alloc1 _ _), hB.size⟩
  clear hown hB hgrow
  go_upto_region 6 with fail
  revert E1
  generalize w1.alloc (.cells #[.int .i64 0, .int .i64 0, .int .i64 0, .int .i64 0, .int .i64 0, .int .i64 0, .int .i64 0, .int .i64 0, .int .i64 0, .int .i64 0, .int .i64 0, .int .i64 0, .int .i64 0, .int .i64 0, .int .i64 0, .int .i64 0, .int .i64 0, .int .i64 0, .int .i64 0, .int .i64 0, .int .i64 0, .int .i64 0, .int .i64 0, .int .i64 0, .int .i64 0, .int .i64 0, .int .i64 0, .int .i64 0, .int .i64 0, .int .i64 0, .int .i64 0, .int .i64 0] 55) = W1
  generalize w1.heap.size = Y
  generalize (some ⟨w.heap.size, 0, none⟩ : Option Addr) = ro
  intro E1
  go_step3
  go_wp2
  go_loopw [8, 11, 12, 22] (fun bl _ _ i wr => ∃ (k : Nat) (qs : List Pxs) (qo : Option Addr) (qa : Nat), k ≤ sc.length ∧ i = .int .i64 k ∧ bl = .slice qo 4 qa ∧ Hid (RnI w wr Y qs qo qa (RS vs sc k).2) ∧ Hid (Alike qs (RS vs sc k).1)) (fun _ _ _ i _ => sc.length - (intOf i).toNat)
  case atStart => exact ⟨0, _, _, _, Nat.zero_le _, rfl, rfl, E1, hide (alike0 vs)⟩
  case round =>
    obtain ⟨k, qs, qo, qa, hk, rfl, rfl, ER, HA⟩ := hrel
    by_cases hlt : k < sc.length
    · obtain ⟨m, hm, hm4⟩ := RS_host (unhide HF) hlt
      have HM := hide hm
      have hmv : m < vs.length := by have := (rf_zero (unhide HF)).1; omega
      have hmq : m < qs.length := by rw [(unhide HA).1]; exact hm4
      obtain ⟨b, off, rfl, hsc⟩ := (unhide H2).below (unhide ER).k k hlt
      rw [hm] at hsc
      obtain ⟨b', off', rfl, hva⟩ := (unhide H1).below (unhide ER).k m hmv
      have HVA : Hid (vs.getD m 0 = vs[m]) := hide (by simp [hmv])
      obtain ⟨c0, c1, c2, c3, c4, c5, c6, c7⟩ := (unhide ER).t.get hmq
      rw [hsOf_at hmq] at c0 c1 c2 c3 c4 c5 c6 c7
      have hmi : (m : Int) < 4 := by omega
      have HR := hide (RS_right (unhide HF) (Nat.le_of_lt hlt))
      clear hm
      have hYl : Y < wr.heap.size := (unhide ER).t.lt
      have hPs := (unhide ER).k.size
      have E2 := hide ((unhide ER).below (Joins.below_alloc1 wr (.cells #[.int .i64 (hsOf qs m).host, .int .i64 (hsOf qs m).ver, .int .i64 (hsOf qs m).phase, .int .i64 (hsOf qs m).ballot, .int .i64 (hsOf qs m).value, .int .i64 (hsOf qs m).next, .int .i64 (hsOf qs m).best, .int .i64 (hsOf qs m).bestBal] 33)))
      have V2 := hide (VarP.new wr 33 (hsOf qs m))
      have HSF := hide (fun h => step_fresh (unhide HF) hlt (unhide HA) hm4 h)
      have HSO := hide (fun h h' => step_on (unhide HF) hlt (unhide HA) hm4 h h')
      have HSD := hide (fun h => step_done (unhide HF) hlt (unhide HM) (unhide HA) hm4 h)
      have HNX := hide (RS_next (vs := vs) hlt (unhide HM))
      go_upto_region 10 with fail
      clear c0 c1 c2 c3 c4 c5 c6 c7 hYl
      revert E2 V2 HSF HSO HSD hPs
      generalize wr.alloc (.cells #[.int .i64 (hsOf qs m).host, .int .i64 (hsOf qs m).ver, .int .i64 (hsOf qs m).phase, .int .i64 (hsOf qs m).ballot, .int .i64 (hsOf qs m).value, .int .i64 (hsOf qs m).next, .int .i64 (hsOf qs m).best, .int .i64 (hsOf qs m).bestBal] 33) = W2
      generalize wr.heap.size = P
      generalize hsOf qs m = q
      intro hPs E2 V2 HSF HSO HSD
      obtain ⟨c0, c1, c2, c3, c4, c5, c6, c7⟩ := (unhide V2).cells
      obtain ⟨f0, f1, f2, f3, f4, f5, f6, f7⟩ := (unhide V2).free
      by_cases h5 : q.phase = 5
      · have b5 : (q.phase == 5) = true := by simp [h5]
        have HEQ := hide (unhide HSD h5)
        clear h5 HNX
        go_wp2
        go_roundw
        case rel => exact ⟨k + 1, qs, qo, qa, by omega, by go_num, rfl, by rw [unhide HEQ]; exact E2, by rw [unhide HEQ]; exact HA⟩
        case measure => simp [intOf]; omega
      have b5 : (q.phase == 5) = false := by simp [h5]
      by_cases h06 : q.phase = 0 ∨ q.phase = 6
      · have HFR := hide (unhide HSF h06)
        have hl4 : Hid ((RS vs sc k).2.length = 4) := hide (unhide HR).g.lb
        rw [(unhide HFR).1] at HNX
        rcases h06 with h0 | h6
        · have b0 : (q.phase == 0) = true := by simp [h0]
          clear h0 h5
          have HPX := hide (unhide HFR).2.1
          have HBS := hide (unhide HR).b
          have HFT := hide (fun W hx => freshTry_any (m : Int) (vs.getD m 0) qo 4 qa (RS vs sc k).2 W (unhide hl4) rfl hx (unhide HBS) (unhide HFR).2.1 (unhide HFR).2.2)
          rw [unhide HVA] at HFT HPX HNX
          revert HPX HNX HFT
          clear HFR
          generalize ps0 (m : Int) 0 (nxBal (m : Int) 0 (RS vs sc k).2) vs[m] = fq
          intro HNX HPX HFT
          obtain ⟨b', off', eo', hva⟩ := (unhide H1).below (unhide E2).k m hmv
          cases eo'
          go_wp2_with fail
          refine (unhide HFT _ ((unhide E2).bks (unhide hl4))).mono ?_
          rintro e W3 ⟨rfl, hb⟩
          have E3 := hide ((unhide E2).below hb)
          have V3 := hide ((unhide V2).below hb)
          clear hb c0 c1 c2 c3 c4 c5 c6 c7 f0 f1 f2 f3 f4 f5 f6 f7 hva
          obtain ⟨f0, f1, f2, f3, f4, f5, f6, f7⟩ := (unhide V3).free
          obtain ⟨c0, c1, c2, c3, c4, c5, c6, c7⟩ := (unhide V3).cells
          have E4 := hide ((unhide E3).var (unhide V3) hPs fq).1
          have V4 := hide ((unhide E3).var (unhide V3) hPs fq).2
          go_upto_region 15 with fail
          clear c0 c1 c2 c3 c4 c5 c6 c7 f0 f1 f2 f3 f4 f5 f6 f7
          revert E4 V4
          generalize (((((((W3.setCell ⟨P, 0, none⟩ (.int .i64 fq.host)).setCell ⟨P, 1, none⟩ (.int .i64 fq.ver)).setCell ⟨P, 2, none⟩ (.int .i64 fq.phase)).setCell ⟨P, 3, none⟩ (.int .i64 fq.ballot)).setCell ⟨P, 4, none⟩ (.int .i64 fq.value)).setCell ⟨P, 5, none⟩ (.int .i64 fq.next)).setCell ⟨P, 6, none⟩ (.int .i64 fq.best)).setCell ⟨P, 7, none⟩ (.int .i64 fq.bestBal) = W4
          intro E4 V4
          obtain ⟨d0, d1, d2, d3, d4, d5, d6, d7⟩ := (unhide V4).cells
          go_wp2_with fail
          refine (pxStep_run fq qo 4 qa (RS vs sc k).2 _ (unhide hl4) rfl (unhide HPX) (unhide HBS) ((unhide E4).bks (unhide hl4))).mono ?_
          rintro e W5 ⟨so, sa, cc, rfl, ho, hb⟩
          have E5 := hide (RnI.swap (B := 0) (unhide E4) hb ho)
          clear ho hb d0 d1 d2 d3 d4 d5 d6 d7
          have HN2 : Hid (RS vs sc (k + 1) = ((RS vs sc k).1.set m (pxStepP (fq) (RS vs sc k).2).1, (pxStepP (fq) (RS vs sc k).2).2)) := HNX
          revert E5 HN2
          generalize (pxStepP (fq) (RS vs sc k).2).1 = P9
          generalize (pxStepP (fq) (RS vs sc k).2).2 = B9
          intro E5 HN2
          obtain ⟨e0, e1, e2, e3, e4, e5, e6, e7⟩ := (unhide E5).t.get hmq
          have fz := fun i => (unhide E5).t.free i
          have E6 := hide ((unhide E5).put hmq P9)
          have HA2 := hide ((unhide HA).set (unhide HR).g.lh hm4 P9)
          go_wp2
          go_roundw
          case rel => exact ⟨k + 1, qs.set m P9, so, sa, by omega, by go_num, rfl, by rw [unhide HN2]; exact E6, by rw [unhide HN2]; exact HA2⟩
          case measure => simp [intOf]; omega
        · have b0 : (q.phase == 0) = false := by simp [h6]
          have b6 : (q.phase == 6) = true := by simp [h6]
          clear h6 h5
          have HPX := hide (unhide HFR).2.1
          have HBS := hide (unhide HR).b
          have HFT := hide (fun W hx => freshTry_any (m : Int) (vs.getD m 0) qo 4 qa (RS vs sc k).2 W (unhide hl4) rfl hx (unhide HBS) (unhide HFR).2.1 (unhide HFR).2.2)
          rw [unhide HVA] at HFT HPX HNX
          revert HPX HNX HFT
          clear HFR
          generalize ps0 (m : Int) 0 (nxBal (m : Int) 0 (RS vs sc k).2) vs[m] = fq
          intro HNX HPX HFT
          obtain ⟨b', off', eo', hva⟩ := (unhide H1).below (unhide E2).k m hmv
          cases eo'
          go_wp2_with fail
          refine (unhide HFT _ ((unhide E2).bks (unhide hl4))).mono ?_
          rintro e W3 ⟨rfl, hb⟩
          have E3 := hide ((unhide E2).below hb)
          have V3 := hide ((unhide V2).below hb)
          clear hb c0 c1 c2 c3 c4 c5 c6 c7 f0 f1 f2 f3 f4 f5 f6 f7 hva
          obtain ⟨f0, f1, f2, f3, f4, f5, f6, f7⟩ := (unhide V3).free
          obtain ⟨c0, c1, c2, c3, c4, c5, c6, c7⟩ := (unhide V3).cells
          have E4 := hide ((unhide E3).var (unhide V3) hPs fq).1
          have V4 := hide ((unhide E3).var (unhide V3) hPs fq).2
          go_upto_region 15 with fail
          clear c0 c1 c2 c3 c4 c5 c6 c7 f0 f1 f2 f3 f4 f5 f6 f7
          revert E4 V4
          generalize (((((((W3.setCell ⟨P, 0, none⟩ (.int .i64 fq.host)).setCell ⟨P, 1, none⟩ (.int .i64 fq.ver)).setCell ⟨P, 2, none⟩ (.int .i64 fq.phase)).setCell ⟨P, 3, none⟩ (.int .i64 fq.ballot)).setCell ⟨P, 4, none⟩ (.int .i64 fq.value)).setCell ⟨P, 5, none⟩ (.int .i64 fq.next)).setCell ⟨P, 6, none⟩ (.int .i64 fq.best)).setCell ⟨P, 7, none⟩ (.int .i64 fq.bestBal) = W4
          intro E4 V4
          obtain ⟨d0, d1, d2, d3, d4, d5, d6, d7⟩ := (unhide V4).cells
          go_wp2_with fail
          refine (pxStep_run fq qo 4 qa (RS vs sc k).2 _ (unhide hl4) rfl (unhide HPX) (unhide HBS) ((unhide E4).bks (unhide hl4))).mono ?_
          rintro e W5 ⟨so, sa, cc, rfl, ho, hb⟩
          have E5 := hide (RnI.swap (B := 0) (unhide E4) hb ho)
          clear ho hb d0 d1 d2 d3 d4 d5 d6 d7
          have HN2 : Hid (RS vs sc (k + 1) = ((RS vs sc k).1.set m (pxStepP (fq) (RS vs sc k).2).1, (pxStepP (fq) (RS vs sc k).2).2)) := HNX
          revert E5 HN2
          generalize (pxStepP (fq) (RS vs sc k).2).1 = P9
          generalize (pxStepP (fq) (RS vs sc k).2).2 = B9
          intro E5 HN2
          obtain ⟨e0, e1, e2, e3, e4, e5, e6, e7⟩ := (unhide E5).t.get hmq
          have fz := fun i => (unhide E5).t.free i
          have E6 := hide ((unhide E5).put hmq P9)
          have HA2 := hide ((unhide HA).set (unhide HR).g.lh hm4 P9)
          go_wp2
          go_roundw
          case rel => exact ⟨k + 1, qs.set m P9, so, sa, by omega, by go_num, rfl, by rw [unhide HN2]; exact E6, by rw [unhide HN2]; exact HA2⟩
          case measure => simp [intOf]; omega
      · have h0 : ¬ q.phase = 0 := fun h => h06 (.inl h)
        have h6 : ¬ q.phase = 6 := fun h => h06 (.inr h)
        have HON := hide (unhide HSO h0 h6)
        have b0 : (q.phase == 0) = false := by simp [h0]
        have b6 : (q.phase == 6) = false := by simp [h6]
        have hl4 : Hid ((RS vs sc k).2.length = 4) := hide (unhide HR).g.lb
        rw [(unhide HON).1] at HNX
        clear h06 h0 h6 h5
        have HBS := hide (unhide HR).b
        have HPX := hide (unhide HON).2
        have E4 := E2
        have V4 := V2
        obtain ⟨d0, d1, d2, d3, d4, d5, d6, d7⟩ := (unhide V4).cells
        go_wp2_with fail
        refine (pxStep_run q qo 4 qa (RS vs sc k).2 _ (unhide hl4) rfl (unhide HPX) (unhide HBS) ((unhide E4).bks (unhide hl4))).mono ?_
        rintro e W5 ⟨so, sa, cc, rfl, ho, hb⟩
        have E5 := hide (RnI.swap (B := 0) (unhide E4) hb ho)
        clear ho hb d0 d1 d2 d3 d4 d5 d6 d7
        have HN2 : Hid (RS vs sc (k + 1) = ((RS vs sc k).1.set m (pxStepP (q) (RS vs sc k).2).1, (pxStepP (q) (RS vs sc k).2).2)) := HNX
        revert E5 HN2
        generalize (pxStepP (q) (RS vs sc k).2).1 = P9
        generalize (pxStepP (q) (RS vs sc k).2).2 = B9
        intro E5 HN2
        obtain ⟨e0, e1, e2, e3, e4, e5, e6, e7⟩ := (unhide E5).t.get hmq
        have fz := fun i => (unhide E5).t.free i
        have E6 := hide ((unhide E5).put hmq P9)
        have HA2 := hide ((unhide HA).set (unhide HR).g.lh hm4 P9)
        go_wp2
        go_roundw
        case rel => exact ⟨k + 1, qs.set m P9, so, sa, by omega, by go_num, rfl, by rw [unhide HN2]; exact E6, by rw [unhide HN2]; exact HA2⟩
        case measure => simp [intOf]; omega
    · have hkn : k = sc.length := by omega
      subst hkn
      obtain ⟨q0, q1, q2, q3, rfl⟩ := four_px (unhide HA).1
      have HTO := hide ((unhide HA).told (unhide HF |> fun h => (rn_len h).1))
      have hrg : wr.rangeAt Y 0 (pxsV [q0, q1, q2, q3]) := fun j v hv => by rw [Nat.zero_add, Joins.cell_of_block (unhide ER).t]; simpa using hv
      have HRG := hide hrg
      have HIF : Hid ((Try.prog.info? 55).map (·.size) = some (pxsV [q0, q1, q2, q3]).length) := hide infoA
      clear hrg
      have HCC : Hid (pxsV [q0, q1, q2, q3] = [.int .i64 q0.host, .int .i64 q0.ver, .int .i64 q0.phase, .int .i64 q0.ballot, .int .i64 q0.value, .int .i64 q0.next, .int .i64 q0.best, .int .i64 q0.bestBal, .int .i64 q1.host, .int .i64 q1.ver, .int .i64 q1.phase, .int .i64 q1.ballot, .int .i64 q1.value, .int .i64 q1.next, .int .i64 q1.best, .int .i64 q1.bestBal, .int .i64 q2.host, .int .i64 q2.ver, .int .i64 q2.phase, .int .i64 q2.ballot, .int .i64 q2.value, .int .i64 q2.next, .int .i64 q2.best, .int .i64 q2.bestBal, .int .i64 q3.host, .int .i64 q3.ver, .int .i64 q3.phase, .int .i64 q3.ballot, .int .i64 q3.value, .int .i64 q3.next, .int .i64 q3.best, .int .i64 q3.bestBal]) := hide rfl
      revert HRG HIF HCC
      generalize pxsV [q0, q1, q2, q3] = cl
      intro HRG HIF HCC
      go_upto_region 17 with fail
      go_wp2_with (refine wpList_load_mid rfl 55 _ rfl Y 0 rfl cl _ (unhide HRG) Try.underlying55 rfl (unhide HIF) ?_)
      refine (decisions_any q0 q1 q2 q3 cl _ (unhide HCC)).mono ?_
      rintro e w9 ⟨ro9, ra9, rfl, ho9, hb9⟩
      have HRN : Hid (Ran w w9 vs sc (.returned (.tuple #[.slice ro9 4 ra9, .slice qo 4 qa, .int .i64 0]))) := hide (ran_done (unhide HF) (by have h9 := ho9.base (unhide ER).k.size; rw [unhide HTO] at h9; exact h9) ((unhide ER).o.below hb9) (fr (unhide ER).k hb9))
      clear ho9 hb9
      go_wp2
      rw [Exit.noGoto_ret]
      exact bodyPost_ret (v := .tuple #[.slice ro9 4 ra9, .slice qo 4 qa, .int .i64 0]) (by simp [results, Try.results10, go_sem]) rfl (unhide HRN)
end Go.Proofs.Ytdigphemaccodaa

/- The walk of laws.FnAlone. -/
namespace Go.Proofs.Ytdigphemaccodaa
open Go.RowKit
set_option linter.unusedVariables false
set_option maxRecDepth 100000

theorem runPaxos_ok (ao bo : Option Addr) (ca cb n m : Nat) (vs sc : List Int) (w : World) (hn : vs.length = n) (hm : sc.length = m) (hf : rfC vs sc = 0) (h1 : Is w ao vs) (h2 : Is w bo sc) :
    Calls Try.prog 10 #[.slice ao n ca, .slice bo m cb] w fun e w' => ∃ oo qa po qb, e = .returned (.tuple #[.slice oo 4 qa, .slice po 4 qb, .int .i64 0]) ∧ OwnR w' w.heap.size 3 1 (.slice oo 4 qa) 4 (intV (told (rnS vs sc).1)) ∧ OwnR w' w.heap.size 42 4 (.slice po 4 qb) 4 (bksV (rnS vs sc).2) ∧ Below w.heap.size w w' := by
  subst hn hm
  obtain ⟨z1, z2, _, _⟩ := rf_zero hf
  refine (runPaxos_impl ao bo ca cb vs sc w (by omega) (by omega) h1 h2).mono ?_
  rintro e w' ⟨oo, qa, po, qb, he, ho, hp, hk⟩
  obtain ⟨y1, y2⟩ := rn_yes hf
  obtain ⟨l1, l2⟩ := rn_len hf
  rw [y1, y2, hf, told_len, l1, l2] at he
  rw [y1, told_len, l1] at ho
  rw [y2, l2] at hp
  exact ⟨oo, qa, po, qb, he, ho, hp, hk⟩
theorem hostsN_all (sc : List Int) : hostsN sc sc.length = sc.map Int.toNat := by unfold hostsN; rw [List.take_length]
theorem rf_right {vs sc : List Int} (h4 : vs.length = 4) (hv : ∀ x ∈ vs, 0 ≤ x ∧ x ≤ 2147483647) (hl : sc.length ≤ 4096) (hs : ∀ x ∈ sc, 0 ≤ x ∧ x ≤ 3) : rfC vs sc = 0 := by
  refine rf_ok (by omega) ?_ ?_
  · rw [decide_eq_true h4, Bool.true_and]
    exact List.all_eq_true.2 (fun x hx => by have := hv x hx; simp [numB, inB]; omega)
  · exact List.all_eq_true.2 (fun x hx => by have := hs x hx; simp [hostB, inB]; omega)
/-- What the two runs tell. -/
theorem alone_told {a b c d : Int} {h o : Nat} (hh : h < 4) (ho : o < 4) (hne : o ≠ h) :
    (told (rnS [a, b, c, d] (List.replicate 9 (h : Int))).1).getD h 0 = [a, b, c, d].getD h 0 ∧ (told (rnS [a, b, c, d] (List.replicate 9 (h : Int))).1).getD o 0 = -1 ∧
    (told (rnS [a, b, c, d] (List.replicate 9 (h : Int) ++ List.replicate 9 (o : Int))).1).getD h 0 = [a, b, c, d].getD h 0 ∧ (told (rnS [a, b, c, d] (List.replicate 9 (h : Int) ++ List.replicate 9 (o : Int))).1).getD o 0 = [a, b, c, d].getD h 0 := by
  have e1 : rnS [a, b, c, d] (List.replicate 9 (h : Int)) = run [a, b, c, d] (List.replicate 9 h) (run0 [a, b, c, d]) := by
    unfold rnS; rw [hostsN_all]; simp
  have e2 : rnS [a, b, c, d] (List.replicate 9 (h : Int) ++ List.replicate 9 (o : Int)) = run [a, b, c, d] (List.replicate 9 o) (run [a, b, c, d] (List.replicate 9 h) (run0 [a, b, c, d])) := by
    unfold rnS; rw [hostsN_all, ← run_app]; simp
  rw [e1, e2]
  exact run_alone a b c d h hh o ho hne
theorem Is.getD {w : World} {ao : Option Addr} {xs : List Int} (hI : Is w ao xs) {i : Nat} (hi : i < xs.length) : ∃ b off, ao = some ⟨b, off, none⟩ ∧ w.cell? ⟨b, off + i, none⟩ = some (.int .i64 (xs.getD i 0)) := by
  obtain ⟨b, off, e, hc⟩ := hI i hi
  exact ⟨b, off, e, by rw [hc]; simp [hi]⟩
/-- One more host in the schedule. -/
theorem rep_snoc (k : Nat) (h : Int) : List.replicate (k + 1) h = List.replicate k h ++ [h] := List.replicate_succ'

/-- Where a row of the call's own lies. -/
theorem OwnR.lies {w : World} {B e size n cap : Nat} {ao : Option Addr} {xs : List Value} (h : OwnR w B e size (.slice ao n cap) n xs) (hn : 0 < n) :
    ∃ g, ao = some ⟨g, 0, none⟩ ∧ B ≤ g ∧ g < w.heap.size ∧ w.ownsRow B e size (.slice (some ⟨g, 0, none⟩) n cap) n xs := by
  rcases h with ⟨h0, _⟩ | ⟨h0, h⟩
  · omega
  · obtain ⟨g, c, cur, e0, hB, hg⟩ := own_form h0 h
    simp only [Value.slice.injEq, true_and] at e0
    obtain ⟨rfl, rfl⟩ := e0
    exact ⟨g, rfl, hB, (Array.getElem?_eq_some_iff.1 hg).1, h⟩
theorem own_cell {w : World} {B e n cap g : Nat} {xs : List Int} (h : OwnR w B e 1 (.slice (some ⟨g, 0, none⟩) n cap) n (intV xs)) (hx : xs.length = n) {i : Nat} (hi : i < n) : w.cell? ⟨g, i, none⟩ = some (.int .i64 (xs.getD i 0)) := by
  subst hx
  obtain ⟨b, off, e0, hc⟩ := Is.getD (ownRN h) hi
  simp only [Option.some.injEq, Addr.mk.injEq] at e0
  obtain ⟨rfl, rfl, _⟩ := e0
  rw [Nat.zero_add] at hc
  exact hc

set_option maxHeartbeats 6400000 in
theorem lawAlone (ao : Option Addr) (ca n : Nat) (bo : Option Addr) (cb l : Nat) (w : World) (hn : n ≤ maxLen) (hB : Bs w ao n) (hl : l ≤ maxLen) (hC : Bs w bo l) :
    Calls Try.prog 4 #[.slice ao n ca, .slice bo l cb] w fun e w' => e = .returned (.bool true) ∧ Below w.heap.size w w' := by
  have HBS := hide hB
  have HCS := hide hC
  clear hB hC
  unfold maxLen at hn hl
  by_cases h : 1048576 < n
  · go_enter Try.func4, Try.ntmps4
    go_wp2
    go_ret
    exact ⟨rfl, Below.refl _ _⟩
  by_cases h2 : 1048576 < l
  · go_enter Try.func4, Try.ntmps4
    go_wp2
    go_ret
    exact ⟨rfl, Below.refl _ _⟩
  have hn' : n ≤ 1048576 := by omega
  have hl' : l ≤ 1048576 := by omega
  obtain ⟨n0, hin, hu0, hu1, hu2⟩ := info_parts infoI
  go_enter Try.func4, Try.ntmps4
  go_wp2_with fail
  refine (at_any ao n ca 0 4 _ hn' (by omega) (by omega) (by omega) (by omega) (unhide HBS)).mono ?_
  rintro e w1 ⟨r1, rfl, hr10, hr11, hb⟩
  have HB1 := hide hb
  clear hb
  obtain ⟨hN, rfl⟩ := Int.eq_ofNat_of_zero_le hr10
  go_wp2_with fail
  refine (at_any ao n ca 1 3 _ hn' (by omega) (by omega) (by omega) (by omega) ((unhide HBS).below (unhide HB1))).mono ?_
  rintro e w2 ⟨r2, rfl, hr20, hr21, hb⟩
  have HB2 := hide (fr (unhide HB1) hb)
  clear hb HB1
  obtain ⟨oN, hoN⟩ : ∃ oN : Nat, ((hN : Int) + 1 + r2).tmod 4 = oN := ⟨(((hN : Int) + 1 + r2).tmod 4).toNat, by rw [Int.tmod_eq_emod_of_nonneg (by omega)]; omega⟩
  have ho4 : oN < 4 := by rw [Int.tmod_eq_emod_of_nonneg (by omega)] at hoN; omega
  have hh4 : hN < 4 := by omega
  have hne : oN ≠ hN := by rw [Int.tmod_eq_emod_of_nonneg (by omega)] at hoN; omega
  have wr1 : IntKind.i64.wrap ((hN : Int) + 1) = (hN : Int) + 1 := by rw [IntKind.wrap_i64]; omega
  have wr2 : IntKind.i64.wrap ((hN : Int) + 1 + r2) = (hN : Int) + 1 + r2 := by rw [IntKind.wrap_i64]; omega
  have HHO : Hid (hN < 4 ∧ oN < 4 ∧ oN ≠ hN) := hide ⟨hh4, ho4, hne⟩
  go_wp2_with fail
  refine (at_any bo l cb 0 900 _ hl' (by omega) (by omega) (by omega) (by omega) ((unhide HCS).below (unhide HB2))).mono ?_
  rintro e w3 ⟨a, rfl, ha0, ha1, hb⟩
  have HB3 := hide (fr (unhide HB2) hb)
  clear hb HB2 wr1 wr2 hoN
  go_wp2_with fail
  refine (at_any bo l cb 1 900 _ hl' (by omega) (by omega) (by omega) (by omega) ((unhide HCS).below (unhide HB3))).mono ?_
  rintro e w4 ⟨b, rfl, hb0, hb1, hb⟩
  have HB4 := hide (fr (unhide HB3) hb)
  clear hb HB3
  go_wp2_with fail
  refine (at_any bo l cb 2 900 _ hl' (by omega) (by omega) (by omega) (by omega) ((unhide HCS).below (unhide HB4))).mono ?_
  rintro e w5 ⟨c, rfl, hc0, hc1, hb⟩
  have HB5 := hide (fr (unhide HB4) hb)
  clear hb HB4
  go_wp2_with fail
  refine (at_any bo l cb 3 900 _ hl' (by omega) (by omega) (by omega) (by omega) ((unhide HCS).below (unhide HB5))).mono ?_
  rintro e w6 ⟨d, rfl, hd0, hd1, hb⟩
  have HB6 := hide (fr (fr (unhide HB5) hb) (Joins.below_alloc1 w6 (.cells #[.int .i64 a, .int .i64 b, .int .i64 c, .int .i64 d] 3)))
  have HI6 := hide (is4 w6 w6.heap.size 3 a b c d rfl)
  have HVB : Hid (∀ x ∈ [a, b, c, d], 0 ≤ x ∧ x ≤ 2147483647) := hide (by simp; omega)
  clear hb HB5 ha0 ha1 hb0 hb1 hc0 hc1 hd0 hd1
  go_upto_region 6 with fail
  revert HB6 HI6
  generalize w6.alloc (.cells #[.int .i64 a, .int .i64 b, .int .i64 c, .int .i64 d] 3) = W6
  generalize w6.heap.size = V
  intro HB6 HI6
  have HA0 := hide (Joins.below_alloc1 W6 (.cells #[] 3))
  go_upto_region 7 with fail
  revert HA0
  generalize W6.alloc (.cells #[] 3) = W7
  intro HA0
  go_wp2
  go_loopw [8, 9] (fun s i wr => ∃ (k : Nat) (qo : Option Addr) (qa : Nat), k ≤ 9 ∧ i = .int .i64 k ∧ s = .slice qo k qa ∧ Hid (OwnR wr W6.heap.size 3 1 (.slice qo k qa) k (intV (List.replicate k (hN : Int)))) ∧ Hid (Below W6.heap.size W6 wr)) (fun _ i _ => 9 - (intOf i).toNat)
  case atStart => exact ⟨0, _, _, by omega, rfl, rfl, hide (.inl ⟨rfl, rfl, _, rfl⟩), HA0⟩
  case round =>
    obtain ⟨k, qo, qa, hk, rfl, rfl, HO, HB⟩ := hrel
    by_cases hlt : k < 9
    · have HOA := hide ((unhide HO).below (Joins.below_alloc1 wr (.cells #[.int .i64 (hN : Int)] 3)))
      have HBA := hide (fr (unhide HB) (Joins.below_alloc1 wr (.cells #[.int .i64 (hN : Int)] 3)))
      have HSZ := hide (unhide HBA).size
      go_wp2_with (at_builtin; refine wpList_append_one rfl _ _ 24 rfl W6.heap.size 3 n0 (.int .i64 0) 1 8 Try.underlying24 hin hu0 hu1 hu2 rfl (by omega) qo k qa _ rfl (unhide HOA) (unhide HSZ) ⟨wr.heap.size, 0, none⟩ _ [.int .i64 (hN : Int)] rfl rfl (byte_news wr _ _) (int_one _) (by unfold maxLen; omega) (by omega) ?_; intro g2 cap2 wA hoA hkA; have HSF : Hid (OwnR wA W6.heap.size 3 1 (.slice (some ⟨g2, 0, none⟩) (k + 1) cap2) (k + 1) (intV (List.replicate (k + 1) (hN : Int)))) := hide (by rw [rep_snoc, intV_snoc]; exact .inr ⟨by omega, hoA⟩); have HSG := hide ((unhide HBA).trans (hkA.below (unhide HBA).size (fun j hj => ((unhide HOA).ge j hj).1))); clear hoA hkA)
      go_roundw
      case rel => exact ⟨k + 1, _, _, by omega, by go_num, rfl, HSF, HSG⟩
      case measure => simp [intOf]; omega
    · have hk9 : k = 9 := by omega
      subst hk9
      have HRF1 : Hid (rfC [a, b, c, d] (List.replicate 9 (hN : Int)) = 0) := hide (rf_right rfl (unhide HVB) (by simp) (fun x hx => by rw [List.eq_of_mem_replicate hx]; have := (unhide HHO).1; omega))
      have HRF2 : Hid (rfC [a, b, c, d] (List.replicate 9 (hN : Int) ++ List.replicate 9 (oN : Int)) = 0) := hide (rf_right rfl (unhide HVB) (by simp) (fun x hx => by
        have h1 := (unhide HHO).1
        have h2 := (unhide HHO).2.1
        rcases List.mem_append.1 hx with e | e <;> (rw [List.eq_of_mem_replicate e]; omega)))
      have HTO := hide (alone_told (a := a) (b := b) (c := c) (d := d) (unhide HHO).1 (unhide HHO).2.1 (unhide HHO).2.2)
      obtain ⟨g0, rfl, hg0B, hg0, _⟩ := (unhide HO).lies (by omega)
      have HIS : Hid (Is wr (some ⟨g0, 0, none⟩) (List.replicate 9 (hN : Int))) := hide (by have h9 := ownRN (xs := List.replicate 9 (hN : Int)) (B := W6.heap.size) (e := 3) (cap := qa) (ao := some ⟨g0, 0, none⟩) (w := wr) (by simpa using unhide HO); exact h9)
      go_wp2_with fail
      refine (runPaxos_ok (some ⟨V, 0, none⟩) (some ⟨g0, 0, none⟩) 4 qa 4 9 [a, b, c, d] (List.replicate 9 (hN : Int)) _ rfl (by simp) (unhide HRF1) ((unhide HI6).below (unhide HB)) (unhide HIS)).mono ?_
      rintro e w8 ⟨o1, q1, p1, qb1, rfl, ho1, hp1, hb⟩
      obtain ⟨g1, rfl, hg1B, hg1, _⟩ := ho1.lies (by omega)
      have HO1 : Hid (OwnR w8 wr.heap.size 3 1 (.slice (some ⟨g1, 0, none⟩) 4 q1) 4 (intV (told (rnS [a, b, c, d] (List.replicate 9 (hN : Int))).1))) := hide ho1
      have HR8 := hide (((unhide HO).below hb).lies (by omega))
      have HB8 := hide (fr (unhide HB) hb)
      have HG01 : Hid (g0 ≠ g1) := hide (by omega)
      clear ho1 hp1 hb hg0B hg0 hg1B hg1 HIS HRF1
      revert HO1
      generalize told (rnS [a, b, c, d] (List.replicate 9 (hN : Int))).1 = T1 at HTO
      generalize wr.heap.size = B1
      intro HO1
      go_wp2
      go_loopw [8, 13] (fun s i wx => ∃ (k g qx : Nat), k ≤ 9 ∧ i = .int .i64 k ∧ s = .slice (some ⟨g, 0, none⟩) (9 + k) qx ∧ Hid (g ≠ g1) ∧ Hid (wx.ownsRow W6.heap.size 3 1 (.slice (some ⟨g, 0, none⟩) (9 + k) qx) (9 + k) (intV (List.replicate 9 (hN : Int) ++ List.replicate k (oN : Int)))) ∧ Hid (OwnR wx B1 3 1 (.slice (some ⟨g1, 0, none⟩) 4 q1) 4 (intV T1)) ∧ Hid (Below W6.heap.size W6 wx)) (fun _ i _ => 9 - (intOf i).toNat)
      case atStart =>
        refine ⟨0, g0, qa, by omega, rfl, rfl, HG01, hide ?_, HO1, HB8⟩
        obtain ⟨gx, hx, _, _, hr⟩ := unhide HR8
        simp only [Option.some.injEq, Addr.mk.injEq, and_true] at hx
        subst hx
        simpa using hr
      case round =>
        obtain ⟨k, g, qx, hk, rfl, rfl, HNE, HR, HO2, HB2⟩ := hrel
        clear HO HB HB8 HR8 HG01 HO1
        by_cases hlt : k < 9
        · have HBA := hide (fr (unhide HB2) (Joins.below_alloc1 wr (.cells #[.int .i64 (oN : Int)] 3)))
          have HOA := hide ((unhide HO2).below (Joins.below_alloc1 wr (.cells #[.int .i64 (oN : Int)] 3)))
          have HRA := hide (((OwnR.of (unhide HR) (by omega)).below (Joins.below_alloc1 wr (.cells #[.int .i64 (oN : Int)] 3))).lies (by omega))
          obtain ⟨gx, hx, hgB, hgs, hr⟩ := unhide HRA
          simp only [Option.some.injEq, Addr.mk.injEq, and_true] at hx
          subst hx
          have HRB := hide hr
          have HGB := hide hgB
          have HGS := hide hgs
          clear hr hgB hgs HRA HR
          have HSZ := hide (unhide HBA).size
          have hb1 : 9 + k + 1 ≤ maxLen := by unfold maxLen; omega
          have hb2 : (9 + k + 1) * 8 ≤ 140737488355328 := by omega
          go_wp2_with (at_builtin; refine wpList_append_far rfl _ _ 24 rfl W6.heap.size 3 n0 (.int .i64 0) 1 8 Try.underlying24 hin hu0 hu1 hu2 rfl (by omega) g (9 + k) qx _ rfl (unhide HRB) (unhide HSZ) ⟨wr.heap.size, 0, none⟩ _ [.int .i64 (oN : Int)] rfl rfl (byte_news wr _ _) (int_one _) hb1 hb2 ?_; intro g2 cap2 wA hoA hgA hkA; have HSF : Hid (wA.ownsRow W6.heap.size 3 1 (.slice (some ⟨g2, 0, none⟩) (9 + (k + 1)) cap2) (9 + (k + 1)) (intV (List.replicate 9 (hN : Int) ++ List.replicate (k + 1) (oN : Int)))) := hide (by rw [rep_snoc k, ← List.append_assoc, intV_snoc]; exact hoA); have HSN : Hid (g2 ≠ g1) := hide (by have h1 := unhide HNE; have h2 := ((unhide HOA).ge g1 (own_of (by omega) rfl)).2; omega); have HSO := hide ((unhide HOA).keep hkA (fun q hq => by have := own_elim hq; have h1 := unhide HNE; omega)); have HSG := hide ((unhide HBA).trans (hkA.below (unhide HBA).size (fun j hj => by rw [hj]; exact unhide HGB))); clear hoA hgA hkA)
          go_roundw
          case rel => ((repeat apply Exists.intro); exact ⟨by omega, by go_num, rfl, HSN, HSF, HSO, HSG⟩)
          case measure => simp [intOf]; omega
        · have hk9 : k = 9 := by omega
          subst hk9
          have HIS2 : Hid (Is wr (some ⟨g, 0, none⟩) (List.replicate 9 (hN : Int) ++ List.replicate 9 (oN : Int))) := hide (by have h9 := ownRN (xs := List.replicate 9 (hN : Int) ++ List.replicate 9 (oN : Int)) (B := W6.heap.size) (e := 3) (cap := qx) (ao := some ⟨g, 0, none⟩) (w := wr) (by simpa using OwnR.of (unhide HR) (by omega)); exact h9)
          go_wp2_with fail
          refine (runPaxos_ok (some ⟨V, 0, none⟩) (some ⟨g, 0, none⟩) 4 qx 4 (9 + 9) [a, b, c, d] (List.replicate 9 (hN : Int) ++ List.replicate 9 (oN : Int)) _ rfl (by simp) (unhide HRF2) ((unhide HI6).below (unhide HB2)) (unhide HIS2)).mono ?_
          rintro e w9 ⟨o2, q2, p2, qb2, rfl, ho2, hp2, hb⟩
          obtain ⟨g3, rfl, _, _, _⟩ := ho2.lies (by omega)
          have HB9 := hide (fr (unhide HB2) hb)
          have HO9 := hide ((unhide HO2).below hb)
          have e1 := own_cell (unhide HO9) (by have := (unhide HO9).len; simpa [intV] using this) (unhide HHO).1
          have e2 := own_cell (unhide HO9) (by have := (unhide HO9).len; simpa [intV] using this) (unhide HHO).2.1
          have e3 := own_cell ho2 (by have := ho2.len; simpa [intV] using this) (unhide HHO).1
          have e4 := own_cell ho2 (by have := ho2.len; simpa [intV] using this) (unhide HHO).2.1
          have e5 : w9.cell? ⟨V, hN, none⟩ = some (.int .i64 ([a, b, c, d].getD hN 0)) := by
            obtain ⟨b0, off, e0, hc⟩ := Is.getD (((unhide HI6).below (unhide HB9))) (i := hN) (unhide HHO).1
            simp only [Option.some.injEq, Addr.mk.injEq] at e0
            obtain ⟨rfl, rfl, _⟩ := e0
            rw [Nat.zero_add] at hc
            exact hc
          rw [(unhide HTO).1] at e1
          rw [(unhide HTO).2.1] at e2
          rw [(unhide HTO).2.2.1] at e3
          rw [(unhide HTO).2.2.2] at e4
          have HBZ := hide (fr (unhide HB6) (unhide HB9))
          clear ho2 hp2 hb HTO HO9 HO2 HR HIS2 HRF2
          revert e1 e2 e3 e4 e5
          generalize [a, b, c, d].getD hN 0 = vv
          intro e1 e2 e3 e4 e5
          have hi1 : (hN : Int) < 4 := by have := (unhide HHO).1; omega
          have hi2 : (oN : Int) < 4 := by have := (unhide HHO).2.1; omega
          have b1 : (vv == vv) = true := by simp
          go_wp2_with fail
          go_quiet (fail)
          go_wp2
          go_ret
          exact ⟨rfl, (unhide HBZ).trans (Joins.below_draws _ _ _)⟩
end Go.Proofs.Ytdigphemaccodaa
