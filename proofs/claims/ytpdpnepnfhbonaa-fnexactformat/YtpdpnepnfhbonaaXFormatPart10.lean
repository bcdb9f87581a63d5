import Derived.Test.YtpdpnepnfhbonaaRows
import Derived.Test.YtpdpnepnfhbonaaXFormatPart1
import Derived.Test.YtpdpnepnfhbonaaXFormatPart3
import Derived.Test.YtpdpnepnfhbonaaXFormatPart5
import Derived.Test.YtpdpnepnfhbonaaXFormatPart4
import Derived.Test.YtpdpnepnfhbonaaXFormatPart8
import Derived.Test.YtpdpnepnfhbonaaXFormatPart9
import Derived.Test.YtpdpnepnfhbonaaXFormatPart6
import Derived.Test.YtpdpnepnfhbonaaXFormatPart7
import Derived.WalkKit
import Derived.WalkSpells
import Derived.KernelRfl
import Derived.LoopN
import Derived.Deep.CutRange
import Derived.Deep.MidRow
import Derived.Test.YtpdpnepnfhbonaaXFormatPart2

namespace Go.Proofs.Ytpdpnepnfhbonaa
open Go.RowKit Go.Maps
set_option linter.unusedVariables false
set_option maxRecDepth 100000

theorem belowMap {W w w' : World} {B : Nat} (hb : Below W.heap.size W w) (hB : W.heap.size ≤ B) (hg : w.grownBy w' (some B)) : Below W.heap.size W w' :=
  ⟨hg.os.trans hb.os, hg.tape.trans hb.tape, hg.output.trans hb.output, Nat.le_trans hb.size hg.size, fun k hk => (hg.block k (Nat.lt_of_lt_of_le hk hb.size) (fun e => by have := Option.some.inj e; omega)).trans (hb.block k hk)⟩
def rc2 (m : Img) : Nat → Option Rc := setF (setF (fun _ => none) 9 (1, supL m)) 10 (2, ctNs m.refs)
theorem rc2_swap (m : Img) : setF (setF (fun _ => none) 10 (2, ctNs m.refs)) 9 (1, supL m) = rc2 m := by
  funext p
  simp only [rc2, setF]
  by_cases h1 : p = 9
  · subst h1; simp
  · by_cases h2 : p = 10
    · subst h2; simp
    · simp [h1, h2]
theorem mp_swap {w : World} {B n : Nat} {D : DataW Value} {m : Img} (h : MpR w B n D (setF (setF (fun _ => none) 10 (2, ctNs m.refs)) 9 (1, supL m))) : MpR w B n D (rc2 m) := rc2_swap m ▸ h
theorem exec_load {P : Program} {ρ : Operand → Value} {o : Oper} {ty : TypeId} {x : Operand} {p v : Value} {W : World} (ho : o.op = .load ty x) (hx : ρ x = p) (h : (Instr.loadAt ty p).run P W = .ok v W) : (execOp ρ o).run P W = .ok (.value v) W := by
  simp [execOp, ho, hx, h, Result.andThen]
theorem wpList_rec {w : World} {ops : Array Oper} {rest : List Oper} {o : Oper} {a : Act} {Q : Exit → Act → World → Prop} (hg : o.guard = none) (m x v : Operand) (hop : o.op = Op.mapUpdate 77 m x v)
    {B n p : Nat} {D : DataW Value} {f : Nat → Option Rc} {y : Int} (r : Rc) (ao : Option Addr) (cap : Nat) (hm : a.eval m = .map (some B)) (h : MpR w B n D f) (hn : n < 1000000) (hx : a.eval x = .int .i64 y) (hy : y = (p : Int)) (hp : p < 64) (hv : a.eval v = rcV r ao cap) (hi : Is w ao r.2)
    (hK : ∀ w' D', MpR w' B (n + 1) D' (setF f p r) → w.grownBy w' (some B) → wpList Try.prog ops Q rest (a.put o.dst undef) w') : wpList Try.prog ops Q (o :: rest) a w := by
  refine wpList_plain hg fun K' hK' => ?_
  subst hy
  obtain ⟨w', D', hrun, r1, r2⟩ := h.update hn hp r ao cap hi
  unfold Oper.wp
  simp [execOp, hop, hm, hx, hv, hrun, Result.andThen]
  exact hK' _ _ (hK w' D' r1 r2)
theorem rowT_turned {w w' : World} {B n : Nat} {D : DataW Value} (h : w.ownsMap Try.prog 3 recR B n D) (hg : w.grownBy w' (some B)) {qo : Option Addr} {ts : List (List Int)} (ht : RowT w qo ts) : RowT w' qo ts := fun j hj => by
  obtain ⟨b, off, tq, tc, e, h1, h2⟩ := ht j hj
  exact ⟨b, off, tq, tc, e, cell_turned hg h1 (own_noCell h h1), is_turned h hg h2⟩
set_option maxHeartbeats 6400000 in
theorem recordsOf_any (a : Im4) (m : Img) (w : World) (hR : ImR m) (hc : ImS w a m) :
    Calls Try.prog 56 #[imV a m] w fun e w' => ∃ B n D, e = .returned (.map (some B)) ∧ n ≤ 1000 ∧ w.heap.size ≤ B ∧ MpR w' B n D (rcAt m) ∧ Below w.heap.size w w' := by
  have HA := hide (Joins.below_alloc1 w (.cells #[.slice a.ro m.refs.length a.rc, .slice a.tq m.table.length a.tc, .slice a.so m.snaps.length a.sc, .slice a.dq m.data.length a.dc] 26))
  have HV := hide (VarM.new w 26 (.slice a.ro m.refs.length a.rc) (.slice a.tq m.table.length a.tc) (.slice a.so m.snaps.length a.sc) (.slice a.dq m.data.length a.dc))
  have HC := hide (hc.below (unhide HA))
  have HR := hide hR
  have hs3 := hR.few
  have HRL := hide hR.rl
  have HDL := hide hR.len
  obtain ⟨b0, off0, ero, hr0⟩ := (unhide HC).r.range (by rw [hR.rl]; omega)
  have HR0 := hide hr0
  have HRO := hide ero
  have har : ∀ W : World, (Instr.arrayAt 125 (.slice a.ro m.refs.length a.rc)).run Try.prog W = .ok (.pointer (some ⟨b0, off0, none⟩)) W := fun W => by rw [ero]; exact run_arrayAt (w := W) 125 3 24 _ _ _ und24 (by rw [hR.rl]; exact Nat.le_refl _)
  have HAR := hide har
  clear hc hR hr0 har ero
  have hmm := @run_makeMap Try.prog
  go_enter Try.func56, Try.ntmps56
  go_upto_region 1 with fail
  revert HA HV HC HR0
  generalize (w.alloc _) = W0
  intro HA HV HC HR0
  have HBD : Hid (Below W0.heap.size W0 W0.drew) := hide (Below.refl _ _).drew
  go_cut [3] from 8 to 20 (fun v wx => ∃ (B : Nat) (D : DataW Value), v = .map (some B) ∧ Hid (MpR wx B 2 D (rc2 m)) ∧ Hid (W0.heap.size ≤ B) ∧ Hid (Below W0.heap.size W0 wx))
  case first =>
    have hS0 := unhide HBD
    have hld : ∀ W : World, Below W0.heap.size W0 W → (Instr.loadAt 125 (.pointer (some ⟨b0, off0, none⟩))).run Try.prog W = .ok (ctV m.refs) W := fun W hW => by
      have hr : W.rangeAt b0 off0 (intV m.refs) := fun j v hv => (hW.cell (p := ⟨b0, off0 + j, none⟩) (World.block_lt_of_cell? _ _ (unhide HR0 j v hv))).trans (unhide HR0 j v hv)
      exact run_loadAt_mid W b0 off0 125 (intV m.refs) _ hr und24 rfl (sizeL (unhide HRL))
    have har := unhide HAR
    refine wp_region_tree (fun w' => Below W0.heap.size W0 w') [0, 1, 2, 3, 4, 5, 6, 7, 8, 9, 10, 11, 12, 13, 14] (by kernel_rfl) ?_
    refine tree_seg (n := 9) [(1, 0), (2, 0), (6, 0), (7, 0), (8, 0), (9, 0)] (by kernel_rfl) rfl (by kernel_rfl) ?_
    refine ord_read (.pointer (some ⟨w.heap.size, 2, none⟩)) rfl rfl hS0 (fun W hW => by go_simp) ?_
    refine ord_read (.slice a.so m.snaps.length a.sc) rfl rfl hS0 (fun W hW => by obtain ⟨k0, k1, k2, k3⟩ := ((unhide HV).below hW).cells; go_simp) ?_
    refine ord_read (.pointer (some ⟨w.heap.size, 0, none⟩)) rfl rfl hS0 (fun W hW => by go_simp) ?_
    refine ord_read (.slice a.ro m.refs.length a.rc) rfl rfl hS0 (fun W hW => by obtain ⟨k0, k1, k2, k3⟩ := ((unhide HV).below hW).cells; go_simp) ?_
    refine ord_read (.pointer (some ⟨b0, off0, none⟩)) rfl rfl hS0 (fun W hW => by have := har W; go_simp) ?_
    refine ord_read (ctV m.refs) rfl rfl hS0 (fun W hW => exec_load rfl rfl (hld W hW)) ?_
    refine ord_end ?_
    clear hS0 hld har
    revert HBD
    generalize W0.drew = WD
    intro HBD
    refine tree_two (fuel := 8) (i := 0) (j := 3) rfl rfl rfl rfl (by kernel_rfl) ?ta1 ?tb2
    case ta1 =>
      intro K hK
      unfold Oper.wp
      go_simp
      have HB3 := hide (fr (unhide HBD) (Joins.below_alloc1 (WD) (.map #[] 0)))
      have HM3 := hide (MpR.made (WD))
      have HG3 := hide (unhide HBD).size
      refine hK _ _ (fun _ => unhide HB3) ?_
      clear hK K
      revert HB3
      revert HM3
      revert HG3
      generalize (WD).heap.size = MB
      generalize ((WD).alloc _) = w3
      intro HG3
      intro HM3
      intro HB3
      refine tree_seg (n := 6) [(3, 2), (4, 0)] (by kernel_rfl) rfl (by kernel_rfl) ?_
      refine ord_held rfl rfl ?_
      intro K hK
      unfold Oper.wp
      go_simp
      refine (packNames_any a.so a.sc m _ (unhide HR) ((unhide HC).s.below (unhide HB3))).mono ?_
      rintro e w4 ⟨po, pa, rfl, hi, hb⟩
      have HB4 := hide (fr (unhide HB3) hb)
      have HM4 := hide ((unhide HM3).below hb)
      have HP4 := hide hi
      clear hi hb
      refine hK _ _ (unhide HB4) ?_
      clear hK K
      refine ord_read (rcV (1, supL m) po pa) rfl rfl (unhide HB4) (fun W hW => by go_simp; first | done | rfl) ?_
      refine ord_end ?_
      refine tree_two (fuel := 5) (i := 5) (j := 10) rfl rfl rfl rfl (by kernel_rfl) ?ta5 ?tb6
      case ta5 =>
        intro K hK
        unfold Oper.wp
        obtain ⟨w7, D7, hrun, hm2, hg2⟩ := (unhide HM4).update (by omega) (p := 9) (by omega) (1, supL m) po pa (unhide HP4)
        have hrun2 : (Instr.mapUpdate 77 (.map (some MB)) (.int .i64 9) (rcV (1, supL m) po pa)).run Try.prog w4 = .ok () w7 := hrun
        have HB7 := hide (belowMap (unhide HB4) (unhide HG3) hg2)
        have HP7 := hide (is_turned (unhide HM4).own hg2 (unhide HP4))
        have HM7 := hide hm2
        clear hm2 hg2 hrun
        go_simp
        refine hK _ _ (fun _ => unhide HB7) ?_
        clear hrun2
        clear hK K
        refine tree_seg (n := 0) [(10, 2), (11, 0), (12, 2), (13, 0), (14, 0)] (by kernel_rfl) rfl (by kernel_rfl) ?_
        refine ord_held rfl rfl ?_
        intro K hK
        unfold Oper.wp
        go_simp
        refine (numbersC_any m.refs _ (unhide HR).refs).mono ?_
        rintro e w8 ⟨qg, rfl, hge, hq, hb⟩
        have HB8 := hide (fr (unhide HB7) hb)
        have HM8 := hide ((unhide HM7).below hb)
        have HP8 := hide ((unhide HP7).below hb)
        have HQ8 := hide (Is.of_block hq)
        clear hq hb hge
        refine hK _ _ (unhide HB8) ?_
        clear hK K
        refine ord_read (rcV (2, ctNs m.refs) (some ⟨qg, 0, none⟩) 4) rfl rfl (unhide HB8) (fun W hW => by go_simp; first | done | rfl) ?_
        refine ord_held rfl rfl ?_
        intro K hK
        unfold Oper.wp
        obtain ⟨w9, D9, hrun, hm2, hg2⟩ := (unhide HM8).update (by omega) (p := 10) (by omega) (2, ctNs m.refs) (some ⟨qg, 0, none⟩) 4 (unhide HQ8)
        have hrun2 : (Instr.mapUpdate 77 (.map (some MB)) (.int .i64 10) (rcV (2, ctNs m.refs) (some ⟨qg, 0, none⟩) 4)).run Try.prog w8 = .ok () w9 := hrun
        have HB9 := hide (belowMap (unhide HB8) (unhide HG3) hg2)
        have HP9 := hide (is_turned (unhide HM8).own hg2 (unhide HP8))
        have HQ9 := hide (is_turned (unhide HM8).own hg2 (unhide HQ8))
        have HM9 := hide hm2
        clear hm2 hg2 hrun
        go_simp
        refine hK _ _ (unhide HB9) ?_
        clear hrun2
        clear hK K
        refine ord_read (.map (some MB)) rfl rfl (unhide HB9) (fun W hW => by go_simp; first | done | rfl) ?_
        refine ord_read (.map (some MB)) rfl rfl (unhide HB9) (fun W hW => by go_simp; first | done | rfl) ?_
        refine ord_end ?_
        refine tree_done (by kernel_rfl) ?_
        go_wp2_with fail
        go_meet
        exact ⟨MB, _, rfl, hide (by first | exact unhide HM9 | exact mp_swap (unhide HM9)), HG3, HB9⟩
      case tb6 =>
        intro K hK
        unfold Oper.wp
        go_simp
        refine (numbersC_any m.refs _ (unhide HR).refs).mono ?_
        rintro e w10 ⟨qg, rfl, hge, hq, hb⟩
        have HB10 := hide (fr (unhide HB4) hb)
        have HM10 := hide ((unhide HM4).below hb)
        have HP10 := hide ((unhide HP4).below hb)
        have HQ10 := hide (Is.of_block hq)
        clear hq hb hge
        refine hK _ _ (fun _ => unhide HB10) ?_
        clear hK K
        refine tree_seg (n := 4) [(11, 0)] (by kernel_rfl) rfl (by kernel_rfl) ?_
        refine ord_read (rcV (2, ctNs m.refs) (some ⟨qg, 0, none⟩) 4) rfl rfl (unhide HB10) (fun W hW => by go_simp; first | done | rfl) ?_
        refine ord_end ?_
        refine tree_two (fuel := 3) (i := 5) (j := 12) rfl rfl rfl rfl (by kernel_rfl) ?ta11 ?tb12
        case ta11 =>
          intro K hK
          unfold Oper.wp
          obtain ⟨w13, D13, hrun, hm2, hg2⟩ := (unhide HM10).update (by omega) (p := 9) (by omega) (1, supL m) po pa (unhide HP10)
          have hrun2 : (Instr.mapUpdate 77 (.map (some MB)) (.int .i64 9) (rcV (1, supL m) po pa)).run Try.prog w10 = .ok () w13 := hrun
          have HB13 := hide (belowMap (unhide HB10) (unhide HG3) hg2)
          have HP13 := hide (is_turned (unhide HM10).own hg2 (unhide HP10))
          have HQ13 := hide (is_turned (unhide HM10).own hg2 (unhide HQ10))
          have HM13 := hide hm2
          clear hm2 hg2 hrun
          go_simp
          refine hK _ _ (fun _ => unhide HB13) ?_
          clear hrun2
          clear hK K
          refine tree_seg (n := 0) [(12, 2), (13, 0), (14, 0)] (by kernel_rfl) rfl (by kernel_rfl) ?_
          refine ord_held rfl rfl ?_
          intro K hK
          unfold Oper.wp
          obtain ⟨w14, D14, hrun, hm2, hg2⟩ := (unhide HM13).update (by omega) (p := 10) (by omega) (2, ctNs m.refs) (some ⟨qg, 0, none⟩) 4 (unhide HQ13)
          have hrun2 : (Instr.mapUpdate 77 (.map (some MB)) (.int .i64 10) (rcV (2, ctNs m.refs) (some ⟨qg, 0, none⟩) 4)).run Try.prog w13 = .ok () w14 := hrun
          have HB14 := hide (belowMap (unhide HB13) (unhide HG3) hg2)
          have HP14 := hide (is_turned (unhide HM13).own hg2 (unhide HP13))
          have HQ14 := hide (is_turned (unhide HM13).own hg2 (unhide HQ13))
          have HM14 := hide hm2
          clear hm2 hg2 hrun
          go_simp
          refine hK _ _ (unhide HB14) ?_
          clear hrun2
          clear hK K
          refine ord_read (.map (some MB)) rfl rfl (unhide HB14) (fun W hW => by go_simp; first | done | rfl) ?_
          refine ord_read (.map (some MB)) rfl rfl (unhide HB14) (fun W hW => by go_simp; first | done | rfl) ?_
          refine ord_end ?_
          refine tree_done (by kernel_rfl) ?_
          go_wp2_with fail
          go_meet
          exact ⟨MB, _, rfl, hide (by first | exact unhide HM14 | exact mp_swap (unhide HM14)), HG3, HB14⟩
        case tb12 =>
          intro K hK
          unfold Oper.wp
          obtain ⟨w15, D15, hrun, hm2, hg2⟩ := (unhide HM10).update (by omega) (p := 10) (by omega) (2, ctNs m.refs) (some ⟨qg, 0, none⟩) 4 (unhide HQ10)
          have hrun2 : (Instr.mapUpdate 77 (.map (some MB)) (.int .i64 10) (rcV (2, ctNs m.refs) (some ⟨qg, 0, none⟩) 4)).run Try.prog w10 = .ok () w15 := hrun
          have HB15 := hide (belowMap (unhide HB10) (unhide HG3) hg2)
          have HP15 := hide (is_turned (unhide HM10).own hg2 (unhide HP10))
          have HQ15 := hide (is_turned (unhide HM10).own hg2 (unhide HQ10))
          have HM15 := hide hm2
          clear hm2 hg2 hrun
          go_simp
          refine hK _ _ (fun _ => unhide HB15) ?_
          clear hrun2
          clear hK K
          refine tree_seg (n := 0) [(5, 2), (13, 0), (14, 0)] (by kernel_rfl) rfl (by kernel_rfl) ?_
          refine ord_held rfl rfl ?_
          intro K hK
          unfold Oper.wp
          obtain ⟨w16, D16, hrun, hm2, hg2⟩ := (unhide HM15).update (by omega) (p := 9) (by omega) (1, supL m) po pa (unhide HP15)
          have hrun2 : (Instr.mapUpdate 77 (.map (some MB)) (.int .i64 9) (rcV (1, supL m) po pa)).run Try.prog w15 = .ok () w16 := hrun
          have HB16 := hide (belowMap (unhide HB15) (unhide HG3) hg2)
          have HP16 := hide (is_turned (unhide HM15).own hg2 (unhide HP15))
          have HQ16 := hide (is_turned (unhide HM15).own hg2 (unhide HQ15))
          have HM16 := hide hm2
          clear hm2 hg2 hrun
          go_simp
          refine hK _ _ (unhide HB16) ?_
          clear hrun2
          clear hK K
          refine ord_read (.map (some MB)) rfl rfl (unhide HB16) (fun W hW => by go_simp; first | done | rfl) ?_
          refine ord_read (.map (some MB)) rfl rfl (unhide HB16) (fun W hW => by go_simp; first | done | rfl) ?_
          refine ord_end ?_
          refine tree_done (by kernel_rfl) ?_
          go_wp2_with fail
          go_meet
          exact ⟨MB, _, rfl, hide (by first | exact unhide HM16 | exact mp_swap (unhide HM16)), HG3, HB16⟩
    case tb2 =>
      intro K hK
      unfold Oper.wp
      go_simp
      refine (packNames_any a.so a.sc m _ (unhide HR) ((unhide HC).s.below (unhide HBD))).mono ?_
      rintro e w17 ⟨po, pa, rfl, hi, hb⟩
      have HB17 := hide (fr (unhide HBD) hb)
      have HP17 := hide hi
      clear hi hb
      refine hK _ _ (fun _ => unhide HB17) ?_
      clear hK K
      refine tree_seg (n := 7) [(4, 0)] (by kernel_rfl) rfl (by kernel_rfl) ?_
      refine ord_read (rcV (1, supL m) po pa) rfl rfl (unhide HB17) (fun W hW => by go_simp; first | done | rfl) ?_
      refine ord_end ?_
      refine tree_two (fuel := 6) (i := 0) (j := 10) rfl rfl rfl rfl (by kernel_rfl) ?ta18 ?tb19
      case ta18 =>
        intro K hK
        unfold Oper.wp
        go_simp
        have HB20 := hide (fr (unhide HB17) (Joins.below_alloc1 (w17) (.map #[] 0)))
        have HP20 := hide ((unhide HP17).below (Joins.below_alloc1 (w17) (.map #[] 0)))
        have HM20 := hide (MpR.made (w17))
        have HG20 := hide (unhide HB17).size
        refine hK _ _ (fun _ => unhide HB20) ?_
        clear hK K
        revert HB20
        revert HM20
        revert HG20
        revert HP20
        generalize (w17).heap.size = MB
        generalize ((w17).alloc _) = w20
        intro HP20
        intro HG20
        intro HM20
        intro HB20
        refine tree_two (fuel := 5) (i := 5) (j := 10) rfl rfl rfl rfl (by kernel_rfl) ?ta21 ?tb22
        case ta21 =>
          intro K hK
          unfold Oper.wp
          obtain ⟨w23, D23, hrun, hm2, hg2⟩ := (unhide HM20).update (by omega) (p := 9) (by omega) (1, supL m) po pa (unhide HP20)
          have hrun2 : (Instr.mapUpdate 77 (.map (some MB)) (.int .i64 9) (rcV (1, supL m) po pa)).run Try.prog w20 = .ok () w23 := hrun
          have HB23 := hide (belowMap (unhide HB20) (unhide HG20) hg2)
          have HP23 := hide (is_turned (unhide HM20).own hg2 (unhide HP20))
          have HM23 := hide hm2
          clear hm2 hg2 hrun
          go_simp
          refine hK _ _ (fun _ => unhide HB23) ?_
          clear hrun2
          clear hK K
          refine tree_seg (n := 0) [(10, 2), (11, 0), (12, 2), (13, 0), (14, 0)] (by kernel_rfl) rfl (by kernel_rfl) ?_
          refine ord_held rfl rfl ?_
          intro K hK
          unfold Oper.wp
          go_simp
          refine (numbersC_any m.refs _ (unhide HR).refs).mono ?_
          rintro e w24 ⟨qg, rfl, hge, hq, hb⟩
          have HB24 := hide (fr (unhide HB23) hb)
          have HM24 := hide ((unhide HM23).below hb)
          have HP24 := hide ((unhide HP23).below hb)
          have HQ24 := hide (Is.of_block hq)
          clear hq hb hge
          refine hK _ _ (unhide HB24) ?_
          clear hK K
          refine ord_read (rcV (2, ctNs m.refs) (some ⟨qg, 0, none⟩) 4) rfl rfl (unhide HB24) (fun W hW => by go_simp; first | done | rfl) ?_
          refine ord_held rfl rfl ?_
          intro K hK
          unfold Oper.wp
          obtain ⟨w25, D25, hrun, hm2, hg2⟩ := (unhide HM24).update (by omega) (p := 10) (by omega) (2, ctNs m.refs) (some ⟨qg, 0, none⟩) 4 (unhide HQ24)
          have hrun2 : (Instr.mapUpdate 77 (.map (some MB)) (.int .i64 10) (rcV (2, ctNs m.refs) (some ⟨qg, 0, none⟩) 4)).run Try.prog w24 = .ok () w25 := hrun
          have HB25 := hide (belowMap (unhide HB24) (unhide HG20) hg2)
          have HP25 := hide (is_turned (unhide HM24).own hg2 (unhide HP24))
          have HQ25 := hide (is_turned (unhide HM24).own hg2 (unhide HQ24))
          have HM25 := hide hm2
          clear hm2 hg2 hrun
          go_simp
          refine hK _ _ (unhide HB25) ?_
          clear hrun2
          clear hK K
          refine ord_read (.map (some MB)) rfl rfl (unhide HB25) (fun W hW => by go_simp; first | done | rfl) ?_
          refine ord_read (.map (some MB)) rfl rfl (unhide HB25) (fun W hW => by go_simp; first | done | rfl) ?_
          refine ord_end ?_
          refine tree_done (by kernel_rfl) ?_
          go_wp2_with fail
          go_meet
          exact ⟨MB, _, rfl, hide (by first | exact unhide HM25 | exact mp_swap (unhide HM25)), HG20, HB25⟩
        case tb22 =>
          intro K hK
          unfold Oper.wp
          go_simp
          refine (numbersC_any m.refs _ (unhide HR).refs).mono ?_
          rintro e w26 ⟨qg, rfl, hge, hq, hb⟩
          have HB26 := hide (fr (unhide HB20) hb)
          have HM26 := hide ((unhide HM20).below hb)
          have HP26 := hide ((unhide HP20).below hb)
          have HQ26 := hide (Is.of_block hq)
          clear hq hb hge
          refine hK _ _ (fun _ => unhide HB26) ?_
          clear hK K
          refine tree_seg (n := 4) [(11, 0)] (by kernel_rfl) rfl (by kernel_rfl) ?_
          refine ord_read (rcV (2, ctNs m.refs) (some ⟨qg, 0, none⟩) 4) rfl rfl (unhide HB26) (fun W hW => by go_simp; first | done | rfl) ?_
          refine ord_end ?_
          refine tree_two (fuel := 3) (i := 5) (j := 12) rfl rfl rfl rfl (by kernel_rfl) ?ta27 ?tb28
          case ta27 =>
            intro K hK
            unfold Oper.wp
            obtain ⟨w29, D29, hrun, hm2, hg2⟩ := (unhide HM26).update (by omega) (p := 9) (by omega) (1, supL m) po pa (unhide HP26)
            have hrun2 : (Instr.mapUpdate 77 (.map (some MB)) (.int .i64 9) (rcV (1, supL m) po pa)).run Try.prog w26 = .ok () w29 := hrun
            have HB29 := hide (belowMap (unhide HB26) (unhide HG20) hg2)
            have HP29 := hide (is_turned (unhide HM26).own hg2 (unhide HP26))
            have HQ29 := hide (is_turned (unhide HM26).own hg2 (unhide HQ26))
            have HM29 := hide hm2
            clear hm2 hg2 hrun
            go_simp
            refine hK _ _ (fun _ => unhide HB29) ?_
            clear hrun2
            clear hK K
            refine tree_seg (n := 0) [(12, 2), (13, 0), (14, 0)] (by kernel_rfl) rfl (by kernel_rfl) ?_
            refine ord_held rfl rfl ?_
            intro K hK
            unfold Oper.wp
            obtain ⟨w30, D30, hrun, hm2, hg2⟩ := (unhide HM29).update (by omega) (p := 10) (by omega) (2, ctNs m.refs) (some ⟨qg, 0, none⟩) 4 (unhide HQ29)
            have hrun2 : (Instr.mapUpdate 77 (.map (some MB)) (.int .i64 10) (rcV (2, ctNs m.refs) (some ⟨qg, 0, none⟩) 4)).run Try.prog w29 = .ok () w30 := hrun
            have HB30 := hide (belowMap (unhide HB29) (unhide HG20) hg2)
            have HP30 := hide (is_turned (unhide HM29).own hg2 (unhide HP29))
            have HQ30 := hide (is_turned (unhide HM29).own hg2 (unhide HQ29))
            have HM30 := hide hm2
            clear hm2 hg2 hrun
            go_simp
            refine hK _ _ (unhide HB30) ?_
            clear hrun2
            clear hK K
            refine ord_read (.map (some MB)) rfl rfl (unhide HB30) (fun W hW => by go_simp; first | done | rfl) ?_
            refine ord_read (.map (some MB)) rfl rfl (unhide HB30) (fun W hW => by go_simp; first | done | rfl) ?_
            refine ord_end ?_
            refine tree_done (by kernel_rfl) ?_
            go_wp2_with fail
            go_meet
            exact ⟨MB, _, rfl, hide (by first | exact unhide HM30 | exact mp_swap (unhide HM30)), HG20, HB30⟩
          case tb28 =>
            intro K hK
            unfold Oper.wp
            obtain ⟨w31, D31, hrun, hm2, hg2⟩ := (unhide HM26).update (by omega) (p := 10) (by omega) (2, ctNs m.refs) (some ⟨qg, 0, none⟩) 4 (unhide HQ26)
            have hrun2 : (Instr.mapUpdate 77 (.map (some MB)) (.int .i64 10) (rcV (2, ctNs m.refs) (some ⟨qg, 0, none⟩) 4)).run Try.prog w26 = .ok () w31 := hrun
            have HB31 := hide (belowMap (unhide HB26) (unhide HG20) hg2)
            have HP31 := hide (is_turned (unhide HM26).own hg2 (unhide HP26))
            have HQ31 := hide (is_turned (unhide HM26).own hg2 (unhide HQ26))
            have HM31 := hide hm2
            clear hm2 hg2 hrun
            go_simp
            refine hK _ _ (fun _ => unhide HB31) ?_
            clear hrun2
            clear hK K
            refine tree_seg (n := 0) [(5, 2), (13, 0), (14, 0)] (by kernel_rfl) rfl (by kernel_rfl) ?_
            refine ord_held rfl rfl ?_
            intro K hK
            unfold Oper.wp
            obtain ⟨w32, D32, hrun, hm2, hg2⟩ := (unhide HM31).update (by omega) (p := 9) (by omega) (1, supL m) po pa (unhide HP31)
            have hrun2 : (Instr.mapUpdate 77 (.map (some MB)) (.int .i64 9) (rcV (1, supL m) po pa)).run Try.prog w31 = .ok () w32 := hrun
            have HB32 := hide (belowMap (unhide HB31) (unhide HG20) hg2)
            have HP32 := hide (is_turned (unhide HM31).own hg2 (unhide HP31))
            have HQ32 := hide (is_turned (unhide HM31).own hg2 (unhide HQ31))
            have HM32 := hide hm2
            clear hm2 hg2 hrun
            go_simp
            refine hK _ _ (unhide HB32) ?_
            clear hrun2
            clear hK K
            refine ord_read (.map (some MB)) rfl rfl (unhide HB32) (fun W hW => by go_simp; first | done | rfl) ?_
            refine ord_read (.map (some MB)) rfl rfl (unhide HB32) (fun W hW => by go_simp; first | done | rfl) ?_
            refine ord_end ?_
            refine tree_done (by kernel_rfl) ?_
            go_wp2_with fail
            go_meet
            exact ⟨MB, _, rfl, hide (by first | exact unhide HM32 | exact mp_swap (unhide HM32)), HG20, HB32⟩
      case tb19 =>
        intro K hK
        unfold Oper.wp
        go_simp
        refine (numbersC_any m.refs _ (unhide HR).refs).mono ?_
        rintro e w33 ⟨qg, rfl, hge, hq, hb⟩
        have HB33 := hide (fr (unhide HB17) hb)
        have HP33 := hide ((unhide HP17).below hb)
        have HQ33 := hide (Is.of_block hq)
        clear hq hb hge
        refine hK _ _ (fun _ => unhide HB33) ?_
        clear hK K
        refine tree_seg (n := 4) [(11, 0), (0, 2)] (by kernel_rfl) rfl (by kernel_rfl) ?_
        refine ord_read (rcV (2, ctNs m.refs) (some ⟨qg, 0, none⟩) 4) rfl rfl (unhide HB33) (fun W hW => by go_simp; first | done | rfl) ?_
        refine ord_held rfl rfl ?_
        intro K hK
        unfold Oper.wp
        go_simp
        have HB34 := hide (fr (unhide HB33) (Joins.below_alloc1 (w33) (.map #[] 0)))
        have HP34 := hide ((unhide HP33).below (Joins.below_alloc1 (w33) (.map #[] 0)))
        have HQ34 := hide ((unhide HQ33).below (Joins.below_alloc1 (w33) (.map #[] 0)))
        have HM34 := hide (MpR.made (w33))
        have HG34 := hide (unhide HB33).size
        refine hK _ _ (unhide HB34) ?_
        clear hK K
        revert HB34
        revert HM34
        revert HG34
        revert HP34
        revert HQ34
        generalize (w33).heap.size = MB
        generalize ((w33).alloc _) = w34
        intro HQ34
        intro HP34
        intro HG34
        intro HM34
        intro HB34
        refine ord_end ?_
        refine tree_two (fuel := 3) (i := 5) (j := 12) rfl rfl rfl rfl (by kernel_rfl) ?ta35 ?tb36
        case ta35 =>
          intro K hK
          unfold Oper.wp
          obtain ⟨w37, D37, hrun, hm2, hg2⟩ := (unhide HM34).update (by omega) (p := 9) (by omega) (1, supL m) po pa (unhide HP34)
          have hrun2 : (Instr.mapUpdate 77 (.map (some MB)) (.int .i64 9) (rcV (1, supL m) po pa)).run Try.prog w34 = .ok () w37 := hrun
          have HB37 := hide (belowMap (unhide HB34) (unhide HG34) hg2)
          have HP37 := hide (is_turned (unhide HM34).own hg2 (unhide HP34))
          have HQ37 := hide (is_turned (unhide HM34).own hg2 (unhide HQ34))
          have HM37 := hide hm2
          clear hm2 hg2 hrun
          go_simp
          refine hK _ _ (fun _ => unhide HB37) ?_
          clear hrun2
          clear hK K
          refine tree_seg (n := 0) [(12, 2), (13, 0), (14, 0)] (by kernel_rfl) rfl (by kernel_rfl) ?_
          refine ord_held rfl rfl ?_
          intro K hK
          unfold Oper.wp
          obtain ⟨w38, D38, hrun, hm2, hg2⟩ := (unhide HM37).update (by omega) (p := 10) (by omega) (2, ctNs m.refs) (some ⟨qg, 0, none⟩) 4 (unhide HQ37)
          have hrun2 : (Instr.mapUpdate 77 (.map (some MB)) (.int .i64 10) (rcV (2, ctNs m.refs) (some ⟨qg, 0, none⟩) 4)).run Try.prog w37 = .ok () w38 := hrun
          have HB38 := hide (belowMap (unhide HB37) (unhide HG34) hg2)
          have HP38 := hide (is_turned (unhide HM37).own hg2 (unhide HP37))
          have HQ38 := hide (is_turned (unhide HM37).own hg2 (unhide HQ37))
          have HM38 := hide hm2
          clear hm2 hg2 hrun
          go_simp
          refine hK _ _ (unhide HB38) ?_
          clear hrun2
          clear hK K
          refine ord_read (.map (some MB)) rfl rfl (unhide HB38) (fun W hW => by go_simp; first | done | rfl) ?_
          refine ord_read (.map (some MB)) rfl rfl (unhide HB38) (fun W hW => by go_simp; first | done | rfl) ?_
          refine ord_end ?_
          refine tree_done (by kernel_rfl) ?_
          go_wp2_with fail
          go_meet
          exact ⟨MB, _, rfl, hide (by first | exact unhide HM38 | exact mp_swap (unhide HM38)), HG34, HB38⟩
        case tb36 =>
          intro K hK
          unfold Oper.wp
          obtain ⟨w39, D39, hrun, hm2, hg2⟩ := (unhide HM34).update (by omega) (p := 10) (by omega) (2, ctNs m.refs) (some ⟨qg, 0, none⟩) 4 (unhide HQ34)
          have hrun2 : (Instr.mapUpdate 77 (.map (some MB)) (.int .i64 10) (rcV (2, ctNs m.refs) (some ⟨qg, 0, none⟩) 4)).run Try.prog w34 = .ok () w39 := hrun
          have HB39 := hide (belowMap (unhide HB34) (unhide HG34) hg2)
          have HP39 := hide (is_turned (unhide HM34).own hg2 (unhide HP34))
          have HQ39 := hide (is_turned (unhide HM34).own hg2 (unhide HQ34))
          have HM39 := hide hm2
          clear hm2 hg2 hrun
          go_simp
          refine hK _ _ (fun _ => unhide HB39) ?_
          clear hrun2
          clear hK K
          refine tree_seg (n := 0) [(5, 2), (13, 0), (14, 0)] (by kernel_rfl) rfl (by kernel_rfl) ?_
          refine ord_held rfl rfl ?_
          intro K hK
          unfold Oper.wp
          obtain ⟨w40, D40, hrun, hm2, hg2⟩ := (unhide HM39).update (by omega) (p := 9) (by omega) (1, supL m) po pa (unhide HP39)
          have hrun2 : (Instr.mapUpdate 77 (.map (some MB)) (.int .i64 9) (rcV (1, supL m) po pa)).run Try.prog w39 = .ok () w40 := hrun
          have HB40 := hide (belowMap (unhide HB39) (unhide HG34) hg2)
          have HP40 := hide (is_turned (unhide HM39).own hg2 (unhide HP39))
          have HQ40 := hide (is_turned (unhide HM39).own hg2 (unhide HQ39))
          have HM40 := hide hm2
          clear hm2 hg2 hrun
          go_simp
          refine hK _ _ (unhide HB40) ?_
          clear hrun2
          clear hK K
          refine ord_read (.map (some MB)) rfl rfl (unhide HB40) (fun W hW => by go_simp; first | done | rfl) ?_
          refine ord_read (.map (some MB)) rfl rfl (unhide HB40) (fun W hW => by go_simp; first | done | rfl) ?_
          refine ord_end ?_
          refine tree_done (by kernel_rfl) ?_
          go_wp2_with fail
          go_meet
          exact ⟨MB, _, rfl, hide (by first | exact unhide HM40 | exact mp_swap (unhide HM40)), HG34, HB40⟩
  case rest =>
    obtain ⟨B, D, rfl, HM, HG, HB⟩ := hcut
    rename World => W1
    clear HBD HAR HR0 hmm
    have HMT : Hid (MpR W1 B 2 D (rcTo m (11 + 0))) := hide (by rw [Nat.add_zero, ← rcTo_two]; exact unhide HM)
    clear HM
    obtain ⟨c0, c1, c2, c3⟩ := ((unhide HV).below (unhide HB)).cells
    go_wp2_with fail
    refine (tablesOf_any a m _ hs3 ((unhide HC).below (unhide HB))).mono ?_
    rintro e w2 ⟨qo, qa, rfl, hrt, hb2⟩
    have HRT := hide hrt
    have HM2 := hide ((unhide HMT).below hb2)
    have HB2 := hide (fr (unhide HB) hb2)
    have HTL := hide (imTabs_len m)
    clear hrt hb2 HMT HB c0 c1 c2 c3
    have hT4 : (imTabs m).length ≤ 4 := by rw [unhide HTL]; omega
    have HT4 := hide hT4
    have HTX : Hid (rcTo m (11 + (imTabs m).length) = rcTo m (15 + 0)) := hide (rcTo_tabs hT4)
    have HTS : Hid (∀ k (h : k < (imTabs m).length), setF (rcTo m (11 + k)) (11 + k) (3, (imTabs m)[k]) = rcTo m (11 + (k + 1))) := hide (fun k h => rcTo_tab h (by omega))
    generalize hTT : imTabs m = T at *
    clear hTT HTL
    go_wp2
    go_loopw [23] (fun i wr => ∃ (k : Nat) (D : DataW Value), k ≤ T.length ∧ i = .int .i64 k ∧ Hid (MpR wr B (2 + k) D (rcTo m (11 + k))) ∧ Hid (RowT wr qo T) ∧ Hid (Below W0.heap.size W0 wr)) (fun i _ => T.length - (intOf i).toNat)
    case atStart => exact ⟨0, D, Nat.zero_le _, rfl, HM2, HRT, HB2⟩
    case round =>
      clear HM2 HRT HB2
      obtain ⟨k, D1, hk, rfl, HM2, HRT, HB2⟩ := hrel
      by_cases hlt : k < T.length
      · obtain ⟨b, off, tq, tc, rfl, hck, hIs⟩ := unhide HRT k hlt
        have HIS := hide hIs
        have hlti : (k : Int) < (T.length : Int) := by omega
        have hw1 : IntKind.i64.wrap (11 + (k : Int)) = 11 + (k : Int) := by rw [IntKind.wrap_i64]; omega
        have HST := hide (unhide HTS k hlt)
        clear hIs
        go_wp2_with (at_mapUpdate; refine wpList_rec rfl _ _ _ rfl (p := 11 + k) (y := 11 + (k : Int)) (3, T[k]) tq tc rfl (unhide HM2) (by omega) (by first | rfl | (rw [hw1]; rfl)) (by omega) (by omega) rfl (unhide HIS) ?_; intro w5 D5 hm5 hg5; have HS5 := hide (And.intro hm5 hg5); clear hm5 hg5)
        go_roundw
        case rel => exact ⟨k + 1, D5, by omega, by go_num, hide (by rw [← unhide HST]; exact (unhide HS5).1), hide (rowT_turned (unhide HM2).own (unhide HS5).2 (unhide HRT)), hide (belowMap (unhide HB2) (unhide HG) (unhide HS5).2)⟩
        case measure => simp [intOf]; omega
      · obtain rfl : k = T.length := by omega
        have HM3 : Hid (MpR wr B (6 + 0) D1 (rcTo m (15 + 0))) := hide (by rw [← unhide HTX]; exact (unhide HM2).mono (by have := unhide HT4; omega))
        clear HTX HTS HM2 HRT
        obtain ⟨c0, c1, c2, c3⟩ := ((unhide HV).below (unhide HB2)).cells
        rw [unhide HRO] at c0
        go_wp2
        clear c0 c1 c2 c3
        go_loopw [37] (fun i wr => ∃ (c : Nat) (D : DataW Value), c ≤ m.refs.length ∧ i = .int .i64 c ∧ Hid (MpR wr B (6 + c) D (rcTo m (15 + c))) ∧ Hid (Below W0.heap.size W0 wr)) (fun i _ => m.refs.length - (intOf i).toNat)
        case atStart => exact ⟨0, D1, Nat.zero_le _, rfl, HM3, HB2⟩
        case round =>
          clear HM3 HB2
          rename World => wq
          obtain ⟨c, D2, hc, rfl, HM3, HB3⟩ := hrel
          by_cases hltc : c < m.refs.length
          · have hc24 : c < 24 := by have := unhide HRL; omega
            have hcd : c < m.data.length := by rw [unhide HDL]; omega
            obtain ⟨b, off, ero, hcr⟩ := ((unhide HC).r.below (unhide HB3)) c hltc
            rw [unhide HRO] at ero
            cases ero
            obtain ⟨b', off', edq, hcd'⟩ := ((unhide HC).d.below (unhide HB3)) c hcd
            have hlci : (c : Int) < (m.refs.length : Int) := by omega
            have hldi : (c : Int) < (m.data.length : Int) := by omega
            have hc0i : (0 : Int) ≤ (c : Int) := by omega
            have egr : m.refs.getD c 0 = m.refs[c] := by simp [List.getD, hltc]
            have egd : m.data.getD c 0 = m.data[c] := by simp [List.getD, hcd]
            obtain ⟨c0, c1, c2, c3⟩ := ((unhide HV).below (unhide HB3)).cells
            rw [edq] at c3
            clear edq
            by_cases hpos : 0 < m.refs[c]
            · have HST := hide (rcTo_dat (m := m) (c := c) hc24 (by rw [egr]; exact hpos))
              rw [egd] at HST
              have hw1 : IntKind.i64.wrap (15 + (c : Int)) = 15 + (c : Int) := by rw [IntKind.wrap_i64]; omega
              clear egr egd
              generalize m.data[c] = X at *
              generalize m.refs[c] = Y at *
              have HMA := hide ((unhide HM3).below (Joins.below_alloc1 wq (.cells #[.int .i64 X] 3)))
              have HBA := hide (fr (unhide HB3) (Joins.below_alloc1 wq (.cells #[.int .i64 X] 3)))
              have HIA : Hid (Is (wq.alloc (.cells #[.int .i64 X] 3)) (some ⟨wq.heap.size, 0, none⟩) [X]) := hide (Is.of_block (t := 3) (heap_alloc_new wq _))
              go_wp2_with (at_mapUpdate; refine wpList_rec rfl _ _ _ rfl (p := 15 + c) (y := 15 + (c : Int)) (4, [X]) (some ⟨wq.heap.size, 0, none⟩) 1 rfl (unhide HMA) (by omega) (by first | rfl | (rw [hw1]; rfl)) (by omega) (by omega) rfl (unhide HIA) ?_; intro w5 D5 hm5 hg5; have HS5 := hide (And.intro hm5 hg5); clear hm5 hg5)
              go_roundw
              case rel => exact ⟨c + 1, D5, by omega, by go_num, hide (by rw [← unhide HST]; exact (unhide HS5).1), hide (belowMap (unhide HBA) (unhide HG) (unhide HS5).2)⟩
              case measure => simp [intOf]; omega
            · have HST := hide (rcTo_no (m := m) (c := c) hc24 (by rw [egr]; exact hpos))
              clear egr egd
              generalize m.refs[c] = Y at *
              go_wp2
              go_roundw
              case rel => exact ⟨c + 1, D2, by omega, by go_num, hide (by rw [← unhide HST]; exact (unhide HM3).mono (by omega)), HB3⟩
              case measure => simp [intOf]; omega
          · have hc24 : c = 24 := by have := unhide HRL; omega
            subst hc24
            have HEND : Hid (MpR wq B (6 + 24) D2 (rcAt m)) := hide (by rw [← rcTo_all]; exact unhide HM3)
            go_wp2
            go_ret
            exact ⟨B, 6 + 24, D2, rfl, by omega, Nat.le_trans (unhide HA).size (unhide HG), unhide HEND, fr (unhide HA) (unhide HB3)⟩

end Go.Proofs.Ytpdpnepnfhbonaa

namespace Go.Proofs.Ytpdpnepnfhbonaa
open Go.RowKit Go.Maps
set_option linter.unusedVariables false
set_option maxRecDepth 100000

def MpO (w : World) (o : Option Nat) (f : Nat → Option Rc) : Prop := (o = none ∧ f = fun _ => none) ∨ ∃ B n D, o = some B ∧ MpR w B n D f
theorem MpO.below {w w' : World} {o : Option Nat} {f : Nat → Option Rc} (h : MpO w o f) (hb : Below w.heap.size w w') : MpO w' o f := by
  rcases h with h | ⟨B, n, D, e, h⟩
  · exact .inl h
  · exact .inr ⟨B, n, D, e, h.below hb⟩
def rcG (f : Nat → Option Rc) (p : Nat) : Rc := (f p).getD (0, [])
theorem MpO.look {w : World} {o : Option Nat} {f : Nat → Option Rc} (h : MpO w o f) {p : Nat} (hp : p < 64) : ∃ ao cap, (Instr.lookup 77 (.map o) (.int .i64 (p : Int)) false).run Try.prog w = .ok (rcV (rcG f p) ao cap) w ∧ Is w ao (rcG f p).2 := by
  rcases h with ⟨rfl, rfl⟩ | ⟨B, n, D, rfl, h⟩
  · exact ⟨none, 0, miss_nil hp w, fun i hi => by simp [rcG] at hi⟩
  · cases hf : f p with
    | none => exact ⟨none, 0, by rw [rcG, hf]; exact h.miss hp hf, fun i hi => by simp [rcG, hf] at hi⟩
    | some r =>
      obtain ⟨ao, cap, h1, h2⟩ := h.look hp hf
      exact ⟨ao, cap, by rw [rcG, hf]; exact h1, by rw [rcG, hf]; exact h2⟩
def upO (fw fn : Nat → Option Rc) (p : Nat) : List Up := if rcEq (rcG fn p) (rcG fw p) = true then [] else [⟨(p : Int), rcT (rcG fn p)⟩]
def upsF (fw fn : Nat → Option Rc) : List Up := (plcN fn).flatMap (upO fw fn)
theorem take_flat {α β : Type} (g : α → List β) {l : List α} {k : Nat} (hk : k < l.length) : (l.take (k + 1)).flatMap g = (l.take k).flatMap g ++ g l[k] := by
  rw [List.take_succ_eq_append_getElem hk, List.flatMap_append]; simp
theorem plcN_len (f : Nat → Option Rc) : (plcN f).length ≤ 64 := by
  have := List.length_filter_le (fun p => (f p).isSome) (List.range 64)
  simpa [plcN] using this

set_option maxHeartbeats 3200000 in
theorem updatesFrom_any (ow : Option Nat) (B n : Nat) (D : DataW Value) (fw fn : Nat → Option Rc) (w : World) (hw : MpO w ow fw) (hn : MpR w B n D fn) (hn2 : n ≤ 1000)
    (hlw : ∀ p, p < 64 → (rcG fw p).2.length ≤ 1000) (hln : ∀ p, p < 64 → (rcG fn p).2.length ≤ 1000) :
    Calls Try.prog 55 #[.map ow, .map (some B)] w fun e w' => ∃ qo qa, e = .returned (.slice qo (upsF fw fn).length qa) ∧ UpS w w' qo (upsF fw fn).length qa (upsF fw fn) := by
  have HW := hide hw
  have HN := hide hn
  have HLW := hide hlw
  have HLN := hide hln
  have HPL := hide (plcN_len fn)
  have HLL : Hid ((plcL fn).length = (plcN fn).length) := hide (by simp [plcL])
  have HAT : Hid (∀ k (h : k < (plcL fn).length) (h2 : k < (plcN fn).length), (plcL fn)[k] = ((plcN fn)[k] : Int)) := hide (fun k h h2 => by simp [plcL])
  have HLT : Hid (∀ k (h2 : k < (plcN fn).length), (plcN fn)[k] < 64) := hide (fun k h2 => (plcN_lt (List.getElem_mem h2)).1)
  have HTK : Hid (∀ k (h2 : k < (plcN fn).length), ((plcN fn).take (k + 1)).flatMap (upO fw fn) = ((plcN fn).take k).flatMap (upO fw fn) ++ upO fw fn (plcN fn)[k]) := hide (fun k h2 => take_flat _ h2)
  have HEN : Hid (((plcN fn).take (plcN fn).length).flatMap (upO fw fn) = upsF fw fn) := hide (by rw [List.take_length]; rfl)
  clear hw hn hlw hln
  obtain ⟨j0, hj, hy0, hy1, hy2⟩ := info_parts infoUs
  go_enter Try.func55, Try.ntmps55
  go_wp2_with fail
  refine (mapsKeys_any (some B) _).mono ?_
  rintro e w1 ⟨rfl, rfl⟩
  go_wp2_with fail
  refine (sorted_any B n D fn w (unhide HN) (by omega)).mono ?_
  rintro e w2 ⟨v, rfl, ⟨ko, ka, rfl, hok⟩, hb2⟩
  have HB2 := hide hb2
  have HKI : Hid (Is w2 ko (plcL fn)) := hide (ownRN hok)
  have HW2 := hide ((unhide HW).below hb2)
  have HN2 : Hid (MpO w2 (some B) fn) := hide (.inr ⟨B, n, D, rfl, (unhide HN).below hb2⟩)
  clear hok hb2 HW HN
  have HU0 : Hid (UpS w2 w2 none 0 0 []) := hide ⟨.inl ⟨rfl, rfl, none, rfl⟩, Below.refl _ _⟩
  generalize plcL fn = KL at *
  generalize hKN : plcN fn = KN at *
  clear hKN
  have hKLN := unhide HPL
  go_wp2
  go_loopw [5, 12] (fun o i wr => ∃ (k N : Nat) (qo : Option Addr) (qa : Nat), k ≤ KL.length ∧ N ≤ k ∧ i = .int .i64 k ∧ o = .slice qo N qa ∧ Hid (UpS w2 wr qo N qa ((KN.take k).flatMap (upO fw fn)))) (fun _ i _ => KL.length - (intOf i).toNat)
  case atStart => exact ⟨0, 0, none, 0, Nat.zero_le _, Nat.le_refl _, rfl, rfl, HU0⟩
  case round =>
    clear HU0
    obtain ⟨k, N, qo, qa, hk, hNk, rfl, rfl, HU⟩ := hrel
    by_cases hlt : k < KL.length
    · have hkN : k < KN.length := by have := unhide HLL; omega
      obtain ⟨b, off, rfl, hck⟩ := ((unhide HKI).below (unhide HU).k) k hlt
      rw [unhide HAT k hlt hkN] at hck
      have hp64 := unhide HLT k hkN
      have HST := hide (unhide HTK k hkN)
      have hlti : (k : Int) < (KL.length : Int) := by omega
      generalize KN[k] = p at *
      obtain ⟨ao, ca, hl1, hi1⟩ := (unhide HN2).below (unhide HU).k |>.look hp64
      obtain ⟨bo, cb, hl2, hi2⟩ := (unhide HW2).below (unhide HU).k |>.look hp64
      have HI1 := hide hi1
      have HI2 := hide hi2
      have HA1 := hide (unhide HLN p hp64)
      have HA2 := hide (unhide HLW p hp64)
      clear hi1 hi2
      have hN64 : N ≤ 64 := by have := unhide HPL; have := unhide HLL; omega
      go_wp2_with fail
      refine (like_any (rcG fn p) (rcG fw p) ao bo ca cb _ (by have := unhide HA1; unfold maxLen; omega) (by have := unhide HA2; unfold maxLen; omega) (unhide HI1) (unhide HI2)).mono ?_
      rintro e w3 ⟨rfl, hb3⟩
      have HU3 := hide ((unhide HU).next hb3)
      clear hb3 hl1 hl2 HI1 HI2 hck
      cases hlk : rcEq (rcG fn p) (rcG fw p)
      · have HSN : Hid ((KN.take (k + 1)).flatMap (upO fw fn) = (KN.take k).flatMap (upO fw fn) ++ [⟨(p : Int), rcT (rcG fn p)⟩]) := hide (by rw [unhide HST, upO, hlk]; rfl)
        clear hlk HST
        obtain ⟨ao, ca, hl1, hi1⟩ := (unhide HN2).below (unhide HU3).k |>.look hp64
        have HI1 := hide hi1
        clear hi1
        go_wp2_with fail
        refine (textR_any (rcG fn p) ao ca _ (by have := unhide HA1; omega) (unhide HI1)).mono ?_
        rintro e w5 ⟨rfl, hb5⟩
        have HU5 := hide ((unhide HU3).next hb5)
        clear hb5 hl1 HI1 HU3 HU
        generalize rcT (rcG fn p) = TX at *
        generalize (KN.take k).flatMap (upO fw fn) = LS at *
        have HUA := hide ((unhide HU5).next (Joins.below_alloc1 w5 (.cells #[.int .i64 (p : Int), .string TX] 80)))
        have HSZ := hide (unhide HUA).sz
        go_wp2_with (at_builtin; refine wpList_append_one rfl _ _ 75 rfl w2.heap.size 80 j0 (.agg #[.int .i64 0, .string ⟨#[]⟩]) 2 24 Try.underlying75 hj hy0 hy1 hy2 rfl (by omega) qo N qa (upsV LS) rfl (unhide HUA).o (unhide HSZ) ⟨w5.heap.size, 0, none⟩ _ (upV ⟨(p : Int), TX⟩) rfl rfl (news2_at w5 _ ⟨(p : Int), TX⟩ _ rfl) (upV_one _) (by unfold maxLen; omega) (by omega) ?_; intro g2 cap2 wA hoA hkA; have HU6 := hide (UpS.one (unhide HUA) hoA hkA); clear hoA hkA)
        go_roundw
        case rel => exact ⟨k + 1, N + 1, some ⟨g2, 0, none⟩, cap2, by omega, by omega, by go_num, rfl, by rw [unhide HSN]; exact HU6⟩
        case measure => simp [intOf]; omega
      · have HSN : Hid ((KN.take (k + 1)).flatMap (upO fw fn) = (KN.take k).flatMap (upO fw fn)) := hide (by rw [unhide HST, upO, hlk]; simp)
        clear hlk HST
        go_wp2
        go_roundw
        case rel => exact ⟨k + 1, N, qo, qa, by omega, by omega, by go_num, rfl, by rw [unhide HSN]; exact HU3⟩
        case measure => simp [intOf]; omega
    · have hNl := (unhide HU).len
      have hkk : k = KN.length := by have := unhide HLL; omega
      have HF : Hid (UpS w wr qo (upsF fw fn).length qa (upsF fw fn)) := hide (by
        have h := unhide HU
        rw [hNl, hkk, unhide HEN] at h
        exact ⟨h.o.base (unhide HB2).size, fr (unhide HB2) h.k⟩)
      have HL2 : Hid (N = (upsF fw fn).length) := hide (by rw [hNl, hkk, unhide HEN])
      clear hNl HU hkk
      go_wp2
      go_ret
      rw [unhide HL2]
      exact ⟨qo, qa, rfl, unhide HF⟩

end Go.Proofs.Ytpdpnepnfhbonaa

namespace Go.Proofs.Ytpdpnepnfhbonaa
open Go.RowKit
set_option linter.unusedVariables false
set_option maxRecDepth 100000

def RcR (r : Rc) : Prop := (1 ≤ r.1 ∧ r.1 ≤ 9) ∧ allB r.2 = true ∧ r.2.length ≤ 16
theorem rcR_text {r : Rc} (h : RcR r) : rcT r = sealS r.1 r.2 := by
  obtain ⟨hk, ha, hl⟩ := h
  exact sealT_ok (sealC_ok (listC_ok (by omega) (intsB_small ha (by omega))) (by simp [kindB, inB]; omega))
theorem rcAt_right {m : Img} (h : ImR m) {p : Nat} {r : Rc} (hr : rcAt m p = some r) : RcR r := by
  unfold rcAt at hr
  have hf := h.few
  split at hr
  · cases hr
    exact ⟨by simp, allB_snm h, by simp [supL]; omega⟩
  · split at hr
    · cases hr
      refine ⟨by simp, allB_true (fun j hj => ?_), by simp [ctNs]⟩
      have := ctNs_in h.refs j hj
      simp [numB, inB]; omega
    · split at hr
      · rw [Option.map_eq_some_iff] at hr
        obtain ⟨t, ht, rfl⟩ := hr
        have hm : tbB t = true := h.tabs t (List.mem_of_getElem? ht)
        exact ⟨by simp, tb_all hm, by have := tbB_len hm; simp; omega⟩
      · split at hr
        · rename_i hc
          cases hr
          have hcl : p - 15 < m.data.length := by rw [h.len]; omega
          refine ⟨by simp, ?_, by simp⟩
          simp only [allB, List.all_cons, List.all_nil, Bool.and_true]
          rw [show m.data.getD (p - 15) 0 = m.data[p - 15] by simp [List.getD, hcl]]
          exact h.nums _ (List.getElem_mem hcl)
        · cases hr
def onU (f : Nat → Option Rc) (p : Nat) : List Up := match f p with
  | none => []
  | some r => [⟨(p : Int), rcT r⟩]
theorem flat_filter {α β : Type} (q : α → Bool) (g : α → List β) : ∀ l : List α, (l.filter q).flatMap g = l.flatMap (fun x => if q x = true then g x else [])
  | [] => rfl
  | x :: l => by
    rw [List.filter_cons, List.flatMap_cons, ← flat_filter q g l]
    by_cases h : q x = true
    · rw [if_pos h, if_pos h, List.flatMap_cons]
    · rw [if_neg h, if_neg h]; rfl
theorem flat_congr {α β : Type} {g k : α → List β} : ∀ {l : List α}, (∀ x ∈ l, g x = k x) → l.flatMap g = l.flatMap k
  | [], _ => rfl
  | x :: l, h => by rw [List.flatMap_cons, List.flatMap_cons, h x (by simp), flat_congr (fun y hy => h y (by simp [hy]))]
theorem flat_none {α β : Type} {g : α → List β} : ∀ {l : List α}, (∀ x ∈ l, g x = []) → l.flatMap g = []
  | [], _ => rfl
  | x :: l, h => by rw [List.flatMap_cons, h x (by simp), flat_none (fun y hy => h y (by simp [hy]))]; rfl
theorem flat_map' {α β γ : Type} (u : α → β) (g : β → List γ) : ∀ l : List α, (l.map u).flatMap g = l.flatMap (fun x => g (u x))
  | [] => rfl
  | x :: l => by rw [List.map_cons, List.flatMap_cons, List.flatMap_cons, flat_map' u g l]
theorem range_parts : List.range 64 = List.range 9 ++ ([9, 10] ++ ((List.range 4).map (fun k => 11 + k) ++ ((List.range 24).map (fun c => 15 + c) ++ (List.range 25).map (fun q => 39 + q)))) := by decide
theorem onU_tabs {m : Img} (h : ImR m) : (List.range 4).flatMap (fun k => onU (rcAt m) (11 + k)) = ⟨11, encTb m.table⟩ :: tabU 0 m.snaps := by
  have hT : ∀ k, k < 4 → onU (rcAt m) (11 + k) = match (imTabs m)[k]? with
      | none => []
      | some t => [⟨11 + (k : Int), encTb t⟩] := fun k hk => by
    unfold onU
    rw [rcAt_tab hk]
    cases ht : (imTabs m)[k]? with
    | none => rfl
    | some t =>
      have hm : tbB t = true := h.tabs t (List.mem_of_getElem? ht)
      simp only [Option.map_some]
      rw [show rcT (3, t) = encTb t from (tb_seal hm).2]
      simp
  have hf := h.few
  rw [flat_congr (k := fun k => match (imTabs m)[k]? with
      | none => []
      | some t => [⟨11 + (k : Int), encTb t⟩]) (fun k hk => hT k (List.mem_range.1 hk))]
  unfold imTabs
  match hs : m.snaps, hf with
  | [], _ => simp [List.range_succ, tabU]
  | [s1], _ => simp [List.range_succ, tabU]
  | [s1, s2], _ => simp [List.range_succ, tabU]
  | [s1, s2, s3], _ => simp [List.range_succ, tabU]
  | s1 :: s2 :: s3 :: s4 :: r, hf => exact absurd hf (by simp)
theorem allU_places {m : Img} (h : ImR m) : allU m = (List.range 64).flatMap (onU (rcAt m)) := by
  rw [range_parts, List.flatMap_append, List.flatMap_append, List.flatMap_append, List.flatMap_append, flat_map', flat_map', flat_map']
  rw [flat_none (l := List.range 9) (fun p hp => by unfold onU; rw [rcAt_none (.inl (List.mem_range.1 hp))]), List.nil_append]
  rw [flat_none (l := List.range 25) (fun p hp => by unfold onU; rw [rcAt_none (.inr (by omega))]), List.append_nil]
  rw [onU_tabs h]
  have h9 : ([9, 10] : List Nat).flatMap (onU (rcAt m)) = [⟨9, sealS 1 (supL m)⟩, ⟨10, encT m.refs⟩] := by
    have e1 : rcT (1, supL m) = sealS 1 (supL m) := rcR_text ⟨by simp, allB_snm h, by have := h.few; simp [supL]; omega⟩
    have e2 : rcT (2, ctNs m.refs) = encT m.refs := (ct_seal h.refs).2
    have a1 : rcAt m 9 = some (1, supL m) := by simp [rcAt]
    have a2 : rcAt m 10 = some (2, ctNs m.refs) := by simp [rcAt]
    simp only [List.flatMap_cons, List.flatMap_nil, onU, a1, a2, e1, e2]
    rfl
  rw [h9]
  have hd : (List.range 24).flatMap (fun c => onU (rcAt m) (15 + c)) = dataU m 24 := flat_congr (fun c hc => by
    have hc' := List.mem_range.1 hc
    unfold onU
    rw [rcAt_dat hc', datU]
    by_cases hp : 0 < m.refs.getD c 0
    · rw [if_pos hp, if_pos hp]
      have hcl : c < m.data.length := by rw [h.len]; exact hc'
      have hnum : numB (m.data.getD c 0) = true := by
        rw [show m.data.getD c 0 = m.data[c] by simp [List.getD, hcl]]
        exact h.nums _ (List.getElem_mem hcl)
      have e4 : rcT (4, [m.data.getD c 0]) = sealS 4 [m.data.getD c 0] := rcR_text ⟨by simp, by simp only [allB, List.all_cons, List.all_nil, hnum, Bool.and_true], by simp⟩
      simp only [e4]
      simp
    · rw [if_neg hp, if_neg hp])
  rw [hd]
  simp [allU, headU]
theorem upsF_range (fw fn : Nat → Option Rc) : upsF fw fn = (List.range 64).flatMap (fun p => if (fn p).isSome = true then upO fw fn p else []) := flat_filter _ _ _
theorem upsF_all {m : Img} (h : ImR m) : upsF (fun _ => none) (rcAt m) = allU m := by
  rw [upsF_range, allU_places h]
  refine flat_congr (fun p _ => ?_)
  cases hr : rcAt m p with
  | none => simp [onU, hr]
  | some r =>
    have hk := (rcAt_right h hr).1
    simp only [Option.isSome_some, if_true, upO, onU, rcG, hr, Option.getD_some, Option.getD_none]
    rw [if_neg (by intro h2; rw [rcEq_iff] at h2; rw [h2] at hk; simp at hk)]
theorem rcG_len {m : Img} (h : ImR m) (p : Nat) : (rcG (rcAt m) p).2.length ≤ 1000 := by
  unfold rcG
  cases hr : rcAt m p with
  | none => simp
  | some r => have := (rcAt_right h hr).2.2; simp; omega

end Go.Proofs.Ytpdpnepnfhbonaa

namespace Go.Proofs.Ytpdpnepnfhbonaa
open Go.RowKit Go.Maps
set_option linter.unusedVariables false
set_option maxRecDepth 100000

theorem recUps_any (a : Img) (h : ImR a) (B n : Nat) (D : DataW Value) (w : World) (hm : MpR w B n D (rcAt a)) (hn : n ≤ 1000) :
    Calls Try.prog 55 #[.map none, .map (some B)] w fun e w' => ∃ qo qa, e = .returned (.slice qo (allU a).length qa) ∧ UpS w w' qo (allU a).length qa (allU a) := by
  have := updatesFrom_any none B n D (fun _ => none) (rcAt a) w (.inl ⟨rfl, rfl⟩) hm hn (fun p _ => by simp [rcG]) (fun p _ => rcG_len h p)
  rwa [upsF_all h] at this

end Go.Proofs.Ytpdpnepnfhbonaa

namespace Go.Proofs.Ytpdpnepnfhbonaa
open Go.RowKit Go.Maps
set_option linter.unusedVariables false
set_option maxRecDepth 100000

def VarU1 (w : World) (x : Nat) (u : Up) : Prop := w.heap[x]? = some (.cells #[.int .i64 u.at_, .string u.data] 80 (0, 0))
theorem VarU1.cells {w : World} {x : Nat} {u : Up} (k : VarU1 w x u) : w.cell? ⟨x, 0, none⟩ = some (.int .i64 u.at_) ∧ w.cell? ⟨x, 1, none⟩ = some (.string u.data) := ⟨by rw [Joins.cell_of_block k]; rfl, by rw [Joins.cell_of_block k]; rfl⟩
theorem take_right {ss : List ByteArray} {xs : List Wr} {F : List Wr} (hd : diskB ss (xs ++ F) = true) (k : Nat) : diskB ss (xs ++ F.take k) = true := by
  obtain ⟨⟨a1, a2⟩, a3, a4⟩ := diskB_parts.1 hd
  refine diskB_parts.2 ⟨⟨a1, a2⟩, ?_, fun y hy => a4 y ?_⟩
  · rw [List.length_append] at a3 ⊢
    rw [List.length_take]
    omega
  · rcases List.mem_append.1 hy with h1 | h1
    · exact List.mem_append_left _ h1
    · exact List.mem_append_right _ (List.mem_of_mem_take h1)

set_option maxHeartbeats 6400000 in
theorem format_impl (ao bo : Option Addr) (ca cb : Nat) (ss : List ByteArray) (xs : List Wr) (h k : Int) (w : World) (hl : ss.length ≤ maxLen) (hm : xs.length ≤ maxLen) (h1 : Ss w ao ss) (h2 : Ios w bo xs) :
    Calls Try.prog 20 #[.agg #[.slice ao ss.length ca, .slice bo xs.length cb], .int .i64 h, .int .i64 k] w fun e w' => ∃ po pa qo qa, e = .returned (.tuple #[.agg #[.slice po (foS ss xs h k).length pa, .slice qo (foX ss xs h k).length qa], .int .i64 (foC ss xs h k)]) ∧ OwnD w' w.heap.size po (foS ss xs h k).length pa qo (foX ss xs h k).length qa (foS ss xs h k) (foX ss xs h k) ∧ Below w.heap.size w w' := by
  have HA := hide (Joins.below_alloc2 w (.cells #[.slice ao ss.length ca, .slice bo xs.length cb] 43) (.cells #[.slice none 0 0, .slice none 0 0] 43))
  have HR : Hid (VarD ((w.alloc (.cells #[.slice ao ss.length ca, .slice bo xs.length cb] 43)).alloc (.cells #[.slice none 0 0, .slice none 0 0] 43)) (w.heap.size + 1) (.slice none 0 0) (.slice none 0 0)) := hide (by have := VarD.new (w.alloc (.cells #[.slice ao ss.length ca, .slice bo xs.length cb] 43)) (.slice none 0 0) (.slice none 0 0); simpa using this)
  have H0 : Hid (DkA w ((w.alloc (.cells #[.slice ao ss.length ca, .slice bo xs.length cb] 43)).alloc (.cells #[.slice none 0 0, .slice none 0 0] 43)) w.heap.size ao ca bo cb ss xs) := hide ⟨(VarD.new w _ _).below (Joins.below_alloc1 _ _), h1.below (unhide HA), h2.below (unhide HA), unhide HA⟩
  have HL := hide hl
  have HM := hide hm
  clear h1 h2 hl hm
  go_enter Try.func20, Try.ntmps20
  go_upto_region 1 with fail
  revert H0
  revert HR
  revert HA
  generalize hW0 : ((w.alloc _).alloc _) = W0
  have hsz0 : w.heap.size + 1 < W0.heap.size := by rw [← hW0]; simp
  clear hW0
  intro HA HR H0
  obtain ⟨v0, v1⟩ := (unhide H0).v.cells
  go_wp2_with fail
  refine (hostFault_any ao bo ca cb ss xs h _ (unhide HL) (unhide HM) (unhide H0).s (unhide H0).i).mono ?_
  rintro e w1 ⟨rfl, hb⟩
  have HD1 := hide ((unhide H0).next hb)
  have HR1 := hide ((unhide HR).below hb)
  have hsz1 : w.heap.size + 1 < w1.heap.size := Nat.lt_of_lt_of_le hsz0 hb.size
  clear hb v0 v1 H0 HR HA hsz0
  by_cases hc : hostC ss xs h = 0
  case neg =>
    have hbn : (hostC ss xs h != 0) = true := by simp [hc]
    have HE := hide (fo_bad (n := k) hc)
    clear hc
    obtain ⟨r0, r1⟩ := (unhide HR1).cells
    have rf0 := (unhide HR1).free 0
    have rf1 := (unhide HR1).free 1
    have HZ := hide (zero_end (w := w) (wL := w1) (unhide HD1).k (.slice none 0 0) (.slice none 0 0))
    go_wp2
    refine bodyPost_ret (v := .tuple #[.agg #[.slice none 0 0, .slice none 0 0], .int .i64 (hostC ss xs h)]) (by simp [results, Try.results20, go_sem, r0, r1]) rfl ?_
    rw [(unhide HE).1, (unhide HE).2.1, (unhide HE).2.2]
    exact ⟨none, 0, none, 0, rfl, zeroD_own, unhide HZ⟩
  have hbn : (hostC ss xs h != 0) = false := by simp [hc]
  have HDB := hide (hostC_eq hc).1
  obtain ⟨hh0, hh3⟩ := (hostC_eq hc).2
  have HC := hide hc
  have hlx := (diskB_len (unhide HDB)).2
  have HLS : Hid (ss.length ≤ 1048576) := hide (by have := (diskB_len (unhide HDB)).1; omega)
  clear hc
  have HNE : Hid (niF k = if inB k 0 12 = true then 0 else 4) := hide rfl
  go_wp2_with fail
  refine (newImage_impl k _).mono ?_
  rintro e w2 ⟨a, ts, rfl, ho, hb⟩
  have HD2 := hide ((unhide HD1).next hb)
  have HR2 := hide ((unhide HR1).below hb)
  have HIS := hide (ho.shows (fun s hs => by unfold niI imNew im0 at hs; split at hs <;> cases hs))
  have hsz2 : w.heap.size + 1 < w2.heap.size := Nat.lt_of_lt_of_le hsz1 hb.size
  clear ho hb HD1 HR1
  simp only
  generalize hNI : niI k = NI at *
  have HNI := hide hNI
  clear hNI
  have HVI := hide (VarM.new w2 26 (.slice a.ro NI.refs.length a.rc) (.slice a.tq NI.table.length a.tc) (.slice a.so NI.snaps.length a.sc) (.slice a.dq NI.data.length a.dc))
  have HAI := hide (Joins.below_alloc1 w2 (.cells #[.slice a.ro NI.refs.length a.rc, .slice a.tq NI.table.length a.tc, .slice a.so NI.snaps.length a.sc, .slice a.dq NI.data.length a.dc] 26))
  have HD3 := hide ((unhide HD2).next (unhide HAI))
  have HR3 := hide ((unhide HR2).below (unhide HAI))
  have HI3 := hide ((unhide HIS).below (unhide HAI))
  have hsz3 := Nat.lt_of_lt_of_le hsz2 (unhide HAI).size
  clear HD2 HR2 HIS
  go_upto_region 5 with fail
  revert hsz3
  revert HI3
  revert HR3
  revert HD3
  revert HAI
  revert HVI
  generalize w2.heap.size = xi
  generalize (w2.alloc _) = w3
  intro HVI HAI HD3 HR3 HI3 hsz3
  clear HAI hsz2 hsz1
  cases hp : inB k 0 12
  · have HE := hide (fo_range (unhide HC) hp)
    have HN4 : Hid (niF k = 4) := hide (by rw [unhide HNE, hp]; rfl)
    rw [unhide HN4]
    obtain ⟨r0, r1⟩ := (unhide HR3).cells
    have rf0 := (unhide HR3).free 0
    have rf1 := (unhide HR3).free 1
    have HZ := hide (zero_end (w := w) (wL := w3) (unhide HD3).k (.slice none 0 0) (.slice none 0 0))
    clear hp
    go_wp2
    refine bodyPost_ret (v := .tuple #[.agg #[.slice none 0 0, .slice none 0 0], .int .i64 4]) (by simp [results, Try.results20, go_sem, r0, r1]) rfl ?_
    rw [(unhide HE).1, (unhide HE).2.1, (unhide HE).2.2]
    exact ⟨none, 0, none, 0, rfl, zeroD_own, unhide HZ⟩
  obtain ⟨hk0, hk1⟩ := inB_eq hp
  obtain ⟨n, rfl⟩ : ∃ n : Nat, k = (n : Int) := ⟨k.toNat, by omega⟩
  have hn : n ≤ 12 := by omega
  have HN0 : Hid (niF (n : Int) = 0) := hide (by rw [unhide HNE, hp]; rfl)
  have HNM : Hid (NI = imNew n) := hide (by rw [← unhide HNI, niI, if_pos (unhide HN0)]; simp)
  rw [unhide HN0]
  have HIR := hide (ImR.new hn)
  have HP := hide hp
  clear hp HNI HNE
  replace HNM := unhide HNM
  subst HNM
  obtain ⟨i0, i1, i2, i3⟩ := (unhide HVI).cells
  go_wp2_with fail
  refine (recordsOf_any a (imNew n) _ (unhide HIR) (unhide HI3)).mono ?_
  rintro e w4 ⟨B, nb, D, rfl, hnb, hge, hmp, hb⟩
  have HD4 := hide ((unhide HD3).next hb)
  have HR4 := hide ((unhide HR3).below hb)
  have HMP := hide hmp
  have hsz4 := Nat.lt_of_lt_of_le hsz3 hb.size
  clear hmp hb i0 i1 i2 i3 HD3 HR3 hge hsz3
  go_wp2_with fail
  refine (recUps_any (imNew n) (unhide HIR) B nb D _ (unhide HMP) hnb).mono ?_
  rintro e w5 ⟨uo, ua, rfl, hu⟩
  have HD5 := hide ((unhide HD4).next hu.k)
  have HR5 := hide ((unhide HR4).below hu.k)
  have HU5 := hide hu.o
  clear hu HD4 HR4
  have HUL : Hid ((allU (imNew n)).length = 3) := hide (by rw [allU_new]; rfl)
  have HUZ : Hid (∀ u ∈ allU (imNew n), u.data.size ≤ maxLen) := hide (fun u hu => by have := allU_sz (unhide HIR) u hu; unfold maxLen; omega)
  have HUA : Hid (∀ u ∈ allU (imNew n), u.data.size ≤ 80 ∧ 0 ≤ u.at_ ∧ u.at_ ≤ 63) := hide (fun u hu => by
    refine ⟨allU_sz (unhide HIR) u hu, ?_⟩
    rw [allU_new] at hu
    simp only [headU, List.mem_cons, List.not_mem_nil, or_false] at hu
    rcases hu with rfl | rfl | rfl <;> simp)
  have HFU : Hid (fuW h n = fmW h (allU (imNew n))) := hide rfl
  obtain ⟨v0, v1⟩ := (unhide HD5).v.cells
  have wr1 : IntKind.i64.wrap ((xs.length : Int) + 3) = (xs.length : Int) + 3 := by rw [IntKind.wrap_i64]; omega
  rw [unhide HUL] at HU5 ⊢
  by_cases hf : 200 < xs.length + 3
  · have HW := hide (fo_full (unhide HC) (unhide HP) hf)
    have hfi : (xs.length : Int) + 3 > 200 := by omega
    go_wp2_with fail
    refine (copyDisk_any ao bo ca cb ss xs _ (unhide HLS) (by omega) (unhide HD5).s (unhide HD5).i).mono ?_
    rintro e w6 ⟨po, pa, qo, qa, rfl, ho, hb⟩
    have HR6 := hide ((unhide HR5).below hb)
    obtain ⟨r0, r1⟩ := (unhide HR6).cells
    have rf0 := (unhide HR6).free 0
    have rf1 := (unhide HR6).free 1
    have HO := hide (fun u v => md_end (unhide HR6) (fr (unhide HD5).k hb) (Nat.le_succ _) (ho.base (unhide HD5).k.size) u v)
    clear ho hb v0 v1
    go_wp2
    refine bodyPost_ret (v := .tuple #[.agg #[.slice po ss.length pa, .slice qo xs.length qa], .int .i64 7]) (by simp [results, Try.results20, go_sem, r0, r1]) rfl ?_
    rw [(unhide HW).1, (unhide HW).2.1, (unhide HW).2.2]
    exact ⟨po, pa, qo, qa, rfl, unhide HO _ _⟩
  have HW := hide (fo_ok (unhide HC) (unhide HP) hf)
  have hfi : ¬ ((xs.length : Int) + 3 > 200) := by omega
  have HRG := hide (fuW_right (n := n) (unhide HDB) ⟨hh0, hh3⟩ hn (by omega))
  rw [unhide HFU] at HRG HW
  clear HFU HMP HIR HI3 HVI
  generalize allU (imNew n) = us at *
  go_wp2
  clear v0 v1
  go_loopw [44] (fun i wr => ∃ (j : Nat) (XX : List Wr) (po : Option Addr) (pa : Nat) (qo : Option Addr) (qa : Nat), j ≤ 3 ∧ i = .int .i64 j ∧ Hid (xs ++ (fmW h us).take j = XX) ∧ Hid (DkA w wr w.heap.size po pa qo qa ss XX) ∧ Hid (VarD wr (w.heap.size + 1) (.slice none 0 0) (.slice none 0 0)) ∧ Hid (OwnR wr w4.heap.size 80 2 (.slice uo 3 ua) 3 (upsV us))) (fun i _ => 3 - (intOf i).toNat)
  case atStart => exact ⟨0, xs, ao, ca, bo, cb, by omega, rfl, hide (by simp), HD5, HR5, HU5⟩
  case round =>
    clear HD5 HR5 HU5
    obtain ⟨j, XX, po, pa, qo, qa, hj, rfl, HEX, HD, HR, HU⟩ := hrel
    by_cases hlt : j < 3
    · have hju : j < us.length := by rw [unhide HUL]; exact hlt
      have hji : (j : Int) < 3 := by omega
      have HUS : Hid (Ups wr uo us) := hide (by
        have h := unhide HU
        rw [← unhide HUL] at h
        exact ownUps h (unhide HUZ))
      obtain ⟨b, off, rfl, hu0, hu1, _⟩ := unhide HUS j hju
      have HX := hide (heap_alloc_new wr (.cells #[.int .i64 us[j].at_, .string us[j].data] 80))
      have HBX := hide (Joins.below_alloc1 wr (.cells #[.int .i64 us[j].at_, .string us[j].data] 80))
      go_upto_region 13 with fail
      revert HX
      revert HBX
      generalize (wr.alloc _) = w6
      intro HBX HX
      obtain ⟨x0, x1⟩ := VarU1.cells (u := us[j]) (unhide HX)
      have HD6 := hide ((unhide HD).next (unhide HBX))
      have HR6 := hide ((unhide HR).below (unhide HBX))
      have HU6 := hide ((unhide HU).below (unhide HBX))
      clear HX HBX hu0 hu1 HUS HD HR HU
      obtain ⟨d0, d1⟩ := (unhide HD6).v.cells
      obtain ⟨az, a0, a1⟩ := unhide HUA us[j] (List.getElem_mem hju)
      obtain ⟨X7, HX7⟩ : ∃ X7, Hid (xs ++ (fmW h us).take (j + 1) = X7) := ⟨_, hide rfl⟩
      have HN : Hid (XX ++ [⟨h, us[j].at_, us[j].data⟩] = X7) := hide (by rw [← unhide HX7, ← unhide HEX]; exact (fmW_succ hju xs).symm)
      have hXl : XX.length < 200 := by rw [← unhide HEX, List.length_append, List.length_take, fmW_len, unhide HUL]; omega
      have HDK : Hid (diskB ss XX = true) := hide (by rw [← unhide HEX]; exact take_right (unhide HRG) j)
      have HZK : Hid ((∀ s ∈ ss, s.size ≤ maxLen) ∧ ∀ x ∈ X7, x.data.size ≤ maxLen) := hide (by rw [← unhide HX7]; exact right_sz2 (take_right (unhide HRG) (j + 1)))
      go_wp2_with fail
      refine (write_own po qo pa qa ss XX h us[j].at_ us[j].data X7 _ (unhide HN) (unhide HDK) hXl az hh0 hh3 a0 a1 (unhide HD6).s (unhide HD6).i).mono ?_
      rintro e w7 ⟨po7, pa7, qo7, qa7, rfl, ho, hb⟩
      have HS7 := hide (ho.ss (unhide HZK).1)
      have HI7 := hide (ho.ios (unhide HZK).2)
      have HD7 := hide ((unhide HD6).next hb)
      have HR7 := hide ((unhide HR6).below hb)
      have HU7 := hide ((unhide HU6).below hb)
      clear ho hb d0 d1 x0 x1 HD6 HR6 HU6 HDK HZK HN
      obtain ⟨t0, t1⟩ := (unhide HD7).v.cells
      have tf0 := (unhide HD7).v.free 0
      have tf1 := (unhide HD7).v.free 1
      have HDn := hide ((unhide HD7).put (pa' := pa7) (qa' := qa7) (Nat.le_refl _) rfl rfl (unhide HS7) (unhide HI7))
      have HRn := hide (((unhide HR7).apart (y := w.heap.size) (by omega) 0 (.slice po7 ss.length pa7)).apart (y := w.heap.size) (by omega) 1 (.slice qo7 X7.length qa7))
      have HUn := hide (UpS.setC (unhide HU7) (x := w.heap.size) (by omega) (.slice po7 ss.length pa7) (.slice qo7 X7.length qa7))
      go_wp2
      go_roundw
      case rel => exact ⟨j + 1, X7, po7, pa7, qo7, qa7, by omega, by go_num, HX7, HDn, HRn, HUn⟩
      case measure => simp [intOf]; omega
    · obtain rfl : j = 3 := by omega
      have HDE := HD
      have HXE : Hid (xs ++ fmW h us = XX) := hide (by
        have := unhide HEX
        rwa [List.take_of_length_le (by rw [fmW_len, unhide HUL]; exact Nat.le_refl _)] at this)
      clear HD HU
      rw [unhide HXE] at HW HRG
      obtain ⟨S, HES⟩ : ∃ S, Hid (putW ss (ofH h XX) = S) := ⟨_, hide rfl⟩
      obtain ⟨Y, HEY⟩ : ∃ Y, Hid (dropF h XX = Y) := ⟨_, hide rfl⟩
      rw [unhide HES, unhide HEY] at HW
      obtain ⟨d0, d1⟩ := (unhide HDE).v.cells
      go_wp2_with fail
      refine (flush_own po qo pa qa ss XX h S Y _ (unhide HES) (unhide HEY) (unhide HRG) hh0 hh3 (unhide HDE).s (unhide HDE).i).mono ?_
      rintro e w8 ⟨po8, pa8, qo8, qa8, rfl, ho, hb⟩
      have HR8 := hide ((unhide HR).below hb)
      obtain ⟨r0, r1⟩ := (unhide HR8).cells
      have rf0 := (unhide HR8).free 0
      have rf1 := (unhide HR8).free 1
      have HO := hide (fun u v => md_end (unhide HR8) (fr (unhide HDE).k hb) (Nat.le_succ _) (ho.base (unhide HDE).k.size) u v)
      clear ho hb d0 d1
      go_wp2
      refine bodyPost_ret (v := .tuple #[.agg #[.slice po8 S.length pa8, .slice qo8 Y.length qa8], .int .i64 0]) (by simp [results, Try.results20, go_sem, r0, r1]) rfl ?_
      rw [(unhide HW).1, (unhide HW).2.1, (unhide HW).2.2]
      exact ⟨po8, pa8, qo8, qa8, rfl, unhide HO _ _⟩

end Go.Proofs.Ytpdpnepnfhbonaa

namespace Go.Proofs.Ytpdpnepnfhbonaa
open Go.RowKit
set_option linter.unusedVariables false
set_option maxRecDepth 100000

theorem fo_bd (ss : List ByteArray) (xs : List Wr) (h k : Int) : (∀ s ∈ foS ss xs h k, s.size ≤ maxLen) ∧ (∀ x ∈ foX ss xs h k, x.data.size ≤ maxLen) ∧ (foS ss xs h k).length ≤ 2097152 ∧ (foX ss xs h k).length ≤ 2097152 := by
  by_cases hc : hostC ss xs h = 0
  case neg =>
    obtain ⟨e1, e2, _⟩ := fo_bad (n := k) hc
    rw [e1, e2]
    simp
  obtain ⟨hd, hh⟩ := hostC_eq hc
  obtain ⟨l1, l2⟩ := diskB_len hd
  cases hp : inB k 0 12
  · obtain ⟨e1, e2, _⟩ := fo_range hc hp
    rw [e1, e2]
    simp
  obtain ⟨hk0, hk1⟩ := inB_eq hp
  obtain ⟨n, rfl⟩ : ∃ n : Nat, k = (n : Int) := ⟨k.toNat, by omega⟩
  by_cases hf : 200 < xs.length + 3
  · obtain ⟨e1, e2, _⟩ := fo_full hc hp hf
    rw [e1, e2]
    have := right_sz2 hd
    exact ⟨this.1, this.2, by omega, by omega⟩
  · obtain ⟨e1, e2, _⟩ := fo_ok hc hp hf
    rw [e1, e2]
    have hp2 := fuW_right (n := n) hd hh (by omega) (by omega)
    have := right_sz2 (S := putW ss (ofH h (xs ++ fuW h n))) (X := dropF h (xs ++ fuW h n)) (diskB_put hp2 (fun x hx => of_mem hx) (fun x hx => drop_mem hx) (drop_le h (xs ++ fuW h n)))
    refine ⟨this.1, this.2, by rw [put_len]; omega, ?_⟩
    have := drop_le h (xs ++ fuW h n)
    rw [List.length_append, fuW_len] at this
    omega
theorem wkFormat (ao bo : Option Addr) (ca cb : Nat) (ss : List ByteArray) (xs : List Wr) (h k : Int) (w : World) (hl : ss.length ≤ maxLen) (hm : xs.length ≤ maxLen) (hc : Ss w ao ss) (hd : Ios w bo xs) (hh : (Lit.int .i64 h).wf = true) (hk : (Lit.int .i64 k).wf = true) :
    Calls Try.prog 4 #[.agg #[.slice ao ss.length ca, .slice bo xs.length cb], .int .i64 h, .int .i64 k] w fun e w' => e = .returned (.bool true) ∧ Below w.heap.size w w' :=
  lawFormat ao bo ca cb ss xs h k (foS ss xs h k) (foX ss xs h k) (foC ss xs h k) w hl hm hc hd hh hk (fo_bd ss xs h k)
    (fun po qo pa qa W h1 h2 => format_spec po qo pa qa ss xs h k W hl hm h1 h2) (fun po qo pa qa W h1 h2 => format_impl po qo pa qa ss xs h k W hl hm h1 h2)

end Go.Proofs.Ytpdpnepnfhbonaa
