import Derived.Test.YtpdpnepnfhbonaaGreatRows
import Derived.Test.YtpdpnepnfhbonaaGreatXDiffUpdatesPart1
import Derived.Test.YtpdpnepnfhbonaaGreatXDiffUpdatesPart3
import Derived.Test.YtpdpnepnfhbonaaGreatXDiffUpdatesPart6
import Derived.Test.YtpdpnepnfhbonaaGreatXDiffUpdatesPart7
import Derived.Test.YtpdpnepnfhbonaaGreatXDiffUpdatesPart2
import Derived.Test.YtpdpnepnfhbonaaGreatXDiffUpdatesPart4
import Derived.Test.YtpdpnepnfhbonaaGreatXDiffUpdatesPart5
import Derived.WalkKit
import Derived.WalkSpells
import Derived.KernelRfl
import Derived.LoopN
import Derived.Deep.CutRange
import Derived.Deep.MidRow
import Derived.BigQuiet
import Derived.Deep.QuietTactic

namespace Go.Proofs.YtpdpnepnfhbonaaGreat
open Go.RowKit Go.Maps
set_option linter.unusedVariables false
set_option maxRecDepth 100000

theorem belowMap {W w w' : World} {B : Nat} (hb : Below W.heap.size W w) (hB : W.heap.size ≤ B) (hg : w.grownBy w' (some B)) : Below W.heap.size W w' :=
  ⟨hg.os.trans hb.os, hg.tape.trans hb.tape, hg.output.trans hb.output, Nat.le_trans hb.size hg.size, fun k hk => (hg.block k (Nat.lt_of_lt_of_le hk hb.size) (fun e => by have := Option.some.inj e; omega)).trans (hb.block k hk)⟩
def rc2 (m : Img) : Nat → Option Rc := setF (setF (fun _ => none) 9 (1, supL m)) 10 (2, ctNs m.refs)
theorem rc2_swap (m : Img) : setF (setF (fun _ => none) 10 (2, ctNs m.refs)) 9 (1, supL m) = rc2 m := by
  funext p
  simp only [rc2, setF]
  by_cases h1 : p = 9
  · subst h1; simp
  · by_cases h2 : p = 10
    · subst h2; simp
    · simp [h1, h2]
theorem mp_swap {w : World} {B n : Nat} {D : DataW Value} {m : Img} (h : MpR w B n D (setF (setF (fun _ => none) 10 (2, ctNs m.refs)) 9 (1, supL m))) : MpR w B n D (rc2 m) := rc2_swap m ▸ h
theorem exec_load {P : Program} {ρ : Operand → Value} {o : Oper} {ty : TypeId} {x : Operand} {p v : Value} {W : World} (ho : o.op = .load ty x) (hx : ρ x = p) (h : (Instr.loadAt ty p).run P W = .ok v W) : (execOp ρ o).run P W = .ok (.value v) W := by
  simp [execOp, ho, hx, h, Result.andThen]
theorem wpList_rec {w : World} {ops : Array Oper} {rest : List Oper} {o : Oper} {a : Act} {Q : Exit → Act → World → Prop} (hg : o.guard = none) (m x v : Operand) (hop : o.op = Op.mapUpdate 61 m x v)
    {B n p : Nat} {D : DataW Value} {f : Nat → Option Rc} {y : Int} (r : Rc) (ao : Option Addr) (cap : Nat) (hm : a.eval m = .map (some B)) (h : MpR w B n D f) (hn : n < 1000000) (hx : a.eval x = .int .i64 y) (hy : y = (p : Int)) (hp : p < 64) (hv : a.eval v = rcV r ao cap) (hi : Is w ao r.2)
    (hK : ∀ w' D', MpR w' B (n + 1) D' (setF f p r) → w.grownBy w' (some B) → wpList Tryz.prog ops Q rest (a.put o.dst undef) w') : wpList Tryz.prog ops Q (o :: rest) a w := by
  refine wpList_plain hg fun K' hK' => ?_
  subst hy
  obtain ⟨w', D', hrun, r1, r2⟩ := h.update hn hp r ao cap hi
  unfold Oper.wp
  simp [execOp, hop, hm, hx, hv, hrun, Result.andThen]
  exact hK' _ _ (hK w' D' r1 r2)
theorem rowT_turned {w w' : World} {B n : Nat} {D : DataW Value} (h : w.ownsMap Tryz.prog 3 recR B n D) (hg : w.grownBy w' (some B)) {qo : Option Addr} {ts : List (List Int)} (ht : RowT w qo ts) : RowT w' qo ts := fun j hj => by
  obtain ⟨b, off, tq, tc, e, h1, h2⟩ := ht j hj
  exact ⟨b, off, tq, tc, e, cell_turned hg h1 (own_noCell h h1), is_turned h hg h2⟩
set_option maxHeartbeats 6400000 in
theorem recordsOf_any (a : Im4) (m : Img) (w : World) (hR : ImR m) (hc : ImS w a m) :
    Calls Tryz.prog 33 #[imV a m] w fun e w' => ∃ B n D, e = .returned (.map (some B)) ∧ n ≤ 1000 ∧ w.heap.size ≤ B ∧ MpR w' B n D (rcAt m) ∧ Below w.heap.size w w' := by
  have HA := hide (Joins.below_alloc1 w (.cells #[.slice a.ro m.refs.length a.rc, .slice a.tq m.table.length a.tc, .slice a.so m.snaps.length a.sc, .slice a.dq m.data.length a.dc] 32))
  have HV := hide (VarM.new w 32 (.slice a.ro m.refs.length a.rc) (.slice a.tq m.table.length a.tc) (.slice a.so m.snaps.length a.sc) (.slice a.dq m.data.length a.dc))
  have HC := hide (hc.below (unhide HA))
  have HR := hide hR
  have hs3 := hR.few
  have HRL := hide hR.rl
  have HDL := hide hR.len
  obtain ⟨b0, off0, ero, hr0⟩ := (unhide HC).r.range (by rw [hR.rl]; omega)
  have HR0 := hide hr0
  have HRO := hide ero
  have har : ∀ W : World, (Instr.arrayAt 99 (.slice a.ro m.refs.length a.rc)).run Tryz.prog W = .ok (.pointer (some ⟨b0, off0, none⟩)) W := fun W => by rw [ero]; exact run_arrayAt (w := W) 99 3 24 _ _ _ und24 (by rw [hR.rl]; exact Nat.le_refl _)
  have HAR := hide har
  clear hc hR hr0 har ero
  have hmm := @run_makeMap Tryz.prog
  go_enter Tryz.func33, Tryz.ntmps33
  go_upto_region 1 with fail
  revert HA HV HC HR0
  generalize (w.alloc _) = W0
  intro HA HV HC HR0
  have HBD : Hid (Below W0.heap.size W0 W0.drew) := hide (Below.refl _ _).drew
  go_cut [3] from 8 to 20 (fun v wx => ∃ (B : Nat) (D : DataW Value), v = .map (some B) ∧ Hid (MpR wx B 2 D (rc2 m)) ∧ Hid (W0.heap.size ≤ B) ∧ Hid (Below W0.heap.size W0 wx))
  case first =>
    have hS0 := unhide HBD
    have hld : ∀ W : World, Below W0.heap.size W0 W → (Instr.loadAt 99 (.pointer (some ⟨b0, off0, none⟩))).run Tryz.prog W = .ok (ctV m.refs) W := fun W hW => by
      have hr : W.rangeAt b0 off0 (intV m.refs) := fun j v hv => (hW.cell (p := ⟨b0, off0 + j, none⟩) (World.block_lt_of_cell? _ _ (unhide HR0 j v hv))).trans (unhide HR0 j v hv)
      exact run_loadAt_mid W b0 off0 99 (intV m.refs) _ hr und24 rfl (sizeL (unhide HRL))
    have har := unhide HAR
    refine wp_region_tree (fun w' => Below W0.heap.size W0 w') [0, 1, 2, 3, 4, 5, 6, 7, 8, 9, 10, 11, 12, 13, 14] (by kernel_rfl) ?_
    refine tree_seg (n := 9) [(1, 0), (2, 0), (6, 0), (7, 0), (8, 0), (9, 0)] (by kernel_rfl) rfl (by kernel_rfl) ?_
    refine ord_read (.pointer (some ⟨w.heap.size, 2, none⟩)) rfl rfl hS0 (fun W hW => by go_simp) ?_
    refine ord_read (.slice a.so m.snaps.length a.sc) rfl rfl hS0 (fun W hW => by obtain ⟨k0, k1, k2, k3⟩ := ((unhide HV).below hW).cells; go_simp) ?_
    refine ord_read (.pointer (some ⟨w.heap.size, 0, none⟩)) rfl rfl hS0 (fun W hW => by go_simp) ?_
    refine ord_read (.slice a.ro m.refs.length a.rc) rfl rfl hS0 (fun W hW => by obtain ⟨k0, k1, k2, k3⟩ := ((unhide HV).below hW).cells; go_simp) ?_
    refine ord_read (.pointer (some ⟨b0, off0, none⟩)) rfl rfl hS0 (fun W hW => by have := har W; go_simp) ?_
    refine ord_read (ctV m.refs) rfl rfl hS0 (fun W hW => exec_load rfl rfl (hld W hW)) ?_
    refine ord_end ?_
    clear hS0 hld har
    revert HBD
    generalize W0.drew = WD
    intro HBD
    refine tree_two (fuel := 8) (i := 0) (j := 3) rfl rfl rfl rfl (by kernel_rfl) ?ta1 ?tb2
    case ta1 =>
      intro K hK
      unfold Oper.wp
      go_simp
      have HB3 := hide (fr (unhide HBD) (Joins.below_alloc1 (WD) (.map #[] 0)))
      have HM3 := hide (MpR.made (WD))
      have HG3 := hide (unhide HBD).size
      refine hK _ _ (fun _ => unhide HB3) ?_
      clear hK K
      revert HB3
      revert HM3
      revert HG3
      generalize (WD).heap.size = MB
      generalize ((WD).alloc _) = w3
      intro HG3
      intro HM3
      intro HB3
      refine tree_seg (n := 6) [(3, 2), (4, 0)] (by kernel_rfl) rfl (by kernel_rfl) ?_
      refine ord_held rfl rfl ?_
      intro K hK
      unfold Oper.wp
      go_simp
      refine (packNames_any a.so a.sc m _ (unhide HR) ((unhide HC).s.below (unhide HB3))).mono ?_
      rintro e w4 ⟨po, pa, rfl, hi, hb⟩
      have HB4 := hide (fr (unhide HB3) hb)
      have HM4 := hide ((unhide HM3).below hb)
      have HP4 := hide hi
      clear hi hb
      refine hK _ _ (unhide HB4) ?_
      clear hK K
      refine ord_read (rcV (1, supL m) po pa) rfl rfl (unhide HB4) (fun W hW => by go_simp; first | done | rfl) ?_
      refine ord_end ?_
      refine tree_two (fuel := 5) (i := 5) (j := 10) rfl rfl rfl rfl (by kernel_rfl) ?ta5 ?tb6
      case ta5 =>
        intro K hK
        unfold Oper.wp
        obtain ⟨w7, D7, hrun, hm2, hg2⟩ := (unhide HM4).update (by omega) (p := 9) (by omega) (1, supL m) po pa (unhide HP4)
        have hrun2 : (Instr.mapUpdate 61 (.map (some MB)) (.int .i64 9) (rcV (1, supL m) po pa)).run Tryz.prog w4 = .ok () w7 := hrun
        have HB7 := hide (belowMap (unhide HB4) (unhide HG3) hg2)
        have HP7 := hide (is_turned (unhide HM4).own hg2 (unhide HP4))
        have HM7 := hide hm2
        clear hm2 hg2 hrun
        go_simp
        refine hK _ _ (fun _ => unhide HB7) ?_
        clear hrun2
        clear hK K
        refine tree_seg (n := 0) [(10, 2), (11, 0), (12, 2), (13, 0), (14, 0)] (by kernel_rfl) rfl (by kernel_rfl) ?_
        refine ord_held rfl rfl ?_
        intro K hK
        unfold Oper.wp
        go_simp
        refine (numbersC_any m.refs _ (unhide HR).refs).mono ?_
        rintro e w8 ⟨qg, rfl, hge, hq, hb⟩
        have HB8 := hide (fr (unhide HB7) hb)
        have HM8 := hide ((unhide HM7).below hb)
        have HP8 := hide ((unhide HP7).below hb)
        have HQ8 := hide (Is.of_block hq)
        clear hq hb hge
        refine hK _ _ (unhide HB8) ?_
        clear hK K
        refine ord_read (rcV (2, ctNs m.refs) (some ⟨qg, 0, none⟩) 4) rfl rfl (unhide HB8) (fun W hW => by go_simp; first | done | rfl) ?_
        refine ord_held rfl rfl ?_
        intro K hK
        unfold Oper.wp
        obtain ⟨w9, D9, hrun, hm2, hg2⟩ := (unhide HM8).update (by omega) (p := 10) (by omega) (2, ctNs m.refs) (some ⟨qg, 0, none⟩) 4 (unhide HQ8)
        have hrun2 : (Instr.mapUpdate 61 (.map (some MB)) (.int .i64 10) (rcV (2, ctNs m.refs) (some ⟨qg, 0, none⟩) 4)).run Tryz.prog w8 = .ok () w9 := hrun
        have HB9 := hide (belowMap (unhide HB8) (unhide HG3) hg2)
        have HP9 := hide (is_turned (unhide HM8).own hg2 (unhide HP8))
        have HQ9 := hide (is_turned (unhide HM8).own hg2 (unhide HQ8))
        have HM9 := hide hm2
        clear hm2 hg2 hrun
        go_simp
        refine hK _ _ (unhide HB9) ?_
        clear hrun2
        clear hK K
        refine ord_read (.map (some MB)) rfl rfl (unhide HB9) (fun W hW => by go_simp; first | done | rfl) ?_
        refine ord_read (.map (some MB)) rfl rfl (unhide HB9) (fun W hW => by go_simp; first | done | rfl) ?_
        refine ord_end ?_
        refine tree_done (by kernel_rfl) ?_
        go_wp2_with fail
        go_meet
        exact ⟨MB, _, rfl, hide (by first | exact unhide HM9 | exact mp_swap (unhide HM9)), HG3, HB9⟩
      case tb6 =>
        intro K hK
        unfold Oper.wp
        go_simp
        refine (numbersC_any m.refs _ (unhide HR).refs).mono ?_
        rintro e w10 ⟨qg, rfl, hge, hq, hb⟩
        have HB10 := hide (fr (unhide HB4) hb)
        have HM10 := hide ((unhide HM4).below hb)
        have HP10 := hide ((unhide HP4).below hb)
        have HQ10 := hide (Is.of_block hq)
        clear hq hb hge
        refine hK _ _ (fun _ => unhide HB10) ?_
        clear hK K
        refine tree_seg (n := 4) [(11, 0)] (by kernel_rfl) rfl (by kernel_rfl) ?_
        refine ord_read (rcV (2, ctNs m.refs) (some ⟨qg, 0, none⟩) 4) rfl rfl (unhide HB10) (fun W hW => by go_simp; first | done | rfl) ?_
        refine ord_end ?_
        refine tree_two (fuel := 3) (i := 5) (j := 12) rfl rfl rfl rfl (by kernel_rfl) ?ta11 ?tb12
        case ta11 =>
          intro K hK
          unfold Oper.wp
          obtain ⟨w13, D13, hrun, hm2, hg2⟩ := (unhide HM10).update (by omega) (p := 9) (by omega) (1, supL m) po pa (unhide HP10)
          have hrun2 : (Instr.mapUpdate 61 (.map (some MB)) (.int .i64 9) (rcV (1, supL m) po pa)).run Tryz.prog w10 = .ok () w13 := hrun
          have HB13 := hide (belowMap (unhide HB10) (unhide HG3) hg2)
          have HP13 := hide (is_turned (unhide HM10).own hg2 (unhide HP10))
          have HQ13 := hide (is_turned (unhide HM10).own hg2 (unhide HQ10))
          have HM13 := hide hm2
          clear hm2 hg2 hrun
          go_simp
          refine hK _ _ (fun _ => unhide HB13) ?_
          clear hrun2
          clear hK K
          refine tree_seg (n := 0) [(12, 2), (13, 0), (14, 0)] (by kernel_rfl) rfl (by kernel_rfl) ?_
          refine ord_held rfl rfl ?_
          intro K hK
          unfold Oper.wp
          obtain ⟨w14, D14, hrun, hm2, hg2⟩ := (unhide HM13).update (by omega) (p := 10) (by omega) (2, ctNs m.refs) (some ⟨qg, 0, none⟩) 4 (unhide HQ13)
          have hrun2 : (Instr.mapUpdate 61 (.map (some MB)) (.int .i64 10) (rcV (2, ctNs m.refs) (some ⟨qg, 0, none⟩) 4)).run Tryz.prog w13 = .ok () w14 := hrun
          have HB14 := hide (belowMap (unhide HB13) (unhide HG3) hg2)
          have HP14 := hide (is_turned (unhide HM13).own hg2 (unhide HP13))
          have HQ14 := hide (is_turned (unhide HM13).own hg2 (unhide HQ13))
          have HM14 := hide hm2
          clear hm2 hg2 hrun
          go_simp
          refine hK _ _ (unhide HB14) ?_
          clear hrun2
          clear hK K
          refine ord_read (.map (some MB)) rfl rfl (unhide HB14) (fun W hW => by go_simp; first | done | rfl) ?_
          refine ord_read (.map (some MB)) rfl rfl (unhide HB14) (fun W hW => by go_simp; first | done | rfl) ?_
          refine ord_end ?_
          refine tree_done (by kernel_rfl) ?_
          go_wp2_with fail
          go_meet
          exact ⟨MB, _, rfl, hide (by first | exact unhide HM14 | exact mp_swap (unhide HM14)), HG3, HB14⟩
        case tb12 =>
          intro K hK
          unfold Oper.wp
          obtain ⟨w15, D15, hrun, hm2, hg2⟩ := (unhide HM10).update (by omega) (p := 10) (by omega) (2, ctNs m.refs) (some ⟨qg, 0, none⟩) 4 (unhide HQ10)
          have hrun2 : (Instr.mapUpdate 61 (.map (some MB)) (.int .i64 10) (rcV (2, ctNs m.refs) (some ⟨qg, 0, none⟩) 4)).run Tryz.prog w10 = .ok () w15 := hrun
          have HB15 := hide (belowMap (unhide HB10) (unhide HG3) hg2)
          have HP15 := hide (is_turned (unhide HM10).own hg2 (unhide HP10))
          have HQ15 := hide (is_turned (unhide HM10).own hg2 (unhide HQ10))
          have HM15 := hide hm2
          clear hm2 hg2 hrun
          go_simp
          refine hK _ _ (fun _ => unhide HB15) ?_
          clear hrun2
          clear hK K
          refine tree_seg (n := 0) [(5, 2), (13, 0), (14, 0)] (by kernel_rfl) rfl (by kernel_rfl) ?_
          refine ord_held rfl rfl ?_
          intro K hK
          unfold Oper.wp
          obtain ⟨w16, D16, hrun, hm2, hg2⟩ := (unhide HM15).update (by omega) (p := 9) (by omega) (1, supL m) po pa (unhide HP15)
          have hrun2 : (Instr.mapUpdate 61 (.map (some MB)) (.int .i64 9) (rcV (1, supL m) po pa)).run Tryz.prog w15 = .ok () w16 := hrun
          have HB16 := hide (belowMap (unhide HB15) (unhide HG3) hg2)
          have HP16 := hide (is_turned (unhide HM15).own hg2 (unhide HP15))
          have HQ16 := hide (is_turned (unhide HM15).own hg2 (unhide HQ15))
          have HM16 := hide hm2
          clear hm2 hg2 hrun
          go_simp
          refine hK _ _ (unhide HB16) ?_
          clear hrun2
          clear hK K
          refine ord_read (.map (some MB)) rfl rfl (unhide HB16) (fun W hW => by go_simp; first | done | rfl) ?_
          refine ord_read (.map (some MB)) rfl rfl (unhide HB16) (fun W hW => by go_simp; first | done | rfl) ?_
          refine ord_end ?_
          refine tree_done (by kernel_rfl) ?_
          go_wp2_with fail
          go_meet
          exact ⟨MB, _, rfl, hide (by first | exact unhide HM16 | exact mp_swap (unhide HM16)), HG3, HB16⟩
    case tb2 =>
      intro K hK
      unfold Oper.wp
      go_simp
      refine (packNames_any a.so a.sc m _ (unhide HR) ((unhide HC).s.below (unhide HBD))).mono ?_
      rintro e w17 ⟨po, pa, rfl, hi, hb⟩
      have HB17 := hide (fr (unhide HBD) hb)
      have HP17 := hide hi
      clear hi hb
      refine hK _ _ (fun _ => unhide HB17) ?_
      clear hK K
      refine tree_seg (n := 7) [(4, 0)] (by kernel_rfl) rfl (by kernel_rfl) ?_
      refine ord_read (rcV (1, supL m) po pa) rfl rfl (unhide HB17) (fun W hW => by go_simp; first | done | rfl) ?_
      refine ord_end ?_
      refine tree_two (fuel := 6) (i := 0) (j := 10) rfl rfl rfl rfl (by kernel_rfl) ?ta18 ?tb19
      case ta18 =>
        intro K hK
        unfold Oper.wp
        go_simp
        have HB20 := hide (fr (unhide HB17) (Joins.below_alloc1 (w17) (.map #[] 0)))
        have HP20 := hide ((unhide HP17).below (Joins.below_alloc1 (w17) (.map #[] 0)))
        have HM20 := hide (MpR.made (w17))
        have HG20 := hide (unhide HB17).size
        refine hK _ _ (fun _ => unhide HB20) ?_
        clear hK K
        revert HB20
        revert HM20
        revert HG20
        revert HP20
        generalize (w17).heap.size = MB
        generalize ((w17).alloc _) = w20
        intro HP20
        intro HG20
        intro HM20
        intro HB20
        refine tree_two (fuel := 5) (i := 5) (j := 10) rfl rfl rfl rfl (by kernel_rfl) ?ta21 ?tb22
        case ta21 =>
          intro K hK
          unfold Oper.wp
          obtain ⟨w23, D23, hrun, hm2, hg2⟩ := (unhide HM20).update (by omega) (p := 9) (by omega) (1, supL m) po pa (unhide HP20)
          have hrun2 : (Instr.mapUpdate 61 (.map (some MB)) (.int .i64 9) (rcV (1, supL m) po pa)).run Tryz.prog w20 = .ok () w23 := hrun
          have HB23 := hide (belowMap (unhide HB20) (unhide HG20) hg2)
          have HP23 := hide (is_turned (unhide HM20).own hg2 (unhide HP20))
          have HM23 := hide hm2
          clear hm2 hg2 hrun
          go_simp
          refine hK _ _ (fun _ => unhide HB23) ?_
          clear hrun2
          clear hK K
          refine tree_seg (n := 0) [(10, 2), (11, 0), (12, 2), (13, 0), (14, 0)] (by kernel_rfl) rfl (by kernel_rfl) ?_
          refine ord_held rfl rfl ?_
          intro K hK
          unfold Oper.wp
          go_simp
          refine (numbersC_any m.refs _ (unhide HR).refs).mono ?_
          rintro e w24 ⟨qg, rfl, hge, hq, hb⟩
          have HB24 := hide (fr (unhide HB23) hb)
          have HM24 := hide ((unhide HM23).below hb)
          have HP24 := hide ((unhide HP23).below hb)
          have HQ24 := hide (Is.of_block hq)
          clear hq hb hge
          refine hK _ _ (unhide HB24) ?_
          clear hK K
          refine ord_read (rcV (2, ctNs m.refs) (some ⟨qg, 0, none⟩) 4) rfl rfl (unhide HB24) (fun W hW => by go_simp; first | done | rfl) ?_
          refine ord_held rfl rfl ?_
          intro K hK
          unfold Oper.wp
          obtain ⟨w25, D25, hrun, hm2, hg2⟩ := (unhide HM24).update (by omega) (p := 10) (by omega) (2, ctNs m.refs) (some ⟨qg, 0, none⟩) 4 (unhide HQ24)
          have hrun2 : (Instr.mapUpdate 61 (.map (some MB)) (.int .i64 10) (rcV (2, ctNs m.refs) (some ⟨qg, 0, none⟩) 4)).run Tryz.prog w24 = .ok () w25 := hrun
          have HB25 := hide (belowMap (unhide HB24) (unhide HG20) hg2)
          have HP25 := hide (is_turned (unhide HM24).own hg2 (unhide HP24))
          have HQ25 := hide (is_turned (unhide HM24).own hg2 (unhide HQ24))
          have HM25 := hide hm2
          clear hm2 hg2 hrun
          go_simp
          refine hK _ _ (unhide HB25) ?_
          clear hrun2
          clear hK K
          refine ord_read (.map (some MB)) rfl rfl (unhide HB25) (fun W hW => by go_simp; first | done | rfl) ?_
          refine ord_read (.map (some MB)) rfl rfl (unhide HB25) (fun W hW => by go_simp; first | done | rfl) ?_
          refine ord_end ?_
          refine tree_done (by kernel_rfl) ?_
          go_wp2_with fail
          go_meet
          exact ⟨MB, _, rfl, hide (by first | exact unhide HM25 | exact mp_swap (unhide HM25)), HG20, HB25⟩
        case tb22 =>
          intro K hK
          unfold Oper.wp
          go_simp
          refine (numbersC_any m.refs _ (unhide HR).refs).mono ?_
          rintro e w26 ⟨qg, rfl, hge, hq, hb⟩
          have HB26 := hide (fr (unhide HB20) hb)
          have HM26 := hide ((unhide HM20).below hb)
          have HP26 := hide ((unhide HP20).below hb)
          have HQ26 := hide (Is.of_block hq)
          clear hq hb hge
          refine hK _ _ (fun _ => unhide HB26) ?_
          clear hK K
          refine tree_seg (n := 4) [(11, 0)] (by kernel_rfl) rfl (by kernel_rfl) ?_
          refine ord_read (rcV (2, ctNs m.refs) (some ⟨qg, 0, none⟩) 4) rfl rfl (unhide HB26) (fun W hW => by go_simp; first | done | rfl) ?_
          refine ord_end ?_
          refine tree_two (fuel := 3) (i := 5) (j := 12) rfl rfl rfl rfl (by kernel_rfl) ?ta27 ?tb28
          case ta27 =>
            intro K hK
            unfold Oper.wp
            obtain ⟨w29, D29, hrun, hm2, hg2⟩ := (unhide HM26).update (by omega) (p := 9) (by omega) (1, supL m) po pa (unhide HP26)
            have hrun2 : (Instr.mapUpdate 61 (.map (some MB)) (.int .i64 9) (rcV (1, supL m) po pa)).run Tryz.prog w26 = .ok () w29 := hrun
            have HB29 := hide (belowMap (unhide HB26) (unhide HG20) hg2)
            have HP29 := hide (is_turned (unhide HM26).own hg2 (unhide HP26))
            have HQ29 := hide (is_turned (unhide HM26).own hg2 (unhide HQ26))
            have HM29 := hide hm2
            clear hm2 hg2 hrun
            go_simp
            refine hK _ _ (fun _ => unhide HB29) ?_
            clear hrun2
            clear hK K
            refine tree_seg (n := 0) [(12, 2), (13, 0), (14, 0)] (by kernel_rfl) rfl (by kernel_rfl) ?_
            refine ord_held rfl rfl ?_
            intro K hK
            unfold Oper.wp
            obtain ⟨w30, D30, hrun, hm2, hg2⟩ := (unhide HM29).update (by omega) (p := 10) (by omega) (2, ctNs m.refs) (some ⟨qg, 0, none⟩) 4 (unhide HQ29)
            have hrun2 : (Instr.mapUpdate 61 (.map (some MB)) (.int .i64 10) (rcV (2, ctNs m.refs) (some ⟨qg, 0, none⟩) 4)).run Tryz.prog w29 = .ok () w30 := hrun
            have HB30 := hide (belowMap (unhide HB29) (unhide HG20) hg2)
            have HP30 := hide (is_turned (unhide HM29).own hg2 (unhide HP29))
            have HQ30 := hide (is_turned (unhide HM29).own hg2 (unhide HQ29))
            have HM30 := hide hm2
            clear hm2 hg2 hrun
            go_simp
            refine hK _ _ (unhide HB30) ?_
            clear hrun2
            clear hK K
            refine ord_read (.map (some MB)) rfl rfl (unhide HB30) (fun W hW => by go_simp; first | done | rfl) ?_
            refine ord_read (.map (some MB)) rfl rfl (unhide HB30) (fun W hW => by go_simp; first | done | rfl) ?_
            refine ord_end ?_
            refine tree_done (by kernel_rfl) ?_
            go_wp2_with fail
            go_meet
            exact ⟨MB, _, rfl, hide (by first | exact unhide HM30 | exact mp_swap (unhide HM30)), HG20, HB30⟩
          case tb28 =>
            intro K hK
            unfold Oper.wp
            obtain ⟨w31, D31, hrun, hm2, hg2⟩ := (unhide HM26).update (by omega) (p := 10) (by omega) (2, ctNs m.refs) (some ⟨qg, 0, none⟩) 4 (unhide HQ26)
            have hrun2 : (Instr.mapUpdate 61 (.map (some MB)) (.int .i64 10) (rcV (2, ctNs m.refs) (some ⟨qg, 0, none⟩) 4)).run Tryz.prog w26 = .ok () w31 := hrun
            have HB31 := hide (belowMap (unhide HB26) (unhide HG20) hg2)
            have HP31 := hide (is_turned (unhide HM26).own hg2 (unhide HP26))
            have HQ31 := hide (is_turned (unhide HM26).own hg2 (unhide HQ26))
            have HM31 := hide hm2
            clear hm2 hg2 hrun
            go_simp
            refine hK _ _ (fun _ => unhide HB31) ?_
            clear hrun2
            clear hK K
            refine tree_seg (n := 0) [(5, 2), (13, 0), (14, 0)] (by kernel_rfl) rfl (by kernel_rfl) ?_
            refine ord_held rfl rfl ?_
            intro K hK
            unfold Oper.wp
            obtain ⟨w32, D32, hrun, hm2, hg2⟩ := (unhide HM31).update (by omega) (p := 9) (by omega) (1, supL m) po pa (unhide HP31)
            have hrun2 : (Instr.mapUpdate 61 (.map (some MB)) (.int .i64 9) (rcV (1, supL m) po pa)).run Tryz.prog w31 = .ok () w32 := hrun
            have HB32 := hide (belowMap (unhide HB31) (unhide HG20) hg2)
            have HP32 := hide (is_turned (unhide HM31).own hg2 (unhide HP31))
            have HQ32 := hide (is_turned (unhide HM31).own hg2 (unhide HQ31))
            have HM32 := hide hm2
            clear hm2 hg2 hrun
            go_simp
            refine hK _ _ (unhide HB32) ?_
            clear hrun2
            clear hK K
            refine ord_read (.map (some MB)) rfl rfl (unhide HB32) (fun W hW => by go_simp; first | done | rfl) ?_
            refine ord_read (.map (some MB)) rfl rfl (unhide HB32) (fun W hW => by go_simp; first | done | rfl) ?_
            refine ord_end ?_
            refine tree_done (by kernel_rfl) ?_
            go_wp2_with fail
            go_meet
            exact ⟨MB, _, rfl, hide (by first | exact unhide HM32 | exact mp_swap (unhide HM32)), HG20, HB32⟩
      case tb19 =>
        intro K hK
        unfold Oper.wp
        go_simp
        refine (numbersC_any m.refs _ (unhide HR).refs).mono ?_
        rintro e w33 ⟨qg, rfl, hge, hq, hb⟩
        have HB33 := hide (fr (unhide HB17) hb)
        have HP33 := hide ((unhide HP17).below hb)
        have HQ33 := hide (Is.of_block hq)
        clear hq hb hge
        refine hK _ _ (fun _ => unhide HB33) ?_
        clear hK K
        refine tree_seg (n := 4) [(11, 0), (0, 2)] (by kernel_rfl) rfl (by kernel_rfl) ?_
        refine ord_read (rcV (2, ctNs m.refs) (some ⟨qg, 0, none⟩) 4) rfl rfl (unhide HB33) (fun W hW => by go_simp; first | done | rfl) ?_
        refine ord_held rfl rfl ?_
        intro K hK
        unfold Oper.wp
        go_simp
        have HB34 := hide (fr (unhide HB33) (Joins.below_alloc1 (w33) (.map #[] 0)))
        have HP34 := hide ((unhide HP33).below (Joins.below_alloc1 (w33) (.map #[] 0)))
        have HQ34 := hide ((unhide HQ33).below (Joins.below_alloc1 (w33) (.map #[] 0)))
        have HM34 := hide (MpR.made (w33))
        have HG34 := hide (unhide HB33).size
        refine hK _ _ (unhide HB34) ?_
        clear hK K
        revert HB34
        revert HM34
        revert HG34
        revert HP34
        revert HQ34
        generalize (w33).heap.size = MB
        generalize ((w33).alloc _) = w34
        intro HQ34
        intro HP34
        intro HG34
        intro HM34
        intro HB34
        refine ord_end ?_
        refine tree_two (fuel := 3) (i := 5) (j := 12) rfl rfl rfl rfl (by kernel_rfl) ?ta35 ?tb36
        case ta35 =>
          intro K hK
          unfold Oper.wp
          obtain ⟨w37, D37, hrun, hm2, hg2⟩ := (unhide HM34).update (by omega) (p := 9) (by omega) (1, supL m) po pa (unhide HP34)
          have hrun2 : (Instr.mapUpdate 61 (.map (some MB)) (.int .i64 9) (rcV (1, supL m) po pa)).run Tryz.prog w34 = .ok () w37 := hrun
          have HB37 := hide (belowMap (unhide HB34) (unhide HG34) hg2)
          have HP37 := hide (is_turned (unhide HM34).own hg2 (unhide HP34))
          have HQ37 := hide (is_turned (unhide HM34).own hg2 (unhide HQ34))
          have HM37 := hide hm2
          clear hm2 hg2 hrun
          go_simp
          refine hK _ _ (fun _ => unhide HB37) ?_
          clear hrun2
          clear hK K
          refine tree_seg (n := 0) [(12, 2), (13, 0), (14, 0)] (by kernel_rfl) rfl (by kernel_rfl) ?_
          refine ord_held rfl rfl ?_
          intro K hK
          unfold Oper.wp
          obtain ⟨w38, D38, hrun, hm2, hg2⟩ := (unhide HM37).update (by omega) (p := 10) (by omega) (2, ctNs m.refs) (some ⟨qg, 0, none⟩) 4 (unhide HQ37)
          have hrun2 : (Instr.mapUpdate 61 (.map (some MB)) (.int .i64 10) (rcV (2, ctNs m.refs) (some ⟨qg, 0, none⟩) 4)).run Tryz.prog w37 = .ok () w38 := hrun
          have HB38 := hide (belowMap (unhide HB37) (unhide HG34) hg2)
          have HP38 := hide (is_turned (unhide HM37).own hg2 (unhide HP37))
          have HQ38 := hide (is_turned (unhide HM37).own hg2 (unhide HQ37))
          have HM38 := hide hm2
          clear hm2 hg2 hrun
          go_simp
          refine hK _ _ (unhide HB38) ?_
          clear hrun2
          clear hK K
          refine ord_read (.map (some MB)) rfl rfl (unhide HB38) (fun W hW => by go_simp; first | done | rfl) ?_
          refine ord_read (.map (some MB)) rfl rfl (unhide HB38) (fun W hW => by go_simp; first | done | rfl) ?_
          refine ord_end ?_
          refine tree_done (by kernel_rfl) ?_
          go_wp2_with fail
          go_meet
          exact ⟨MB, _, rfl, hide (by first | exact unhide HM38 | exact mp_swap (unhide HM38)), HG34, HB38⟩
        case tb36 =>
          intro K hK
          unfold Oper.wp
          obtain ⟨w39, D39, hrun, hm2, hg2⟩ := (unhide HM34).update (by omega) (p := 10) (by omega) (2, ctNs m.refs) (some ⟨qg, 0, none⟩) 4 (unhide HQ34)
          have hrun2 : (Instr.mapUpdate 61 (.map (some MB)) (.int .i64 10) (rcV (2, ctNs m.refs) (some ⟨qg, 0, none⟩) 4)).run Tryz.prog w34 = .ok () w39 := hrun
          have HB39 := hide (belowMap (unhide HB34) (unhide HG34) hg2)
          have HP39 := hide (is_turned (unhide HM34).own hg2 (unhide HP34))
          have HQ39 := hide (is_turned (unhide HM34).own hg2 (unhide HQ34))
          have HM39 := hide hm2
          clear hm2 hg2 hrun
          go_simp
          refine hK _ _ (fun _ => unhide HB39) ?_
          clear hrun2
          clear hK K
          refine tree_seg (n := 0) [(5, 2), (13, 0), (14, 0)] (by kernel_rfl) rfl (by kernel_rfl) ?_
          refine ord_held rfl rfl ?_
          intro K hK
          unfold Oper.wp
          obtain ⟨w40, D40, hrun, hm2, hg2⟩ := (unhide HM39).update (by omega) (p := 9) (by omega) (1, supL m) po pa (unhide HP39)
          have hrun2 : (Instr.mapUpdate 61 (.map (some MB)) (.int .i64 9) (rcV (1, supL m) po pa)).run Tryz.prog w39 = .ok () w40 := hrun
          have HB40 := hide (belowMap (unhide HB39) (unhide HG34) hg2)
          have HP40 := hide (is_turned (unhide HM39).own hg2 (unhide HP39))
          have HQ40 := hide (is_turned (unhide HM39).own hg2 (unhide HQ39))
          have HM40 := hide hm2
          clear hm2 hg2 hrun
          go_simp
          refine hK _ _ (unhide HB40) ?_
          clear hrun2
          clear hK K
          refine ord_read (.map (some MB)) rfl rfl (unhide HB40) (fun W hW => by go_simp; first | done | rfl) ?_
          refine ord_read (.map (some MB)) rfl rfl (unhide HB40) (fun W hW => by go_simp; first | done | rfl) ?_
          refine ord_end ?_
          refine tree_done (by kernel_rfl) ?_
          go_wp2_with fail
          go_meet
          exact ⟨MB, _, rfl, hide (by first | exact unhide HM40 | exact mp_swap (unhide HM40)), HG34, HB40⟩
  case rest =>
    obtain ⟨B, D, rfl, HM, HG, HB⟩ := hcut
    rename World => W1
    clear HBD HAR HR0 hmm
    have HMT : Hid (MpR W1 B 2 D (rcTo m (11 + 0))) := hide (by rw [Nat.add_zero, ← rcTo_two]; exact unhide HM)
    clear HM
    obtain ⟨c0, c1, c2, c3⟩ := ((unhide HV).below (unhide HB)).cells
    go_wp2_with fail
    refine (tablesOf_any a m _ hs3 ((unhide HC).below (unhide HB))).mono ?_
    rintro e w2 ⟨qo, qa, rfl, hrt, hb2⟩
    have HRT := hide hrt
    have HM2 := hide ((unhide HMT).below hb2)
    have HB2 := hide (fr (unhide HB) hb2)
    have HTL := hide (imTabs_len m)
    clear hrt hb2 HMT HB c0 c1 c2 c3
    have hT4 : (imTabs m).length ≤ 4 := by rw [unhide HTL]; omega
    have HT4 := hide hT4
    have HTX : Hid (rcTo m (11 + (imTabs m).length) = rcTo m (15 + 0)) := hide (rcTo_tabs hT4)
    have HTS : Hid (∀ k (h : k < (imTabs m).length), setF (rcTo m (11 + k)) (11 + k) (3, (imTabs m)[k]) = rcTo m (11 + (k + 1))) := hide (fun k h => rcTo_tab h (by omega))
    generalize hTT : imTabs m = T at *
    clear hTT HTL
    go_wp2
    go_loopw [23] (fun i wr => ∃ (k : Nat) (D : DataW Value), k ≤ T.length ∧ i = .int .i64 k ∧ Hid (MpR wr B (2 + k) D (rcTo m (11 + k))) ∧ Hid (RowT wr qo T) ∧ Hid (Below W0.heap.size W0 wr)) (fun i _ => T.length - (intOf i).toNat)
    case atStart => exact ⟨0, D, Nat.zero_le _, rfl, HM2, HRT, HB2⟩
    case round =>
      clear HM2 HRT HB2
      obtain ⟨k, D1, hk, rfl, HM2, HRT, HB2⟩ := hrel
      by_cases hlt : k < T.length
      · obtain ⟨b, off, tq, tc, rfl, hck, hIs⟩ := unhide HRT k hlt
        have HIS := hide hIs
        have hlti : (k : Int) < (T.length : Int) := by omega
        have hw1 : IntKind.i64.wrap (11 + (k : Int)) = 11 + (k : Int) := by rw [IntKind.wrap_i64]; omega
        have HST := hide (unhide HTS k hlt)
        clear hIs
        go_wp2_with (at_mapUpdate; refine wpList_rec rfl _ _ _ rfl (p := 11 + k) (y := 11 + (k : Int)) (3, T[k]) tq tc rfl (unhide HM2) (by omega) (by first | rfl | (rw [hw1]; rfl)) (by omega) (by omega) rfl (unhide HIS) ?_; intro w5 D5 hm5 hg5; have HS5 := hide (And.intro hm5 hg5); clear hm5 hg5)
        go_roundw
        case rel => exact ⟨k + 1, D5, by omega, by go_num, hide (by rw [← unhide HST]; exact (unhide HS5).1), hide (rowT_turned (unhide HM2).own (unhide HS5).2 (unhide HRT)), hide (belowMap (unhide HB2) (unhide HG) (unhide HS5).2)⟩
        case measure => simp [intOf]; omega
      · obtain rfl : k = T.length := by omega
        have HM3 : Hid (MpR wr B (6 + 0) D1 (rcTo m (15 + 0))) := hide (by rw [← unhide HTX]; exact (unhide HM2).mono (by have := unhide HT4; omega))
        clear HTX HTS HM2 HRT
        obtain ⟨c0, c1, c2, c3⟩ := ((unhide HV).below (unhide HB2)).cells
        rw [unhide HRO] at c0
        go_wp2
        clear c0 c1 c2 c3
        go_loopw [37] (fun i wr => ∃ (c : Nat) (D : DataW Value), c ≤ m.refs.length ∧ i = .int .i64 c ∧ Hid (MpR wr B (6 + c) D (rcTo m (15 + c))) ∧ Hid (Below W0.heap.size W0 wr)) (fun i _ => m.refs.length - (intOf i).toNat)
        case atStart => exact ⟨0, D1, Nat.zero_le _, rfl, HM3, HB2⟩
        case round =>
          clear HM3 HB2
          rename World => wq
          obtain ⟨c, D2, hc, rfl, HM3, HB3⟩ := hrel
          by_cases hltc : c < m.refs.length
          · have hc24 : c < 24 := by have := unhide HRL; omega
            have hcd : c < m.data.length := by rw [unhide HDL]; omega
            obtain ⟨b, off, ero, hcr⟩ := ((unhide HC).r.below (unhide HB3)) c hltc
            rw [unhide HRO] at ero
            cases ero
            obtain ⟨b', off', edq, hcd'⟩ := ((unhide HC).d.below (unhide HB3)) c hcd
            have hlci : (c : Int) < (m.refs.length : Int) := by omega
            have hldi : (c : Int) < (m.data.length : Int) := by omega
            have hc0i : (0 : Int) ≤ (c : Int) := by omega
            have egr : m.refs.getD c 0 = m.refs[c] := by simp [List.getD, hltc]
            have egd : m.data.getD c 0 = m.data[c] := by simp [List.getD, hcd]
            obtain ⟨c0, c1, c2, c3⟩ := ((unhide HV).below (unhide HB3)).cells
            rw [edq] at c3
            clear edq
            by_cases hpos : 0 < m.refs[c]
            · have HST := hide (rcTo_dat (m := m) (c := c) hc24 (by rw [egr]; exact hpos))
              rw [egd] at HST
              have hw1 : IntKind.i64.wrap (15 + (c : Int)) = 15 + (c : Int) := by rw [IntKind.wrap_i64]; omega
              clear egr egd
              generalize m.data[c] = X at *
              generalize m.refs[c] = Y at *
              have HMA := hide ((unhide HM3).below (Joins.below_alloc1 wq (.cells #[.int .i64 X] 3)))
              have HBA := hide (fr (unhide HB3) (Joins.below_alloc1 wq (.cells #[.int .i64 X] 3)))
              have HIA : Hid (Is (wq.alloc (.cells #[.int .i64 X] 3)) (some ⟨wq.heap.size, 0, none⟩) [X]) := hide (Is.of_block (t := 3) (heap_alloc_new wq _))
              go_wp2_with (at_mapUpdate; refine wpList_rec rfl _ _ _ rfl (p := 15 + c) (y := 15 + (c : Int)) (4, [X]) (some ⟨wq.heap.size, 0, none⟩) 1 rfl (unhide HMA) (by omega) (by first | rfl | (rw [hw1]; rfl)) (by omega) (by omega) rfl (unhide HIA) ?_; intro w5 D5 hm5 hg5; have HS5 := hide (And.intro hm5 hg5); clear hm5 hg5)
              go_roundw
              case rel => exact ⟨c + 1, D5, by omega, by go_num, hide (by rw [← unhide HST]; exact (unhide HS5).1), hide (belowMap (unhide HBA) (unhide HG) (unhide HS5).2)⟩
              case measure => simp [intOf]; omega
            · have HST := hide (rcTo_no (m := m) (c := c) hc24 (by rw [egr]; exact hpos))
              clear egr egd
              generalize m.refs[c] = Y at *
              go_wp2
              go_roundw
              case rel => exact ⟨c + 1, D2, by omega, by go_num, hide (by rw [← unhide HST]; exact (unhide HM3).mono (by omega)), HB3⟩
              case measure => simp [intOf]; omega
          · have hc24 : c = 24 := by have := unhide HRL; omega
            subst hc24
            have HEND : Hid (MpR wq B (6 + 24) D2 (rcAt m)) := hide (by rw [← rcTo_all]; exact unhide HM3)
            go_wp2
            go_ret
            exact ⟨B, 6 + 24, D2, rfl, by omega, Nat.le_trans (unhide HA).size (unhide HG), unhide HEND, fr (unhide HA) (unhide HB3)⟩

end Go.Proofs.YtpdpnepnfhbonaaGreat

namespace Go.Proofs.YtpdpnepnfhbonaaGreat
open Go.RowKit Go.Maps
set_option linter.unusedVariables false
set_option maxRecDepth 100000

def MpO (w : World) (o : Option Nat) (f : Nat → Option Rc) : Prop := (o = none ∧ f = fun _ => none) ∨ ∃ B n D, o = some B ∧ MpR w B n D f
theorem MpO.below {w w' : World} {o : Option Nat} {f : Nat → Option Rc} (h : MpO w o f) (hb : Below w.heap.size w w') : MpO w' o f := by
  rcases h with h | ⟨B, n, D, e, h⟩
  · exact .inl h
  · exact .inr ⟨B, n, D, e, h.below hb⟩
def rcG (f : Nat → Option Rc) (p : Nat) : Rc := (f p).getD (0, [])
theorem MpO.look {w : World} {o : Option Nat} {f : Nat → Option Rc} (h : MpO w o f) {p : Nat} (hp : p < 64) : ∃ ao cap, (Instr.lookup 61 (.map o) (.int .i64 (p : Int)) false).run Tryz.prog w = .ok (rcV (rcG f p) ao cap) w ∧ Is w ao (rcG f p).2 := by
  rcases h with ⟨rfl, rfl⟩ | ⟨B, n, D, rfl, h⟩
  · exact ⟨none, 0, miss_nil hp w, fun i hi => by simp [rcG] at hi⟩
  · cases hf : f p with
    | none => exact ⟨none, 0, by rw [rcG, hf]; exact h.miss hp hf, fun i hi => by simp [rcG, hf] at hi⟩
    | some r =>
      obtain ⟨ao, cap, h1, h2⟩ := h.look hp hf
      exact ⟨ao, cap, by rw [rcG, hf]; exact h1, by rw [rcG, hf]; exact h2⟩
def upO (fw fn : Nat → Option Rc) (p : Nat) : List Up := if rcEq (rcG fn p) (rcG fw p) = true then [] else [⟨(p : Int), rcT (rcG fn p)⟩]
def upsF (fw fn : Nat → Option Rc) : List Up := (plcN fn).flatMap (upO fw fn)
theorem take_flat {α β : Type} (g : α → List β) {l : List α} {k : Nat} (hk : k < l.length) : (l.take (k + 1)).flatMap g = (l.take k).flatMap g ++ g l[k] := by
  rw [List.take_succ_eq_append_getElem hk, List.flatMap_append]; simp
theorem plcN_len (f : Nat → Option Rc) : (plcN f).length ≤ 64 := by
  have := List.length_filter_le (fun p => (f p).isSome) (List.range 64)
  simpa [plcN] using this

set_option maxHeartbeats 3200000 in
theorem updatesFrom_any (ow : Option Nat) (B n : Nat) (D : DataW Value) (fw fn : Nat → Option Rc) (w : World) (hw : MpO w ow fw) (hn : MpR w B n D fn) (hn2 : n ≤ 1000)
    (hlw : ∀ p, p < 64 → (rcG fw p).2.length ≤ 1000) (hln : ∀ p, p < 64 → (rcG fn p).2.length ≤ 1000) :
    Calls Tryz.prog 32 #[.map ow, .map (some B)] w fun e w' => ∃ qo qa, e = .returned (.slice qo (upsF fw fn).length qa) ∧ UpS w w' qo (upsF fw fn).length qa (upsF fw fn) := by
  have HW := hide hw
  have HN := hide hn
  have HLW := hide hlw
  have HLN := hide hln
  have HPL := hide (plcN_len fn)
  have HLL : Hid ((plcL fn).length = (plcN fn).length) := hide (by simp [plcL])
  have HAT : Hid (∀ k (h : k < (plcL fn).length) (h2 : k < (plcN fn).length), (plcL fn)[k] = ((plcN fn)[k] : Int)) := hide (fun k h h2 => by simp [plcL])
  have HLT : Hid (∀ k (h2 : k < (plcN fn).length), (plcN fn)[k] < 64) := hide (fun k h2 => (plcN_lt (List.getElem_mem h2)).1)
  have HTK : Hid (∀ k (h2 : k < (plcN fn).length), ((plcN fn).take (k + 1)).flatMap (upO fw fn) = ((plcN fn).take k).flatMap (upO fw fn) ++ upO fw fn (plcN fn)[k]) := hide (fun k h2 => take_flat _ h2)
  have HEN : Hid (((plcN fn).take (plcN fn).length).flatMap (upO fw fn) = upsF fw fn) := hide (by rw [List.take_length]; rfl)
  clear hw hn hlw hln
  obtain ⟨j0, hj, hy0, hy1, hy2⟩ := info_parts infoUs
  go_enter Tryz.func32, Tryz.ntmps32
  go_wp2_with fail
  refine (mapsKeys_any (some B) _).mono ?_
  rintro e w1 ⟨rfl, rfl⟩
  go_wp2_with fail
  refine (sorted_any B n D fn w (unhide HN) (by omega)).mono ?_
  rintro e w2 ⟨v, rfl, ⟨ko, ka, rfl, hok⟩, hb2⟩
  have HB2 := hide hb2
  have HKI : Hid (Is w2 ko (plcL fn)) := hide (ownRN hok)
  have HW2 := hide ((unhide HW).below hb2)
  have HN2 : Hid (MpO w2 (some B) fn) := hide (.inr ⟨B, n, D, rfl, (unhide HN).below hb2⟩)
  clear hok hb2 HW HN
  have HU0 : Hid (UpS w2 w2 none 0 0 []) := hide ⟨.inl ⟨rfl, rfl, none, rfl⟩, Below.refl _ _⟩
  generalize plcL fn = KL at *
  generalize hKN : plcN fn = KN at *
  clear hKN
  have hKLN := unhide HPL
  go_wp2
  go_loopw [5, 12] (fun o i wr => ∃ (k N : Nat) (qo : Option Addr) (qa : Nat), k ≤ KL.length ∧ N ≤ k ∧ i = .int .i64 k ∧ o = .slice qo N qa ∧ Hid (UpS w2 wr qo N qa ((KN.take k).flatMap (upO fw fn)))) (fun _ i _ => KL.length - (intOf i).toNat)
  case atStart => exact ⟨0, 0, none, 0, Nat.zero_le _, Nat.le_refl _, rfl, rfl, HU0⟩
  case round =>
    clear HU0
    obtain ⟨k, N, qo, qa, hk, hNk, rfl, rfl, HU⟩ := hrel
    by_cases hlt : k < KL.length
    · have hkN : k < KN.length := by have := unhide HLL; omega
      obtain ⟨b, off, rfl, hck⟩ := ((unhide HKI).below (unhide HU).k) k hlt
      rw [unhide HAT k hlt hkN] at hck
      have hp64 := unhide HLT k hkN
      have HST := hide (unhide HTK k hkN)
      have hlti : (k : Int) < (KL.length : Int) := by omega
      generalize KN[k] = p at *
      obtain ⟨ao, ca, hl1, hi1⟩ := (unhide HN2).below (unhide HU).k |>.look hp64
      obtain ⟨bo, cb, hl2, hi2⟩ := (unhide HW2).below (unhide HU).k |>.look hp64
      have HI1 := hide hi1
      have HI2 := hide hi2
      have HA1 := hide (unhide HLN p hp64)
      have HA2 := hide (unhide HLW p hp64)
      clear hi1 hi2
      have hN64 : N ≤ 64 := by have := unhide HPL; have := unhide HLL; omega
      go_wp2_with fail
      refine (like_any (rcG fn p) (rcG fw p) ao bo ca cb _ (by have := unhide HA1; unfold maxLen; omega) (by have := unhide HA2; unfold maxLen; omega) (unhide HI1) (unhide HI2)).mono ?_
      rintro e w3 ⟨rfl, hb3⟩
      have HU3 := hide ((unhide HU).next hb3)
      clear hb3 hl1 hl2 HI1 HI2 hck
      cases hlk : rcEq (rcG fn p) (rcG fw p)
      · have HSN : Hid ((KN.take (k + 1)).flatMap (upO fw fn) = (KN.take k).flatMap (upO fw fn) ++ [⟨(p : Int), rcT (rcG fn p)⟩]) := hide (by rw [unhide HST, upO, hlk]; rfl)
        clear hlk HST
        obtain ⟨ao, ca, hl1, hi1⟩ := (unhide HN2).below (unhide HU3).k |>.look hp64
        have HI1 := hide hi1
        clear hi1
        go_wp2_with fail
        refine (textR_any (rcG fn p) ao ca _ (by have := unhide HA1; omega) (unhide HI1)).mono ?_
        rintro e w5 ⟨rfl, hb5⟩
        have HU5 := hide ((unhide HU3).next hb5)
        clear hb5 hl1 HI1 HU3 HU
        generalize rcT (rcG fn p) = TX at *
        generalize (KN.take k).flatMap (upO fw fn) = LS at *
        have HUA := hide ((unhide HU5).next (Joins.below_alloc1 w5 (.cells #[.int .i64 (p : Int), .string TX] 65)))
        have HSZ := hide (unhide HUA).sz
        go_wp2_with (at_builtin; refine wpList_append_one rfl _ _ 27 rfl w2.heap.size 65 j0 (.agg #[.int .i64 0, .string ⟨#[]⟩]) 2 24 Tryz.underlying27 hj hy0 hy1 hy2 rfl (by omega) qo N qa (upsV LS) rfl (unhide HUA).o (unhide HSZ) ⟨w5.heap.size, 0, none⟩ _ (upV ⟨(p : Int), TX⟩) rfl rfl (news2_at w5 _ ⟨(p : Int), TX⟩ _ rfl) (upV_one _) (by unfold maxLen; omega) (by omega) ?_; intro g2 cap2 wA hoA hkA; have HU6 := hide (UpS.one (unhide HUA) hoA hkA); clear hoA hkA)
        go_roundw
        case rel => exact ⟨k + 1, N + 1, some ⟨g2, 0, none⟩, cap2, by omega, by omega, by go_num, rfl, by rw [unhide HSN]; exact HU6⟩
        case measure => simp [intOf]; omega
      · have HSN : Hid ((KN.take (k + 1)).flatMap (upO fw fn) = (KN.take k).flatMap (upO fw fn)) := hide (by rw [unhide HST, upO, hlk]; simp)
        clear hlk HST
        go_wp2
        go_roundw
        case rel => exact ⟨k + 1, N, qo, qa, by omega, by omega, by go_num, rfl, by rw [unhide HSN]; exact HU3⟩
        case measure => simp [intOf]; omega
    · have hNl := (unhide HU).len
      have hkk : k = KN.length := by have := unhide HLL; omega
      have HF : Hid (UpS w wr qo (upsF fw fn).length qa (upsF fw fn)) := hide (by
        have h := unhide HU
        rw [hNl, hkk, unhide HEN] at h
        exact ⟨h.o.base (unhide HB2).size, fr (unhide HB2) h.k⟩)
      have HL2 : Hid (N = (upsF fw fn).length) := hide (by rw [hNl, hkk, unhide HEN])
      clear hNl HU hkk
      go_wp2
      go_ret
      rw [unhide HL2]
      exact ⟨qo, qa, rfl, unhide HF⟩

end Go.Proofs.YtpdpnepnfhbonaaGreat

namespace Go.Proofs.YtpdpnepnfhbonaaGreat
open Go.RowKit
set_option linter.unusedVariables false
set_option maxRecDepth 100000

def RcR (r : Rc) : Prop := (1 ≤ r.1 ∧ r.1 ≤ 9) ∧ allB r.2 = true ∧ r.2.length ≤ 16
theorem rcR_text {r : Rc} (h : RcR r) : rcT r = sealS r.1 r.2 := by
  obtain ⟨hk, ha, hl⟩ := h
  exact sealT_ok (sealC_ok (listC_ok (by omega) (intsB_small ha (by omega))) (by simp [kindB, inB]; omega))
theorem rcR_inj {r s : Rc} (hr : RcR r) (hs : RcR s) (h : rcT r = rcT s) : r = s := by
  rw [rcR_text hr, rcR_text hs] at h
  obtain ⟨k1, a1, l1⟩ := hr
  obtain ⟨k2, a2, l2⟩ := hs
  have e1 : r.1 = s.1 := by rw [← kdR_seal k1 a1 l1, h, kdR_seal k2 a2 l2]
  have e2 : r.2 = s.2 := by
    have h1 := opR_seal k1 a1 l1
    have h2 := opR_seal k2 a2 l2
    rw [h, e1] at h1
    rw [← h1, h2]
  exact Prod.ext e1 e2
theorem rcAt_right {m : Img} (h : ImR m) {p : Nat} {r : Rc} (hr : rcAt m p = some r) : RcR r := by
  unfold rcAt at hr
  have hf := h.few
  split at hr
  · cases hr
    exact ⟨by simp, allB_snm h, by simp [supL]; omega⟩
  · split at hr
    · cases hr
      refine ⟨by simp, allB_true (fun j hj => ?_), by simp [ctNs]⟩
      have := ctNs_in h.refs j hj
      simp [numB, inB]; omega
    · split at hr
      · rw [Option.map_eq_some_iff] at hr
        obtain ⟨t, ht, rfl⟩ := hr
        have hm : tbB t = true := h.tabs t (List.mem_of_getElem? ht)
        exact ⟨by simp, tb_all hm, by have := tbB_len hm; simp; omega⟩
      · split at hr
        · rename_i hc
          cases hr
          have hcl : p - 15 < m.data.length := by rw [h.len]; omega
          refine ⟨by simp, ?_, by simp⟩
          simp only [allB, List.all_cons, List.all_nil, Bool.and_true]
          rw [show m.data.getD (p - 15) 0 = m.data[p - 15] by simp [List.getD, hcl]]
          exact h.nums _ (List.getElem_mem hcl)
        · cases hr
def onU (f : Nat → Option Rc) (p : Nat) : List Up := match f p with
  | none => []
  | some r => [⟨(p : Int), rcT r⟩]
theorem flat_filter {α β : Type} (q : α → Bool) (g : α → List β) : ∀ l : List α, (l.filter q).flatMap g = l.flatMap (fun x => if q x = true then g x else [])
  | [] => rfl
  | x :: l => by
    rw [List.filter_cons, List.flatMap_cons, ← flat_filter q g l]
    by_cases h : q x = true
    · rw [if_pos h, if_pos h, List.flatMap_cons]
    · rw [if_neg h, if_neg h]; rfl
theorem flat_congr {α β : Type} {g k : α → List β} : ∀ {l : List α}, (∀ x ∈ l, g x = k x) → l.flatMap g = l.flatMap k
  | [], _ => rfl
  | x :: l, h => by rw [List.flatMap_cons, List.flatMap_cons, h x (by simp), flat_congr (fun y hy => h y (by simp [hy]))]
theorem flat_none {α β : Type} {g : α → List β} : ∀ {l : List α}, (∀ x ∈ l, g x = []) → l.flatMap g = []
  | [], _ => rfl
  | x :: l, h => by rw [List.flatMap_cons, h x (by simp), flat_none (fun y hy => h y (by simp [hy]))]; rfl
theorem filter_flat {α β : Type} (q : β → Bool) (g : α → List β) : ∀ l : List α, (l.flatMap g).filter q = l.flatMap (fun x => (g x).filter q)
  | [] => rfl
  | x :: l => by rw [List.flatMap_cons, List.filter_append, filter_flat q g l, List.flatMap_cons]
theorem flat_map' {α β γ : Type} (u : α → β) (g : β → List γ) : ∀ l : List α, (l.map u).flatMap g = l.flatMap (fun x => g (u x))
  | [] => rfl
  | x :: l => by rw [List.map_cons, List.flatMap_cons, List.flatMap_cons, flat_map' u g l]
theorem range_parts : List.range 64 = List.range 9 ++ ([9, 10] ++ ((List.range 4).map (fun k => 11 + k) ++ ((List.range 24).map (fun c => 15 + c) ++ (List.range 25).map (fun q => 39 + q)))) := by decide
theorem onU_tabs {m : Img} (h : ImR m) : (List.range 4).flatMap (fun k => onU (rcAt m) (11 + k)) = ⟨11, encTb m.table⟩ :: tabU 0 m.snaps := by
  have hT : ∀ k, k < 4 → onU (rcAt m) (11 + k) = match (imTabs m)[k]? with
      | none => []
      | some t => [⟨11 + (k : Int), encTb t⟩] := fun k hk => by
    unfold onU
    rw [rcAt_tab hk]
    cases ht : (imTabs m)[k]? with
    | none => rfl
    | some t =>
      have hm : tbB t = true := h.tabs t (List.mem_of_getElem? ht)
      simp only [Option.map_some]
      rw [show rcT (3, t) = encTb t from (tb_seal hm).2]
      simp
  have hf := h.few
  rw [flat_congr (k := fun k => match (imTabs m)[k]? with
      | none => []
      | some t => [⟨11 + (k : Int), encTb t⟩]) (fun k hk => hT k (List.mem_range.1 hk))]
  unfold imTabs
  match hs : m.snaps, hf with
  | [], _ => simp [List.range_succ, tabU]
  | [s1], _ => simp [List.range_succ, tabU]
  | [s1, s2], _ => simp [List.range_succ, tabU]
  | [s1, s2, s3], _ => simp [List.range_succ, tabU]
  | s1 :: s2 :: s3 :: s4 :: r, hf => exact absurd hf (by simp)
theorem allU_places {m : Img} (h : ImR m) : allU m = (List.range 64).flatMap (onU (rcAt m)) := by
  rw [range_parts, List.flatMap_append, List.flatMap_append, List.flatMap_append, List.flatMap_append, flat_map', flat_map', flat_map']
  rw [flat_none (l := List.range 9) (fun p hp => by unfold onU; rw [rcAt_none (.inl (List.mem_range.1 hp))]), List.nil_append]
  rw [flat_none (l := List.range 25) (fun p hp => by unfold onU; rw [rcAt_none (.inr (by omega))]), List.append_nil]
  rw [onU_tabs h]
  have h9 : ([9, 10] : List Nat).flatMap (onU (rcAt m)) = [⟨9, sealS 1 (supL m)⟩, ⟨10, encT m.refs⟩] := by
    have e1 : rcT (1, supL m) = sealS 1 (supL m) := rcR_text ⟨by simp, allB_snm h, by have := h.few; simp [supL]; omega⟩
    have e2 : rcT (2, ctNs m.refs) = encT m.refs := (ct_seal h.refs).2
    have a1 : rcAt m 9 = some (1, supL m) := by simp [rcAt]
    have a2 : rcAt m 10 = some (2, ctNs m.refs) := by simp [rcAt]
    simp only [List.flatMap_cons, List.flatMap_nil, onU, a1, a2, e1, e2]
    rfl
  rw [h9]
  have hd : (List.range 24).flatMap (fun c => onU (rcAt m) (15 + c)) = dataU m 24 := flat_congr (fun c hc => by
    have hc' := List.mem_range.1 hc
    unfold onU
    rw [rcAt_dat hc', datU]
    by_cases hp : 0 < m.refs.getD c 0
    · rw [if_pos hp, if_pos hp]
      have hcl : c < m.data.length := by rw [h.len]; exact hc'
      have hnum : numB (m.data.getD c 0) = true := by
        rw [show m.data.getD c 0 = m.data[c] by simp [List.getD, hcl]]
        exact h.nums _ (List.getElem_mem hcl)
      have e4 : rcT (4, [m.data.getD c 0]) = sealS 4 [m.data.getD c 0] := rcR_text ⟨by simp, by simp only [allB, List.all_cons, List.all_nil, hnum, Bool.and_true], by simp⟩
      simp only [e4]
      simp
    · rw [if_neg hp, if_neg hp])
  rw [hd]
  simp [allU, headU]
theorem upsF_range (fw fn : Nat → Option Rc) : upsF fw fn = (List.range 64).flatMap (fun p => if (fn p).isSome = true then upO fw fn p else []) := flat_filter _ _ _
theorem mem_allU {m : Img} (h : ImR m) {v : Up} : v ∈ allU m ↔ ∃ p, p < 64 ∧ ∃ r, rcAt m p = some r ∧ v = ⟨(p : Int), rcT r⟩ := by
  rw [allU_places h, List.mem_flatMap]
  constructor
  · rintro ⟨p, hp, hv⟩
    refine ⟨p, List.mem_range.1 hp, ?_⟩
    unfold onU at hv
    cases hr : rcAt m p with
    | none => rw [hr] at hv; cases hv
    | some r => rw [hr] at hv; exact ⟨r, rfl, by simpa using hv⟩
  · rintro ⟨p, hp, r, hr, rfl⟩
    exact ⟨p, List.mem_range.2 hp, by unfold onU; rw [hr]; simp⟩
theorem upsF_dif {a b : Img} (ha : ImR a) (hb : ImR b) : upsF (rcAt a) (rcAt b) = difU a b := by
  rw [upsF_range, difU, allU_places hb, filter_flat]
  refine flat_congr (fun p hp => ?_)
  have hp64 := List.mem_range.1 hp
  cases hr : rcAt b p with
  | none => simp [onU, hr]
  | some r =>
    have hRr := rcAt_right hb hr
    simp only [Option.isSome_some, if_true, onU, hr, upO]
    have hg : rcG (rcAt b) p = r := by simp [rcG, hr]
    rw [hg]
    have key : rcEq r (rcG (rcAt a) p) = (allU a).any (fun v => upEq v ⟨(p : Int), rcT r⟩) := by
      rw [Bool.eq_iff_iff, rcEq_iff, List.any_eq_true]
      constructor
      · intro e
        have hs : rcAt a p = some r := by
          cases hs : rcAt a p with
          | none => rw [rcG, hs] at e; have := hRr.1; rw [e] at this; simp at this
          | some s => rw [rcG, hs] at e; rw [e]; rfl
        exact ⟨⟨(p : Int), rcT r⟩, (mem_allU ha).2 ⟨p, hp64, r, hs, rfl⟩, by simp [upEq]⟩
      · rintro ⟨v, hv, he⟩
        obtain ⟨q, hq, s, hs, rfl⟩ := (mem_allU ha).1 hv
        simp only [upEq, Bool.and_eq_true, decide_eq_true_eq] at he
        have hqp : q = p := by omega
        subst hqp
        rw [rcG, hs]
        exact (rcR_inj (rcAt_right ha hs) hRr he.2).symm
    rw [key, List.filter_cons, List.filter_nil]
    cases (allU a).any (fun v => upEq v ⟨(p : Int), rcT r⟩) <;> rfl
theorem rcG_len {m : Img} (h : ImR m) (p : Nat) : (rcG (rcAt m) p).2.length ≤ 1000 := by
  unfold rcG
  cases hr : rcAt m p with
  | none => simp
  | some r => have := (rcAt_right h hr).2.2; simp; omega

end Go.Proofs.YtpdpnepnfhbonaaGreat

namespace Go.Proofs.YtpdpnepnfhbonaaGreat
open Go.RowKit Go.Maps
set_option linter.unusedVariables false
set_option maxRecDepth 100000

set_option maxHeartbeats 3200000 in
theorem diffUpdates_impl (a b : Im4) (ma mb : Img) (w : World) (hLa : ImL ma) (hLb : ImL mb) (h1 : ImS w a ma) (h2 : ImS w b mb) :
    Calls Tryz.prog 16 #[imV a ma, imV b mb] w fun e w' => ∃ qo qa, e = .returned (.tuple #[.slice qo (dfA ma mb).1.length qa, .int .i64 (dfA ma mb).2]) ∧ UpS w w' qo (dfA ma mb).1.length qa (dfA ma mb).1 := by
  have HA := hide (Joins.below_alloc2 w (.cells #[.slice a.ro ma.refs.length a.rc, .slice a.tq ma.table.length a.tc, .slice a.so ma.snaps.length a.sc, .slice a.dq ma.data.length a.dc] 32) (.cells #[.slice b.ro mb.refs.length b.rc, .slice b.tq mb.table.length b.tc, .slice b.so mb.snaps.length b.sc, .slice b.dq mb.data.length b.dc] 32))
  have HV := hide ((VarM.new w 32 (.slice a.ro ma.refs.length a.rc) (.slice a.tq ma.table.length a.tc) (.slice a.so ma.snaps.length a.sc) (.slice a.dq ma.data.length a.dc)).below (Joins.below_alloc1 _ (.cells #[.slice b.ro mb.refs.length b.rc, .slice b.tq mb.table.length b.tc, .slice b.so mb.snaps.length b.sc, .slice b.dq mb.data.length b.dc] 32)))
  have HU := hide ((VarM.new (w.alloc (.cells #[.slice a.ro ma.refs.length a.rc, .slice a.tq ma.table.length a.tc, .slice a.so ma.snaps.length a.sc, .slice a.dq ma.data.length a.dc] 32)) 32 (.slice b.ro mb.refs.length b.rc) (.slice b.tq mb.table.length b.tc) (.slice b.so mb.snaps.length b.sc) (.slice b.dq mb.data.length b.dc)).at (y := w.heap.size + 1) (by simp))
  have H1 := hide (h1.below (unhide HA))
  have H2 := hide (h2.below (unhide HA))
  have HLA := hide hLa
  have HLB := hide hLb
  clear h1 h2 hLa hLb
  go_enter Tryz.func16, Tryz.ntmps16
  go_upto_region 1 with fail
  revert HA HV HU H1 H2
  generalize ((w.alloc _).alloc _) = W0
  intro HA HV HU H1 H2
  obtain ⟨c0, c1, c2, c3⟩ := (unhide HV).cells
  go_wp2_with fail
  refine (imageOK_impl a ma _ (unhide HLA) (unhide H1)).mono ?_
  rintro e w1 ⟨rfl, hb⟩
  have HB1 := hide hb
  clear hb c0 c1 c2 c3
  cases hia : imB ma
  · have HE : Hid (dfA ma mb = ([], 1)) := hide (by rw [dfA, if_neg (by simp [hia])])
    have HF : Hid (UpS w w1 none 0 0 []) := hide ⟨.inl ⟨rfl, rfl, _, rfl⟩, fr (unhide HA) (unhide HB1)⟩
    go_wp2
    go_ret2
    rw [unhide HE]
    exact ⟨_, _, rfl, unhide HF⟩
  · obtain ⟨c0, c1, c2, c3⟩ := ((unhide HU).below (unhide HB1)).cells
    have HIA := hide hia
    clear hia
    go_wp2_with fail
    refine (imageOK_impl b mb _ (unhide HLB) ((unhide H2).below (unhide HB1))).mono ?_
    rintro e w2 ⟨rfl, hb⟩
    have HB2 := hide (fr (unhide HB1) hb)
    clear hb c0 c1 c2 c3
    cases hib : imB mb
    · have HE : Hid (dfA ma mb = ([], 1)) := hide (by rw [dfA, if_neg (by simp [hib])])
      have HF : Hid (UpS w w2 none 0 0 []) := hide ⟨.inl ⟨rfl, rfl, _, rfl⟩, fr (unhide HA) (unhide HB2)⟩
      go_wp2
      go_ret2
      rw [unhide HE]
      exact ⟨_, _, rfl, unhide HF⟩
    · have HE : Hid (dfA ma mb = (difU ma mb, 0)) := hide (by rw [dfA, if_pos ⟨unhide HIA, hib⟩])
      have HRA := hide (imB_iff.1 (unhide HIA))
      have HRB := hide (imB_iff.1 hib)
      clear hib
      go_upto_region 3 with fail
      have HBD : Hid (Below w2.heap.size w2 w2.drew) := hide (Below.refl _ _).drew
      have hS0 := unhide HBD
      have HVA := hide ((unhide HV).below (unhide HB2))
      have HVB := hide ((unhide HU).below (unhide HB2))
      have HSA := hide ((unhide H1).below (unhide HB2))
      have HSB := hide ((unhide H2).below (unhide HB2))
      refine wp_region_ord (fun w' => Below w2.heap.size w2 w') [0, 1, 2, 3, 4, 5, 6] [(0, 0), (2, 0), (1, 2), (3, 2), (4, 2), (5, 0), (6, 0)] (by kernel_rfl) (by kernel_rfl) rfl (by kernel_rfl) ?_
      refine ord_read (imV a ma) rfl rfl hS0 (fun W hW => by obtain ⟨k0, k1, k2, k3⟩ := ((unhide HVA).below hW).cells; go_simp) ?_
      refine ord_read (imV b mb) rfl rfl hS0 (fun W hW => by obtain ⟨k0, k1, k2, k3⟩ := ((unhide HVB).below hW).cells; go_simp) ?_
      clear hS0
      refine ord_held rfl rfl ?_
      intro K hK
      unfold Oper.wp
      go_simp
      refine (recordsOf_any a ma _ (unhide HRA) ((unhide HSA).below (unhide HBD))).mono ?_
      rintro e w3 ⟨B1, n1, D1, rfl, hn1, _, hm1, hb⟩
      have HM1 := hide hm1
      have HB3 := hide (fr (unhide HBD) hb)
      clear hm1 hb
      refine hK _ _ (unhide HB3) ?_
      clear hK K
      refine ord_held rfl rfl ?_
      intro K hK
      unfold Oper.wp
      go_simp
      refine (recordsOf_any b mb _ (unhide HRB) ((unhide HSB).below (unhide HB3))).mono ?_
      rintro e w4 ⟨B2, n2, D2, rfl, hn2, _, hm2, hb⟩
      have HM2 := hide hm2
      have HM3 := hide ((unhide HM1).below hb)
      have HB4 := hide (fr (unhide HB3) hb)
      clear hm2 hb
      refine hK _ _ (unhide HB4) ?_
      clear hK K
      refine ord_held rfl rfl ?_
      intro K hK
      unfold Oper.wp
      go_simp
      have HCA : Hid (Calls Tryz.prog 32 #[.map (some B1), .map (some B2)] w4 fun e w' => ∃ qo qa, e = .returned (.slice qo (difU ma mb).length qa) ∧ UpS w4 w' qo (difU ma mb).length qa (difU ma mb)) := hide (by
        have := updatesFrom_any (some B1) B2 n2 D2 (rcAt ma) (rcAt mb) w4 (.inr ⟨B1, n1, D1, rfl, unhide HM3⟩) (unhide HM2) hn2 (fun p _ => rcG_len (unhide HRA) p) (fun p _ => rcG_len (unhide HRB) p)
        rwa [upsF_dif (unhide HRA) (unhide HRB)] at this)
      refine (unhide HCA).mono ?_
      rintro e w5 ⟨qo, qa, rfl, hu⟩
      have HB5 := hide (fr (unhide HB4) hu.k)
      have HU5 : Hid (UpS w w5 qo (difU ma mb).length qa (difU ma mb)) := hide ⟨hu.o.base (fr (unhide HA) (fr (unhide HB2) (unhide HB4))).size, fr (unhide HA) (fr (unhide HB2) (fr (unhide HB4) hu.k))⟩
      clear hu
      generalize difU ma mb = L at *
      refine hK _ _ (unhide HB5) ?_
      clear hK K
      refine ord_read (.slice qo L.length qa) rfl rfl (unhide HB5) (fun W hW => by go_simp) ?_
      refine ord_read (.int .i64 0) rfl rfl (unhide HB5) (fun W hW => by go_simp) ?_
      refine ord_done ?_
      go_wp2
      go_ret2
      rw [unhide HE]
      exact ⟨qo, qa, rfl, unhide HU5⟩

end Go.Proofs.YtpdpnepnfhbonaaGreat

namespace Go.Proofs.YtpdpnepnfhbonaaGreat
open Go.RowKit
set_option linter.unusedVariables false
set_option maxRecDepth 100000

theorem allU_sizes {m : Img} (h : ImR m) : ∀ u ∈ allU m, u.data.size ≤ maxLen := fun u hu => by
  obtain ⟨p, _, r, hr, rfl⟩ := (mem_allU h).1 hu
  have hR := rcAt_right h hr
  rw [rcR_text hR, sealS_size]
  have := hR.2.2
  unfold maxLen
  omega
end Go.Proofs.YtpdpnepnfhbonaaGreat

namespace Go.Proofs.YtpdpnepnfhbonaaGreat
open Go.RowKit
set_option linter.unusedVariables false
set_option maxRecDepth 100000

theorem tabU_sz : ∀ (ss : List Snp) (i : Nat), (∀ s ∈ ss, s.table.length ≤ 12) → ∀ u ∈ tabU i ss, u.data.size ≤ 80
  | [], i, _, u, hu => by simp [tabU] at hu
  | s :: ss, i, h, u, hu => by
    simp only [tabU, List.mem_cons] at hu
    rcases hu with rfl | hu
    · have := h s (by simp)
      have e : (encTb s.table).size = 4 + s.table.length * 4 := sealS_size 3 s.table
      simp only
      omega
    · exact tabU_sz ss (i + 1) (fun s hs => h s (by simp [hs])) u hu
theorem allU_sz {m : Img} (h : ImR m) : ∀ u ∈ allU m, u.data.size ≤ 80 := fun u hu => by
  unfold allU at hu
  rw [List.mem_append, List.mem_append] at hu
  rcases hu with (hu | hu) | hu
  · have h1 : (sealS 1 (supL m)).size = 4 + (supL m).length * 4 := sealS_size 1 _
    have h2 : (encT m.refs).size = 20 := sealS_size 2 (ctNs m.refs)
    have h3 : (encTb m.table).size = 4 + m.table.length * 4 := sealS_size 3 m.table
    have h4 : (supL m).length = m.snaps.length + 1 := by simp [supL]
    have h5 := h.few
    have h6 := tbB_len h.table
    simp only [headU, List.mem_cons, List.not_mem_nil, or_false] at hu
    rcases hu with rfl | rfl | rfl <;> simp only <;> omega
  · exact tabU_sz m.snaps 0 (fun s hs => tbB_len (h.snaps s hs).2) u hu
  · unfold dataU at hu
    obtain ⟨c, _, hc⟩ := List.mem_flatMap.1 hu
    unfold datU at hc
    split at hc
    · rw [List.mem_singleton] at hc
      subst hc
      have : (sealS 4 [m.data.getD c 0]).size = 8 := sealS_size 4 _
      simp only
      omega
    · simp at hc
def anyK (X : List Up) (u : Up) (k : Nat) : Bool := (X.take k).any fun v => upEq v u
theorem anyK_succ {X : List Up} {u : Up} {k : Nat} (hk : k < X.length) : anyK X u (k + 1) = (anyK X u k || upEq X[k] u) := by
  unfold anyK
  rw [List.take_succ_eq_append_getElem hk, List.any_append]; simp
theorem anyK_all (X : List Up) (u : Up) : anyK X u X.length = X.any fun v => upEq v u := by rw [anyK, List.take_length]
def difK (X Y : List Up) (k : Nat) : List Up := (Y.take k).filter fun u => !(X.any fun v => upEq v u)
theorem difK_succ {X Y : List Up} {k : Nat} (hk : k < Y.length) : difK X Y (k + 1) = if (X.any fun v => upEq v Y[k]) = true then difK X Y k else difK X Y k ++ [Y[k]] := by
  unfold difK
  rw [List.take_succ_eq_append_getElem hk, List.filter_append]
  cases h : X.any fun v => upEq v Y[k] <;> simp [h]
theorem difK_all (X Y : List Up) : difK X Y Y.length = Y.filter fun u => !(X.any fun v => upEq v u) := by rw [difK, List.take_length]

set_option maxHeartbeats 3200000 in
theorem l11Diff_any (a b : Im4) (ma mb : Img) (w : World) (hA : ImR ma) (hB : ImR mb) (h1 : ImS w a ma) (h2 : ImS w b mb) :
    Calls Tryz.prog 40 #[imV a ma, imV b mb] w fun e w' => ∃ qo qa, e = .returned (.slice qo (difU ma mb).length qa) ∧ UpS w w' qo (difU ma mb).length qa (difU ma mb) := by
  have HA := hide (Joins.below_alloc2 w (.cells #[.slice a.ro ma.refs.length a.rc, .slice a.tq ma.table.length a.tc, .slice a.so ma.snaps.length a.sc, .slice a.dq ma.data.length a.dc] 32) (.cells #[.slice b.ro mb.refs.length b.rc, .slice b.tq mb.table.length b.tc, .slice b.so mb.snaps.length b.sc, .slice b.dq mb.data.length b.dc] 32))
  have HV := hide ((VarM.new w 32 (.slice a.ro ma.refs.length a.rc) (.slice a.tq ma.table.length a.tc) (.slice a.so ma.snaps.length a.sc) (.slice a.dq ma.data.length a.dc)).below (Joins.below_alloc1 _ (.cells #[.slice b.ro mb.refs.length b.rc, .slice b.tq mb.table.length b.tc, .slice b.so mb.snaps.length b.sc, .slice b.dq mb.data.length b.dc] 32)))
  have HU := hide ((VarM.new (w.alloc (.cells #[.slice a.ro ma.refs.length a.rc, .slice a.tq ma.table.length a.tc, .slice a.so ma.snaps.length a.sc, .slice a.dq ma.data.length a.dc] 32)) 32 (.slice b.ro mb.refs.length b.rc) (.slice b.tq mb.table.length b.tc) (.slice b.so mb.snaps.length b.sc) (.slice b.dq mb.data.length b.dc)).at (y := w.heap.size + 1) (by simp))
  have H1 := hide (h1.below (unhide HA))
  have H2 := hide (h2.below (unhide HA))
  have HIA := hide hA
  have HIB := hide hB
  have HXZ : Hid ((∀ u ∈ allU ma, u.data.size ≤ maxLen) ∧ (∀ u ∈ allU mb, u.data.size ≤ maxLen)) := hide ⟨fun u hu => by have := allU_sz hA u hu; unfold maxLen; omega, fun u hu => by have := allU_sz hB u hu; unfold maxLen; omega⟩
  have hlx := allU_len (m := ma) hA.few
  have hly := allU_len (m := mb) hB.few
  obtain ⟨R, hRR⟩ : ∃ R, R = difU ma mb := ⟨_, rfl⟩
  rw [← hRR]
  have HD : Hid (R = difK (allU ma) (allU mb) (allU mb).length) := hide (hRR.trans (difK_all _ _).symm)
  clear hRR
  clear h1 h2 hA hB
  obtain ⟨j0, hj, hy0, hy1, hy2⟩ := info_parts infoUs
  go_enter Tryz.func40, Tryz.ntmps40
  go_upto_region 1 with fail
  revert HA HV HU H1 H2
  generalize ((w.alloc _).alloc _) = W0
  intro HA HV HU H1 H2
  obtain ⟨c0, c1, c2, c3⟩ := (unhide HV).cells
  go_wp2_with fail
  refine (l11All_any a ma _ (unhide HIA) (unhide H1)).mono ?_
  rintro e w1 ⟨xo, xa, rfl, hu⟩
  have HX := hide (ownUps hu.o (unhide HXZ).1)
  have HB1 := hide hu.k
  clear hu c0 c1 c2 c3
  obtain ⟨c0, c1, c2, c3⟩ := ((unhide HU).below (unhide HB1)).cells
  go_wp2_with fail
  refine (l11All_any b mb _ (unhide HIB) ((unhide H2).below (unhide HB1))).mono ?_
  rintro e w2 ⟨yo, ya, rfl, hu⟩
  have HY := hide (ownUps hu.o (unhide HXZ).2)
  have HX2 := hide ((unhide HX).below hu.k)
  have HB2 := hide (fr (unhide HA) (fr (unhide HB1) hu.k))
  clear hu c0 c1 c2 c3 HX HB1 HV HU H1 H2 HA
  generalize allU ma = X at *
  generalize allU mb = Y at *
  have H0 : Hid (UpS w2 (w2.alloc (.cells #[] 65)) (some ⟨w2.heap.size, 0, none⟩) 0 0 (difK X Y 0)) := hide ⟨.inl ⟨rfl, rfl, _, rfl⟩, Joins.below_alloc1 _ _⟩
  go_wp2
  go_loopw [7, 8] (fun o i wr => ∃ (k N : Nat) (qo : Option Addr) (qa : Nat), k ≤ Y.length ∧ N ≤ k ∧ i = .int .i64 k ∧ o = .slice qo N qa ∧ Hid (UpS w2 wr qo N qa (difK X Y k))) (fun _ i _ => Y.length - (intOf i).toNat)
  case atStart => exact ⟨0, 0, _, _, Nat.zero_le _, Nat.le_refl _, rfl, rfl, H0⟩
  case round =>
    clear H0
    obtain ⟨k, N, qo, qa, hk, hN, rfl, rfl, HU⟩ := hrel
    by_cases hlt : k < Y.length
    · have hlti : (k : Int) < (Y.length : Int) := by omega
      obtain ⟨by_, oy, ey, hya, hyd, _⟩ := ((unhide HY).below (unhide HU).k) k hlt
      have HSU := hide (difK_succ (X := X) hlt)
      have HYW : Hid (wr.cell? ⟨by_, oy + k * 2, none⟩ = some (.int .i64 Y[k].at_) ∧ wr.cell? ⟨by_, oy + k * 2 + 1, none⟩ = some (.string Y[k].data)) := hide ⟨hya, hyd⟩
      have HXW : Hid (Ups wr xo X) := hide ((unhide HX2).below (unhide HU).k)
      clear hya hyd
      subst ey
      generalize hYk : Y[k] = u at *
      clear hYk
      go_wp2
      go_loopw [9, 10] (fun s j wq => ∃ (kk n : Nat), kk ≤ X.length ∧ j = .int .i64 kk ∧ s = .bool (anyK X u kk) ∧ wq = wr.drewN n) (fun _ j _ => X.length - (intOf j).toNat)
      case atStart => exact ⟨0, 0, Nat.zero_le _, rfl, rfl, rfl⟩
      case round =>
        obtain ⟨kk, n, hkk, rfl, rfl, rfl⟩ := hrel
        by_cases hl2 : kk < X.length
        · have hl2i : (kk : Int) < (X.length : Int) := by omega
          obtain ⟨bx, ox, ex, hxa, hxd, _⟩ := (unhide HXW) kk hl2
          obtain ⟨hya, hyd⟩ := unhide HYW
          have HSS := hide (anyK_succ (u := u) hl2)
          subst ex
          cases hs : anyK X u kk
          · by_cases ha : X[kk].at_ = u.at_
            · by_cases hd : X[kk].data = u.data
              · have HT : Hid (anyK X u (kk + 1) = true) := hide (by rw [unhide HSS, hs]; simp [upEq, ha, hd])
                rw [ha] at hxa
                rw [hd] at hxd
                clear ha hd hs
                go_wp2
                go_quiet (fail)
                go_wp2
                go_roundw
                case rel => exact ⟨kk + 1, _, by omega, by go_num, by rw [unhide HT], rfl⟩
                case measure => simp [intOf]; omega
              · have HT : Hid (anyK X u (kk + 1) = false) := hide (by rw [unhide HSS, hs]; simp [upEq, hd])
                have bd : (X[kk].data.toList == u.data.toList) = false := str_beq_false hd
                rw [ha] at hxa
                clear ha hd hs
                go_wp2
                go_quiet (fail)
                go_wp2
                go_roundw
                case rel => exact ⟨kk + 1, _, by omega, by go_num, by rw [unhide HT], rfl⟩
                case measure => simp [intOf]; omega
            · have HT : Hid (anyK X u (kk + 1) = false) := hide (by rw [unhide HSS, hs]; simp [upEq, ha])
              have bd : (X[kk].at_ == u.at_) = false := by simp [ha]
              clear ha hs
              go_wp2
              go_quiet (fail)
              go_wp2
              go_roundw
              case rel => exact ⟨kk + 1, _, by omega, by go_num, by rw [unhide HT], rfl⟩
              case measure => simp [intOf]; omega
          · have HT : Hid (anyK X u (kk + 1) = true) := hide (by rw [unhide HSS, hs]; rfl)
            clear hs
            go_wp2
            go_quiet (fail)
            go_wp2
            go_roundw
            case rel => exact ⟨kk + 1, _, by omega, by go_num, by rw [unhide HT], rfl⟩
            case measure => simp [intOf]; omega
        · obtain rfl : kk = X.length := by omega
          have HAL := hide (anyK_all X u)
          obtain ⟨hya, hyd⟩ := unhide HYW
          have HUN := hide ((unhide HU).next (Joins.below_draws _ wr n))
          have hya' : (wr.drewN n).cell? ⟨by_, oy + k * 2, none⟩ = some (.int .i64 u.at_) := hya
          have hyd' : (wr.drewN n).cell? ⟨by_, oy + k * 2 + 1, none⟩ = some (.string u.data) := hyd
          clear hya hyd
          cases hs : anyK X u X.length
          · have HNX : Hid (difK X Y (k + 1) = difK X Y k ++ [u]) := hide (by rw [unhide HSU, if_neg (by rw [← unhide HAL, hs]; simp)])
            clear hs
            generalize (wr.drewN n) = Wn at *
            have HUA := hide ((unhide HUN).next (Joins.below_alloc1 Wn (.cells #[.int .i64 u.at_, .string u.data] 65)))
            have HSZ := hide (unhide HUA).sz
            go_wp2_with (at_builtin; refine wpList_append_one rfl _ _ 27 rfl w2.heap.size 65 j0 (.agg #[.int .i64 0, .string ⟨#[]⟩]) 2 24 Tryz.underlying27 hj hy0 hy1 hy2 rfl (by omega) qo N qa (upsV (difK X Y k)) rfl (unhide HUA).o (unhide HSZ) ⟨Wn.heap.size, 0, none⟩ _ (upV u) rfl rfl (news2_at Wn _ u _ rfl) (upV_one _) (by unfold maxLen; omega) (by omega) ?_; intro g2 cap2 wA hoA hkA; have HU6 := hide (UpS.one (unhide HUA) hoA hkA); clear hoA hkA)
            go_roundw
            case rel => exact ⟨k + 1, N + 1, some ⟨g2, 0, none⟩, cap2, by omega, by omega, by go_num, rfl, by rw [unhide HNX]; exact HU6⟩
            case measure => simp [intOf]; omega
          · have HNX : Hid (difK X Y (k + 1) = difK X Y k) := hide (by rw [unhide HSU, if_pos (by rw [← unhide HAL, hs])])
            clear hs
            go_wp2
            go_roundw
            case rel => exact ⟨k + 1, N, qo, qa, by omega, by omega, by go_num, rfl, by rw [unhide HNX]; exact HUN⟩
            case measure => simp [intOf]; omega
    · obtain rfl : k = Y.length := by omega
      have hNl := (unhide HU).len
      have HF : Hid (UpS w wr qo R.length qa R) := hide (by
        have h := unhide HU
        rw [hNl, ← unhide HD] at h
        exact ⟨h.o.base (unhide HB2).size, fr (unhide HB2) h.k⟩)
      have HL2 : Hid (N = R.length) := hide (by rw [unhide HD]; exact hNl)
      clear hNl HU
      go_wp2
      go_ret
      rw [unhide HL2]
      exact ⟨qo, qa, rfl, unhide HF⟩

set_option maxHeartbeats 1600000 in
theorem diffUpdates_spec (a b : Im4) (ma mb : Img) (w : World) (hLa : ImL ma) (hLb : ImL mb) (h1 : ImS w a ma) (h2 : ImS w b mb) :
    Calls Tryz.prog 15 #[imV a ma, imV b mb] w fun e w' => ∃ qo qa, e = .returned (.tuple #[.slice qo (dfA ma mb).1.length qa, .int .i64 (dfA ma mb).2]) ∧ UpS w w' qo (dfA ma mb).1.length qa (dfA ma mb).1 := by
  have HA := hide (Joins.below_alloc2 w (.cells #[.slice a.ro ma.refs.length a.rc, .slice a.tq ma.table.length a.tc, .slice a.so ma.snaps.length a.sc, .slice a.dq ma.data.length a.dc] 32) (.cells #[.slice b.ro mb.refs.length b.rc, .slice b.tq mb.table.length b.tc, .slice b.so mb.snaps.length b.sc, .slice b.dq mb.data.length b.dc] 32))
  have HV := hide ((VarM.new w 32 (.slice a.ro ma.refs.length a.rc) (.slice a.tq ma.table.length a.tc) (.slice a.so ma.snaps.length a.sc) (.slice a.dq ma.data.length a.dc)).below (Joins.below_alloc1 _ (.cells #[.slice b.ro mb.refs.length b.rc, .slice b.tq mb.table.length b.tc, .slice b.so mb.snaps.length b.sc, .slice b.dq mb.data.length b.dc] 32)))
  have HU := hide ((VarM.new (w.alloc (.cells #[.slice a.ro ma.refs.length a.rc, .slice a.tq ma.table.length a.tc, .slice a.so ma.snaps.length a.sc, .slice a.dq ma.data.length a.dc] 32)) 32 (.slice b.ro mb.refs.length b.rc) (.slice b.tq mb.table.length b.tc) (.slice b.so mb.snaps.length b.sc) (.slice b.dq mb.data.length b.dc)).at (y := w.heap.size + 1) (by simp))
  have H1 := hide (h1.below (unhide HA))
  have H2 := hide (h2.below (unhide HA))
  have HLA := hide hLa
  have HLB := hide hLb
  clear h1 h2 hLa hLb
  obtain ⟨R, hRR⟩ : ∃ R, R = dfA ma mb := ⟨_, rfl⟩
  rw [← hRR]
  have HR := hide hRR
  clear hRR
  go_enter Tryz.func15, Tryz.ntmps15
  go_upto_region 1 with fail
  revert HA HV HU H1 H2
  generalize ((w.alloc _).alloc _) = W0
  intro HA HV HU H1 H2
  obtain ⟨c0, c1, c2, c3⟩ := (unhide HV).cells
  go_wp2_with fail
  refine (imageOK_spec a ma _ (unhide HLA) (unhide H1)).mono ?_
  rintro e w1 ⟨rfl, hb⟩
  have HB := hide hb
  clear hb c0 c1 c2 c3
  cases hia : imB ma
  · have HE : Hid (R = ([], 1)) := hide (by rw [unhide HR, dfA, hia]; rfl)
    have HF : Hid (UpS w (w1.alloc (.cells #[] 65)) (some ⟨w1.heap.size, 0, none⟩) 0 0 []) := hide ⟨.inl ⟨rfl, rfl, _, rfl⟩, fr (unhide HA) (fr (unhide HB) (Joins.below_alloc1 _ _))⟩
    go_wp2
    go_ret2
    rw [unhide HE]
    exact ⟨_, _, rfl, unhide HF⟩
  obtain ⟨c0, c1, c2, c3⟩ := ((unhide HU).below (unhide HB)).cells
  go_wp2_with fail
  refine (imageOK_spec b mb _ (unhide HLB) ((unhide H2).below (unhide HB))).mono ?_
  rintro e w2 ⟨rfl, hb⟩
  replace HB := hide (fr (unhide HB) hb)
  clear hb c0 c1 c2 c3
  cases hib : imB mb
  · have HE : Hid (R = ([], 1)) := hide (by rw [unhide HR, dfA, hia, hib]; rfl)
    have HF : Hid (UpS w (w2.alloc (.cells #[] 65)) (some ⟨w2.heap.size, 0, none⟩) 0 0 []) := hide ⟨.inl ⟨rfl, rfl, _, rfl⟩, fr (unhide HA) (fr (unhide HB) (Joins.below_alloc1 _ _))⟩
    go_wp2
    go_ret2
    rw [unhide HE]
    exact ⟨_, _, rfl, unhide HF⟩
  · have HE : Hid (R = (difU ma mb, 0)) := hide (by rw [unhide HR, dfA, hia, hib]; rfl)
    have HIA := hide (imB_iff.1 hia)
    have HIB := hide (imB_iff.1 hib)
    clear hia hib
    obtain ⟨c0, c1, c2, c3⟩ := ((unhide HV).below (unhide HB)).cells
    obtain ⟨d0, d1, d2, d3⟩ := ((unhide HU).below (unhide HB)).cells
    go_wp2_with fail
    refine (l11Diff_any a b ma mb _ (unhide HIA) (unhide HIB) ((unhide H1).below (unhide HB)) ((unhide H2).below (unhide HB))).mono ?_
    rintro e w3 ⟨qo, qa, rfl, hu⟩
    have HF : Hid (UpS w w3 qo (difU ma mb).length qa (difU ma mb)) := hide ⟨hu.o.base (fr (unhide HA) (unhide HB)).size, fr (fr (unhide HA) (unhide HB)) hu.k⟩
    clear hu c0 c1 c2 c3 d0 d1 d2 d3
    generalize difU ma mb = L at *
    go_wp2
    go_ret2
    rw [unhide HE]
    exact ⟨qo, qa, rfl, unhide HF⟩

end Go.Proofs.YtpdpnepnfhbonaaGreat

namespace Go.Proofs.YtpdpnepnfhbonaaGreat
open Go.RowKit
set_option linter.unusedVariables false
set_option maxRecDepth 100000

theorem df_bd (a b : Img) : (dfA a b).1.length ≤ 1000 ∧ ∀ s ∈ (dfA a b).1, s.data.size ≤ maxLen := by
  unfold dfA
  by_cases h : imB a = true ∧ imB b = true
  · rw [if_pos h]
    have hR := imB_iff.1 h.2
    refine ⟨?_, fun s hs => allU_sizes hR s (List.mem_filter.1 hs).1⟩
    have h1 := allU_len hR.few
    have h2 : (difU a b).length ≤ (allU b).length := List.length_filter_le _ _
    simp only
    omega
  · rw [if_neg h]
    exact ⟨by simp, by simp⟩
theorem wkDiffUpdates (a : Im4) (m : Img) (b : Im4) (n : Img) (w : World) (hl : m.refs.length ≤ maxLen ∧ m.table.length ≤ maxLen ∧ m.snaps.length ≤ maxLen ∧ m.data.length ≤ maxLen) (hc : ImS w a m) (hl2 : n.refs.length ≤ maxLen ∧ n.table.length ≤ maxLen ∧ n.snaps.length ≤ maxLen ∧ n.data.length ≤ maxLen) (hc2 : ImS w b n) :
    Calls Tryz.prog 4 #[imV a m, imV b n] w fun e w' => e = .returned (.bool true) ∧ Below w.heap.size w w' :=
  have hL : ImL m := ⟨hl.1, hl.2.1, hl.2.2.1, hl.2.2.2⟩
  have hL2 : ImL n := ⟨hl2.1, hl2.2.1, hl2.2.2.1, hl2.2.2.2⟩
  lawImDiffUpdates a b m n (dfA m n) w hL hL2 hc hc2 (df_bd m n) (fun c d W h1 h2 => diffUpdates_spec c d m n W hL hL2 h1 h2) (fun c d W h1 h2 => diffUpdates_impl c d m n W hL hL2 h1 h2)

end Go.Proofs.YtpdpnepnfhbonaaGreat
