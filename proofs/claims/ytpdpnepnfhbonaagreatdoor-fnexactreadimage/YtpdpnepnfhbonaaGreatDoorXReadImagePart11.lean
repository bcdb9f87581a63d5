import Derived.Test.YtpdpnepnfhbonaaGreatDoorRows
import Derived.Test.YtpdpnepnfhbonaaGreatDoorXReadImagePart1
import Derived.Test.YtpdpnepnfhbonaaGreatDoorXReadImagePart2
import Derived.Test.YtpdpnepnfhbonaaGreatDoorXReadImagePart3
import Derived.Test.YtpdpnepnfhbonaaGreatDoorXReadImagePart9
import Derived.Test.YtpdpnepnfhbonaaGreatDoorXReadImagePart4
import Derived.Test.YtpdpnepnfhbonaaGreatDoorXReadImagePart7
import Derived.Test.YtpdpnepnfhbonaaGreatDoorXReadImagePart10
import Derived.WalkKit
import Derived.WalkSpells
import Derived.KernelRfl
import Derived.LoopN
import Derived.Deep.CutRange
import Derived.Laws.MakeOwn
import Derived.Laws.OwnMore

namespace Go.Proofs.YtpdpnepnfhbonaaGreatDoor
open Go.RowKit
set_option linter.unusedVariables false
set_option maxRecDepth 100000

theorem perm_b {α : Type} (a b c : α) : [a, b, c].Perm [a, c, b] := List.Perm.cons _ (List.Perm.swap _ _ _)
theorem perm_c {α : Type} (a b c : α) : [a, b, c].Perm [b, c, a] := (List.Perm.swap _ _ _).trans (List.Perm.cons _ (List.Perm.swap _ _ _))
theorem zeros_own (ZS : List Int) (hz : ZS.length = 24) (w : World) : OwnN (w.alloc (.cells (intV ZS).toArray 3)) w.heap.size (.slice (some ⟨w.heap.size, 0, none⟩) 24 24) ZS :=
  OwnN.mk' (.inr ⟨by omega, by have := World.ownsRow_lit (base := w.heap.size) (e := 3) (size := 1) w (intV ZS).toArray 24 (Nat.le_refl _) (by unfold maxLen; omega) (by rw [intV_size, hz]); simpa using this⟩) hz
theorem RdJ.mk0 {w W1 W : World} {y X gr tc zg : Nat} {tq : Option Addr} {CS TB ZS : List Int} (h1 : Below w.heap.size w W1) (h2 : Below W1.heap.size W1 W) (hr : VarM W1 w.heap.size 30 (.slice none 0 0) (.slice none 0 0) (.slice none 0 0) (.slice none 0 0)) (hc : VarC W1 y CS) (hv : VarM W X 30 (.slice none 0 0) (.slice none 0 0) (.slice none 0 0) (.slice none 0 0)) (hX : W1.heap.size ≤ X) (hcl : CS.length = 24) (hzl : ZS.length = 24)
    (hA : OwnA W W1.heap.size [(.slice (some ⟨gr, 0, none⟩) 24 24, CS), (.slice tq TB.length tc, TB), (.slice (some ⟨zg, 0, none⟩) 24 24, ZS)]) :
    RdJ w ((((W.setCell ⟨X, 0, none⟩ (.slice (some ⟨gr, 0, none⟩) 24 24)).setCell ⟨X, 1, none⟩ (.slice tq TB.length tc)).setCell ⟨X, 2, none⟩ (.slice none 0 0)).setCell ⟨X, 3, none⟩ (.slice (some ⟨zg, 0, none⟩) 24 24)) y X CS ⟨some ⟨gr, 0, none⟩, 24, tq, tc, none, 0, some ⟨zg, 0, none⟩, 24⟩ ⟨CS, TB, [], ZS⟩ [] := by
  have hlt := hr.lt
  have hwX : w.heap.size ≤ X := Nat.le_trans h1.size hX
  have hyX : y ≠ X := by have := (Array.getElem?_eq_some_iff.1 hc).1; omega
  have o0 : OwnIm W w.heap.size ⟨some ⟨gr, 0, none⟩, 24, tq, tc, none, 0, some ⟨zg, 0, none⟩, 24⟩ ⟨CS, TB, [], ZS⟩ [] := ⟨rfl, .inl ⟨rfl, rfl, none, 0, rfl⟩, by
    have e : imRows ⟨some ⟨gr, 0, none⟩, 24, tq, tc, none, 0, some ⟨zg, 0, none⟩, 24⟩ ⟨CS, TB, [], ZS⟩ [] = [(.slice (some ⟨gr, 0, none⟩) 24 24, CS), (.slice tq TB.length tc, TB), (.slice (some ⟨zg, 0, none⟩) 24 24, ZS)] := by
      simp [imRows, hcl, hzl]
    rw [e]
    exact hA.base h1.size⟩
  have v1 := hv.set0 (.slice (some ⟨gr, 0, none⟩) 24 24)
  have v2 := v1.set1 (.slice tq TB.length tc)
  have v3 := v2.set2 (.slice none 0 0)
  have v4 := v3.set3 (.slice (some ⟨zg, 0, none⟩) 24 24)
  refine ⟨((((fr h1 h2).setCell (p := ⟨X, 0, none⟩) hwX _).setCell (p := ⟨X, 1, none⟩) hwX _).setCell (p := ⟨X, 2, none⟩) hwX _).setCell (p := ⟨X, 3, none⟩) hwX _, ?_, ?_, ?_, own_setV (own_setV (own_setV (own_setV o0 hv 0 _) v1 1 _) v2 2 _) v3 3 _, by omega, fun _ => rfl⟩
  · have hne : w.heap.size ≠ X := by omega
    exact ((((hr.below h2).other (p := ⟨X, 0, none⟩) hne _).other (p := ⟨X, 1, none⟩) hne _).other (p := ⟨X, 2, none⟩) hne _).other (p := ⟨X, 3, none⟩) hne _
  · exact varC_other (varC_other (varC_other (varC_other (block_of_below hc h2) (p := ⟨X, 0, none⟩) hyX _) (p := ⟨X, 1, none⟩) hyX _) (p := ⟨X, 2, none⟩) hyX _) (p := ⟨X, 3, none⟩) hyX _
  · simp only [hcl, hzl]
    exact v4

theorem exec_loadY {P : Program} {ρ : Operand → Value} {o : Oper} {ty : TypeId} {x : Operand} {p v : Value} {W : World} (ho : o.op = .load ty x) (hx : ρ x = p) (h : (Instr.loadAt ty p).run P W = .ok v W) : (execOp ρ o).run P W = .ok (.value v) W := by
  simp [execOp, ho, hx, h, Result.andThen]
theorem loadAt_ct (W : World) {g : Nat} {xs : List Int} (h : W.heap[g]? = some (.cells (intV xs).toArray 78 (0, 0))) (hl : xs.length = 24) : (Instr.loadAt 78 (.pointer (some ⟨g, 0, none⟩))).run Tryz.prog W = .ok (ctV xs) W := by
  simp only [Instr.loadAt, Instr.sureAddr, Sem.run_bind, Sem.run_pure, Result.andThen_ok, load_ct W h hl]
theorem froz_below {w w' : World} {p : Addr} {v : Value} (hb : Below w.heap.size w w') (hc : w.cell? p = some v) (hf : w.frozen? p = false) : w'.frozen? p = false := by
  have := hb.block p.block (World.block_lt_of_cell? _ _ hc)
  simp only [World.frozen?] at hf ⊢
  rw [this]; exact hf
theorem openL_few (s : ByteArray) (hs : s.size ≤ 65536) : (openL s 3).length ≤ 16384 := by
  have h1 := unL_length (bodyT s)
  have h2 := bodyT_size s
  unfold openL
  split
  · rw [h1]; omega
  · simp
theorem RdJ.fin {w W : World} {y x : Nat} {cs : List Int} {a : Im4} {M : Img} {ts : List Value} (J : RdJ w W y x cs a M ts) : VarM (putI W w.heap.size a M) w.heap.size 30 (.slice a.ro M.refs.length a.rc) (.slice a.tq M.table.length a.tc) (.slice a.so M.snaps.length a.sc) (.slice a.dq M.data.length a.dc) ∧ OwnIm (putI W w.heap.size a M) w.heap.size a M ts ∧ Below w.heap.size w (putI W w.heap.size a M) := by
  have v1 := J.r.set0 (.slice a.ro M.refs.length a.rc)
  have v2 := v1.set1 (.slice a.tq M.table.length a.tc)
  have v3 := v2.set2 (.slice a.so M.snaps.length a.sc)
  exact ⟨v3.set3 _, own_setV (own_setV (own_setV (own_setV J.o J.r 0 _) v1 1 _) v2 2 _) v3 3 _, (((J.k.setCell (p := ⟨w.heap.size, 0, none⟩) (Nat.le_refl _) _).setCell (p := ⟨w.heap.size, 1, none⟩) (Nat.le_refl _) _).setCell (p := ⟨w.heap.size, 2, none⟩) (Nat.le_refl _) _).setCell (p := ⟨w.heap.size, 3, none⟩) (Nat.le_refl _) _⟩
def RiP (ns : List ByteArray) (sec : Nat → ByteArray) (w : World) (e : Ending) (w' : World) : Prop := ((riB ns sec = true ∧ ∃ a ts, e = .returned (imV a (riM ns sec)) ∧ OwnIm w' w.heap.size a (riM ns sec) ts) ∨ (riB ns sec = false ∧ Pan e)) ∧ Below w.heap.size w w'

set_option maxHeartbeats 12800000 in
theorem readImage_impl0 (no : Option Addr) (na x y : Nat) (ns : List ByteArray) (ss : List ByteArray) (xs : List Wr) (h : Int) (w : World) (hd : diskB ss xs = true) (hns : ns.length ≤ 3) (hnm : ∀ s ∈ ns, s.size ≤ 6) (hn : Ss w no ns) (hs : SeeW w x y ss xs h) (hE : ErrW w) :
    Calls Tryz.prog 24 #[.slice no ns.length na, seeV x y] w fun e w' => RiP ns (secV ss xs h) w e w' := by
  have HDB := hide hd
  have HNS := hide hn
  have HNZ := hide hnm
  have HSE := hide hs
  have HER := hide hE
  have HSZ : Hid (∀ p : Nat, (secV ss xs h p).size ≤ 65536) := hide (fun p => by have := readV_size hd h p; unfold secV; omega)
  have hcf : ∀ args W, (callFunc 20 args).run Tryz.prog W = .ok (.enter 20 args) W := fun _ _ => rfl
  have HR0 := hide (VarM.new w 30 (.slice none 0 0) (.slice none 0 0) (.slice none 0 0) (.slice none 0 0))
  have HA0 := hide (Joins.below_alloc1 w (.cells #[.slice none 0 0, .slice none 0 0, .slice none 0 0, .slice none 0 0] 30))
  clear hd hn hs hE hnm
  unfold seeV
  go_enter Tryz.func24, Tryz.ntmps24
  go_upto_region 1 with fail
  revert HR0
  revert HA0
  generalize (w.alloc _) = W0
  intro HA0 HR0
  go_wp2_with fail
  refine (see_any x y 10 ss xs h _ (by omega) (unhide HDB) ((unhide HSE).below (unhide HA0))).mono ?_
  rintro e w1 ⟨rfl, hb1⟩
  have HB1 := hide (fr (unhide HA0) hb1)
  have HR1 := hide ((unhide HR0).below hb1)
  clear hb1 HR0 HA0
  go_wp2_with fail
  refine (readCounts_any (secV ss xs h 10) _ (unhide HSZ 10) ((unhide HER).below (unhide HB1))).mono ?_
  rintro e w2 ⟨⟨hok, rfl⟩ | ⟨hok, u, pv, rfl⟩, hb2⟩
  case inr =>
    have HF := hide (ri_c (ns := ns) hok)
    have HB2 := hide (fr (unhide HB1) hb2)
    clear hb2 hok
    go_wp2
    exact ⟨rfl, .inr ⟨unhide HF, _, _, rfl⟩, unhide HB2⟩
  have HCO := hide hok
  have HB2 := hide (fr (unhide HB1) hb2)
  have HR2 := hide ((unhide HR1).below hb2)
  have HCL : Hid ((cdL (secV ss xs h 10)).length = 24) := hide (cdL_len hok)
  clear hb2 hok HB1 HR1
  obtain ⟨CS, HCQ⟩ : ∃ CS, Hid (cdL (secV ss xs h 10) = CS) := ⟨_, hide rfl⟩
  rw [unhide HCQ] at HCL ⊢
  have HNN := hide (arr_new w2)
  have HBB := hide (fr (unhide HB2) (Joins.below_alloc1 w2 (.cells #[.int .i64 0, .int .i64 0, .int .i64 0, .int .i64 0, .int .i64 0, .int .i64 0, .int .i64 0, .int .i64 0, .int .i64 0, .int .i64 0, .int .i64 0, .int .i64 0, .int .i64 0, .int .i64 0, .int .i64 0, .int .i64 0, .int .i64 0, .int .i64 0, .int .i64 0, .int .i64 0, .int .i64 0, .int .i64 0, .int .i64 0, .int .i64 0] 78)))
  have HRB := hide ((unhide HR2).below (Joins.below_alloc1 w2 (.cells #[.int .i64 0, .int .i64 0, .int .i64 0, .int .i64 0, .int .i64 0, .int .i64 0, .int .i64 0, .int .i64 0, .int .i64 0, .int .i64 0, .int .i64 0, .int .i64 0, .int .i64 0, .int .i64 0, .int .i64 0, .int .i64 0, .int .i64 0, .int .i64 0, .int .i64 0, .int .i64 0, .int .i64 0, .int .i64 0, .int .i64 0, .int .i64 0] 78)))
  have HLT := hide (unhide HR2).lt
  have HSZ2 := hide (unhide HB2).size
  go_upto_region 2 with (refine wpList_store_arr rfl 78 _ _ rfl w2.heap.size rfl (intV CS).toArray rfl _ _ (unhide HNN) (sizeA (unhide HCL)) (by rw [intV_size, intV_size, unhide HCL]; rfl) (intV_one _) ?_; intro W1 hn2 hk2 hs2; have HY : Hid (VarC W1 w2.heap.size CS) := hide hn2; have HBW := hide (keep_one (unhide HBB) hk2 (unhide HSZ2)); have HR : Hid (VarM W1 w.heap.size 30 (.slice none 0 0) (.slice none 0 0) (.slice none 0 0) (.slice none 0 0)) := hide ((hk2.block _ (unhide HRB).lt (Nat.ne_of_lt (unhide HLT))).trans (unhide HRB)); clear hn2 hk2 hs2)
  simp only [Act.put]
  clear HNN HBB HRB HLT HSZ2 HB2 HR2
  generalize w2.heap.size = yv at *
  obtain ⟨ZS, HZS⟩ : ∃ ZS : List Int, Hid (ZS = List.replicate 24 0) := ⟨_, hide rfl⟩
  have HZL : Hid (ZS.length = 24) := hide (by rw [unhide HZS]; simp)
  have hmk : ∀ W : World, (Instr.makeSlice 27 (.int .i64 24) (.int .i64 24)).run Tryz.prog W = .ok (.slice (some ⟨W.heap.size, 0, none⟩) 24 24) (W.alloc (.cells (intV ZS).toArray 3)) := fun W => by rw [unhide HZS]; exact mkZ 24 (by omega) W
  obtain ⟨TB, HTQ⟩ : ∃ TB, Hid (openL (secV ss xs h 11) 3 = TB) := ⟨_, hide rfl⟩
  have HBD : Hid (Below W1.heap.size W1 W1.drew) := hide (Below.refl _ _).drew
  go_cut [6] from 14 to 20 (fun v wx => ∃ (X : Nat) (a : Im4), v = .pointer (some ⟨X, 0, none⟩) ∧ Hid (tdB (secV ss xs h 11) = true) ∧ Hid (RdJ w wx yv X CS a ⟨CS, TB, [], ZS⟩ []))
  case first =>
    have hS0 := unhide HBD
    have hld : ∀ W : World, Below W1.heap.size W1 W → (Instr.loadAt 78 (.pointer (some ⟨yv, 0, none⟩))).run Tryz.prog W = .ok (ctV CS) W := fun W hW => loadAt_ct W (block_of_below (unhide HY) hW) (unhide HCL)
    refine wp_region_treeP (fun w' => Below W1.heap.size W1 w') [0, 1, 2, 3, 4, 5, 6, 7] (by kernel_rfl) ?_
    refine tree_segP (fun c d v a w h => by cases d <;> exact h) (n := 7) [(0, 0), (2, 0)] (by kernel_rfl) rfl (by kernel_rfl) ?_
    refine ord_read (ctV CS) rfl rfl hS0 (fun W hW => exec_loadY rfl rfl (hld W hW)) ?_
    refine ord_read (.func (.func 20) #[] #[.pointer (some ⟨x, 0, none⟩), .pointer (some ⟨y, 0, none⟩)]) rfl rfl hS0 (fun W hW => by go_simp) ?_
    refine ord_end ?_
    clear hS0 hld
    revert HBD
    generalize W1.drew = WD
    intro HBD
    have HA0 : Hid (OwnA WD W1.heap.size []) := hide (OwnA.nil _ _)
    refine tree_three (fuel := 6) (i := 1) (j := 5) (k := 7) rfl rfl rfl rfl rfl rfl (by kernel_rfl) ?t1 ?t2 ?t3
    case t1 =>
      intro K hK
      unfold Oper.wp
      go_simp
      refine (list_any CS _ (unhide HCL)).mono ?_
      rintro e w4 ⟨gr, rfl, hor, hb⟩
      have HA4 := hide ((unhide HA0).snoc hb (OwnN.mk' (.inr ⟨by omega, hor⟩) (unhide HCL)) (unhide HBD).size)
      have HB4 := hide (fr (unhide HBD) hb)
      clear hor hb
      refine hK _ _ (fun _ => unhide HB4) ?_
      clear hK K
      refine tree_three (fuel := 5) (i := 3) (j := 5) (k := 7) rfl rfl rfl rfl rfl rfl (by kernel_rfl) ?t5 ?t6 ?t7
      case t5 =>
        intro K hK
        unfold Oper.wp
        go_simp
        refine (see_any x y 11 ss xs h _ (by omega) (unhide HDB) ((unhide HSE).below (fr (unhide HBW) (unhide HB4)))).mono ?_
        rintro e w8 ⟨rfl, hb⟩
        have HA8 := hide ((unhide HA4).below hb)
        have HB8 := hide (fr (unhide HB4) hb)
        clear hb
        refine hK _ _ (fun _ => unhide HB8) ?_
        clear hK K
        refine tree_three (fuel := 4) (i := 4) (j := 5) (k := 7) rfl rfl rfl rfl rfl rfl (by kernel_rfl) ?t9 ?t10 ?t11
        case t9 =>
          intro K hK
          unfold Oper.wp
          go_simp
          refine (readTable_any (secV ss xs h 11) _ (unhide HSZ 11) ((unhide HER).below (fr (unhide HBW) (unhide HB8)))).mono ?_
          rintro e w12 ⟨⟨hok, tv, rfl, tq, tc, rfl, hot⟩ | ⟨hok, u, pv, rfl⟩, hb⟩
          case inr =>
            exact ⟨rfl, .inr ⟨ri_t hok, _, _, rfl⟩, fr (unhide HBW) (fr (unhide HB8) hb)⟩
          rw [unhide HTQ] at hot ⊢
          have HA12 := hide ((unhide HA8).snoc hb (OwnN.mk' hot rfl) (unhide HB8).size)
          have HB12 := hide (fr (unhide HB8) hb)
          have HTO := hide hok
          clear hot hb hok
          refine hK _ _ (fun _ => unhide HB12) ?_
          clear hK K
          refine tree_two (fuel := 3) (i := 5) (j := 7) rfl rfl rfl rfl (by kernel_rfl) ?t13 ?t14
          case t13 =>
            intro K hK
            unfold Oper.wp
            go_simp
            have HA15 := hide ((unhide HA12).snoc (Joins.below_alloc1 (w12) (.cells (intV ZS).toArray 3)) (zeros_own ZS (unhide HZL) (w12)) (unhide HB12).size)
            have HB15 := hide (fr (unhide HB12) (Joins.below_alloc1 (w12) (.cells (intV ZS).toArray 3)))
            refine hK _ _ (fun _ => unhide HB15) ?_
            clear hK K
            revert HA15
            revert HB15
            generalize (w12).heap.size = zg
            generalize ((w12).alloc _) = w15
            intro HB15
            intro HA15
            refine tree_segP (fun c d v a w h => by cases d <;> exact h) (n := 0) [(6, 0), (7, 2), (8, 3)] (by kernel_rfl) rfl (by kernel_rfl) ?_
            refine ord_read (.agg #[.slice (some ⟨gr, 0, none⟩) 24 24, .slice tq TB.length tc, .slice none 0 0, .slice (some ⟨zg, 0, none⟩) 24 24]) rfl rfl (unhide HB15) (fun W hW => by go_simp) ?_
            refine ord_held rfl rfl ?_
            intro K hK
            unfold Oper.wp
            go_simp
            have HA16 := hide ((unhide HA15).below (Joins.below_alloc1 (w15) (.cells #[.slice none 0 0, .slice none 0 0, .slice none 0 0, .slice none 0 0] 30)))
            have HB16 := hide (fr (unhide HB15) (Joins.below_alloc1 (w15) (.cells #[.slice none 0 0, .slice none 0 0, .slice none 0 0, .slice none 0 0] 30)))
            have HV16 := hide (VarM.new (w15) 30 (.slice none 0 0) (.slice none 0 0) (.slice none 0 0) (.slice none 0 0))
            have HX := hide (unhide HB15).size
            refine hK _ _ (unhide HB16) ?_
            clear hK K
            revert HA16
            revert HB16
            revert HV16
            revert HX
            generalize (w15).heap.size = X
            generalize ((w15).alloc _) = w16
            intro HX
            intro HV16
            intro HB16
            intro HA16
            obtain ⟨x0, x1, x2, x3⟩ := (unhide HV16).cells
            obtain ⟨z0, z1, z2, z3⟩ := (unhide HV16).free
            have HJ := hide (RdJ.mk0 (unhide HBW) (unhide HB16) (unhide HR) (unhide HY) (unhide HV16) (unhide HX) (unhide HCL) (unhide HZL) ((unhide HA16).perm (List.Perm.refl _)))
            refine ord_alone rfl rfl ?_
            intro K hK
            unfold Oper.wp
            go_simp
            refine hK _ _ ?_
            clear hK K x0 x1 x2 x3 z0 z1 z2 z3
            refine ord_end ?_
            refine tree_doneP (by kernel_rfl) ?_
            go_wp2_with fail
            go_meet
            exact ⟨X, _, rfl, HTO, HJ⟩
          case t14 =>
            intro K hK
            unfold Oper.wp
            go_simp
            have HA17 := hide ((unhide HA12).below (Joins.below_alloc1 (w12) (.cells #[.slice none 0 0, .slice none 0 0, .slice none 0 0, .slice none 0 0] 30)))
            have HB17 := hide (fr (unhide HB12) (Joins.below_alloc1 (w12) (.cells #[.slice none 0 0, .slice none 0 0, .slice none 0 0, .slice none 0 0] 30)))
            have HV17 := hide (VarM.new (w12) 30 (.slice none 0 0) (.slice none 0 0) (.slice none 0 0) (.slice none 0 0))
            have HX := hide (unhide HB12).size
            refine hK _ _ (fun _ => unhide HB17) ?_
            clear hK K
            revert HA17
            revert HB17
            revert HV17
            revert HX
            generalize (w12).heap.size = X
            generalize ((w12).alloc _) = w17
            intro HX
            intro HV17
            intro HB17
            intro HA17
            refine tree_segP (fun c d v a w h => by cases d <;> exact h) (n := 0) [(5, 2), (6, 0), (8, 3)] (by kernel_rfl) rfl (by kernel_rfl) ?_
            refine ord_held rfl rfl ?_
            intro K hK
            unfold Oper.wp
            go_simp
            have HA18 := hide ((unhide HA17).snoc (Joins.below_alloc1 (w17) (.cells (intV ZS).toArray 3)) (zeros_own ZS (unhide HZL) (w17)) (unhide HB17).size)
            have HB18 := hide (fr (unhide HB17) (Joins.below_alloc1 (w17) (.cells (intV ZS).toArray 3)))
            have HV18 := hide ((unhide HV17).below (Joins.below_alloc1 (w17) (.cells (intV ZS).toArray 3)))
            refine hK _ _ (unhide HB18) ?_
            clear hK K
            revert HA18
            revert HB18
            revert HV18
            generalize (w17).heap.size = zg
            generalize ((w17).alloc _) = w18
            intro HV18
            intro HB18
            intro HA18
            refine ord_read (.agg #[.slice (some ⟨gr, 0, none⟩) 24 24, .slice tq TB.length tc, .slice none 0 0, .slice (some ⟨zg, 0, none⟩) 24 24]) rfl rfl (unhide HB18) (fun W hW => by go_simp) ?_
            obtain ⟨x0, x1, x2, x3⟩ := (unhide HV18).cells
            obtain ⟨z0, z1, z2, z3⟩ := (unhide HV18).free
            have HJ := hide (RdJ.mk0 (unhide HBW) (unhide HB18) (unhide HR) (unhide HY) (unhide HV18) (unhide HX) (unhide HCL) (unhide HZL) ((unhide HA18).perm (List.Perm.refl _)))
            refine ord_alone rfl rfl ?_
            intro K hK
            unfold Oper.wp
            go_simp
            refine hK _ _ ?_
            clear hK K x0 x1 x2 x3 z0 z1 z2 z3
            refine ord_end ?_
            refine tree_doneP (by kernel_rfl) ?_
            go_wp2_with fail
            go_meet
            exact ⟨X, _, rfl, HTO, HJ⟩
        case t10 =>
          intro K hK
          unfold Oper.wp
          go_simp
          have HA19 := hide ((unhide HA8).snoc (Joins.below_alloc1 (w8) (.cells (intV ZS).toArray 3)) (zeros_own ZS (unhide HZL) (w8)) (unhide HB8).size)
          have HB19 := hide (fr (unhide HB8) (Joins.below_alloc1 (w8) (.cells (intV ZS).toArray 3)))
          refine hK _ _ (fun _ => unhide HB19) ?_
          clear hK K
          revert HA19
          revert HB19
          generalize (w8).heap.size = zg
          generalize ((w8).alloc _) = w19
          intro HB19
          intro HA19
          refine tree_two (fuel := 3) (i := 4) (j := 7) rfl rfl rfl rfl (by kernel_rfl) ?t20 ?t21
          case t20 =>
            intro K hK
            unfold Oper.wp
            go_simp
            refine (readTable_any (secV ss xs h 11) _ (unhide HSZ 11) ((unhide HER).below (fr (unhide HBW) (unhide HB19)))).mono ?_
            rintro e w22 ⟨⟨hok, tv, rfl, tq, tc, rfl, hot⟩ | ⟨hok, u, pv, rfl⟩, hb⟩
            case inr =>
              exact ⟨rfl, .inr ⟨ri_t hok, _, _, rfl⟩, fr (unhide HBW) (fr (unhide HB19) hb)⟩
            rw [unhide HTQ] at hot ⊢
            have HA22 := hide ((unhide HA19).snoc hb (OwnN.mk' hot rfl) (unhide HB19).size)
            have HB22 := hide (fr (unhide HB19) hb)
            have HTO := hide hok
            clear hot hb hok
            refine hK _ _ (fun _ => unhide HB22) ?_
            clear hK K
            refine tree_segP (fun c d v a w h => by cases d <;> exact h) (n := 0) [(6, 0), (7, 2), (8, 3)] (by kernel_rfl) rfl (by kernel_rfl) ?_
            refine ord_read (.agg #[.slice (some ⟨gr, 0, none⟩) 24 24, .slice tq TB.length tc, .slice none 0 0, .slice (some ⟨zg, 0, none⟩) 24 24]) rfl rfl (unhide HB22) (fun W hW => by go_simp) ?_
            refine ord_held rfl rfl ?_
            intro K hK
            unfold Oper.wp
            go_simp
            have HA23 := hide ((unhide HA22).below (Joins.below_alloc1 (w22) (.cells #[.slice none 0 0, .slice none 0 0, .slice none 0 0, .slice none 0 0] 30)))
            have HB23 := hide (fr (unhide HB22) (Joins.below_alloc1 (w22) (.cells #[.slice none 0 0, .slice none 0 0, .slice none 0 0, .slice none 0 0] 30)))
            have HV23 := hide (VarM.new (w22) 30 (.slice none 0 0) (.slice none 0 0) (.slice none 0 0) (.slice none 0 0))
            have HX := hide (unhide HB22).size
            refine hK _ _ (unhide HB23) ?_
            clear hK K
            revert HA23
            revert HB23
            revert HV23
            revert HX
            generalize (w22).heap.size = X
            generalize ((w22).alloc _) = w23
            intro HX
            intro HV23
            intro HB23
            intro HA23
            obtain ⟨x0, x1, x2, x3⟩ := (unhide HV23).cells
            obtain ⟨z0, z1, z2, z3⟩ := (unhide HV23).free
            have HJ := hide (RdJ.mk0 (unhide HBW) (unhide HB23) (unhide HR) (unhide HY) (unhide HV23) (unhide HX) (unhide HCL) (unhide HZL) ((unhide HA23).perm (perm_b _ _ _)))
            refine ord_alone rfl rfl ?_
            intro K hK
            unfold Oper.wp
            go_simp
            refine hK _ _ ?_
            clear hK K x0 x1 x2 x3 z0 z1 z2 z3
            refine ord_end ?_
            refine tree_doneP (by kernel_rfl) ?_
            go_wp2_with fail
            go_meet
            exact ⟨X, _, rfl, HTO, HJ⟩
          case t21 =>
            intro K hK
            unfold Oper.wp
            go_simp
            have HA24 := hide ((unhide HA19).below (Joins.below_alloc1 (w19) (.cells #[.slice none 0 0, .slice none 0 0, .slice none 0 0, .slice none 0 0] 30)))
            have HB24 := hide (fr (unhide HB19) (Joins.below_alloc1 (w19) (.cells #[.slice none 0 0, .slice none 0 0, .slice none 0 0, .slice none 0 0] 30)))
            have HV24 := hide (VarM.new (w19) 30 (.slice none 0 0) (.slice none 0 0) (.slice none 0 0) (.slice none 0 0))
            have HX := hide (unhide HB19).size
            refine hK _ _ (fun _ => unhide HB24) ?_
            clear hK K
            revert HA24
            revert HB24
            revert HV24
            revert HX
            generalize (w19).heap.size = X
            generalize ((w19).alloc _) = w24
            intro HX
            intro HV24
            intro HB24
            intro HA24
            refine tree_segP (fun c d v a w h => by cases d <;> exact h) (n := 0) [(4, 2), (6, 0), (8, 3)] (by kernel_rfl) rfl (by kernel_rfl) ?_
            refine ord_held rfl rfl ?_
            intro K hK
            unfold Oper.wp
            go_simp
            refine (readTable_any (secV ss xs h 11) _ (unhide HSZ 11) ((unhide HER).below (fr (unhide HBW) (unhide HB24)))).mono ?_
            rintro e w25 ⟨⟨hok, tv, rfl, tq, tc, rfl, hot⟩ | ⟨hok, u, pv, rfl⟩, hb⟩
            case inr =>
              exact ⟨rfl, .inr ⟨ri_t hok, _, _, rfl⟩, fr (unhide HBW) (fr (unhide HB24) hb)⟩
            rw [unhide HTQ] at hot ⊢
            have HA25 := hide ((unhide HA24).snoc hb (OwnN.mk' hot rfl) (unhide HB24).size)
            have HB25 := hide (fr (unhide HB24) hb)
            have HTO := hide hok
            have HV25 := hide ((unhide HV24).below hb)
            clear hot hb hok
            refine hK _ _ (unhide HB25) ?_
            clear hK K
            refine ord_read (.agg #[.slice (some ⟨gr, 0, none⟩) 24 24, .slice tq TB.length tc, .slice none 0 0, .slice (some ⟨zg, 0, none⟩) 24 24]) rfl rfl (unhide HB25) (fun W hW => by go_simp) ?_
            obtain ⟨x0, x1, x2, x3⟩ := (unhide HV25).cells
            obtain ⟨z0, z1, z2, z3⟩ := (unhide HV25).free
            have HJ := hide (RdJ.mk0 (unhide HBW) (unhide HB25) (unhide HR) (unhide HY) (unhide HV25) (unhide HX) (unhide HCL) (unhide HZL) ((unhide HA25).perm (perm_b _ _ _)))
            refine ord_alone rfl rfl ?_
            intro K hK
            unfold Oper.wp
            go_simp
            refine hK _ _ ?_
            clear hK K x0 x1 x2 x3 z0 z1 z2 z3
            refine ord_end ?_
            refine tree_doneP (by kernel_rfl) ?_
            go_wp2_with fail
            go_meet
            exact ⟨X, _, rfl, HTO, HJ⟩
        case t11 =>
          intro K hK
          unfold Oper.wp
          go_simp
          have HA26 := hide ((unhide HA8).below (Joins.below_alloc1 (w8) (.cells #[.slice none 0 0, .slice none 0 0, .slice none 0 0, .slice none 0 0] 30)))
          have HB26 := hide (fr (unhide HB8) (Joins.below_alloc1 (w8) (.cells #[.slice none 0 0, .slice none 0 0, .slice none 0 0, .slice none 0 0] 30)))
          have HV26 := hide (VarM.new (w8) 30 (.slice none 0 0) (.slice none 0 0) (.slice none 0 0) (.slice none 0 0))
          have HX := hide (unhide HB8).size
          refine hK _ _ (fun _ => unhide HB26) ?_
          clear hK K
          revert HA26
          revert HB26
          revert HV26
          revert HX
          generalize (w8).heap.size = X
          generalize ((w8).alloc _) = w26
          intro HX
          intro HV26
          intro HB26
          intro HA26
          refine tree_two (fuel := 3) (i := 4) (j := 5) rfl rfl rfl rfl (by kernel_rfl) ?t27 ?t28
          case t27 =>
            intro K hK
            unfold Oper.wp
            go_simp
            refine (readTable_any (secV ss xs h 11) _ (unhide HSZ 11) ((unhide HER).below (fr (unhide HBW) (unhide HB26)))).mono ?_
            rintro e w29 ⟨⟨hok, tv, rfl, tq, tc, rfl, hot⟩ | ⟨hok, u, pv, rfl⟩, hb⟩
            case inr =>
              exact ⟨rfl, .inr ⟨ri_t hok, _, _, rfl⟩, fr (unhide HBW) (fr (unhide HB26) hb)⟩
            rw [unhide HTQ] at hot ⊢
            have HA29 := hide ((unhide HA26).snoc hb (OwnN.mk' hot rfl) (unhide HB26).size)
            have HB29 := hide (fr (unhide HB26) hb)
            have HTO := hide hok
            have HV29 := hide ((unhide HV26).below hb)
            clear hot hb hok
            refine hK _ _ (fun _ => unhide HB29) ?_
            clear hK K
            refine tree_segP (fun c d v a w h => by cases d <;> exact h) (n := 0) [(5, 2), (6, 0), (8, 3)] (by kernel_rfl) rfl (by kernel_rfl) ?_
            refine ord_held rfl rfl ?_
            intro K hK
            unfold Oper.wp
            go_simp
            have HA30 := hide ((unhide HA29).snoc (Joins.below_alloc1 (w29) (.cells (intV ZS).toArray 3)) (zeros_own ZS (unhide HZL) (w29)) (unhide HB29).size)
            have HB30 := hide (fr (unhide HB29) (Joins.below_alloc1 (w29) (.cells (intV ZS).toArray 3)))
            have HV30 := hide ((unhide HV29).below (Joins.below_alloc1 (w29) (.cells (intV ZS).toArray 3)))
            refine hK _ _ (unhide HB30) ?_
            clear hK K
            revert HA30
            revert HB30
            revert HV30
            generalize (w29).heap.size = zg
            generalize ((w29).alloc _) = w30
            intro HV30
            intro HB30
            intro HA30
            refine ord_read (.agg #[.slice (some ⟨gr, 0, none⟩) 24 24, .slice tq TB.length tc, .slice none 0 0, .slice (some ⟨zg, 0, none⟩) 24 24]) rfl rfl (unhide HB30) (fun W hW => by go_simp) ?_
            obtain ⟨x0, x1, x2, x3⟩ := (unhide HV30).cells
            obtain ⟨z0, z1, z2, z3⟩ := (unhide HV30).free
            have HJ := hide (RdJ.mk0 (unhide HBW) (unhide HB30) (unhide HR) (unhide HY) (unhide HV30) (unhide HX) (unhide HCL) (unhide HZL) ((unhide HA30).perm (List.Perm.refl _)))
            refine ord_alone rfl rfl ?_
            intro K hK
            unfold Oper.wp
            go_simp
            refine hK _ _ ?_
            clear hK K x0 x1 x2 x3 z0 z1 z2 z3
            refine ord_end ?_
            refine tree_doneP (by kernel_rfl) ?_
            go_wp2_with fail
            go_meet
            exact ⟨X, _, rfl, HTO, HJ⟩
          case t28 =>
            intro K hK
            unfold Oper.wp
            go_simp
            have HA31 := hide ((unhide HA26).snoc (Joins.below_alloc1 (w26) (.cells (intV ZS).toArray 3)) (zeros_own ZS (unhide HZL) (w26)) (unhide HB26).size)
            have HB31 := hide (fr (unhide HB26) (Joins.below_alloc1 (w26) (.cells (intV ZS).toArray 3)))
            have HV31 := hide ((unhide HV26).below (Joins.below_alloc1 (w26) (.cells (intV ZS).toArray 3)))
            refine hK _ _ (fun _ => unhide HB31) ?_
            clear hK K
            revert HA31
            revert HB31
            revert HV31
            generalize (w26).heap.size = zg
            generalize ((w26).alloc _) = w31
            intro HV31
            intro HB31
            intro HA31
            refine tree_segP (fun c d v a w h => by cases d <;> exact h) (n := 0) [(4, 2), (6, 0), (8, 3)] (by kernel_rfl) rfl (by kernel_rfl) ?_
            refine ord_held rfl rfl ?_
            intro K hK
            unfold Oper.wp
            go_simp
            refine (readTable_any (secV ss xs h 11) _ (unhide HSZ 11) ((unhide HER).below (fr (unhide HBW) (unhide HB31)))).mono ?_
            rintro e w32 ⟨⟨hok, tv, rfl, tq, tc, rfl, hot⟩ | ⟨hok, u, pv, rfl⟩, hb⟩
            case inr =>
              exact ⟨rfl, .inr ⟨ri_t hok, _, _, rfl⟩, fr (unhide HBW) (fr (unhide HB31) hb)⟩
            rw [unhide HTQ] at hot ⊢
            have HA32 := hide ((unhide HA31).snoc hb (OwnN.mk' hot rfl) (unhide HB31).size)
            have HB32 := hide (fr (unhide HB31) hb)
            have HTO := hide hok
            have HV32 := hide ((unhide HV31).below hb)
            clear hot hb hok
            refine hK _ _ (unhide HB32) ?_
            clear hK K
            refine ord_read (.agg #[.slice (some ⟨gr, 0, none⟩) 24 24, .slice tq TB.length tc, .slice none 0 0, .slice (some ⟨zg, 0, none⟩) 24 24]) rfl rfl (unhide HB32) (fun W hW => by go_simp) ?_
            obtain ⟨x0, x1, x2, x3⟩ := (unhide HV32).cells
            obtain ⟨z0, z1, z2, z3⟩ := (unhide HV32).free
            have HJ := hide (RdJ.mk0 (unhide HBW) (unhide HB32) (unhide HR) (unhide HY) (unhide HV32) (unhide HX) (unhide HCL) (unhide HZL) ((unhide HA32).perm (perm_b _ _ _)))
            refine ord_alone rfl rfl ?_
            intro K hK
            unfold Oper.wp
            go_simp
            refine hK _ _ ?_
            clear hK K x0 x1 x2 x3 z0 z1 z2 z3
            refine ord_end ?_
            refine tree_doneP (by kernel_rfl) ?_
            go_wp2_with fail
            go_meet
            exact ⟨X, _, rfl, HTO, HJ⟩
      case t6 =>
        intro K hK
        unfold Oper.wp
        go_simp
        have HA33 := hide ((unhide HA4).snoc (Joins.below_alloc1 (w4) (.cells (intV ZS).toArray 3)) (zeros_own ZS (unhide HZL) (w4)) (unhide HB4).size)
        have HB33 := hide (fr (unhide HB4) (Joins.below_alloc1 (w4) (.cells (intV ZS).toArray 3)))
        refine hK _ _ (fun _ => unhide HB33) ?_
        clear hK K
        revert HA33
        revert HB33
        generalize (w4).heap.size = zg
        generalize ((w4).alloc _) = w33
        intro HB33
        intro HA33
        refine tree_two (fuel := 4) (i := 3) (j := 7) rfl rfl rfl rfl (by kernel_rfl) ?t34 ?t35
        case t34 =>
          intro K hK
          unfold Oper.wp
          go_simp
          refine (see_any x y 11 ss xs h _ (by omega) (unhide HDB) ((unhide HSE).below (fr (unhide HBW) (unhide HB33)))).mono ?_
          rintro e w36 ⟨rfl, hb⟩
          have HA36 := hide ((unhide HA33).below hb)
          have HB36 := hide (fr (unhide HB33) hb)
          clear hb
          refine hK _ _ (fun _ => unhide HB36) ?_
          clear hK K
          refine tree_two (fuel := 3) (i := 4) (j := 7) rfl rfl rfl rfl (by kernel_rfl) ?t37 ?t38
          case t37 =>
            intro K hK
            unfold Oper.wp
            go_simp
            refine (readTable_any (secV ss xs h 11) _ (unhide HSZ 11) ((unhide HER).below (fr (unhide HBW) (unhide HB36)))).mono ?_
            rintro e w39 ⟨⟨hok, tv, rfl, tq, tc, rfl, hot⟩ | ⟨hok, u, pv, rfl⟩, hb⟩
            case inr =>
              exact ⟨rfl, .inr ⟨ri_t hok, _, _, rfl⟩, fr (unhide HBW) (fr (unhide HB36) hb)⟩
            rw [unhide HTQ] at hot ⊢
            have HA39 := hide ((unhide HA36).snoc hb (OwnN.mk' hot rfl) (unhide HB36).size)
            have HB39 := hide (fr (unhide HB36) hb)
            have HTO := hide hok
            clear hot hb hok
            refine hK _ _ (fun _ => unhide HB39) ?_
            clear hK K
            refine tree_segP (fun c d v a w h => by cases d <;> exact h) (n := 0) [(6, 0), (7, 2), (8, 3)] (by kernel_rfl) rfl (by kernel_rfl) ?_
            refine ord_read (.agg #[.slice (some ⟨gr, 0, none⟩) 24 24, .slice tq TB.length tc, .slice none 0 0, .slice (some ⟨zg, 0, none⟩) 24 24]) rfl rfl (unhide HB39) (fun W hW => by go_simp) ?_
            refine ord_held rfl rfl ?_
            intro K hK
            unfold Oper.wp
            go_simp
            have HA40 := hide ((unhide HA39).below (Joins.below_alloc1 (w39) (.cells #[.slice none 0 0, .slice none 0 0, .slice none 0 0, .slice none 0 0] 30)))
            have HB40 := hide (fr (unhide HB39) (Joins.below_alloc1 (w39) (.cells #[.slice none 0 0, .slice none 0 0, .slice none 0 0, .slice none 0 0] 30)))
            have HV40 := hide (VarM.new (w39) 30 (.slice none 0 0) (.slice none 0 0) (.slice none 0 0) (.slice none 0 0))
            have HX := hide (unhide HB39).size
            refine hK _ _ (unhide HB40) ?_
            clear hK K
            revert HA40
            revert HB40
            revert HV40
            revert HX
            generalize (w39).heap.size = X
            generalize ((w39).alloc _) = w40
            intro HX
            intro HV40
            intro HB40
            intro HA40
            obtain ⟨x0, x1, x2, x3⟩ := (unhide HV40).cells
            obtain ⟨z0, z1, z2, z3⟩ := (unhide HV40).free
            have HJ := hide (RdJ.mk0 (unhide HBW) (unhide HB40) (unhide HR) (unhide HY) (unhide HV40) (unhide HX) (unhide HCL) (unhide HZL) ((unhide HA40).perm (perm_b _ _ _)))
            refine ord_alone rfl rfl ?_
            intro K hK
            unfold Oper.wp
            go_simp
            refine hK _ _ ?_
            clear hK K x0 x1 x2 x3 z0 z1 z2 z3
            refine ord_end ?_
            refine tree_doneP (by kernel_rfl) ?_
            go_wp2_with fail
            go_meet
            exact ⟨X, _, rfl, HTO, HJ⟩
          case t38 =>
            intro K hK
            unfold Oper.wp
            go_simp
            have HA41 := hide ((unhide HA36).below (Joins.below_alloc1 (w36) (.cells #[.slice none 0 0, .slice none 0 0, .slice none 0 0, .slice none 0 0] 30)))
            have HB41 := hide (fr (unhide HB36) (Joins.below_alloc1 (w36) (.cells #[.slice none 0 0, .slice none 0 0, .slice none 0 0, .slice none 0 0] 30)))
            have HV41 := hide (VarM.new (w36) 30 (.slice none 0 0) (.slice none 0 0) (.slice none 0 0) (.slice none 0 0))
            have HX := hide (unhide HB36).size
            refine hK _ _ (fun _ => unhide HB41) ?_
            clear hK K
            revert HA41
            revert HB41
            revert HV41
            revert HX
            generalize (w36).heap.size = X
            generalize ((w36).alloc _) = w41
            intro HX
            intro HV41
            intro HB41
            intro HA41
            refine tree_segP (fun c d v a w h => by cases d <;> exact h) (n := 0) [(4, 2), (6, 0), (8, 3)] (by kernel_rfl) rfl (by kernel_rfl) ?_
            refine ord_held rfl rfl ?_
            intro K hK
            unfold Oper.wp
            go_simp
            refine (readTable_any (secV ss xs h 11) _ (unhide HSZ 11) ((unhide HER).below (fr (unhide HBW) (unhide HB41)))).mono ?_
            rintro e w42 ⟨⟨hok, tv, rfl, tq, tc, rfl, hot⟩ | ⟨hok, u, pv, rfl⟩, hb⟩
            case inr =>
              exact ⟨rfl, .inr ⟨ri_t hok, _, _, rfl⟩, fr (unhide HBW) (fr (unhide HB41) hb)⟩
            rw [unhide HTQ] at hot ⊢
            have HA42 := hide ((unhide HA41).snoc hb (OwnN.mk' hot rfl) (unhide HB41).size)
            have HB42 := hide (fr (unhide HB41) hb)
            have HTO := hide hok
            have HV42 := hide ((unhide HV41).below hb)
            clear hot hb hok
            refine hK _ _ (unhide HB42) ?_
            clear hK K
            refine ord_read (.agg #[.slice (some ⟨gr, 0, none⟩) 24 24, .slice tq TB.length tc, .slice none 0 0, .slice (some ⟨zg, 0, none⟩) 24 24]) rfl rfl (unhide HB42) (fun W hW => by go_simp) ?_
            obtain ⟨x0, x1, x2, x3⟩ := (unhide HV42).cells
            obtain ⟨z0, z1, z2, z3⟩ := (unhide HV42).free
            have HJ := hide (RdJ.mk0 (unhide HBW) (unhide HB42) (unhide HR) (unhide HY) (unhide HV42) (unhide HX) (unhide HCL) (unhide HZL) ((unhide HA42).perm (perm_b _ _ _)))
            refine ord_alone rfl rfl ?_
            intro K hK
            unfold Oper.wp
            go_simp
            refine hK _ _ ?_
            clear hK K x0 x1 x2 x3 z0 z1 z2 z3
            refine ord_end ?_
            refine tree_doneP (by kernel_rfl) ?_
            go_wp2_with fail
            go_meet
            exact ⟨X, _, rfl, HTO, HJ⟩
        case t35 =>
          intro K hK
          unfold Oper.wp
          go_simp
          have HA43 := hide ((unhide HA33).below (Joins.below_alloc1 (w33) (.cells #[.slice none 0 0, .slice none 0 0, .slice none 0 0, .slice none 0 0] 30)))
          have HB43 := hide (fr (unhide HB33) (Joins.below_alloc1 (w33) (.cells #[.slice none 0 0, .slice none 0 0, .slice none 0 0, .slice none 0 0] 30)))
          have HV43 := hide (VarM.new (w33) 30 (.slice none 0 0) (.slice none 0 0) (.slice none 0 0) (.slice none 0 0))
          have HX := hide (unhide HB33).size
          refine hK _ _ (fun _ => unhide HB43) ?_
          clear hK K
          revert HA43
          revert HB43
          revert HV43
          revert HX
          generalize (w33).heap.size = X
          generalize ((w33).alloc _) = w43
          intro HX
          intro HV43
          intro HB43
          intro HA43
          refine tree_segP (fun c d v a w h => by cases d <;> exact h) (n := 0) [(3, 2), (4, 2), (6, 0), (8, 3)] (by kernel_rfl) rfl (by kernel_rfl) ?_
          refine ord_held rfl rfl ?_
          intro K hK
          unfold Oper.wp
          go_simp
          refine (see_any x y 11 ss xs h _ (by omega) (unhide HDB) ((unhide HSE).below (fr (unhide HBW) (unhide HB43)))).mono ?_
          rintro e w44 ⟨rfl, hb⟩
          have HA44 := hide ((unhide HA43).below hb)
          have HB44 := hide (fr (unhide HB43) hb)
          have HV44 := hide ((unhide HV43).below hb)
          clear hb
          refine hK _ _ (unhide HB44) ?_
          clear hK K
          refine ord_held rfl rfl ?_
          intro K hK
          unfold Oper.wp
          go_simp
          refine (readTable_any (secV ss xs h 11) _ (unhide HSZ 11) ((unhide HER).below (fr (unhide HBW) (unhide HB44)))).mono ?_
          rintro e w45 ⟨⟨hok, tv, rfl, tq, tc, rfl, hot⟩ | ⟨hok, u, pv, rfl⟩, hb⟩
          case inr =>
            exact ⟨rfl, .inr ⟨ri_t hok, _, _, rfl⟩, fr (unhide HBW) (fr (unhide HB44) hb)⟩
          rw [unhide HTQ] at hot ⊢
          have HA45 := hide ((unhide HA44).snoc hb (OwnN.mk' hot rfl) (unhide HB44).size)
          have HB45 := hide (fr (unhide HB44) hb)
          have HTO := hide hok
          have HV45 := hide ((unhide HV44).below hb)
          clear hot hb hok
          refine hK _ _ (unhide HB45) ?_
          clear hK K
          refine ord_read (.agg #[.slice (some ⟨gr, 0, none⟩) 24 24, .slice tq TB.length tc, .slice none 0 0, .slice (some ⟨zg, 0, none⟩) 24 24]) rfl rfl (unhide HB45) (fun W hW => by go_simp) ?_
          obtain ⟨x0, x1, x2, x3⟩ := (unhide HV45).cells
          obtain ⟨z0, z1, z2, z3⟩ := (unhide HV45).free
          have HJ := hide (RdJ.mk0 (unhide HBW) (unhide HB45) (unhide HR) (unhide HY) (unhide HV45) (unhide HX) (unhide HCL) (unhide HZL) ((unhide HA45).perm (perm_b _ _ _)))
          refine ord_alone rfl rfl ?_
          intro K hK
          unfold Oper.wp
          go_simp
          refine hK _ _ ?_
          clear hK K x0 x1 x2 x3 z0 z1 z2 z3
          refine ord_end ?_
          refine tree_doneP (by kernel_rfl) ?_
          go_wp2_with fail
          go_meet
          exact ⟨X, _, rfl, HTO, HJ⟩
      case t7 =>
        intro K hK
        unfold Oper.wp
        go_simp
        have HA46 := hide ((unhide HA4).below (Joins.below_alloc1 (w4) (.cells #[.slice none 0 0, .slice none 0 0, .slice none 0 0, .slice none 0 0] 30)))
        have HB46 := hide (fr (unhide HB4) (Joins.below_alloc1 (w4) (.cells #[.slice none 0 0, .slice none 0 0, .slice none 0 0, .slice none 0 0] 30)))
        have HV46 := hide (VarM.new (w4) 30 (.slice none 0 0) (.slice none 0 0) (.slice none 0 0) (.slice none 0 0))
        have HX := hide (unhide HB4).size
        refine hK _ _ (fun _ => unhide HB46) ?_
        clear hK K
        revert HA46
        revert HB46
        revert HV46
        revert HX
        generalize (w4).heap.size = X
        generalize ((w4).alloc _) = w46
        intro HX
        intro HV46
        intro HB46
        intro HA46
        refine tree_two (fuel := 4) (i := 3) (j := 5) rfl rfl rfl rfl (by kernel_rfl) ?t47 ?t48
        case t47 =>
          intro K hK
          unfold Oper.wp
          go_simp
          refine (see_any x y 11 ss xs h _ (by omega) (unhide HDB) ((unhide HSE).below (fr (unhide HBW) (unhide HB46)))).mono ?_
          rintro e w49 ⟨rfl, hb⟩
          have HA49 := hide ((unhide HA46).below hb)
          have HB49 := hide (fr (unhide HB46) hb)
          have HV49 := hide ((unhide HV46).below hb)
          clear hb
          refine hK _ _ (fun _ => unhide HB49) ?_
          clear hK K
          refine tree_two (fuel := 3) (i := 4) (j := 5) rfl rfl rfl rfl (by kernel_rfl) ?t50 ?t51
          case t50 =>
            intro K hK
            unfold Oper.wp
            go_simp
            refine (readTable_any (secV ss xs h 11) _ (unhide HSZ 11) ((unhide HER).below (fr (unhide HBW) (unhide HB49)))).mono ?_
            rintro e w52 ⟨⟨hok, tv, rfl, tq, tc, rfl, hot⟩ | ⟨hok, u, pv, rfl⟩, hb⟩
            case inr =>
              exact ⟨rfl, .inr ⟨ri_t hok, _, _, rfl⟩, fr (unhide HBW) (fr (unhide HB49) hb)⟩
            rw [unhide HTQ] at hot ⊢
            have HA52 := hide ((unhide HA49).snoc hb (OwnN.mk' hot rfl) (unhide HB49).size)
            have HB52 := hide (fr (unhide HB49) hb)
            have HTO := hide hok
            have HV52 := hide ((unhide HV49).below hb)
            clear hot hb hok
            refine hK _ _ (fun _ => unhide HB52) ?_
            clear hK K
            refine tree_segP (fun c d v a w h => by cases d <;> exact h) (n := 0) [(5, 2), (6, 0), (8, 3)] (by kernel_rfl) rfl (by kernel_rfl) ?_
            refine ord_held rfl rfl ?_
            intro K hK
            unfold Oper.wp
            go_simp
            have HA53 := hide ((unhide HA52).snoc (Joins.below_alloc1 (w52) (.cells (intV ZS).toArray 3)) (zeros_own ZS (unhide HZL) (w52)) (unhide HB52).size)
            have HB53 := hide (fr (unhide HB52) (Joins.below_alloc1 (w52) (.cells (intV ZS).toArray 3)))
            have HV53 := hide ((unhide HV52).below (Joins.below_alloc1 (w52) (.cells (intV ZS).toArray 3)))
            refine hK _ _ (unhide HB53) ?_
            clear hK K
            revert HA53
            revert HB53
            revert HV53
            generalize (w52).heap.size = zg
            generalize ((w52).alloc _) = w53
            intro HV53
            intro HB53
            intro HA53
            refine ord_read (.agg #[.slice (some ⟨gr, 0, none⟩) 24 24, .slice tq TB.length tc, .slice none 0 0, .slice (some ⟨zg, 0, none⟩) 24 24]) rfl rfl (unhide HB53) (fun W hW => by go_simp) ?_
            obtain ⟨x0, x1, x2, x3⟩ := (unhide HV53).cells
            obtain ⟨z0, z1, z2, z3⟩ := (unhide HV53).free
            have HJ := hide (RdJ.mk0 (unhide HBW) (unhide HB53) (unhide HR) (unhide HY) (unhide HV53) (unhide HX) (unhide HCL) (unhide HZL) ((unhide HA53).perm (List.Perm.refl _)))
            refine ord_alone rfl rfl ?_
            intro K hK
            unfold Oper.wp
            go_simp
            refine hK _ _ ?_
            clear hK K x0 x1 x2 x3 z0 z1 z2 z3
            refine ord_end ?_
            refine tree_doneP (by kernel_rfl) ?_
            go_wp2_with fail
            go_meet
            exact ⟨X, _, rfl, HTO, HJ⟩
          case t51 =>
            intro K hK
            unfold Oper.wp
            go_simp
            have HA54 := hide ((unhide HA49).snoc (Joins.below_alloc1 (w49) (.cells (intV ZS).toArray 3)) (zeros_own ZS (unhide HZL) (w49)) (unhide HB49).size)
            have HB54 := hide (fr (unhide HB49) (Joins.below_alloc1 (w49) (.cells (intV ZS).toArray 3)))
            have HV54 := hide ((unhide HV49).below (Joins.below_alloc1 (w49) (.cells (intV ZS).toArray 3)))
            refine hK _ _ (fun _ => unhide HB54) ?_
            clear hK K
            revert HA54
            revert HB54
            revert HV54
            generalize (w49).heap.size = zg
            generalize ((w49).alloc _) = w54
            intro HV54
            intro HB54
            intro HA54
            refine tree_segP (fun c d v a w h => by cases d <;> exact h) (n := 0) [(4, 2), (6, 0), (8, 3)] (by kernel_rfl) rfl (by kernel_rfl) ?_
            refine ord_held rfl rfl ?_
            intro K hK
            unfold Oper.wp
            go_simp
            refine (readTable_any (secV ss xs h 11) _ (unhide HSZ 11) ((unhide HER).below (fr (unhide HBW) (unhide HB54)))).mono ?_
            rintro e w55 ⟨⟨hok, tv, rfl, tq, tc, rfl, hot⟩ | ⟨hok, u, pv, rfl⟩, hb⟩
            case inr =>
              exact ⟨rfl, .inr ⟨ri_t hok, _, _, rfl⟩, fr (unhide HBW) (fr (unhide HB54) hb)⟩
            rw [unhide HTQ] at hot ⊢
            have HA55 := hide ((unhide HA54).snoc hb (OwnN.mk' hot rfl) (unhide HB54).size)
            have HB55 := hide (fr (unhide HB54) hb)
            have HTO := hide hok
            have HV55 := hide ((unhide HV54).below hb)
            clear hot hb hok
            refine hK _ _ (unhide HB55) ?_
            clear hK K
            refine ord_read (.agg #[.slice (some ⟨gr, 0, none⟩) 24 24, .slice tq TB.length tc, .slice none 0 0, .slice (some ⟨zg, 0, none⟩) 24 24]) rfl rfl (unhide HB55) (fun W hW => by go_simp) ?_
            obtain ⟨x0, x1, x2, x3⟩ := (unhide HV55).cells
            obtain ⟨z0, z1, z2, z3⟩ := (unhide HV55).free
            have HJ := hide (RdJ.mk0 (unhide HBW) (unhide HB55) (unhide HR) (unhide HY) (unhide HV55) (unhide HX) (unhide HCL) (unhide HZL) ((unhide HA55).perm (perm_b _ _ _)))
            refine ord_alone rfl rfl ?_
            intro K hK
            unfold Oper.wp
            go_simp
            refine hK _ _ ?_
            clear hK K x0 x1 x2 x3 z0 z1 z2 z3
            refine ord_end ?_
            refine tree_doneP (by kernel_rfl) ?_
            go_wp2_with fail
            go_meet
            exact ⟨X, _, rfl, HTO, HJ⟩
        case t48 =>
          intro K hK
          unfold Oper.wp
          go_simp
          have HA56 := hide ((unhide HA46).snoc (Joins.below_alloc1 (w46) (.cells (intV ZS).toArray 3)) (zeros_own ZS (unhide HZL) (w46)) (unhide HB46).size)
          have HB56 := hide (fr (unhide HB46) (Joins.below_alloc1 (w46) (.cells (intV ZS).toArray 3)))
          have HV56 := hide ((unhide HV46).below (Joins.below_alloc1 (w46) (.cells (intV ZS).toArray 3)))
          refine hK _ _ (fun _ => unhide HB56) ?_
          clear hK K
          revert HA56
          revert HB56
          revert HV56
          generalize (w46).heap.size = zg
          generalize ((w46).alloc _) = w56
          intro HV56
          intro HB56
          intro HA56
          refine tree_segP (fun c d v a w h => by cases d <;> exact h) (n := 0) [(3, 2), (4, 2), (6, 0), (8, 3)] (by kernel_rfl) rfl (by kernel_rfl) ?_
          refine ord_held rfl rfl ?_
          intro K hK
          unfold Oper.wp
          go_simp
          refine (see_any x y 11 ss xs h _ (by omega) (unhide HDB) ((unhide HSE).below (fr (unhide HBW) (unhide HB56)))).mono ?_
          rintro e w57 ⟨rfl, hb⟩
          have HA57 := hide ((unhide HA56).below hb)
          have HB57 := hide (fr (unhide HB56) hb)
          have HV57 := hide ((unhide HV56).below hb)
          clear hb
          refine hK _ _ (unhide HB57) ?_
          clear hK K
          refine ord_held rfl rfl ?_
          intro K hK
          unfold Oper.wp
          go_simp
          refine (readTable_any (secV ss xs h 11) _ (unhide HSZ 11) ((unhide HER).below (fr (unhide HBW) (unhide HB57)))).mono ?_
          rintro e w58 ⟨⟨hok, tv, rfl, tq, tc, rfl, hot⟩ | ⟨hok, u, pv, rfl⟩, hb⟩
          case inr =>
            exact ⟨rfl, .inr ⟨ri_t hok, _, _, rfl⟩, fr (unhide HBW) (fr (unhide HB57) hb)⟩
          rw [unhide HTQ] at hot ⊢
          have HA58 := hide ((unhide HA57).snoc hb (OwnN.mk' hot rfl) (unhide HB57).size)
          have HB58 := hide (fr (unhide HB57) hb)
          have HTO := hide hok
          have HV58 := hide ((unhide HV57).below hb)
          clear hot hb hok
          refine hK _ _ (unhide HB58) ?_
          clear hK K
          refine ord_read (.agg #[.slice (some ⟨gr, 0, none⟩) 24 24, .slice tq TB.length tc, .slice none 0 0, .slice (some ⟨zg, 0, none⟩) 24 24]) rfl rfl (unhide HB58) (fun W hW => by go_simp) ?_
          obtain ⟨x0, x1, x2, x3⟩ := (unhide HV58).cells
          obtain ⟨z0, z1, z2, z3⟩ := (unhide HV58).free
          have HJ := hide (RdJ.mk0 (unhide HBW) (unhide HB58) (unhide HR) (unhide HY) (unhide HV58) (unhide HX) (unhide HCL) (unhide HZL) ((unhide HA58).perm (perm_b _ _ _)))
          refine ord_alone rfl rfl ?_
          intro K hK
          unfold Oper.wp
          go_simp
          refine hK _ _ ?_
          clear hK K x0 x1 x2 x3 z0 z1 z2 z3
          refine ord_end ?_
          refine tree_doneP (by kernel_rfl) ?_
          go_wp2_with fail
          go_meet
          exact ⟨X, _, rfl, HTO, HJ⟩
    case t2 =>
      intro K hK
      unfold Oper.wp
      go_simp
      have HA59 := hide ((unhide HA0).snoc (Joins.below_alloc1 (WD) (.cells (intV ZS).toArray 3)) (zeros_own ZS (unhide HZL) (WD)) (unhide HBD).size)
      have HB59 := hide (fr (unhide HBD) (Joins.below_alloc1 (WD) (.cells (intV ZS).toArray 3)))
      refine hK _ _ (fun _ => unhide HB59) ?_
      clear hK K
      revert HA59
      revert HB59
      generalize (WD).heap.size = zg
      generalize ((WD).alloc _) = w59
      intro HB59
      intro HA59
      refine tree_two (fuel := 5) (i := 1) (j := 7) rfl rfl rfl rfl (by kernel_rfl) ?t60 ?t61
      case t60 =>
        intro K hK
        unfold Oper.wp
        go_simp
        refine (list_any CS _ (unhide HCL)).mono ?_
        rintro e w62 ⟨gr, rfl, hor, hb⟩
        have HA62 := hide ((unhide HA59).snoc hb (OwnN.mk' (.inr ⟨by omega, hor⟩) (unhide HCL)) (unhide HB59).size)
        have HB62 := hide (fr (unhide HB59) hb)
        clear hor hb
        refine hK _ _ (fun _ => unhide HB62) ?_
        clear hK K
        refine tree_two (fuel := 4) (i := 3) (j := 7) rfl rfl rfl rfl (by kernel_rfl) ?t63 ?t64
        case t63 =>
          intro K hK
          unfold Oper.wp
          go_simp
          refine (see_any x y 11 ss xs h _ (by omega) (unhide HDB) ((unhide HSE).below (fr (unhide HBW) (unhide HB62)))).mono ?_
          rintro e w65 ⟨rfl, hb⟩
          have HA65 := hide ((unhide HA62).below hb)
          have HB65 := hide (fr (unhide HB62) hb)
          clear hb
          refine hK _ _ (fun _ => unhide HB65) ?_
          clear hK K
          refine tree_two (fuel := 3) (i := 4) (j := 7) rfl rfl rfl rfl (by kernel_rfl) ?t66 ?t67
          case t66 =>
            intro K hK
            unfold Oper.wp
            go_simp
            refine (readTable_any (secV ss xs h 11) _ (unhide HSZ 11) ((unhide HER).below (fr (unhide HBW) (unhide HB65)))).mono ?_
            rintro e w68 ⟨⟨hok, tv, rfl, tq, tc, rfl, hot⟩ | ⟨hok, u, pv, rfl⟩, hb⟩
            case inr =>
              exact ⟨rfl, .inr ⟨ri_t hok, _, _, rfl⟩, fr (unhide HBW) (fr (unhide HB65) hb)⟩
            rw [unhide HTQ] at hot ⊢
            have HA68 := hide ((unhide HA65).snoc hb (OwnN.mk' hot rfl) (unhide HB65).size)
            have HB68 := hide (fr (unhide HB65) hb)
            have HTO := hide hok
            clear hot hb hok
            refine hK _ _ (fun _ => unhide HB68) ?_
            clear hK K
            refine tree_segP (fun c d v a w h => by cases d <;> exact h) (n := 0) [(6, 0), (7, 2), (8, 3)] (by kernel_rfl) rfl (by kernel_rfl) ?_
            refine ord_read (.agg #[.slice (some ⟨gr, 0, none⟩) 24 24, .slice tq TB.length tc, .slice none 0 0, .slice (some ⟨zg, 0, none⟩) 24 24]) rfl rfl (unhide HB68) (fun W hW => by go_simp) ?_
            refine ord_held rfl rfl ?_
            intro K hK
            unfold Oper.wp
            go_simp
            have HA69 := hide ((unhide HA68).below (Joins.below_alloc1 (w68) (.cells #[.slice none 0 0, .slice none 0 0, .slice none 0 0, .slice none 0 0] 30)))
            have HB69 := hide (fr (unhide HB68) (Joins.below_alloc1 (w68) (.cells #[.slice none 0 0, .slice none 0 0, .slice none 0 0, .slice none 0 0] 30)))
            have HV69 := hide (VarM.new (w68) 30 (.slice none 0 0) (.slice none 0 0) (.slice none 0 0) (.slice none 0 0))
            have HX := hide (unhide HB68).size
            refine hK _ _ (unhide HB69) ?_
            clear hK K
            revert HA69
            revert HB69
            revert HV69
            revert HX
            generalize (w68).heap.size = X
            generalize ((w68).alloc _) = w69
            intro HX
            intro HV69
            intro HB69
            intro HA69
            obtain ⟨x0, x1, x2, x3⟩ := (unhide HV69).cells
            obtain ⟨z0, z1, z2, z3⟩ := (unhide HV69).free
            have HJ := hide (RdJ.mk0 (unhide HBW) (unhide HB69) (unhide HR) (unhide HY) (unhide HV69) (unhide HX) (unhide HCL) (unhide HZL) ((unhide HA69).perm (perm_c _ _ _)))
            refine ord_alone rfl rfl ?_
            intro K hK
            unfold Oper.wp
            go_simp
            refine hK _ _ ?_
            clear hK K x0 x1 x2 x3 z0 z1 z2 z3
            refine ord_end ?_
            refine tree_doneP (by kernel_rfl) ?_
            go_wp2_with fail
            go_meet
            exact ⟨X, _, rfl, HTO, HJ⟩
          case t67 =>
            intro K hK
            unfold Oper.wp
            go_simp
            have HA70 := hide ((unhide HA65).below (Joins.below_alloc1 (w65) (.cells #[.slice none 0 0, .slice none 0 0, .slice none 0 0, .slice none 0 0] 30)))
            have HB70 := hide (fr (unhide HB65) (Joins.below_alloc1 (w65) (.cells #[.slice none 0 0, .slice none 0 0, .slice none 0 0, .slice none 0 0] 30)))
            have HV70 := hide (VarM.new (w65) 30 (.slice none 0 0) (.slice none 0 0) (.slice none 0 0) (.slice none 0 0))
            have HX := hide (unhide HB65).size
            refine hK _ _ (fun _ => unhide HB70) ?_
            clear hK K
            revert HA70
            revert HB70
            revert HV70
            revert HX
            generalize (w65).heap.size = X
            generalize ((w65).alloc _) = w70
            intro HX
            intro HV70
            intro HB70
            intro HA70
            refine tree_segP (fun c d v a w h => by cases d <;> exact h) (n := 0) [(4, 2), (6, 0), (8, 3)] (by kernel_rfl) rfl (by kernel_rfl) ?_
            refine ord_held rfl rfl ?_
            intro K hK
            unfold Oper.wp
            go_simp
            refine (readTable_any (secV ss xs h 11) _ (unhide HSZ 11) ((unhide HER).below (fr (unhide HBW) (unhide HB70)))).mono ?_
            rintro e w71 ⟨⟨hok, tv, rfl, tq, tc, rfl, hot⟩ | ⟨hok, u, pv, rfl⟩, hb⟩
            case inr =>
              exact ⟨rfl, .inr ⟨ri_t hok, _, _, rfl⟩, fr (unhide HBW) (fr (unhide HB70) hb)⟩
            rw [unhide HTQ] at hot ⊢
            have HA71 := hide ((unhide HA70).snoc hb (OwnN.mk' hot rfl) (unhide HB70).size)
            have HB71 := hide (fr (unhide HB70) hb)
            have HTO := hide hok
            have HV71 := hide ((unhide HV70).below hb)
            clear hot hb hok
            refine hK _ _ (unhide HB71) ?_
            clear hK K
            refine ord_read (.agg #[.slice (some ⟨gr, 0, none⟩) 24 24, .slice tq TB.length tc, .slice none 0 0, .slice (some ⟨zg, 0, none⟩) 24 24]) rfl rfl (unhide HB71) (fun W hW => by go_simp) ?_
            obtain ⟨x0, x1, x2, x3⟩ := (unhide HV71).cells
            obtain ⟨z0, z1, z2, z3⟩ := (unhide HV71).free
            have HJ := hide (RdJ.mk0 (unhide HBW) (unhide HB71) (unhide HR) (unhide HY) (unhide HV71) (unhide HX) (unhide HCL) (unhide HZL) ((unhide HA71).perm (perm_c _ _ _)))
            refine ord_alone rfl rfl ?_
            intro K hK
            unfold Oper.wp
            go_simp
            refine hK _ _ ?_
            clear hK K x0 x1 x2 x3 z0 z1 z2 z3
            refine ord_end ?_
            refine tree_doneP (by kernel_rfl) ?_
            go_wp2_with fail
            go_meet
            exact ⟨X, _, rfl, HTO, HJ⟩
        case t64 =>
          intro K hK
          unfold Oper.wp
          go_simp
          have HA72 := hide ((unhide HA62).below (Joins.below_alloc1 (w62) (.cells #[.slice none 0 0, .slice none 0 0, .slice none 0 0, .slice none 0 0] 30)))
          have HB72 := hide (fr (unhide HB62) (Joins.below_alloc1 (w62) (.cells #[.slice none 0 0, .slice none 0 0, .slice none 0 0, .slice none 0 0] 30)))
          have HV72 := hide (VarM.new (w62) 30 (.slice none 0 0) (.slice none 0 0) (.slice none 0 0) (.slice none 0 0))
          have HX := hide (unhide HB62).size
          refine hK _ _ (fun _ => unhide HB72) ?_
          clear hK K
          revert HA72
          revert HB72
          revert HV72
          revert HX
          generalize (w62).heap.size = X
          generalize ((w62).alloc _) = w72
          intro HX
          intro HV72
          intro HB72
          intro HA72
          refine tree_segP (fun c d v a w h => by cases d <;> exact h) (n := 0) [(3, 2), (4, 2), (6, 0), (8, 3)] (by kernel_rfl) rfl (by kernel_rfl) ?_
          refine ord_held rfl rfl ?_
          intro K hK
          unfold Oper.wp
          go_simp
          refine (see_any x y 11 ss xs h _ (by omega) (unhide HDB) ((unhide HSE).below (fr (unhide HBW) (unhide HB72)))).mono ?_
          rintro e w73 ⟨rfl, hb⟩
          have HA73 := hide ((unhide HA72).below hb)
          have HB73 := hide (fr (unhide HB72) hb)
          have HV73 := hide ((unhide HV72).below hb)
          clear hb
          refine hK _ _ (unhide HB73) ?_
          clear hK K
          refine ord_held rfl rfl ?_
          intro K hK
          unfold Oper.wp
          go_simp
          refine (readTable_any (secV ss xs h 11) _ (unhide HSZ 11) ((unhide HER).below (fr (unhide HBW) (unhide HB73)))).mono ?_
          rintro e w74 ⟨⟨hok, tv, rfl, tq, tc, rfl, hot⟩ | ⟨hok, u, pv, rfl⟩, hb⟩
          case inr =>
            exact ⟨rfl, .inr ⟨ri_t hok, _, _, rfl⟩, fr (unhide HBW) (fr (unhide HB73) hb)⟩
          rw [unhide HTQ] at hot ⊢
          have HA74 := hide ((unhide HA73).snoc hb (OwnN.mk' hot rfl) (unhide HB73).size)
          have HB74 := hide (fr (unhide HB73) hb)
          have HTO := hide hok
          have HV74 := hide ((unhide HV73).below hb)
          clear hot hb hok
          refine hK _ _ (unhide HB74) ?_
          clear hK K
          refine ord_read (.agg #[.slice (some ⟨gr, 0, none⟩) 24 24, .slice tq TB.length tc, .slice none 0 0, .slice (some ⟨zg, 0, none⟩) 24 24]) rfl rfl (unhide HB74) (fun W hW => by go_simp) ?_
          obtain ⟨x0, x1, x2, x3⟩ := (unhide HV74).cells
          obtain ⟨z0, z1, z2, z3⟩ := (unhide HV74).free
          have HJ := hide (RdJ.mk0 (unhide HBW) (unhide HB74) (unhide HR) (unhide HY) (unhide HV74) (unhide HX) (unhide HCL) (unhide HZL) ((unhide HA74).perm (perm_c _ _ _)))
          refine ord_alone rfl rfl ?_
          intro K hK
          unfold Oper.wp
          go_simp
          refine hK _ _ ?_
          clear hK K x0 x1 x2 x3 z0 z1 z2 z3
          refine ord_end ?_
          refine tree_doneP (by kernel_rfl) ?_
          go_wp2_with fail
          go_meet
          exact ⟨X, _, rfl, HTO, HJ⟩
      case t61 =>
        intro K hK
        unfold Oper.wp
        go_simp
        have HA75 := hide ((unhide HA59).below (Joins.below_alloc1 (w59) (.cells #[.slice none 0 0, .slice none 0 0, .slice none 0 0, .slice none 0 0] 30)))
        have HB75 := hide (fr (unhide HB59) (Joins.below_alloc1 (w59) (.cells #[.slice none 0 0, .slice none 0 0, .slice none 0 0, .slice none 0 0] 30)))
        have HV75 := hide (VarM.new (w59) 30 (.slice none 0 0) (.slice none 0 0) (.slice none 0 0) (.slice none 0 0))
        have HX := hide (unhide HB59).size
        refine hK _ _ (fun _ => unhide HB75) ?_
        clear hK K
        revert HA75
        revert HB75
        revert HV75
        revert HX
        generalize (w59).heap.size = X
        generalize ((w59).alloc _) = w75
        intro HX
        intro HV75
        intro HB75
        intro HA75
        refine tree_segP (fun c d v a w h => by cases d <;> exact h) (n := 0) [(1, 2), (3, 2), (4, 2), (6, 0), (8, 3)] (by kernel_rfl) rfl (by kernel_rfl) ?_
        refine ord_held rfl rfl ?_
        intro K hK
        unfold Oper.wp
        go_simp
        refine (list_any CS _ (unhide HCL)).mono ?_
        rintro e w76 ⟨gr, rfl, hor, hb⟩
        have HA76 := hide ((unhide HA75).snoc hb (OwnN.mk' (.inr ⟨by omega, hor⟩) (unhide HCL)) (unhide HB75).size)
        have HB76 := hide (fr (unhide HB75) hb)
        have HV76 := hide ((unhide HV75).below hb)
        clear hor hb
        refine hK _ _ (unhide HB76) ?_
        clear hK K
        refine ord_held rfl rfl ?_
        intro K hK
        unfold Oper.wp
        go_simp
        refine (see_any x y 11 ss xs h _ (by omega) (unhide HDB) ((unhide HSE).below (fr (unhide HBW) (unhide HB76)))).mono ?_
        rintro e w77 ⟨rfl, hb⟩
        have HA77 := hide ((unhide HA76).below hb)
        have HB77 := hide (fr (unhide HB76) hb)
        have HV77 := hide ((unhide HV76).below hb)
        clear hb
        refine hK _ _ (unhide HB77) ?_
        clear hK K
        refine ord_held rfl rfl ?_
        intro K hK
        unfold Oper.wp
        go_simp
        refine (readTable_any (secV ss xs h 11) _ (unhide HSZ 11) ((unhide HER).below (fr (unhide HBW) (unhide HB77)))).mono ?_
        rintro e w78 ⟨⟨hok, tv, rfl, tq, tc, rfl, hot⟩ | ⟨hok, u, pv, rfl⟩, hb⟩
        case inr =>
          exact ⟨rfl, .inr ⟨ri_t hok, _, _, rfl⟩, fr (unhide HBW) (fr (unhide HB77) hb)⟩
        rw [unhide HTQ] at hot ⊢
        have HA78 := hide ((unhide HA77).snoc hb (OwnN.mk' hot rfl) (unhide HB77).size)
        have HB78 := hide (fr (unhide HB77) hb)
        have HTO := hide hok
        have HV78 := hide ((unhide HV77).below hb)
        clear hot hb hok
        refine hK _ _ (unhide HB78) ?_
        clear hK K
        refine ord_read (.agg #[.slice (some ⟨gr, 0, none⟩) 24 24, .slice tq TB.length tc, .slice none 0 0, .slice (some ⟨zg, 0, none⟩) 24 24]) rfl rfl (unhide HB78) (fun W hW => by go_simp) ?_
        obtain ⟨x0, x1, x2, x3⟩ := (unhide HV78).cells
        obtain ⟨z0, z1, z2, z3⟩ := (unhide HV78).free
        have HJ := hide (RdJ.mk0 (unhide HBW) (unhide HB78) (unhide HR) (unhide HY) (unhide HV78) (unhide HX) (unhide HCL) (unhide HZL) ((unhide HA78).perm (perm_c _ _ _)))
        refine ord_alone rfl rfl ?_
        intro K hK
        unfold Oper.wp
        go_simp
        refine hK _ _ ?_
        clear hK K x0 x1 x2 x3 z0 z1 z2 z3
        refine ord_end ?_
        refine tree_doneP (by kernel_rfl) ?_
        go_wp2_with fail
        go_meet
        exact ⟨X, _, rfl, HTO, HJ⟩
    case t3 =>
      intro K hK
      unfold Oper.wp
      go_simp
      have HA79 := hide ((unhide HA0).below (Joins.below_alloc1 (WD) (.cells #[.slice none 0 0, .slice none 0 0, .slice none 0 0, .slice none 0 0] 30)))
      have HB79 := hide (fr (unhide HBD) (Joins.below_alloc1 (WD) (.cells #[.slice none 0 0, .slice none 0 0, .slice none 0 0, .slice none 0 0] 30)))
      have HV79 := hide (VarM.new (WD) 30 (.slice none 0 0) (.slice none 0 0) (.slice none 0 0) (.slice none 0 0))
      have HX := hide (unhide HBD).size
      refine hK _ _ (fun _ => unhide HB79) ?_
      clear hK K
      revert HA79
      revert HB79
      revert HV79
      revert HX
      generalize (WD).heap.size = X
      generalize ((WD).alloc _) = w79
      intro HX
      intro HV79
      intro HB79
      intro HA79
      refine tree_two (fuel := 5) (i := 1) (j := 5) rfl rfl rfl rfl (by kernel_rfl) ?t80 ?t81
      case t80 =>
        intro K hK
        unfold Oper.wp
        go_simp
        refine (list_any CS _ (unhide HCL)).mono ?_
        rintro e w82 ⟨gr, rfl, hor, hb⟩
        have HA82 := hide ((unhide HA79).snoc hb (OwnN.mk' (.inr ⟨by omega, hor⟩) (unhide HCL)) (unhide HB79).size)
        have HB82 := hide (fr (unhide HB79) hb)
        have HV82 := hide ((unhide HV79).below hb)
        clear hor hb
        refine hK _ _ (fun _ => unhide HB82) ?_
        clear hK K
        refine tree_two (fuel := 4) (i := 3) (j := 5) rfl rfl rfl rfl (by kernel_rfl) ?t83 ?t84
        case t83 =>
          intro K hK
          unfold Oper.wp
          go_simp
          refine (see_any x y 11 ss xs h _ (by omega) (unhide HDB) ((unhide HSE).below (fr (unhide HBW) (unhide HB82)))).mono ?_
          rintro e w85 ⟨rfl, hb⟩
          have HA85 := hide ((unhide HA82).below hb)
          have HB85 := hide (fr (unhide HB82) hb)
          have HV85 := hide ((unhide HV82).below hb)
          clear hb
          refine hK _ _ (fun _ => unhide HB85) ?_
          clear hK K
          refine tree_two (fuel := 3) (i := 4) (j := 5) rfl rfl rfl rfl (by kernel_rfl) ?t86 ?t87
          case t86 =>
            intro K hK
            unfold Oper.wp
            go_simp
            refine (readTable_any (secV ss xs h 11) _ (unhide HSZ 11) ((unhide HER).below (fr (unhide HBW) (unhide HB85)))).mono ?_
            rintro e w88 ⟨⟨hok, tv, rfl, tq, tc, rfl, hot⟩ | ⟨hok, u, pv, rfl⟩, hb⟩
            case inr =>
              exact ⟨rfl, .inr ⟨ri_t hok, _, _, rfl⟩, fr (unhide HBW) (fr (unhide HB85) hb)⟩
            rw [unhide HTQ] at hot ⊢
            have HA88 := hide ((unhide HA85).snoc hb (OwnN.mk' hot rfl) (unhide HB85).size)
            have HB88 := hide (fr (unhide HB85) hb)
            have HTO := hide hok
            have HV88 := hide ((unhide HV85).below hb)
            clear hot hb hok
            refine hK _ _ (fun _ => unhide HB88) ?_
            clear hK K
            refine tree_segP (fun c d v a w h => by cases d <;> exact h) (n := 0) [(5, 2), (6, 0), (8, 3)] (by kernel_rfl) rfl (by kernel_rfl) ?_
            refine ord_held rfl rfl ?_
            intro K hK
            unfold Oper.wp
            go_simp
            have HA89 := hide ((unhide HA88).snoc (Joins.below_alloc1 (w88) (.cells (intV ZS).toArray 3)) (zeros_own ZS (unhide HZL) (w88)) (unhide HB88).size)
            have HB89 := hide (fr (unhide HB88) (Joins.below_alloc1 (w88) (.cells (intV ZS).toArray 3)))
            have HV89 := hide ((unhide HV88).below (Joins.below_alloc1 (w88) (.cells (intV ZS).toArray 3)))
            refine hK _ _ (unhide HB89) ?_
            clear hK K
            revert HA89
            revert HB89
            revert HV89
            generalize (w88).heap.size = zg
            generalize ((w88).alloc _) = w89
            intro HV89
            intro HB89
            intro HA89
            refine ord_read (.agg #[.slice (some ⟨gr, 0, none⟩) 24 24, .slice tq TB.length tc, .slice none 0 0, .slice (some ⟨zg, 0, none⟩) 24 24]) rfl rfl (unhide HB89) (fun W hW => by go_simp) ?_
            obtain ⟨x0, x1, x2, x3⟩ := (unhide HV89).cells
            obtain ⟨z0, z1, z2, z3⟩ := (unhide HV89).free
            have HJ := hide (RdJ.mk0 (unhide HBW) (unhide HB89) (unhide HR) (unhide HY) (unhide HV89) (unhide HX) (unhide HCL) (unhide HZL) ((unhide HA89).perm (List.Perm.refl _)))
            refine ord_alone rfl rfl ?_
            intro K hK
            unfold Oper.wp
            go_simp
            refine hK _ _ ?_
            clear hK K x0 x1 x2 x3 z0 z1 z2 z3
            refine ord_end ?_
            refine tree_doneP (by kernel_rfl) ?_
            go_wp2_with fail
            go_meet
            exact ⟨X, _, rfl, HTO, HJ⟩
          case t87 =>
            intro K hK
            unfold Oper.wp
            go_simp
            have HA90 := hide ((unhide HA85).snoc (Joins.below_alloc1 (w85) (.cells (intV ZS).toArray 3)) (zeros_own ZS (unhide HZL) (w85)) (unhide HB85).size)
            have HB90 := hide (fr (unhide HB85) (Joins.below_alloc1 (w85) (.cells (intV ZS).toArray 3)))
            have HV90 := hide ((unhide HV85).below (Joins.below_alloc1 (w85) (.cells (intV ZS).toArray 3)))
            refine hK _ _ (fun _ => unhide HB90) ?_
            clear hK K
            revert HA90
            revert HB90
            revert HV90
            generalize (w85).heap.size = zg
            generalize ((w85).alloc _) = w90
            intro HV90
            intro HB90
            intro HA90
            refine tree_segP (fun c d v a w h => by cases d <;> exact h) (n := 0) [(4, 2), (6, 0), (8, 3)] (by kernel_rfl) rfl (by kernel_rfl) ?_
            refine ord_held rfl rfl ?_
            intro K hK
            unfold Oper.wp
            go_simp
            refine (readTable_any (secV ss xs h 11) _ (unhide HSZ 11) ((unhide HER).below (fr (unhide HBW) (unhide HB90)))).mono ?_
            rintro e w91 ⟨⟨hok, tv, rfl, tq, tc, rfl, hot⟩ | ⟨hok, u, pv, rfl⟩, hb⟩
            case inr =>
              exact ⟨rfl, .inr ⟨ri_t hok, _, _, rfl⟩, fr (unhide HBW) (fr (unhide HB90) hb)⟩
            rw [unhide HTQ] at hot ⊢
            have HA91 := hide ((unhide HA90).snoc hb (OwnN.mk' hot rfl) (unhide HB90).size)
            have HB91 := hide (fr (unhide HB90) hb)
            have HTO := hide hok
            have HV91 := hide ((unhide HV90).below hb)
            clear hot hb hok
            refine hK _ _ (unhide HB91) ?_
            clear hK K
            refine ord_read (.agg #[.slice (some ⟨gr, 0, none⟩) 24 24, .slice tq TB.length tc, .slice none 0 0, .slice (some ⟨zg, 0, none⟩) 24 24]) rfl rfl (unhide HB91) (fun W hW => by go_simp) ?_
            obtain ⟨x0, x1, x2, x3⟩ := (unhide HV91).cells
            obtain ⟨z0, z1, z2, z3⟩ := (unhide HV91).free
            have HJ := hide (RdJ.mk0 (unhide HBW) (unhide HB91) (unhide HR) (unhide HY) (unhide HV91) (unhide HX) (unhide HCL) (unhide HZL) ((unhide HA91).perm (perm_b _ _ _)))
            refine ord_alone rfl rfl ?_
            intro K hK
            unfold Oper.wp
            go_simp
            refine hK _ _ ?_
            clear hK K x0 x1 x2 x3 z0 z1 z2 z3
            refine ord_end ?_
            refine tree_doneP (by kernel_rfl) ?_
            go_wp2_with fail
            go_meet
            exact ⟨X, _, rfl, HTO, HJ⟩
        case t84 =>
          intro K hK
          unfold Oper.wp
          go_simp
          have HA92 := hide ((unhide HA82).snoc (Joins.below_alloc1 (w82) (.cells (intV ZS).toArray 3)) (zeros_own ZS (unhide HZL) (w82)) (unhide HB82).size)
          have HB92 := hide (fr (unhide HB82) (Joins.below_alloc1 (w82) (.cells (intV ZS).toArray 3)))
          have HV92 := hide ((unhide HV82).below (Joins.below_alloc1 (w82) (.cells (intV ZS).toArray 3)))
          refine hK _ _ (fun _ => unhide HB92) ?_
          clear hK K
          revert HA92
          revert HB92
          revert HV92
          generalize (w82).heap.size = zg
          generalize ((w82).alloc _) = w92
          intro HV92
          intro HB92
          intro HA92
          refine tree_segP (fun c d v a w h => by cases d <;> exact h) (n := 0) [(3, 2), (4, 2), (6, 0), (8, 3)] (by kernel_rfl) rfl (by kernel_rfl) ?_
          refine ord_held rfl rfl ?_
          intro K hK
          unfold Oper.wp
          go_simp
          refine (see_any x y 11 ss xs h _ (by omega) (unhide HDB) ((unhide HSE).below (fr (unhide HBW) (unhide HB92)))).mono ?_
          rintro e w93 ⟨rfl, hb⟩
          have HA93 := hide ((unhide HA92).below hb)
          have HB93 := hide (fr (unhide HB92) hb)
          have HV93 := hide ((unhide HV92).below hb)
          clear hb
          refine hK _ _ (unhide HB93) ?_
          clear hK K
          refine ord_held rfl rfl ?_
          intro K hK
          unfold Oper.wp
          go_simp
          refine (readTable_any (secV ss xs h 11) _ (unhide HSZ 11) ((unhide HER).below (fr (unhide HBW) (unhide HB93)))).mono ?_
          rintro e w94 ⟨⟨hok, tv, rfl, tq, tc, rfl, hot⟩ | ⟨hok, u, pv, rfl⟩, hb⟩
          case inr =>
            exact ⟨rfl, .inr ⟨ri_t hok, _, _, rfl⟩, fr (unhide HBW) (fr (unhide HB93) hb)⟩
          rw [unhide HTQ] at hot ⊢
          have HA94 := hide ((unhide HA93).snoc hb (OwnN.mk' hot rfl) (unhide HB93).size)
          have HB94 := hide (fr (unhide HB93) hb)
          have HTO := hide hok
          have HV94 := hide ((unhide HV93).below hb)
          clear hot hb hok
          refine hK _ _ (unhide HB94) ?_
          clear hK K
          refine ord_read (.agg #[.slice (some ⟨gr, 0, none⟩) 24 24, .slice tq TB.length tc, .slice none 0 0, .slice (some ⟨zg, 0, none⟩) 24 24]) rfl rfl (unhide HB94) (fun W hW => by go_simp) ?_
          obtain ⟨x0, x1, x2, x3⟩ := (unhide HV94).cells
          obtain ⟨z0, z1, z2, z3⟩ := (unhide HV94).free
          have HJ := hide (RdJ.mk0 (unhide HBW) (unhide HB94) (unhide HR) (unhide HY) (unhide HV94) (unhide HX) (unhide HCL) (unhide HZL) ((unhide HA94).perm (perm_b _ _ _)))
          refine ord_alone rfl rfl ?_
          intro K hK
          unfold Oper.wp
          go_simp
          refine hK _ _ ?_
          clear hK K x0 x1 x2 x3 z0 z1 z2 z3
          refine ord_end ?_
          refine tree_doneP (by kernel_rfl) ?_
          go_wp2_with fail
          go_meet
          exact ⟨X, _, rfl, HTO, HJ⟩
      case t81 =>
        intro K hK
        unfold Oper.wp
        go_simp
        have HA95 := hide ((unhide HA79).snoc (Joins.below_alloc1 (w79) (.cells (intV ZS).toArray 3)) (zeros_own ZS (unhide HZL) (w79)) (unhide HB79).size)
        have HB95 := hide (fr (unhide HB79) (Joins.below_alloc1 (w79) (.cells (intV ZS).toArray 3)))
        have HV95 := hide ((unhide HV79).below (Joins.below_alloc1 (w79) (.cells (intV ZS).toArray 3)))
        refine hK _ _ (fun _ => unhide HB95) ?_
        clear hK K
        revert HA95
        revert HB95
        revert HV95
        generalize (w79).heap.size = zg
        generalize ((w79).alloc _) = w95
        intro HV95
        intro HB95
        intro HA95
        refine tree_segP (fun c d v a w h => by cases d <;> exact h) (n := 0) [(1, 2), (3, 2), (4, 2), (6, 0), (8, 3)] (by kernel_rfl) rfl (by kernel_rfl) ?_
        refine ord_held rfl rfl ?_
        intro K hK
        unfold Oper.wp
        go_simp
        refine (list_any CS _ (unhide HCL)).mono ?_
        rintro e w96 ⟨gr, rfl, hor, hb⟩
        have HA96 := hide ((unhide HA95).snoc hb (OwnN.mk' (.inr ⟨by omega, hor⟩) (unhide HCL)) (unhide HB95).size)
        have HB96 := hide (fr (unhide HB95) hb)
        have HV96 := hide ((unhide HV95).below hb)
        clear hor hb
        refine hK _ _ (unhide HB96) ?_
        clear hK K
        refine ord_held rfl rfl ?_
        intro K hK
        unfold Oper.wp
        go_simp
        refine (see_any x y 11 ss xs h _ (by omega) (unhide HDB) ((unhide HSE).below (fr (unhide HBW) (unhide HB96)))).mono ?_
        rintro e w97 ⟨rfl, hb⟩
        have HA97 := hide ((unhide HA96).below hb)
        have HB97 := hide (fr (unhide HB96) hb)
        have HV97 := hide ((unhide HV96).below hb)
        clear hb
        refine hK _ _ (unhide HB97) ?_
        clear hK K
        refine ord_held rfl rfl ?_
        intro K hK
        unfold Oper.wp
        go_simp
        refine (readTable_any (secV ss xs h 11) _ (unhide HSZ 11) ((unhide HER).below (fr (unhide HBW) (unhide HB97)))).mono ?_
        rintro e w98 ⟨⟨hok, tv, rfl, tq, tc, rfl, hot⟩ | ⟨hok, u, pv, rfl⟩, hb⟩
        case inr =>
          exact ⟨rfl, .inr ⟨ri_t hok, _, _, rfl⟩, fr (unhide HBW) (fr (unhide HB97) hb)⟩
        rw [unhide HTQ] at hot ⊢
        have HA98 := hide ((unhide HA97).snoc hb (OwnN.mk' hot rfl) (unhide HB97).size)
        have HB98 := hide (fr (unhide HB97) hb)
        have HTO := hide hok
        have HV98 := hide ((unhide HV97).below hb)
        clear hot hb hok
        refine hK _ _ (unhide HB98) ?_
        clear hK K
        refine ord_read (.agg #[.slice (some ⟨gr, 0, none⟩) 24 24, .slice tq TB.length tc, .slice none 0 0, .slice (some ⟨zg, 0, none⟩) 24 24]) rfl rfl (unhide HB98) (fun W hW => by go_simp) ?_
        obtain ⟨x0, x1, x2, x3⟩ := (unhide HV98).cells
        obtain ⟨z0, z1, z2, z3⟩ := (unhide HV98).free
        have HJ := hide (RdJ.mk0 (unhide HBW) (unhide HB98) (unhide HR) (unhide HY) (unhide HV98) (unhide HX) (unhide HCL) (unhide HZL) ((unhide HA98).perm (perm_c _ _ _)))
        refine ord_alone rfl rfl ?_
        intro K hK
        unfold Oper.wp
        go_simp
        refine hK _ _ ?_
        clear hK K x0 x1 x2 x3 z0 z1 z2 z3
        refine ord_end ?_
        refine tree_doneP (by kernel_rfl) ?_
        go_wp2_with fail
        go_meet
        exact ⟨X, _, rfl, HTO, HJ⟩
  case rest =>
    obtain ⟨X, a, rfl, HTO, HJ⟩ := hcut
    rename World => W2
    clear HBD hmk HR HY HBW
    have HNL : Hid (∀ p : Nat, p < 64 → ∀ q : Int, q = (p : Int) → ∀ W, Below w.heap.size w W → Calls Tryz.prog 20 #[.int .i64 q, .pointer (some ⟨x, 0, none⟩), .pointer (some ⟨y, 0, none⟩)] W fun e w' => e = .returned (.string (secV ss xs h p)) ∧ Below W.heap.size W w') := hide (fun p hp q hq W hb => by rw [hq]; exact see_any x y p ss xs h W hp (unhide HDB) ((unhide HSE).below hb))
    obtain ⟨j0, hj, hy0, hy1, hy2⟩ := info_parts infoSn
    obtain ⟨sec, HSC⟩ : ∃ sec, Hid (secV ss xs h = sec) := ⟨_, hide rfl⟩
    have HPOST : Hid (∀ e w', RiP ns sec w e w' → RiP ns (secV ss xs h) w e w') := hide (fun e w' hh => by rw [unhide HSC]; exact hh)
    rw [unhide HSC] at HNL HSZ HCO HCQ HTQ HTO
    clear HDB HSE HSC
    go_wp2
    go_loopw [23] (fun i wr => ∃ (k : Nat) (SN : List Snp) (a : Im4) (ts : List Value), k ≤ ns.length ∧ i = .int .i64 k ∧ Hid (riS ns sec k = SN) ∧ Hid (SN.length = k) ∧ Hid (∀ j, j < k → tdB (sec (12 + j)) = true) ∧ Hid (RdJ w wr yv X CS a ⟨CS, TB, SN, ZS⟩ ts)) (fun i _ => ns.length - (intOf i).toNat)
    case atStart => exact ⟨0, [], a, [], Nat.zero_le _, rfl, hide rfl, hide rfl, hide (fun j h => by omega), HJ⟩
    case round =>
      clear HJ a
      obtain ⟨k, SN, a, ts, hk, rfl, HSN, HSL, HTS, HJ⟩ := hrel
      by_cases hlt : k < ns.length
      · obtain ⟨b, off, rfl, hck, _⟩ := ((unhide HNS).below (unhide HJ).k) k hlt
        have hlti : (k : Int) < (ns.length : Int) := by omega
        have hw12 : IntKind.i64.wrap (12 + (k : Int)) = 12 + (k : Int) := by rw [IntKind.wrap_i64]; omega
        have HSS : Hid (riS ns sec (k + 1) = SN ++ [⟨ns[k], openL (sec (12 + k)) 3⟩]) := hide (by rw [riS_succ, unhide HSN]; simp [List.getD, hlt])
        go_upto_region 6 with fail
        generalize ns[k] = NM at *
        have hS0 : Below wr.heap.size wr wr.drew := (Below.refl _ _).drew
        refine wp_region_ordP (fun c d v a w h => by cases d <;> exact h) (fun w' => Below wr.heap.size wr w') [0, 1, 2, 3, 4, 5, 6, 7, 8, 9] [(0, 0), (1, 0), (2, 0), (3, 0), (4, 0), (5, 0), (6, 2), (7, 2), (8, 0), (9, 2), (10, 3), (11, 4), (12, 3)] (by kernel_rfl) (by kernel_rfl) rfl (by kernel_rfl) ?_
        refine ord_read (.pointer (some ⟨X, 2, none⟩)) rfl rfl hS0 (fun W hW => by go_simp) ?_
        refine ord_read (.slice a.so SN.length a.sc) rfl rfl hS0 (fun W hW => by obtain ⟨k0, k1, k2, k3⟩ := ((unhide HJ).below hW).v.cells; go_simp) ?_
        refine ord_read (.string NM) rfl rfl hS0 (fun W hW => by go_simp) ?_
        refine ord_read (.func (.func 20) #[] #[.pointer (some ⟨x, 0, none⟩), .pointer (some ⟨y, 0, none⟩)]) rfl rfl hS0 (fun W hW => by go_simp) ?_
        refine ord_read (.int .i64 k) rfl rfl hS0 (fun W hW => by go_simp) ?_
        refine ord_read (.int .i64 (12 + (k : Int))) rfl rfl hS0 (fun W hW => by go_simp) ?_
        have HB0 := hide hS0
        clear hS0
        refine ord_held rfl rfl ?_
        intro K hK
        unfold Oper.wp
        go_simp
        refine (unhide HNL (12 + k) (by omega) (12 + (k : Int)) (by omega) _ (fr (unhide HJ).k (unhide HB0))).mono ?_
        rintro e w1 ⟨rfl, hb⟩
        have HB1 := hide (fr (unhide HB0) hb)
        clear hb
        refine hK _ _ (unhide HB1) ?_
        clear hK K
        refine ord_held rfl rfl ?_
        intro K hK
        unfold Oper.wp
        go_simp
        refine (readTable_any (sec (12 + k)) _ (unhide HSZ (12 + k)) ((unhide HER).below (fr (unhide HJ).k (unhide HB1)))).mono ?_
        rintro e w2 ⟨⟨hok, tv, rfl, tq, tc, rfl, hot⟩ | ⟨hok, u, pv, rfl⟩, hb⟩
        case inr =>
          exact ⟨rfl, unhide HPOST _ _ ⟨.inr ⟨ri_s hlt hok, _, _, rfl⟩, fr (unhide HJ).k (fr (unhide HB1) hb)⟩⟩
        have HTS2 : Hid (∀ j, j < k + 1 → tdB (sec (12 + j)) = true) := hide (fun j hj => by
          by_cases e : j = k
          · subst e; exact hok
          · exact unhide HTS j (by omega))
        have HB2 := hide (fr (unhide HB1) hb)
        have HOT : Hid (OwnN w2 wr.heap.size (.slice tq (openL (sec (12 + k)) 3).length tc) (openL (sec (12 + k)) 3)) := hide (OwnN.base ⟨tq, tc, rfl, hot⟩ (unhide HB1).size)
        clear hb hot hok
        refine hK _ _ (unhide HB2) ?_
        clear hK K
        generalize openL (sec (12 + k)) 3 = TT at *
        refine ord_read (.agg #[.string NM, .slice tq TT.length tc]) rfl rfl (unhide HB2) (fun W hW => by go_simp) ?_
        refine ord_held rfl rfl ?_
        intro K hK
        unfold Oper.wp
        go_simp
        have HB3 := hide (fr (unhide HB2) (Joins.below_alloc1 w2 (.cells #[.string NM, .slice tq TT.length tc] 72)))
        have HOT3 := hide ((unhide HOT).below (Joins.below_alloc1 w2 (.cells #[.string NM, .slice tq TT.length tc] 72)))
        have hnew : (w2.alloc (.cells #[.string NM, .slice tq TT.length tc] 72)).heap[w2.heap.size]? = some (.cells #[.string NM, .slice tq TT.length tc] 72 (0, 0)) := heap_alloc_new _ _
        refine hK _ _ (unhide HB3) ?_
        clear hK K
        generalize (w2.alloc (.cells #[.string NM, .slice tq TT.length tc] 72)) = w3 at *
        generalize w2.heap.size = g3 at *
        have HJ3 := hide ((unhide HJ).below (unhide HB3))
        have hsn := unhide HSL
        refine ord_alone rfl rfl ?_
        intro K hK
        refine wp_append_one rfl (.tmp 29) (.tmp 37) 28 rfl w.heap.size 72 j0 (.agg #[.string ⟨#[]⟩, .slice none 0 0]) 2 40 Tryz.underlying28 hj hy0 hy1 hy2 rfl (by omega) a.so SN.length a.sc (snC SN ts) rfl ((unhide HJ3).o.s.toR (unhide HJ).f) (unhide HJ3).k.size ⟨g3, 0, none⟩ 1 [.string NM, .slice tq TT.length tc] rfl rfl (snap_news hnew) (snap_one _ _ _ _) (by unfold maxLen; omega) (by omega) ?_
        intro g4 cap4 w4 ho4 hk4
        obtain ⟨hJ5, hv4⟩ := (unhide HJ).addS (unhide HB3) (unhide HOT3) ho4 hk4
        have HJ5 := hide hJ5
        clear hJ5 ho4 hk4 hnew hsn
        refine hK _ _ ?_
        clear hK K
        refine ord_val (.pointer (some ⟨X, 2, none⟩)) rfl rfl (fun W => by go_simp) ?_
        obtain ⟨c0, c1, c2, c3⟩ := hv4.cells
        obtain ⟨z0, z1, z2, z3⟩ := hv4.free
        refine ord_alone rfl rfl ?_
        intro K hK
        unfold Oper.wp
        go_simp
        refine hK _ _ ?_
        clear hK K c0 c1 c2 c3 z0 z1 z2 z3 hv4
        refine ord_doneP ?_
        revert HJ5
        generalize (w4.setCell _ _) = w5
        intro HJ5
        go_wp2
        go_roundw
        case rel => exact ⟨k + 1, SN ++ [⟨NM, TT⟩], _, _, by omega, by go_num, HSS, hide (by simp; exact unhide HSL), HTS2, HJ5⟩
        case measure => simp [intOf]; omega
      · have hke : k = ns.length := by omega
        have HSN2 : Hid (riS ns sec ns.length = SN) := hide (by rw [← hke]; exact unhide HSN)
        have HTS2 : Hid (∀ j, j < ns.length → tdB (sec (12 + j)) = true) := hide (by rw [← hke]; exact unhide HTS)
        have HSL2 : Hid (SN.length ≤ 3) := hide (by rw [unhide HSL]; omega)
        clear HSN HTS HSL hke
        have HJ0 := HJ
        go_wp2_with (refine wpList_load_arr rfl 78 _ rfl yv rfl (intV CS).toArray _ _ (unhide HJ0).c und24 rfl (sizeA (unhide HCL)) ?_)
        go_loopw [42] (fun i wq => ∃ (c : Nat) (DA : List Int), c ≤ 24 ∧ i = .int .i64 c ∧ Hid (riD sec c = DA) ∧ Hid (∀ j, j < c → 0 < CS.getD j 0 → vlB (sec (15 + j)) = true) ∧ Hid (RdJ w wq yv X CS a ⟨CS, TB, SN, DA⟩ ts)) (fun i _ => 24 - (intOf i).toNat)
        case atStart => exact ⟨0, ZS, by omega, rfl, hide (by rw [riD_zero, unhide HZS]), hide (fun j h => by omega), HJ⟩
        case round =>
          clear HJ HJ0
          rename World => wq
          obtain ⟨c, DA, hc, rfl, HDA, HVS, HJ⟩ := hrel
          have HDL : Hid (DA.length = 24) := hide (by rw [← unhide HDA]; exact riD_len _ _)
          by_cases hltc : c < 24
          · have hcx : c < CS.length := by rw [unhide HCL]; exact hltc
            have hix := fun W => idx24 W CS c (unhide HCL) hcx
            have hci : (c : Int) < 24 := by omega
            have egr : CS.getD c 0 = CS[c] := by simp [List.getD, hcx]
            have HRC : Hid ((cdL (sec 10)).getD c 0 = CS[c]) := hide (by rw [unhide HCQ]; exact egr)
            have hcd : c < DA.length := by rw [unhide HDL]; exact hltc
            by_cases hpos : 0 < CS[c]
            · have hw15 : IntKind.i64.wrap (15 + (c : Int)) = 15 + (c : Int) := by rw [IntKind.wrap_i64]; omega
              have HVN : Hid (riV sec c = (openL (sec (15 + c)) 4).getD 0 0) := hide (by rw [riV, unhide HRC, if_pos hpos])
              have HBAD : Hid (vlB (sec (15 + c)) = false → riB ns sec = false) := hide (fun hh => ri_d hltc (by rw [unhide HRC]; exact hpos) hh)
              have HVS2 : Hid (vlB (sec (15 + c)) = true → ∀ j, j < c + 1 → 0 < CS.getD j 0 → vlB (sec (15 + j)) = true) := hide (fun hh j hj hp => by
                by_cases e : j = c
                · subst e; exact hh
                · exact unhide HVS j (by omega) hp)
              have HDS := hide (riD_set sec hltc)
              rw [unhide HDA, unhide HVN] at HDS
              obtain ⟨g, eg, hcell, hfz, hset⟩ := (unhide HJ).setD hcd
              have HSET := hide hset
              have HCELL := hide hcell
              have HFZ := hide hfz
              have HEG := hide eg
              clear egr hset hcell hfz eg HRC HVS
              have hdl : (c : Int) < (DA.length : Int) := by rw [unhide HDL]; omega
              generalize CS[c] = Y at *
              go_upto_region 12 with fail
              have hS0 : Below wq.heap.size wq wq.drew := (Below.refl _ _).drew
              refine wp_region_ordP (fun c d v a w h => by cases d <;> exact h) (fun w' => Below wq.heap.size wq w') [0, 1, 2, 3, 4, 5, 6, 7] [(0, 0), (1, 0), (2, 0), (3, 0), (4, 0), (5, 0), (6, 2), (7, 2), (8, 4), (9, 3)] (by kernel_rfl) (by kernel_rfl) rfl (by kernel_rfl) ?_
              refine ord_read (.pointer (some ⟨X, 3, none⟩)) rfl rfl hS0 (fun W hW => by go_simp) ?_
              refine ord_read (.slice (some ⟨g, 0, none⟩) DA.length a.dc) rfl rfl hS0 (fun W hW => by obtain ⟨k0, k1, k2, k3⟩ := ((unhide HJ).below hW).v.cells; rw [unhide HEG] at k3; go_simp) ?_
              refine ord_read (.int .i64 c) rfl rfl hS0 (fun W hW => by go_simp) ?_
              refine ord_read (.func (.func 20) #[] #[.pointer (some ⟨x, 0, none⟩), .pointer (some ⟨y, 0, none⟩)]) rfl rfl hS0 (fun W hW => by go_simp) ?_
              refine ord_read (.int .i64 c) rfl rfl hS0 (fun W hW => by go_simp) ?_
              refine ord_read (.int .i64 (15 + (c : Int))) rfl rfl hS0 (fun W hW => by go_simp) ?_
              have HB0 := hide hS0
              clear hS0
              refine ord_held rfl rfl ?_
              intro K hK
              unfold Oper.wp
              go_simp
              refine (unhide HNL (15 + c) (by omega) (15 + (c : Int)) (by omega) _ (fr (unhide HJ).k (unhide HB0))).mono ?_
              rintro e w1 ⟨rfl, hb⟩
              have HB1 := hide (fr (unhide HB0) hb)
              clear hb
              refine hK _ _ (unhide HB1) ?_
              clear hK K
              refine ord_held rfl rfl ?_
              intro K hK
              unfold Oper.wp
              go_simp
              refine (readValue_any (sec (15 + c)) _ (unhide HSZ (15 + c)) ((unhide HER).below (fr (unhide HJ).k (unhide HB1)))).mono ?_
              rintro e w2 ⟨⟨hok, rfl⟩ | ⟨hok, u, pv, rfl⟩, hb⟩
              case inr =>
                exact ⟨rfl, unhide HPOST _ _ ⟨.inr ⟨unhide HBAD hok, _, _, rfl⟩, fr (unhide HJ).k (fr (unhide HB1) hb)⟩⟩
              have HVS3 := hide (unhide HVS2 hok)
              have HB2 := hide (fr (unhide HB1) hb)
              clear hb hok
              refine hK _ _ (unhide HB2) ?_
              clear hK K
              generalize (openL (sec (15 + c)) 4).getD 0 0 = VV at *
              refine ord_val (.pointer (some ⟨g, c, none⟩)) rfl rfl (fun W => by go_simp) ?_
              have k0 := ((unhide HB2).cell (p := ⟨g, c, none⟩) (World.block_lt_of_cell? _ _ (unhide HCELL))).trans (unhide HCELL)
              have k1 : w2.frozen? ⟨g, c, none⟩ = false := froz_below (unhide HB2) (unhide HCELL) (unhide HFZ)
              have HJ5 := hide (unhide HSET w2 VV (unhide HB2))
              refine ord_alone rfl rfl ?_
              intro K hK
              unfold Oper.wp
              go_simp
              refine hK _ _ ?_
              clear hK K k0 k1
              refine ord_doneP ?_
              revert HJ5
              generalize (w2.setCell _ _) = w5
              intro HJ5
              go_wp2
              go_roundw
              case rel => exact ⟨c + 1, DA.set c VV, by omega, by go_num, hide (unhide HDS).symm, HVS3, HJ5⟩
              case measure => simp [intOf]; omega
            · have HDS := hide (riD_skip sec (c := c) (by rw [unhide HRC]; exact hpos))
              rw [unhide HDA] at HDS
              have HVS3 : Hid (∀ j, j < c + 1 → 0 < CS.getD j 0 → vlB (sec (15 + j)) = true) := hide (fun j hj hp => by
                by_cases e : j = c
                · subst e; rw [egr] at hp; exact absurd hp hpos
                · exact unhide HVS j (by omega) hp)
              clear egr HRC
              generalize CS[c] = Y at *
              go_wp2
              go_roundw
              case rel => exact ⟨c + 1, DA, by omega, by go_num, hide (unhide HDS).symm, HVS3, HJ⟩
              case measure => simp [intOf]; omega
          · obtain rfl : c = 24 := by omega
            have HM : Hid (riM ns sec = ⟨CS, TB, SN, DA⟩) := hide (by rw [riM, unhide HCQ, unhide HTQ, unhide HSN2, unhide HDA])
            have HYES : Hid (imB ⟨CS, TB, SN, DA⟩ = true → riB ns sec = true) := hide (fun hh => ri_yes (unhide HCO) (unhide HTO) (unhide HTS2) (fun c hc hp => unhide HVS c hc (by rw [← unhide HCQ]; exact hp)) (by rw [unhide HM]; exact hh))
            have HNO : Hid (imB ⟨CS, TB, SN, DA⟩ = false → riB ns sec = false) := hide (fun hh => ri_i (by rw [unhide HM]; exact hh))
            have HTBL : Hid (TB.length ≤ 16384) := hide (by rw [← unhide HTQ]; exact openL_few _ (unhide HSZ 11))
            have HLL : Hid (ImL ⟨CS, TB, SN, DA⟩) := hide ⟨by rw [unhide HCL]; unfold maxLen; omega, by have := unhide HTBL; unfold maxLen; simp only; omega, by have := unhide HSL2; unfold maxLen; simp only; omega, by rw [unhide HDL]; unfold maxLen; omega⟩
            have HSH : Hid (ImS wq a ⟨CS, TB, SN, DA⟩) := hide ((unhide HJ).o.shows (fun s hs => by
              have hs' : s ∈ riS ns sec ns.length := by rw [unhide HSN2]; exact hs
              obtain ⟨i, hi, rfl⟩ := List.mem_map.1 hs'
              have hi' := List.mem_range.1 hi
              refine ⟨?_, by have := openL_few (sec (12 + i)) (unhide HSZ (12 + i)); unfold maxLen; simp only; omega⟩
              have := unhide HNZ ns[i] (List.getElem_mem hi')
              simp only [List.getD, List.getElem?_eq_getElem hi', Option.getD_some]
              unfold maxLen; omega))
            obtain ⟨c0, c1, c2, c3⟩ := (unhide HJ).v.cells
            go_wp2_with fail
            refine (imageOK_impl a ⟨CS, TB, SN, DA⟩ _ (unhide HLL) (unhide HSH)).mono ?_
            rintro e w6 ⟨rfl, hb6⟩
            have HJ6 := hide ((unhide HJ).below hb6)
            clear hb6 c0 c1 c2 c3 HSH HJ
            cases him : imB ⟨CS, TB, SN, DA⟩
            · have HF := hide (unhide HNO him)
              clear him
              go_wp2_with (go_at_call 54; refine (demand_false _ ((unhide HER).below (unhide HJ6).k)).mono ?_; rintro e w' ⟨⟨u, pv, rfl⟩, hw⟩; replace hw := hw.symm; subst hw)
              exact ⟨rfl, unhide HPOST _ _ ⟨.inr ⟨unhide HF, _, _, rfl⟩, (unhide HJ6).k⟩⟩
            · have HF := hide (unhide HYES him)
              clear him
              obtain ⟨c0, c1, c2, c3⟩ := (unhide HJ6).v.cells
              obtain ⟨r0, r1, r2, r3⟩ := (unhide HJ6).r.cells
              obtain ⟨z0, z1, z2, z3⟩ := (unhide HJ6).r.free
              have HFN := hide (unhide HJ6).fin
              unfold putI at HFN
              go_wp2_with (go_at_call 54; refine (demand_true _).mono ?_; rintro e w' ⟨rfl, hw⟩; replace hw := hw.symm; subst hw)
              refine bodyPost_ret (res_im Tryz.results24 rfl (unhide HFN).1) rfl ?_
              refine unhide HPOST _ _ ⟨.inl ⟨unhide HF, a, ts, ?_, ?_⟩, (unhide HFN).2.2⟩
              · rw [unhide HM]
              · rw [unhide HM]; exact (unhide HFN).2.1

end Go.Proofs.YtpdpnepnfhbonaaGreatDoor
