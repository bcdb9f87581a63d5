/- The walk of laws.FnSnap. (Written by gens/lawsn.py.) -/
import Derived.Test.YthnpooffhopnkacRows
import Derived.Test.YthnpooffhopnkacPart19
import Derived.Test.YthnpooffhopnkacSrcM
import Derived.Test.YthnpooffhopnkacPart27
import Derived.Test.YthnpooffhopnkacPart22
import Derived.Test.YthnpooffhopnkacPart28
import Derived.Test.YthnpooffhopnkacPart29
import Derived.Test.YthnpooffhopnkacPart30
import Derived.Test.YthnpooffhopnkacPart31
import Derived.WalkKit
import Derived.WalkSpells
import Derived.KernelRfl
import Derived.LoopN
import Derived.Deep.CutRange

namespace Go.Proofs.Ythnpooffhopnkac
open Go.RowKit
set_option linter.unusedVariables false
set_option maxRecDepth 100000

theorem OwnIm.putOther {w : World} {B x : Nat} {a : Im4} {m : Img} {ts : List Value} {v0 v1 v2 v3 : Value} (ho : OwnIm w B a m ts) (hv : VarM w x 26 v0 v1 v2 v3) (a' : Im4) (m' : Img) : OwnIm (putI w x a' m') B a m ts := by
  have hk : Keep (fun k => k = x) w (putI w x a' m') := (((((Keep.refl (fun k => k = x) w).setCell (p := ⟨x, 0, none⟩) rfl _).setCell (p := ⟨x, 1, none⟩) rfl _).setCell (p := ⟨x, 2, none⟩) rfl _).setCell (p := ⟨x, 3, none⟩) rfl _)
  exact ho.keep hk (fun g hg e => ho.other hv (e ▸ hg))
theorem writeA (a : Im4) (Y : Img) (q v : Int) (X : Img) (C : Int) (W : World) (h : ImR Y) (hX : wcA Y q v = (X, C)) (hs : ImS W a Y) :
    Calls Try.prog 7 #[imV a Y, .int .i64 q, .int .i64 v] W fun e w' => ∃ a5 ts, e = .returned (.tuple #[imV a5 X, .int .i64 C]) ∧ OwnIm w' W.heap.size a5 X ts ∧ Below W.heap.size W w' := by
  have := writeCluster_impl a Y q v W h.L hs
  rw [hX] at this
  exact this
theorem createA (a : Im4) (M X : Img) (C : Int) (W : World) (h : ImR M) (hX : scA M kept = (X, C)) (hs : ImS W a M) :
    Calls Try.prog 14 #[imV a M, .string kept] W fun e w' => ∃ a5 ts, e = .returned (.tuple #[imV a5 X, .int .i64 C]) ∧ OwnIm w' W.heap.size a5 X ts ∧ Below W.heap.size W w' := by
  have := snapCreate_impl a M kept W (by decide) h.L hs
  rw [hX] at this
  exact this
theorem revertA (a : Im4) (M X : Img) (C : Int) (W : World) (h : ImR M) (hX : srA M kept = (X, C)) (hs : ImS W a M) :
    Calls Try.prog 16 #[imV a M, .string kept] W fun e w' => ∃ a5 ts, e = .returned (.tuple #[imV a5 X, .int .i64 C]) ∧ OwnIm w' W.heap.size a5 X ts ∧ Below W.heap.size W w' := by
  have := snapRevert_impl a M kept W (by decide) h.L hs
  rw [hX] at this
  exact this
theorem deleteA (a : Im4) (M X : Img) (C : Int) (W : World) (h : ImR M) (hX : sdA M kept = (X, C)) (hs : ImS W a M) :
    Calls Try.prog 17 #[imV a M, .string kept] W fun e w' => ∃ a5 ts, e = .returned (.tuple #[imV a5 X, .int .i64 C]) ∧ OwnIm w' W.heap.size a5 X ts ∧ Below W.heap.size W w' := by
  have := snapDelete_impl a M kept W (by decide) h.L hs
  rw [hX] at this
  exact this
theorem namesA (a : Im4) (M : Img) (L : List ByteArray) (W : World) (h : ImR M) (hX : snA M = (L, 0)) (hs : ImS W a M) :
    Calls Try.prog 18 #[imV a M] W fun e w' => ∃ qo qa, e = .returned (.tuple #[.slice qo L.length qa, .int .i64 0]) ∧ OwnR w' W.heap.size 9 1 (.slice qo L.length qa) L.length (strV L) ∧ Below W.heap.size W w' := by
  have := snapNames_impl a M W h.L hs
  rw [hX] at this
  exact this

set_option maxHeartbeats 12800000 in
theorem lawSnap (ao : Option Addr) (ca n : Nat) (bo : Option Addr) (cb m : Nat) (w : World) (hn : n ≤ maxLen) (hB : Bs w ao n) (hm : m ≤ maxLen) (hC : Bs w bo m) :
    Calls Try.prog 4 #[.slice ao n ca, .slice bo m cb] w fun e w' => e = .returned (.bool true) ∧ Below w.heap.size w w' := by
  have HBS := hide hB
  have HCS := hide hC
  clear hB hC
  unfold maxLen at hn hm
  by_cases h : 1048576 < n
  · go_enter Try.func4, Try.ntmps4
    go_wp2
    go_ret
    exact ⟨rfl, Below.refl _ _⟩
  by_cases h' : 1048576 < m
  · go_enter Try.func4, Try.ntmps4
    go_wp2
    go_ret
    exact ⟨rfl, Below.refl _ _⟩
  have hn' : n ≤ 1048576 := by omega
  have hm' : m ≤ 1048576 := by omega
  go_enter Try.func4, Try.ntmps4
  go_wp2_with fail
  refine (imageOf_kept ao n ca _ hn' (unhide HBS)).mono ?_
  rintro e w1 ⟨a0, M, ts0, rfl, ho, hi, hb⟩
  have HM := hide hi
  have A0 := hide (ImA.new (ho.showsR hi.r))
  have HB1 := hide (fr hb (Joins.below_alloc1 w1 (.cells #[.slice a0.ro M.refs.length a0.rc, .slice a0.tq M.table.length a0.tc, .slice a0.so M.snaps.length a0.sc, .slice a0.dq M.data.length a0.dc] 26)))
  clear ho hi hb HBS
  go_upto_region 4 with fail
  revert HB1
  revert A0
  generalize w1.heap.size = y0
  generalize (w1.alloc _) = W1
  intro A0 HB1
  obtain ⟨c0, c1, c2, c3⟩ := (unhide A0).v.cells
  rcases snap_create (unhide HM) with ⟨hcr, h3⟩ | ⟨X, hcr, hJ⟩
  · -- there are three
    have H3 := hide h3
    clear h3
    go_wp2_with fail
    refine (createA a0 M M 6 _ (unhide HM).r hcr (unhide A0).s).mono ?_
    rintro e w2 ⟨a1, ts1, rfl, ho, hb⟩
    have hb2 := fr hb (Joins.below_alloc1 w2 (.cells #[.slice a1.ro M.refs.length a1.rc, .slice a1.tq M.table.length a1.tc, .slice a1.so M.snaps.length a1.sc, .slice a1.dq M.data.length a1.dc] 26))
    have A1 := hide (ImA.new (ho.showsR (unhide HM).r))
    have A02 := hide ((unhide A0).below hb2)
    have HB2 := hide (fr (unhide HB1) hb2)
    clear ho hb hb2 c0 c1 c2 c3 A0 HB1 hcr
    go_upto_region 5 with fail
    revert HB2
    revert A02
    revert A1
    generalize w2.heap.size = y1
    generalize (w2.alloc _) = W2
    intro A1 A02 HB2
    have hb3 : ((M.snaps.length : Int) == 3) = true := by simp [unhide H3]
    obtain ⟨c0, c1, c2, c3⟩ := (unhide A02).v.cells
    obtain ⟨d0, d1, d2, d3⟩ := (unhide A1).v.cells
    clear H3
    go_wp2_with fail
    refine (sameA a1 a0 M _ (unhide HM).r (unhide A1).s (unhide A02).s).mono ?_
    rintro e w3 ⟨rfl, hb⟩
    have HB3 := hide (fr (unhide HB2) hb)
    clear hb c0 c1 c2 c3 d0 d1 d2 d3
    go_wp2
    go_ret
    exact ⟨rfl, unhide HB3⟩
  have HJ := hide hJ
  clear hJ
  go_wp2_with fail
  refine (createA a0 M X 0 _ (unhide HM).r hcr (unhide A0).s).mono ?_
  rintro e w2 ⟨a1, ts1, rfl, ho, hb⟩
  have hb2 := fr hb (Joins.below_alloc1 w2 (.cells #[.slice a1.ro X.refs.length a1.rc, .slice a1.tq X.table.length a1.tc, .slice a1.so X.snaps.length a1.sc, .slice a1.dq X.data.length a1.dc] 26))
  have A1 := hide (ImA.new (ho.showsR (unhide HJ).r))
  have A02 := hide ((unhide A0).below hb2)
  have HB2 := hide (fr (unhide HB1) hb2)
  clear ho hb hb2 c0 c1 c2 c3 A0 HB1 hcr
  go_upto_region 7 with fail
  revert HB2
  revert A02
  revert A1
  generalize w2.heap.size = y1
  generalize (w2.alloc _) = W7
  intro A1 A07 HB7
  obtain ⟨c0, c1, c2, c3⟩ := (unhide A1).v.cells
  have AY := hide (ImA.new (unhide A1).s)
  have HW0 := hide (Joins.below_alloc1 W7 (.cells #[.slice a1.ro X.refs.length a1.rc, .slice a1.tq X.table.length a1.tc, .slice a1.so X.snaps.length a1.sc, .slice a1.dq X.data.length a1.dc] 26))
  go_upto_region 8 with fail
  clear c0 c1 c2 c3 A1
  have HYY : Hid (W7.heap.size ≤ W7.heap.size) := hide (Nat.le_refl _)
  revert HYY
  revert HW0
  revert AY
  obtain ⟨B7, hB7⟩ : ∃ B7, B7 = W7.heap.size := ⟨_, rfl⟩
  generalize (W7.alloc _) = W8
  rw [← hB7]
  intro AY HW0 HYY
  have HBQ : Hid (B7 = W7.heap.size) := hide hB7
  clear hB7
  go_wp2
  go_loopw [9] (fun i wr => ∃ (k : Nat) (a : Im4) (Y : Img), k ≤ 6 ∧ i = .int .i64 k ∧ Hid (SnJ M Y) ∧ Hid (ImA wr B7 a Y) ∧ Hid (Below B7 W7 wr)) (fun i _ => 6 - (intOf i).toNat)
  case atStart => exact ⟨0, a1, X, by omega, rfl, HJ, AY, HW0⟩
  case round =>
    clear AY HW0 HJ
    obtain ⟨k, a, Y, hk, rfl, HJ, HY, HW⟩ := hrel
    have HWB : Hid (Below W7.heap.size W7 wr) := hide (by rw [← unhide HBQ]; exact unhide HW)
    by_cases hlt : k < 6
    · have hlti : (k : Int) < 6 := by omega
      have HBW := hide (fr (unhide HB7) (unhide HWB))
      obtain ⟨q, ⟨hq0, hq1⟩, hat1⟩ := at_told bo m cb (k : Int) 13 wr hm' (by omega) (by omega) (by omega) (by omega) ((unhide HCS).below (unhide HBW))
      obtain ⟨q1, rfl⟩ := Int.eq_ofNat_of_zero_le hq0
      obtain ⟨v1, ⟨hv0, hv1⟩, hat2⟩ := at_told bo m cb ((k : Int) + 1) 900 wr hm' (by omega) (by omega) (by omega) (by omega) ((unhide HCS).below (unhide HBW))
      obtain ⟨X5, X0, hwx, hxj⟩ := (unhide HJ).write q1 (v := v1) (by simp [numB, inB]; omega)
      have HAT1 := hide hat1
      have HAT2 := hide hat2
      have HWX := hide hwx
      have HXJ := hide hxj
      have hwr : IntKind.i64.wrap ((k : Int) + 1) = (k : Int) + 1 := by rw [IntKind.wrap_i64]; omega
      clear hat1 hat2 hwx hxj hq0 hq1 hv0 hv1
      obtain ⟨yy, hyy⟩ : ∃ yy, yy = B7 := ⟨_, rfl⟩
      rw [← hyy] at HY ⊢
      have HYB : Hid (yy = B7) := hide hyy
      clear hyy
      go_upto_region 11 with fail
      go_cut [10, 11] from 54 to 70 (fun c z wx => ∃ (C : Nat) (zz : Value) (a5 : Im4) (X : Img) (ts5 : List Value), c = .pointer (some ⟨C, 0, none⟩) ∧ z = zz ∧ Hid (SnJ M X) ∧ Hid (VarM wx C 26 (.slice a5.ro X.refs.length a5.rc) (.slice a5.tq X.table.length a5.tc) (.slice a5.so X.snaps.length a5.sc) (.slice a5.dq X.data.length a5.dc)) ∧ Hid (OwnIm wx wr.heap.size a5 X ts5) ∧ Hid (Below wr.heap.size wr wx))
      case first =>
        revert HXJ
        revert HWX
        generalize X5 = X
        intro HWX HXJ
        have HB : Hid (Below wr.heap.size wr wr.drew) := hide (Below.refl _ _).drew
        have HS := hide ((unhide HY).below (unhide HB))
        have hS0 := (unhide HS).v
        refine wp_region_tree (fun w' => VarM w' yy 26 (.slice a.ro Y.refs.length a.rc) (.slice a.tq Y.table.length a.tc) (.slice a.so Y.snaps.length a.sc) (.slice a.dq Y.data.length a.dc)) [0, 1, 2, 3, 4, 5, 6, 7, 12] (by kernel_rfl) ?_
        refine tree_seg (n := 9) [(0, 0), (1, 0), (2, 0), (4, 0), (5, 0), (6, 0)] (by kernel_rfl) rfl (by kernel_rfl) ?_
        refine ord_read (.agg #[.slice a.ro Y.refs.length a.rc, .slice a.tq Y.table.length a.tc, .slice a.so Y.snaps.length a.sc, .slice a.dq Y.data.length a.dc]) rfl rfl hS0 (fun W hW => by obtain ⟨k0, k1, k2, k3⟩ := hW.cells; go_simp) ?_
        refine ord_read (.slice bo m cb) rfl rfl hS0 (fun W hW => by go_simp) ?_
        refine ord_read (.int .i64 k) rfl rfl hS0 (fun W hW => by go_simp) ?_
        refine ord_read (.slice bo m cb) rfl rfl hS0 (fun W hW => by go_simp) ?_
        refine ord_read (.int .i64 k) rfl rfl hS0 (fun W hW => by go_simp) ?_
        refine ord_read (.int .i64 (k + 1)) rfl rfl hS0 (fun W hW => by go_simp) ?_
        refine ord_end ?_
        clear hS0
        revert HS
        revert HB
        generalize wr.drew = wz
        intro HB HS
        refine tree_two (fuel := 8) (i := 3) (j := 12) rfl rfl rfl rfl (by kernel_rfl) ?t3a ?t3b
        case t3a =>
          intro K hK
          unfold Oper.wp
          go_simp
          refine (unhide HAT1 _ (unhide HB)).mono ?_
          rintro e wn ⟨rfl, hb⟩
          replace HS := hide ((unhide HS).below hb)
          replace HB := hide (fr (unhide HB) hb)
          clear hb
          refine hK _ _ (fun _ => (unhide HS).v) ?_
          clear hK K
          revert HS
          revert HB
          generalize wn = wz
          intro HB HS
          refine tree_two (fuel := 7) (i := 7) (j := 12) rfl rfl rfl rfl (by kernel_rfl) ?t7a ?t7b
          case t7a =>
            intro K hK
            unfold Oper.wp
            go_simp
            refine (unhide HAT2 _ (unhide HB)).mono ?_
            rintro e wn ⟨rfl, hb⟩
            replace HS := hide ((unhide HS).below hb)
            replace HB := hide (fr (unhide HB) hb)
            clear hb
            refine hK _ _ (fun _ => (unhide HS).v) ?_
            clear hK K
            revert HS
            revert HB
            generalize wn = wz
            intro HB HS
            refine tree_two (fuel := 6) (i := 8) (j := 12) rfl rfl rfl rfl (by kernel_rfl) ?t8a ?t8b
            case t8a =>
              intro K hK
              unfold Oper.wp
              go_simp
              refine (writeA a Y q1 v1 X X0 _ (unhide HJ).r (unhide HWX) (unhide HS).s).mono ?_
              rintro e wn ⟨a5, ts5, rfl, ho, hb⟩
              have HOX := hide (OwnIm.base ho (unhide HB).size)
              replace HS := hide ((unhide HS).below hb)
              replace HB := hide (fr (unhide HB) hb)
              clear ho hb
              refine hK _ _ (fun h => absurd h (by decide)) ?_
              clear hK K
              revert HOX
              revert HS
              revert HB
              generalize wn = wz
              intro HB HS HOX
              refine tree_seg (n := 0) [(9, 4), (10, 4), (11, 4), (12, 2), (13, 3), (14, 4)] (by kernel_rfl) rfl (by kernel_rfl) ?_
              refine ord_val (.tuple #[imV a5 X, .int .i64 X0]) rfl rfl (fun W => by go_simp) ?_
              refine ord_val (imV a5 X) rfl rfl (fun W => by go_simp) ?_
              refine ord_val (.int .i64 X0) rfl rfl (fun W => by go_simp) ?_
              have HVC := hide (VarM.new wz 26 (.slice none 0 0) (.slice none 0 0) (.slice none 0 0) (.slice none 0 0))
              have HCL := hide (unhide HB).size
              replace HB := hide (fr (unhide HB) (Joins.below_alloc1 wz (.cells #[.slice none 0 0, .slice none 0 0, .slice none 0 0, .slice none 0 0] 26)))
              replace HS := hide ((unhide HS).below (Joins.below_alloc1 wz (.cells #[.slice none 0 0, .slice none 0 0, .slice none 0 0, .slice none 0 0] 26)))
              replace HOX := hide ((unhide HOX).below (Joins.below_alloc1 wz (.cells #[.slice none 0 0, .slice none 0 0, .slice none 0 0, .slice none 0 0] 26)))
              refine ord_held rfl rfl ?_
              intro K hK
              unfold Oper.wp
              go_simp
              refine hK _ _ (unhide HS).v ?_
              clear hK K
              revert HOX
              revert HS
              revert HB
              revert HCL
              revert HVC
              generalize wz.heap.size = C
              generalize (wz.alloc _) = wz
              intro HVC HCL HB HS HOX
              obtain ⟨z0, z1, z2, z3⟩ := (unhide HVC).cells
              obtain ⟨f0, f1, f2, f3⟩ := (unhide HVC).free
              have HVF := hide ((((unhide HVC).set0 (.slice a5.ro X.refs.length a5.rc)).set1 (.slice a5.tq X.table.length a5.tc)).set2 (.slice a5.so X.snaps.length a5.sc) |>.set3 (.slice a5.dq X.data.length a5.dc))
              have HOF := hide ((unhide HOX).putOther (unhide HVC) a5 X)
              have HBF := hide (belowPut (unhide HB) (unhide HCL) a5 X)
              unfold putI at HBF HOF
              refine ord_alone rfl rfl ?_
              intro K hK
              unfold Oper.wp
              go_simp
              refine hK _ _ ?_
              clear hK K z0 z1 z2 z3 f0 f1 f2 f3
              refine ord_val (.int .i64 X0) rfl rfl (fun W => by go_simp) ?_
              refine ord_end ?_
              refine tree_done (by kernel_rfl) ?_
              go_wp2_with fail
              go_meet
              exact ⟨C, .int .i64 X0, a5, X, ts5, rfl, rfl, HXJ, HVF, HOF, HBF⟩
            case t8b =>
              intro K hK
              unfold Oper.wp
              go_simp
              have HVC := hide (VarM.new wz 26 (.slice none 0 0) (.slice none 0 0) (.slice none 0 0) (.slice none 0 0))
              have HCL := hide (unhide HB).size
              replace HB := hide (fr (unhide HB) (Joins.below_alloc1 wz (.cells #[.slice none 0 0, .slice none 0 0, .slice none 0 0, .slice none 0 0] 26)))
              replace HS := hide ((unhide HS).below (Joins.below_alloc1 wz (.cells #[.slice none 0 0, .slice none 0 0, .slice none 0 0, .slice none 0 0] 26)))
              refine hK _ _ (fun _ => (unhide HS).v) ?_
              clear hK K
              revert HS
              revert HB
              revert HCL
              revert HVC
              generalize wz.heap.size = C
              generalize (wz.alloc _) = wz
              intro HVC HCL HB HS
              refine tree_seg (n := 0) [(8, 3), (9, 4), (10, 4), (11, 4), (13, 3), (14, 4)] (by kernel_rfl) rfl (by kernel_rfl) ?_
              refine ord_alone rfl rfl ?_
              intro K hK
              unfold Oper.wp
              go_simp
              refine (writeA a Y q1 v1 X X0 _ (unhide HJ).r (unhide HWX) (unhide HS).s).mono ?_
              rintro e wn ⟨a5, ts5, rfl, ho, hb⟩
              have HOX := hide (OwnIm.base ho (unhide HB).size)
              replace HVC := hide ((unhide HVC).below hb)
              replace HB := hide (fr (unhide HB) hb)
              clear ho hb
              refine hK _ _ ?_
              clear hK K
              refine ord_val (.tuple #[imV a5 X, .int .i64 X0]) rfl rfl (fun W => by go_simp) ?_
              refine ord_val (imV a5 X) rfl rfl (fun W => by go_simp) ?_
              refine ord_val (.int .i64 X0) rfl rfl (fun W => by go_simp) ?_
              obtain ⟨z0, z1, z2, z3⟩ := (unhide HVC).cells
              obtain ⟨f0, f1, f2, f3⟩ := (unhide HVC).free
              have HVF := hide ((((unhide HVC).set0 (.slice a5.ro X.refs.length a5.rc)).set1 (.slice a5.tq X.table.length a5.tc)).set2 (.slice a5.so X.snaps.length a5.sc) |>.set3 (.slice a5.dq X.data.length a5.dc))
              have HOF := hide ((unhide HOX).putOther (unhide HVC) a5 X)
              have HBF := hide (belowPut (unhide HB) (unhide HCL) a5 X)
              unfold putI at HBF HOF
              refine ord_alone rfl rfl ?_
              intro K hK
              unfold Oper.wp
              go_simp
              refine hK _ _ ?_
              clear hK K z0 z1 z2 z3 f0 f1 f2 f3
              refine ord_val (.int .i64 X0) rfl rfl (fun W => by go_simp) ?_
              refine ord_end ?_
              refine tree_done (by kernel_rfl) ?_
              go_wp2_with fail
              go_meet
              exact ⟨C, .int .i64 X0, a5, X, ts5, rfl, rfl, HXJ, HVF, HOF, HBF⟩
          case t7b =>
            intro K hK
            unfold Oper.wp
            go_simp
            have HVC := hide (VarM.new wz 26 (.slice none 0 0) (.slice none 0 0) (.slice none 0 0) (.slice none 0 0))
            have HCL := hide (unhide HB).size
            replace HB := hide (fr (unhide HB) (Joins.below_alloc1 wz (.cells #[.slice none 0 0, .slice none 0 0, .slice none 0 0, .slice none 0 0] 26)))
            replace HS := hide ((unhide HS).below (Joins.below_alloc1 wz (.cells #[.slice none 0 0, .slice none 0 0, .slice none 0 0, .slice none 0 0] 26)))
            refine hK _ _ (fun _ => (unhide HS).v) ?_
            clear hK K
            revert HS
            revert HB
            revert HCL
            revert HVC
            generalize wz.heap.size = C
            generalize (wz.alloc _) = wz
            intro HVC HCL HB HS
            refine tree_seg (n := 0) [(7, 2), (8, 3), (9, 4), (10, 4), (11, 4), (13, 3), (14, 4)] (by kernel_rfl) rfl (by kernel_rfl) ?_
            refine ord_held rfl rfl ?_
            intro K hK
            unfold Oper.wp
            go_simp
            refine (unhide HAT2 _ (unhide HB)).mono ?_
            rintro e wn ⟨rfl, hb⟩
            replace HVC := hide ((unhide HVC).below hb)
            replace HS := hide ((unhide HS).below hb)
            replace HB := hide (fr (unhide HB) hb)
            clear hb
            refine hK _ _ (unhide HS).v ?_
            clear hK K
            refine ord_alone rfl rfl ?_
            intro K hK
            unfold Oper.wp
            go_simp
            refine (writeA a Y q1 v1 X X0 _ (unhide HJ).r (unhide HWX) (unhide HS).s).mono ?_
            rintro e wn ⟨a5, ts5, rfl, ho, hb⟩
            have HOX := hide (OwnIm.base ho (unhide HB).size)
            replace HVC := hide ((unhide HVC).below hb)
            replace HB := hide (fr (unhide HB) hb)
            clear ho hb
            refine hK _ _ ?_
            clear hK K
            refine ord_val (.tuple #[imV a5 X, .int .i64 X0]) rfl rfl (fun W => by go_simp) ?_
            refine ord_val (imV a5 X) rfl rfl (fun W => by go_simp) ?_
            refine ord_val (.int .i64 X0) rfl rfl (fun W => by go_simp) ?_
            obtain ⟨z0, z1, z2, z3⟩ := (unhide HVC).cells
            obtain ⟨f0, f1, f2, f3⟩ := (unhide HVC).free
            have HVF := hide ((((unhide HVC).set0 (.slice a5.ro X.refs.length a5.rc)).set1 (.slice a5.tq X.table.length a5.tc)).set2 (.slice a5.so X.snaps.length a5.sc) |>.set3 (.slice a5.dq X.data.length a5.dc))
            have HOF := hide ((unhide HOX).putOther (unhide HVC) a5 X)
            have HBF := hide (belowPut (unhide HB) (unhide HCL) a5 X)
            unfold putI at HBF HOF
            refine ord_alone rfl rfl ?_
            intro K hK
            unfold Oper.wp
            go_simp
            refine hK _ _ ?_
            clear hK K z0 z1 z2 z3 f0 f1 f2 f3
            refine ord_val (.int .i64 X0) rfl rfl (fun W => by go_simp) ?_
            refine ord_end ?_
            refine tree_done (by kernel_rfl) ?_
            go_wp2_with fail
            go_meet
            exact ⟨C, .int .i64 X0, a5, X, ts5, rfl, rfl, HXJ, HVF, HOF, HBF⟩
        case t3b =>
          intro K hK
          unfold Oper.wp
          go_simp
          have HVC := hide (VarM.new wz 26 (.slice none 0 0) (.slice none 0 0) (.slice none 0 0) (.slice none 0 0))
          have HCL := hide (unhide HB).size
          replace HB := hide (fr (unhide HB) (Joins.below_alloc1 wz (.cells #[.slice none 0 0, .slice none 0 0, .slice none 0 0, .slice none 0 0] 26)))
          replace HS := hide ((unhide HS).below (Joins.below_alloc1 wz (.cells #[.slice none 0 0, .slice none 0 0, .slice none 0 0, .slice none 0 0] 26)))
          refine hK _ _ (fun _ => (unhide HS).v) ?_
          clear hK K
          revert HS
          revert HB
          revert HCL
          revert HVC
          generalize wz.heap.size = C
          generalize (wz.alloc _) = wz
          intro HVC HCL HB HS
          refine tree_seg (n := 0) [(3, 2), (7, 2), (8, 3), (9, 4), (10, 4), (11, 4), (13, 3), (14, 4)] (by kernel_rfl) rfl (by kernel_rfl) ?_
          refine ord_held rfl rfl ?_
          intro K hK
          unfold Oper.wp
          go_simp
          refine (unhide HAT1 _ (unhide HB)).mono ?_
          rintro e wn ⟨rfl, hb⟩
          replace HVC := hide ((unhide HVC).below hb)
          replace HS := hide ((unhide HS).below hb)
          replace HB := hide (fr (unhide HB) hb)
          clear hb
          refine hK _ _ (unhide HS).v ?_
          clear hK K
          refine ord_held rfl rfl ?_
          intro K hK
          unfold Oper.wp
          go_simp
          refine (unhide HAT2 _ (unhide HB)).mono ?_
          rintro e wn ⟨rfl, hb⟩
          replace HVC := hide ((unhide HVC).below hb)
          replace HS := hide ((unhide HS).below hb)
          replace HB := hide (fr (unhide HB) hb)
          clear hb
          refine hK _ _ (unhide HS).v ?_
          clear hK K
          refine ord_alone rfl rfl ?_
          intro K hK
          unfold Oper.wp
          go_simp
          refine (writeA a Y q1 v1 X X0 _ (unhide HJ).r (unhide HWX) (unhide HS).s).mono ?_
          rintro e wn ⟨a5, ts5, rfl, ho, hb⟩
          have HOX := hide (OwnIm.base ho (unhide HB).size)
          replace HVC := hide ((unhide HVC).below hb)
          replace HB := hide (fr (unhide HB) hb)
          clear ho hb
          refine hK _ _ ?_
          clear hK K
          refine ord_val (.tuple #[imV a5 X, .int .i64 X0]) rfl rfl (fun W => by go_simp) ?_
          refine ord_val (imV a5 X) rfl rfl (fun W => by go_simp) ?_
          refine ord_val (.int .i64 X0) rfl rfl (fun W => by go_simp) ?_
          obtain ⟨z0, z1, z2, z3⟩ := (unhide HVC).cells
          obtain ⟨f0, f1, f2, f3⟩ := (unhide HVC).free
          have HVF := hide ((((unhide HVC).set0 (.slice a5.ro X.refs.length a5.rc)).set1 (.slice a5.tq X.table.length a5.tc)).set2 (.slice a5.so X.snaps.length a5.sc) |>.set3 (.slice a5.dq X.data.length a5.dc))
          have HOF := hide ((unhide HOX).putOther (unhide HVC) a5 X)
          have HBF := hide (belowPut (unhide HB) (unhide HCL) a5 X)
          unfold putI at HBF HOF
          refine ord_alone rfl rfl ?_
          intro K hK
          unfold Oper.wp
          go_simp
          refine hK _ _ ?_
          clear hK K z0 z1 z2 z3 f0 f1 f2 f3
          refine ord_val (.int .i64 X0) rfl rfl (fun W => by go_simp) ?_
          refine ord_end ?_
          refine tree_done (by kernel_rfl) ?_
          go_wp2_with fail
          go_meet
          exact ⟨C, .int .i64 X0, a5, X, ts5, rfl, rfl, HXJ, HVF, HOF, HBF⟩
      case rest =>
        obtain ⟨C, zz, a5, X6, ts5, rfl, rfl, HXJ6, HVF, HOF, HBF⟩ := hcut
        rename World => wx
        have HYX := hide ((unhide HY).v.below (unhide HBF))
        obtain ⟨c0, c1, c2, c3⟩ := (unhide HVF).cells
        obtain ⟨d0, d1, d2, d3⟩ := (unhide HYX).cells
        obtain ⟨z0, z1, z2, z3⟩ := (unhide HYX).free
        have HYN : Hid (ImA (putI wx yy a5 X6) yy a5 X6) := hide (ImA.put (unhide HYX) (unhide HOF) (unhide HXJ6).r)
        have HBN : Hid (Below B7 W7 (putI wx yy a5 X6)) := hide (by
          have hb := fr (unhide HWB) (unhide HBF)
          have := belowPut hb (C := yy) (by rw [unhide HYB, unhide HBQ]; exact Nat.le_refl _) a5 X6
          rw [← unhide HBQ] at this
          exact this)
        unfold putI at HYN HBN
        clear HY HVF HOF HBF HYX HWB HBW HW HAT1 HAT2 HWX
        go_wp2
        rw [unhide HYB] at HYN HBN ⊢
        go_roundw
        case rel => exact ⟨k + 1, a5, X6, by omega, by go_num, HXJ6, HYN, HBN⟩
        case measure => simp [intOf]; omega
    · have hk6 : k = 6 := by omega
      clear hlt hk
      subst hk6
      have HBW := hide (fr (unhide HB7) (unhide HWB))
      obtain ⟨q, ⟨hq0, hq1⟩, hat1⟩ := at_told bo m cb 7 13 wr hm' (by omega) (by omega) (by omega) (by omega) ((unhide HCS).below (unhide HBW))
      obtain ⟨q1, rfl⟩ := Int.eq_ofNat_of_zero_le hq0
      have hq12 : q1 ≤ 12 := by omega
      have HAT1 := hide hat1
      obtain ⟨R, HR⟩ : ∃ R, Hid (R = imResize Y q1) := ⟨_, hide rfl⟩
      have HJR : Hid (SnJ M R) := hide (by rw [unhide HR]; exact (unhide HJ).resize hq12)
      obtain ⟨Z, hrv, hjz, hvz⟩ := (unhide HJR).revert (unhide HM)
      obtain ⟨D, hdl, hdr, hdg⟩ := hjz.delete (unhide HM) hvz
      have HRV := hide hrv
      have HJZ := hide hjz
      have HDL := hide hdl
      have HDR := hide hdr
      obtain ⟨G, HG⟩ : ∃ G, Hid (G = gsOf M) := ⟨_, hide rfl⟩
      have HGD : Hid (G = gsOf D) := hide (by rw [unhide HG, hdg])
      have HGR : Hid (GsR G) := hide (by rw [unhide HG]; exact gsOf_bd (unhide HM).r)
      obtain ⟨L, HLL⟩ : ∃ L, Hid (L = nmL M ++ [kept]) := ⟨_, hide rfl⟩
      have HNZ : Hid (snA Z = (L, 0)) := hide (by rw [unhide HLL]; exact hjz.names)
      clear hat1 hq0 hq1 hrv hjz hvz hdl hdr hdg
      obtain ⟨yy, hyy⟩ : ∃ yy, yy = B7 := ⟨_, rfl⟩
      rw [← hyy] at HY ⊢
      have HYB : Hid (yy = B7) := hide hyy
      clear hyy
      go_upto_region 13 with fail
      have HB : Hid (Below wr.heap.size wr wr.drew) := hide (Below.refl _ _).drew
      have hS0 := ((unhide HY).v.below (unhide HB))
      refine wp_region_ord (fun w' => VarM w' yy 26 (.slice a.ro Y.refs.length a.rc) (.slice a.tq Y.table.length a.tc) (.slice a.so Y.snaps.length a.sc) (.slice a.dq Y.data.length a.dc)) [0, 1, 2] [(0, 0), (1, 0), (2, 2), (3, 3), (4, 4), (5, 4), (6, 4), (7, 3), (8, 4)] (by kernel_rfl) (by kernel_rfl) rfl (by kernel_rfl) ?_
      refine ord_read (.agg #[.slice a.ro Y.refs.length a.rc, .slice a.tq Y.table.length a.tc, .slice a.so Y.snaps.length a.sc, .slice a.dq Y.data.length a.dc]) rfl rfl hS0 (fun W hW => by obtain ⟨k0, k1, k2, k3⟩ := hW.cells; go_simp) ?_
      refine ord_read (.slice bo m cb) rfl rfl hS0 (fun W hW => by go_simp) ?_
      refine ord_held rfl rfl ?_
      intro K hK
      unfold Oper.wp
      go_simp
      refine (unhide HAT1 _ (unhide HB)).mono ?_
      rintro e w3 ⟨rfl, hb⟩
      have HB3 := hide (fr (unhide HB) hb)
      have HY3 := hide ((unhide HY).below (unhide HB3))
      clear hb
      refine hK _ _ (unhide HY3).v ?_
      clear hK K hS0 HB
      refine ord_alone rfl rfl ?_
      intro K hK
      unfold Oper.wp
      go_simp
      refine (resizeA a Y R q1 _ (unhide HJ).r hq12 (unhide HR) (unhide HY3).s).mono ?_
      rintro e w4 ⟨a5, ts5, rfl, ho, hb⟩
      have HO4 := hide ho
      have HB4 := hide (fr (unhide HB3) hb)
      have HV4 := hide ((unhide HY3).v.below hb)
      clear ho hb HB3 HY3
      refine hK _ _ ?_
      clear hK K
      refine ord_val (.tuple #[imV a5 R, .int .i64 0]) rfl rfl (fun W => by go_simp) ?_
      refine ord_val (imV a5 R) rfl rfl (fun W => by go_simp) ?_
      refine ord_val (.int .i64 0) rfl rfl (fun W => by go_simp) ?_
      obtain ⟨z0, z1, z2, z3⟩ := (unhide HV4).cells
      obtain ⟨f0, f1, f2, f3⟩ := (unhide HV4).free
      have HY5 : Hid (ImA (putI w4 yy a5 R) yy a5 R) := hide (ImA.put (unhide HV4) (unhide HO4) (unhide HJR).r)
      have HW5 : Hid (Below W7.heap.size W7 (putI w4 yy a5 R)) := hide (belowPut (fr (unhide HWB) (unhide HB4)) (C := yy) (by rw [unhide HYB, unhide HBQ]; exact Nat.le_refl _) a5 R)
      unfold putI at HY5 HW5
      refine ord_alone rfl rfl ?_
      intro K hK
      unfold Oper.wp
      go_simp
      refine hK _ _ ?_
      clear hK K z0 z1 z2 z3 f0 f1 f2 f3
      refine ord_val (.int .i64 0) rfl rfl (fun W => by go_simp) ?_
      refine ord_done ?_
      clear HO4 HV4 HB4 HY HW HWB HBW HAT1
      revert HW5
      revert HY5
      generalize ((((w4.setCell _ _).setCell _ _).setCell _ _).setCell _ _) = W9
      intro HY5 HW5
      -- back
      obtain ⟨c0, c1, c2, c3⟩ := (unhide HY5).v.cells
      go_wp2_with fail
      refine (revertA a5 R Z 0 _ (unhide HJR).r (unhide HRV) (unhide HY5).s).mono ?_
      rintro e w10 ⟨a6, ts6, rfl, ho, hb⟩
      have hb10 := fr hb (Joins.below_alloc1 w10 (.cells #[.slice a6.ro Z.refs.length a6.rc, .slice a6.tq Z.table.length a6.tc, .slice a6.so Z.snaps.length a6.sc, .slice a6.dq Z.data.length a6.dc] 26))
      have A6 := hide (ImA.new (ho.showsR (unhide HJZ).r))
      have HW10 := hide (fr (unhide HW5) hb10)
      clear ho hb hb10 c0 c1 c2 c3 HY5 HW5
      go_upto_region 15 with fail
      revert HW10
      revert A6
      generalize w10.heap.size = y6
      generalize (w10.alloc _) = W10
      intro A6 HW10
      -- gone
      obtain ⟨c0, c1, c2, c3⟩ := (unhide A6).v.cells
      go_wp2_with fail
      refine (deleteA a6 Z D 0 _ (unhide HJZ).r (unhide HDL) (unhide A6).s).mono ?_
      rintro e w11 ⟨a7, ts7, rfl, ho, hb⟩
      have hb11 := fr hb (Joins.below_alloc1 w11 (.cells #[.slice a7.ro D.refs.length a7.rc, .slice a7.tq D.table.length a7.tc, .slice a7.so D.snaps.length a7.sc, .slice a7.dq D.data.length a7.dc] 26))
      have A7 := hide (ImA.new (ho.showsR (unhide HDR)))
      have A611 := hide ((unhide A6).below hb11)
      have HW11 := hide (fr (unhide HW10) hb11)
      clear ho hb hb11 c0 c1 c2 c3 A6 HW10
      go_upto_region 16 with fail
      revert HW11
      revert A611
      revert A7
      generalize w11.heap.size = y7
      generalize (w11.alloc _) = W11
      intro A7 A611 HW11
      -- what was
      have A011 := hide ((unhide A07).below (unhide HW11))
      obtain ⟨c0, c1, c2, c3⟩ := (unhide A011).v.cells
      go_wp2_with fail
      refine (guestA a0 M G _ (unhide HM).r (unhide HG) (unhide A011).s).mono ?_
      rintro e w12 ⟨b1, us1, rfl, ho, hb⟩
      simp only at ho ⊢
      have hb12 := fr hb (Joins.below_alloc1 w12 (.cells #[.slice b1.vo G.vals.length b1.vc, .slice b1.so G.shots.length b1.sc] 35))
      have G1 := hide (GsA.new (ho.showsR (unhide HGR)))
      have A712 := hide ((unhide A7).below hb12)
      have A612 := hide ((unhide A611).below hb12)
      have HW12 := hide (fr (unhide HW11) hb12)
      clear ho hb hb12 c0 c1 c2 c3 A7 A611 HW11 A011
      go_upto_region 17 with fail
      revert HW12
      revert A612
      revert A712
      revert G1
      generalize w12.heap.size = y8
      generalize (w12.alloc _) = W12
      intro G1 A712 A612 HW12
      -- what is now
      obtain ⟨c0, c1, c2, c3⟩ := (unhide A712).v.cells
      go_wp2_with fail
      refine (guestA a7 D G _ (unhide HDR) (unhide HGD) (unhide A712).s).mono ?_
      rintro e w13 ⟨b2, us2, rfl, ho, hb⟩
      simp only at ho ⊢
      have hb13 := fr hb (Joins.below_alloc1 w13 (.cells #[.slice b2.vo G.vals.length b2.vc, .slice b2.so G.shots.length b2.sc] 35))
      have G2 := hide (GsA.new (ho.showsR (unhide HGR)))
      have G13 := hide ((unhide G1).below hb13)
      have A713 := hide ((unhide A712).below hb13)
      have A613 := hide ((unhide A612).below hb13)
      have HW13 := hide (fr (unhide HW12) hb13)
      clear ho hb hb13 c0 c1 c2 c3 A712 A612 HW12 G1
      go_upto_region 18 with fail
      revert HW13
      revert A613
      revert A713
      revert G13
      revert G2
      generalize w13.heap.size = y9
      generalize (w13.alloc _) = W13
      intro G2 G13 A713 A613 HW13
      -- the names
      obtain ⟨c0, c1, c2, c3⟩ := (unhide A613).v.cells
      go_wp2_with fail
      refine (namesA a6 Z L _ (unhide HJZ).r (unhide HNZ) (unhide A613).s).mono ?_
      rintro e w14 ⟨qo, qa, rfl, ho, hb⟩
      have HLN : Hid (L.length = M.snaps.length + 1 ∧ L[M.snaps.length]? = some kept) := hide (by
        rw [unhide HLL]
        refine ⟨by simp [nmL], ?_⟩
        rw [List.getElem?_append_right (by simp [nmL])]
        simp [nmL])
      have hsn := (unhide HM).r.few
      have hlen := (unhide HLN).1
      have hpos : 0 < L.length := by omega
      obtain ⟨g, cap, cur, hqe, _, _⟩ := own_form hpos (ho.row hpos)
      simp only [Value.slice.injEq, true_and] at hqe
      obtain ⟨rfl, rfl⟩ := hqe
      have hcn : w14.cell? ⟨g, M.snaps.length, none⟩ = some (.string kept) := by
        refine ((ho.row hpos).cellAt M.snaps.length (by omega)).trans ?_
        have := (unhide HLN).2
        simp [strV, this]
      have HCN : Hid (∀ W, Below w14.heap.size w14 W → W.cell? ⟨g, M.snaps.length, none⟩ = some (.string kept)) := hide (fun W hW => (hW.cell (p := ⟨g, M.snaps.length, none⟩) (World.block_lt_of_cell? _ _ hcn)).trans hcn)
      have G114 := hide ((unhide G13).below hb)
      have G214 := hide ((unhide G2).below hb)
      have A714 := hide ((unhide A713).below hb)
      have A614 := hide ((unhide A613).below hb)
      have HW14 := hide (fr (unhide HW13) hb)
      have HLE := hide hlen
      clear ho hb hcn hlen hpos c0 c1 c2 c3 G2 G13 A713 A613 HW13
      go_upto_region 19 with fail
      obtain ⟨c0, c1⟩ := (unhide G114).v.cells
      obtain ⟨d0, d1⟩ := (unhide G214).v.cells
      go_wp2_with fail
      refine (sameGuest_laws b1 b2 G G _ (GsBd.R (unhide HGR)).L (GsBd.R (unhide HGR)).L (unhide G114).s (unhide G214).s).mono ?_
      rintro e w15 ⟨rfl, hb⟩
      rw [gsEq_self]
      have HX15 := hide hb
      have A615 := hide ((unhide A614).below hb)
      have A715 := hide ((unhide A714).below hb)
      have HW15 := hide (fr (unhide HW14) hb)
      clear hb c0 c1 d0 d1 A614 A714 G114 G214
      obtain ⟨c0, c1, c2, c3⟩ := (unhide A615).v.cells
      go_wp2_with fail
      refine (okA a6 Z _ (unhide HJZ).r (unhide A615).s).mono ?_
      rintro e w16 ⟨rfl, hb⟩
      have HX16 := hide (fr (unhide HX15) hb)
      have A716 := hide ((unhide A715).below hb)
      have HW16 := hide (fr (unhide HW15) hb)
      clear hb c0 c1 c2 c3 A615 A715
      obtain ⟨c0, c1, c2, c3⟩ := (unhide A716).v.cells
      go_wp2_with fail
      refine (okA a7 D _ (unhide HDR) (unhide A716).s).mono ?_
      rintro e w17 ⟨rfl, hb⟩
      have HX17 := hide (fr (unhide HX16) hb)
      have HW17 := hide (fr (unhide HW16) hb)
      have A017 := hide ((unhide A07).below (unhide HW17))
      clear hb c0 c1 c2 c3 A716
      obtain ⟨c0, c1, c2, c3⟩ := (unhide A017).v.cells
      have hcn := unhide HCN _ (unhide HX17)
      have hbl : ((L.length : Int) == (M.snaps.length : Int) + 1) = true := by rw [unhide HLE]; simp
      have hwl : IntKind.i64.wrap ((M.snaps.length : Int) + 1) = (M.snaps.length : Int) + 1 := by rw [IntKind.wrap_i64]; omega
      have hil : (M.snaps.length : Int) < (L.length : Int) := by rw [unhide HLE]; omega
      clear HLE HLN HLL
      go_wp2
      go_ret
      exact ⟨rfl, fr (unhide HB7) (unhide HW17)⟩

end Go.Proofs.Ythnpooffhopnkac
