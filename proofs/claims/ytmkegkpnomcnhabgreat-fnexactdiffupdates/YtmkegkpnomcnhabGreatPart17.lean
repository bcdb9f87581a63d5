import Derived.Test.YtmkegkpnomcnhabGreatRows
import Derived.Test.YtmkegkpnomcnhabGreatPart1
import Derived.Test.YtmkegkpnomcnhabGreatPart3
import Derived.Test.YtmkegkpnomcnhabGreatPart4
import Derived.Test.YtmkegkpnomcnhabGreatPart5
import Derived.Test.YtmkegkpnomcnhabGreatPart6
import Derived.Test.YtmkegkpnomcnhabGreatPart12
import Derived.Test.YtmkegkpnomcnhabGreatPart13
import Derived.Test.YtmkegkpnomcnhabGreatPart14
import Derived.Test.YtmkegkpnomcnhabGreatPart16
import Derived.WalkKit
import Derived.WalkSpells
import Derived.KernelRfl
import Derived.Test.YtmkegkpnomcnhabGreatPart7
import Derived.Test.YtmkegkpnomcnhabGreatPart2
import Derived.Test.YtmkegkpnomcnhabGreatPart8
import Derived.LoopN
import Derived.BigQuiet
import Derived.Deep.QuietTactic
import Derived.Deep.CutRange
import Derived.Deep.RegionWith
import Derived.Deep.MidRow

/- The walk of laws.FnExactDiffUpdates, given what both functions answer. (Written by gens/lawdf.py.) -/
namespace Go.Proofs.YtmkegkpnomcnhabGreat
open Go.RowKit
set_option linter.unusedVariables false
set_option maxRecDepth 100000

/-- Two arguments' variables, and what they show. -/
structure ArgI (w W : World) (a b : Im4) (m n : Img) : Prop where
  va : VarM W w.heap.size 25 (.slice a.ro m.refs.length a.rc) (.slice a.tq m.table.length a.tc) (.slice a.so m.snaps.length a.sc) (.slice a.dq m.data.length a.dc)
  vb : VarM W (w.heap.size + 1) 25 (.slice b.ro n.refs.length b.rc) (.slice b.tq n.table.length b.tc) (.slice b.so n.snaps.length b.sc) (.slice b.dq n.data.length b.dc)
  sa : ImS W a m
  sb : ImS W b n
  k : Below w.heap.size w W
theorem ArgI.below {w W W' : World} {a b : Im4} {m n : Img} (h : ArgI w W a b m n) (hb : Below W.heap.size W W') : ArgI w W' a b m n := ⟨h.va.below hb, h.vb.below hb, h.sa.below hb, h.sb.below hb, fr h.k hb⟩
theorem ArgI.keep {w W W' : World} {a b : Im4} {m n : Img} {S : Nat → Prop} (h : ArgI w W a b m n) (hk : Keep S W W') (ha : ¬ S w.heap.size) (hb : ¬ S (w.heap.size + 1)) (hw : ∀ g, S g → w.heap.size ≤ g) (h1 : ImS w a m) (h2 : ImS w b n) : ArgI w W' a b m n :=
  have k2 : Below w.heap.size w W' := h.k.trans (hk.below h.k.size hw)
  ⟨(hk.block _ h.va.lt ha).trans h.va, (hk.block _ h.vb.lt hb).trans h.vb, h1.below k2, h2.below k2, k2⟩
theorem ArgI.keepIm {w W W' : World} {a b c : Im4} {m n o : Img} {B : Nat} {ts : List Value} (h : ArgI w W a b m n) (ho : OwnIm W B c o ts) (hB : w.heap.size ≤ B) (hk : Keep (ImB c o ts) W W') (h1 : ImS w a m) (h2 : ImS w b n) : ArgI w W' a b m n :=
  h.keep hk (ho.otherL h.va) (ho.otherL h.vb) (fun g hg => Nat.le_trans hB (ho.ge g hg).1) h1 h2

set_option maxHeartbeats 12800000 in
theorem lawImDiffUpdates (a b : Im4) (m n : Img) (R : List Up × Int) (w : World) (hLa : ImL m) (hLb : ImL n) (hca : ImS w a m) (hcb : ImS w b n)
    (hn : R.1.length ≤ 1000 ∧ ∀ s ∈ R.1, s.data.size ≤ maxLen)
    (hspec : ∀ (c d : Im4) (W : World), ImS W c m → ImS W d n → Calls Tryz.prog 14 #[imV c m, imV d n] W fun e w' => AnsU W w' e R)
    (himpl : ∀ (c d : Im4) (W : World), ImS W c m → ImS W d n → Calls Tryz.prog 15 #[imV c m, imV d n] W fun e w' => AnsU W w' e R) :
    Calls Tryz.prog 4 #[imV a m, imV b n] w fun e w' => e = .returned (.bool true) ∧ Below w.heap.size w w' := by
  have HK := hide (Joins.below_alloc2 w (.cells #[.slice a.ro m.refs.length a.rc, .slice a.tq m.table.length a.tc, .slice a.so m.snaps.length a.sc, .slice a.dq m.data.length a.dc] 25) (.cells #[.slice b.ro n.refs.length b.rc, .slice b.tq n.table.length b.tc, .slice b.so n.snaps.length b.sc, .slice b.dq n.data.length b.dc] 25))
  have HA : Hid (ArgI w ((w.alloc (.cells #[.slice a.ro m.refs.length a.rc, .slice a.tq m.table.length a.tc, .slice a.so m.snaps.length a.sc, .slice a.dq m.data.length a.dc] 25)).alloc (.cells #[.slice b.ro n.refs.length b.rc, .slice b.tq n.table.length b.tc, .slice b.so n.snaps.length b.sc, .slice b.dq n.data.length b.dc] 25)) a b m n) := hide ⟨(VarM.new w 25 (.slice a.ro m.refs.length a.rc) (.slice a.tq m.table.length a.tc) (.slice a.so m.snaps.length a.sc) (.slice a.dq m.data.length a.dc)).below (Joins.below_alloc1 _ _), (VarM.new (w.alloc (.cells #[.slice a.ro m.refs.length a.rc, .slice a.tq m.table.length a.tc, .slice a.so m.snaps.length a.sc, .slice a.dq m.data.length a.dc] 25)) 25 (.slice b.ro n.refs.length b.rc) (.slice b.tq n.table.length b.tc) (.slice b.so n.snaps.length b.sc) (.slice b.dq n.data.length b.dc)).at (by simp), hca.below (unhide HK), hcb.below (unhide HK), unhide HK⟩
  have HCA := hide hca
  have HCB := hide hcb
  have HLA := hide hLa
  have HLB := hide hLb
  have HSP := hide hspec
  have HIM := hide himpl
  have HZT := hide hn.2
  have hn1 := hn.1
  have HZA : Hid (∀ s ∈ m.snaps, s.name.size ≤ maxLen ∧ s.table.length ≤ maxLen) := hide (fun s hs => by obtain ⟨j, hj, rfl⟩ := List.mem_iff_getElem.1 hs; obtain ⟨_, _, _, _, _, _, _, _, h1, h2⟩ := hca.s j hj; exact ⟨h1, h2⟩)
  have HZB : Hid (∀ s ∈ n.snaps, s.name.size ≤ maxLen ∧ s.table.length ≤ maxLen) := hide (fun s hs => by obtain ⟨j, hj, rfl⟩ := List.mem_iff_getElem.1 hs; obtain ⟨_, _, _, _, _, _, _, _, h1, h2⟩ := hcb.s j hj; exact ⟨h1, h2⟩)
  clear hca hcb hLa hLb hspec himpl hn
  go_enter Tryz.func4, Tryz.ntmps4
  go_upto_region 2 with fail
  revert HA
  revert HK
  generalize ((w.alloc _).alloc _) = W0
  intro HK HA
  clear HK
  obtain ⟨c0, c1, c2, c3⟩ := (unhide HA).va.cells
  go_wp2_with fail
  refine (szImage_any a m 1048576 _ (unhide HLA).r (unhide HLA).t (unhide HLA).s (unhide HLA).d (by omega) (by omega) (unhide HA).sa).mono ?_
  rintro e w1 ⟨r, rfl, hr0, hr1, hr2, hb⟩
  have HA1 := hide ((unhide HA).below hb)
  clear hb c0 c1 c2 c3 HA
  by_cases hneg : r < 0
  · go_wp2
    go_ret
    exact ⟨rfl, (unhide HA1).k⟩
  have HBA : Hid (ImBd m) := hide (ImBd.of (by have := hr2 (by omega); omega))
  clear hr2
  obtain ⟨c0, c1, c2, c3⟩ := (unhide HA1).vb.cells
  go_wp2_with fail
  refine (szImage_any b n r _ (unhide HLB).r (unhide HLB).t (unhide HLB).s (unhide HLB).d (by omega) (by omega) (unhide HA1).sb).mono ?_
  rintro e w2 ⟨r2, rfl, hq0, hq1, hq2, hb⟩
  have HA2 := hide ((unhide HA1).below hb)
  clear hb c0 c1 c2 c3 HA1
  by_cases hneg2 : r2 < 0
  · go_wp2
    go_ret
    exact ⟨rfl, (unhide HA2).k⟩
  have HBB : Hid (ImBd n) := hide (ImBd.of (by have := hq2 (by omega); omega))
  clear hq2
  have HKA := hide (imK_le (unhide HBA))
  have HKB := hide (imK_le (unhide HBB))
  -- the model's answer
  go_upto_region 8 with fail
  have HBD : Hid (Below w2.heap.size w2 w2.drew) := hide (Below.refl _ _).drew
  have hS0 := unhide HBD
  refine wp_region_ord (fun w' => Below w2.heap.size w2 w') [0, 1, 2, 3, 4, 5, 6, 7, 8, 9] [(0, 0), (2, 0), (1, 2), (3, 2), (4, 2), (5, 0), (6, 0), (7, 0), (8, 0), (9, 0)] (by kernel_rfl) (by kernel_rfl) rfl (by kernel_rfl) ?_
  refine ord_read (.agg #[.slice a.ro m.refs.length a.rc, .slice a.tq m.table.length a.tc, .slice a.so m.snaps.length a.sc, .slice a.dq m.data.length a.dc]) rfl rfl hS0 (fun W hW => by obtain ⟨k0, k1, k2, k3⟩ := ((unhide HA2).below hW).va.cells; go_simp) ?_
  refine ord_read (.agg #[.slice b.ro n.refs.length b.rc, .slice b.tq n.table.length b.tc, .slice b.so n.snaps.length b.sc, .slice b.dq n.data.length b.dc]) rfl rfl hS0 (fun W hW => by obtain ⟨k0, k1, k2, k3⟩ := ((unhide HA2).below hW).vb.cells; go_simp) ?_
  clear hS0
  refine ord_held rfl rfl ?_
  intro K hK
  unfold Oper.wp
  go_simp
  refine (toImage_B a m _ (unhide HBA) ((unhide HA2).below (unhide HBD)).sa).mono ?_
  rintro e u1a ⟨aP, tsP, rfl, hoP, hb⟩
  have HP := hide (hoP.shows (unhide HZA))
  have HB1 := hide (fr (unhide HBD) hb)
  clear hoP hb
  refine hK _ _ (unhide HB1) ?_
  clear hK K
  refine ord_held rfl rfl ?_
  intro K hK
  unfold Oper.wp
  go_simp
  refine (toImage_B b n _ (unhide HBB) ((unhide HA2).below (unhide HB1)).sb).mono ?_
  rintro e u2a ⟨aQ, tsQ, rfl, hoQ, hb⟩
  have HQ := hide (hoQ.shows (unhide HZB))
  have HP2 := hide ((unhide HP).below hb)
  have HB2 := hide (fr (unhide HB1) hb)
  clear hoQ hb
  refine hK _ _ (unhide HB2) ?_
  clear hK K
  refine ord_held rfl rfl ?_
  intro K hK
  unfold Oper.wp
  go_simp
  refine (unhide HSP aP aQ _ (unhide HP2) (unhide HQ)).mono ?_
  rintro e w3 ⟨qw, cw, rfl, ⟨hoR, hb⟩⟩
  have HW3 := hide hoR
  have HB3 := hide (fr (unhide HB2) hb)
  clear hoR hb
  refine hK _ _ (unhide HB3) ?_
  clear hK K
  refine ord_read (.tuple #[.slice qw R.1.length cw, .int .i64 R.2]) rfl rfl (unhide HB3) (fun W hW => by go_simp) ?_
  refine ord_read (.slice qw R.1.length cw) rfl rfl (unhide HB3) (fun W hW => by go_simp) ?_
  refine ord_read (.int .i64 R.2) rfl rfl (unhide HB3) (fun W hW => by go_simp) ?_
  refine ord_read (.slice qw R.1.length cw) rfl rfl (unhide HB3) (fun W hW => by go_simp) ?_
  refine ord_read (.int .i64 R.2) rfl rfl (unhide HB3) (fun W hW => by go_simp) ?_
  refine ord_done ?_
  have HA3 := hide ((unhide HA2).below (unhide HB3))
  clear HP HQ HP2 HB1 HB2 HB3 HBD HA2
  -- the arguments' copies
  obtain ⟨c0, c1, c2, c3⟩ := (unhide HA3).va.cells
  go_wp2_with fail
  refine (toImage_B a m _ (unhide HBA) (unhide HA3).sa).mono ?_
  rintro e w4 ⟨aX, tsX, rfl, hoX, hb4⟩
  have HW4 := hide ((unhide HW3).below (fr hb4 (Joins.below_alloc1 w4 (.cells #[.slice aX.ro m.refs.length aX.rc, .slice aX.tq m.table.length aX.tc, .slice aX.so m.snaps.length aX.sc, .slice aX.dq m.data.length aX.dc] 32))))
  have HA4 := hide ((unhide HA3).below (fr hb4 (Joins.below_alloc1 w4 (.cells #[.slice aX.ro m.refs.length aX.rc, .slice aX.tq m.table.length aX.tc, .slice aX.so m.snaps.length aX.sc, .slice aX.dq m.data.length aX.dc] 32))))
  have HX4 := hide (LwV.new w4 aX m hoX hb4.size)
  have HSX : Hid (w.heap.size ≤ w3.heap.size) := hide (unhide HA3).k.size
  clear hoX hb4 c0 c1 c2 c3 HA3 HW3
  go_upto_region 10 with fail
  revert HX4
  revert HA4
  revert HW4
  generalize (w4.alloc _) = W4
  generalize w4.heap.size = pX
  intro HW4 HA4 HX4
  obtain ⟨c0, c1, c2, c3⟩ := (unhide HA4).vb.cells
  go_wp2_with fail
  refine (toImage_B b n _ (unhide HBB) (unhide HA4).sb).mono ?_
  rintro e w5 ⟨aY, tsY, rfl, hoY, hb5⟩
  have HW5 := hide ((unhide HW4).below (fr hb5 (Joins.below_alloc1 w5 (.cells #[.slice aY.ro n.refs.length aY.rc, .slice aY.tq n.table.length aY.tc, .slice aY.so n.snaps.length aY.sc, .slice aY.dq n.data.length aY.dc] 32))))
  have HA5 := hide ((unhide HA4).below (fr hb5 (Joins.below_alloc1 w5 (.cells #[.slice aY.ro n.refs.length aY.rc, .slice aY.tq n.table.length aY.tc, .slice aY.so n.snaps.length aY.sc, .slice aY.dq n.data.length aY.dc] 32))))
  have HX5 := hide ((unhide HX4).below (fr hb5 (Joins.below_alloc1 w5 (.cells #[.slice aY.ro n.refs.length aY.rc, .slice aY.tq n.table.length aY.tc, .slice aY.so n.snaps.length aY.sc, .slice aY.dq n.data.length aY.dc] 32))))
  have HY5 := hide (LwV.new w5 aY n hoY hb5.size)
  have HXY : Hid (∀ g, ImB aY n tsY g → ¬ ImB aX m tsX g) := hide (fun g h1 h2 => by
    have k1 := (hoY.ge g h1).1
    have k2 := ((unhide HX4).o.ge g h2).2
    omega)
  have HSY : Hid (w.heap.size ≤ W4.heap.size) := hide (unhide HA4).k.size
  clear hoY hb5 c0 c1 c2 c3 HA4 HW4 HX4
  go_upto_region 11 with fail
  revert HY5
  revert HX5
  revert HA5
  revert HW5
  generalize (w5.alloc _) = W5
  generalize w5.heap.size = pY
  intro HW5 HA5 HX5 HY5
  -- the program's answer
  obtain ⟨c0, c1, c2, c3⟩ := (unhide HX5).v.cells
  obtain ⟨d0, d1, d2, d3⟩ := (unhide HY5).v.cells
  go_wp2_with fail
  refine (unhide HIM aX aY _ ((unhide HX5).o.shows (unhide HZA)) ((unhide HY5).o.shows (unhide HZB))).mono ?_
  rintro e w6 ⟨qg, cg, rfl, ⟨hg6, hb⟩⟩
  have HG6 := hide hg6
  have HW6 := hide ((unhide HW5).below hb)
  have HAGE : Hid (∀ g, Own (.slice qw R.1.length cw) g → ¬ Own (.slice qg R.1.length cg) g) := hide (fun g h1 h2 => by
    have k1 := ((unhide HW5).ge g h1).2
    have k2 := (hg6.ge g h2).1
    omega)
  have HGL : Hid (∀ g, Own (.slice qg R.1.length cg) g → w.heap.size ≤ g) := hide (fun g h2 => Nat.le_trans (unhide HA5).k.size (hg6.ge g h2).1)
  have HA6 := hide ((unhide HA5).below hb)
  have HX6 := hide ((unhide HX5).below hb)
  have HY6 := hide ((unhide HY5).below hb)
  clear hb hg6 c0 c1 c2 c3 d0 d1 d2 d3 HX5 HY5 HA5 HW5
  have bcd : (R.2 != R.2) = false := by simp
  go_wp2_with fail
  refine (eqUpdateS_same qg qw cg cw R.1 _ (by omega) (ownUps (unhide HG6) (unhide HZT)) (ownUps (unhide HW6) (unhide HZT))).mono ?_
  rintro e w7 ⟨rfl, hb⟩
  have HG7 := hide ((unhide HG6).below hb)
  have HW7 := hide ((unhide HW6).below hb)
  have HA7 := hide ((unhide HA6).below hb)
  have HX7 := hide ((unhide HX6).below hb)
  have HY7 := hide ((unhide HY6).below hb)
  clear hb HG6 HW6 HA6 HX6 HY6
  go_upto_region 14 with fail
  have HBD : Hid (Below w7.heap.size w7 w7.drew) := hide (Below.refl _ _).drew
  have hS0 := unhide HBD
  refine wp_region_ord (fun w' => Below w7.heap.size w7 w') [0, 1, 2, 3, 4] [(0, 0), (1, 0), (2, 2), (3, 2), (4, 0)] (by kernel_rfl) (by kernel_rfl) rfl (by kernel_rfl) ?_
  refine ord_read (.agg #[.slice aX.ro m.refs.length aX.rc, .slice aX.tq m.table.length aX.tc, .slice aX.so m.snaps.length aX.sc, .slice aX.dq m.data.length aX.dc]) rfl rfl hS0 (fun W hW => by obtain ⟨k0, k1, k2, k3⟩ := ((unhide HX7).below hW).v.cells; go_simp) ?_
  refine ord_read (.agg #[.slice a.ro m.refs.length a.rc, .slice a.tq m.table.length a.tc, .slice a.so m.snaps.length a.sc, .slice a.dq m.data.length a.dc]) rfl rfl hS0 (fun W hW => by obtain ⟨k0, k1, k2, k3⟩ := ((unhide HA7).below hW).va.cells; go_simp) ?_
  clear hS0
  refine ord_held rfl rfl ?_
  intro K hK
  unfold Oper.wp
  go_simp
  refine (toImage_B a m _ (unhide HBA) ((unhide HA7).below (unhide HBD)).sa).mono ?_
  rintro e ub ⟨aP, tsP, rfl, hoP, hb⟩
  have HP := hide (hoP.shows (unhide HZA))
  have HB1 := hide (fr (unhide HBD) hb)
  clear hoP hb
  refine hK _ _ (unhide HB1) ?_
  clear hK K
  refine ord_held rfl rfl ?_
  intro K hK
  unfold Oper.wp
  go_simp
  refine (eqImage_B aX aP m _ (unhide HBA) (((unhide HX7).below (unhide HB1)).o.shows (unhide HZA)) (unhide HP)).mono ?_
  rintro e w8 ⟨rfl, hb⟩
  have HB2 := hide (fr (unhide HB1) hb)
  clear hb
  refine hK _ _ (unhide HB2) ?_
  clear hK K
  refine ord_read (.bool false) rfl rfl (unhide HB2) (fun W hW => by go_simp) ?_
  refine ord_done ?_
  have HG8 := hide ((unhide HG7).below (unhide HB2))
  have HW8 := hide ((unhide HW7).below (unhide HB2))
  have HA8 := hide ((unhide HA7).below (unhide HB2))
  have HX8 := hide ((unhide HX7).below (unhide HB2))
  have HY8 := hide ((unhide HY7).below (unhide HB2))
  clear HP HB1 HB2 HBD HG7 HW7 HA7 HX7 HY7
  go_upto_region 16 with fail
  have HBD : Hid (Below w8.heap.size w8 w8.drew) := hide (Below.refl _ _).drew
  have hS0 := unhide HBD
  refine wp_region_ord (fun w' => Below w8.heap.size w8 w') [0, 1, 2, 3, 4] [(0, 0), (1, 0), (2, 2), (3, 2), (4, 0)] (by kernel_rfl) (by kernel_rfl) rfl (by kernel_rfl) ?_
  refine ord_read (.agg #[.slice aY.ro n.refs.length aY.rc, .slice aY.tq n.table.length aY.tc, .slice aY.so n.snaps.length aY.sc, .slice aY.dq n.data.length aY.dc]) rfl rfl hS0 (fun W hW => by obtain ⟨k0, k1, k2, k3⟩ := ((unhide HY8).below hW).v.cells; go_simp) ?_
  refine ord_read (.agg #[.slice b.ro n.refs.length b.rc, .slice b.tq n.table.length b.tc, .slice b.so n.snaps.length b.sc, .slice b.dq n.data.length b.dc]) rfl rfl hS0 (fun W hW => by obtain ⟨k0, k1, k2, k3⟩ := ((unhide HA8).below hW).vb.cells; go_simp) ?_
  clear hS0
  refine ord_held rfl rfl ?_
  intro K hK
  unfold Oper.wp
  go_simp
  refine (toImage_B b n _ (unhide HBB) ((unhide HA8).below (unhide HBD)).sb).mono ?_
  rintro e uc ⟨aP, tsP, rfl, hoP, hb⟩
  have HP := hide (hoP.shows (unhide HZB))
  have HB1 := hide (fr (unhide HBD) hb)
  clear hoP hb
  refine hK _ _ (unhide HB1) ?_
  clear hK K
  refine ord_held rfl rfl ?_
  intro K hK
  unfold Oper.wp
  go_simp
  refine (eqImage_B aY aP n _ (unhide HBB) (((unhide HY8).below (unhide HB1)).o.shows (unhide HZB)) (unhide HP)).mono ?_
  rintro e w9 ⟨rfl, hb⟩
  have HB2 := hide (fr (unhide HB1) hb)
  clear hb
  refine hK _ _ (unhide HB2) ?_
  clear hK K
  refine ord_read (.bool false) rfl rfl (unhide HB2) (fun W hW => by go_simp) ?_
  refine ord_done ?_
  have HG9 := hide ((unhide HG8).below (unhide HB2))
  have HW9 := hide ((unhide HW8).below (unhide HB2))
  have HA9 := hide ((unhide HA8).below (unhide HB2))
  have HX9 := hide ((unhide HX8).below (unhide HB2))
  have HY9 := hide ((unhide HY8).below (unhide HB2))
  clear HP HB1 HB2 HBD HG8 HW8 HA8 HX8 HY8
  -- marks of the copies
  obtain ⟨c0, c1, c2, c3⟩ := (unhide HX9).v.cells
  go_wp2_with fail
  refine (markImage_C aX m tsX 1 _ _ (unhide HBA) (by omega) (by omega) (unhide HX9).o).mono ?_
  rintro e w10 ⟨rfl, _, hk⟩
  have HG10 := hide ((unhide HG9).keep hk ((unhide HX9).o.noUps (unhide HG9)))
  have HW10 := hide ((unhide HW9).keep hk ((unhide HX9).o.noUps (unhide HW9)))
  have HY10 := hide ((unhide HY9).keep (unhide HX9) hk (unhide HXY))
  have HA10 := hide ((unhide HA9).keepIm (unhide HX9).o (unhide HSX) hk (unhide HCA) (unhide HCB))
  clear hk c0 c1 c2 c3 HG9 HW9 HA9 HX9 HY9
  obtain ⟨c0, c1, c2, c3⟩ := (unhide HY10).v.cells
  go_wp2_with fail
  refine (markImage_C aY n tsY (1 + imK m) _ _ (unhide HBB) (by omega) (by have := unhide HKA; omega) (unhide HY10).o).mono ?_
  rintro e w11 ⟨rfl, _, hk⟩
  have HG11 := hide ((unhide HG10).keep hk ((unhide HY10).o.noUps (unhide HG10)))
  have HW11 := hide ((unhide HW10).keep hk ((unhide HY10).o.noUps (unhide HW10)))
  have HA11 := hide ((unhide HA10).keepIm (unhide HY10).o (unhide HSY) hk (unhide HCA) (unhide HCB))
  clear hk c0 c1 c2 c3 HG10 HW10 HA10 HY10
  have hk1 : ¬ (((1 + imK m + imK n : Nat) : Int) < 0) := by omega
  go_wp2_with fail
  refine (eqUpdateS_same qg qw cg cw R.1 _ (by omega) (ownUps (unhide HG11) (unhide HZT)) (ownUps (unhide HW11) (unhide HZT))).mono ?_
  rintro e w12 ⟨rfl, hb⟩
  have HG12 := hide ((unhide HG11).below hb)
  have HW12 := hide ((unhide HW11).below hb)
  have HA12 := hide ((unhide HA11).below hb)
  clear hb HG11 HW11 HA11
  go_wp2_with fail
  refine (markUpdateS_any _ R.1.length 1 _ _ _ (by omega) (by omega) (by omega) (unhide HG12)).mono ?_
  rintro e w13 ⟨rfl, ho13, hk13⟩
  have HG13 := hide ho13
  have HW13 := hide ((unhide HW12).keep hk13 (unhide HAGE))
  have HA13 := hide ((unhide HA12).keep hk13 ((unhide HG12).other (unhide HA12).va (by decide)) ((unhide HG12).other (unhide HA12).vb (by decide)) (unhide HGL) (unhide HCA) (unhide HCB))
  clear ho13 hk13 HG12 HW12 HA12
  go_wp2_with fail
  refine (heldUpdateS_any _ R.1.length 1 _ _ (by omega) (by omega) (by omega) (unhide HG13)).mono ?_
  rintro e w14 ⟨rfl, hb⟩
  have HG14 := hide ((unhide HG13).below hb)
  have HW14 := hide ((unhide HW13).below hb)
  have HA14 := hide ((unhide HA13).below hb)
  clear hb HG13 HW13 HA13
  have hq1 : ¬ (((1 + 2 * R.1.length : Nat) : Int) < 0) := by omega
  go_upto_region 31 with fail
  have HBD : Hid (Below w14.heap.size w14 w14.drew) := hide (Below.refl _ _).drew
  have hS0 := unhide HBD
  refine wp_region_ord (fun w' => Below w14.heap.size w14 w') [0, 1, 2, 3, 4, 5, 6, 7, 8, 9] [(0, 0), (2, 0), (1, 2), (3, 2), (4, 2), (5, 0), (6, 0), (7, 0), (8, 0), (9, 0)] (by kernel_rfl) (by kernel_rfl) rfl (by kernel_rfl) ?_
  refine ord_read (.agg #[.slice a.ro m.refs.length a.rc, .slice a.tq m.table.length a.tc, .slice a.so m.snaps.length a.sc, .slice a.dq m.data.length a.dc]) rfl rfl hS0 (fun W hW => by obtain ⟨k0, k1, k2, k3⟩ := ((unhide HA14).below hW).va.cells; go_simp) ?_
  refine ord_read (.agg #[.slice b.ro n.refs.length b.rc, .slice b.tq n.table.length b.tc, .slice b.so n.snaps.length b.sc, .slice b.dq n.data.length b.dc]) rfl rfl hS0 (fun W hW => by obtain ⟨k0, k1, k2, k3⟩ := ((unhide HA14).below hW).vb.cells; go_simp) ?_
  clear hS0
  refine ord_held rfl rfl ?_
  intro K hK
  unfold Oper.wp
  go_simp
  refine (toImage_B a m _ (unhide HBA) ((unhide HA14).below (unhide HBD)).sa).mono ?_
  rintro e u1d ⟨aP, tsP, rfl, hoP, hb⟩
  have HP := hide (hoP.shows (unhide HZA))
  have HB1 := hide (fr (unhide HBD) hb)
  clear hoP hb
  refine hK _ _ (unhide HB1) ?_
  clear hK K
  refine ord_held rfl rfl ?_
  intro K hK
  unfold Oper.wp
  go_simp
  refine (toImage_B b n _ (unhide HBB) ((unhide HA14).below (unhide HB1)).sb).mono ?_
  rintro e u2d ⟨aQ, tsQ, rfl, hoQ, hb⟩
  have HQ := hide (hoQ.shows (unhide HZB))
  have HP2 := hide ((unhide HP).below hb)
  have HB2 := hide (fr (unhide HB1) hb)
  clear hoQ hb
  refine hK _ _ (unhide HB2) ?_
  clear hK K
  refine ord_held rfl rfl ?_
  intro K hK
  unfold Oper.wp
  go_simp
  refine (unhide HIM aP aQ _ (unhide HP2) (unhide HQ)).mono ?_
  rintro e w15 ⟨qh, ch, rfl, ⟨hoR, hb⟩⟩
  have HH15 := hide hoR
  have HB3 := hide (fr (unhide HB2) hb)
  clear hoR hb
  refine hK _ _ (unhide HB3) ?_
  clear hK K
  refine ord_read (.tuple #[.slice qh R.1.length ch, .int .i64 R.2]) rfl rfl (unhide HB3) (fun W hW => by go_simp) ?_
  refine ord_read (.slice qh R.1.length ch) rfl rfl (unhide HB3) (fun W hW => by go_simp) ?_
  refine ord_read (.int .i64 R.2) rfl rfl (unhide HB3) (fun W hW => by go_simp) ?_
  refine ord_read (.slice qh R.1.length ch) rfl rfl (unhide HB3) (fun W hW => by go_simp) ?_
  refine ord_read (.int .i64 R.2) rfl rfl (unhide HB3) (fun W hW => by go_simp) ?_
  refine ord_done ?_
  have HA15 := hide ((unhide HA14).below (unhide HB3))
  have HG15 := hide ((unhide HG14).below (unhide HB3))
  have HW15 := hide ((unhide HW14).below (unhide HB3))
  clear HP HQ HP2 HB1 HB2 HB3 HBD HA14 HG14 HW14
  go_wp2_with fail
  refine (eqUpdateS_same qh qw ch cw R.1 _ (by omega) (ownUps (unhide HH15) (unhide HZT)) (ownUps (unhide HW15) (unhide HZT))).mono ?_
  rintro e w16 ⟨rfl, hb⟩
  have HG16 := hide ((unhide HG15).below hb)
  have HB16 := hide (fr (unhide HA15).k hb)
  clear hb
  go_wp2_with fail
  refine (heldUpdateS_any _ R.1.length 1 _ _ (by omega) (by omega) (by omega) (unhide HG16)).mono ?_
  rintro e w17 ⟨rfl, hb⟩
  have HB17 := hide (fr (unhide HB16) hb)
  clear hb
  go_wp2
  go_ret
  exact ⟨rfl, unhide HB17⟩

end Go.Proofs.YtmkegkpnomcnhabGreat

/- Contracts of the model's l08Encode, EncodeRefs. -/
namespace Go.Proofs.YtmkegkpnomcnhabGreat
open Go.RowKit
set_option linter.unusedVariables false
set_option maxRecDepth 100000

theorem hx_in (xs : List Int) (i : Nat) (h : ∀ j, 0 ≤ xs.getD j 0 ∧ xs.getD j 0 ≤ 15) : ∀ m, 0 ≤ hx6 xs i m ∧ hx6 xs i m < 16 ^ m
  | 0 => by simp [hx6]
  | m + 1 => by
    obtain ⟨h0, h1⟩ := hx_in xs i h m
    obtain ⟨g0, g1⟩ := h (i + (5 - m))
    rw [hx6, show (16 : Int) ^ (m + 1) = 16 ^ m * 16 from Int.pow_succ 16 m]
    generalize (16 : Int) ^ m = P at *
    omega
theorem hx_le {xs : List Int} (hb : ctB xs = true) (i m : Nat) (hm : m ≤ 5) : 0 ≤ hx6 xs i m ∧ hx6 xs i m ≤ 1048576 := by
  obtain ⟨h0, h1⟩ := hx_in xs i (ctB_getD hb) m
  have hp : (16 : Int) ^ m ≤ 1048576 := by
    match m, hm with
    | 0, _ => decide
    | 1, _ => decide
    | 2, _ => decide
    | 3, _ => decide
    | 4, _ => decide
    | 5, _ => decide
  omega
theorem ctNs_get (xs : List Int) (q : Nat) (h : q < (ctNs xs).length) : (ctNs xs)[q] = lo6 xs (6 * q) 6 := by
  have h4 : q < 4 := h
  match q, h4 with
  | 0, _ => rfl
  | 1, _ => rfl
  | 2, _ => rfl
  | 3, _ => rfl
theorem take_snoc {xs : List Int} {q : Nat} {n : Int} (h : q < xs.length) (e : n = xs[q]) : xs.take (q + 1) = xs.take q ++ [n] := by
  rw [e, List.take_succ_eq_append_getElem h]

set_option maxHeartbeats 3200000 in
theorem l08Encode_any (ao : Option Addr) (cap : Nat) (xs : List Int) (w : World) (hb : ctB xs = true) (hc : Is w ao xs) :
    Calls Tryz.prog 37 #[.slice ao xs.length cap] w fun e w' => e = .returned (.string (encT xs)) ∧ Below w.heap.size w w' := by
  obtain ⟨j0, hj, hy0, hy1, hy2⟩ := info_parts infoM
  have HCB := hide hb
  have HL := hide (ctB_len hb)
  have HC := hide hc
  have HA : Hid (Below w.heap.size w (w.alloc (.cells #[] 3))) := hide (Joins.below_alloc1 _ _)
  clear hb hc
  go_enter Tryz.func37, Tryz.ntmps37
  go_wp2
  go_loopw [3, 4] (fun o i wr => ∃ (q : Nat) (qo : Option Addr) (qa : Nat), q ≤ 4 ∧ i = .int .i64 (6 * (q : Int)) ∧ o = .slice qo q qa ∧ Hid (OwnR wr w.heap.size 3 1 (.slice qo q qa) q (intV ((ctNs xs).take q))) ∧ Hid (Below w.heap.size w wr)) (fun _ i _ => 24 - (intOf i).toNat)
  case atStart => exact ⟨0, _, _, Nat.zero_le _, rfl, rfl, hide (.inl ⟨rfl, rfl, _, rfl⟩), HA⟩
  case round =>
    obtain ⟨q, qo, qa, hq, rfl, rfl, HO, HB⟩ := hrel
    by_cases hlt : q < 4
    · have hlt' : 6 * (q : Int) < 24 := by omega
      go_wp2
      go_loopw [5, 6] (fun n j wq => ∃ m : Nat, m ≤ 6 ∧ j = .int .i64 (5 - (m : Int)) ∧ n = .int .i64 (hx6 xs (6 * q) m) ∧ Hid (OwnR wq w.heap.size 3 1 (.slice qo q qa) q (intV ((ctNs xs).take q))) ∧ Hid (Below w.heap.size w wq)) (fun _ j _ => (intOf j + 1).toNat)
      case atStart => exact ⟨0, by omega, rfl, rfl, HO, HB⟩
      case round =>
        clear HO HB
        obtain ⟨m, hm, rfl, rfl, HO, HB⟩ := hrel
        by_cases hm5 : m ≤ 5
        · obtain ⟨hh0, hh1⟩ := hx_le (unhide HCB) (6 * q) m hm5
          have hk : 6 * q + (5 - m) < xs.length := by rw [unhide HL]; omega
          have hji : 6 * (q : Int) + (5 - (m : Int)) = ((6 * q + (5 - m) : Nat) : Int) := by omega
          have HS : Hid (hx6 xs (6 * q) (m + 1) = 16 * hx6 xs (6 * q) m + xs[6 * q + (5 - m)]) := hide (by rw [hx6]; simp [List.getD, hk])
          obtain ⟨g0, g1⟩ := ctB_at (unhide HCB) _ hk
          obtain ⟨b, off, rfl, hcl⟩ := (unhide HC).below (unhide HB) _ hk
          have hjl : ((6 * q + (5 - m) : Nat) : Int) < (xs.length : Int) := by omega
          generalize 6 * q + (5 - m) = J at *
          generalize hx6 xs (6 * q) m = V at *
          go_wp2
          go_roundw
          case rel => exact ⟨m + 1, by omega, by go_num, by rw [unhide HS], HO, HB⟩
          case measure => simp [intOf]; omega
        · have HE : Hid (hx6 xs (6 * q) m = (ctNs xs)[q]'(show q < 4 from hlt)) := hide (by rw [show m = 6 by omega, hx_lo]; exact (ctNs_get xs q hlt).symm)
          have HOA := hide ((unhide HO).below (Joins.below_alloc1 _ (.cells #[.int .i64 (hx6 xs (6 * q) m)] 3)))
          have HBA := hide (fr (unhide HB) (Joins.below_alloc1 _ (.cells #[.int .i64 (hx6 xs (6 * q) m)] 3)))
          have HSZ := hide (unhide HB).size
          go_wp2_with (at_builtin; refine wpList_append_one rfl _ _ 22 rfl w.heap.size 3 j0 (.int .i64 0) 1 8 Tryz.underlying22 hj hy0 hy1 hy2 rfl (by omega) qo q qa (intV ((ctNs xs).take q)) rfl (unhide HOA) (by have := unhide HSZ; simp; omega) ⟨wr.heap.size, 0, none⟩ _ [.int .i64 (hx6 xs (6 * q) m)] rfl rfl (byte_news wr _ _) (int_one _) (by unfold maxLen; omega) (by omega) ?_; intro g2 cap2 wA hoA hkA; have HSF := hide (And.intro hoA (keep_below (unhide HBA) (unhide HOA) (Nat.le_refl _) hkA)); clear hoA hkA)
          go_roundw
          case rel => exact ⟨q + 1, _, _, by omega, by go_num, rfl, hide (.inr ⟨by omega, by rw [take_snoc (show q < 4 from hlt) (unhide HE), intV_snoc]; exact (unhide HSF).1⟩), hide (unhide HSF).2⟩
          case measure => simp [intOf]; omega
    · have hq4 : q = 4 := by omega
      subst hq4
      have HT : Hid ((ctNs xs).take 4 = ctNs xs) := hide rfl
      have HON : Hid (Is wr qo (ctNs xs)) := hide (by have := unhide HO; rw [unhide HT] at this; exact ownRN (xs := ctNs xs) this)
      have HIN : Hid (∀ j (h : j < (ctNs xs).length), 0 ≤ (ctNs xs)[j] ∧ (ctNs xs)[j] ≤ 2147483647) := hide (fun j h => by have := ctNs_in (unhide HCB) j h; omega)
      go_wp2_with fail
      refine (l02Seal_any 2 qo qa (ctNs xs) _ (by omega) (show 4 ≤ 16 by omega) (unhide HIN) (unhide HON)).mono ?_
      rintro e w1 ⟨rfl, hb⟩
      have HBE := hide (fr (unhide HB) hb)
      clear hb
      go_wp2
      go_ret
      exact ⟨rfl, unhide HBE⟩

end Go.Proofs.YtmkegkpnomcnhabGreat

/- Counts out of their record, plainly. -/
namespace Go.Proofs.YtmkegkpnomcnhabGreat
open Go.RowKit
set_option linter.unusedVariables false
set_option maxRecDepth 100000

/-- The first counts of a number, and what is left of it. -/
def sxT (p : Int) (m : Nat) : List Int := (List.range m).map fun i => p / 16 ^ i % 16
theorem sxT_len (p : Int) (m : Nat) : (sxT p m).length = m := by simp [sxT]
theorem sxT_succ (p : Int) (m : Nat) : sxT p (m + 1) = sxT p m ++ [p / 16 ^ m % 16] := by simp [sxT, List.range_succ]
theorem rest_succ (p : Int) (m : Nat) : p / 16 ^ m / 16 = p / 16 ^ (m + 1) := by
  rw [show (16 : Int) ^ (m + 1) = 16 ^ m * 16 from Int.pow_succ 16 m, Int.ediv_ediv_of_nonneg (by exact Int.le_of_lt (Int.pow_pos (by omega)))]
theorem rest_in {p : Int} (h0 : 0 ≤ p) (h1 : p ≤ 2147483647) : ∀ m, 0 ≤ p / 16 ^ m ∧ p / 16 ^ m ≤ 2147483647
  | 0 => by simpa using ⟨h0, h1⟩
  | m + 1 => by
    obtain ⟨g0, g1⟩ := rest_in h0 h1 m
    rw [← rest_succ]
    generalize p / 16 ^ m = V at *
    omega
/-- The counts of the first numbers. -/
def sxA (ns : List Int) (i : Nat) : List Int := (ns.take i).flatMap fun p => sxT p 6
theorem sxA_len (ns : List Int) : ∀ i, i ≤ ns.length → (sxA ns i).length = 6 * i
  | 0, _ => by simp [sxA]
  | i + 1, h => by
    have := sxA_len ns i (by omega)
    unfold sxA at *
    rw [List.take_succ_eq_append_getElem (by omega), List.flatMap_append, List.length_append, this]
    simp [sxT_len]; omega
theorem sxA_succ {ns : List Int} {i : Nat} (h : i < ns.length) : sxA ns i ++ sxT ns[i] 6 = sxA ns (i + 1) := by
  unfold sxA
  rw [List.take_succ_eq_append_getElem h, List.flatMap_append]; simp
/-- A list of 24: what is there, and zeros behind it. -/
def pad24 (xs : List Int) : List Int := xs ++ List.replicate (24 - xs.length) 0
theorem pad_len {xs : List Int} (h : xs.length ≤ 24) : (pad24 xs).length = 24 := by simp [pad24]; omega
theorem pad_nil : pad24 [] = zero24 := rfl
theorem pad_full {xs : List Int} (h : xs.length = 24) : pad24 xs = xs := by simp [pad24, h]
theorem pad_set {xs : List Int} (h : xs.length < 24) (n : Int) : (pad24 xs).set xs.length n = pad24 (xs ++ [n]) := by
  unfold pad24
  rw [List.set_append, if_neg (by omega), Nat.sub_self, List.append_assoc]
  obtain ⟨k, hk⟩ : ∃ k, 24 - xs.length = k + 1 := ⟨24 - xs.length - 1, by omega⟩
  rw [hk, List.replicate_succ, List.set_cons_zero, List.length_append, show 24 - (xs.length + [n].length) = k by simp; omega]
  rfl
/-- What a text says of counts. -/
def cdN (p : Int) : Bool := decide (p / 16 ^ 6 = 0)
def cdB (s : ByteArray) : Bool := openB s 2 && decide ((openL s 2).length = 4) && (openL s 2).all cdN
def cdL (s : ByteArray) : List Int := sxA (openL s 2) 4
def cdC (s : ByteArray) : Int := if 65536 < s.size then 2 else if cdB s = true then 0 else 3
def cdR (s : ByteArray) : List Int := if cdC s = 0 then cdL s else []
theorem cd_open {s : ByteArray} (h : openB s 2 = false) : cdB s = false := by rw [cdB, h]; rfl
theorem cd_len {s : ByteArray} (h : ¬ (openL s 2).length = 4) : cdB s = false := by rw [cdB, decide_eq_false h]; simp
theorem cd_num {s : ByteArray} {k : Nat} (hk : k < (openL s 2).length) (h : cdN (openL s 2)[k] = false) : cdB s = false := by rw [cdB, all_not (p := cdN) hk h]; simp
theorem cd_yes {s : ByteArray} (h : openB s 2 = true) (hl : (openL s 2).length = 4) (ha : ∀ j (hj : j < (openL s 2).length), cdN (openL s 2)[j] = true) : cdB s = true := by
  rw [cdB, h, decide_eq_true hl, all_of (p := cdN) (fun i hi _ => ha i hi)]; rfl
theorem cdB_parts {s : ByteArray} (h : cdB s = true) : openB s 2 = true ∧ (openL s 2).length = 4 ∧ ∀ j (hj : j < (openL s 2).length), cdN (openL s 2)[j] = true := by
  simp only [cdB, Bool.and_eq_true, decide_eq_true_eq, List.all_eq_true] at h
  exact ⟨h.1.1, h.1.2, fun j hj => h.2 _ (List.getElem_mem hj)⟩
theorem cdL_len {s : ByteArray} (h : cdB s = true) : (cdL s).length = 24 := by
  obtain ⟨_, h4, _⟩ := cdB_parts h
  rw [cdL, sxA_len _ _ (by omega)]
theorem cd_long {s : ByteArray} (h : 65536 < s.size) : cdC s = 2 ∧ cdR s = [] := by
  have e : cdC s = 2 := if_pos h
  exact ⟨e, by rw [cdR, e]; rfl⟩
theorem cd_no {s : ByteArray} (h : ¬ 65536 < s.size) (hb : cdB s = false) : cdC s = 3 ∧ cdR s = [] := by
  have e : cdC s = 3 := by rw [cdC, if_neg h, hb]; rfl
  exact ⟨e, by rw [cdR, e]; rfl⟩
theorem cd_ok {s : ByteArray} (h : ¬ 65536 < s.size) (hb : cdB s = true) : cdC s = 0 ∧ cdR s = cdL s := by
  have e : cdC s = 0 := by rw [cdC, if_neg h, hb]; rfl
  exact ⟨e, by rw [cdR, e]; rfl⟩
theorem cdR_len (s : ByteArray) : (cdR s).length ≤ 24 := by
  by_cases h : 65536 < s.size
  · rw [(cd_long h).2]; exact Nat.zero_le _
  · cases hb : cdB s
    · rw [(cd_no h hb).2]; exact Nat.zero_le _
    · rw [(cd_ok h hb).2, cdL_len hb]; exact Nat.le_refl _
theorem openL_in {s : ByteArray} {k : Int} (h : openB s k = true) : ∀ j (hj : j < (openL s k).length), 0 ≤ (openL s k)[j] ∧ (openL s k)[j] ≤ 2147483647 := by
  intro j hj
  have hr : RecP s := by
    cases hq : recB s
    · rw [openB, hq] at h; cases h
    · exact recB_iff.1 hq
  rw [openL_yes h] at hj
  simp only [openL_yes h]
  have hu : okU (bodyT s) = true := hr.2.2.2.2.2
  exact (intsB_parts (okU_parts hu).2.2).1 j hj

end Go.Proofs.YtmkegkpnomcnhabGreat

/- Plain: counts that were encoded are decoded; one up and one down is nothing. -/
namespace Go.Proofs.YtmkegkpnomcnhabGreat
open Go.RowKit
set_option linter.unusedVariables false
set_option maxRecDepth 100000

theorem lo_digit {xs : List Int} (i : Nat) (h : ∀ j, 0 ≤ xs.getD j 0 ∧ xs.getD j 0 ≤ 15) (t : Nat) (ht : t < 6) : lo6 xs i 6 / 16 ^ t % 16 = xs.getD (i + t) 0 := by
  have h0 := h (i + 0)
  have h1 := h (i + 1)
  have h2 := h (i + 2)
  have h3 := h (i + 3)
  have h4 := h (i + 4)
  have h5 := h (i + 5)
  simp only [lo6, show (16 : Int) ^ 0 = 1 from rfl, show (16 : Int) ^ 1 = 16 from rfl, show (16 : Int) ^ 2 = 256 from rfl, show (16 : Int) ^ 3 = 4096 from rfl, show (16 : Int) ^ 4 = 65536 from rfl, show (16 : Int) ^ 5 = 1048576 from rfl]
  generalize e0 : xs.getD (i + 0) 0 = a0 at *
  generalize e1 : xs.getD (i + 1) 0 = a1 at *
  generalize e2 : xs.getD (i + 2) 0 = a2 at *
  generalize e3 : xs.getD (i + 3) 0 = a3 at *
  generalize e4 : xs.getD (i + 4) 0 = a4 at *
  generalize e5 : xs.getD (i + 5) 0 = a5 at *
  match t, ht with
  | 0, _ => rw [show (16 : Int) ^ 0 = 1 from rfl, e0]; omega
  | 1, _ => rw [show (16 : Int) ^ 1 = 16 from rfl, e1]; omega
  | 2, _ => rw [show (16 : Int) ^ 2 = 256 from rfl, e2]; omega
  | 3, _ => rw [show (16 : Int) ^ 3 = 4096 from rfl, e3]; omega
  | 4, _ => rw [show (16 : Int) ^ 4 = 65536 from rfl, e4]; omega
  | 5, _ => rw [show (16 : Int) ^ 5 = 1048576 from rfl, e5]; omega
theorem sx_cut {xs : List Int} (hb : ctB xs = true) (i : Nat) (hi : i + 6 ≤ xs.length) : sxT (lo6 xs i 6) 6 = (xs.drop i).take 6 := by
  apply List.ext_getElem
  · rw [sxT_len, List.length_take, List.length_drop]; omega
  · intro t h1 h2
    have h6 : t < 6 := by rw [sxT_len] at h1; exact h1
    refine (show _ = lo6 xs i 6 / 16 ^ t % 16 by simp [sxT]).trans ?_
    rw [lo_digit i (ctB_getD hb) t h6, List.getElem_take, List.getElem_drop]
    simp [List.getD, show i + t < xs.length by omega]
theorem four_cuts {xs : List Int} (hl : xs.length = 24) : (xs.drop 0).take 6 ++ ((xs.drop 6).take 6 ++ ((xs.drop 12).take 6 ++ (xs.drop 18).take 6)) = xs := by
  have a : (xs.drop 18).take 6 = xs.drop 18 := List.take_of_length_le (by rw [List.length_drop]; omega)
  have b : (xs.drop 12).take 6 ++ xs.drop 18 = xs.drop 12 := by
    have := List.take_append_drop 6 (xs.drop 12)
    rw [List.drop_drop] at this; exact this
  have c : (xs.drop 6).take 6 ++ xs.drop 12 = xs.drop 6 := by
    have := List.take_append_drop 6 (xs.drop 6)
    rw [List.drop_drop] at this; exact this
  rw [a, b, c, List.drop_zero, List.take_append_drop]
/-- Counts that were encoded are decoded. -/
theorem enc_cd {xs : List Int} (hb : ctB xs = true) : cdC (encT xs) = 0 ∧ cdR (encT xs) = xs := by
  have hl := ctB_len hb
  have hall : allB (ctNs xs) = true := allB_true (fun j hj => by have := ctNs_in hb j hj; simp [numB, inB]; omega)
  have hz : (encT xs).size = 20 := sealS_size 2 (ctNs xs)
  have ho : openB (encT xs) 2 = true := openB_yes (rec_seal (by decide) hall (by simp [ctNs])) (seal_kind (by decide) (by simp [ctNs]))
  have hL : openL (encT xs) 2 = ctNs xs := by rw [openL_yes ho, encT, body_seal, un_pack hall]
  have hB : cdB (encT xs) = true := by
    apply cd_yes ho
    · rw [hL]; rfl
    · simp only [hL]
      intro j hj
      have := ctNs_in hb j hj
      simp only [cdN, decide_eq_true_eq]
      rw [show (16 : Int) ^ 6 = 16777216 from rfl]
      omega
  obtain ⟨c1, c2⟩ := cd_ok (by omega) hB
  refine ⟨c1, c2.trans ?_⟩
  rw [cdL, hL]
  have e : sxA (ctNs xs) 4 = sxT (lo6 xs 0 6) 6 ++ (sxT (lo6 xs 6 6) 6 ++ (sxT (lo6 xs 12 6) 6 ++ sxT (lo6 xs 18 6) 6)) := by simp [sxA, ctNs]
  rw [e, sx_cut hb 0 (by omega), sx_cut hb 6 (by omega), sx_cut hb 12 (by omega), sx_cut hb 18 (by omega), four_cuts hl]
theorem sum_set : ∀ (xs : List Int) (k : Nat) (h : k < xs.length) (v : Int), (xs.set k v).sum = xs.sum - xs[k] + v
  | x :: xs, 0, _, v => by simp; omega
  | x :: xs, k + 1, h, v => by
    have := sum_set xs k (by simpa using h) v
    simp only [List.set_cons_succ, List.sum_cons, List.getElem_cons_succ, this]; omega
/-- One up, and one down again. -/
theorem up_down {xs : List Int} {k : Nat} (hb : ctB xs = true) (hk : k < xs.length) (h15 : ¬ xs[k] = 15) : upF xs k = 0 ∧ ctB (upL xs k) = true ∧ (upL xs k).length = 24 ∧ (upL xs k)[k]? = some (xs[k] + 1) ∧ dnF (upL xs k) k = 0 ∧ dnL (upL xs k) k = xs ∧ smR (upL xs k) = smR xs + 1 := by
  have hl := ctB_len hb
  have h0 : cwF xs (k : Int) = 0 := by rw [cwF, if_pos (ctF_ok hb), if_pos (betw_yes (by omega) (by omega))]
  obtain ⟨u1, u2⟩ := (up_at h0 hk).2 h15
  have hr := ctB_at hb k hk
  have hyl : (xs.set k (xs[k] + 1)).length = 24 := by rw [List.length_set]; exact hl
  have hyb : ctB (xs.set k (xs[k] + 1)) = true := ctB_of hyl (fun i hi => by
    rw [List.getElem_set]
    split
    · exact betw_yes (by omega) (by omega)
    · have := ctB_at hb i (by rw [List.length_set] at hi; exact hi)
      exact betw_yes this.1 this.2)
  have hy0 : cwF (xs.set k (xs[k] + 1)) (k : Int) = 0 := by rw [cwF, if_pos (ctF_ok hyb), if_pos (betw_yes (by omega) (by omega))]
  have hyk : k < (xs.set k (xs[k] + 1)).length := by omega
  have hye : (xs.set k (xs[k] + 1))[k] = xs[k] + 1 := by simp
  obtain ⟨d1, d2⟩ := (dn_at hy0 hyk).2 (by rw [hye]; omega)
  rw [u2]
  refine ⟨u1, hyb, hyl, ?_, d1, ?_, ?_⟩
  · simp [hk]
  · rw [d2, hye, List.set_set, show xs[k] + 1 - 1 = xs[k] by omega, List.set_getElem_self]
  · rw [smR, smR, if_pos (ctF_ok hyb), if_pos (ctF_ok hb), sum_set xs k hk]; omega

end Go.Proofs.YtmkegkpnomcnhabGreat
