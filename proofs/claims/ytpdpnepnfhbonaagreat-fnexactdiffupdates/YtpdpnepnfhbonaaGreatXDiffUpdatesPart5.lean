import Derived.Test.YtpdpnepnfhbonaaGreatXDiffUpdatesPart1
import Derived.WalkKit
import Derived.Test.YtpdpnepnfhbonaaGreatXDiffUpdatesPart4
import Derived.OwnWalk
import Derived.Deep.RegionLawGrows
import Derived.Test.YtpdpnepnfhbonaaGreatRows
import Derived.Test.YtpdpnepnfhbonaaGreatXDiffUpdatesPart2
import Derived.Test.YtpdpnepnfhbonaaGreatXDiffUpdatesPart3
import Derived.WalkSpells
import Derived.KernelRfl
import Derived.LoopN
import Derived.BigQuiet
import Derived.Deep.QuietTactic
import Derived.Deep.CutRange
import Derived.Deep.RegionWith
import Derived.Deep.MidRow
import Derived.Maps.Own
import Derived.Maps.OwnOps
import Derived.Maps.OwnSet
import Derived.Maps.RangeWalk
import Derived.Maps.Views

namespace Go.Proofs.YtpdpnepnfhbonaaGreat
open Go.RowKit
set_option linter.unusedVariables false

theorem three {l : List Int} (h : l.length = 3) : ∃ a b c, l = [a, b, c] := by
  match l, h with
  | [a, b, c], _ => exact ⟨a, b, c, rfl⟩
end Go.Proofs.YtpdpnepnfhbonaaGreat

namespace Go.Proofs.YtpdpnepnfhbonaaGreat
open Go.RowKit
set_option linter.unusedVariables false
section
variable {P : Program}
end
def short (ms : List Wr) : Prop := ∀ x ∈ ms, x.data.size ≤ 80
end Go.Proofs.YtpdpnepnfhbonaaGreat

namespace Go.Proofs.YtpdpnepnfhbonaaGreat
open Go.RowKit
set_option linter.unusedVariables false

structure UpS (w W : World) (qo : Option Addr) (n qa : Nat) (us : List Up) : Prop where
  o : OwnR W w.heap.size 65 2 (.slice qo n qa) n (upsV us)
  k : Below w.heap.size w W
theorem UpS.next {w W W' : World} {qo : Option Addr} {n qa : Nat} {us : List Up} (h : UpS w W qo n qa us) (hb : Below W.heap.size W W') : UpS w W' qo n qa us := ⟨h.o.below hb, fr h.k hb⟩
def upV (x : Up) : List Value := [.int .i64 x.at_, .string x.data]
theorem upV_one (x : Up) : ∀ u ∈ upV x, u.oneCell' = true := by
  intro u hu
  simp [upV] at hu
  rcases hu with rfl | rfl <;> rfl
theorem UpS.one {w W W' : World} {qo : Option Addr} {n qa g cap : Nat} {us : List Up} {x : Up} (h : UpS w W qo n qa us)
    (ho : W'.ownsRow w.heap.size 65 2 (.slice (some ⟨g, 0, none⟩) (n + 1) cap) (n + 1) (upsV us ++ upV x)) (hk : Keep (Own (.slice qo n qa)) W W') : UpS w W' (some ⟨g, 0, none⟩) (n + 1) cap (us ++ [x]) := by
  refine ⟨.inr ⟨by omega, ?_⟩, belowKp h.k hk (fun j hj => (h.o.ge j hj).1)⟩
  rw [upsV_append]; exact ho
theorem UpS.sz {w W : World} {qo : Option Addr} {n qa : Nat} {us : List Up} (h : UpS w W qo n qa us) : w.heap.size ≤ W.heap.size := h.k.size
theorem UpS.len {w W : World} {qo : Option Addr} {n qa : Nat} {us : List Up} (h : UpS w W qo n qa us) : n = us.length := by
  have := h.o.len; rw [upsV_length] at this; omega
theorem news2_at (w : World) (n : Nat) (x : Up) (t : TypeId) (hn : w.heap.size = n) : ∀ j u, (upV x)[j]? = some u → (w.alloc (.cells #[.int .i64 x.at_, .string x.data] t)).cell? ((⟨n, 0, none⟩ : Addr).add j) = some u := by
  subst hn
  exact World.news_of_block (cs := #[.int .i64 x.at_, .string x.data]) (heap_alloc_new w _)
end Go.Proofs.YtpdpnepnfhbonaaGreat

namespace Go.Proofs.YtpdpnepnfhbonaaGreat
open Go.RowKit
set_option linter.unusedVariables false
set_option maxRecDepth 100000

def AnsU (W w' : World) (e : Ending) (R : List Up × Int) : Prop := ∃ qo qa, e = .returned (.tuple #[.slice qo R.1.length qa, .int .i64 R.2]) ∧ UpS W w' qo R.1.length qa R.1
theorem OwnIm.noUps {w : World} {B B' n : Nat} {a : Im4} {m : Img} {ts : List Value} {v : Value} {xs : List Value} (h : OwnIm w B a m ts) (ht : OwnR w B' 65 2 v n xs) : ∀ g, Own v g → ¬ ImB a m ts g := by
  intro g hg hx
  rcases hx with h1 | h1 | h1 | h1 | ⟨t, ht', h1⟩
  · exact own_apart ht (h.rows.own (.slice a.ro m.refs.length a.rc, m.refs) (by simp [imRows])).row (by decide) g hg h1
  · exact own_apart ht (h.rows.own (.slice a.tq m.table.length a.tc, m.table) (by simp [imRows])).row (by decide) g hg h1
  · exact own_apart ht (h.rows.own (.slice a.dq m.data.length a.dc, m.data) (by simp [imRows])).row (by decide) g hg h1
  · exact own_apartS ht h.s (by decide) g hg h1
  · have hm : t ∈ (ts.zip (m.snaps.map (·.table))).map Prod.fst := by rw [zip_fst _ _ (by rw [List.length_map, h.len])]; exact ht'
    obtain ⟨p, hp, rfl⟩ := List.mem_map.1 hm
    exact own_apart ht (h.rows.own p (by simp [imRows, hp])).row (by decide) g hg h1

end Go.Proofs.YtpdpnepnfhbonaaGreat

namespace Go.Proofs.YtpdpnepnfhbonaaGreat
open Go.RowKit
set_option linter.unusedVariables false
set_option maxRecDepth 100000

structure ArgI (w W : World) (a b : Im4) (m n : Img) : Prop where
  va : VarM W w.heap.size 25 (.slice a.ro m.refs.length a.rc) (.slice a.tq m.table.length a.tc) (.slice a.so m.snaps.length a.sc) (.slice a.dq m.data.length a.dc)
  vb : VarM W (w.heap.size + 1) 25 (.slice b.ro n.refs.length b.rc) (.slice b.tq n.table.length b.tc) (.slice b.so n.snaps.length b.sc) (.slice b.dq n.data.length b.dc)
  sa : ImS W a m
  sb : ImS W b n
  k : Below w.heap.size w W
theorem ArgI.below {w W W' : World} {a b : Im4} {m n : Img} (h : ArgI w W a b m n) (hb : Below W.heap.size W W') : ArgI w W' a b m n := ⟨h.va.below hb, h.vb.below hb, h.sa.below hb, h.sb.below hb, fr h.k hb⟩
theorem ArgI.keep {w W W' : World} {a b : Im4} {m n : Img} {S : Nat → Prop} (h : ArgI w W a b m n) (hk : Keep S W W') (ha : ¬ S w.heap.size) (hb : ¬ S (w.heap.size + 1)) (hw : ∀ g, S g → w.heap.size ≤ g) (h1 : ImS w a m) (h2 : ImS w b n) : ArgI w W' a b m n :=
  have k2 : Below w.heap.size w W' := h.k.trans (hk.below h.k.size hw)
  ⟨(hk.block _ h.va.lt ha).trans h.va, (hk.block _ h.vb.lt hb).trans h.vb, h1.below k2, h2.below k2, k2⟩
theorem ArgI.keepIm {w W W' : World} {a b c : Im4} {m n o : Img} {B : Nat} {ts : List Value} (h : ArgI w W a b m n) (ho : OwnIm W B c o ts) (hB : w.heap.size ≤ B) (hk : Keep (ImB c o ts) W W') (h1 : ImS w a m) (h2 : ImS w b n) : ArgI w W' a b m n :=
  h.keep hk (ho.otherL h.va) (ho.otherL h.vb) (fun g hg => Nat.le_trans hB (ho.ge g hg).1) h1 h2

set_option maxHeartbeats 12800000 in
theorem lawImDiffUpdates (a b : Im4) (m n : Img) (R : List Up × Int) (w : World) (hLa : ImL m) (hLb : ImL n) (hca : ImS w a m) (hcb : ImS w b n)
    (hn : R.1.length ≤ 1000 ∧ ∀ s ∈ R.1, s.data.size ≤ maxLen)
    (hspec : ∀ (c d : Im4) (W : World), ImS W c m → ImS W d n → Calls Tryz.prog 15 #[imV c m, imV d n] W fun e w' => AnsU W w' e R)
    (himpl : ∀ (c d : Im4) (W : World), ImS W c m → ImS W d n → Calls Tryz.prog 16 #[imV c m, imV d n] W fun e w' => AnsU W w' e R) :
    Calls Tryz.prog 4 #[imV a m, imV b n] w fun e w' => e = .returned (.bool true) ∧ Below w.heap.size w w' := by
  have HK := hide (Joins.below_alloc2 w (.cells #[.slice a.ro m.refs.length a.rc, .slice a.tq m.table.length a.tc, .slice a.so m.snaps.length a.sc, .slice a.dq m.data.length a.dc] 25) (.cells #[.slice b.ro n.refs.length b.rc, .slice b.tq n.table.length b.tc, .slice b.so n.snaps.length b.sc, .slice b.dq n.data.length b.dc] 25))
  have HA : Hid (ArgI w ((w.alloc (.cells #[.slice a.ro m.refs.length a.rc, .slice a.tq m.table.length a.tc, .slice a.so m.snaps.length a.sc, .slice a.dq m.data.length a.dc] 25)).alloc (.cells #[.slice b.ro n.refs.length b.rc, .slice b.tq n.table.length b.tc, .slice b.so n.snaps.length b.sc, .slice b.dq n.data.length b.dc] 25)) a b m n) := hide ⟨(VarM.new w 25 (.slice a.ro m.refs.length a.rc) (.slice a.tq m.table.length a.tc) (.slice a.so m.snaps.length a.sc) (.slice a.dq m.data.length a.dc)).below (Joins.below_alloc1 _ _), (VarM.new (w.alloc (.cells #[.slice a.ro m.refs.length a.rc, .slice a.tq m.table.length a.tc, .slice a.so m.snaps.length a.sc, .slice a.dq m.data.length a.dc] 25)) 25 (.slice b.ro n.refs.length b.rc) (.slice b.tq n.table.length b.tc) (.slice b.so n.snaps.length b.sc) (.slice b.dq n.data.length b.dc)).at (by simp), hca.below (unhide HK), hcb.below (unhide HK), unhide HK⟩
  have HCA := hide hca
  have HCB := hide hcb
  have HLA := hide hLa
  have HLB := hide hLb
  have HSP := hide hspec
  have HIM := hide himpl
  have HZT := hide hn.2
  have hn1 := hn.1
  have HZA : Hid (∀ s ∈ m.snaps, s.name.size ≤ maxLen ∧ s.table.length ≤ maxLen) := hide (fun s hs => by obtain ⟨j, hj, rfl⟩ := List.mem_iff_getElem.1 hs; obtain ⟨_, _, _, _, _, _, _, _, h1, h2⟩ := hca.s j hj; exact ⟨h1, h2⟩)
  have HZB : Hid (∀ s ∈ n.snaps, s.name.size ≤ maxLen ∧ s.table.length ≤ maxLen) := hide (fun s hs => by obtain ⟨j, hj, rfl⟩ := List.mem_iff_getElem.1 hs; obtain ⟨_, _, _, _, _, _, _, _, h1, h2⟩ := hcb.s j hj; exact ⟨h1, h2⟩)
  clear hca hcb hLa hLb hspec himpl hn
  go_enter Tryz.func4, Tryz.ntmps4
  go_upto_region 2 with fail
  revert HA
  revert HK
  generalize ((w.alloc _).alloc _) = W0
  intro HK HA
  clear HK
  obtain ⟨c0, c1, c2, c3⟩ := (unhide HA).va.cells
  go_wp2_with fail
  refine (szImage_any a m 1048576 _ (unhide HLA).r (unhide HLA).t (unhide HLA).s (unhide HLA).d (by omega) (by omega) (unhide HA).sa).mono ?_
  rintro e w1 ⟨r, rfl, hr0, hr1, hr2, hb⟩
  have HA1 := hide ((unhide HA).below hb)
  clear hb c0 c1 c2 c3 HA
  by_cases hneg : r < 0
  · go_wp2
    go_ret
    exact ⟨rfl, (unhide HA1).k⟩
  have HBA : Hid (ImBd m) := hide (ImBd.of (by have := hr2 (by omega); omega))
  clear hr2
  obtain ⟨c0, c1, c2, c3⟩ := (unhide HA1).vb.cells
  go_wp2_with fail
  refine (szImage_any b n r _ (unhide HLB).r (unhide HLB).t (unhide HLB).s (unhide HLB).d (by omega) (by omega) (unhide HA1).sb).mono ?_
  rintro e w2 ⟨r2, rfl, hq0, hq1, hq2, hb⟩
  have HA2 := hide ((unhide HA1).below hb)
  clear hb c0 c1 c2 c3 HA1
  by_cases hneg2 : r2 < 0
  · go_wp2
    go_ret
    exact ⟨rfl, (unhide HA2).k⟩
  have HBB : Hid (ImBd n) := hide (ImBd.of (by have := hq2 (by omega); omega))
  clear hq2
  have HKA := hide (imK_le (unhide HBA))
  have HKB := hide (imK_le (unhide HBB))
  -- the model's answer
  go_upto_region 8 with fail
  have HBD : Hid (Below w2.heap.size w2 w2.drew) := hide (Below.refl _ _).drew
  have hS0 := unhide HBD
  refine wp_region_ord (fun w' => Below w2.heap.size w2 w') [0, 1, 2, 3, 4, 5, 6, 7, 8, 9] [(0, 0), (2, 0), (1, 2), (3, 2), (4, 2), (5, 0), (6, 0), (7, 0), (8, 0), (9, 0)] (by kernel_rfl) (by kernel_rfl) rfl (by kernel_rfl) ?_
  refine ord_read (.agg #[.slice a.ro m.refs.length a.rc, .slice a.tq m.table.length a.tc, .slice a.so m.snaps.length a.sc, .slice a.dq m.data.length a.dc]) rfl rfl hS0 (fun W hW => by obtain ⟨k0, k1, k2, k3⟩ := ((unhide HA2).below hW).va.cells; go_simp) ?_
  refine ord_read (.agg #[.slice b.ro n.refs.length b.rc, .slice b.tq n.table.length b.tc, .slice b.so n.snaps.length b.sc, .slice b.dq n.data.length b.dc]) rfl rfl hS0 (fun W hW => by obtain ⟨k0, k1, k2, k3⟩ := ((unhide HA2).below hW).vb.cells; go_simp) ?_
  clear hS0
  refine ord_held rfl rfl ?_
  intro K hK
  unfold Oper.wp
  go_simp
  refine (toImage_B a m _ (unhide HBA) ((unhide HA2).below (unhide HBD)).sa).mono ?_
  rintro e u1a ⟨aP, tsP, rfl, hoP, hb⟩
  have HP := hide (hoP.shows (unhide HZA))
  have HB1 := hide (fr (unhide HBD) hb)
  clear hoP hb
  refine hK _ _ (unhide HB1) ?_
  clear hK K
  refine ord_held rfl rfl ?_
  intro K hK
  unfold Oper.wp
  go_simp
  refine (toImage_B b n _ (unhide HBB) ((unhide HA2).below (unhide HB1)).sb).mono ?_
  rintro e u2a ⟨aQ, tsQ, rfl, hoQ, hb⟩
  have HQ := hide (hoQ.shows (unhide HZB))
  have HP2 := hide ((unhide HP).below hb)
  have HB2 := hide (fr (unhide HB1) hb)
  clear hoQ hb
  refine hK _ _ (unhide HB2) ?_
  clear hK K
  refine ord_held rfl rfl ?_
  intro K hK
  unfold Oper.wp
  go_simp
  refine (unhide HSP aP aQ _ (unhide HP2) (unhide HQ)).mono ?_
  rintro e w3 ⟨qw, cw, rfl, ⟨hoR, hb⟩⟩
  have HW3 := hide hoR
  have HB3 := hide (fr (unhide HB2) hb)
  clear hoR hb
  refine hK _ _ (unhide HB3) ?_
  clear hK K
  refine ord_read (.tuple #[.slice qw R.1.length cw, .int .i64 R.2]) rfl rfl (unhide HB3) (fun W hW => by go_simp) ?_
  refine ord_read (.slice qw R.1.length cw) rfl rfl (unhide HB3) (fun W hW => by go_simp) ?_
  refine ord_read (.int .i64 R.2) rfl rfl (unhide HB3) (fun W hW => by go_simp) ?_
  refine ord_read (.slice qw R.1.length cw) rfl rfl (unhide HB3) (fun W hW => by go_simp) ?_
  refine ord_read (.int .i64 R.2) rfl rfl (unhide HB3) (fun W hW => by go_simp) ?_
  refine ord_done ?_
  have HA3 := hide ((unhide HA2).below (unhide HB3))
  clear HP HQ HP2 HB1 HB2 HB3 HBD HA2
  -- the arguments' copies
  obtain ⟨c0, c1, c2, c3⟩ := (unhide HA3).va.cells
  go_wp2_with fail
  refine (toImage_B a m _ (unhide HBA) (unhide HA3).sa).mono ?_
  rintro e w4 ⟨aX, tsX, rfl, hoX, hb4⟩
  have HW4 := hide ((unhide HW3).below (fr hb4 (Joins.below_alloc1 w4 (.cells #[.slice aX.ro m.refs.length aX.rc, .slice aX.tq m.table.length aX.tc, .slice aX.so m.snaps.length aX.sc, .slice aX.dq m.data.length aX.dc] 32))))
  have HA4 := hide ((unhide HA3).below (fr hb4 (Joins.below_alloc1 w4 (.cells #[.slice aX.ro m.refs.length aX.rc, .slice aX.tq m.table.length aX.tc, .slice aX.so m.snaps.length aX.sc, .slice aX.dq m.data.length aX.dc] 32))))
  have HX4 := hide (LwV.new w4 aX m hoX hb4.size)
  have HSX : Hid (w.heap.size ≤ w3.heap.size) := hide (unhide HA3).k.size
  clear hoX hb4 c0 c1 c2 c3 HA3 HW3
  go_upto_region 10 with fail
  revert HX4
  revert HA4
  revert HW4
  generalize (w4.alloc _) = W4
  generalize w4.heap.size = pX
  intro HW4 HA4 HX4
  obtain ⟨c0, c1, c2, c3⟩ := (unhide HA4).vb.cells
  go_wp2_with fail
  refine (toImage_B b n _ (unhide HBB) (unhide HA4).sb).mono ?_
  rintro e w5 ⟨aY, tsY, rfl, hoY, hb5⟩
  have HW5 := hide ((unhide HW4).below (fr hb5 (Joins.below_alloc1 w5 (.cells #[.slice aY.ro n.refs.length aY.rc, .slice aY.tq n.table.length aY.tc, .slice aY.so n.snaps.length aY.sc, .slice aY.dq n.data.length aY.dc] 32))))
  have HA5 := hide ((unhide HA4).below (fr hb5 (Joins.below_alloc1 w5 (.cells #[.slice aY.ro n.refs.length aY.rc, .slice aY.tq n.table.length aY.tc, .slice aY.so n.snaps.length aY.sc, .slice aY.dq n.data.length aY.dc] 32))))
  have HX5 := hide ((unhide HX4).below (fr hb5 (Joins.below_alloc1 w5 (.cells #[.slice aY.ro n.refs.length aY.rc, .slice aY.tq n.table.length aY.tc, .slice aY.so n.snaps.length aY.sc, .slice aY.dq n.data.length aY.dc] 32))))
  have HY5 := hide (LwV.new w5 aY n hoY hb5.size)
  have HXY : Hid (∀ g, ImB aY n tsY g → ¬ ImB aX m tsX g) := hide (fun g h1 h2 => by
    have k1 := (hoY.ge g h1).1
    have k2 := ((unhide HX4).o.ge g h2).2
    omega)
  have HSY : Hid (w.heap.size ≤ W4.heap.size) := hide (unhide HA4).k.size
  clear hoY hb5 c0 c1 c2 c3 HA4 HW4 HX4
  go_upto_region 11 with fail
  revert HY5
  revert HX5
  revert HA5
  revert HW5
  generalize (w5.alloc _) = W5
  generalize w5.heap.size = pY
  intro HW5 HA5 HX5 HY5
  -- the program's answer
  obtain ⟨c0, c1, c2, c3⟩ := (unhide HX5).v.cells
  obtain ⟨d0, d1, d2, d3⟩ := (unhide HY5).v.cells
  go_wp2_with fail
  refine (unhide HIM aX aY _ ((unhide HX5).o.shows (unhide HZA)) ((unhide HY5).o.shows (unhide HZB))).mono ?_
  rintro e w6 ⟨qg, cg, rfl, ⟨hg6, hb⟩⟩
  have HG6 := hide hg6
  have HW6 := hide ((unhide HW5).below hb)
  have HAGE : Hid (∀ g, Own (.slice qw R.1.length cw) g → ¬ Own (.slice qg R.1.length cg) g) := hide (fun g h1 h2 => by
    have k1 := ((unhide HW5).ge g h1).2
    have k2 := (hg6.ge g h2).1
    omega)
  have HGL : Hid (∀ g, Own (.slice qg R.1.length cg) g → w.heap.size ≤ g) := hide (fun g h2 => Nat.le_trans (unhide HA5).k.size (hg6.ge g h2).1)
  have HA6 := hide ((unhide HA5).below hb)
  have HX6 := hide ((unhide HX5).below hb)
  have HY6 := hide ((unhide HY5).below hb)
  clear hb hg6 c0 c1 c2 c3 d0 d1 d2 d3 HX5 HY5 HA5 HW5
  have bcd : (R.2 != R.2) = false := by simp
  go_wp2_with fail
  refine (eqUpdateS_same qg qw cg cw R.1 _ (by omega) (ownUps (unhide HG6) (unhide HZT)) (ownUps (unhide HW6) (unhide HZT))).mono ?_
  rintro e w7 ⟨rfl, hb⟩
  have HG7 := hide ((unhide HG6).below hb)
  have HW7 := hide ((unhide HW6).below hb)
  have HA7 := hide ((unhide HA6).below hb)
  have HX7 := hide ((unhide HX6).below hb)
  have HY7 := hide ((unhide HY6).below hb)
  clear hb HG6 HW6 HA6 HX6 HY6
  go_upto_region 14 with fail
  have HBD : Hid (Below w7.heap.size w7 w7.drew) := hide (Below.refl _ _).drew
  have hS0 := unhide HBD
  refine wp_region_ord (fun w' => Below w7.heap.size w7 w') [0, 1, 2, 3, 4] [(0, 0), (1, 0), (2, 2), (3, 2), (4, 0)] (by kernel_rfl) (by kernel_rfl) rfl (by kernel_rfl) ?_
  refine ord_read (.agg #[.slice aX.ro m.refs.length aX.rc, .slice aX.tq m.table.length aX.tc, .slice aX.so m.snaps.length aX.sc, .slice aX.dq m.data.length aX.dc]) rfl rfl hS0 (fun W hW => by obtain ⟨k0, k1, k2, k3⟩ := ((unhide HX7).below hW).v.cells; go_simp) ?_
  refine ord_read (.agg #[.slice a.ro m.refs.length a.rc, .slice a.tq m.table.length a.tc, .slice a.so m.snaps.length a.sc, .slice a.dq m.data.length a.dc]) rfl rfl hS0 (fun W hW => by obtain ⟨k0, k1, k2, k3⟩ := ((unhide HA7).below hW).va.cells; go_simp) ?_
  clear hS0
  refine ord_held rfl rfl ?_
  intro K hK
  unfold Oper.wp
  go_simp
  refine (toImage_B a m _ (unhide HBA) ((unhide HA7).below (unhide HBD)).sa).mono ?_
  rintro e ub ⟨aP, tsP, rfl, hoP, hb⟩
  have HP := hide (hoP.shows (unhide HZA))
  have HB1 := hide (fr (unhide HBD) hb)
  clear hoP hb
  refine hK _ _ (unhide HB1) ?_
  clear hK K
  refine ord_held rfl rfl ?_
  intro K hK
  unfold Oper.wp
  go_simp
  refine (eqImage_B aX aP m _ (unhide HBA) (((unhide HX7).below (unhide HB1)).o.shows (unhide HZA)) (unhide HP)).mono ?_
  rintro e w8 ⟨rfl, hb⟩
  have HB2 := hide (fr (unhide HB1) hb)
  clear hb
  refine hK _ _ (unhide HB2) ?_
  clear hK K
  refine ord_read (.bool false) rfl rfl (unhide HB2) (fun W hW => by go_simp) ?_
  refine ord_done ?_
  have HG8 := hide ((unhide HG7).below (unhide HB2))
  have HW8 := hide ((unhide HW7).below (unhide HB2))
  have HA8 := hide ((unhide HA7).below (unhide HB2))
  have HX8 := hide ((unhide HX7).below (unhide HB2))
  have HY8 := hide ((unhide HY7).below (unhide HB2))
  clear HP HB1 HB2 HBD HG7 HW7 HA7 HX7 HY7
  go_upto_region 16 with fail
  have HBD : Hid (Below w8.heap.size w8 w8.drew) := hide (Below.refl _ _).drew
  have hS0 := unhide HBD
  refine wp_region_ord (fun w' => Below w8.heap.size w8 w') [0, 1, 2, 3, 4] [(0, 0), (1, 0), (2, 2), (3, 2), (4, 0)] (by kernel_rfl) (by kernel_rfl) rfl (by kernel_rfl) ?_
  refine ord_read (.agg #[.slice aY.ro n.refs.length aY.rc, .slice aY.tq n.table.length aY.tc, .slice aY.so n.snaps.length aY.sc, .slice aY.dq n.data.length aY.dc]) rfl rfl hS0 (fun W hW => by obtain ⟨k0, k1, k2, k3⟩ := ((unhide HY8).below hW).v.cells; go_simp) ?_
  refine ord_read (.agg #[.slice b.ro n.refs.length b.rc, .slice b.tq n.table.length b.tc, .slice b.so n.snaps.length b.sc, .slice b.dq n.data.length b.dc]) rfl rfl hS0 (fun W hW => by obtain ⟨k0, k1, k2, k3⟩ := ((unhide HA8).below hW).vb.cells; go_simp) ?_
  clear hS0
  refine ord_held rfl rfl ?_
  intro K hK
  unfold Oper.wp
  go_simp
  refine (toImage_B b n _ (unhide HBB) ((unhide HA8).below (unhide HBD)).sb).mono ?_
  rintro e uc ⟨aP, tsP, rfl, hoP, hb⟩
  have HP := hide (hoP.shows (unhide HZB))
  have HB1 := hide (fr (unhide HBD) hb)
  clear hoP hb
  refine hK _ _ (unhide HB1) ?_
  clear hK K
  refine ord_held rfl rfl ?_
  intro K hK
  unfold Oper.wp
  go_simp
  refine (eqImage_B aY aP n _ (unhide HBB) (((unhide HY8).below (unhide HB1)).o.shows (unhide HZB)) (unhide HP)).mono ?_
  rintro e w9 ⟨rfl, hb⟩
  have HB2 := hide (fr (unhide HB1) hb)
  clear hb
  refine hK _ _ (unhide HB2) ?_
  clear hK K
  refine ord_read (.bool false) rfl rfl (unhide HB2) (fun W hW => by go_simp) ?_
  refine ord_done ?_
  have HG9 := hide ((unhide HG8).below (unhide HB2))
  have HW9 := hide ((unhide HW8).below (unhide HB2))
  have HA9 := hide ((unhide HA8).below (unhide HB2))
  have HX9 := hide ((unhide HX8).below (unhide HB2))
  have HY9 := hide ((unhide HY8).below (unhide HB2))
  clear HP HB1 HB2 HBD HG8 HW8 HA8 HX8 HY8
  -- marks of the copies
  obtain ⟨c0, c1, c2, c3⟩ := (unhide HX9).v.cells
  go_wp2_with fail
  refine (markImage_C aX m tsX 1 _ _ (unhide HBA) (by omega) (by omega) (unhide HX9).o).mono ?_
  rintro e w10 ⟨rfl, _, hk⟩
  have HG10 := hide ((unhide HG9).keep hk ((unhide HX9).o.noUps (unhide HG9)))
  have HW10 := hide ((unhide HW9).keep hk ((unhide HX9).o.noUps (unhide HW9)))
  have HY10 := hide ((unhide HY9).keep (unhide HX9) hk (unhide HXY))
  have HA10 := hide ((unhide HA9).keepIm (unhide HX9).o (unhide HSX) hk (unhide HCA) (unhide HCB))
  clear hk c0 c1 c2 c3 HG9 HW9 HA9 HX9 HY9
  obtain ⟨c0, c1, c2, c3⟩ := (unhide HY10).v.cells
  go_wp2_with fail
  refine (markImage_C aY n tsY (1 + imK m) _ _ (unhide HBB) (by omega) (by have := unhide HKA; omega) (unhide HY10).o).mono ?_
  rintro e w11 ⟨rfl, _, hk⟩
  have HG11 := hide ((unhide HG10).keep hk ((unhide HY10).o.noUps (unhide HG10)))
  have HW11 := hide ((unhide HW10).keep hk ((unhide HY10).o.noUps (unhide HW10)))
  have HA11 := hide ((unhide HA10).keepIm (unhide HY10).o (unhide HSY) hk (unhide HCA) (unhide HCB))
  clear hk c0 c1 c2 c3 HG10 HW10 HA10 HY10
  have hk1 : ¬ (((1 + imK m + imK n : Nat) : Int) < 0) := by omega
  go_wp2_with fail
  refine (eqUpdateS_same qg qw cg cw R.1 _ (by omega) (ownUps (unhide HG11) (unhide HZT)) (ownUps (unhide HW11) (unhide HZT))).mono ?_
  rintro e w12 ⟨rfl, hb⟩
  have HG12 := hide ((unhide HG11).below hb)
  have HW12 := hide ((unhide HW11).below hb)
  have HA12 := hide ((unhide HA11).below hb)
  clear hb HG11 HW11 HA11
  go_wp2_with fail
  refine (markUpdateS_any _ R.1.length 1 _ _ _ (by omega) (by omega) (by omega) (unhide HG12)).mono ?_
  rintro e w13 ⟨rfl, ho13, hk13⟩
  have HG13 := hide ho13
  have HW13 := hide ((unhide HW12).keep hk13 (unhide HAGE))
  have HA13 := hide ((unhide HA12).keep hk13 ((unhide HG12).other (unhide HA12).va (by decide)) ((unhide HG12).other (unhide HA12).vb (by decide)) (unhide HGL) (unhide HCA) (unhide HCB))
  clear ho13 hk13 HG12 HW12 HA12
  go_wp2_with fail
  refine (heldUpdateS_any _ R.1.length 1 _ _ (by omega) (by omega) (by omega) (unhide HG13)).mono ?_
  rintro e w14 ⟨rfl, hb⟩
  have HG14 := hide ((unhide HG13).below hb)
  have HW14 := hide ((unhide HW13).below hb)
  have HA14 := hide ((unhide HA13).below hb)
  clear hb HG13 HW13 HA13
  have hq1 : ¬ (((1 + 2 * R.1.length : Nat) : Int) < 0) := by omega
  go_upto_region 31 with fail
  have HBD : Hid (Below w14.heap.size w14 w14.drew) := hide (Below.refl _ _).drew
  have hS0 := unhide HBD
  refine wp_region_ord (fun w' => Below w14.heap.size w14 w') [0, 1, 2, 3, 4, 5, 6, 7, 8, 9] [(0, 0), (2, 0), (1, 2), (3, 2), (4, 2), (5, 0), (6, 0), (7, 0), (8, 0), (9, 0)] (by kernel_rfl) (by kernel_rfl) rfl (by kernel_rfl) ?_
  refine ord_read (.agg #[.slice a.ro m.refs.length a.rc, .slice a.tq m.table.length a.tc, .slice a.so m.snaps.length a.sc, .slice a.dq m.data.length a.dc]) rfl rfl hS0 (fun W hW => by obtain ⟨k0, k1, k2, k3⟩ := ((unhide HA14).below hW).va.cells; go_simp) ?_
  refine ord_read (.agg #[.slice b.ro n.refs.length b.rc, .slice b.tq n.table.length b.tc, .slice b.so n.snaps.length b.sc, .slice b.dq n.data.length b.dc]) rfl rfl hS0 (fun W hW => by obtain ⟨k0, k1, k2, k3⟩ := ((unhide HA14).below hW).vb.cells; go_simp) ?_
  clear hS0
  refine ord_held rfl rfl ?_
  intro K hK
  unfold Oper.wp
  go_simp
  refine (toImage_B a m _ (unhide HBA) ((unhide HA14).below (unhide HBD)).sa).mono ?_
  rintro e u1d ⟨aP, tsP, rfl, hoP, hb⟩
  have HP := hide (hoP.shows (unhide HZA))
  have HB1 := hide (fr (unhide HBD) hb)
  clear hoP hb
  refine hK _ _ (unhide HB1) ?_
  clear hK K
  refine ord_held rfl rfl ?_
  intro K hK
  unfold Oper.wp
  go_simp
  refine (toImage_B b n _ (unhide HBB) ((unhide HA14).below (unhide HB1)).sb).mono ?_
  rintro e u2d ⟨aQ, tsQ, rfl, hoQ, hb⟩
  have HQ := hide (hoQ.shows (unhide HZB))
  have HP2 := hide ((unhide HP).below hb)
  have HB2 := hide (fr (unhide HB1) hb)
  clear hoQ hb
  refine hK _ _ (unhide HB2) ?_
  clear hK K
  refine ord_held rfl rfl ?_
  intro K hK
  unfold Oper.wp
  go_simp
  refine (unhide HIM aP aQ _ (unhide HP2) (unhide HQ)).mono ?_
  rintro e w15 ⟨qh, ch, rfl, ⟨hoR, hb⟩⟩
  have HH15 := hide hoR
  have HB3 := hide (fr (unhide HB2) hb)
  clear hoR hb
  refine hK _ _ (unhide HB3) ?_
  clear hK K
  refine ord_read (.tuple #[.slice qh R.1.length ch, .int .i64 R.2]) rfl rfl (unhide HB3) (fun W hW => by go_simp) ?_
  refine ord_read (.slice qh R.1.length ch) rfl rfl (unhide HB3) (fun W hW => by go_simp) ?_
  refine ord_read (.int .i64 R.2) rfl rfl (unhide HB3) (fun W hW => by go_simp) ?_
  refine ord_read (.slice qh R.1.length ch) rfl rfl (unhide HB3) (fun W hW => by go_simp) ?_
  refine ord_read (.int .i64 R.2) rfl rfl (unhide HB3) (fun W hW => by go_simp) ?_
  refine ord_done ?_
  have HA15 := hide ((unhide HA14).below (unhide HB3))
  have HG15 := hide ((unhide HG14).below (unhide HB3))
  have HW15 := hide ((unhide HW14).below (unhide HB3))
  clear HP HQ HP2 HB1 HB2 HB3 HBD HA14 HG14 HW14
  go_wp2_with fail
  refine (eqUpdateS_same qh qw ch cw R.1 _ (by omega) (ownUps (unhide HH15) (unhide HZT)) (ownUps (unhide HW15) (unhide HZT))).mono ?_
  rintro e w16 ⟨rfl, hb⟩
  have HG16 := hide ((unhide HG15).below hb)
  have HB16 := hide (fr (unhide HA15).k hb)
  clear hb
  go_wp2_with fail
  refine (heldUpdateS_any _ R.1.length 1 _ _ (by omega) (by omega) (by omega) (unhide HG16)).mono ?_
  rintro e w17 ⟨rfl, hb⟩
  have HB17 := hide (fr (unhide HB16) hb)
  clear hb
  go_wp2
  go_ret
  exact ⟨rfl, unhide HB17⟩

end Go.Proofs.YtpdpnepnfhbonaaGreat

namespace Go.Proofs.YtpdpnepnfhbonaaGreat
open Go.RowKit
set_option linter.unusedVariables false
set_option maxRecDepth 100000

theorem hx_in (xs : List Int) (i : Nat) (h : ∀ j, 0 ≤ xs.getD j 0 ∧ xs.getD j 0 ≤ 15) : ∀ m, 0 ≤ hx6 xs i m ∧ hx6 xs i m < 16 ^ m
  | 0 => by simp [hx6]
  | m + 1 => by
    obtain ⟨h0, h1⟩ := hx_in xs i h m
    obtain ⟨g0, g1⟩ := h (i + (5 - m))
    rw [hx6, show (16 : Int) ^ (m + 1) = 16 ^ m * 16 from Int.pow_succ 16 m]
    generalize (16 : Int) ^ m = P at *
    omega
theorem hx_le {xs : List Int} (hb : ctB xs = true) (i m : Nat) (hm : m ≤ 5) : 0 ≤ hx6 xs i m ∧ hx6 xs i m ≤ 1048576 := by
  obtain ⟨h0, h1⟩ := hx_in xs i (ctB_getD hb) m
  have hp : (16 : Int) ^ m ≤ 1048576 := by
    match m, hm with
    | 0, _ => decide
    | 1, _ => decide
    | 2, _ => decide
    | 3, _ => decide
    | 4, _ => decide
    | 5, _ => decide
  omega
theorem ctNs_get (xs : List Int) (q : Nat) (h : q < (ctNs xs).length) : (ctNs xs)[q] = lo6 xs (6 * q) 6 := by
  have h4 : q < 4 := h
  match q, h4 with
  | 0, _ => rfl
  | 1, _ => rfl
  | 2, _ => rfl
  | 3, _ => rfl
theorem take_snoc {xs : List Int} {q : Nat} {n : Int} (h : q < xs.length) (e : n = xs[q]) : xs.take (q + 1) = xs.take q ++ [n] := by
  rw [e, List.take_succ_eq_append_getElem h]

set_option maxHeartbeats 3200000 in
theorem l08Encode_any (ao : Option Addr) (cap : Nat) (xs : List Int) (w : World) (hb : ctB xs = true) (hc : Is w ao xs) :
    Calls Tryz.prog 57 #[.slice ao xs.length cap] w fun e w' => e = .returned (.string (encT xs)) ∧ Below w.heap.size w w' := by
  obtain ⟨j0, hj, hy0, hy1, hy2⟩ := info_parts infoM
  have HCB := hide hb
  have HL := hide (ctB_len hb)
  have HC := hide hc
  have HA : Hid (Below w.heap.size w (w.alloc (.cells #[] 3))) := hide (Joins.below_alloc1 _ _)
  clear hb hc
  go_enter Tryz.func57, Tryz.ntmps57
  go_wp2
  go_loopw [3, 4] (fun o i wr => ∃ (q : Nat) (qo : Option Addr) (qa : Nat), q ≤ 4 ∧ i = .int .i64 (6 * (q : Int)) ∧ o = .slice qo q qa ∧ Hid (OwnR wr w.heap.size 3 1 (.slice qo q qa) q (intV ((ctNs xs).take q))) ∧ Hid (Below w.heap.size w wr)) (fun _ i _ => 24 - (intOf i).toNat)
  case atStart => exact ⟨0, _, _, Nat.zero_le _, rfl, rfl, hide (.inl ⟨rfl, rfl, _, rfl⟩), HA⟩
  case round =>
    obtain ⟨q, qo, qa, hq, rfl, rfl, HO, HB⟩ := hrel
    by_cases hlt : q < 4
    · have hlt' : 6 * (q : Int) < 24 := by omega
      go_wp2
      go_loopw [5, 6] (fun n j wq => ∃ m : Nat, m ≤ 6 ∧ j = .int .i64 (5 - (m : Int)) ∧ n = .int .i64 (hx6 xs (6 * q) m) ∧ Hid (OwnR wq w.heap.size 3 1 (.slice qo q qa) q (intV ((ctNs xs).take q))) ∧ Hid (Below w.heap.size w wq)) (fun _ j _ => (intOf j + 1).toNat)
      case atStart => exact ⟨0, by omega, rfl, rfl, HO, HB⟩
      case round =>
        clear HO HB
        obtain ⟨m, hm, rfl, rfl, HO, HB⟩ := hrel
        by_cases hm5 : m ≤ 5
        · obtain ⟨hh0, hh1⟩ := hx_le (unhide HCB) (6 * q) m hm5
          have hk : 6 * q + (5 - m) < xs.length := by rw [unhide HL]; omega
          have hji : 6 * (q : Int) + (5 - (m : Int)) = ((6 * q + (5 - m) : Nat) : Int) := by omega
          have HS : Hid (hx6 xs (6 * q) (m + 1) = 16 * hx6 xs (6 * q) m + xs[6 * q + (5 - m)]) := hide (by rw [hx6]; simp [List.getD, hk])
          obtain ⟨g0, g1⟩ := ctB_at (unhide HCB) _ hk
          obtain ⟨b, off, rfl, hcl⟩ := (unhide HC).below (unhide HB) _ hk
          have hjl : ((6 * q + (5 - m) : Nat) : Int) < (xs.length : Int) := by omega
          generalize 6 * q + (5 - m) = J at *
          generalize hx6 xs (6 * q) m = V at *
          go_wp2
          go_roundw
          case rel => exact ⟨m + 1, by omega, by go_num, by rw [unhide HS], HO, HB⟩
          case measure => simp [intOf]; omega
        · have HE : Hid (hx6 xs (6 * q) m = (ctNs xs)[q]'(show q < 4 from hlt)) := hide (by rw [show m = 6 by omega, hx_lo]; exact (ctNs_get xs q hlt).symm)
          have HOA := hide ((unhide HO).below (Joins.below_alloc1 _ (.cells #[.int .i64 (hx6 xs (6 * q) m)] 3)))
          have HBA := hide (fr (unhide HB) (Joins.below_alloc1 _ (.cells #[.int .i64 (hx6 xs (6 * q) m)] 3)))
          have HSZ := hide (unhide HB).size
          go_wp2_with (at_builtin; refine wpList_append_one rfl _ _ 22 rfl w.heap.size 3 j0 (.int .i64 0) 1 8 Tryz.underlying22 hj hy0 hy1 hy2 rfl (by omega) qo q qa (intV ((ctNs xs).take q)) rfl (unhide HOA) (by have := unhide HSZ; simp; omega) ⟨wr.heap.size, 0, none⟩ _ [.int .i64 (hx6 xs (6 * q) m)] rfl rfl (byte_news wr _ _) (int_one _) (by unfold maxLen; omega) (by omega) ?_; intro g2 cap2 wA hoA hkA; have HSF := hide (And.intro hoA (keep_below (unhide HBA) (unhide HOA) (Nat.le_refl _) hkA)); clear hoA hkA)
          go_roundw
          case rel => exact ⟨q + 1, _, _, by omega, by go_num, rfl, hide (.inr ⟨by omega, by rw [take_snoc (show q < 4 from hlt) (unhide HE), intV_snoc]; exact (unhide HSF).1⟩), hide (unhide HSF).2⟩
          case measure => simp [intOf]; omega
    · have hq4 : q = 4 := by omega
      subst hq4
      have HT : Hid ((ctNs xs).take 4 = ctNs xs) := hide rfl
      have HON : Hid (Is wr qo (ctNs xs)) := hide (by have := unhide HO; rw [unhide HT] at this; exact ownRN (xs := ctNs xs) this)
      have HIN : Hid (∀ j (h : j < (ctNs xs).length), 0 ≤ (ctNs xs)[j] ∧ (ctNs xs)[j] ≤ 2147483647) := hide (fun j h => by have := ctNs_in (unhide HCB) j h; omega)
      go_wp2_with fail
      refine (l02Seal_any 2 qo qa (ctNs xs) _ (by omega) (show 4 ≤ 16 by omega) (unhide HIN) (unhide HON)).mono ?_
      rintro e w1 ⟨rfl, hb⟩
      have HBE := hide (fr (unhide HB) hb)
      clear hb
      go_wp2
      go_ret
      exact ⟨rfl, unhide HBE⟩

end Go.Proofs.YtpdpnepnfhbonaaGreat

namespace Go.Proofs.YtpdpnepnfhbonaaGreat
open Go.RowKit
set_option linter.unusedVariables false
set_option maxRecDepth 100000

end Go.Proofs.YtpdpnepnfhbonaaGreat

namespace Go.Proofs.YtpdpnepnfhbonaaGreat
open Go.RowKit
set_option linter.unusedVariables false
set_option maxRecDepth 100000

end Go.Proofs.YtpdpnepnfhbonaaGreat

namespace Go.Proofs.YtpdpnepnfhbonaaGreat
open Go.RowKit
set_option linter.unusedVariables false
set_option maxRecDepth 100000

def ch1 (n : Int) (b : UInt8) : Int := 27 * n + ((b.toNat : Int) - 97) % 256 + 1
def nmN (t : ByteArray) : Int := t.data.toList.foldl ch1 0
def lt1 (n : Nat) : UInt8 := UInt8.ofNat (97 + (n + 26) % 27)
theorem ch1_in {n : Int} {b : UInt8} (hb : nm1 b = true) : ch1 n b = 27 * n + ((b.toNat : Int) - 96) := by
  simp only [nm1, Bool.and_eq_true, decide_eq_true_eq] at hb
  unfold ch1
  rw [Int.emod_eq_of_lt (by omega) (by omega)]; omega
theorem fold_lo : ∀ (l : List UInt8), l.all nm1 = true → ∀ n : Int, 0 ≤ n → 0 ≤ l.foldl ch1 n ∧ l.foldl ch1 n + 1 ≤ (n + 1) * 27 ^ l.length
  | [], _, n, hn => ⟨hn, by simp⟩
  | b :: l, h, n, hn => by
    simp only [List.all_cons, Bool.and_eq_true] at h
    have hb := h.1
    simp only [nm1, Bool.and_eq_true, decide_eq_true_eq] at hb
    rw [List.foldl_cons, ch1_in h.1]
    have := fold_lo l h.2 (27 * n + ((b.toNat : Int) - 96)) (by omega)
    refine ⟨this.1, Int.le_trans this.2 ?_⟩
    rw [List.length_cons, Int.pow_succ, Int.mul_comm _ 27, ← Int.mul_assoc]
    exact Int.mul_le_mul_of_nonneg_right (by omega) (Int.pow_nonneg (by omega))
theorem snm_parts {t : ByteArray} (h : snmB t = true) : t.data.toList.all nm1 = true ∧ 1 ≤ t.size ∧ t.size ≤ 6 := by
  simp only [snmB, Bool.and_eq_true] at h
  have := betw_iff.1 h.2
  exact ⟨h.1, by omega, by omega⟩
theorem nmN_in {t : ByteArray} (h : snmB t = true) : 0 ≤ nmN t ∧ nmN t ≤ 387420488 := by
  obtain ⟨h1, h2, h3⟩ := snm_parts h
  have h4 := fold_lo _ h1 0 (by omega)
  have hl : t.data.toList.length = t.size := by simp
  rw [hl] at h4
  refine ⟨h4.1, ?_⟩
  have : (27 : Int) ^ t.size ≤ 387420489 := by rcases (show t.size = 1 ∨ t.size = 2 ∨ t.size = 3 ∨ t.size = 4 ∨ t.size = 5 ∨ t.size = 6 by omega) with e | e | e | e | e | e <;> rw [e] <;> decide
  have h5 := h4.2
  unfold nmN
  omega
def supL (m : Img) : List Int := (m.snaps.length : Int) :: m.snaps.map (fun s => nmN s.name)
def tabU : Nat → List Snp → List Up
  | _, [] => []
  | i, s :: ss => ⟨12 + (i : Int), encTb s.table⟩ :: tabU (i + 1) ss
def datU (m : Img) (c : Nat) : List Up := if 0 < m.refs.getD c 0 then [⟨15 + (c : Int), sealS 4 [m.data.getD c 0]⟩] else []
def headU (m : Img) : List Up := [⟨9, sealS 1 (supL m)⟩, ⟨10, encT m.refs⟩, ⟨11, encTb m.table⟩]
def dataU (m : Img) (k : Nat) : List Up := (List.range k).flatMap (datU m)
def allU (m : Img) : List Up := headU m ++ tabU 0 m.snaps ++ dataU m 24
theorem tabU_len : ∀ (ss : List Snp) (i : Nat), (tabU i ss).length = ss.length
  | [], i => rfl
  | s :: ss, i => by simp only [tabU, List.length_cons, tabU_len ss (i + 1)]
theorem tabU_snoc : ∀ (ss : List Snp) (i : Nat) (s : Snp), tabU i (ss ++ [s]) = tabU i ss ++ [⟨12 + ((i + ss.length : Nat) : Int), encTb s.table⟩]
  | [], i, s => by simp [tabU]
  | a :: ss, i, s => by
    simp only [List.cons_append, tabU, tabU_snoc ss (i + 1) s, List.length_cons]
    rw [show i + 1 + ss.length = i + (ss.length + 1) by omega]
theorem dataU_succ (m : Img) (k : Nat) : dataU m (k + 1) = dataU m k ++ datU m k := by
  unfold dataU
  rw [List.range_succ, List.flatMap_append]; simp
theorem dataU_len (m : Img) : ∀ k, (dataU m k).length ≤ k
  | 0 => by simp [dataU]
  | k + 1 => by
    rw [dataU_succ, List.length_append]
    have := dataU_len m k
    have h2 : (datU m k).length ≤ 1 := by unfold datU; split <;> simp
    omega
theorem allU_len {m : Img} (h : m.snaps.length ≤ 3) : (allU m).length ≤ 30 := by
  unfold allU
  rw [List.length_append, List.length_append, tabU_len]
  have := dataU_len m 24
  have : (headU m).length = 3 := rfl
  omega
def upEq (u v : Up) : Bool := decide (u.at_ = v.at_) && decide (u.data = v.data)
def difU (a b : Img) : List Up := (allU b).filter fun u => !((allU a).any fun v => upEq v u)
def dfA (a b : Img) : List Up × Int := if imB a = true ∧ imB b = true then (difU a b, 0) else ([], 1)

end Go.Proofs.YtpdpnepnfhbonaaGreat

namespace Go.Proofs.YtpdpnepnfhbonaaGreat
open Go.RowKit
set_option linter.unusedVariables false
set_option maxRecDepth 100000

def nmK (t : ByteArray) (k : Nat) : Int := (t.data.toList.take k).foldl ch1 0
theorem nmK_succ {t : ByteArray} {k : Nat} (hk : k < t.size) : nmK t (k + 1) = ch1 (nmK t k) t.data.toList[k] := by
  unfold nmK
  rw [List.take_succ_eq_append_getElem (by simpa using hk), List.foldl_append]; rfl
theorem nmK_all (t : ByteArray) : nmK t t.size = nmN t := by
  unfold nmK nmN
  rw [List.take_of_length_le (by simp)]
theorem ch1_le {n : Int} {b : UInt8} (h0 : 0 ≤ n) : 0 ≤ ch1 n b ∧ ch1 n b ≤ 27 * n + 256 := by
  unfold ch1
  have h1 := Int.emod_nonneg ((b.toNat : Int) - 97) (show (256 : Int) ≠ 0 by decide)
  have h2 := Int.emod_lt_of_pos ((b.toNat : Int) - 97) (show (0 : Int) < 256 by decide)
  omega
theorem tl_lt {t : ByteArray} {k : Nat} (h : k + 1 ≤ t.size) : k < t.data.toList.length := by
  have : t.data.toList.length = t.size := by simp
  omega
def bd27 : Nat → Int
  | 0 => 0
  | k + 1 => 27 * bd27 k + 256
theorem nmK_le (t : ByteArray) : ∀ k, k ≤ t.size → 0 ≤ nmK t k ∧ nmK t k ≤ bd27 k
  | 0, _ => by simp [nmK, bd27]
  | k + 1, h => by
    have h1 := nmK_le t k (by omega)
    rw [nmK_succ (by omega)]
    have h2 := ch1_le (n := nmK t k) (b := t.data.toList[k]'(tl_lt h)) h1.1
    refine ⟨h2.1, Int.le_trans h2.2 ?_⟩
    rw [bd27]
    omega

theorem bd27_le : ∀ k, k ≤ 8 → 0 ≤ bd27 k ∧ bd27 k ≤ 10000000000000 := by
  intro k hk
  rcases (show k = 0 ∨ k = 1 ∨ k = 2 ∨ k = 3 ∨ k = 4 ∨ k = 5 ∨ k = 6 ∨ k = 7 ∨ k = 8 by omega) with rfl | rfl | rfl | rfl | rfl | rfl | rfl | rfl | rfl <;> decide

set_option maxHeartbeats 800000 in
theorem l11Name_any (t : ByteArray) (w : World) (hz : t.size ≤ 8) :
    Calls Tryz.prog 96 #[.string t] w fun e w' => e = .returned (.int .i64 (nmN t)) ∧ w' = w := by
  go_enter Tryz.func96, Tryz.ntmps96
  go_wp2
  go_loop [3, 4] (fun n i => ∃ k : Nat, k ≤ t.size ∧ i = .int .i64 k ∧ n = .int .i64 (nmK t k)) (fun _ i => t.size - (intOf i).toNat)
  case atStart => exact ⟨0, Nat.zero_le _, rfl, rfl⟩
  case round =>
    obtain ⟨k, hk, rfl, rfl⟩ := hrel
    by_cases hlt : k < t.size
    · have hlti : (k : Int) < (t.size : Int) := by omega
      have HS : Hid (nmK t (k + 1) = 27 * nmK t k + ((t[k].toNat : Int) - 97) % 256 + 1) := hide (by
        rw [nmK_succ hlt]
        have e : t.data.toList[k]'(by simpa using hlt) = t[k] := by have := snm_get hlt; rw [List.getElem?_eq_getElem (by simpa using hlt)] at this; exact Option.some.inj this
        rw [e]; rfl)
      obtain ⟨b0, b1⟩ := nmK_le t k hk
      obtain ⟨d0, d1⟩ := bd27_le k (by omega)
      have h1 := Int.emod_nonneg ((t[k].toNat : Int) - 97) (show (256 : Int) ≠ 0 by decide)
      have h2 := Int.emod_lt_of_pos ((t[k].toNat : Int) - 97) (show (0 : Int) < 256 by decide)
      have hu : IntKind.u8.wrap ((t[k].toNat : Int) - 97) = ((t[k].toNat : Int) - 97) % 256 := by simp [IntKind.wrap, IntKind.bits, IntKind.signed]
      generalize nmK t k = X at *
      generalize ((t[k].toNat : Int) - 97) % 256 = D at *
      have w1 : IntKind.i64.wrap (27 * X) = 27 * X := by rw [IntKind.wrap_i64]; omega
      have w2 : IntKind.i64.wrap D = D := by rw [IntKind.wrap_i64]; omega
      have w3 : IntKind.i64.wrap (27 * X + D) = 27 * X + D := by rw [IntKind.wrap_i64]; omega
      have w4 : IntKind.i64.wrap (27 * X + D + 1) = 27 * X + D + 1 := by rw [IntKind.wrap_i64]; omega
      go_wp2
      go_round
      case rel => exact ⟨k + 1, by omega, by go_num, by rw [unhide HS]⟩
      case measure => simp [intOf]; omega
    · obtain rfl : k = t.size := by omega
      have HF := hide (nmK_all t)
      go_wp2
      go_ret
      exact ⟨ret_int (unhide HF), rfl⟩

end Go.Proofs.YtpdpnepnfhbonaaGreat

namespace Go.Proofs.YtpdpnepnfhbonaaGreat
open Go.RowKit Go.Maps
set_option linter.unusedVariables false
set_option maxRecDepth 100000

theorem lawI : Keyed Tryz.prog 3 := int_keyed Tryz.underlying3
theorem zeroI (w : World) : (zeroValue 3).run Tryz.prog w = .ok (.int .i64 0) w := by kernel_rfl
theorem wfI {n : Int} (h0 : -1000000 ≤ n) (h1 : n ≤ 1000000) : (Lit.int .i64 n).wf = true := WalkArith.wf_i64 (by omega)
theorem keyI {i : Nat} (h : i < 24) : keyOf Tryz.prog 3 (.int .i64 (i : Int)) = some (.int .i64 (i : Int)) := keyOf_int_mk Tryz.underlying3 (wfI (by omega) (by omega))
def MpC (w : World) (B n : Nat) (D : DataW Unit) (ns : List Int) : Prop := w.ownsMap Tryz.prog 3 (plainElem Tryz.prog 3) B n D ∧ ns.length = 24 ∧ (∀ i : Nat, i < 24 → D.atKey (.int .i64 (i : Int)) (.lit (.int .i64 0)) = .lit (.int .i64 (ns.getD i 0))) ∧ (∀ kl, has D kl = true → ∃ i : Nat, i < 24 ∧ kl = .int .i64 (i : Int))
theorem MpC.made (w : World) : MpC (w.alloc (.map #[] 0)) w.heap.size 0 (.map []) zero24 := ⟨World.ownsMap_made _ _ _ _, rfl, fun i hi => by
    have e : zero24.getD i 0 = 0 := by
      have h2 : ∀ i : Fin 24, zero24.getD i 0 = 0 := by decide
      exact h2 ⟨i, hi⟩
    rw [e]; rfl, fun kl h => by cases h⟩
theorem MpC.lt {w : World} {B n : Nat} {D : DataW Unit} {ns : List Int} (h : MpC w B n D ns) : B < w.heap.size := h.1.lt
theorem MpC.keep {S : Nat → Prop} {w w' : World} {B n : Nat} {D : DataW Unit} {ns : List Int} (h : MpC w B n D ns) (hk : Keep S w w') (hs : ¬ S B) : MpC w' B n D ns := by
  have hl := h.lt
  obtain ⟨⟨es, clock, hb, F, hn, hD⟩, h2⟩ := h
  exact ⟨⟨es, clock, (hk.block B hl hs).trans hb, F, hn, hD⟩, h2⟩
theorem MpC.below {w w' : World} {B n : Nat} {D : DataW Unit} {ns : List Int} (h : MpC w B n D ns) (hb : Below w.heap.size w w') : MpC w' B n D ns := h.keep (S := fun _ => False) (Keep.of_below hb) (fun h => h)
theorem MpC.mono {w : World} {B n n' : Nat} {D : DataW Unit} {ns : List Int} (h : MpC w B n D ns) (hn : n ≤ n') : MpC w B n' D ns := ⟨h.1.mono hn, h.2⟩
theorem keep_map {w w' : World} {B : Nat} (h : w.grownBy w' (some B)) : Keep (fun g => g = B) w w' := ⟨h.os, h.tape, h.output, h.size, fun k hk hs => h.block k hk (fun e => hs (Option.some.inj e))⟩
theorem MpC.put {w w' : World} {B n i : Nat} {D : DataW Unit} {ns : List Int} {c : Int} (h : MpC w B n D ns) (hi : i < 24) (ho : w'.ownsMap Tryz.prog 3 (plainElem Tryz.prog 3) B (n + 1) (D.put (.int .i64 (i : Int)) (.lit (.int .i64 c)))) : MpC w' B (n + 1) (D.put (.int .i64 (i : Int)) (.lit (.int .i64 c))) (ns.set i c) := by
  have hM : IsMap D := by obtain ⟨es, e, _⟩ := h.1.entries lawI; exact ⟨es, e⟩
  refine ⟨ho, by rw [List.length_set]; exact h.2.1, fun j hj => ?_, fun kl hk => ?_⟩
  · by_cases e : j = i
    · subst e
      rw [atKey_put_same (k := .int .i64 (j : Int)) hM trivial]
      simp [List.getD, h.2.1, hi]
    · rw [atKey_put_other (by intro h2; simp only [Lit.int.injEq, true_and] at h2; omega), h.2.2.1 j hj]
      simp [List.getD, Ne.symm e]
  · by_cases e : kl = .int .i64 (i : Int)
    · exact ⟨i, hi, e⟩
    · rw [has_put_other e] at hk
      exact h.2.2.2 kl hk
theorem MpC.look {w : World} {B n i : Nat} {D : DataW Unit} {ns : List Int} (h : MpC w B n D ns) (hi : i < 24) : (Instr.lookup 135 (.map (some B)) (.int .i64 (i : Int)) false).run Tryz.prog w = .ok (.int .i64 (ns.getD i 0)) w := by
  obtain ⟨c, hrun, hat, hwf⟩ := h.1.lookup_int lawI Tryz.underlying135 Tryz.underlying3 (zeroI _) (keyI hi)
  rw [h.2.2.1 i hi] at hat
  simp only [DataW.lit.injEq, Lit.int.injEq, true_and] at hat
  rw [hat]
  exact hrun
theorem fit_none : ∀ {clock : Nat}, Go.WideElems.Fit (H := Unit) Tryz.prog 3 (plainElem Tryz.prog 3) #[] clock := fun {clock} => ⟨by simp, MapKept.stamped_empty clock, by simp⟩
theorem MpC.clear {w : World} {B n : Nat} {D : DataW Unit} {ns : List Int} (h : MpC w B n D ns) (ty : TypeId) : ∃ w', (Builtin.clear_ #[135] ty #[.map (some B)]).run Tryz.prog w = .ok (.tuple #[]) w' ∧ MpC w' B 0 (.map []) zero24 ∧ Keep (fun g => g = B) w w' := by
  obtain ⟨⟨es, clock, hb, F, hn, hD⟩, h2⟩ := h
  refine ⟨ChangeMaps.setBlock w B (.map #[] clock), ?_, ⟨⟨#[], clock, ChangeMaps.heap_setBlock_same hb _, fit_none, Nat.le_refl _, rfl⟩, (MpC.made w).2⟩, ⟨rfl, rfl, rfl, by simp [ChangeMaps.setBlock], fun k _ hk => ChangeMaps.heap_setBlock_other hb _ hk⟩⟩
  simp [Builtin.clear_, run_underlying Tryz.underlying135, MapKept.run_getObj_map hb, MapKept.run_setObj_map _ hb, Result.andThen, ChangeMaps.setBlock]
theorem wpList_count {w : World} {ops : Array Oper} {rest : List Oper} {o : Oper} {a : Act} {Q : Exit → Act → World → Prop} (hg : o.guard = none) (m x v : Operand) (hop : o.op = Op.mapUpdate 135 m x v)
    {B n i : Nat} {D : DataW Unit} {ns : List Int} {c : Int} (hm : a.eval m = .map (some B)) (h : MpC w B n D ns) (hn : n < 1000000) (hx : a.eval x = .int .i64 (i : Int)) (hi : i < 24) (hv : a.eval v = .int .i64 c) (hc : -1000000 ≤ c ∧ c ≤ 1000000)
    (hK : ∀ w' D', MpC w' B (n + 1) D' (ns.set i c) → Keep (fun g => g = B) w w' → wpList Tryz.prog ops Q rest (a.put o.dst undef) w') : wpList Tryz.prog ops Q (o :: rest) a w :=
  wpList_mapUpdate_own w hg m x v 135 hop 3 3 lawI Tryz.underlying135 _ B n D hm h.1 (by unfold maxLen; omega) _ _ _ hx hv (keyI hi) _ [] (plainElem_int Tryz.underlying3 (wfI hc.1 hc.2)) (fun w' ho hg' => hK w' _ (h.put hi ho) (keep_map hg'))

theorem incr_get (ns : List Int) (hl : ns.length = 24) (c i : Nat) (hc : c < 24) (hi : i < 24) : (incr ns (c : Int)).getD i 0 = ns.getD i 0 + (if i = c then 1 else 0) := by
  rw [incr_set]
  simp only [List.getD, List.getElem?_set]
  by_cases e : i = c
  · subst e; simp [hl, hi]
  · simp [e, Ne.symm e]
theorem fold_incr_get (i : Nat) (hi : i < 24) : ∀ (L : List Int), (∀ c ∈ L, 0 ≤ c ∧ c ≤ 23) → ∀ ns : List Int, ns.length = 24 → (L.foldl incr ns).getD i 0 = ns.getD i 0 + (L.count (i : Int) : Int) := by
  intro L
  induction L with
  | nil => intro _ ns _; simp
  | cons c L ih =>
    intro hL ns hl
    obtain ⟨c0, c1⟩ := hL c (by simp)
    obtain ⟨q, rfl⟩ := Int.eq_ofNat_of_zero_le c0
    rw [List.foldl_cons, ih (fun d hd => hL d (by simp [hd])) _ (by rw [incr_len]; exact hl), incr_get ns hl q i (by omega) hi, List.count_cons]
    by_cases e : i = q
    · subst e; simp; omega
    · have e2 : ¬ ((q : Int) = (i : Int)) := by omega
      simp [e, e2]
theorem nodup_count : ∀ (L : List Int), L.Nodup ↔ ∀ x ∈ L, L.count x ≤ 1 := by
  intro L
  induction L with
  | nil => simp
  | cons c L ih =>
    rw [List.nodup_cons, ih]
    constructor
    · rintro ⟨h1, h2⟩ x hx
      rw [List.count_cons]
      by_cases e : c = x
      · subst e
        rw [List.count_eq_zero_of_not_mem h1]; simp
      · have : x ∈ L := by simpa [Ne.symm e] using hx
        have := h2 x this
        simp [e]; omega
    · intro h
      refine ⟨fun hm => ?_, fun x hx => ?_⟩
      · have h1 := h c (by simp)
        rw [List.count_cons] at h1
        have := List.count_pos_iff.2 hm
        simp at h1; omega
      · have h1 := h x (by simp [hx])
        rw [List.count_cons] at h1
        omega
theorem cl_mem {t : List Int} (h : tbB t = true) : ∀ c ∈ clA t, 0 ≤ c ∧ c ≤ 23 := fun c hc => by
  obtain ⟨j, hj, rfl⟩ := List.mem_iff_getElem.1 hc
  exact clA_in h j hj
theorem cnt1T_get {t : List Int} (h : tbB t = true) {ns : List Int} (hl : ns.length = 24) {i : Nat} (hi : i < 24) : (cnt1T ns t).getD i 0 = ns.getD i 0 + ((clA t).count (i : Int) : Int) := fold_incr_get i hi _ (cl_mem h) ns hl
theorem zero24_get {i : Nat} (hi : i < 24) : zero24.getD i 0 = 0 := by
  have h2 : ∀ i : Fin 24, zero24.getD i 0 = 0 := by decide
  exact h2 ⟨i, hi⟩
theorem once_yes {t : List Int} (h : tbB t = true) (hc : ∀ i, i < 24 → (cnt1T zero24 t).getD i 0 ≤ 1) : onceB t = true := by
  refine decide_eq_true ((nodup_count _).2 fun x hx => ?_)
  obtain ⟨c0, c1⟩ := cl_mem h x hx
  obtain ⟨q, rfl⟩ := Int.eq_ofNat_of_zero_le c0
  have := hc q (by omega)
  rw [cnt1T_get h rfl (by omega), zero24_get (by omega)] at this
  omega
theorem once_no {t : List Int} (h : tbB t = true) {i : Nat} (hi : i < 24) (hc : 1 < (cnt1T zero24 t).getD i 0) : onceB t = false := by
  refine decide_eq_false fun hn => ?_
  rw [cnt1T_get h rfl hi, zero24_get hi] at hc
  have hm : (i : Int) ∈ clA t := List.count_pos_iff.1 (by omega)
  have := (nodup_count _).1 hn _ hm
  omega

end Go.Proofs.YtpdpnepnfhbonaaGreat

namespace Go.Proofs.YtpdpnepnfhbonaaGreat
open Go.RowKit
set_option linter.unusedVariables false
set_option maxRecDepth 100000

set_option maxHeartbeats 800000 in
theorem tableOK_impl (ao : Option Addr) (cap : Nat) (xs : List Int) (w : World) (hl : xs.length ≤ maxLen) (hc : Is w ao xs) :
    Calls Tryz.prog 135 #[.slice ao xs.length cap] w fun e w' => e = .returned (.bool (tbB xs)) ∧ w' = w := by
  have HC := hide hc
  clear hc
  unfold maxLen at hl
  by_cases hlong : 12 < xs.length
  · have HF := hide (tbB_nolen (xs := xs) (by omega))
    go_enter Tryz.func135, Tryz.ntmps135
    go_wp2
    go_ret
    exact ⟨ret_bool (unhide HF).symm, rfl⟩
  go_enter Tryz.func135, Tryz.ntmps135
  go_wp2
  go_loop [10] (fun i => ∃ k : Nat, k ≤ xs.length ∧ i = .int .i64 k ∧ Hid (∀ j (h : j < xs.length), j < k → ent1 xs[j] = true)) (fun i => xs.length - (intOf i).toNat)
  case atStart => exact ⟨0, Nat.zero_le _, rfl, hide (fun j _ h => by omega)⟩
  case round =>
    obtain ⟨k, hk, rfl, HA⟩ := hrel
    by_cases hlt : k < xs.length
    · obtain ⟨b, off, rfl, hc⟩ := unhide HC k hlt
      by_cases hn : ent1 xs[k] = true
      · have HN := hide (all_succ hlt (unhide HA) hn)
        have hn' : betw xs[k] 0 25 = true := hn
        clear hn
        go_wp2_with (go_at_call 124; refine (within_any _ _ _ _).mono ?_; rintro e w' ⟨rfl, rfl⟩)
        go_round
        case rel => exact ⟨k + 1, by omega, by go_num, HN⟩
        case measure => simp [intOf]; omega
      · have hn0 : ent1 xs[k] = false := by simpa using hn
        have hn' : betw xs[k] 0 25 = false := hn0
        have HF := hide (tbB_noat hlt hn0)
        clear hn hn0
        go_wp2_with (go_at_call 124; refine (within_any _ _ _ _).mono ?_; rintro e w' ⟨rfl, rfl⟩)
        go_ret
        exact ⟨ret_bool (unhide HF).symm, rfl⟩
    · have HF := hide (tbB_of (xs := xs) (by omega) (fun j h => unhide HA j h (by omega)))
      go_wp2
      go_ret
      exact ⟨ret_bool (unhide HF).symm, rfl⟩

theorem splitEntry_any (n : Int) (w : World) (h0 : -1000 ≤ n) (h1 : n ≤ 1000) :
    Calls Tryz.prog 147 #[.int .i64 n] w fun e w' => e = .returned (.tuple #[.int .i64 (min n 2), .int .i64 (max 0 (n - 2))]) ∧ w' = w := by
  by_cases h : n < 2
  · have HM : Hid (n = min n 2 ∧ (0 : Int) = max 0 (n - 2)) := hide ⟨by omega, by omega⟩
    go_enter Tryz.func147, Tryz.ntmps147
    go_wp2
    go_ret2
    exact ⟨ret_two2 (unhide HM).1 (unhide HM).2, rfl⟩
  · have HM : Hid ((2 : Int) = min n 2 ∧ n - 2 = max 0 (n - 2)) := hide ⟨by omega, by omega⟩
    have hw2 : IntKind.i64.wrap (n - 2) = n - 2 := by rw [IntKind.wrap_i64]; omega
    go_enter Tryz.func147, Tryz.ntmps147
    go_wp2
    go_ret2
    exact ⟨ret_two2 (unhide HM).1 (unhide HM).2, rfl⟩

end Go.Proofs.YtpdpnepnfhbonaaGreat

namespace Go.Proofs.YtpdpnepnfhbonaaGreat
open Go.RowKit
set_option linter.unusedVariables false
set_option maxRecDepth 100000

theorem clusterOfData_any (k c : Int) (w : World) :
    Calls Tryz.prog 153 #[.int .i64 k, .int .i64 c] w fun e w' => e = .returned (.tuple #[.int .i64 c, .bool (k == 2)]) ∧ w' = w := by
  go_enter Tryz.func153, Tryz.ntmps153
  go_wp2
  go_ret2
  exact ⟨rfl, rfl⟩

set_option maxHeartbeats 1600000 in
theorem takeEntries_any (ao : Option Addr) (cap : Nat) (xs : List Int) (w : World) (hl : xs.length ≤ 1048576) (hi : ∀ j (h : j < xs.length), -1000 ≤ xs[j] ∧ xs[j] ≤ 1000) (hc : Is w ao xs) :
    Calls Tryz.prog 152 #[.slice ao xs.length cap, .func (.func 153) #[] #[]] w fun e w' => ∃ v, e = .returned v ∧ OwnN w' w.heap.size v (clA xs) ∧ Below w.heap.size w w' := by
  obtain ⟨j0, hj, hy0, hy1, hy2⟩ := info_parts infoM
  have HC := hide hc
  have HI := hide hi
  clear hc hi
  go_enter Tryz.func152, Tryz.ntmps152
  go_wp2
  go_loopw [5, 12] (fun o i wr => ∃ (k : Nat) (ys : List Int) (qo : Option Addr) (qa : Nat), k ≤ xs.length ∧ i = .int .i64 k ∧ o = .slice qo ys.length qa ∧ Hid (ys = clTo xs k) ∧ Hid (OwnR wr w.heap.size 3 1 (.slice qo ys.length qa) ys.length (intV ys)) ∧ Hid (Below w.heap.size w wr)) (fun _ i _ => xs.length - (intOf i).toNat)
  case atStart => exact ⟨0, [], _, _, Nat.zero_le _, rfl, rfl, hide rfl, hide (.inl ⟨rfl, rfl, _, rfl⟩), hide (Below.refl _ _)⟩
  case round =>
    obtain ⟨k, ys, qo, qa, hk, rfl, rfl, HE, HO, HB⟩ := hrel
    by_cases hlt : k < xs.length
    · obtain ⟨b, off, rfl, hcl⟩ := (unhide HC).below (unhide HB) k hlt
      have HIK := hide (unhide HI k hlt)
      by_cases h2 : 2 ≤ xs[k]
      · have HS := hide (clTo_data hlt h2)
        have HYL : Hid (ys.length ≤ 1048576) := hide (by rw [unhide HE]; have := clTo_len xs k; omega)
        have hyl := unhide HYL
        have HV : Hid (min xs[k] 2 = 2 ∧ max 0 (xs[k] - 2) = xs[k] - 2) := hide ⟨by omega, by omega⟩
        have HOA := hide ((unhide HO).below (Joins.below_alloc1 _ (.cells #[.int .i64 (xs[k] - 2)] 3)))
        have HBA := hide (fr (unhide HB) (Joins.below_alloc1 _ (.cells #[.int .i64 (xs[k] - 2)] 3)))
        have HSZ := hide (unhide HB).size
        clear h2
        go_wp2_with (first | (go_at_call 147; refine (splitEntry_any _ _ (by have := unhide HIK; omega) (by have := unhide HIK; omega)).mono ?_; rintro e w' ⟨rfl, hw⟩; replace hw := hw.symm; subst hw; rw [(unhide HV).1, (unhide HV).2]) | (go_at_call 153; refine (clusterOfData_any _ _ _).mono ?_; rintro e w' ⟨rfl, hw⟩; replace hw := hw.symm; subst hw) | (at_builtin; refine wpList_append_one rfl _ _ 22 rfl w.heap.size 3 j0 (.int .i64 0) 1 8 Tryz.underlying22 hj hy0 hy1 hy2 rfl (by omega) qo ys.length qa (intV ys) rfl (unhide HOA) (by have := unhide HSZ; simp; omega) ⟨wr.heap.size, 0, none⟩ _ [.int .i64 (xs[k] - 2)] rfl rfl (byte_news wr _ _) (int_one _) (by unfold maxLen; omega) (by omega) ?_; intro g2 cap2 wA hoA hkA; have HSF := hide (And.intro hoA (keep_below (unhide HBA) (unhide HOA) (Nat.le_refl _) hkA)); clear hoA hkA))
        go_roundw
        case rel => exact ⟨k + 1, ys ++ [xs[k] - 2], some ⟨g2, 0, none⟩, cap2, by omega, by go_num, by simp, hide (by rw [unhide HS, unhide HE]), hide (by rw [List.length_append, intV_snoc]; exact .inr ⟨by simp, (unhide HSF).1⟩), hide (unhide HSF).2⟩
        case measure => simp [intOf]; omega
      · have HS := hide (clTo_none hlt h2)
        have HV : Hid (min xs[k] 2 = xs[k] ∧ max 0 (xs[k] - 2) = 0) := hide ⟨by omega, by omega⟩
        have hb2 : (xs[k] == 2) = false := beq_eq_false_iff_ne.2 (by omega)
        clear h2
        go_wp2_with (first | (go_at_call 147; refine (splitEntry_any _ _ (by have := unhide HIK; omega) (by have := unhide HIK; omega)).mono ?_; rintro e w' ⟨rfl, hw⟩; replace hw := hw.symm; subst hw; rw [(unhide HV).1, (unhide HV).2]) | (go_at_call 153; refine (clusterOfData_any _ _ _).mono ?_; rintro e w' ⟨rfl, hw⟩; replace hw := hw.symm; subst hw; rw [hb2]))
        go_roundw
        case rel => exact ⟨k + 1, ys, qo, qa, by omega, by go_num, rfl, hide (by rw [unhide HS, unhide HE]), HO, HB⟩
        case measure => simp [intOf]; omega
    · have HS : Hid (clA xs = ys) := hide (by rw [unhide HE, clA, show k = xs.length by omega])
      go_wp2
      go_ret
      exact ⟨.slice qo ys.length qa, rfl, by rw [unhide HS]; exact ⟨qo, qa, rfl, unhide HO⟩, unhide HB⟩

end Go.Proofs.YtpdpnepnfhbonaaGreat
