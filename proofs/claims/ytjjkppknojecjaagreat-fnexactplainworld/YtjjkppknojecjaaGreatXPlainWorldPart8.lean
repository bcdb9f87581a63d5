import Derived.Test.YtjjkppknojecjaaGreatRows
import Derived.Test.YtjjkppknojecjaaGreatXPlainWorldPart1
import Derived.Test.YtjjkppknojecjaaGreatXPlainWorldPart6
import Derived.Test.YtjjkppknojecjaaGreatXPlainWorldPart7
import Derived.WalkKit
import Derived.WalkSpells
import Derived.Deep.RegionLawGrows
import Derived.Deep.RegionLaw
import Derived.Deep.AppendLies
import Derived.KernelRfl
import Derived.Lib.SmallJoins
import Derived.Deep.RegionHeld3
import Derived.Test.YtjjkppknojecjaaGreatXPlainWorldPart3
import Derived.LoopN
import Derived.BigQuiet
import Derived.Deep.QuietTactic
import Derived.Deep.CutRange
import Derived.Deep.RegionWith
import Derived.Test.YtjjkppknojecjaaGreatXPlainWorldPart2
import Derived.Maps.Own
import Derived.Maps.OwnOps
import Derived.Maps.OwnSet
import Derived.Maps.RangeWalk
import Derived.Maps.Views
import Derived.Test.YtjjkppknojecjaaGreatXPlainWorldPart5
import Derived.Deep.MidRow
import Derived.Deep.Quiet

namespace Go.Proofs.YtjjkppknojecjaaGreat
open Go.RowKit
set_option linter.unusedVariables false

theorem write_end {w wL : World} {g k cap : Nat} {cs : List Value} (ho : wL.ownsRow (w.heap.size + 1 + 1 + 1) 95 3 (.slice (some ⟨g, 0, none⟩) k cap) k cs) (hb : Below w.heap.size w wL) (a b c : Value) :
    (((wL.setCell ⟨w.heap.size, 1, none⟩ a).setCell ⟨w.heap.size + 1 + 1, 0, none⟩ b).setCell ⟨w.heap.size + 1 + 1, 1, none⟩ c).ownsRow w.heap.size 95 3 (.slice (some ⟨g, 0, none⟩) k cap) k cs ∧ Below w.heap.size w (((wL.setCell ⟨w.heap.size, 1, none⟩ a).setCell ⟨w.heap.size + 1 + 1, 0, none⟩ b).setCell ⟨w.heap.size + 1 + 1, 1, none⟩ c) :=
  ⟨own_base (ownsRow_setCell_below (ownsRow_setCell_below (ownsRow_setCell_below ho (a := ⟨w.heap.size, 1, none⟩) (by simp; omega) a) (a := ⟨w.heap.size + 1 + 1, 0, none⟩) (by simp) b) (a := ⟨w.heap.size + 1 + 1, 1, none⟩) (by simp) c) (by omega),
    ((hb.setCell (p := ⟨w.heap.size, 1, none⟩) (by simp) a).setCell (p := ⟨w.heap.size + 1 + 1, 0, none⟩) (by simp; omega) b).setCell (p := ⟨w.heap.size + 1 + 1, 1, none⟩) (by simp; omega) c⟩

set_option maxRecDepth 100000 in
set_option maxHeartbeats 6400000 in
theorem l01Write_any (ao bo : Option Addr) (n ca cb : Nat) (xs : List Wr) (x : Wr) (w : World) (hm : xs.length ≤ 1048576) (h2 : Ios w bo xs) :
    Calls Tryz.prog 63 #[.agg #[.slice ao n ca, .slice bo xs.length cb], .agg #[.int .i64 x.host, .int .i64 x.at_, .string x.data]] w fun e w' => ∃ g cap, e = .returned (.agg #[.slice ao n ca, .slice (some ⟨g, 0, none⟩) (xs.length + 1) cap]) ∧ w'.ownsRow w.heap.size 95 3 (.slice (some ⟨g, 0, none⟩) (xs.length + 1) cap) (xs.length + 1) (ioV (xs ++ [x])) ∧ Below w.heap.size w w' := by
  have HA := hide (Joins.below_alloc3 w (.cells #[.slice ao n ca, .slice bo xs.length cb] 27) (.cells #[.int .i64 x.host, .int .i64 x.at_, .string x.data] 95) (.cells #[.slice none 0 0, .slice none 0 0] 27))
  have HX := hide (h2.below (unhide HA))
  have HV := hide ((VarD.new w (.slice ao n ca) (.slice bo xs.length cb)).below (Joins.below_alloc2 _ (.cells #[.int .i64 x.host, .int .i64 x.at_, .string x.data] 95) (.cells #[.slice none 0 0, .slice none 0 0] 27)))
  have HR : Hid (VarD (((w.alloc (.cells #[.slice ao n ca, .slice bo xs.length cb] 27)).alloc (.cells #[.int .i64 x.host, .int .i64 x.at_, .string x.data] 95)).alloc (.cells #[.slice none 0 0, .slice none 0 0] 27)) (w.heap.size + 1 + 1) (.slice none 0 0) (.slice none 0 0)) := hide (by have := VarD.new ((w.alloc (.cells #[.slice ao n ca, .slice bo xs.length cb] 27)).alloc (.cells #[.int .i64 x.host, .int .i64 x.at_, .string x.data] 95)) (.slice none 0 0) (.slice none 0 0); simp only [World.size_alloc] at this; exact this)
  have HI : Hid (VarI (((w.alloc (.cells #[.slice ao n ca, .slice bo xs.length cb] 27)).alloc (.cells #[.int .i64 x.host, .int .i64 x.at_, .string x.data] 95)).alloc (.cells #[.slice none 0 0, .slice none 0 0] 27)) (w.heap.size + 1) x) := hide (VarI.below (by have := VarI.new (w.alloc (.cells #[.slice ao n ca, .slice bo xs.length cb] 27)) x; simp only [World.size_alloc] at this; exact this) (Joins.below_alloc1 _ _))
  clear h2
  obtain ⟨j0, hj, hy0, hy1, hy2⟩ := info_parts infoW
  go_enter Tryz.func63, Tryz.ntmps63
  go_wp2
  go_region_law
    (first
      | (refine (step_append_fresh ?_ (.tmp 5) (.tmp 7) 25 ?_ 95 j0 (.agg #[.int .i64 0, .int .i64 0, .string ⟨#[]⟩]) 3 32 Tryz.underlying25 hj hy0 hy1 hy2 ?_ ?_ ?_ bo xs.length cb (ioV xs) ?_ ?_ ?_ ?_ ?_ ?_)
         · rfl
         · rfl
         · rfl
         · omega
         · rfl
         · rfl
         · rw [ioV_length]
         · refine Ios.src ((unhide HX).below ?_)
           repeat (first | exact Below.refl _ _ | exact hbA | refine Below.drew ?_ | refine belowAl ?_ _)
         · unfold maxLen; omega
         · omega
         intro qo qa wA hoA hgA
         have hbA : Below (((w.alloc (.cells #[.slice ao n ca, .slice bo xs.length cb] 27)).alloc (.cells #[.int .i64 x.host, .int .i64 x.at_, .string x.data] 95)).alloc (.cells #[.slice none 0 0, .slice none 0 0] 27)).heap.size (((w.alloc (.cells #[.slice ao n ca, .slice bo xs.length cb] 27)).alloc (.cells #[.int .i64 x.host, .int .i64 x.at_, .string x.data] 95)).alloc (.cells #[.slice none 0 0, .slice none 0 0] 27)) wA := belowGr (by repeat (first | exact Below.refl _ _ | exact hbA | refine Below.drew ?_ | refine belowAl ?_ _)) hgA
         obtain ⟨hA0, hA1⟩ := ((unhide HV).below hbA).cells
         obtain ⟨hA2, hA3, hA4⟩ := ((unhide HI).below hbA).cells)
      | (refine (step_append_at ?_ (.tmp 8) (.tmp 10) 25 ?_ (w.heap.size + 1 + 1 + 1) 95 j0 (.agg #[.int .i64 0, .int .i64 0, .string ⟨#[]⟩]) 3 32 Tryz.underlying25 hj hy0 hy1 hy2 ?_ ?_ qo xs.length qa (ioV xs) ?_ ?_ ?_ (wrV x) ?_ ?_ ?_ ?_ ?_ ?_)
         · rfl
         · rfl
         · rfl
         · omega
         · rfl
         · refine OwnR.base (OwnR.below hoA ?_) ?_
           · repeat (first | exact Below.refl _ _ | refine Below.drew ?_ | refine belowAl ?_ _)
           · first | omega | (simp <;> omega)
         · have := hbA.size
           simp at this ⊢
           omega
         · refine ⟨_, _, rfl, VarI.news ?_⟩
           first | exact VarI.new _ _ | (refine VarI.grown ?_ hgA; refine VarI.drew ?_; refine VarI.top ?_; simp) | (refine VarI.grown ?_ hgA; refine VarI.drew ?_; refine VarI.under ?_ _; refine VarI.top ?_; simp)
         · rfl
         · exact wrV_one x
         · unfold maxLen; omega
         · omega
         intro g cap wB hoB hkB
         have hkA := hkB
         have hbB : Below (((w.alloc (.cells #[.slice ao n ca, .slice bo xs.length cb] 27)).alloc (.cells #[.int .i64 x.host, .int .i64 x.at_, .string x.data] 95)).alloc (.cells #[.slice none 0 0, .slice none 0 0] 27)).heap.size (((w.alloc (.cells #[.slice ao n ca, .slice bo xs.length cb] 27)).alloc (.cells #[.int .i64 x.host, .int .i64 x.at_, .string x.data] 95)).alloc (.cells #[.slice none 0 0, .slice none 0 0] 27)) wB := belowKp (by repeat (first | exact hbA | refine Below.drew ?_ | refine belowAl ?_ _)) hkB (fun j hj => Nat.le_trans (by first | (simp; done) | (simp; omega)) (hoA.ge j hj).1)
         obtain ⟨hB0, hB1⟩ := ((unhide HV).below hbB).cells
         have hB6 := ((unhide HV).below hbB).free 1
         obtain ⟨hB2, hB3⟩ := ((unhide HR).below hbB).cells
         have hB4 := ((unhide HR).below hbB).free 0
         have hB5 := ((unhide HR).below hbB).free 1
         obtain ⟨hB7, hB8, hB9⟩ := ((unhide HI).below hbB).cells))
  all_goals
    have HL := hide (write_end (w := w) (wL := wB) hoB (fr (unhide HA) hbB) (.slice (some ⟨g, 0, none⟩) (xs.length + 1) cap) (.slice ao n ca) (.slice (some ⟨g, 0, none⟩) (xs.length + 1) cap))
    clear hoA hoB hgA hkA hkB hbA hbB hA0 hA1 hA2 hA3 hA4 hB7 hB8 hB9
    go_wp2
    exact bodyPost_ret (v := .agg #[.slice ao n ca, .slice (some ⟨g, 0, none⟩) (xs.length + 1) cap]) (by simp [results, Tryz.results63, go_sem, hB2, hB3]) rfl ⟨_, _, rfl, by rw [ioV_snoc]; exact (unhide HL).1, (unhide HL).2⟩

end Go.Proofs.YtjjkppknojecjaaGreat

namespace Go.Proofs.YtjjkppknojecjaaGreat
open Go.RowKit
set_option linter.unusedVariables false
set_option maxRecDepth 100000

end Go.Proofs.YtjjkppknojecjaaGreat

namespace Go.Proofs.YtjjkppknojecjaaGreat
open Go.RowKit
set_option linter.unusedVariables false
set_option maxRecDepth 100000

end Go.Proofs.YtjjkppknojecjaaGreat

namespace Go.Proofs.YtjjkppknojecjaaGreat
open Go.RowKit
set_option linter.unusedVariables false

theorem three {l : List Int} (h : l.length = 3) : ∃ a b c, l = [a, b, c] := by
  match l, h with
  | [a, b, c], _ => exact ⟨a, b, c, rfl⟩
def VarT (w : World) (x : Nat) (t : TypeId) (h g s : Int) : Prop := w.heap[x]? = some (.cells #[.int .i64 h, .int .i64 g, .int .i64 s] t (0, 0))
theorem VarT.lt {w : World} {x t : Nat} {h g s : Int} (k : VarT w x t h g s) : x < w.heap.size := (Array.getElem?_eq_some_iff.1 k).1
theorem VarT.cells {w : World} {x t : Nat} {h g s : Int} (k : VarT w x t h g s) : w.cell? ⟨x, 0, none⟩ = some (.int .i64 h) ∧ w.cell? ⟨x, 1, none⟩ = some (.int .i64 g) ∧ w.cell? ⟨x, 2, none⟩ = some (.int .i64 s) := ⟨by rw [Joins.cell_of_block k]; rfl, by rw [Joins.cell_of_block k]; rfl, by rw [Joins.cell_of_block k]; rfl⟩
theorem VarT.free {w : World} {x t : Nat} {h g s : Int} (k : VarT w x t h g s) : w.frozen? ⟨x, 0, none⟩ = false ∧ w.frozen? ⟨x, 1, none⟩ = false ∧ w.frozen? ⟨x, 2, none⟩ = false := ⟨Joins.unfrozen_of_block k 0, Joins.unfrozen_of_block k 1, Joins.unfrozen_of_block k 2⟩
theorem VarT.below {w w' : World} {x t : Nat} {h g s : Int} (k : VarT w x t h g s) (hb : Below w.heap.size w w') : VarT w' x t h g s := by
  unfold VarT; rw [hb.block x k.lt]; exact k
theorem VarT.keep {S : Nat → Prop} {w w' : World} {x t : Nat} {h g s : Int} (k : VarT w x t h g s) (hk : Keep S w w') (hs : ¬ S x) : VarT w' x t h g s := by
  unfold VarT; rw [hk.block x k.lt hs]; exact k
theorem VarT.new (w : World) (t : TypeId) (h g s : Int) : VarT (w.alloc (.cells #[.int .i64 h, .int .i64 g, .int .i64 s] t)) w.heap.size t h g s := heap_alloc_new w _

end Go.Proofs.YtjjkppknojecjaaGreat

namespace Go.Proofs.YtjjkppknojecjaaGreat
open Go.RowKit
set_option linter.unusedVariables false
set_option maxRecDepth 100000

end Go.Proofs.YtjjkppknojecjaaGreat

namespace Go.Proofs.YtjjkppknojecjaaGreat
open Go.RowKit
set_option linter.unusedVariables false
set_option maxRecDepth 100000

theorem put_land {ss : List ByteArray} {xs : List Wr} {h : Int} (hl : xs.length ≤ 200) : (landF h false ss xs 200).1 = putW ss (ofH h xs) ∧ (landF h false ss xs 200).2.1 = dropF h xs := by
  have hc : (ofH h xs).length ≤ 200 := Nat.le_trans (List.length_filter_le _ _) hl
  obtain ⟨p1, p2⟩ := landF_put h ss xs 200
  have p1' : (landF h false ss xs 200).1 = putW ss ((ofH h xs).take 200) := p1
  have p2' : (landF h false ss xs 200).2.1 = remH h 200 xs := p2
  rw [List.take_of_length_le hc] at p1'
  rw [rem_all 200 xs hc] at p2'
  exact ⟨p1', p2'⟩
theorem l01Flush_put (ao bo : Option Addr) (ca cb : Nat) (ss : List ByteArray) (xs : List Wr) (h : Int) (n m : Nat) (S : List ByteArray) (X : List Wr) (w : World) (hn : ss.length = n) (hm : xs.length = m) (hS : putW ss (ofH h xs) = S) (hX : dropF h xs = X) (hd : diskB ss xs = true) (h1 : Ss w ao ss) (h2 : Ios w bo xs) :
    Calls Tryz.prog 64 #[.agg #[.slice ao n ca, .slice bo m cb], .int .i64 h] w fun e w' => ∃ po pa qo qa, e = .returned (.agg #[.slice po n pa, .slice qo X.length qa]) ∧ OwnD w' w.heap.size po n pa qo X.length qa S X ∧ Below w.heap.size w w' := by
  subst hn hm hS hX
  obtain ⟨l1, l2⟩ := diskB_len hd
  obtain ⟨e1, e2⟩ := put_land (ss := ss) (h := h) l2
  have k := l01Flush_any ao bo ca cb ss xs h 200 w rfl (by decide) (by omega) l2 (diskB_at hd) h1 h2
  rw [e1, e2] at k
  exact k

end Go.Proofs.YtjjkppknojecjaaGreat

namespace Go.Proofs.YtjjkppknojecjaaGreat
open Go.RowKit
set_option linter.unusedVariables false

structure UpS (w W : World) (qo : Option Addr) (n qa : Nat) (us : List Up) : Prop where
  o : OwnR W w.heap.size 77 2 (.slice qo n qa) n (upsV us)
  k : Below w.heap.size w W
theorem UpS.next {w W W' : World} {qo : Option Addr} {n qa : Nat} {us : List Up} (h : UpS w W qo n qa us) (hb : Below W.heap.size W W') : UpS w W' qo n qa us := ⟨h.o.below hb, fr h.k hb⟩
def upV (x : Up) : List Value := [.int .i64 x.at_, .string x.data]
theorem upV_one (x : Up) : ∀ u ∈ upV x, u.oneCell' = true := by
  intro u hu
  simp [upV] at hu
  rcases hu with rfl | rfl <;> rfl
theorem UpS.one {w W W' : World} {qo : Option Addr} {n qa g cap : Nat} {us : List Up} {x : Up} (h : UpS w W qo n qa us)
    (ho : W'.ownsRow w.heap.size 77 2 (.slice (some ⟨g, 0, none⟩) (n + 1) cap) (n + 1) (upsV us ++ upV x)) (hk : Keep (Own (.slice qo n qa)) W W') : UpS w W' (some ⟨g, 0, none⟩) (n + 1) cap (us ++ [x]) := by
  refine ⟨.inr ⟨by omega, ?_⟩, belowKp h.k hk (fun j hj => (h.o.ge j hj).1)⟩
  rw [upsV_append]; exact ho
theorem UpS.sz {w W : World} {qo : Option Addr} {n qa : Nat} {us : List Up} (h : UpS w W qo n qa us) : w.heap.size ≤ W.heap.size := h.k.size
theorem UpS.len {w W : World} {qo : Option Addr} {n qa : Nat} {us : List Up} (h : UpS w W qo n qa us) : n = us.length := by
  have := h.o.len; rw [upsV_length] at this; omega
theorem news2_at (w : World) (n : Nat) (x : Up) (t : TypeId) (hn : w.heap.size = n) : ∀ j u, (upV x)[j]? = some u → (w.alloc (.cells #[.int .i64 x.at_, .string x.data] t)).cell? ((⟨n, 0, none⟩ : Addr).add j) = some u := by
  subst hn
  exact World.news_of_block (cs := #[.int .i64 x.at_, .string x.data]) (heap_alloc_new w _)
structure GotU (W0 W : World) (C : Nat) (t : TypeId) (u : Up) : Prop where
  k : Below W0.heap.size W0 W
  v : VarU W C t u
  c : W0.heap.size ≤ C
theorem GotU.top {W0 W : World} (t : TypeId) (u : Up) (h : Below W0.heap.size W0 W) : GotU W0 (W.alloc (.cells #[.int .i64 u.at_, .string u.data] t)) W.heap.size t u := ⟨belowAl h _, VarU.new W t u, h.size⟩
theorem GotU.set {W0 W : World} {t : TypeId} {u u0 : Up} {C : Nat} (h : Below W0.heap.size W0 W) (hv : VarU W C t u0) (hC : W0.heap.size ≤ C) : GotU W0 ((W.setCell ⟨C, 0, none⟩ (.int .i64 u.at_)).setCell ⟨C, 1, none⟩ (.string u.data)) C t u :=
  ⟨below2 h hC 0 1 _ _, Joins.block_setCell (i := 1) (Joins.block_setCell (i := 0) hv _) _, hC⟩
end Go.Proofs.YtjjkppknojecjaaGreat

namespace Go.Proofs.YtjjkppknojecjaaGreat
open Go.RowKit
set_option linter.unusedVariables false
set_option maxRecDepth 100000

abbrev wV (x : Wr) : Value := .agg #[.int .i64 x.host, .int .i64 x.at_, .string x.data]
theorem l01Write_len (ao bo : Option Addr) (n m ca cb : Nat) (xs : List Wr) (x : Wr) (w : World) (hm' : m = xs.length) (hm : xs.length ≤ 1048576) (h2 : Ios w bo xs) (hz : ∀ y ∈ xs ++ [x], y.data.size ≤ maxLen) :
    Calls Tryz.prog 63 #[.agg #[.slice ao n ca, .slice bo m cb], wV x] w fun e w' => ∃ g cap, e = .returned (.agg #[.slice ao n ca, .slice (some ⟨g, 0, none⟩) (m + 1) cap]) ∧ Ios w' (some ⟨g, 0, none⟩) (xs ++ [x]) ∧ Below w.heap.size w w' := by
  subst hm'
  refine (l01Write_any ao bo n ca cb xs x w hm h2).mono ?_
  rintro e w' ⟨g, cap, rfl, ho, hb⟩
  exact ⟨g, cap, rfl, ownI (xs := xs ++ [x]) (by rw [List.length_append]; exact ho) hz, hb⟩

end Go.Proofs.YtjjkppknojecjaaGreat

namespace Go.Proofs.YtjjkppknojecjaaGreat
open Go.RowKit
set_option linter.unusedVariables false
set_option maxRecDepth 100000

theorem md_end {w W : World} {R n m pa qa : Nat} {po qo : Option Addr} {SS : List ByteArray} {XX : List Wr} (hR : VarD W R (.slice none 0 0) (.slice none 0 0)) (hb : Below w.heap.size w W) (hr : w.heap.size ≤ R) (ho : OwnD W w.heap.size po n pa qo m qa SS XX) (u v : Value) :
    OwnD ((W.setCell ⟨R, 0, none⟩ u).setCell ⟨R, 1, none⟩ v) w.heap.size po n pa qo m qa SS XX ∧ Below w.heap.size w ((W.setCell ⟨R, 0, none⟩ u).setCell ⟨R, 1, none⟩ v) :=
  ⟨ho.keep (((Keep.refl (fun j => j = R) W).setCell (p := ⟨R, 0, none⟩) rfl u).setCell (p := ⟨R, 1, none⟩) rfl v) (fun g hg e => ho.other hR (by decide) (by decide) (e ▸ hg)), below2 hb hr 0 1 u v⟩

end Go.Proofs.YtjjkppknojecjaaGreat

namespace Go.Proofs.YtjjkppknojecjaaGreat
open Go.RowKit Go.Maps
set_option linter.unusedVariables false
set_option maxRecDepth 100000

theorem lawI : Keyed Tryz.prog 3 := int_keyed Tryz.underlying3
def MpC (w : World) (B n : Nat) (D : DataW Unit) (ns : List Int) : Prop := w.ownsMap Tryz.prog 3 (plainElem Tryz.prog 3) B n D ∧ ns.length = 24 ∧ (∀ i : Nat, i < 24 → D.atKey (.int .i64 (i : Int)) (.lit (.int .i64 0)) = .lit (.int .i64 (ns.getD i 0))) ∧ (∀ kl, has D kl = true → ∃ i : Nat, i < 24 ∧ kl = .int .i64 (i : Int))
theorem MpC.made (w : World) : MpC (w.alloc (.map #[] 0)) w.heap.size 0 (.map []) zero24 := ⟨World.ownsMap_made _ _ _ _, rfl, fun i hi => by
    have e : zero24.getD i 0 = 0 := by
      have h2 : ∀ i : Fin 24, zero24.getD i 0 = 0 := by decide
      exact h2 ⟨i, hi⟩
    rw [e]; rfl, fun kl h => by cases h⟩
theorem MpC.lt {w : World} {B n : Nat} {D : DataW Unit} {ns : List Int} (h : MpC w B n D ns) : B < w.heap.size := h.1.lt
theorem MpC.keep {S : Nat → Prop} {w w' : World} {B n : Nat} {D : DataW Unit} {ns : List Int} (h : MpC w B n D ns) (hk : Keep S w w') (hs : ¬ S B) : MpC w' B n D ns := by
  have hl := h.lt
  obtain ⟨⟨es, clock, hb, F, hn, hD⟩, h2⟩ := h
  exact ⟨⟨es, clock, (hk.block B hl hs).trans hb, F, hn, hD⟩, h2⟩
theorem MpC.below {w w' : World} {B n : Nat} {D : DataW Unit} {ns : List Int} (h : MpC w B n D ns) (hb : Below w.heap.size w w') : MpC w' B n D ns := h.keep (S := fun _ => False) (Keep.of_below hb) (fun h => h)
theorem MpC.mono {w : World} {B n n' : Nat} {D : DataW Unit} {ns : List Int} (h : MpC w B n D ns) (hn : n ≤ n') : MpC w B n' D ns := ⟨h.1.mono hn, h.2⟩
theorem MpC.put {w w' : World} {B n i : Nat} {D : DataW Unit} {ns : List Int} {c : Int} (h : MpC w B n D ns) (hi : i < 24) (ho : w'.ownsMap Tryz.prog 3 (plainElem Tryz.prog 3) B (n + 1) (D.put (.int .i64 (i : Int)) (.lit (.int .i64 c)))) : MpC w' B (n + 1) (D.put (.int .i64 (i : Int)) (.lit (.int .i64 c))) (ns.set i c) := by
  have hM : IsMap D := by obtain ⟨es, e, _⟩ := h.1.entries lawI; exact ⟨es, e⟩
  refine ⟨ho, by rw [List.length_set]; exact h.2.1, fun j hj => ?_, fun kl hk => ?_⟩
  · by_cases e : j = i
    · subst e
      rw [atKey_put_same (k := .int .i64 (j : Int)) hM trivial]
      simp [List.getD, h.2.1, hi]
    · rw [atKey_put_other (by intro h2; simp only [Lit.int.injEq, true_and] at h2; omega), h.2.2.1 j hj]
      simp [List.getD, Ne.symm e]
  · by_cases e : kl = .int .i64 (i : Int)
    · exact ⟨i, hi, e⟩
    · rw [has_put_other e] at hk
      exact h.2.2.2 kl hk
theorem incr_get (ns : List Int) (hl : ns.length = 24) (c i : Nat) (hc : c < 24) (hi : i < 24) : (incr ns (c : Int)).getD i 0 = ns.getD i 0 + (if i = c then 1 else 0) := by
  rw [incr_set]
  simp only [List.getD, List.getElem?_set]
  by_cases e : i = c
  · subst e; simp [hl, hi]
  · simp [e, Ne.symm e]
theorem fold_incr_get (i : Nat) (hi : i < 24) : ∀ (L : List Int), (∀ c ∈ L, 0 ≤ c ∧ c ≤ 23) → ∀ ns : List Int, ns.length = 24 → (L.foldl incr ns).getD i 0 = ns.getD i 0 + (L.count (i : Int) : Int) := by
  intro L
  induction L with
  | nil => intro _ ns _; simp
  | cons c L ih =>
    intro hL ns hl
    obtain ⟨c0, c1⟩ := hL c (by simp)
    obtain ⟨q, rfl⟩ := Int.eq_ofNat_of_zero_le c0
    rw [List.foldl_cons, ih (fun d hd => hL d (by simp [hd])) _ (by rw [incr_len]; exact hl), incr_get ns hl q i (by omega) hi, List.count_cons]
    by_cases e : i = q
    · subst e; simp; omega
    · have e2 : ¬ ((q : Int) = (i : Int)) := by omega
      simp [e, e2]
theorem nodup_count : ∀ (L : List Int), L.Nodup ↔ ∀ x ∈ L, L.count x ≤ 1 := by
  intro L
  induction L with
  | nil => simp
  | cons c L ih =>
    rw [List.nodup_cons, ih]
    constructor
    · rintro ⟨h1, h2⟩ x hx
      rw [List.count_cons]
      by_cases e : c = x
      · subst e
        rw [List.count_eq_zero_of_not_mem h1]; simp
      · have : x ∈ L := by simpa [Ne.symm e] using hx
        have := h2 x this
        simp [e]; omega
    · intro h
      refine ⟨fun hm => ?_, fun x hx => ?_⟩
      · have h1 := h c (by simp)
        rw [List.count_cons] at h1
        have := List.count_pos_iff.2 hm
        simp at h1; omega
      · have h1 := h x (by simp [hx])
        rw [List.count_cons] at h1
        omega
theorem cl_mem {t : List Int} (h : tbB t = true) : ∀ c ∈ clA t, 0 ≤ c ∧ c ≤ 23 := fun c hc => by
  obtain ⟨j, hj, rfl⟩ := List.mem_iff_getElem.1 hc
  exact clA_in h j hj
theorem cnt1T_get {t : List Int} (h : tbB t = true) {ns : List Int} (hl : ns.length = 24) {i : Nat} (hi : i < 24) : (cnt1T ns t).getD i 0 = ns.getD i 0 + ((clA t).count (i : Int) : Int) := fold_incr_get i hi _ (cl_mem h) ns hl
theorem zero24_get {i : Nat} (hi : i < 24) : zero24.getD i 0 = 0 := by
  have h2 : ∀ i : Fin 24, zero24.getD i 0 = 0 := by decide
  exact h2 ⟨i, hi⟩
end Go.Proofs.YtjjkppknojecjaaGreat

namespace Go.Proofs.YtjjkppknojecjaaGreat
open Go.RowKit
set_option linter.unusedVariables false
set_option maxRecDepth 100000

end Go.Proofs.YtjjkppknojecjaaGreat

namespace Go.Proofs.YtjjkppknojecjaaGreat
open Go.RowKit
set_option linter.unusedVariables false
set_option maxRecDepth 100000

end Go.Proofs.YtjjkppknojecjaaGreat

namespace Go.Proofs.YtjjkppknojecjaaGreat
open Go.RowKit Go.Maps
set_option linter.unusedVariables false
set_option maxRecDepth 100000

def VarN (w : World) (x : Nat) (n : ByteArray) (v : Value) : Prop := w.heap[x]? = some (.cells #[.string n, v] 124 (0, 0))
theorem VarN.cells {w : World} {x : Nat} {n : ByteArray} {v : Value} (k : VarN w x n v) : w.cell? ⟨x, 0, none⟩ = some (.string n) ∧ w.cell? ⟨x, 1, none⟩ = some v := ⟨by rw [Joins.cell_of_block k]; rfl, by rw [Joins.cell_of_block k]; rfl⟩
theorem VarN.new (w : World) (n : ByteArray) (v : Value) : VarN (w.alloc (.cells #[.string n, v] 124)) w.heap.size n v := heap_alloc_new w _

def RowT (w : World) (qo : Option Addr) (ts : List (List Int)) : Prop := ∀ j (h : j < ts.length), ∃ b off tq tc, qo = some ⟨b, off, none⟩ ∧ w.cell? ⟨b, off + j, none⟩ = some (.slice tq ts[j].length tc) ∧ Is w tq ts[j]
theorem RowT.below {w w' : World} {qo : Option Addr} {ts : List (List Int)} (h : RowT w qo ts) (hb : Below w.heap.size w w') : RowT w' qo ts := fun j hj => by
  obtain ⟨b, off, tq, tc, e, h1, h2⟩ := h j hj
  exact ⟨b, off, tq, tc, e, (hb.cell (p := ⟨b, off + j, none⟩) (World.block_lt_of_cell? _ _ h1)).trans h1, h2.below hb⟩
set_option maxHeartbeats 3200000 in
theorem tablesOf_any (a : Im4) (m : Img) (w : World) (hs : m.snaps.length ≤ 3) (hc : ImS w a m) :
    Calls Tryz.prog 77 #[imV a m] w fun e w' => ∃ qo qa, e = .returned (.slice qo (imTabs m).length qa) ∧ RowT w' qo (imTabs m) ∧ Below w.heap.size w w' := by
  have HA := hide (Joins.below_alloc1 w (.cells #[.slice a.ro m.refs.length a.rc, .slice a.tq m.table.length a.tc, .slice a.so m.snaps.length a.sc, .slice a.dq m.data.length a.dc] 68))
  have HV := hide (VarM.new w 68 (.slice a.ro m.refs.length a.rc) (.slice a.tq m.table.length a.tc) (.slice a.so m.snaps.length a.sc) (.slice a.dq m.data.length a.dc))
  have HC := hide hc
  clear hc
  obtain ⟨j0, hj, hy0, hy1, hy2⟩ := info_parts infoTb
  go_enter Tryz.func77, Tryz.ntmps77
  go_upto_region 1 with fail
  revert HA HV
  generalize (w.alloc _) = w1
  intro HB1 HV1
  have HSZ0 : Hid (w.heap.size < w1.heap.size) := hide (unhide HV1).lt
  obtain ⟨c0, c1, c2, c3⟩ := (unhide HV1).cells
  have HOT : Hid (OwnR (w1.alloc (.cells #[.slice a.tq m.table.length a.tc] 30)) w1.heap.size 30 1 (.slice (some ⟨w1.heap.size, 0, none⟩) 1 1) 1 [.slice a.tq m.table.length a.tc]) := hide (.inr ⟨by omega, rfl, .inr ⟨w1.heap.size, 1, #[.slice a.tq m.table.length a.tc], rfl, Nat.le_refl _, heap_alloc_new w1 _, Nat.le_refl _, by unfold maxLen; omega, rfl, rfl⟩⟩)
  have HBA := hide (Joins.below_alloc1 w1 (.cells #[.slice a.tq m.table.length a.tc] 30))
  go_upto_region 2 with fail
  revert HOT HBA
  generalize (w1.alloc _) = W1
  intro HOT HBA
  clear c0 c1 c2 c3
  obtain ⟨c0, c1, c2, c3⟩ := ((unhide HV1).below (unhide HBA)).cells
  go_wp2
  clear c0 c1 c2 c3
  go_loopw [3, 12] (fun o i wr => ∃ (k : Nat) (qo : Option Addr) (qa : Nat) (vs : List Value), k ≤ m.snaps.length ∧ i = .int .i64 k ∧ o = .slice qo (k + 1) qa ∧ Hid (OwnR wr w1.heap.size 30 1 (.slice qo (k + 1) qa) (k + 1) vs) ∧ Hid (TabV w vs ((imTabs m).take (k + 1))) ∧ Hid (Below w1.heap.size w1 wr)) (fun _ i _ => m.snaps.length - (intOf i).toNat)
  case atStart => exact ⟨0, _, _, [.slice a.tq m.table.length a.tc], Nat.zero_le _, rfl, rfl, HOT, hide (by
    have h0 : TabV w [] [] := ⟨rfl, fun j h => by simp at h⟩
    have := h0.snoc (tc := a.tc) (unhide HC).t
    simpa [imTabs] using this), HBA⟩
  case round =>
    clear HOT HBA
    obtain ⟨k, qo, qa, vs, hk, rfl, rfl, HO, HT, HB⟩ := hrel
    by_cases hlt : k < m.snaps.length
    · obtain ⟨b, off, tq, tc, eb, hn0, ht0, hIs, hz, htl⟩ := ((unhide HC).s.below (fr (unhide HB1) (unhide HB))) k hlt
      obtain ⟨b', off', tq', tc', eb', _, ht0', hIs', _, _⟩ := (unhide HC).s k hlt
      rw [eb] at eb'
      cases eb'
      have ett : Value.slice tq' m.snaps[k].table.length tc' = .slice tq m.snaps[k].table.length tc := by
        have h1 := ((fr (unhide HB1) (unhide HB)).cell (p := ⟨b, off + k * 2 + 1, none⟩) (World.block_lt_of_cell? _ _ ht0')).trans ht0'
        rw [ht0] at h1
        exact (Option.some.inj h1).symm
      have hso := eb
      clear eb
      have hlti : (k : Int) < (m.snaps.length : Int) := by omega
      have HT' : Hid (TabV w (vs ++ [.slice tq m.snaps[k].table.length tc]) ((imTabs m).take (k + 1 + 1))) := hide (by
        rw [imTabs_take hlt, ← ett]
        exact (unhide HT).snoc hIs')
      have HX := hide (VarN.new wr m.snaps[k].name (.slice tq m.snaps[k].table.length tc))
      have HBX := hide (Joins.below_alloc1 wr (.cells #[.string m.snaps[k].name, .slice tq m.snaps[k].table.length tc] 124))
      have HSZ := hide (unhide HB).size
      clear hIs hIs' ht0' ett hz htl
      go_upto_region 5 with fail
      revert HX HBX
      generalize (wr.alloc _) = w2
      intro HX HBX
      obtain ⟨x0, x1⟩ := (unhide HX).cells
      have HO2 := hide ((unhide HO).below (unhide HBX))
      have HB2 := hide (fr (unhide HB) (unhide HBX))
      clear HX HBX hn0 ht0 hso
      have HOA := hide ((unhide HO2).below (Joins.below_alloc1 _ (.cells #[.slice tq m.snaps[k].table.length tc] 30)))
      have HBA := hide (fr (unhide HB2) (Joins.below_alloc1 _ (.cells #[.slice tq m.snaps[k].table.length tc] 30)))
      have HSZ2 := hide (unhide HB2).size
      go_wp2_with (at_builtin; refine wpList_append_one rfl _ _ 111 rfl w1.heap.size 30 j0 (.slice none 0 0) 1 24 Tryz.underlying111 hj hy0 hy1 hy2 rfl (by omega) qo (k + 1) qa vs rfl (unhide HOA) (by have := unhide HSZ2; simp; omega) ⟨w2.heap.size, 0, none⟩ _ [.slice tq m.snaps[k].table.length tc] rfl rfl (byte_news w2 _ _) (slice_one _ _ _) (by unfold maxLen; omega) (by omega) ?_; intro g2 cap2 wA hoA hkA; have HSF := hide (And.intro hoA (keep_below (unhide HBA) (unhide HOA) (Nat.le_refl _) hkA)); clear hoA hkA)
      go_roundw
      case rel => exact ⟨k + 1, some ⟨g2, 0, none⟩, cap2, vs ++ [.slice tq m.snaps[k].table.length tc], by omega, by go_num, rfl, hide (.inr ⟨by omega, (unhide HSF).1⟩), HT', hide (unhide HSF).2⟩
      case measure => simp [intOf]; omega
    · obtain rfl : k = m.snaps.length := by omega
      have HTT : Hid (TabV w vs (imTabs m)) := hide (by
        have := unhide HT
        rwa [List.take_of_length_le (by rw [imTabs_len]; exact Nat.le_refl _)] at this)
      have HLT := hide (imTabs_len m)
      have HB2 := hide (fr (unhide HB1) (unhide HB))
      have HR : Hid (RowT wr qo (imTabs m)) := hide (fun j hj => by
        have hjn : j < m.snaps.length + 1 := by rw [← unhide HLT]; exact hj
        obtain ⟨tq, tc, hvk, hIs⟩ := (unhide HTT).2 j hj
        obtain ⟨q2, cap2, cur2, eq2, _, _⟩ := own_form (by omega) ((unhide HO).row (by omega))
        have hcell := ((unhide HO).row (by omega))
        rw [eq2] at hcell
        have hck := (hcell.cellAt j (by omega)).trans hvk
        cases eq2
        exact ⟨q2, 0, tq, tc, rfl, by rw [Nat.zero_add]; exact hck, hIs.below (unhide HB2)⟩)
      go_wp2
      go_ret
      exact ⟨qo, qa, by rw [unhide HLT]; rfl, unhide HR, unhide HB2⟩

end Go.Proofs.YtjjkppknojecjaaGreat

namespace Go.Proofs.YtjjkppknojecjaaGreat
open Go.RowKit
set_option linter.unusedVariables false
set_option maxRecDepth 100000

def imFit (m : Img) : Img := { m with refs := imCnt m, data := (List.range 24).map fun i => if (imCnt m).getD i 0 = 0 then 0 else m.data.getD i 0 }
theorem getD_ext {xs ys : List Int} (h1 : xs.length = 24) (h2 : ys.length = 24) (h : ∀ i, i < 24 → xs.getD i 0 = ys.getD i 0) : xs = ys :=
  List.ext_getElem (by rw [h1, h2]) (fun i ha hb => by
    have := h i (by omega)
    simpa [List.getD, ha, hb] using this)
theorem range_getD {f : Nat → Int} {i : Nat} (hi : i < 24) : ((List.range 24).map f).getD i 0 = f i := by simp [List.getD, hi]
theorem MpC.setCell {w : World} {B n : Nat} {D : DataW Unit} {ns : List Int} (h : MpC w B n D ns) {p : Addr} {u : Value} (hc : w.cell? p = some u) (v : Value) : MpC (w.setCell p v) B n D ns := by
  have hk : Keep (fun g => g = p.block) w (w.setCell p v) := (Keep.refl (fun g => g = p.block) w).setCell (p := p) rfl v
  refine h.keep hk (fun e => ?_)
  obtain ⟨⟨es, clock, hb, _⟩, _⟩ := h
  have e' : B = p.block := e
  rw [e'] at hb
  simp [World.cell?, hb] at hc
end Go.Proofs.YtjjkppknojecjaaGreat

namespace Go.Proofs.YtjjkppknojecjaaGreat
open Go.RowKit
set_option linter.unusedVariables false
set_option maxRecDepth 100000

def cN (t : List Int) (i : Nat) : Int := (t.count ((i : Int) + 2) : Int)
theorem cN_nn (t : List Int) (i : Nat) : 0 ≤ cN t i := by unfold cN; omega
theorem clA_count (t : List Int) (i : Nat) : ((clA t).count (i : Int) : Int) = cN t i := by
  unfold clA clTo cN
  rw [List.take_length]
  induction t with
  | nil => rfl
  | cons e t ih =>
    rw [List.filterMap_cons, List.count_cons]
    by_cases h : 2 ≤ e
    · rw [if_pos h]
      simp only [List.count_cons]
      by_cases h2 : e = (i : Int) + 2
      · have h3 : e - 2 = (i : Int) := by omega
        simp [h2]; omega
      · have h3 : ¬ (e - 2 = (i : Int)) := by omega
        simp [h2, h3]; omega
    · rw [if_neg h]
      have h2 : ¬ (e = (i : Int) + 2) := by omega
      simp [h2]; omega
def sN (ts : List (List Int)) (i : Nat) : Int := (ts.map fun t => cN t i).sum
theorem sN_nn (ts : List (List Int)) (i : Nat) : 0 ≤ sN ts i := by
  unfold sN
  induction ts with
  | nil => exact Int.le_refl _
  | cons t ts ih => rw [List.map_cons, List.sum_cons]; have := cN_nn t i; omega
theorem fold_cnt (i : Nat) (hi : i < 24) : ∀ (ts : List (List Int)), (∀ t ∈ ts, tbB t = true) → ∀ ns : List Int, ns.length = 24 → (ts.foldl cnt1T ns).getD i 0 = ns.getD i 0 + sN ts i := by
  intro ts
  induction ts with
  | nil => intro _ ns _; simp [sN]
  | cons t ts ih =>
    intro ht ns hl
    rw [List.foldl_cons, ih (fun x hx => ht x (by simp [hx])) _ (by rw [cnt1T_len]; exact hl), cnt1T_get (ht t (by simp)) hl hi, clA_count]
    simp only [sN, List.map_cons, List.sum_cons]
    omega
theorem cnt_get {m : Img} (ht : ∀ t ∈ imTabs m, tbB t = true) {i : Nat} (hi : i < 24) : (imCnt m).getD i 0 = sN (imTabs m) i := by
  unfold imCnt
  rw [fold_cnt i hi _ ht _ rfl, zero24_get hi]; omega
theorem ImR.tabs {m : Img} (h : ImR m) : ∀ t ∈ imTabs m, tbB t = true := fun t ht => by
  unfold imTabs at ht
  rw [List.mem_cons, List.mem_map] at ht
  rcases ht with rfl | ⟨s, hs, rfl⟩
  · exact h.table
  · exact (h.snaps s hs).2
theorem ImR.cntA {m : Img} (h : ImR m) {i : Nat} (hi : i < 24) : m.refs.getD i 0 = sN (imTabs m) i := by rw [← h.cnt]; exact cnt_get h.tabs hi
theorem ImR.rl {m : Img} (h : ImR m) : m.refs.length = 24 := ctB_len h.refs
theorem sN_cons (t : List Int) (ts : List (List Int)) (i : Nat) : sN (t :: ts) i = cN t i + sN ts i := rfl
theorem sN_tabs (m : Img) (i : Nat) : sN (imTabs m) i = cN m.table i + sN (m.snaps.map (·.table)) i := rfl
theorem img_eq {m n : Img} (h1 : m.refs = n.refs) (h2 : m.table = n.table) (h3 : m.snaps = n.snaps) (h4 : m.data = n.data) : m = n := by
  cases m; cases n; simp only at h1 h2 h3 h4; subst h1 h2 h3 h4; rfl
theorem fit_eq {m1 n : Img} (ht : ∀ t ∈ imTabs m1, tbB t = true) (hr : n.refs.length = 24) (hd : n.data.length = 24) (h2 : m1.table = n.table) (h3 : m1.snaps = n.snaps) (hR : ∀ i, i < 24 → n.refs.getD i 0 = sN (imTabs m1) i) (hD : ∀ i, i < 24 → n.data.getD i 0 = if sN (imTabs m1) i = 0 then 0 else m1.data.getD i 0) : imFit m1 = n := by
  refine img_eq ?_ h2 h3 ?_
  · exact getD_ext (imCnt_len m1) hr (fun i hi => by rw [hR i hi]; exact cnt_get ht hi)
  · refine getD_ext (by simp [imFit]) hd (fun i hi => ?_)
    rw [hD i hi]
    unfold imFit
    simp only
    rw [range_getD hi, cnt_get ht hi]
theorem drop_get {m : Img} (hr : m.refs.length = 24) (hd : m.data.length = 24) (e : Int) {i : Nat} (hi : i < 24) : (imDrop m e).refs.getD i 0 = m.refs.getD i 0 - (if e = (i : Int) + 2 then 1 else 0) ∧ (imDrop m e).data.getD i 0 = if e = (i : Int) + 2 ∧ m.refs.getD i 0 = 1 then 0 else m.data.getD i 0 := by
  by_cases h : e < 2
  · have e1 : imDrop m e = m := if_pos h
    rw [e1, if_neg (by omega), if_neg (by omega)]
    exact ⟨by omega, rfl⟩
  · unfold imDrop
    rw [if_neg h]
    simp only
    by_cases h2 : e = (i : Int) + 2
    · have h3 : (e - 2).toNat = i := by omega
      rw [h3]
      constructor
      · simp [List.getD, hr, hi, h2]
      · by_cases h4 : m.refs.getD i 0 = 1
        · rw [if_pos (by omega), if_pos ⟨h2, h4⟩]
          simp [List.getD, hd, hi]
        · rw [if_neg (by omega), if_neg (fun h => h4 h.2)]
    · have h3 : (e - 2).toNat ≠ i := by omega
      constructor
      · simp [List.getD, h3, h2]
      · have hR : (if e = (i : Int) + 2 ∧ m.refs.getD i 0 = 1 then 0 else m.data.getD i 0) = m.data.getD i 0 := if_neg (fun h => h2 h.1)
        rw [hR]
        split
        · simp [List.getD, h3]
        · rfl
theorem drops_lens (m : Img) : ∀ es : List Int, (imDrops m es).refs.length = m.refs.length ∧ (imDrops m es).data.length = m.data.length ∧ (imDrops m es).table = m.table ∧ (imDrops m es).snaps = m.snaps := by
  intro es
  unfold imDrops
  induction es generalizing m with
  | nil => exact ⟨rfl, rfl, rfl, rfl⟩
  | cons e es ih =>
    obtain ⟨h1, h2, h3, h4⟩ := ih (imDrop m e)
    rw [List.foldl_cons]
    exact ⟨h1.trans (imDrop_refs m e), h2.trans (imDrop_data m e), h3.trans (imDrop_table m e).1, h4.trans (imDrop_table m e).2⟩
theorem drops_get {i : Nat} (hi : i < 24) : ∀ (es : List Int) (m : Img), m.refs.length = 24 → m.data.length = 24 → (imDrops m es).refs.getD i 0 = m.refs.getD i 0 - cN es i ∧ (imDrops m es).data.getD i 0 = if 1 ≤ m.refs.getD i 0 ∧ m.refs.getD i 0 ≤ cN es i then 0 else m.data.getD i 0 := by
  intro es
  induction es with
  | nil =>
    intro m _ _
    refine ⟨by simp [imDrops, cN], ?_⟩
    rw [if_neg (by simp only [cN, List.count_nil]; omega)]; rfl
  | cons e es ih =>
    intro m hr hd
    obtain ⟨h1, h2⟩ := drop_get hr hd e hi
    obtain ⟨h3, h4⟩ := ih (imDrop m e) (by rw [imDrop_refs]; exact hr) (by rw [imDrop_data]; exact hd)
    have hf : imDrops m (e :: es) = imDrops (imDrop m e) es := rfl
    have hc : cN (e :: es) i = cN es i + (if e = (i : Int) + 2 then 1 else 0) := by
      unfold cN
      rw [List.count_cons]
      by_cases h : e = (i : Int) + 2
      · simp [h]
      · simp [h]
    have hn := cN_nn es i
    rw [hf, h3, h4, h1, h2, hc]
    by_cases h : e = (i : Int) + 2
    · simp only [h, if_true, true_and]
      refine ⟨by omega, ?_⟩
      by_cases hx : 1 ≤ m.refs.getD i 0 ∧ m.refs.getD i 0 ≤ cN es i + 1
      · rw [if_pos hx]
        split
        · rfl
        · rw [if_pos (by omega)]
      · rw [if_neg hx, if_neg (by omega), if_neg (by omega)]
    · simp only [h, if_false, false_and]
      exact ⟨by omega, by simp⟩
theorem cN_set {t : List Int} {g : Nat} (hg : g < t.length) (e : Int) (i : Nat) : cN (t.set g e) i = cN t i - (if t[g] = (i : Int) + 2 then 1 else 0) + (if e = (i : Int) + 2 then 1 else 0) := by
  unfold cN
  rw [List.count_set hg]
  have hp : t[g] = (i : Int) + 2 → 0 < t.count ((i : Int) + 2) := fun h => List.count_pos_iff.2 (h ▸ List.getElem_mem hg)
  by_cases h : t[g] = (i : Int) + 2
  · have := hp h
    by_cases h2 : e = (i : Int) + 2
    · simp [h, h2]; omega
    · simp [h, h2]; omega
  · by_cases h2 : e = (i : Int) + 2
    · simp [h, h2]
    · simp [h, h2]
theorem cN_pos {t : List Int} {g i : Nat} (hg : g < t.length) (h : t[g] = (i : Int) + 2) : 1 ≤ cN t i := by
  unfold cN
  have : 0 < t.count ((i : Int) + 2) := List.count_pos_iff.2 (h ▸ List.getElem_mem hg)
  omega
theorem tbB_set {t : List Int} (h : tbB t = true) (g : Nat) {e : Int} (h0 : 0 ≤ e) (h1 : e ≤ 25) : tbB (t.set g e) = true := by
  refine tbB_of (by rw [List.length_set]; exact tbB_len h) (fun i hi => ?_)
  rw [List.getElem_set]
  split
  · exact betw_iff.2 ⟨h0, h1⟩
  · exact betw_iff.2 (tbB_at h i (by simpa using hi))
theorem tabs_with {m : Img} (h : ImR m) {t : List Int} (ht : tbB t = true) (d : List Int) : ∀ x ∈ imTabs { m with table := t, data := d }, tbB x = true := fun x hx => by
  have hx' : x ∈ t :: m.snaps.map (·.table) := hx
  rw [List.mem_cons] at hx'
  rcases hx' with rfl | hx'
  · exact ht
  · exact h.tabs x (by unfold imTabs; exact List.mem_cons_of_mem _ hx')
theorem fit_zero {m : Img} (h : ImR m) {g : Nat} (hg : g < m.table.length) : imFit { m with table := m.table.set g 1 } = imZero m g := by
  have ht := tbB_set h.table g (e := 1) (by omega) (by omega)
  have hgd : m.table.getD g 0 = m.table[g] := by simp [List.getD, hg]
  have hcs : ∀ i, sN (imTabs { m with table := m.table.set g 1 }) i = sN (imTabs m) i - (if m.table[g] = (i : Int) + 2 then 1 else 0) := fun i => by
    have e : sN (imTabs { m with table := m.table.set g 1 }) i = cN (m.table.set g 1) i + sN (m.snaps.map (·.table)) i := rfl
    rw [e, cN_set hg, sN_tabs, if_neg (show ¬ (1 : Int) = (i : Int) + 2 by omega)]
    omega
  refine fit_eq (tabs_with h ht m.data) ?_ ?_ ?_ ?_ (fun i hi => ?_) (fun i hi => ?_)
  · show (imDrop m _).refs.length = 24; rw [imDrop_refs]; exact h.rl
  · show (imDrop m _).data.length = 24; rw [imDrop_data]; exact h.len
  · show m.table.set g 1 = (imDrop m _).table.set g 1; rw [(imDrop_table m _).1]
  · show m.snaps = (imDrop m _).snaps; rw [(imDrop_table m _).2]
  · show (imDrop m _).refs.getD i 0 = _
    rw [(drop_get h.rl h.len _ hi).1, hcs, h.cntA hi, hgd]
  · show (imDrop m _).data.getD i 0 = _
    rw [(drop_get h.rl h.len _ hi).2, hcs, ← h.cntA hi, hgd]
    by_cases h1 : m.table[g] = (i : Int) + 2
    · simp only [h1, true_and, if_true]
      by_cases h2 : m.refs.getD i 0 = 1
      · rw [if_pos h2, if_pos (by omega)]
      · rw [if_neg h2, if_neg (by omega)]
    · simp only [h1, false_and, if_false]
      by_cases h2 : m.refs.getD i 0 = 0
      · rw [if_pos (by omega), h.clear i hi h2]
      · rw [if_neg (by omega)]

theorem fit_in {m : Img} (h : ImR m) {g c : Nat} (v : Int) (hg : g < m.table.length) (hc : m.table[g] = (c : Int) + 2) (h1 : m.refs.getD c 0 = 1) : imFit { m with table := m.table.set g (2 + (c : Int)), data := m.data.set c v } = { m with data := m.data.set c v } := by
  have hset : m.table.set g (2 + (c : Int)) = m.table := by
    rw [show (2 : Int) + (c : Int) = m.table[g] by omega]
    exact List.set_getElem_self hg
  have hb := tbB_at h.table g hg
  rw [hset]
  refine fit_eq (n := { m with data := m.data.set c v }) (tabs_with h h.table _) h.rl (by simp [h.len]) rfl rfl (fun i hi => h.cntA hi) (fun i hi => ?_)
  have e : sN (imTabs { m with data := m.data.set c v }) i = sN (imTabs m) i := rfl
  rw [e, ← h.cntA hi]
  by_cases hz : m.refs.getD i 0 = 0
  · rw [if_pos hz]
    have hne : c ≠ i := fun e => by rw [e, hz] at h1; cases h1
    have e2 : (m.data.set c v).getD i 0 = m.data.getD i 0 := by simp [List.getD, hne]
    exact e2.trans (h.clear i hi hz)
  · rw [if_neg hz]
theorem free_spec {xs : List Int} (h : frN xs < xs.length) : xs.getD (frN xs) 0 = 0 := by
  unfold frN at h ⊢
  have := List.findIdx_getElem (w := h)
  simpa [List.getD, h] using this
theorem fit_out {m : Img} (h : ImR m) {g c : Nat} (v : Int) (hg : g < m.table.length) (hc : c < 24) (h0 : m.refs.getD c 0 = 0) : imFit { m with table := m.table.set g (2 + (c : Int)), data := m.data.set c v } = { imDrop m m.table[g] with refs := (imDrop m m.table[g]).refs.set c 1, data := (imDrop m m.table[g]).data.set c v, table := (imDrop m m.table[g]).table.set g (2 + (c : Int)) } := by
  have ht := tbB_set h.table g (e := 2 + (c : Int)) (by omega) (by omega)
  have hcs : ∀ i, sN (imTabs { m with table := m.table.set g (2 + (c : Int)), data := m.data.set c v }) i = sN (imTabs m) i - (if m.table[g] = (i : Int) + 2 then 1 else 0) + (if c = i then 1 else 0) := fun i => by
    have e : sN (imTabs { m with table := m.table.set g (2 + (c : Int)), data := m.data.set c v }) i = cN (m.table.set g (2 + (c : Int))) i + sN (m.snaps.map (·.table)) i := rfl
    rw [e, cN_set hg, sN_tabs]
    by_cases hci : c = i
    · rw [if_pos hci, if_pos (show (2 : Int) + (c : Int) = (i : Int) + 2 by omega)]; omega
    · rw [if_neg hci, if_neg (show ¬ (2 : Int) + (c : Int) = (i : Int) + 2 by omega)]; omega
  have hne : ¬ m.table[g] = (c : Int) + 2 := fun e => by
    have h1 := cN_pos hg e
    have h2 := h.cntA hc
    have h3 := sN_nn (m.snaps.map (·.table)) c
    rw [sN_tabs] at h2
    omega
  refine fit_eq (tabs_with h ht _) ?_ ?_ ?_ ?_ (fun i hi => ?_) (fun i hi => ?_)
  · show ((imDrop m _).refs.set c 1).length = 24; rw [List.length_set, imDrop_refs]; exact h.rl
  · show ((imDrop m _).data.set c v).length = 24; rw [List.length_set, imDrop_data]; exact h.len
  · show m.table.set g _ = (imDrop m _).table.set g _; rw [(imDrop_table m _).1]
  · show m.snaps = (imDrop m _).snaps; rw [(imDrop_table m _).2]
  · show ((imDrop m m.table[g]).refs.set c 1).getD i 0 = _
    rw [hcs]
    by_cases hci : c = i
    · subst hci
      rw [if_pos rfl, if_neg hne, ← h.cntA hc, h0]
      simp [List.getD, imDrop_refs, h.rl, hc]
    · have e : ((imDrop m m.table[g]).refs.set c 1).getD i 0 = (imDrop m m.table[g]).refs.getD i 0 := by simp [List.getD, hci]
      rw [e, (drop_get h.rl h.len _ hi).1, h.cntA hi, if_neg hci]; omega
  · show ((imDrop m m.table[g]).data.set c v).getD i 0 = if _ then 0 else (m.data.set c v).getD i 0
    rw [hcs]
    by_cases hci : c = i
    · subst hci
      rw [if_neg (show ¬ (sN (imTabs m) c - (if m.table[g] = (c : Int) + 2 then 1 else 0) + (if c = c then 1 else 0) = 0) by rw [if_pos rfl, if_neg hne, ← h.cntA hc, h0]; omega)]
      simp [List.getD, imDrop_data, h.len, hc]
    · have e : ((imDrop m m.table[g]).data.set c v).getD i 0 = (imDrop m m.table[g]).data.getD i 0 := by simp [List.getD, hci]
      have e2 : (m.data.set c v).getD i 0 = m.data.getD i 0 := by simp [List.getD, hci]
      rw [e, e2, (drop_get h.rl h.len _ hi).2, ← h.cntA hi, if_neg hci]
      by_cases h1 : m.table[g] = (i : Int) + 2
      · simp only [h1, true_and, if_true]
        by_cases h2 : m.refs.getD i 0 = 1
        · rw [if_pos h2, if_pos (by omega)]
        · rw [if_neg h2, if_neg (by omega)]
      · simp only [h1, false_and, if_false]
        by_cases h2 : m.refs.getD i 0 = 0
        · rw [if_pos (by omega), h.clear i hi h2]
        · rw [if_neg (by omega)]
end Go.Proofs.YtjjkppknojecjaaGreat

namespace Go.Proofs.YtjjkppknojecjaaGreat
open Go.RowKit
set_option linter.unusedVariables false
set_option maxRecDepth 100000

theorem once_cN {t : List Int} (h : tbB t = true) : (clA t).Nodup ↔ ∀ i, i < 24 → cN t i ≤ 1 := by
  constructor
  · intro hn i hi
    rw [← clA_count]
    by_cases hm : (i : Int) ∈ clA t
    · have := (nodup_count _).1 hn _ hm; omega
    · rw [List.count_eq_zero_of_not_mem hm]; omega
  · intro hc
    refine (nodup_count _).2 fun x hx => ?_
    obtain ⟨c0, c1⟩ := cl_mem h x hx
    obtain ⟨q, rfl⟩ := Int.eq_ofNat_of_zero_le c0
    have := hc q (by omega)
    rw [← clA_count] at this
    omega
structure PreR (m : Img) : Prop where
  few : m.snaps.length ≤ 3
  len : m.data.length = 24
  t : ∀ t ∈ imTabs m, tbB t = true
  once : ∀ t ∈ imTabs m, ∀ i, i < 24 → cN t i ≤ 1
  nm : ∀ s ∈ m.snaps, snmB s.name = true
  names : (m.snaps.map (·.name)).Nodup
  nums : ∀ n ∈ m.data, numB n = true
theorem sN_le {i : Nat} (hi : i < 24) : ∀ ts : List (List Int), (∀ t ∈ ts, ∀ i, i < 24 → cN t i ≤ 1) → sN ts i ≤ ts.length := by
  intro ts
  induction ts with
  | nil => intro _; exact Int.le_refl _
  | cons t ts ih =>
    intro h
    have h1 := h t (by simp) i hi
    have h2 := ih (fun x hx => h x (by simp [hx]))
    rw [sN_cons, List.length_cons]
    omega
theorem ctB_mk {xs : List Int} (hl : xs.length = 24) (h : ∀ i, i < 24 → 0 ≤ xs.getD i 0 ∧ xs.getD i 0 ≤ 15) : ctB xs = true := by
  unfold ctB
  simp only [Bool.and_eq_true, decide_eq_true_eq, List.all_eq_true]
  refine ⟨hl, fun x hx => ?_⟩
  obtain ⟨j, hj, rfl⟩ := List.mem_iff_getElem.1 hx
  have := h j (by omega)
  rw [show xs.getD j 0 = xs[j] by simp [List.getD, hj]] at this
  exact betw_iff.2 this
theorem PreR.fit {m : Img} (h : PreR m) : ImR (imFit m) := by
  have hlen : (imTabs m).length ≤ 4 := by rw [imTabs_len]; have := h.few; omega
  have hg : ∀ i, i < 24 → (imFit m).refs.getD i 0 = sN (imTabs m) i := fun i hi => cnt_get h.t hi
  refine ⟨ctB_mk (imCnt_len m) (fun i hi => ?_), h.t _ (by simp [imTabs, imFit]), h.few, by simp [imFit], fun s hs => ⟨h.nm s hs, h.t _ (by unfold imTabs; exact List.mem_cons_of_mem _ (List.mem_map.2 ⟨s, hs, rfl⟩))⟩, h.names, fun n hn => ?_, fun t ht => (once_cN (h.t t ht)).2 (h.once t ht), rfl, fun i hi hz => ?_⟩
  · have h1 := sN_le hi _ h.once
    have h2 := sN_nn (imTabs m) i
    rw [hg i hi]
    omega
  · unfold imFit at hn
    simp only at hn
    obtain ⟨i, hi, rfl⟩ := List.mem_map.1 hn
    have hi' := List.mem_range.1 hi
    split
    · rfl
    · rw [show m.data.getD i 0 = m.data[i]'(by rw [h.len]; exact hi') by simp [List.getD, h.len, hi']]
      exact h.nums _ (List.getElem_mem _)
  · unfold imFit
    simp only
    rw [range_getD hi]
    have hz' : (imCnt m).getD i 0 = 0 := hz
    rw [if_pos hz']
theorem ImR.pre {m : Img} (h : ImR m) : PreR m := ⟨h.few, h.len, h.tabs, fun t ht => (once_cN (h.tabs t ht)).1 (h.once t ht), fun s hs => (h.snaps s hs).1, h.names, h.nums⟩
theorem PreR.withT {m : Img} (h : PreR m) {t d : List Int} (ht : tbB t = true) (ho : ∀ i, i < 24 → cN t i ≤ 1) (hd : d.length = 24) (hn : ∀ n ∈ d, numB n = true) : PreR { m with table := t, data := d } := by
  have hm : ∀ x ∈ imTabs { m with table := t, data := d }, x = t ∨ x ∈ imTabs m := fun x hx => by
    have hx' : x ∈ t :: m.snaps.map (·.table) := hx
    rw [List.mem_cons] at hx'
    rcases hx' with rfl | hx'
    · exact .inl rfl
    · exact .inr (by unfold imTabs; exact List.mem_cons_of_mem _ hx')
  refine ⟨h.few, hd, fun x hx => ?_, fun x hx => ?_, h.nm, h.names, hn⟩
  · rcases hm x hx with rfl | h1
    · exact ht
    · exact h.t x h1
  · rcases hm x hx with rfl | h1
    · exact ho
    · exact h.once x h1
theorem nums_set {d : List Int} (h : ∀ n ∈ d, numB n = true) (c : Nat) {v : Int} (hv : numB v = true) : ∀ n ∈ d.set c v, numB n = true := fun n hn => by
  rcases List.mem_or_eq_of_mem_set hn with h1 | rfl
  · exact h n h1
  · exact hv
theorem ImR.cN_le {m : Img} (h : ImR m) : ∀ i, i < 24 → cN m.table i ≤ 1 := h.pre.once _ (by simp [imTabs])
theorem ImR.zero {m : Img} (h : ImR m) {g : Nat} (hg : g < m.table.length) : ImR (imZero m g) := by
  rw [← fit_zero h hg]
  refine (h.pre.withT (d := m.data) (tbB_set h.table g (by omega) (by omega)) (fun i hi => ?_) h.len h.nums).fit
  have := h.cN_le i hi
  rw [cN_set hg, if_neg (show ¬ (1 : Int) = (i : Int) + 2 by omega)]
  split <;> omega
theorem ImR.write {m : Img} (h : ImR m) {g : Nat} (hg : g < m.table.length) {v : Int} (hv : numB v = true) : ImR (imWrite m g v).1 := by
  have hb := tbB_at h.table g hg
  by_cases h1 : 2 ≤ m.table[g] ∧ m.refs.getD (m.table[g] - 2).toNat 0 = 1
  · have hc : m.table[g] = (((m.table[g] - 2).toNat : Nat) : Int) + 2 := by omega
    have hr : (m.table[g] - 2).toNat < m.refs.length := by rw [h.rl]; omega
    have h1' : m.refs[(m.table[g] - 2).toNat] = 1 := by have := h1.2; simpa [List.getD, hr] using this
    rw [imWrite_in hg hc hr h1']
    rw [← fit_in h v hg hc h1.2]
    have hset : m.table.set g (2 + ((m.table[g] - 2).toNat : Int)) = m.table := by
      rw [show (2 : Int) + ((m.table[g] - 2).toNat : Int) = m.table[g] by omega]
      exact List.set_getElem_self hg
    rw [hset]
    exact (h.pre.withT h.table h.cN_le (by simp [h.len]) (nums_set h.nums _ hv)).fit
  · rw [imWrite_out hg h1]
    by_cases h2 : frN m.refs < m.refs.length
    · rw [if_pos h2]
      have hc24 : frN m.refs < 24 := by rw [h.rl] at h2; exact h2
      have h0 := free_spec h2
      rw [← fit_out h v hg hc24 h0]
      refine (h.pre.withT (tbB_set h.table g (by omega) (by omega)) (fun i hi => ?_) (by simp [h.len]) (nums_set h.nums _ hv)).fit
      have h3 := h.cN_le i hi
      rw [cN_set hg]
      by_cases hci : frN m.refs = i
      · have h4 : cN m.table i ≤ 0 := by
          have := h.cntA hi
          have := sN_nn (m.snaps.map (·.table)) i
          rw [sN_tabs] at *
          rw [hci] at h0
          omega
        have := cN_nn m.table i
        split <;> split <;> omega
      · rw [if_neg (show ¬ (2 : Int) + (frN m.refs : Int) = (i : Int) + 2 by omega)]
        split <;> omega
    · rw [if_neg h2]; exact h

theorem sN_append (s t : List (List Int)) (i : Nat) : sN (s ++ t) i = sN s i + sN t i := by unfold sN; rw [List.map_append, List.sum_append]
theorem raise_get {m : Img} {t : List Int} (hr : m.refs.length = 24) (ht : tbB t = true) {i : Nat} (hi : i < 24) : (imRaise m t).refs.getD i 0 = m.refs.getD i 0 + cN t i := by
  rw [← clA_count]
  exact fold_incr_get i hi _ (cl_mem ht) _ hr
theorem raise_len (m : Img) (t : List Int) : (imRaise m t).refs.length = m.refs.length := cnt1T_len t m.refs
theorem fit_create {m : Img} (h : ImR m) (name : ByteArray) : imFit { m with snaps := m.snaps ++ [⟨name, m.table⟩] } = { imRaise m m.table with snaps := m.snaps ++ [⟨name, m.table⟩] } := by
  have hcs : ∀ i, sN (imTabs { m with snaps := m.snaps ++ [⟨name, m.table⟩] }) i = sN (imTabs m) i + cN m.table i := fun i => by
    have e : sN (imTabs { m with snaps := m.snaps ++ [⟨name, m.table⟩] }) i = cN m.table i + sN (List.map (fun s : Snp => s.table) (m.snaps ++ [⟨name, m.table⟩])) i := rfl
    have e2 : sN [m.table] i = cN m.table i := by rw [sN_cons]; simp [sN]
    rw [e, List.map_append, sN_append, sN_tabs]
    show _ + (_ + sN [m.table] i) = _
    rw [e2]; omega
  have ht : ∀ t ∈ imTabs { m with snaps := m.snaps ++ [⟨name, m.table⟩] }, tbB t = true := fun t ht => by
    have ht' : t ∈ m.table :: List.map (fun s : Snp => s.table) (m.snaps ++ [⟨name, m.table⟩]) := ht
    simp only [List.map_append, List.mem_cons, List.mem_append, List.map_cons, List.map_nil, List.not_mem_nil, or_false] at ht'
    rcases ht' with rfl | ht' | rfl
    · exact h.table
    · exact h.tabs t (by unfold imTabs; exact List.mem_cons_of_mem _ ht')
    · exact h.table
  refine fit_eq (n := { imRaise m m.table with snaps := m.snaps ++ [⟨name, m.table⟩] }) ht (by show (imRaise m m.table).refs.length = 24; rw [raise_len]; exact h.rl) h.len rfl rfl (fun i hi => ?_) (fun i hi => ?_)
  · show (imRaise m m.table).refs.getD i 0 = _
    rw [raise_get h.rl h.table hi, hcs, h.cntA hi]
  · show m.data.getD i 0 = if _ then 0 else m.data.getD i 0
    rw [hcs, ← h.cntA hi]
    have h1 := cN_nn m.table i
    have h2 := sN_nn (imTabs m) i
    rw [← h.cntA hi] at h2
    by_cases hz : m.refs.getD i 0 + cN m.table i = 0
    · rw [if_pos hz, h.clear i hi (by omega)]
    · rw [if_neg hz]
theorem sN_erase {ts : List (List Int)} (i : Nat) : ∀ {k : Nat} (hk : k < ts.length), sN (ts.eraseIdx k) i = sN ts i - cN ts[k] i := by
  induction ts with
  | nil => intro k hk; simp at hk
  | cons t ts ih =>
    intro k hk
    cases k with
    | zero => simp only [List.eraseIdx_cons_zero, List.getElem_cons_zero, sN_cons]; omega
    | succ k =>
      have := ih (k := k) (by simpa using hk)
      simp only [List.eraseIdx_cons_succ, List.getElem_cons_succ, sN_cons, this]; omega
theorem cN_le_sN {ts : List (List Int)} (i : Nat) {k : Nat} (hk : k < ts.length) : cN ts[k] i ≤ sN ts i := by
  have h1 := sN_erase (ts := ts) i hk
  have h2 := sN_nn (ts.eraseIdx k) i
  omega
theorem fit_revert {m : Img} (h : ImR m) {k : Nat} (hk : k < m.snaps.length) : imFit { m with table := m.snaps[k].table } = { imDrops (imRaise m m.snaps[k].table) m.table with table := m.snaps[k].table } := by
  have hk' : k < (m.snaps.map (·.table)).length := by simpa using hk
  have ek : (m.snaps.map (·.table))[k] = m.snaps[k].table := by simp
  have htk : tbB m.snaps[k].table = true := (h.snaps _ (List.getElem_mem hk)).2
  have hcs : ∀ i, sN (imTabs { m with table := m.snaps[k].table }) i = cN m.snaps[k].table i + sN (m.snaps.map (·.table)) i := fun i => rfl
  obtain ⟨l1, l2, l3, l4⟩ := drops_lens (imRaise m m.snaps[k].table) m.table
  have hrl : (imRaise m m.snaps[k].table).refs.length = 24 := (raise_len _ _).trans h.rl
  refine fit_eq (n := { imDrops (imRaise m m.snaps[k].table) m.table with table := m.snaps[k].table }) (tabs_with h htk m.data) (l1.trans hrl) (l2.trans h.len) rfl l4.symm (fun i hi => ?_) (fun i hi => ?_)
  · show (imDrops (imRaise m m.snaps[k].table) m.table).refs.getD i 0 = _
    rw [(drops_get hi _ _ hrl h.len).1, raise_get h.rl htk hi, hcs, h.cntA hi, sN_tabs]; omega
  · show (imDrops (imRaise m m.snaps[k].table) m.table).data.getD i 0 = if _ then 0 else m.data.getD i 0
    have h1 := cN_le_sN i hk'
    rw [ek] at h1
    have h2 := cN_nn m.snaps[k].table i
    have h3 := cN_nn m.table i
    have h4 := h.cntA hi
    rw [sN_tabs] at h4
    rw [(drops_get hi _ _ hrl h.len).2, raise_get h.rl htk hi, hcs]
    have ed : (imRaise m m.snaps[k].table).data.getD i 0 = m.data.getD i 0 := rfl
    rw [ed]
    by_cases hz : cN m.snaps[k].table i + sN (m.snaps.map (·.table)) i = 0
    · rw [if_pos hz]
      by_cases hr : m.refs.getD i 0 = 0
      · rw [if_neg (by omega), h.clear i hi hr]
      · rw [if_pos (by omega)]
    · rw [if_neg hz, if_neg (by omega)]
theorem ImR.create {m : Img} (h : ImR m) (name : ByteArray) : ImR (imCreate m name).1 := by
  unfold imCreate
  split
  · rename_i hn
    split
    · exact h
    · rename_i hf
      split
      · exact h
      · rename_i h3
        show ImR { imRaise m m.table with snaps := m.snaps ++ [⟨name, m.table⟩] }
        rw [← fit_create h name]
        refine PreR.fit ⟨?_, h.len, fun t ht => ?_, fun t ht => ?_, fun s hs => ?_, ?_, h.nums⟩
        · have := h.few
          simp only [List.length_append, List.length_singleton]; omega
        · have ht' : t ∈ m.table :: List.map (fun s : Snp => s.table) (m.snaps ++ [⟨name, m.table⟩]) := ht
          simp only [List.map_append, List.mem_cons, List.mem_append, List.map_cons, List.map_nil, List.not_mem_nil, or_false] at ht'
          rcases ht' with rfl | ht' | rfl
          · exact h.table
          · exact h.tabs t (by unfold imTabs; exact List.mem_cons_of_mem _ ht')
          · exact h.table
        · have ht' : t ∈ m.table :: List.map (fun s : Snp => s.table) (m.snaps ++ [⟨name, m.table⟩]) := ht
          simp only [List.map_append, List.mem_cons, List.mem_append, List.map_cons, List.map_nil, List.not_mem_nil, or_false] at ht'
          rcases ht' with rfl | ht' | rfl
          · exact h.cN_le
          · exact h.pre.once t (by unfold imTabs; exact List.mem_cons_of_mem _ ht')
          · exact h.cN_le
        · simp only [List.mem_append, List.mem_singleton] at hs
          rcases hs with hs | rfl
          · exact (h.snaps s hs).1
          · exact hn
        · rw [List.map_append, List.nodup_append]
          refine ⟨h.names, by simp, ?_⟩
          intro a ha b hb
          simp only [List.map_cons, List.map_nil, List.mem_singleton] at hb
          subst hb
          rintro rfl
          obtain ⟨s, hs, e⟩ := List.mem_map.1 ha
          apply hf
          unfold imFind
          rw [List.findIdx_lt_length]
          exact ⟨s, hs, by simp [e]⟩
  · exact h
theorem ImR.revert {m : Img} (h : ImR m) (name : ByteArray) : ImR (imRevert m name).1 := by
  unfold imRevert
  split
  · rename_i hf
    have e : (m.snaps[imFind m name]?).elim [] (·.table) = m.snaps[imFind m name].table := by rw [List.getElem?_eq_getElem hf]; rfl
    rw [e]
    show ImR { imDrops (imRaise m m.snaps[imFind m name].table) m.table with table := m.snaps[imFind m name].table }
    rw [← fit_revert h hf]
    have htk := (h.snaps _ (List.getElem_mem hf)).2
    exact (h.pre.withT (d := m.data) htk (h.pre.once _ (by unfold imTabs; exact List.mem_cons_of_mem _ (List.mem_map.2 ⟨_, List.getElem_mem hf, rfl⟩))) h.len h.nums).fit
  · exact h
theorem ImR.new {n : Nat} (hn : n ≤ 12) : ImR (imNew n) := by
  have hrep : ∀ i (hi : i < (List.replicate n (0 : Int)).length), (List.replicate n (0 : Int))[i] = 0 := fun i hi => by simp
  have ht : tbB (List.replicate n (0 : Int)) = true := tbB_of (by simpa using hn) (fun i hi => by rw [hrep]; rfl)
  have hc : ∀ i, cN (List.replicate n (0 : Int)) i = 0 := fun i => by
    unfold cN
    rw [List.count_eq_zero_of_not_mem (fun h => by have := List.eq_of_mem_replicate h; omega)]; rfl
  have hp : PreR (imNew n) := ⟨by simp [imNew], rfl, fun t h => (by simp only [imTabs, imNew, List.map_nil, List.mem_singleton] at h; subst h; exact ht), fun t h => (by simp only [imTabs, imNew, List.map_nil, List.mem_singleton] at h; subst h; intro i _; rw [hc]; omega), fun s hs => (by cases hs), List.nodup_nil, (by show ∀ n ∈ zero24, numB n = true; decide)⟩
  have e : imFit (imNew n) = imNew n := by
    refine fit_eq hp.t rfl rfl rfl rfl (fun i hi => ?_) (fun i hi => ?_)
    · show zero24.getD i 0 = _
      rw [zero24_get hi, sN_tabs]
      show _ = cN (List.replicate n (0 : Int)) i + sN [] i
      rw [hc]; rfl
    · show zero24.getD i 0 = if _ then 0 else zero24.getD i 0
      rw [zero24_get hi]; simp
  rw [← e]
  exact hp.fit

end Go.Proofs.YtjjkppknojecjaaGreat

namespace Go.Proofs.YtjjkppknojecjaaGreat
open Go.RowKit
set_option linter.unusedVariables false
set_option maxRecDepth 100000

theorem hx_in (xs : List Int) (i : Nat) (h : ∀ j, 0 ≤ xs.getD j 0 ∧ xs.getD j 0 ≤ 15) : ∀ m, 0 ≤ hx6 xs i m ∧ hx6 xs i m < 16 ^ m
  | 0 => by simp [hx6]
  | m + 1 => by
    obtain ⟨h0, h1⟩ := hx_in xs i h m
    obtain ⟨g0, g1⟩ := h (i + (5 - m))
    rw [hx6, show (16 : Int) ^ (m + 1) = 16 ^ m * 16 from Int.pow_succ 16 m]
    generalize (16 : Int) ^ m = P at *
    omega
theorem hx_le {xs : List Int} (hb : ctB xs = true) (i m : Nat) (hm : m ≤ 5) : 0 ≤ hx6 xs i m ∧ hx6 xs i m ≤ 1048576 := by
  obtain ⟨h0, h1⟩ := hx_in xs i (ctB_getD hb) m
  have hp : (16 : Int) ^ m ≤ 1048576 := by
    match m, hm with
    | 0, _ => decide
    | 1, _ => decide
    | 2, _ => decide
    | 3, _ => decide
    | 4, _ => decide
    | 5, _ => decide
  omega
theorem ctNs_get (xs : List Int) (q : Nat) (h : q < (ctNs xs).length) : (ctNs xs)[q] = lo6 xs (6 * q) 6 := by
  have h4 : q < 4 := h
  match q, h4 with
  | 0, _ => rfl
  | 1, _ => rfl
  | 2, _ => rfl
  | 3, _ => rfl
theorem take_snoc {xs : List Int} {q : Nat} {n : Int} (h : q < xs.length) (e : n = xs[q]) : xs.take (q + 1) = xs.take q ++ [n] := by
  rw [e, List.take_succ_eq_append_getElem h]

set_option maxHeartbeats 3200000 in
theorem l08Encode_any (ao : Option Addr) (cap : Nat) (xs : List Int) (w : World) (hb : ctB xs = true) (hc : Is w ao xs) :
    Calls Tryz.prog 86 #[.slice ao xs.length cap] w fun e w' => e = .returned (.string (encT xs)) ∧ Below w.heap.size w w' := by
  obtain ⟨j0, hj, hy0, hy1, hy2⟩ := info_parts infoM
  have HCB := hide hb
  have HL := hide (ctB_len hb)
  have HC := hide hc
  have HA : Hid (Below w.heap.size w (w.alloc (.cells #[] 3))) := hide (Joins.below_alloc1 _ _)
  clear hb hc
  go_enter Tryz.func86, Tryz.ntmps86
  go_wp2
  go_loopw [3, 4] (fun o i wr => ∃ (q : Nat) (qo : Option Addr) (qa : Nat), q ≤ 4 ∧ i = .int .i64 (6 * (q : Int)) ∧ o = .slice qo q qa ∧ Hid (OwnR wr w.heap.size 3 1 (.slice qo q qa) q (intV ((ctNs xs).take q))) ∧ Hid (Below w.heap.size w wr)) (fun _ i _ => 24 - (intOf i).toNat)
  case atStart => exact ⟨0, _, _, Nat.zero_le _, rfl, rfl, hide (.inl ⟨rfl, rfl, _, rfl⟩), HA⟩
  case round =>
    obtain ⟨q, qo, qa, hq, rfl, rfl, HO, HB⟩ := hrel
    by_cases hlt : q < 4
    · have hlt' : 6 * (q : Int) < 24 := by omega
      go_wp2
      go_loopw [5, 6] (fun n j wq => ∃ m : Nat, m ≤ 6 ∧ j = .int .i64 (5 - (m : Int)) ∧ n = .int .i64 (hx6 xs (6 * q) m) ∧ Hid (OwnR wq w.heap.size 3 1 (.slice qo q qa) q (intV ((ctNs xs).take q))) ∧ Hid (Below w.heap.size w wq)) (fun _ j _ => (intOf j + 1).toNat)
      case atStart => exact ⟨0, by omega, rfl, rfl, HO, HB⟩
      case round =>
        clear HO HB
        obtain ⟨m, hm, rfl, rfl, HO, HB⟩ := hrel
        by_cases hm5 : m ≤ 5
        · obtain ⟨hh0, hh1⟩ := hx_le (unhide HCB) (6 * q) m hm5
          have hk : 6 * q + (5 - m) < xs.length := by rw [unhide HL]; omega
          have hji : 6 * (q : Int) + (5 - (m : Int)) = ((6 * q + (5 - m) : Nat) : Int) := by omega
          have HS : Hid (hx6 xs (6 * q) (m + 1) = 16 * hx6 xs (6 * q) m + xs[6 * q + (5 - m)]) := hide (by rw [hx6]; simp [List.getD, hk])
          obtain ⟨g0, g1⟩ := ctB_at (unhide HCB) _ hk
          obtain ⟨b, off, rfl, hcl⟩ := (unhide HC).below (unhide HB) _ hk
          have hjl : ((6 * q + (5 - m) : Nat) : Int) < (xs.length : Int) := by omega
          generalize 6 * q + (5 - m) = J at *
          generalize hx6 xs (6 * q) m = V at *
          go_wp2
          go_roundw
          case rel => exact ⟨m + 1, by omega, by go_num, by rw [unhide HS], HO, HB⟩
          case measure => simp [intOf]; omega
        · have HE : Hid (hx6 xs (6 * q) m = (ctNs xs)[q]'(show q < 4 from hlt)) := hide (by rw [show m = 6 by omega, hx_lo]; exact (ctNs_get xs q hlt).symm)
          have HOA := hide ((unhide HO).below (Joins.below_alloc1 _ (.cells #[.int .i64 (hx6 xs (6 * q) m)] 3)))
          have HBA := hide (fr (unhide HB) (Joins.below_alloc1 _ (.cells #[.int .i64 (hx6 xs (6 * q) m)] 3)))
          have HSZ := hide (unhide HB).size
          go_wp2_with (at_builtin; refine wpList_append_one rfl _ _ 30 rfl w.heap.size 3 j0 (.int .i64 0) 1 8 Tryz.underlying30 hj hy0 hy1 hy2 rfl (by omega) qo q qa (intV ((ctNs xs).take q)) rfl (unhide HOA) (by have := unhide HSZ; simp; omega) ⟨wr.heap.size, 0, none⟩ _ [.int .i64 (hx6 xs (6 * q) m)] rfl rfl (byte_news wr _ _) (int_one _) (by unfold maxLen; omega) (by omega) ?_; intro g2 cap2 wA hoA hkA; have HSF := hide (And.intro hoA (keep_below (unhide HBA) (unhide HOA) (Nat.le_refl _) hkA)); clear hoA hkA)
          go_roundw
          case rel => exact ⟨q + 1, _, _, by omega, by go_num, rfl, hide (.inr ⟨by omega, by rw [take_snoc (show q < 4 from hlt) (unhide HE), intV_snoc]; exact (unhide HSF).1⟩), hide (unhide HSF).2⟩
          case measure => simp [intOf]; omega
    · have hq4 : q = 4 := by omega
      subst hq4
      have HT : Hid ((ctNs xs).take 4 = ctNs xs) := hide rfl
      have HON : Hid (Is wr qo (ctNs xs)) := hide (by have := unhide HO; rw [unhide HT] at this; exact ownRN (xs := ctNs xs) this)
      have HIN : Hid (∀ j (h : j < (ctNs xs).length), 0 ≤ (ctNs xs)[j] ∧ (ctNs xs)[j] ≤ 2147483647) := hide (fun j h => by have := ctNs_in (unhide HCB) j h; omega)
      go_wp2_with fail
      refine (l02Seal_any 2 qo qa (ctNs xs) _ (by omega) (show 4 ≤ 16 by omega) (unhide HIN) (unhide HON)).mono ?_
      rintro e w1 ⟨rfl, hb⟩
      have HBE := hide (fr (unhide HB) hb)
      clear hb
      go_wp2
      go_ret
      exact ⟨rfl, unhide HBE⟩

end Go.Proofs.YtjjkppknojecjaaGreat

namespace Go.Proofs.YtjjkppknojecjaaGreat
open Go.RowKit
set_option linter.unusedVariables false

section
variable {P : Program} {ops : Array Oper}
end

end Go.Proofs.YtjjkppknojecjaaGreat

namespace Go.Proofs.YtjjkppknojecjaaGreat
open Go.RowKit
set_option linter.unusedVariables false
set_option maxRecDepth 100000

structure ImE (w W : World) (a : Im4) (m : Img) : Prop where
  v : VarM W w.heap.size 68 (.slice a.ro m.refs.length a.rc) (.slice a.tq m.table.length a.tc) (.slice a.so m.snaps.length a.sc) (.slice a.dq m.data.length a.dc)
  r : VarM W (w.heap.size + 1) 68 (.slice none 0 0) (.slice none 0 0) (.slice none 0 0) (.slice none 0 0)
  s : ImS W a m
  b : Below w.heap.size w W
theorem ImE.new (w : World) (a : Im4) (m : Img) (h : ImS w a m) : ImE w ((w.alloc (.cells #[.slice a.ro m.refs.length a.rc, .slice a.tq m.table.length a.tc, .slice a.so m.snaps.length a.sc, .slice a.dq m.data.length a.dc] 68)).alloc (.cells #[.slice none 0 0, .slice none 0 0, .slice none 0 0, .slice none 0 0] 68)) a m :=
  ⟨(VarM.new w _ _ _ _ _).below (Joins.below_alloc1 _ _), (VarM.new (w.alloc _) _ _ _ _ _).at (by simp), h.below (Joins.below_alloc2 _ _ _), Joins.below_alloc2 _ _ _⟩
theorem ImE.below {w W W' : World} {a : Im4} {m : Img} (h : ImE w W a m) (hb : Below W.heap.size W W') : ImE w W' a m := ⟨h.v.below hb, h.r.below hb, h.s.below hb, fr h.b hb⟩
theorem ImE.put {w W W' : World} {a : Im4} {m : Img} (h : ImE w W a m) (hb : Below W.heap.size W W') {a' : Im4} {m' : Img} {ts : List Value} (ho : OwnIm W' W.heap.size a' m' ts) :
    VarM (putI W' (w.heap.size + 1) a' m') (w.heap.size + 1) 68 (.slice a'.ro m'.refs.length a'.rc) (.slice a'.tq m'.table.length a'.tc) (.slice a'.so m'.snaps.length a'.sc) (.slice a'.dq m'.data.length a'.dc) ∧ OwnIm (putI W' (w.heap.size + 1) a' m') w.heap.size a' m' ts ∧ Below w.heap.size w (putI W' (w.heap.size + 1) a' m') := by
  obtain ⟨h1, h2, h3⟩ := ImSt.put (h.r.below hb) ho (fr h.b hb) (Nat.le_succ _) h.r.lt a' m'
  exact ⟨h1, h2.base h.b.size, h3⟩
theorem ImE.zero {w W : World} {a : Im4} {m : Img} (h : ImE w W a m) :
    VarM ((((W.setCell ⟨w.heap.size + 1, 0, none⟩ (.slice none 0 0)).setCell ⟨w.heap.size + 1, 1, none⟩ (.slice none 0 0)).setCell ⟨w.heap.size + 1, 2, none⟩ (.slice none 0 0)).setCell ⟨w.heap.size + 1, 3, none⟩ (.slice none 0 0)) (w.heap.size + 1) 68 (.slice none 0 0) (.slice none 0 0) (.slice none 0 0) (.slice none 0 0) ∧
    Below w.heap.size w ((((W.setCell ⟨w.heap.size + 1, 0, none⟩ (.slice none 0 0)).setCell ⟨w.heap.size + 1, 1, none⟩ (.slice none 0 0)).setCell ⟨w.heap.size + 1, 2, none⟩ (.slice none 0 0)).setCell ⟨w.heap.size + 1, 3, none⟩ (.slice none 0 0)) :=
  ⟨(((h.r.set0 _).set1 _).set2 _).set3 _, (((h.b.setCell (p := ⟨w.heap.size + 1, 0, none⟩) (Nat.le_succ _) _).setCell (p := ⟨w.heap.size + 1, 1, none⟩) (Nat.le_succ _) _).setCell (p := ⟨w.heap.size + 1, 2, none⟩) (Nat.le_succ _) _).setCell (p := ⟨w.heap.size + 1, 3, none⟩) (Nat.le_succ _) _⟩
def AnsI (w w' : World) (e : Ending) (R : Img × Int) : Prop := ∃ a ts, e = .returned (.tuple #[imV a R.1, .int .i64 R.2]) ∧ OwnIm w' w.heap.size a R.1 ts ∧ Below w.heap.size w w'
theorem AnsI.of {w w' : World} {v : Value} {c : Int} {R : Img × Int} {a : Im4} {ts : List Value} (hv : v = imV a R.1) (hc : c = R.2) (ho : OwnIm w' w.heap.size a R.1 ts) (hb : Below w.heap.size w w') : AnsI w w' (.returned (.tuple #[v, .int .i64 c])) R := ⟨a, ts, by rw [hv, hc], ho, hb⟩
theorem AnsI.bad {w w' : World} (c : Int) (hb : Below w.heap.size w w') : AnsI w w' (.returned (.tuple #[.agg #[.slice none 0 0, .slice none 0 0, .slice none 0 0, .slice none 0 0], .int .i64 c])) (im0, c) := ⟨⟨none, 0, none, 0, none, 0, none, 0⟩, [], rfl, OwnIm.zero _ _, hb⟩

end Go.Proofs.YtjjkppknojecjaaGreat

namespace Go.Proofs.YtjjkppknojecjaaGreat
open Go.RowKit
set_option linter.unusedVariables false
set_option maxRecDepth 100000

end Go.Proofs.YtjjkppknojecjaaGreat

namespace Go.Proofs.YtjjkppknojecjaaGreat
open Go.RowKit
set_option linter.unusedVariables false
set_option maxRecDepth 100000

end Go.Proofs.YtjjkppknojecjaaGreat
