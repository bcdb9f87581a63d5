import Derived.Test.YtefnapcegeojoaaDoorRows
import Derived.Test.YtefnapcegeojoaaDoorLAtomicPart1
import Derived.Test.YtefnapcegeojoaaDoorLAtomicPart2
import Derived.WalkKit
import Derived.WalkSpells
import Derived.Deep.RegionWith
import Derived.Outline
import Derived.Deep.RegionLawGrows
import Derived.Deep.RegionHeld3
import Derived.Deep.AppendLies
import Derived.OwnWalk

namespace Go.Proofs.YtefnapcegeojoaaDoor
open Go.RowKit
set_option linter.unusedVariables false
set_option maxRecDepth 100000

theorem copyD_end {w wL : World} {po qo : Option Addr} {n pa m qa : Nat} {ss : List ByteArray} {xs : List Wr} (ho : OwnD wL (w.heap.size + 2) po n pa qo m qa ss xs) (hb : Below w.heap.size w wL) (a b : Value) :
    OwnD ((wL.setCell ⟨w.heap.size + 1, 0, none⟩ a).setCell ⟨w.heap.size + 1, 1, none⟩ b) w.heap.size po n pa qo m qa ss xs ∧ Below w.heap.size w ((wL.setCell ⟨w.heap.size + 1, 0, none⟩ a).setCell ⟨w.heap.size + 1, 1, none⟩ b) :=
  ⟨((ho.setCell (a := ⟨w.heap.size + 1, 0, none⟩) (by simp) a).setCell (a := ⟨w.heap.size + 1, 1, none⟩) (by simp) b).base (by omega),
    (hb.setCell (p := ⟨w.heap.size + 1, 0, none⟩) (by simp) a).setCell (p := ⟨w.heap.size + 1, 1, none⟩) (by simp) b⟩

set_option maxHeartbeats 3200000 in
theorem copyDisk_any (ao bo : Option Addr) (ca cb : Nat) (ss : List ByteArray) (xs : List Wr) (w : World) (hl : ss.length ≤ 1048576) (hm : xs.length ≤ 1048576) (h1 : Ss w ao ss) (h2 : Ios w bo xs) :
    Calls Tryd.prog 22 #[.agg #[.slice ao ss.length ca, .slice bo xs.length cb]] w fun e w' => ∃ po pa qo qa, e = .returned (.agg #[.slice po ss.length pa, .slice qo xs.length qa]) ∧ OwnD w' w.heap.size po ss.length pa qo xs.length qa ss xs ∧ Below w.heap.size w w' := by
  have HA := hide (Joins.below_alloc2 w (.cells #[.slice ao ss.length ca, .slice bo xs.length cb] 32) (.cells #[.slice none 0 0, .slice none 0 0] 32))
  have HS := hide (h1.below (unhide HA))
  have HX := hide (h2.below (unhide HA))
  have HSd := hide ((unhide HS).below (Below.refl _ _).drew)
  have HXd := hide ((unhide HX).below (Below.refl _ _).drew)
  have HV : Hid (VarD ((w.alloc (.cells #[.slice ao ss.length ca, .slice bo xs.length cb] 32)).alloc (.cells #[.slice none 0 0, .slice none 0 0] 32)).drew w.heap.size (.slice ao ss.length ca) (.slice bo xs.length cb)) := hide ((VarD.new w _ _).below (Joins.below_alloc1 _ _).drew)
  have HR : Hid (VarD ((w.alloc (.cells #[.slice ao ss.length ca, .slice bo xs.length cb] 32)).alloc (.cells #[.slice none 0 0, .slice none 0 0] 32)).drew (w.heap.size + 1) (.slice none 0 0) (.slice none 0 0)) := hide (by have := VarD.new (w.alloc (.cells #[.slice ao ss.length ca, .slice bo xs.length cb] 32)) (.slice none 0 0) (.slice none 0 0); simp only [World.size_alloc] at this; exact this)
  clear h1 h2
  go_enter Tryd.func22, Tryd.ntmps22
  go_wp2
  go_region_with (first
    | (go_at_call 41; refine (copyS_any ao ca ss _ hl (by first | exact unhide HSd | exact (unhide HSd).below hbW)).mono ?_; rintro e wS ⟨po, pa, rfl, hoS, hbS⟩; have HVS : Hid (VarD wS w.heap.size (.slice ao ss.length ca) (.slice bo xs.length cb)) := (by first | exact hide ((unhide HV).below hbS) | exact hide ((unhide HVW).below hbS)); have HRS : Hid (VarD wS (w.heap.size + 1) (.slice none 0 0) (.slice none 0 0)) := (by first | exact hide ((unhide HR).below hbS) | exact hide ((unhide HRW).below hbS)); obtain ⟨hs0, hs1⟩ := (unhide HVS).cells; obtain ⟨hs2, hs3⟩ := (unhide HRS).cells; have hs4 := Joins.unfrozen_of_block (unhide HRS) 0; have hs5 := Joins.unfrozen_of_block (unhide HRS) 1)
    | (go_at_call 42; refine (copyW_any bo cb xs _ hm (by first | exact unhide HXd | exact (unhide HXd).below hbS)).mono ?_; rintro e wW ⟨qo, qa, rfl, hoW, hbW⟩; have HVW : Hid (VarD wW w.heap.size (.slice ao ss.length ca) (.slice bo xs.length cb)) := (by first | exact hide ((unhide HV).below hbW) | exact hide ((unhide HVS).below hbW)); have HRW : Hid (VarD wW (w.heap.size + 1) (.slice none 0 0) (.slice none 0 0)) := (by first | exact hide ((unhide HR).below hbW) | exact hide ((unhide HRS).below hbW)); obtain ⟨hw0, hw1⟩ := (unhide HVW).cells; obtain ⟨hw2, hw3⟩ := (unhide HRW).cells; have hw4 := Joins.unfrozen_of_block (unhide HRW) 0; have hw5 := Joins.unfrozen_of_block (unhide HRW) 1))
  all_goals first
    | (have HL := hide (copyD_end (w := w) (wL := wW) (po := po) (qo := qo) (n := ss.length) (pa := pa) (m := xs.length) (qa := qa) (ss := ss) (xs := xs) ⟨(hoS.below hbW).base (by simp), hoW.base (by have := hbS.size; simp at this; omega)⟩ (fr (fr (unhide HA).drew hbS) hbW) (.slice po ss.length pa) (.slice qo xs.length qa))
       clear hoS hbS hoW hbW hs0 hs1 hs2 hs3 hs4 hs5
       go_wp2
       exact bodyPost_ret (v := .agg #[.slice po ss.length pa, .slice qo xs.length qa]) (by simp [results, Tryd.results22, go_sem, hw2, hw3]) rfl ⟨_, _, _, _, rfl, (unhide HL).1, (unhide HL).2⟩)
    | (have HL := hide (copyD_end (w := w) (wL := wS) (po := po) (qo := qo) (n := ss.length) (pa := pa) (m := xs.length) (qa := qa) (ss := ss) (xs := xs) ⟨hoS.base (by have := hbW.size; simp at this; omega), (hoW.below hbS).base (by simp)⟩ (fr (fr (unhide HA).drew hbW) hbS) (.slice po ss.length pa) (.slice qo xs.length qa))
       clear hoS hbS hoW hbW hw0 hw1 hw2 hw3 hw4 hw5
       go_wp2
       exact bodyPost_ret (v := .agg #[.slice po ss.length pa, .slice qo xs.length qa]) (by simp [results, Tryd.results22, go_sem, hs2, hs3]) rfl ⟨_, _, _, _, rfl, (unhide HL).1, (unhide HL).2⟩)

end Go.Proofs.YtefnapcegeojoaaDoor

namespace Go.Proofs.YtefnapcegeojoaaDoor
open Go.RowKit
set_option linter.unusedVariables false
set_option maxRecDepth 100000

section
variable {P : Program}
end

theorem belowAl {W0 W : World} (h : Below W0.heap.size W0 W) (o : Obj) : Below W0.heap.size W0 (W.alloc o) := h.alloc h.size o
end Go.Proofs.YtefnapcegeojoaaDoor

namespace Go.Proofs.YtefnapcegeojoaaDoor
open Go.RowKit
set_option linter.unusedVariables false
set_option maxRecDepth 100000

theorem Ios.src {w : World} {ao : Option Addr} {xs : List Wr} (h : Ios w ao xs) : 0 < xs.length → ∃ ad, ao = some ad ∧ ∀ j u, (ioV xs)[j]? = some u → w.cell? (ad.add j) = some u := fun hp => by
  obtain ⟨b, off, rfl, hc⟩ := h.at hp
  exact ⟨_, rfl, hc⟩

theorem VarD.free {w : World} {x : Nat} {a b : Value} (h : VarD w x a b) (i : Nat) : w.frozen? ⟨x, i, none⟩ = false := Joins.unfrozen_of_block h i

end Go.Proofs.YtefnapcegeojoaaDoor

namespace Go.Proofs.YtefnapcegeojoaaDoor
open Go.RowKit
set_option linter.unusedVariables false

def wrV (x : Wr) : List Value := [.int .i64 x.host, .int .i64 x.at_, .string x.data]
theorem wrV_one (x : Wr) : ∀ u ∈ wrV x, u.oneCell' = true := by
  intro u hu
  simp [wrV] at hu
  rcases hu with rfl | rfl | rfl <;> rfl
def VarI (w : World) (y : Nat) (x : Wr) : Prop := w.heap[y]? = some (.cells #[.int .i64 x.host, .int .i64 x.at_, .string x.data] 78 (0, 0))
theorem VarI.new (w : World) (x : Wr) : VarI (w.alloc (.cells #[.int .i64 x.host, .int .i64 x.at_, .string x.data] 78)) w.heap.size x := heap_alloc_new w _
theorem VarI.news {w : World} {y : Nat} {x : Wr} (h : VarI w y x) : ∀ j u, (wrV x)[j]? = some u → w.cell? ((⟨y, 0, none⟩ : Addr).add j) = some u := World.news_of_block (cs := #[.int .i64 x.host, .int .i64 x.at_, .string x.data]) h
theorem VarI.top {W : World} {y : Nat} {x : Wr} (h : W.heap.size = y) : VarI (W.alloc (.cells #[.int .i64 x.host, .int .i64 x.at_, .string x.data] 78)) y x := by rw [← h]; exact VarI.new W x
theorem ioV_snoc (xs : List Wr) (x : Wr) : ioV (xs ++ [x]) = ioV xs ++ wrV x := by simp [ioV, wrV]

theorem belowKp {W0 W W' : World} {S : Nat → Prop} (h : Below W0.heap.size W0 W) (hk : Keep S W W') (hs : ∀ j, S j → W0.heap.size ≤ j) : Below W0.heap.size W0 W' := h.trans (hk.below h.size hs)
theorem zeroD_own {w : World} {B : Nat} : OwnD w B none 0 0 none 0 0 [] [] := ⟨.inl ⟨rfl, rfl, none, rfl⟩, .inl ⟨rfl, rfl, none, rfl⟩⟩
theorem zero_end {w wL : World} (hb : Below w.heap.size w wL) (a b : Value) : Below w.heap.size w ((wL.setCell ⟨w.heap.size + 1, 0, none⟩ a).setCell ⟨w.heap.size + 1, 1, none⟩ b) :=
  (hb.setCell (p := ⟨w.heap.size + 1, 0, none⟩) (by simp) a).setCell (p := ⟨w.heap.size + 1, 1, none⟩) (by simp) b

theorem ask_zero (ss : List ByteArray) (xs : List Wr) (h : Int) : askC ss xs h 0 = hostC ss xs h := by
  unfold askC
  split
  · rename_i e; rw [e]; rfl
  · rfl
theorem land_end {w wL : World} {po qo : Option Addr} {n pa m qa : Nat} {ss : List ByteArray} {xs : List Wr} {B : Nat} (ho : OwnD wL B po n pa qo m qa ss xs) (hB : w.heap.size + 2 ≤ B) (hb : Below w.heap.size w wL) (a b : Value) :
    OwnD ((wL.setCell ⟨w.heap.size + 1, 0, none⟩ a).setCell ⟨w.heap.size + 1, 1, none⟩ b) w.heap.size po n pa qo m qa ss xs ∧ Below w.heap.size w ((wL.setCell ⟨w.heap.size + 1, 0, none⟩ a).setCell ⟨w.heap.size + 1, 1, none⟩ b) :=
  copyD_end (ho.base hB) hb a b

end Go.Proofs.YtefnapcegeojoaaDoor

namespace Go.Proofs.YtefnapcegeojoaaDoor
open Go.RowKit
set_option linter.unusedVariables false
set_option maxRecDepth 100000

end Go.Proofs.YtefnapcegeojoaaDoor

namespace Go.Proofs.YtefnapcegeojoaaDoor
open Go.RowKit
set_option linter.unusedVariables false

def stepF (h : Int) (lost : Bool) (st : List ByteArray × List Wr × Int) (x : Wr) : List ByteArray × List Wr × Int :=
  if x.host = h then (if 0 < st.2.2 then (st.1.set x.at_.toNat x.data, st.2.1, st.2.2 - 1) else if lost = true then st else (st.1, st.2.1 ++ [x], st.2.2)) else (st.1, st.2.1 ++ [x], st.2.2)
def landF (h : Int) (lost : Bool) (ss : List ByteArray) (xs : List Wr) (n : Int) : List ByteArray × List Wr × Int := xs.foldl (stepF h lost) (ss, [], n)
theorem landF_succ {h : Int} {lost : Bool} {ss : List ByteArray} {xs : List Wr} {n : Int} {k : Nat} (hk : k < xs.length) : landF h lost ss (xs.take (k + 1)) n = stepF h lost (landF h lost ss (xs.take k) n) xs[k] := by
  unfold landF
  rw [List.take_succ_eq_append_getElem hk, List.foldl_append]
  rfl
theorem step_other {h : Int} {lost : Bool} {x : Wr} (ha : x.host ≠ h) (SS : List ByteArray) (LX : List Wr) (N : Int) : stepF h lost (SS, LX, N) x = (SS, LX ++ [x], N) := by simp [stepF, ha]
theorem step_land {h : Int} {lost : Bool} {x : Wr} (ha : x.host = h) (SS : List ByteArray) (LX : List Wr) {N : Int} (hn : 0 < N) : stepF h lost (SS, LX, N) x = (SS.set x.at_.toNat x.data, LX, N - 1) := by simp [stepF, ha, hn]
theorem step_keep {h : Int} {x : Wr} (ha : x.host = h) (SS : List ByteArray) (LX : List Wr) {N : Int} (hn : ¬ 0 < N) : stepF h false (SS, LX, N) x = (SS, LX ++ [x], N) := by simp [stepF, ha, hn]

theorem VarD.set1 {w : World} {y : Nat} {a b : Value} (h : VarD w y a b) (c : Value) : VarD (w.setCell ⟨y, 1, none⟩ c) y a c := by
  unfold VarD
  rw [Joins.block_setCell h c]
  rfl
structure LandSt (w : World) (v : Nat) (po : Option Addr) (pa n : Nat) (wr : World) (SS : List ByteArray) (LX : List Wr) (qo : Option Addr) (qa : Nat) : Prop where
  var : VarD wr v (.slice po n pa) (.slice qo LX.length qa)
  s : OwnR wr (w.heap.size + 2) 9 1 (.slice po n pa) n (strV SS)
  i : OwnR wr (w.heap.size + 2) 78 3 (.slice qo LX.length qa) LX.length (ioV LX)
  r : VarD wr (w.heap.size + 1) (.slice none 0 0) (.slice none 0 0)
  b : Below w.heap.size w wr

theorem LandSt.below {w : World} {v : Nat} {po : Option Addr} {pa n : Nat} {wr wr' : World} {SS : List ByteArray} {LX : List Wr} {qo : Option Addr} {qa : Nat} (h : LandSt w v po pa n wr SS LX qo qa) (hb : Below wr.heap.size wr wr') : LandSt w v po pa n wr' SS LX qo qa :=
  ⟨h.var.below hb, h.s.below hb, h.i.below hb, h.r.below hb, fr h.b hb⟩

theorem strV_set (SS : List ByteArray) (j : Nat) (d : ByteArray) : (strV SS).set j (.string d) = strV (SS.set j d) := by simp [strV, List.map_set]

theorem LandSt.form {w : World} {v : Nat} {po : Option Addr} {pa n : Nat} {wr : World} {SS : List ByteArray} {LX : List Wr} {qo : Option Addr} {qa : Nat} (h : LandSt w v po pa n wr SS LX qo qa) {j : Nat} (hj : j < n) :
    ∃ g x, po = some ⟨g, 0, none⟩ ∧ g < wr.heap.size ∧ wr.cell? ⟨g, j, none⟩ = some x ∧ wr.frozen? ⟨g, j, none⟩ = false ∧ ∀ d, LandSt w v po pa n (wr.setCell ⟨g, j, none⟩ (.string d)) (SS.set j d) LX qo qa := by
  have hpos : 0 < n := by omega
  obtain ⟨h0, -, _⟩ | ⟨_, ho⟩ := h.s
  · omega
  obtain ⟨g, cap, cur, e0, hg, hcur⟩ := own_form hpos ho
  simp only [Value.slice.injEq, true_and] at e0
  obtain ⟨rfl, rfl⟩ := e0
  have hown : Own (.slice (some ⟨g, 0, none⟩) n pa) g := own_of hpos rfl
  have hlen : (strV SS).length = n := by have := h.s.len; omega
  refine ⟨g, _, rfl, (h.s.ge g hown).2, (ho.cellAt j (by omega)).trans (List.getElem?_eq_getElem (by rw [hlen]; exact hj)), ho.frozenAt j, fun d => ?_⟩
  have hk : Keep (fun k => k = g) wr (wr.setCell ⟨g, j, none⟩ (.string d)) := Keep.setCell (S := fun k => k = g) (Keep.refl _ _) (p := ⟨g, j, none⟩) rfl _
  refine ⟨h.var.keep hk (fun e => h.s.other h.var (by decide) (e ▸ hown)), .inr ⟨hpos, ?_⟩, h.i.keep hk (fun k hk' e => own_apart h.i h.s (by decide) k hk' (e ▸ hown)), h.r.keep hk (fun e => h.s.other h.r (by decide) (e ▸ hown)), h.b.setCell (p := ⟨g, j, none⟩) (by have := (h.s.ge g hown).1; simp; omega) _⟩
  rw [← strV_set]
  exact (ho.stored j (.string d)).1

theorem LandSt.app {w : World} {v : Nat} {po : Option Addr} {pa n : Nat} {wr wA : World} {SS : List ByteArray} {LX : List Wr} {qo : Option Addr} {qa : Nat} (h : LandSt w v po pa n wr SS LX qo qa) (hv : w.heap.size ≤ v) (hne : v ≠ w.heap.size + 1) {x : Wr} {g cap : Nat}
    (ho : wA.ownsRow (w.heap.size + 2) 78 3 (.slice (some ⟨g, 0, none⟩) (LX.length + 1) cap) (LX.length + 1) (ioV LX ++ wrV x)) (hk : Keep (Own (.slice qo LX.length qa)) wr wA) :
    VarD wA v (.slice po n pa) (.slice qo LX.length qa) ∧ LandSt w v po pa n (wA.setCell ⟨v, 1, none⟩ (.slice (some ⟨g, 0, none⟩) (LX.length + 1) cap)) SS (LX ++ [x]) (some ⟨g, 0, none⟩) cap := by
  have hva := h.var.keep hk (h.i.other h.var (by decide))
  have hra := h.r.keep hk (h.i.other h.r (by decide))
  have hsa := h.s.keep hk (own_apart h.s h.i (by decide))
  have hia : OwnR wA (w.heap.size + 2) 78 3 (.slice (some ⟨g, 0, none⟩) (LX.length + 1) cap) (LX.length + 1) (ioV (LX ++ [x])) := .inr ⟨Nat.succ_pos _, by rw [ioV_snoc]; exact ho⟩
  have hba : Below w.heap.size w wA := belowKp h.b hk (fun j hj => Nat.le_trans (by omega) (h.i.ge j hj).1)
  have hl : (LX ++ [x]).length = LX.length + 1 := by simp
  have hk2 : Keep (fun j => j = v) wA (wA.setCell ⟨v, 1, none⟩ (.slice (some ⟨g, 0, none⟩) (LX.length + 1) cap)) := Keep.setCell (S := fun j => j = v) (Keep.refl _ _) (p := ⟨v, 1, none⟩) rfl _
  refine ⟨hva, ?_, hsa.keep hk2 (fun j hj e => hsa.other hva (by decide) (e ▸ hj)), ?_, hra.keep hk2 (fun e => hne e.symm), hba.setCell (p := ⟨v, 1, none⟩) hv _⟩
  · rw [hl]; exact hva.set1 _
  · rw [hl]; exact hia.keep hk2 (fun j hj e => hia.other hva (by decide) (e ▸ hj))

set_option maxRecDepth 100000 in
set_option maxHeartbeats 3200000 in
theorem landFirst_any (ao bo : Option Addr) (ca cb : Nat) (ss : List ByteArray) (xs : List Wr) (h n : Int) (w : World) (hn0 : 0 ≤ n) (hn1 : n ≤ 1048576) (hl : ss.length ≤ 1048576) (hm : xs.length ≤ 200) (hat : ∀ i (hi : i < xs.length), 0 ≤ xs[i].at_ ∧ xs[i].at_ < ss.length) (h1 : Ss w ao ss) (h2 : Ios w bo xs) :
    Calls Tryd.prog 25 #[.agg #[.slice ao ss.length ca, .slice bo xs.length cb], .int .i64 h, .int .i64 n] w fun e w' => ∃ po pa qo qa, e = .returned (.agg #[.slice po ss.length pa, .slice qo (landF h false ss xs n).2.1.length qa]) ∧ OwnD w' w.heap.size po ss.length pa qo (landF h false ss xs n).2.1.length qa (landF h false ss xs n).1 (landF h false ss xs n).2.1 ∧ Below w.heap.size w w' := by
  have HA := hide (Joins.below_alloc2 w (.cells #[.slice ao ss.length ca, .slice bo xs.length cb] 32) (.cells #[.slice none 0 0, .slice none 0 0] 32))
  have H1 := hide (h1.below (unhide HA))
  have H2 := hide (h2.below (unhide HA))
  have HV := hide ((VarD.new w (.slice ao ss.length ca) (.slice bo xs.length cb)).below (Joins.below_alloc1 _ (.cells #[.slice none 0 0, .slice none 0 0] 32)))
  have HR : Hid (VarD ((w.alloc (.cells #[.slice ao ss.length ca, .slice bo xs.length cb] 32)).alloc (.cells #[.slice none 0 0, .slice none 0 0] 32)) (w.heap.size + 1) (.slice none 0 0) (.slice none 0 0)) := hide (by have := VarD.new (w.alloc (.cells #[.slice ao ss.length ca, .slice bo xs.length cb] 32)) (.slice none 0 0) (.slice none 0 0); simp only [World.size_alloc] at this; exact this)
  have HX0 := hide h2
  have HAT := hide hat
  have HLEN := hide hl
  clear h1 h2 hat hl
  obtain ⟨j0, hj, hy0, hy1, hy2⟩ := info_parts infoW
  go_enter Tryd.func25, Tryd.ntmps25
  go_wp2_with fail
  refine (copyS_any ao ca ss _ (unhide HLEN) (unhide H1)).mono ?_
  rintro e w1 ⟨po, pa, rfl, ho1, hb1⟩
  have HV1 := hide ((unhide HV).below hb1)
  have HR1 := hide ((unhide HR).below hb1)
  have HX1 := hide ((unhide H2).below hb1)
  have HB1 := hide (fr (unhide HA) hb1)
  have HO1 := hide (ho1.base (B' := w.heap.size + 2) (by simp))
  have hlt1 : w.heap.size + 1 < w1.heap.size := (unhide HR1).lt
  have hlt0 : w.heap.size < w1.heap.size := (unhide HV1).lt
  clear ho1 hb1
  obtain ⟨hv0, hv1⟩ := (unhide HV1).cells
  have HST : Hid (LandSt w w1.heap.size po pa ss.length (w1.alloc (.cells #[.slice po ss.length pa, .slice none 0 0] 32)) ss [] none 0) := hide ⟨VarD.new w1 _ _, (unhide HO1).below (Joins.below_alloc1 _ _), .inl ⟨rfl, rfl, none, rfl⟩, (unhide HR1).below (Joins.below_alloc1 _ _), fr (unhide HB1) (Joins.below_alloc1 _ _)⟩
  go_wp2
  go_loopw [2, 9, 17] (fun c _ i wr => ∃ (k : Nat) (SS : List ByteArray) (LX : List Wr) (N : Int) (qo : Option Addr) (qa : Nat), k ≤ xs.length ∧ i = .int .i64 k ∧ c = .int .i64 N ∧ 0 ≤ N ∧ N ≤ 1048576 ∧ LX.length ≤ k ∧ Hid (landF h false ss (xs.take k) n = (SS, LX, N)) ∧ Hid (LandSt w w1.heap.size po pa ss.length wr SS LX qo qa)) (fun _ _ i _ => xs.length - (intOf i).toNat)
  case atStart => exact ⟨0, ss, [], n, none, 0, Nat.zero_le _, rfl, rfl, hn0, hn1, Nat.le_refl _, hide rfl, HST⟩
  case round =>
    obtain ⟨k, SS, LX, N, qo, qa, hk, rfl, rfl, hN0, hN1, hLX, HL, HS⟩ := hrel
    clear HST
    obtain ⟨hw0, hw1⟩ := (unhide HS).var.cells
    obtain ⟨hr0, hr1⟩ := (unhide HS).r.cells
    have hlw := (unhide HS).var.lt
    by_cases hlt : k < xs.length
    · obtain ⟨b, off, rfl, hc0, hc1, hc2, hz⟩ := (unhide HX0).below (unhide HS).b k hlt
      clear hz
      obtain ⟨a, ha, hal⟩ : ∃ a : Nat, xs[k].at_ = (a : Int) ∧ a < ss.length := ⟨xs[k].at_.toNat, by have := unhide HAT k hlt; omega, by have := unhide HAT k hlt; omega⟩
      rw [ha] at hc1
      obtain ⟨g, x0, rfl, hgl, hgc, hgf, hset⟩ := ((unhide HS).below (Joins.below_alloc1 _ (.cells #[.int .i64 xs[k].host, .int .i64 a, .string xs[k].data] 78))).form hal
      have HSET := hide (hset xs[k].data)
      have HSA := hide ((unhide HS).below (Joins.below_alloc1 _ (.cells #[.int .i64 xs[k].host, .int .i64 a, .string xs[k].data] 78)))
      have HA := hide ha
      clear ha hset
      have HX := hide (show (⟨xs[k].host, a, xs[k].data⟩ : Wr) = xs[k] by rw [← unhide HA])
      have HSB := hide ((unhide HSA).below (Joins.below_alloc1 _ (.cells #[.int .i64 xs[k].host, .int .i64 a, .string xs[k].data] 78)))
      have HI : Hid (VarI ((wr.alloc (.cells #[.int .i64 xs[k].host, .int .i64 a, .string xs[k].data] 78)).alloc (.cells #[.int .i64 xs[k].host, .int .i64 a, .string xs[k].data] 78)) (wr.heap.size + 1) ⟨xs[k].host, a, xs[k].data⟩) := hide (VarI.top (x := ⟨xs[k].host, a, xs[k].data⟩) (by simp))
      by_cases e0 : xs[k].host = h
      · by_cases hN : 0 < N
        · have HN := hide (step_land (lost := false) e0 SS LX hN)
          have b0 : (xs[k].host == h) = true := by simp [e0]
          clear e0
          go_wp2
          go_roundw
          case rel => exact ⟨k + 1, SS.set a xs[k].data, LX, N - 1, qo, qa, by omega, by go_num, by go_num, by omega, by omega, by omega, hide (by rw [landF_succ hlt, unhide HL, unhide HN, unhide HA]; rfl), HSET⟩
          case measure => simp [intOf]; omega
        · have HN := hide (step_keep e0 SS LX hN)
          have b0 : (xs[k].host == h) = true := by simp [e0]
          clear e0
          go_wp2_with (at_builtin; refine wpList_append_one rfl _ _ 30 rfl (w.heap.size + 2) 78 j0 (.agg #[.int .i64 0, .int .i64 0, .string ⟨#[]⟩]) 3 32 Tryd.underlying30 hj hy0 hy1 hy2 rfl (by omega) qo LX.length qa (ioV LX) rfl (unhide HSB).i (by simp; omega) ⟨wr.heap.size + 1, 0, none⟩ _ (wrV ⟨xs[k].host, a, xs[k].data⟩) rfl rfl (unhide HI).news (wrV_one _) (by unfold maxLen; omega) (by omega) ?_; intro g2 cap wA hoA hkA; obtain ⟨hvA, hsA⟩ := (unhide HSB).app (by omega) (by omega) hoA hkA; have HSF := hide hsA; obtain ⟨hA0, hA1⟩ := hvA.cells; have hA2 := hvA.free 1; clear hoA hkA hvA hsA)
          go_roundw
          case rel => exact ⟨k + 1, SS, LX ++ [⟨xs[k].host, a, xs[k].data⟩], N, _, _, by omega, by go_num, by go_num, by omega, by omega, by simp; omega, hide (by rw [landF_succ hlt, unhide HL, unhide HN, unhide HX]), HSF⟩
          case measure => simp [intOf]; omega
      · have HN := hide (step_other (lost := false) e0 SS LX N)
        have b0 : (xs[k].host == h) = false := by simp [e0]
        clear e0
        go_wp2_with (at_builtin; refine wpList_append_one rfl _ _ 30 rfl (w.heap.size + 2) 78 j0 (.agg #[.int .i64 0, .int .i64 0, .string ⟨#[]⟩]) 3 32 Tryd.underlying30 hj hy0 hy1 hy2 rfl (by omega) qo LX.length qa (ioV LX) rfl (unhide HSB).i (by simp; omega) ⟨wr.heap.size + 1, 0, none⟩ _ (wrV ⟨xs[k].host, a, xs[k].data⟩) rfl rfl (unhide HI).news (wrV_one _) (by unfold maxLen; omega) (by omega) ?_; intro g2 cap wA hoA hkA; obtain ⟨hvA, hsA⟩ := (unhide HSB).app (by omega) (by omega) hoA hkA; have HSF := hide hsA; obtain ⟨hA0, hA1⟩ := hvA.cells; have hA2 := hvA.free 1; clear hoA hkA hvA hsA)
        go_roundw
        case rel => exact ⟨k + 1, SS, LX ++ [⟨xs[k].host, a, xs[k].data⟩], N, _, _, by omega, by go_num, by go_num, by omega, by omega, by simp; omega, hide (by rw [landF_succ hlt, unhide HL, unhide HN, unhide HX]), HSF⟩
        case measure => simp [intOf]; omega
    · have HF : Hid (landF h false ss xs n = (SS, LX, N)) := by
        have := unhide HL
        rw [List.take_of_length_le (by omega)] at this
        exact hide this
      have HE := hide (copyD_end (w := w) (wL := wr) ⟨(unhide HS).s, (unhide HS).i⟩ (unhide HS).b (.slice po ss.length pa) (.slice qo LX.length qa))
      have hr2 := (unhide HS).r.free 0
      have hr3 := (unhide HS).r.free 1
      have hlr := (unhide HS).r.lt
      go_wp2
      rw [unhide HF]
      exact bodyPost_ret (v := .agg #[.slice po ss.length pa, .slice qo LX.length qa]) (by simp [results, Tryd.results25, go_sem, hr0, hr1]) rfl ⟨po, pa, qo, qa, rfl, (unhide HE).1, (unhide HE).2⟩

end Go.Proofs.YtefnapcegeojoaaDoor

namespace Go.Proofs.YtefnapcegeojoaaDoor
open Go.RowKit
set_option linter.unusedVariables false

theorem step_drop {h : Int} {x : Wr} (ha : x.host = h) (SS : List ByteArray) (LX : List Wr) {N : Int} (hn : ¬ 0 < N) : stepF h true (SS, LX, N) x = (SS, LX, N) := by simp [stepF, ha, hn]

end Go.Proofs.YtefnapcegeojoaaDoor

namespace Go.Proofs.YtefnapcegeojoaaDoor
open Go.RowKit
set_option linter.unusedVariables false

theorem land_inv (h : Int) (lost : Bool) (P : ByteArray → Prop) : ∀ (xs : List Wr) (SS : List ByteArray) (LX : List Wr) (N : Int), (∀ s ∈ SS, P s) → (∀ x ∈ xs, P x.data) → (∀ x ∈ LX, P x.data) →
    (∀ s ∈ (xs.foldl (stepF h lost) (SS, LX, N)).1, P s) ∧ (∀ x ∈ (xs.foldl (stepF h lost) (SS, LX, N)).2.1, P x.data) ∧ (xs.foldl (stepF h lost) (SS, LX, N)).1.length = SS.length ∧ (xs.foldl (stepF h lost) (SS, LX, N)).2.1.length ≤ LX.length + xs.length
  | [], SS, LX, N, h1, _, h3 => ⟨h1, h3, rfl, Nat.le_refl _⟩
  | x :: xs, SS, LX, N, h1, h2, h3 => by
    have hx := h2 x (List.mem_cons_self ..)
    have hr : ∀ y ∈ xs, P y.data := fun y hy => h2 y (List.mem_cons_of_mem _ hy)
    have happ : ∀ y ∈ LX ++ [x], P y.data := by
      intro y hy
      rcases List.mem_append.1 hy with h | h
      · exact h3 y h
      · simp at h; subst h; exact hx
    have hset : ∀ s ∈ SS.set x.at_.toNat x.data, P s := by
      intro s hs
      rcases List.mem_or_eq_of_mem_set hs with h | h
      · exact h1 s h
      · rw [h]; exact hx
    rw [List.foldl_cons]
    by_cases ha : x.host = h
    · by_cases hn : 0 < N
      · rw [step_land ha SS LX hn]
        obtain ⟨q1, q2, q3, q4⟩ := land_inv h lost P xs (SS.set x.at_.toNat x.data) LX (N - 1) hset hr h3
        exact ⟨q1, q2, by rw [q3, List.length_set], by simp only [List.length_cons]; omega⟩
      · cases lost
        · rw [step_keep ha SS LX hn]
          obtain ⟨q1, q2, q3, q4⟩ := land_inv h false P xs SS (LX ++ [x]) N h1 hr happ
          exact ⟨q1, q2, q3, by simp only [List.length_cons, List.length_append, List.length_nil] at q4 ⊢; omega⟩
        · rw [step_drop ha SS LX hn]
          obtain ⟨q1, q2, q3, q4⟩ := land_inv h true P xs SS LX N h1 hr h3
          exact ⟨q1, q2, q3, by simp only [List.length_cons]; omega⟩
    · rw [step_other ha SS LX N]
      obtain ⟨q1, q2, q3, q4⟩ := land_inv h lost P xs SS (LX ++ [x]) N h1 hr happ
      exact ⟨q1, q2, q3, by simp only [List.length_cons, List.length_append, List.length_nil] at q4 ⊢; omega⟩
theorem landF_inv {h n : Int} {lost : Bool} {ss : List ByteArray} {xs : List Wr} (P : ByteArray → Prop) (h1 : ∀ s ∈ ss, P s) (h2 : ∀ x ∈ xs, P x.data) :
    (∀ s ∈ (landF h lost ss xs n).1, P s) ∧ (∀ x ∈ (landF h lost ss xs n).2.1, P x.data) ∧ (landF h lost ss xs n).1.length = ss.length ∧ (landF h lost ss xs n).2.1.length ≤ xs.length := by
  have := land_inv h lost P xs ss [] n h1 h2 (fun _ h => by cases h)
  simpa [landF] using this

theorem diskB_at {ss : List ByteArray} {xs : List Wr} (h : diskB ss xs = true) : ∀ i (hi : i < xs.length), 0 ≤ xs[i].at_ ∧ xs[i].at_ < ss.length := by
  intro i hi
  have hl := (diskB_len h).1
  simp only [diskB, penB, Bool.and_eq_true, List.all_eq_true] at h
  have := h.2.2 xs[i] (List.getElem_mem hi)
  simp only [ioB, Bool.and_eq_true, decide_eq_true_eq] at this
  omega

def flS (ss : List ByteArray) (xs : List Wr) (h : Int) : List ByteArray := if hostC ss xs h = 0 then (landF h false ss xs 200).1 else []
def flX (ss : List ByteArray) (xs : List Wr) (h : Int) : List Wr := if hostC ss xs h = 0 then (landF h false ss xs 200).2.1 else []
theorem fl_ok {ss : List ByteArray} {xs : List Wr} {h : Int} (h1 : hostC ss xs h = 0) : flS ss xs h = (landF h false ss xs 200).1 ∧ flX ss xs h = (landF h false ss xs 200).2.1 := by simp [flS, flX, h1]
theorem fl_bad {ss : List ByteArray} {xs : List Wr} {h : Int} (h1 : ¬ hostC ss xs h = 0) : flS ss xs h = [] ∧ flX ss xs h = [] := by simp [flS, flX, h1]
theorem landF_slen {h n : Int} {lost : Bool} {ss : List ByteArray} {xs : List Wr} : (landF h lost ss xs n).1.length = ss.length := (landF_inv (fun _ => True) (fun _ _ => trivial) (fun _ _ => trivial)).2.2.1

end Go.Proofs.YtefnapcegeojoaaDoor

namespace Go.Proofs.YtefnapcegeojoaaDoor
open Go.RowKit
set_option linter.unusedVariables false

def dropF (h : Int) (xs : List Wr) : List Wr := xs.filter fun x => x.host != h
theorem dropF_succ_hit {h : Int} {xs : List Wr} {k : Nat} (hk : k < xs.length) (he : xs[k].host = h) : dropF h (xs.take (k + 1)) = dropF h (xs.take k) := by
  rw [dropF, dropF, List.take_succ_eq_append_getElem hk, List.filter_append]; simp [he]
theorem dropF_succ_miss {h : Int} {xs : List Wr} {k : Nat} (hk : k < xs.length) (he : ¬ xs[k].host = h) : dropF h (xs.take (k + 1)) = dropF h (xs.take k) ++ [xs[k]] := by
  rw [dropF, dropF, List.take_succ_eq_append_getElem hk, List.filter_append]; simp [he]
theorem land_drop (h : Int) : ∀ (xs : List Wr) (SS : List ByteArray) (LX : List Wr) (N : Int), xs.foldl (stepF h true) (SS, dropF h LX, N) = ((xs.foldl (stepF h false) (SS, LX, N)).1, dropF h (xs.foldl (stepF h false) (SS, LX, N)).2.1, (xs.foldl (stepF h false) (SS, LX, N)).2.2)
  | [], SS, LX, N => rfl
  | x :: xs, SS, LX, N => by
    rw [List.foldl_cons, List.foldl_cons]
    by_cases ha : x.host = h
    · by_cases hn : 0 < N
      · rw [step_land ha SS LX hn, step_land ha SS (dropF h LX) hn]
        exact land_drop h xs _ _ _
      · rw [step_keep ha SS LX hn, step_drop ha SS (dropF h LX) hn]
        have : dropF h LX = dropF h (LX ++ [x]) := by simp [dropF, ha]
        rw [this]
        exact land_drop h xs _ _ _
    · rw [step_other ha SS LX N, step_other ha SS (dropF h LX) N]
      have : dropF h LX ++ [x] = dropF h (LX ++ [x]) := by simp [dropF, ha]
      rw [this]
      exact land_drop h xs _ _ _
theorem landF_lost (h n : Int) (ss : List ByteArray) (xs : List Wr) : (landF h true ss xs n).1 = (landF h false ss xs n).1 ∧ (landF h true ss xs n).2.1 = dropF h (landF h false ss xs n).2.1 := by
  have := land_drop h xs ss [] n
  have e : landF h true ss xs n = xs.foldl (stepF h true) (ss, dropF h [], n) := rfl
  rw [e, this]
  exact ⟨rfl, rfl⟩

set_option maxRecDepth 100000 in
set_option maxHeartbeats 3200000 in
theorem dropWrites_any (ao bo : Option Addr) (ca cb : Nat) (ss : List ByteArray) (xs : List Wr) (h : Int) (w : World) (hl : ss.length ≤ 1048576) (hm : xs.length ≤ 200) (h1 : Ss w ao ss) (h2 : Ios w bo xs) :
    Calls Tryd.prog 24 #[.agg #[.slice ao ss.length ca, .slice bo xs.length cb], .int .i64 h] w fun e w' => ∃ po pa qo qa, e = .returned (.agg #[.slice po ss.length pa, .slice qo (dropF h xs).length qa]) ∧ OwnD w' w.heap.size po ss.length pa qo (dropF h xs).length qa ss (dropF h xs) ∧ Below w.heap.size w w' := by
  have HA := hide (Joins.below_alloc2 w (.cells #[.slice ao ss.length ca, .slice bo xs.length cb] 32) (.cells #[.slice none 0 0, .slice none 0 0] 32))
  have H1 := hide (h1.below (unhide HA))
  have H2 := hide (h2.below (unhide HA))
  have HV := hide ((VarD.new w (.slice ao ss.length ca) (.slice bo xs.length cb)).below (Joins.below_alloc1 _ (.cells #[.slice none 0 0, .slice none 0 0] 32)))
  have HR : Hid (VarD ((w.alloc (.cells #[.slice ao ss.length ca, .slice bo xs.length cb] 32)).alloc (.cells #[.slice none 0 0, .slice none 0 0] 32)) (w.heap.size + 1) (.slice none 0 0) (.slice none 0 0)) := hide (by have := VarD.new (w.alloc (.cells #[.slice ao ss.length ca, .slice bo xs.length cb] 32)) (.slice none 0 0) (.slice none 0 0); simp only [World.size_alloc] at this; exact this)
  have HX0 := hide h2
  have HLEN := hide hl
  clear h1 h2 hl
  obtain ⟨j0, hj, hy0, hy1, hy2⟩ := info_parts infoW
  go_enter Tryd.func24, Tryd.ntmps24
  go_wp2_with fail
  refine (copyS_any ao ca ss _ (unhide HLEN) (unhide H1)).mono ?_
  rintro e w1 ⟨po, pa, rfl, ho1, hb1⟩
  have HV1 := hide ((unhide HV).below hb1)
  have HR1 := hide ((unhide HR).below hb1)
  have HX1 := hide ((unhide H2).below hb1)
  have HB1 := hide (fr (unhide HA) hb1)
  have HO1 := hide (ho1.base (B' := w.heap.size + 2) (by simp))
  have hlt1 : w.heap.size + 1 < w1.heap.size := (unhide HR1).lt
  have hlt0 : w.heap.size < w1.heap.size := (unhide HV1).lt
  clear ho1 hb1
  obtain ⟨hv0, hv1⟩ := (unhide HV1).cells
  have HST : Hid (LandSt w w1.heap.size po pa ss.length (w1.alloc (.cells #[.slice po ss.length pa, .slice none 0 0] 32)) ss [] none 0) := hide ⟨VarD.new w1 _ _, (unhide HO1).below (Joins.below_alloc1 _ _), .inl ⟨rfl, rfl, none, rfl⟩, (unhide HR1).below (Joins.below_alloc1 _ _), fr (unhide HB1) (Joins.below_alloc1 _ _)⟩
  go_wp2
  go_loopw [7, 15] (fun _ i wr => ∃ (k : Nat) (LX : List Wr) (qo : Option Addr) (qa : Nat), k ≤ xs.length ∧ i = .int .i64 k ∧ LX.length ≤ k ∧ Hid (dropF h (xs.take k) = LX) ∧ Hid (LandSt w w1.heap.size po pa ss.length wr ss LX qo qa)) (fun _ i _ => xs.length - (intOf i).toNat)
  case atStart => exact ⟨0, [], none, 0, Nat.zero_le _, rfl, Nat.le_refl _, hide rfl, HST⟩
  case round =>
    obtain ⟨k, LX, qo, qa, hk, rfl, hLX, HL, HS⟩ := hrel
    clear HST
    obtain ⟨hw0, hw1⟩ := (unhide HS).var.cells
    obtain ⟨hr0, hr1⟩ := (unhide HS).r.cells
    have hlw := (unhide HS).var.lt
    by_cases hlt : k < xs.length
    · obtain ⟨b, off, rfl, hc0, hc1, hc2, hz⟩ := (unhide HX0).below (unhide HS).b k hlt
      clear hz
      have HSA := hide ((unhide HS).below (Joins.below_alloc1 _ (.cells #[.int .i64 xs[k].host, .int .i64 xs[k].at_, .string xs[k].data] 78)))
      have HSB := hide ((unhide HSA).below (Joins.below_alloc1 _ (.cells #[.int .i64 xs[k].host, .int .i64 xs[k].at_, .string xs[k].data] 78)))
      have HI : Hid (VarI ((wr.alloc (.cells #[.int .i64 xs[k].host, .int .i64 xs[k].at_, .string xs[k].data] 78)).alloc (.cells #[.int .i64 xs[k].host, .int .i64 xs[k].at_, .string xs[k].data] 78)) (wr.heap.size + 1) xs[k]) := hide (VarI.top (x := xs[k]) (by simp))
      by_cases e0 : xs[k].host = h
      · have HN := hide (dropF_succ_hit hlt e0)
        have b0 : (xs[k].host != h) = false := by simp [e0]
        clear e0
        go_wp2
        go_roundw
        case rel => exact ⟨k + 1, LX, qo, qa, by omega, by go_num, by omega, hide (by rw [unhide HN, unhide HL]), HSA⟩
        case measure => simp [intOf]; omega
      · have HN := hide (dropF_succ_miss hlt e0)
        have b0 : (xs[k].host != h) = true := by simp [e0]
        clear e0
        go_wp2_with (at_builtin; refine wpList_append_one rfl _ _ 30 rfl (w.heap.size + 2) 78 j0 (.agg #[.int .i64 0, .int .i64 0, .string ⟨#[]⟩]) 3 32 Tryd.underlying30 hj hy0 hy1 hy2 rfl (by omega) qo LX.length qa (ioV LX) rfl (unhide HSB).i (by simp; omega) ⟨wr.heap.size + 1, 0, none⟩ _ (wrV xs[k]) rfl rfl (unhide HI).news (wrV_one _) (by unfold maxLen; omega) (by omega) ?_; intro g2 cap wA hoA hkA; obtain ⟨hvA, hsA⟩ := (unhide HSB).app (by omega) (by omega) hoA hkA; have HSF := hide hsA; obtain ⟨hA0, hA1⟩ := hvA.cells; have hA2 := hvA.free 1; clear hoA hkA hvA hsA)
        go_roundw
        case rel => exact ⟨k + 1, LX ++ [xs[k]], _, _, by omega, by go_num, by simp; omega, hide (by rw [unhide HN, unhide HL]), HSF⟩
        case measure => simp [intOf]; omega
    · have HF : Hid (dropF h xs = LX) := by
        have := unhide HL
        rw [List.take_of_length_le (by omega)] at this
        exact hide this
      have HE := hide (copyD_end (w := w) (wL := wr) ⟨(unhide HS).s, (unhide HS).i⟩ (unhide HS).b (.slice po ss.length pa) (.slice qo LX.length qa))
      have hr2 := (unhide HS).r.free 0
      have hr3 := (unhide HS).r.free 1
      have hlr := (unhide HS).r.lt
      go_wp2
      rw [unhide HF]
      exact bodyPost_ret (v := .agg #[.slice po ss.length pa, .slice qo LX.length qa]) (by simp [results, Tryd.results24, go_sem, hr0, hr1]) rfl ⟨po, pa, qo, qa, rfl, (unhide HE).1, (unhide HE).2⟩

end Go.Proofs.YtefnapcegeojoaaDoor

namespace Go.Proofs.YtefnapcegeojoaaDoor
open Go.RowKit
set_option linter.unusedVariables false

set_option maxRecDepth 100000 in
set_option maxHeartbeats 1600000 in
theorem flush_impl (ao bo : Option Addr) (ca cb : Nat) (ss : List ByteArray) (xs : List Wr) (h : Int) (w : World) (hl : ss.length ≤ maxLen) (hm : xs.length ≤ maxLen) (h1 : Ss w ao ss) (h2 : Ios w bo xs) :
    Calls Tryd.prog 43 #[.agg #[.slice ao ss.length ca, .slice bo xs.length cb], .int .i64 h] w fun e w' => ∃ po pa qo qa, e = .returned (.tuple #[.agg #[.slice po (flS ss xs h).length pa, .slice qo (flX ss xs h).length qa], .int .i64 (hostC ss xs h)]) ∧ OwnD w' w.heap.size po (flS ss xs h).length pa qo (flX ss xs h).length qa (flS ss xs h) (flX ss xs h) ∧ Below w.heap.size w w' := by
  have HA := hide (Joins.below_alloc2 w (.cells #[.slice ao ss.length ca, .slice bo xs.length cb] 32) (.cells #[.slice none 0 0, .slice none 0 0] 32))
  have H1 := hide (h1.below (unhide HA))
  have H2 := hide (h2.below (unhide HA))
  have HV := hide ((VarD.new w (.slice ao ss.length ca) (.slice bo xs.length cb)).below (Joins.below_alloc1 _ (.cells #[.slice none 0 0, .slice none 0 0] 32)))
  have HR : Hid (VarD ((w.alloc (.cells #[.slice ao ss.length ca, .slice bo xs.length cb] 32)).alloc (.cells #[.slice none 0 0, .slice none 0 0] 32)) (w.heap.size + 1) (.slice none 0 0) (.slice none 0 0)) := hide (by have := VarD.new (w.alloc (.cells #[.slice ao ss.length ca, .slice bo xs.length cb] 32)) (.slice none 0 0) (.slice none 0 0); simp only [World.size_alloc] at this; exact this)
  have HL := hide hl
  have HM := hide hm
  have HQ := hide (ask_zero ss xs h)
  clear h1 h2 hl hm
  by_cases hc : hostC ss xs h = 0
  · have hb : (hostC ss xs h != 0) = false := by simp [hc]
    have HW := hide (fl_ok hc)
    have HD := hide (hostC_eq hc).1
    have HC := hide hc
    have HLS : Hid (ss.length ≤ 1048576) := hide (by have := (diskB_len (unhide HD)).1; omega)
    have HLX := hide (diskB_len (unhide HD)).2
    clear hc
    go_enter Tryd.func43, Tryd.ntmps43
    go_wp2_with fail
    refine (hostFault_any _ _ _ _ ss xs h _ (unhide HL) (unhide HM) (unhide H1) (unhide H2)).mono ?_
    rintro e w1 ⟨rfl, hb1⟩
    have HV1 := hide ((unhide HV).below hb1)
    have HR1 := hide ((unhide HR).below hb1)
    have HB1 := hide (fr (unhide HA) hb1)
    have HS1 := hide ((unhide H1).below hb1)
    have HX1 := hide ((unhide H2).below hb1)
    have HZ1 := hide hb1.size
    clear hb1
    obtain ⟨hv0, hv1⟩ := (unhide HV1).cells
    go_wp2_with fail
    refine (landFirst_any ao bo ca cb ss xs h 200 _ (by omega) (by omega) (unhide HLS) (unhide HLX) (diskB_at (unhide HD)) (unhide HS1) (unhide HX1)).mono ?_
    rintro e w2 ⟨po, pa, qo, qa, rfl, ho2, hb2⟩
    have HO2 := hide (ho2.base (B' := w.heap.size + 2) (by have z1 := unhide HZ1; simp at z1; omega))
    have HR2 := hide ((unhide HR1).below hb2)
    have HB2 := hide (fr (unhide HB1) hb2)
    clear ho2 hb2 hv0 hv1
    obtain ⟨hr0, hr1⟩ := (unhide HR2).cells
    have hr2 := (unhide HR2).free 0
    have hr3 := (unhide HR2).free 1
    obtain ⟨RX, HRX⟩ : ∃ RX, Hid ((landF h false ss xs 200).2.1 = RX) := ⟨_, hide rfl⟩
    rw [unhide HRX] at HO2 ⊢
    have HE := hide (land_end (w := w) (unhide HO2) (Nat.le_refl _) (unhide HB2) (.slice po ss.length pa) (.slice qo RX.length qa))
    go_wp2
    obtain ⟨e1, e2⟩ := unhide HW
    rw [e1, e2, landF_slen, unhide HRX, unhide HC]
    exact bodyPost_ret (v := .tuple #[.agg #[.slice po ss.length pa, .slice qo RX.length qa], .int .i64 0]) (by simp [results, Tryd.results43, go_sem, hr0, hr1]) rfl ⟨po, pa, qo, qa, rfl, (unhide HE).1, (unhide HE).2⟩
  · have hb : (hostC ss xs h != 0) = true := by simp [hc]
    obtain ⟨e1, e2⟩ := fl_bad hc
    rw [e1, e2]
    clear e1 e2 hc
    go_enter Tryd.func43, Tryd.ntmps43
    go_wp2_with fail
    refine (hostFault_any _ _ _ _ ss xs h _ (unhide HL) (unhide HM) (unhide H1) (unhide H2)).mono ?_
    rintro e w1 ⟨rfl, hb1⟩
    have HR1 := hide ((unhide HR).below hb1)
    have HB1 := hide (fr (unhide HA) hb1)
    clear hb1
    obtain ⟨hr0, hr1⟩ := (unhide HR1).cells
    have hr2 := (unhide HR1).free 0
    have hr3 := (unhide HR1).free 1
    have HE := hide (zero_end (w := w) (wL := w1) (unhide HB1) (.slice none 0 0) (.slice none 0 0))
    go_wp2
    exact bodyPost_ret (v := .tuple #[.agg #[.slice none 0 0, .slice none 0 0], .int .i64 (hostC ss xs h)]) (by simp [results, Tryd.results43, go_sem, hr0, hr1]) rfl ⟨none, 0, none, 0, rfl, zeroD_own, unhide HE⟩

end Go.Proofs.YtefnapcegeojoaaDoor

namespace Go.Proofs.YtefnapcegeojoaaDoor
open Go.RowKit
set_option linter.unusedVariables false

def loS (ss : List ByteArray) (xs : List Wr) (h k : Int) : List ByteArray := if hostC ss xs h = 0 then (if inB k 0 200 = true then (landF h true ss xs k).1 else []) else []
def loX (ss : List ByteArray) (xs : List Wr) (h k : Int) : List Wr := if hostC ss xs h = 0 then (if inB k 0 200 = true then (landF h true ss xs k).2.1 else []) else []
def loC (ss : List ByteArray) (xs : List Wr) (h k : Int) : Int := if hostC ss xs h = 0 then (if inB k 0 200 = true then 0 else 4) else hostC ss xs h
theorem lo_ok {ss : List ByteArray} {xs : List Wr} {h k : Int} (h1 : hostC ss xs h = 0) (h2 : inB k 0 200 = true) : loS ss xs h k = (landF h true ss xs k).1 ∧ loX ss xs h k = (landF h true ss xs k).2.1 ∧ loC ss xs h k = 0 := by simp [loS, loX, loC, h1, h2]
theorem lo_range {ss : List ByteArray} {xs : List Wr} {h k : Int} (h1 : hostC ss xs h = 0) (h2 : inB k 0 200 = false) : loS ss xs h k = [] ∧ loX ss xs h k = [] ∧ loC ss xs h k = 4 := by simp [loS, loX, loC, h1, h2]
theorem lo_bad {ss : List ByteArray} {xs : List Wr} {h k : Int} (h1 : ¬ hostC ss xs h = 0) : loS ss xs h k = [] ∧ loX ss xs h k = [] ∧ loC ss xs h k = hostC ss xs h := by simp [loS, loX, loC, h1]
theorem inB_eq {k a b : Int} (h : inB k a b = true) : a ≤ k ∧ k ≤ b := by simpa [inB] using h
theorem inB_ne {k a b : Int} (h : inB k a b = false) (hk : ¬ k < a) : b < k := by
  simp [inB] at h
  omega

theorem dropWrites_len (ao bo : Option Addr) (ca cb : Nat) (ss : List ByteArray) (xs : List Wr) (n : Nat) (h : Int) (w : World) (hn : ss.length = n) (hl : ss.length ≤ 1048576) (hm : xs.length ≤ 200) (h1 : Ss w ao ss) (h2 : Ios w bo xs) :
    Calls Tryd.prog 24 #[.agg #[.slice ao n ca, .slice bo xs.length cb], .int .i64 h] w fun e w' => ∃ po pa qo qa, e = .returned (.agg #[.slice po n pa, .slice qo (dropF h xs).length qa]) ∧ OwnD w' w.heap.size po n pa qo (dropF h xs).length qa ss (dropF h xs) ∧ Below w.heap.size w w' := by
  subst hn
  exact dropWrites_any ao bo ca cb ss xs h w hl hm h1 h2

set_option maxRecDepth 100000 in
set_option maxHeartbeats 1600000 in
theorem loseHost_impl (ao bo : Option Addr) (ca cb : Nat) (ss : List ByteArray) (xs : List Wr) (h k : Int) (w : World) (hl : ss.length ≤ maxLen) (hm : xs.length ≤ maxLen) (h1 : Ss w ao ss) (h2 : Ios w bo xs) :
    Calls Tryd.prog 9 #[.agg #[.slice ao ss.length ca, .slice bo xs.length cb], .int .i64 h, .int .i64 k] w fun e w' => ∃ po pa qo qa, e = .returned (.tuple #[.agg #[.slice po (loS ss xs h k).length pa, .slice qo (loX ss xs h k).length qa], .int .i64 (loC ss xs h k)]) ∧ OwnD w' w.heap.size po (loS ss xs h k).length pa qo (loX ss xs h k).length qa (loS ss xs h k) (loX ss xs h k) ∧ Below w.heap.size w w' := by
  have HA := hide (Joins.below_alloc2 w (.cells #[.slice ao ss.length ca, .slice bo xs.length cb] 32) (.cells #[.slice none 0 0, .slice none 0 0] 32))
  have H1 := hide (h1.below (unhide HA))
  have H2 := hide (h2.below (unhide HA))
  have HV := hide ((VarD.new w (.slice ao ss.length ca) (.slice bo xs.length cb)).below (Joins.below_alloc1 _ (.cells #[.slice none 0 0, .slice none 0 0] 32)))
  have HR : Hid (VarD ((w.alloc (.cells #[.slice ao ss.length ca, .slice bo xs.length cb] 32)).alloc (.cells #[.slice none 0 0, .slice none 0 0] 32)) (w.heap.size + 1) (.slice none 0 0) (.slice none 0 0)) := hide (by have := VarD.new (w.alloc (.cells #[.slice ao ss.length ca, .slice bo xs.length cb] 32)) (.slice none 0 0) (.slice none 0 0); simp only [World.size_alloc] at this; exact this)
  have HSZ := hide h1.sizes
  have HXZ := hide h2.sizes
  have HL := hide hl
  have HM := hide hm
  have HQ := hide (ask_zero ss xs h)
  clear h1 h2 hl hm
  by_cases hc : hostC ss xs h = 0
  · have hb : (hostC ss xs h != 0) = false := by simp [hc]
    cases hp : inB k 0 200
    · by_cases hneg : k < 0
      · have HD := hide (hostC_eq hc).1
        have HC := hide hc
        have HLS : Hid (ss.length ≤ 1048576) := hide (by have := (diskB_len (unhide HD)).1; omega)
        have HLX := hide (diskB_len (unhide HD)).2
        have HW := hide (lo_range hc hp)
        clear hc
        go_enter Tryd.func9, Tryd.ntmps9
        go_wp2_with fail
        refine (hostFault_any _ _ _ _ ss xs h _ (unhide HL) (unhide HM) (unhide H1) (unhide H2)).mono ?_
        rintro e w1 ⟨rfl, hb1⟩
        have HV1 := hide ((unhide HV).below hb1)
        have HR1 := hide ((unhide HR).below hb1)
        have HB1 := hide (fr (unhide HA) hb1)
        have HS1 := hide ((unhide H1).below hb1)
        have HX1 := hide ((unhide H2).below hb1)
        have HZ1 := hide hb1.size
        clear hb1
        have HR2 := HR1
        obtain ⟨hr0, hr1⟩ := (unhide HR1).cells
        have hr2 := (unhide HR1).free 0
        have hr3 := (unhide HR1).free 1
        have HE := hide (zero_end (w := w) (wL := w1) (unhide HB1) (.slice none 0 0) (.slice none 0 0))
        go_wp2
        obtain ⟨e1, e2, e3⟩ := unhide HW
        rw [e1, e2, e3]
        exact bodyPost_ret (v := .tuple #[.agg #[.slice none 0 0, .slice none 0 0], .int .i64 4]) (by simp [results, Tryd.results9, go_sem, hr0, hr1]) rfl ⟨none, 0, none, 0, rfl, zeroD_own, unhide HE⟩
      · have hbig := inB_ne hp hneg
        have HD := hide (hostC_eq hc).1
        have HC := hide hc
        have HLS : Hid (ss.length ≤ 1048576) := hide (by have := (diskB_len (unhide HD)).1; omega)
        have HLX := hide (diskB_len (unhide HD)).2
        have HW := hide (lo_range hc hp)
        clear hc
        go_enter Tryd.func9, Tryd.ntmps9
        go_wp2_with fail
        refine (hostFault_any _ _ _ _ ss xs h _ (unhide HL) (unhide HM) (unhide H1) (unhide H2)).mono ?_
        rintro e w1 ⟨rfl, hb1⟩
        have HV1 := hide ((unhide HV).below hb1)
        have HR1 := hide ((unhide HR).below hb1)
        have HB1 := hide (fr (unhide HA) hb1)
        have HS1 := hide ((unhide H1).below hb1)
        have HX1 := hide ((unhide H2).below hb1)
        have HZ1 := hide hb1.size
        clear hb1
        have HR2 := HR1
        obtain ⟨hr0, hr1⟩ := (unhide HR1).cells
        have hr2 := (unhide HR1).free 0
        have hr3 := (unhide HR1).free 1
        have HE := hide (zero_end (w := w) (wL := w1) (unhide HB1) (.slice none 0 0) (.slice none 0 0))
        go_wp2
        obtain ⟨e1, e2, e3⟩ := unhide HW
        rw [e1, e2, e3]
        exact bodyPost_ret (v := .tuple #[.agg #[.slice none 0 0, .slice none 0 0], .int .i64 4]) (by simp [results, Tryd.results9, go_sem, hr0, hr1]) rfl ⟨none, 0, none, 0, rfl, zeroD_own, unhide HE⟩
    · have HD := hide (hostC_eq hc).1
      have HC := hide hc
      have HLS : Hid (ss.length ≤ 1048576) := hide (by have := (diskB_len (unhide HD)).1; omega)
      have HLX := hide (diskB_len (unhide HD)).2
      have HW := hide (lo_ok hc hp)
      obtain ⟨hk0, hk1⟩ := inB_eq hp
      clear hc
      go_enter Tryd.func9, Tryd.ntmps9
      go_wp2_with fail
      refine (hostFault_any _ _ _ _ ss xs h _ (unhide HL) (unhide HM) (unhide H1) (unhide H2)).mono ?_
      rintro e w1 ⟨rfl, hb1⟩
      have HV1 := hide ((unhide HV).below hb1)
      have HR1 := hide ((unhide HR).below hb1)
      have HB1 := hide (fr (unhide HA) hb1)
      have HS1 := hide ((unhide H1).below hb1)
      have HX1 := hide ((unhide H2).below hb1)
      have HZ1 := hide hb1.size
      clear hb1
      obtain ⟨hv0, hv1⟩ := (unhide HV1).cells
      go_wp2_with fail
      refine (landFirst_any ao bo ca cb ss xs h k _ hk0 (by omega) (unhide HLS) (unhide HLX) (diskB_at (unhide HD)) (unhide HS1) (unhide HX1)).mono ?_
      rintro e w2 ⟨po, pa, qo, qa, rfl, ho2, hb2⟩
      have HZ2 := hide hb2.size
      have HR2 := hide ((unhide HR1).below hb2)
      have HB2 := hide (fr (unhide HB1) hb2)
      obtain ⟨q1, q2, q3, q4⟩ := landF_inv (h := h) (n := k) (lost := false) (ss := ss) (xs := xs) (fun s => s.size ≤ maxLen) (unhide HSZ) (unhide HXZ)
      have HS2 := hide (ho2.ss q1)
      have HX2 := hide (ho2.ios q2)
      obtain ⟨LS, LX, HLF, HQ3, HQ4⟩ : ∃ LS LX, Hid ((landF h false ss xs k).1 = LS ∧ (landF h false ss xs k).2.1 = LX) ∧ Hid (LS.length = ss.length) ∧ Hid (LX.length ≤ 200) := ⟨_, _, hide ⟨rfl, rfl⟩, hide q3, hide (Nat.le_trans q4 (unhide HLX))⟩
      clear ho2 hb2 hv0 hv1 q1 q2 q3 q4
      rw [(unhide HLF).1] at HS2
      rw [(unhide HLF).2] at HX2 ⊢
      go_wp2_with fail
      refine (dropWrites_len po qo pa qa LS LX ss.length h _ (unhide HQ3) (by rw [unhide HQ3]; exact unhide HLS) (unhide HQ4) (unhide HS2) (unhide HX2)).mono ?_
      rintro e w3 ⟨p3, pa3, q3, qa3, rfl, ho3, hb3⟩
      have HO3 := hide (ho3.base (B' := w.heap.size + 2) (by have z1 := unhide HZ1; have z2 := unhide HZ2; simp at z1; omega))
      have HR3 := hide ((unhide HR2).below hb3)
      have HB3 := hide (fr (unhide HB2) hb3)
      clear ho3 hb3
      obtain ⟨hr0, hr1⟩ := (unhide HR3).cells
      have hr2 := (unhide HR3).free 0
      have hr3 := (unhide HR3).free 1
      obtain ⟨RX, HRX⟩ : ∃ RX, Hid (dropF h LX = RX) := ⟨_, hide rfl⟩
      rw [unhide HRX] at HO3 ⊢
      have HE := hide (land_end (w := w) (unhide HO3) (Nat.le_refl _) (unhide HB3) (.slice p3 ss.length pa3) (.slice q3 RX.length qa3))
      go_wp2
      obtain ⟨e1, e2, e3⟩ := unhide HW
      rw [e1, e2, e3, (landF_lost h k ss xs).1, (landF_lost h k ss xs).2, (unhide HLF).1, (unhide HLF).2, unhide HRX, unhide HQ3]
      exact bodyPost_ret (v := .tuple #[.agg #[.slice p3 ss.length pa3, .slice q3 RX.length qa3], .int .i64 0]) (by simp [results, Tryd.results9, go_sem, hr0, hr1]) rfl ⟨p3, pa3, q3, qa3, rfl, (unhide HE).1, (unhide HE).2⟩
  · have hb : (hostC ss xs h != 0) = true := by simp [hc]
    obtain ⟨e1, e2, e3⟩ := lo_bad (k := k) hc
    rw [e1, e2, e3]
    clear e1 e2 e3 hc
    go_enter Tryd.func9, Tryd.ntmps9
    go_wp2_with fail
    refine (hostFault_any _ _ _ _ ss xs h _ (unhide HL) (unhide HM) (unhide H1) (unhide H2)).mono ?_
    rintro e w1 ⟨rfl, hb1⟩
    have HR1 := hide ((unhide HR).below hb1)
    have HB1 := hide (fr (unhide HA) hb1)
    clear hb1
    obtain ⟨hr0, hr1⟩ := (unhide HR1).cells
    have hr2 := (unhide HR1).free 0
    have hr3 := (unhide HR1).free 1
    have HE := hide (zero_end (w := w) (wL := w1) (unhide HB1) (.slice none 0 0) (.slice none 0 0))
    go_wp2
    exact bodyPost_ret (v := .tuple #[.agg #[.slice none 0 0, .slice none 0 0], .int .i64 (hostC ss xs h)]) (by simp [results, Tryd.results9, go_sem, hr0, hr1]) rfl ⟨none, 0, none, 0, rfl, zeroD_own, unhide HE⟩

end Go.Proofs.YtefnapcegeojoaaDoor

namespace Go.Proofs.YtefnapcegeojoaaDoor
set_option linter.unusedVariables false

def ofH (h : Int) (xs : List Wr) : List Wr := xs.filter fun x => x.host == h
def putW (ss : List ByteArray) (fs : List Wr) : List ByteArray := fs.foldl (fun s x => s.set x.at_.toNat x.data) ss
def remH (h : Int) : Nat → List Wr → List Wr
  | _, [] => []
  | 0, x :: xs => x :: remH h 0 xs
  | n + 1, x :: xs => if x.host = h then remH h n xs else x :: remH h (n + 1) xs

theorem remH_zero (h : Int) : ∀ xs : List Wr, remH h 0 xs = xs
  | [] => rfl
  | x :: xs => by rw [remH, remH_zero h xs]
theorem ofH_cons_hit {h : Int} {x : Wr} (xs : List Wr) (hx : x.host = h) : ofH h (x :: xs) = x :: ofH h xs := by simp [ofH, hx]
theorem ofH_cons_miss {h : Int} {x : Wr} (xs : List Wr) (hx : ¬ x.host = h) : ofH h (x :: xs) = ofH h xs := by simp [ofH, hx]
theorem remH_hit {h : Int} {x : Wr} (n : Nat) (xs : List Wr) (hx : x.host = h) : remH h (n + 1) (x :: xs) = remH h n xs := by rw [remH, if_pos hx]
theorem remH_miss {h : Int} {x : Wr} (n : Nat) (xs : List Wr) (hx : ¬ x.host = h) : remH h n (x :: xs) = x :: remH h n xs := by
  cases n with
  | zero => rw [remH]
  | succ n => rw [remH, if_neg hx]

theorem fold_land (h : Int) : ∀ (xs : List Wr) (SS : List ByteArray) (LX : List Wr) (n : Nat),
    xs.foldl (stepF h false) (SS, LX, (n : Int)) = (putW SS ((ofH h xs).take n), LX ++ remH h n xs, ((n - (ofH h xs).length : Nat) : Int))
  | [], SS, LX, n => by simp [ofH, putW, remH]
  | x :: xs, SS, LX, n => by
    rw [List.foldl_cons]
    by_cases hx : x.host = h
    · cases n with
      | zero =>
        rw [step_keep hx SS LX (by simp), show ((0 : Nat) : Int) = ((0 : Nat) : Int) from rfl, fold_land h xs, remH_zero, remH_zero]
        simp [putW]
      | succ n =>
        rw [step_land hx SS LX (by omega), show ((n + 1 : Nat) : Int) - 1 = (n : Int) by omega, fold_land h xs, ofH_cons_hit xs hx, remH_hit n xs hx]
        rw [List.take_succ_cons, List.length_cons, show n + 1 - ((ofH h xs).length + 1) = n - (ofH h xs).length by omega]
        rfl
    · rw [step_other hx, fold_land h xs, ofH_cons_miss xs hx, remH_miss n xs hx]
      simp
theorem landF_put (h : Int) (ss : List ByteArray) (xs : List Wr) (n : Nat) : (landF h false ss xs (n : Int)).1 = putW ss ((ofH h xs).take n) ∧ (landF h false ss xs (n : Int)).2.1 = remH h n xs := by
  unfold landF
  rw [fold_land]
  exact ⟨rfl, by simp⟩

theorem drop_rem (h : Int) : ∀ (n : Nat) (xs : List Wr), dropF h (remH h n xs) = dropF h xs
  | _, [] => by cases ‹Nat› <;> rfl
  | 0, x :: xs => by rw [remH_zero]
  | n + 1, x :: xs => by
    by_cases hx : x.host = h
    · rw [remH_hit n xs hx, drop_rem h n xs]; simp [dropF, hx]
    · rw [remH_miss _ xs hx]
      have := drop_rem h (n + 1) xs
      simp only [dropF, List.filter_cons] at this ⊢
      simp [hx, this]
theorem rem_all {h : Int} : ∀ (n : Nat) (xs : List Wr), (ofH h xs).length ≤ n → remH h n xs = dropF h xs
  | _, [], _ => by cases ‹Nat› <;> rfl
  | n, x :: xs, e => by
    by_cases hx : x.host = h
    · rw [ofH_cons_hit xs hx] at e
      cases n with
      | zero => simp at e
      | succ n =>
        rw [remH_hit n xs hx, rem_all n xs (by simpa using e)]; simp [dropF, hx]
    · rw [ofH_cons_miss xs hx] at e
      rw [remH_miss n xs hx, rem_all n xs e]; simp [dropF, hx]
theorem drop_len (h : Int) : ∀ xs : List Wr, (dropF h xs).length + (ofH h xs).length = xs.length
  | [] => rfl
  | x :: xs => by
    have := drop_len h xs
    by_cases hx : x.host = h
    · rw [ofH_cons_hit xs hx]; simp only [dropF, List.filter_cons] at this ⊢; simp [hx]; omega
    · rw [ofH_cons_miss xs hx]; simp only [dropF, List.filter_cons] at this ⊢; simp [hx]; omega

theorem landF_gone (h : Int) (ss : List ByteArray) (xs : List Wr) (n : Nat) : (landF h true ss xs (n : Int)).1 = putW ss ((ofH h xs).take n) ∧ (landF h true ss xs (n : Int)).2.1 = dropF h xs := by
  obtain ⟨e1, e2⟩ := landF_lost h (n : Int) ss xs
  obtain ⟨p1, p2⟩ := landF_put h ss xs n
  rw [e1, e2, p1, p2, drop_rem]
  exact ⟨rfl, rfl⟩
theorem put_snoc (ss : List ByteArray) (fs : List Wr) (x : Wr) : putW ss (fs ++ [x]) = (putW ss fs).set x.at_.toNat x.data := by simp [putW]
theorem put_len (ss : List ByteArray) : ∀ fs : List Wr, (putW ss fs).length = ss.length := fun fs => by
  induction fs generalizing ss with
  | nil => rfl
  | cons x fs ih => simp only [putW, List.foldl_cons] at ih ⊢; rw [ih]; simp
theorem diskB_parts {ss : List ByteArray} {xs : List Wr} : diskB ss xs = true ↔ (ss.length = 64 ∧ ∀ s ∈ ss, s.size ≤ 80) ∧ xs.length ≤ 200 ∧ ∀ x ∈ xs, ioB x = true := by
  simp only [diskB, secB, penB, Bool.and_eq_true, decide_eq_true_eq, List.all_eq_true]
theorem ioB_parts {x : Wr} : ioB x = true ↔ (0 ≤ x.host ∧ x.host ≤ 3) ∧ (0 ≤ x.at_ ∧ x.at_ ≤ 63) ∧ x.data.size ≤ 80 := by
  simp only [ioB, Bool.and_eq_true, decide_eq_true_eq]
  omega
theorem put_mem {P : ByteArray → Prop} : ∀ (fs : List Wr) (ss : List ByteArray), (∀ s ∈ ss, P s) → (∀ x ∈ fs, P x.data) → ∀ s ∈ putW ss fs, P s
  | [], ss, h1, _ => h1
  | x :: fs, ss, h1, h2 => by
    have := put_mem fs (ss.set x.at_.toNat x.data) (fun s hs => by
      rcases List.mem_or_eq_of_mem_set hs with h | h
      · exact h1 s h
      · rw [h]; exact h2 x (List.mem_cons_self ..)) (fun y hy => h2 y (List.mem_cons_of_mem _ hy))
    simpa [putW] using this
theorem of_mem {h : Int} {xs : List Wr} {x : Wr} (hx : x ∈ ofH h xs) : x ∈ xs := (List.mem_filter.1 hx).1
theorem drop_mem {h : Int} {xs : List Wr} {x : Wr} (hx : x ∈ dropF h xs) : x ∈ xs := (List.mem_filter.1 hx).1
theorem diskB_put {ss : List ByteArray} {xs ys fs : List Wr} (hd : diskB ss xs = true) (hf : ∀ x ∈ fs, x ∈ xs) (hy : ∀ x ∈ ys, x ∈ xs) (hl : ys.length ≤ xs.length) : diskB (putW ss fs) ys = true := by
  obtain ⟨⟨a1, a2⟩, a3, a4⟩ := diskB_parts.1 hd
  refine diskB_parts.2 ⟨⟨by rw [put_len]; exact a1, put_mem fs ss a2 (fun x hx => (ioB_parts.1 (a4 x (hf x hx))).2.2)⟩, by omega, fun x hx => a4 x (hy x hx)⟩
theorem diskB_snoc {ss : List ByteArray} {xs : List Wr} {x : Wr} (hd : diskB ss xs = true) (hl : xs.length < 200) (hx : ioB x = true) : diskB ss (xs ++ [x]) = true := by
  obtain ⟨⟨a1, a2⟩, a3, a4⟩ := diskB_parts.1 hd
  refine diskB_parts.2 ⟨⟨a1, a2⟩, by simp; omega, fun y hy => ?_⟩
  rcases List.mem_append.1 hy with h | h
  · exact a4 y h
  · simp at h; subst h; exact hx
theorem drop_le (h : Int) (xs : List Wr) : (dropF h xs).length ≤ xs.length := by have := drop_len h xs; omega
theorem askC_right {ss : List ByteArray} {xs : List Wr} {h a : Int} (hd : diskB ss xs = true) (h0 : 0 ≤ h) (h1 : h ≤ 3) (a0 : 0 ≤ a) (a1 : a ≤ 63) : hostC ss xs h = 0 ∧ askC ss xs h a = 0 := by
  have e := hostC_ok (h := h) hd (by simp [inB]; omega)
  exact ⟨e, askC_ok e (by simp [inB]; omega)⟩

end Go.Proofs.YtefnapcegeojoaaDoor

namespace Go.Proofs.YtefnapcegeojoaaDoor
open Go.RowKit
set_option linter.unusedVariables false

theorem three {l : List Int} (h : l.length = 3) : ∃ a b c, l = [a, b, c] := by
  match l, h with
  | [a, b, c], _ => exact ⟨a, b, c, rfl⟩
theorem readV_size {ss : List ByteArray} {xs : List Wr} (hd : diskB ss xs = true) (h a : Int) : (readV ss xs h a).size ≤ 80 := by
  obtain ⟨⟨a1, a2⟩, a3, a4⟩ := diskB_parts.1 hd
  unfold readV
  cases hf : xs.reverse.find? (fun x => x.host == h && x.at_ == a) with
  | some x => exact (ioB_parts.1 (a4 x (List.mem_reverse.1 (List.mem_of_find?_eq_some hf)))).2.2
  | none =>
    simp only [Option.map_none, Option.getD_none]
    rw [List.getD_eq_getElem?_getD]
    cases hg : ss[a.toNat]? with
    | some s => exact a2 s (List.mem_of_getElem? hg)
    | none => exact Nat.zero_le _

end Go.Proofs.YtefnapcegeojoaaDoor

namespace Go.Proofs.YtefnapcegeojoaaDoor
open Go.RowKit
set_option linter.unusedVariables false
section
variable {P : Program}
theorem run_append_many (w : World) (B : Nat) (t ty e : TypeId) (i : TypeInfo) (z : Value) (size bytes : Nat) (ht : P.underlying t = some (.slice e)) (hi : P.info? e = some i) (hz : i.zero = some z)
    (hsize : i.size = size) (hby : i.bytes = bytes) (hzs : z.cells.size = size) (hsz : 0 < size)
    (qo : Option Addr) (n cap : Nat) (xs : List Value) (h : OwnR w B e size (.slice qo n cap) n xs) (hB : B ≤ w.heap.size)
    (ad : Addr) (m c : Nat) (news : List Value) (hm : 0 < m) (hl : news.length = m * size) (hnews : ∀ j u, news[j]? = some u → w.cell? (ad.add j) = some u) (h1 : ∀ u ∈ news, u.oneCell' = true)
    (b1 : n + m ≤ maxLen) (b2 : (n + m) * bytes ≤ 140737488355328) :
    ∃ g cap' w', (Builtin.append_ #[t, t] ty #[.slice qo n cap, .slice (some ad) m c]).run P w = .ok (.slice (some ⟨g, 0, none⟩) (n + m) cap') w' ∧
      w'.ownsRow B e size (.slice (some ⟨g, 0, none⟩) (n + m) cap') (n + m) (xs ++ news) ∧ Keep (Own (.slice qo n cap)) w w' := by
  rcases h with ⟨rfl, rfl, ao, hv⟩ | ⟨h0, h⟩
  · simp only [Value.slice.injEq, true_and] at hv
    obtain ⟨rfl, rfl⟩ := hv
    cases qo with
    | none =>
      obtain ⟨v', w', hrun, r1, r2, _⟩ := run_append_own (P := P) w B t ty e i z size bytes ht hi hz hsize hby hzs hsz (.slice none 0 0) 0 [] (World.ownsRow_nil w _ e size) ad m c news hl hnews h1 b1 b2 hB
      obtain ⟨g, cap, cur, rfl, _, _⟩ := own_form (by omega) r1
      exact ⟨g, cap, w', hrun, r1, keep_grown r2 (fun k hk => by cases hk)⟩
    | some d =>
      obtain ⟨v', w', hrun, r1, r2⟩ := run_append_arg_grows (P := P) w t ty e i z size bytes ht hi hz hsize hby hzs hsz d 0 0 [] (by simp) (by simp) ad m c news hl hnews (by omega) b1 b2
      obtain ⟨g, cap, cur, rfl, _, _⟩ := own_form (by omega) r1
      exact ⟨g, cap, w', hrun, own_base r1 hB, keep_grown r2 (fun k hk => by cases hk)⟩
  · obtain ⟨g0, cap0, cur0, e0, _, _⟩ := own_form h0 h
    rw [e0] at h
    obtain ⟨v', w', hrun, r1, r2, _⟩ := run_append_own (P := P) w B t ty e i z size bytes ht hi hz hsize hby hzs hsz _ n xs h ad m c news hl hnews h1 b1 b2 hB
    obtain ⟨g, cap, cur, rfl, _, _⟩ := own_form (by omega) r1
    rw [e0]
    exact ⟨g, cap, w', hrun, r1, keep_grown r2 (fun k hk => by cases hk; exact own_of h0 rfl)⟩
theorem wpList_append_many {w : World} {ops : Array Oper} {rest : List Oper} {o : Oper} {a : Act} {Q : Exit → Act → World → Prop} (hgd : o.guard = none) (s x : Operand) (t : TypeId)
    (ho : o.op = .call { callee := .builtin .append, args := #[s, x], argTypes := #[t, t] })
    (B : Nat) (e : TypeId) (i : TypeInfo) (z : Value) (size bytes : Nat) (ht : P.underlying t = some (.slice e)) (hi : P.info? e = some i) (hz : i.zero = some z)
    (hsize : i.size = size) (hby : i.bytes = bytes) (hzs : z.cells.size = size) (hsz : 0 < size)
    (qo : Option Addr) (n cap : Nat) (xs : List Value) (hs : a.eval s = .slice qo n cap) (h : OwnR w B e size (.slice qo n cap) n xs) (hB : B ≤ w.heap.size)
    (so : Option Addr) (m c : Nat) (news : List Value) (hx : a.eval x = .slice so m c) (hm : 0 < m) (hl : news.length = m * size) (hnews : 0 < m → ∃ ad, so = some ad ∧ ∀ j u, news[j]? = some u → w.cell? (ad.add j) = some u) (h1 : ∀ u ∈ news, u.oneCell' = true)
    (b1 : n + m ≤ maxLen) (b2 : (n + m) * bytes ≤ 140737488355328)
    (hK : ∀ g cap' w', w'.ownsRow B e size (.slice (some ⟨g, 0, none⟩) (n + m) cap') (n + m) (xs ++ news) → Keep (Own (.slice qo n cap)) w w' → wpList P ops Q rest (a.put o.dst (.slice (some ⟨g, 0, none⟩) (n + m) cap')) w') : wpList P ops Q (o :: rest) a w := by
  refine wpList_plain hgd fun K hK' => ?_
  obtain ⟨ad, rfl, hnew⟩ := hnews hm
  obtain ⟨g, cap', w', hrun, r1, r2⟩ := run_append_many (P := P) w B t o.type e i z size bytes ht hi hz hsize hby hzs hsz qo n cap xs h hB ad m c news hm hl hnew h1 b1 b2
  unfold Oper.wp
  simp [execOp, ho, resolve, invoke, builtin, hs, hx, hrun, Result.andThen]
  exact hK' _ _ (hK _ _ _ r1 r2)
theorem run_append_room (w : World) (B : Nat) (t ty e : TypeId) (i : TypeInfo) (z : Value) (size bytes : Nat) (ht : P.underlying t = some (.slice e)) (hi : P.info? e = some i) (hz : i.zero = some z)
    (hsize : i.size = size) (hby : i.bytes = bytes) (hzs : z.cells.size = size) (hsz : 0 < size)
    (g0 n cap : Nat) (xs : List Value) (h : w.ownsRow B e size (.slice (some ⟨g0, 0, none⟩) n cap) n xs) (hB : B ≤ w.heap.size)
    (ad : Addr) (m c : Nat) (news : List Value) (hm : 0 < m) (hl : news.length = m * size) (hnews : ∀ j u, news[j]? = some u → w.cell? (ad.add j) = some u) (h1 : ∀ u ∈ news, u.oneCell' = true)
    (b1 : n + m ≤ maxLen) (b2 : (n + m) * bytes ≤ 140737488355328) :
    ∃ g cap' w', (Builtin.append_ #[t, t] ty #[.slice (some ⟨g0, 0, none⟩) n cap, .slice (some ad) m c]).run P w = .ok (.slice (some ⟨g, 0, none⟩) (n + m) cap') w' ∧
      w'.ownsRow B e size (.slice (some ⟨g, 0, none⟩) (n + m) cap') (n + m) (xs ++ news) ∧ Keep (fun j => j = g0) w w' := by
  by_cases hc : n + m ≤ cap
  · obtain ⟨w', hrun, r1, r2⟩ := run_append_fits (P := P) w B t ty e i size ht hi hsize g0 n cap xs h ad m c news hl hnews h1 hc
    exact ⟨g0, cap, w', hrun, r1, keep_grown r2 (fun k hk => by cases hk; rfl)⟩
  · obtain ⟨v', w', hrun, r1, r2⟩ := run_append_arg_grows (P := P) w t ty e i z size bytes ht hi hz hsize hby hzs hsz ⟨g0, 0, none⟩ n cap xs h.1 (fun j u hu => by
      have hj : j < n * size := by have := (List.getElem?_eq_some_iff.1 hu).1; rw [h.1] at this; exact this
      have ha : (⟨g0, 0, none⟩ : Addr).add j = ⟨g0, j, none⟩ := by unfold Addr.add; split <;> simp_all
      rw [ha, h.cellAt j hj]; exact hu) ad m c news hl hnews (by omega) b1 b2
    obtain ⟨g, cap', cur, rfl, hg, _⟩ := own_form (by omega) r1
    exact ⟨g, cap', w', hrun, own_base r1 hB, keep_grown r2 (fun k hk => by cases hk)⟩
theorem wpList_append_room {w : World} {ops : Array Oper} {rest : List Oper} {o : Oper} {a : Act} {Q : Exit → Act → World → Prop} (hgd : o.guard = none) (s x : Operand) (t : TypeId)
    (ho : o.op = .call { callee := .builtin .append, args := #[s, x], argTypes := #[t, t] })
    (B : Nat) (e : TypeId) (i : TypeInfo) (z : Value) (size bytes : Nat) (ht : P.underlying t = some (.slice e)) (hi : P.info? e = some i) (hz : i.zero = some z)
    (hsize : i.size = size) (hby : i.bytes = bytes) (hzs : z.cells.size = size) (hsz : 0 < size)
    (g0 n cap : Nat) (xs : List Value) (hs : a.eval s = .slice (some ⟨g0, 0, none⟩) n cap) (h : w.ownsRow B e size (.slice (some ⟨g0, 0, none⟩) n cap) n xs) (hB : B ≤ w.heap.size)
    (so : Option Addr) (m c : Nat) (news : List Value) (hx : a.eval x = .slice so m c) (hm : 0 < m) (hl : news.length = m * size) (hnews : 0 < m → ∃ ad, so = some ad ∧ ∀ j u, news[j]? = some u → w.cell? (ad.add j) = some u) (h1 : ∀ u ∈ news, u.oneCell' = true)
    (b1 : n + m ≤ maxLen) (b2 : (n + m) * bytes ≤ 140737488355328)
    (hK : ∀ g cap' w', w'.ownsRow B e size (.slice (some ⟨g, 0, none⟩) (n + m) cap') (n + m) (xs ++ news) → Keep (fun j => j = g0) w w' → wpList P ops Q rest (a.put o.dst (.slice (some ⟨g, 0, none⟩) (n + m) cap')) w') : wpList P ops Q (o :: rest) a w := by
  refine wpList_plain hgd fun K hK' => ?_
  obtain ⟨ad, rfl, hnew⟩ := hnews hm
  obtain ⟨g, cap', w', hrun, r1, r2⟩ := run_append_room (P := P) w B t o.type e i z size bytes ht hi hz hsize hby hzs hsz g0 n cap xs h hB ad m c news hm hl hnew h1 b1 b2
  unfold Oper.wp
  simp [execOp, ho, resolve, invoke, builtin, hs, hx, hrun, Result.andThen]
  exact hK' _ _ (hK _ _ _ r1 r2)
end
theorem news3 (w : World) (x : Wr) (t : TypeId) : ∀ j u, (wrV x)[j]? = some u → (w.alloc (.cells #[.int .i64 x.host, .int .i64 x.at_, .string x.data] t)).cell? ((⟨w.heap.size, 0, none⟩ : Addr).add j) = some u :=
  World.news_of_block (cs := #[.int .i64 x.host, .int .i64 x.at_, .string x.data]) (heap_alloc_new w _)
theorem news3_at (w : World) (n : Nat) (x : Wr) (t : TypeId) (hn : w.heap.size = n) : ∀ j u, (wrV x)[j]? = some u → (w.alloc (.cells #[.int .i64 x.host, .int .i64 x.at_, .string x.data] t)).cell? ((⟨n, 0, none⟩ : Addr).add j) = some u := by
  subst hn; exact news3 w x t

def mvF : Wr := ⟨2, 0, ⟨#[]⟩⟩
def mvW (u : Up) : Wr := ⟨1, u.at_, u.data⟩
def hdT (n seq : Int) : ByteArray := sealS 7 [n, seq]
theorem hdT_size (n seq : Int) : (hdT n seq).size = 12 := by rw [hdT, sealS_size]; rfl
def mvH (slot n seq : Int) : Wr := ⟨1, slot, hdT n seq⟩
def mvT (slot : Int) (i : Nat) (u : Up) : Wr := ⟨1, slot + 1 + i, encU u⟩
def chL (us : List Up) : List Wr := us.map mvW
def txL (slot : Int) (us : List Up) : List Wr := us.mapIdx (mvT slot)
def apL (slot seq : Int) (us : List Up) : List Wr := chL us ++ [mvF] ++ [mvH slot 0 seq] ++ [mvF]
def bgL (slot seq : Int) (us : List Up) : List Wr := txL slot us ++ [mvF] ++ [mvH slot us.length seq] ++ [mvF]
def plL (slot seq : Int) (us : List Up) : List Wr := if us.length = 0 then [] else bgL slot seq us ++ apL slot seq us
def rpL (slot seq : Int) (us : List Up) : List Wr := if us.length = 0 then [] else apL slot seq us
theorem chL_length (us : List Up) : (chL us).length = us.length := by simp [chL]
theorem txL_length (slot : Int) (us : List Up) : (txL slot us).length = us.length := by simp [txL]
theorem apL_length (slot seq : Int) (us : List Up) : (apL slot seq us).length = us.length + 3 := by simp [apL, chL]
theorem bgL_length (slot seq : Int) (us : List Up) : (bgL slot seq us).length = us.length + 3 := by simp [bgL, txL]
theorem chL_take {us : List Up} {k : Nat} (h : k < us.length) : (chL us).take (k + 1) = (chL us).take k ++ [mvW us[k]] := by
  rw [List.take_succ_eq_append_getElem (by rw [chL_length]; exact h)]; simp [chL]
theorem txL_take {slot : Int} {us : List Up} {k : Nat} (h : k < us.length) : (txL slot us).take (k + 1) = (txL slot us).take k ++ [mvT slot k us[k]] := by
  rw [List.take_succ_eq_append_getElem (by rw [txL_length]; exact h)]; simp [txL]
theorem chL_done {us : List Up} {k : Nat} (h : us.length ≤ k) : (chL us).take k = chL us := List.take_of_length_le (by rw [chL_length]; exact h)
theorem txL_done {slot : Int} {us : List Up} {k : Nat} (h : us.length ≤ k) : (txL slot us).take k = txL slot us := List.take_of_length_le (by rw [txL_length]; exact h)
def upsB (us : List Up) : Bool := us.all upB
theorem upsB_at {us : List Up} (h : upsB us = true) {k : Nat} (hk : k < us.length) : upB us[k] = true := List.all_eq_true.1 h _ (List.getElem_mem hk)
def short (ms : List Wr) : Prop := ∀ x ∈ ms, x.data.size ≤ 80
theorem short.sizes {ms : List Wr} (h : short ms) : ∀ x ∈ ms, x.data.size ≤ maxLen := fun x hx => by have := h x hx; unfold maxLen; omega
theorem short.app {a b : List Wr} (h : short a) (k : short b) : short (a ++ b) := fun x hx => by
  rcases List.mem_append.1 hx with h' | h'
  · exact h x h'
  · exact k x h'
theorem short.one {x : Wr} (h : x.data.size ≤ 80) : short [x] := fun y hy => by simp at hy; subst hy; exact h
theorem short_nil : short [] := fun x hx => by cases hx
theorem short_F : short [mvF] := short.one (by decide)
theorem short_H (slot n seq : Int) : short [mvH slot n seq] := short.one (by show (hdT n seq).size ≤ 80; rw [hdT_size]; omega)
theorem short_ch {us : List Up} (h : upsB us = true) : short (chL us) := fun x hx => by
  simp only [chL, List.mem_map] at hx
  obtain ⟨u, hu, rfl⟩ := hx
  have := (upB_iff.1 (List.all_eq_true.1 h u hu)).2
  show u.data.size ≤ 80
  omega
theorem short_tx {slot : Int} {us : List Up} (h : upsB us = true) : short (txL slot us) := fun x hx => by
  obtain ⟨i, hi, rfl⟩ := List.mem_iff_getElem.1 hx
  have hi' : i < us.length := by rwa [txL_length] at hi
  have := (upB_iff.1 (upsB_at h hi')).2
  simp only [txL, List.getElem_mapIdx, mvT]
  rw [encU_size]; omega
theorem short_ap {slot seq : Int} {us : List Up} (h : upsB us = true) : short (apL slot seq us) := (((short_ch h).app short_F).app (short_H _ _ _)).app short_F
theorem short_bg {slot seq : Int} {us : List Up} (h : upsB us = true) : short (bgL slot seq us) := (((short_tx h).app short_F).app (short_H _ _ _)).app short_F
theorem short_pl {slot seq : Int} {us : List Up} (h : upsB us = true) : short (plL slot seq us) := by
  unfold plL; split
  · exact short_nil
  · exact (short_bg h).app (short_ap h)
theorem hd_nums {n seq : Int} (h : 0 ≤ n ∧ n ≤ 5) (hs : numB seq = true) : ∀ j (hj : j < [n, seq].length), 0 ≤ [n, seq][j] ∧ [n, seq][j] ≤ 2147483647 := by
  have h2 : 0 ≤ seq ∧ seq ≤ 2147483647 := by simpa [numB, inB] using hs
  intro j hj
  have hj' : j < 2 := hj
  rcases (show j = 0 ∨ j = 1 by omega) with rfl | rfl <;> simp <;> omega
theorem hd_seal {n seq : Int} (h : 0 ≤ n ∧ n ≤ 5) (hs : numB seq = true) : sealC 7 [n, seq] = 0 ∧ sealT 7 [n, seq] = hdT n seq := by
  have h2 : 0 ≤ seq ∧ seq ≤ 2147483647 := by simpa [numB, inB] using hs
  have hc : sealC 7 [n, seq] = 0 := sealC_ok (listC_ok (by simp) (by
    rw [intsB_len]
    · rfl
    · intro j hj
      have hj' : j < 2 := hj
      rcases (show j = 0 ∨ j = 1 by omega) with rfl | rfl <;> simp [numB, inB] <;> omega)) rfl
  exact ⟨hc, sealT_ok hc⟩
def fuC (us : List Up) : Int := if 5 < us.length then 6 else if upsB us = true then 0 else 1
theorem fuC_many {us : List Up} (h : 5 < us.length) : fuC us = 6 := if_pos h
theorem fuC_ok {us : List Up} (h : ¬ 5 < us.length) (hb : upsB us = true) : fuC us = 0 := by rw [fuC, if_neg h, if_pos hb]
theorem fuC_bad {us : List Up} (h : ¬ 5 < us.length) (hb : upsB us = false) : fuC us = 1 := by rw [fuC, if_neg h, if_neg (by simp [hb])]
theorem fuC_zero {us : List Up} (h : fuC us = 0) : us.length ≤ 5 ∧ upsB us = true := by
  unfold fuC at h
  split at h
  · cases h
  · split at h
    · exact ⟨by omega, by assumption⟩
    · cases h
def jpC (h seq : Int) (us : List Up) : Int := if 4096 < us.length then 2 else if inB h 0 3 = false then 4 else if numB seq = false then 4 else fuC us
theorem jpC_long {h seq : Int} {us : List Up} (h1 : 4096 < us.length) : jpC h seq us = 2 := if_pos h1
theorem jpC_host {h seq : Int} {us : List Up} (h1 : ¬ 4096 < us.length) (h2 : inB h 0 3 = false) : jpC h seq us = 4 := by rw [jpC, if_neg h1, if_pos h2]
theorem jpC_seq {h seq : Int} {us : List Up} (h1 : ¬ 4096 < us.length) (h2 : inB h 0 3 = true) (h3 : numB seq = false) : jpC h seq us = 4 := by rw [jpC, if_neg h1, if_neg (by simp [h2]), if_pos h3]
theorem jpC_list {h seq : Int} {us : List Up} (h1 : ¬ 4096 < us.length) (h2 : inB h 0 3 = true) (h3 : numB seq = true) : jpC h seq us = fuC us := by rw [jpC, if_neg h1, if_neg (by simp [h2]), if_neg (by simp [h3])]
def jpL (h seq : Int) (us : List Up) : List Wr := if jpC h seq us = 0 then plL (slN h) seq us else []
theorem jpL_no {h seq : Int} {us : List Up} (h1 : jpC h seq us ≠ 0) : jpL h seq us = [] := if_neg h1
theorem jpL_yes {h seq : Int} {us : List Up} (h1 : jpC h seq us = 0) : jpL h seq us = plL (slN h) seq us := if_pos h1
structure ApS (w W : World) (qo : Option Addr) (n qa : Nat) (ms : List Wr) : Prop where
  o : OwnR W w.heap.size 57 3 (.slice qo n qa) n (ioV ms)
  k : Below w.heap.size w W
theorem ApS.next {w W W' : World} {qo : Option Addr} {n qa : Nat} {ms : List Wr} (h : ApS w W qo n qa ms) (hb : Below W.heap.size W W') : ApS w W' qo n qa ms := ⟨h.o.below hb, fr h.k hb⟩
theorem ApS.app {w W W' : World} {qo : Option Addr} {n qa m g cap : Nat} {ms : List Wr} {vs : List Value} {ns : List Wr} (h : ApS w W qo n qa ms) (hv : vs = ioV ns) (hm : 0 < n + m)
    (ho : W'.ownsRow w.heap.size 57 3 (.slice (some ⟨g, 0, none⟩) (n + m) cap) (n + m) (ioV ms ++ vs)) (hk : Keep (Own (.slice qo n qa)) W W') : ApS w W' (some ⟨g, 0, none⟩) (n + m) cap (ms ++ ns) := by
  subst hv
  refine ⟨.inr ⟨hm, ?_⟩, belowKp h.k hk (fun j hj => (h.o.ge j hj).1)⟩
  rw [ioV_append]; exact ho
theorem ApS.one {w W W' : World} {qo : Option Addr} {n qa g cap : Nat} {ms : List Wr} {x : Wr} (h : ApS w W qo n qa ms)
    (ho : W'.ownsRow w.heap.size 57 3 (.slice (some ⟨g, 0, none⟩) (n + 1) cap) (n + 1) (ioV ms ++ wrV x)) (hk : Keep (Own (.slice qo n qa)) W W') : ApS w W' (some ⟨g, 0, none⟩) (n + 1) cap (ms ++ [x]) :=
  h.app (by simp [ioV, wrV]) (by omega) ho hk
theorem ApS.sz {w W : World} {qo : Option Addr} {n qa : Nat} {ms : List Wr} (h : ApS w W qo n qa ms) : w.heap.size ≤ W.heap.size := h.k.size
theorem ApS.len {w W : World} {qo : Option Addr} {n qa : Nat} {ms : List Wr} (h : ApS w W qo n qa ms) : n = ms.length := by
  have := h.o.len; rw [ioV_length] at this; omega
end Go.Proofs.YtefnapcegeojoaaDoor
