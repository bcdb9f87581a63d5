import Derived.Test.YthnpooffhopnkaaRows
import Derived.Test.YthnpooffhopnkaaPart1
import Derived.Test.YthnpooffhopnkaaPart3
import Derived.Test.YthnpooffhopnkaaPart2
import Derived.Test.YthnpooffhopnkaaPart5
import Derived.Test.YthnpooffhopnkaaPart6
import Derived.Test.YthnpooffhopnkaaPart8
import Derived.Test.YthnpooffhopnkaaPart7
import Derived.Test.YthnpooffhopnkaaPart12
import Derived.Test.YthnpooffhopnkaaPart9
import Derived.Test.YthnpooffhopnkaaPart13
import Derived.WalkKit
import Derived.WalkSpells
import Derived.BigQuiet
import Derived.Deep.QuietTactic
import Derived.Deep.RegionWith
import Derived.Deep.RegionHeld3
import Derived.Test.YthnpooffhopnkaaPart4
import Derived.KernelRfl
import Derived.Laws.OwnMore

/- Contracts of the model's ReadCluster, WriteCluster. (Made ahead of stage 10.) -/
namespace Go.Proofs.Ythnpooffhopnkaa
open Go.RowKit
set_option linter.unusedVariables false
set_option maxRecDepth 100000

/-- What the calls answer. -/
def rcA (m : Img) (g : Int) : Int × Int := if imB m = true then (if betw g 0 ((m.table.length : Int) - 1) = true then (imVal m (m.table.getD g.toNat 0), 0) else (0, 4)) else (0, 1)
def wcA (m : Img) (g v : Int) : Img × Int := if imB m = true then (if betw g 0 ((m.table.length : Int) - 1) = true ∧ numB v = true then imWrite m g.toNat v else (m, 4)) else (im0, 1)
def zcA (m : Img) (g : Int) : Img × Int := if imB m = true then (if betw g 0 ((m.table.length : Int) - 1) = true then (imZero m g.toNat, 0) else (m, 4)) else (im0, 1)
def rsA' (m : Img) (n : Int) : Img × Int := if imB m = true then (if betw n 0 12 = true then (imResize m n.toNat, 0) else (m, 4)) else (im0, 1)
/-- The entry's variable, the result's beside it. -/
structure ImE (w W : World) (a : Im4) (m : Img) : Prop where
  v : VarM W w.heap.size 45 (.slice a.ro m.refs.length a.rc) (.slice a.tq m.table.length a.tc) (.slice a.so m.snaps.length a.sc) (.slice a.dq m.data.length a.dc)
  r : VarM W (w.heap.size + 1) 45 (.slice none 0 0) (.slice none 0 0) (.slice none 0 0) (.slice none 0 0)
  s : ImS W a m
  b : Below w.heap.size w W
theorem ImE.new (w : World) (a : Im4) (m : Img) (h : ImS w a m) : ImE w ((w.alloc (.cells #[.slice a.ro m.refs.length a.rc, .slice a.tq m.table.length a.tc, .slice a.so m.snaps.length a.sc, .slice a.dq m.data.length a.dc] 45)).alloc (.cells #[.slice none 0 0, .slice none 0 0, .slice none 0 0, .slice none 0 0] 45)) a m :=
  ⟨(VarM.new w _ _ _ _ _).below (Joins.below_alloc1 _ _), (VarM.new (w.alloc _) _ _ _ _ _).at (by simp), h.below (Joins.below_alloc2 _ _ _), Joins.below_alloc2 _ _ _⟩
theorem ImE.below {w W W' : World} {a : Im4} {m : Img} (h : ImE w W a m) (hb : Below W.heap.size W W') : ImE w W' a m := ⟨h.v.below hb, h.r.below hb, h.s.below hb, fr h.b hb⟩
/-- A result that is put. -/
theorem ImE.put {w W W' : World} {a : Im4} {m : Img} (h : ImE w W a m) (hb : Below W.heap.size W W') {a' : Im4} {m' : Img} {ts : List Value} (ho : OwnIm W' W.heap.size a' m' ts) :
    VarM (putI W' (w.heap.size + 1) a' m') (w.heap.size + 1) 45 (.slice a'.ro m'.refs.length a'.rc) (.slice a'.tq m'.table.length a'.tc) (.slice a'.so m'.snaps.length a'.sc) (.slice a'.dq m'.data.length a'.dc) ∧ OwnIm (putI W' (w.heap.size + 1) a' m') w.heap.size a' m' ts ∧ Below w.heap.size w (putI W' (w.heap.size + 1) a' m') := by
  obtain ⟨h1, h2, h3⟩ := ImSt.put (h.r.below hb) ho (fr h.b hb) (Nat.le_succ _) h.r.lt a' m'
  exact ⟨h1, h2.base h.b.size, h3⟩
/-- The empty image as a result. -/
theorem ImE.zero {w W : World} {a : Im4} {m : Img} (h : ImE w W a m) :
    VarM ((((W.setCell ⟨w.heap.size + 1, 0, none⟩ (.slice none 0 0)).setCell ⟨w.heap.size + 1, 1, none⟩ (.slice none 0 0)).setCell ⟨w.heap.size + 1, 2, none⟩ (.slice none 0 0)).setCell ⟨w.heap.size + 1, 3, none⟩ (.slice none 0 0)) (w.heap.size + 1) 45 (.slice none 0 0) (.slice none 0 0) (.slice none 0 0) (.slice none 0 0) ∧
    Below w.heap.size w ((((W.setCell ⟨w.heap.size + 1, 0, none⟩ (.slice none 0 0)).setCell ⟨w.heap.size + 1, 1, none⟩ (.slice none 0 0)).setCell ⟨w.heap.size + 1, 2, none⟩ (.slice none 0 0)).setCell ⟨w.heap.size + 1, 3, none⟩ (.slice none 0 0)) :=
  ⟨(((h.r.set0 _).set1 _).set2 _).set3 _, (((h.b.setCell (p := ⟨w.heap.size + 1, 0, none⟩) (Nat.le_succ _) _).setCell (p := ⟨w.heap.size + 1, 1, none⟩) (Nat.le_succ _) _).setCell (p := ⟨w.heap.size + 1, 2, none⟩) (Nat.le_succ _) _).setCell (p := ⟨w.heap.size + 1, 3, none⟩) (Nat.le_succ _) _⟩
/-- An answer: an image of its own and a code. -/
def AnsI (w w' : World) (e : Ending) (R : Img × Int) : Prop := ∃ a ts, e = .returned (.tuple #[imV a R.1, .int .i64 R.2]) ∧ OwnIm w' w.heap.size a R.1 ts ∧ Below w.heap.size w w'
theorem AnsI.of {w w' : World} {v : Value} {c : Int} {R : Img × Int} {a : Im4} {ts : List Value} (hv : v = imV a R.1) (hc : c = R.2) (ho : OwnIm w' w.heap.size a R.1 ts) (hb : Below w.heap.size w w') : AnsI w w' (.returned (.tuple #[v, .int .i64 c])) R := ⟨a, ts, by rw [hv, hc], ho, hb⟩
theorem AnsI.bad {w w' : World} (c : Int) (hb : Below w.heap.size w w') : AnsI w w' (.returned (.tuple #[.agg #[.slice none 0 0, .slice none 0 0, .slice none 0 0, .slice none 0 0], .int .i64 c])) (im0, c) := ⟨⟨none, 0, none, 0, none, 0, none, 0⟩, [], rfl, OwnIm.zero _ _, hb⟩

end Go.Proofs.Ythnpooffhopnkaa

/- Contracts of NewGuest of both; a guest put into a variable. -/
namespace Go.Proofs.Ythnpooffhopnkaa
open Go.RowKit
set_option linter.unusedVariables false
set_option maxRecDepth 100000

theorem infoIg : (Try.prog.info? 3).map (fun i => (i.zero, i.size, i.bytes)) = some (some (.int .i64 0), 1, 8) := by kernel_rfl
theorem res_gc {fn : Func} {p u : Tmp} {v0 v1 z : Value} {x : Nat} {W : World} {tmps : Array Value} (h : fn.results = #[.cell p 30, .tmp u]) (hp : tmps.getD p undef = .pointer (some ⟨x, 0, none⟩)) (hu : tmps.getD u undef = z) (hv : VarG W x 30 v0 v1) :
    (results fn tmps).run Try.prog W = .ok (.tuple #[.agg #[v0, v1], z]) W := by
  obtain ⟨c0, c1⟩ := hv.cells
  rw [Array.getD_eq_getD_getElem?] at hp hu
  simp [results, h, hp, hu, go_sem, c0, c1]
theorem res_gs {fn : Func} {p : Tmp} {v0 v1 : Value} {x : Nat} {W : World} {tmps : Array Value} (h : fn.results = #[.cell p 30]) (hp : tmps.getD p undef = .pointer (some ⟨x, 0, none⟩)) (hv : VarG W x 30 v0 v1) :
    (results fn tmps).run Try.prog W = .ok (.agg #[v0, v1]) W := by
  obtain ⟨c0, c1⟩ := hv.cells
  rw [Array.getD_eq_getD_getElem?] at hp
  simp [results, h, hp, go_sem, c0, c1]
/-- A guest is put into a variable. -/
abbrev putG (w : World) (x : Nat) (a : Gs4) (g : Gst) : World := (w.setCell ⟨x, 0, none⟩ (.slice a.vo g.vals.length a.vc)).setCell ⟨x, 1, none⟩ (.slice a.so g.shots.length a.sc)
theorem VarG.putG {w : World} {x t : Nat} {v0 v1 : Value} (h : VarG w x t v0 v1) (a : Gs4) (g : Gst) : VarG (putG w x a g) x t (.slice a.vo g.vals.length a.vc) (.slice a.so g.shots.length a.sc) := (h.set0 _).set1 _
theorem OwnGs.putG {w : World} {B x : Nat} {a : Gs4} {g : Gst} {ts : List Value} (h : OwnGs w B a g ts) (hx : x < B) (b : Gs4) (k : Gst) : OwnGs (putG w x b k) B a g ts := (h.setCell (p := ⟨x, 0, none⟩) hx _).setCell (p := ⟨x, 1, none⟩) hx _
theorem below_putG {w0 w : World} {B x : Nat} (h : Below B w0 w) (hx : B ≤ x) (b : Gs4) (k : Gst) : Below B w0 (putG w x b k) := (h.setCell (p := ⟨x, 0, none⟩) hx _).setCell (p := ⟨x, 1, none⟩) hx _
theorem gsRow {w : World} {B q : Nat} {ao : Option Addr} {c : Nat} (h : OwnN w B (.slice ao q c) (List.replicate q 0)) : OwnGs w B ⟨ao, c, none, 0⟩ ⟨List.replicate q 0, []⟩ [] :=
  ⟨rfl, .inl ⟨rfl, rfl, none, 0, rfl⟩, OwnA.one (by simpa using h)⟩
theorem gsRowS {w : World} {B q g : Nat} {ao : Option Addr} {c : Nat} (h : OwnN w B (.slice ao q c) (List.replicate q 0)) : OwnGs w B ⟨ao, c, some ⟨g, 0, none⟩, 0⟩ ⟨List.replicate q 0, []⟩ [] :=
  ⟨rfl, .inl ⟨rfl, rfl, some ⟨g, 0, none⟩, 0, rfl⟩, OwnA.one (by simpa using h)⟩
theorem intV_zeros (q : Nat) : intV (List.replicate q 0) = List.replicate q (.int .i64 0) := by simp [intV]

set_option maxHeartbeats 1600000 in
theorem newGuest_spec (n : Int) (w : World) :
    Calls Try.prog 13 #[.int .i64 n] w fun e w' => AnsG w w' e (ngA n) := by
  have HA := hide (Joins.below_alloc1 w (.cells #[.slice none 0 0, .slice none 0 0] 30))
  have HV := hide (VarG.new w 30 (.slice none 0 0) (.slice none 0 0))
  cases hb : betw n 0 12
  · have HF : Hid (ngA n = (gs0, 4)) := hide (by rw [ngA, hb]; rfl)
    go_enter Try.func13, Try.ntmps13
    go_upto_region 1 with fail
    revert HA HV
    generalize (w.alloc _) = W0
    intro HA HV
    obtain ⟨c0, c1⟩ := (unhide HV).cells
    obtain ⟨f0, f1⟩ := (unhide HV).free
    have HV2 := hide (((unhide HV).set0 (.slice none 0 0)).set1 (.slice none 0 0))
    have HB2 := hide (((unhide HA).setCell (p := ⟨w.heap.size, 0, none⟩) (Nat.le_refl _) (.slice none 0 0)).setCell (p := ⟨w.heap.size, 1, none⟩) (Nat.le_refl _) (.slice none 0 0))
    go_wp2_with (go_at_call 42; refine (in_any _ _ _ _).mono ?_; rintro e w' ⟨rfl, hw⟩; replace hw := hw.symm; subst hw; rw [hb])
    refine bodyPost_ret (res_gc Try.results13 rfl rfl (unhide HV2)) rfl ?_
    rw [unhide HF]
    exact AnsG.bad 4 (unhide HB2)
  · obtain ⟨l0, l1⟩ := betw_iff.1 hb
    obtain ⟨q, rfl⟩ := Int.eq_ofNat_of_zero_le l0
    have HF : Hid (ngA (q : Int) = (⟨List.replicate q 0, []⟩, 0)) := hide (by rw [ngA, hb]; rfl)
    have HLT := hide (unhide HV).lt
    obtain ⟨i0, hi, hz0, hz1, hz2⟩ := info_parts infoIg
    go_enter Try.func13, Try.ntmps13
    go_upto_region 1 with fail
    revert HA HV HLT
    generalize (w.alloc _) = W0
    intro HA HV HLT
    have hcl : 0 ≤ W0.heap.size := Nat.zero_le _
    go_wp2_with (first | (go_at_call 42; refine (in_any _ _ _ _).mono ?_; rintro e w' ⟨rfl, hw⟩; replace hw := hw.symm; subst hw; rw [hb]) | (at_make; refine wpList_make_full _ rfl _ _ 22 rfl W0.heap.size 3 i0 _ 1 Try.underlying22 hi hz0 hz1 _ _ _ _ q rfl rfl rfl rfl ?c1 ?c2 ?c3 ?_))
    case c1 => rw [hz2]; omega
    case c2 => unfold maxLen; omega
    case c3 => exact Nat.le_refl _
    intro w1 hown hgrow
    have hb1 : Below W0.heap.size W0 w1 := (Below.refl _ _).grown hgrow (Nat.le_refl _) (fun _ h => by cases h)
    have HO : Hid (OwnGs w1 W0.heap.size ⟨some ⟨W0.heap.size, 0, none⟩, q, some ⟨w1.heap.size, 0, none⟩, 0⟩ ⟨List.replicate q 0, []⟩ []) := hide (gsRowS (by
      have hl : (List.replicate q (0 : Int)).length = q := by simp
      refine OwnN.mk' (OwnR.of (by rw [intV_zeros, ← toList_madeCells_one]; simpa [goInt] using hown) (fun e => ⟨_, by rw [e]⟩)) hl))
    have HB1 := hide (fr (fr (unhide HA) hb1) (Joins.below_alloc1 w1 (.cells #[] 69)))
    have HV1 := hide (((unhide HV).below hb1).below (Joins.below_alloc1 w1 (.cells #[] 69)))
    have HO1 := hide ((unhide HO).below (Joins.below_alloc1 w1 (.cells #[] 69)))
    clear hown hgrow hb1 HA HV
    obtain ⟨c0, c1⟩ := (unhide HV1).cells
    obtain ⟨f0, f1⟩ := (unhide HV1).free
    have HS := hide ((unhide HV1).putG ⟨some ⟨W0.heap.size, 0, none⟩, q, some ⟨w1.heap.size, 0, none⟩, 0⟩ ⟨List.replicate q 0, []⟩)
    have HS2 := hide ((unhide HO1).putG (unhide HLT) ⟨some ⟨W0.heap.size, 0, none⟩, q, some ⟨w1.heap.size, 0, none⟩, 0⟩ ⟨List.replicate q 0, []⟩)
    have HS3 := hide (below_putG (unhide HB1) (Nat.le_refl _) ⟨some ⟨W0.heap.size, 0, none⟩, q, some ⟨w1.heap.size, 0, none⟩, 0⟩ ⟨List.replicate q 0, []⟩)
    have hlq : (List.replicate q (0 : Int)).length = q := by simp
    have hl0 : ([] : List Snp).length = 0 := rfl
    unfold putG at HS HS2 HS3
    rw [hlq] at HS HS2 HS3
    rw [hl0] at HS HS2 HS3
    clear hlq hl0
    go_wp2
    refine bodyPost_ret (res_gc Try.results13 rfl rfl (unhide HS)) rfl ?_
    rw [unhide HF]
    exact AnsG.of (R := (⟨List.replicate q 0, []⟩, 0)) (a := ⟨some ⟨W0.heap.size, 0, none⟩, q, some ⟨w1.heap.size, 0, none⟩, 0⟩) (ts := []) (by simp) rfl ((unhide HS2).base (by have := unhide HLT; omega)) (unhide HS3)

set_option maxHeartbeats 1600000 in
theorem newGuest_impl (n : Int) (w : World) :
    Calls Try.prog 14 #[.int .i64 n] w fun e w' => AnsG w w' e (ngA n) := by
  have HA := hide (Joins.below_alloc1 w (.cells #[.slice none 0 0, .slice none 0 0] 30))
  have HV := hide (VarG.new w 30 (.slice none 0 0) (.slice none 0 0))
  cases hb : betw n 0 12
  · have HF : Hid (ngA n = (gs0, 4)) := hide (by rw [ngA, hb]; rfl)
    go_enter Try.func14, Try.ntmps14
    go_upto_region 1 with fail
    revert HA HV
    generalize (w.alloc _) = W0
    intro HA HV
    obtain ⟨c0, c1⟩ := (unhide HV).cells
    obtain ⟨f0, f1⟩ := (unhide HV).free
    have HV2 := hide (((unhide HV).set0 (.slice none 0 0)).set1 (.slice none 0 0))
    have HB2 := hide (((unhide HA).setCell (p := ⟨w.heap.size, 0, none⟩) (Nat.le_refl _) (.slice none 0 0)).setCell (p := ⟨w.heap.size, 1, none⟩) (Nat.le_refl _) (.slice none 0 0))
    go_wp2_with (go_at_call 43; refine (within_any _ _ _ _).mono ?_; rintro e w' ⟨rfl, hw⟩; replace hw := hw.symm; subst hw; rw [hb])
    refine bodyPost_ret (res_gc Try.results14 rfl rfl (unhide HV2)) rfl ?_
    rw [unhide HF]
    exact AnsG.bad 4 (unhide HB2)
  · obtain ⟨l0, l1⟩ := betw_iff.1 hb
    obtain ⟨q, rfl⟩ := Int.eq_ofNat_of_zero_le l0
    have HF : Hid (ngA (q : Int) = (⟨List.replicate q 0, []⟩, 0)) := hide (by rw [ngA, hb]; rfl)
    have HLT := hide (unhide HV).lt
    obtain ⟨i0, hi, hz0, hz1, hz2⟩ := info_parts infoIg
    go_enter Try.func14, Try.ntmps14
    go_upto_region 1 with fail
    revert HA HV HLT
    generalize (w.alloc _) = W0
    intro HA HV HLT
    have hcl : 0 ≤ W0.heap.size := Nat.zero_le _
    go_wp2_with (first | (go_at_call 43; refine (within_any _ _ _ _).mono ?_; rintro e w' ⟨rfl, hw⟩; replace hw := hw.symm; subst hw; rw [hb]) | (at_make; refine wpList_make_full _ rfl _ _ 22 rfl W0.heap.size 3 i0 _ 1 Try.underlying22 hi hz0 hz1 _ _ _ _ q rfl rfl rfl rfl ?c1 ?c2 ?c3 ?_))
    case c1 => rw [hz2]; omega
    case c2 => unfold maxLen; omega
    case c3 => exact Nat.le_refl _
    intro w1 hown hgrow
    have hb1 : Below W0.heap.size W0 w1 := (Below.refl _ _).grown hgrow (Nat.le_refl _) (fun _ h => by cases h)
    have HO : Hid (OwnGs w1 W0.heap.size ⟨some ⟨W0.heap.size, 0, none⟩, q, none, 0⟩ ⟨List.replicate q 0, []⟩ []) := hide (gsRow (by
      have hl : (List.replicate q (0 : Int)).length = q := by simp
      refine OwnN.mk' (OwnR.of (by rw [intV_zeros, ← toList_madeCells_one]; simpa [goInt] using hown) (fun e => ⟨_, by rw [e]⟩)) hl))
    have HB1 := hide (fr (unhide HA) hb1)
    have HV1 := hide ((unhide HV).below hb1)
    clear hown hgrow hb1 HA HV
    obtain ⟨c0, c1⟩ := (unhide HV1).cells
    obtain ⟨f0, f1⟩ := (unhide HV1).free
    have HS := hide ((unhide HV1).putG ⟨some ⟨W0.heap.size, 0, none⟩, q, none, 0⟩ ⟨List.replicate q 0, []⟩)
    have HS2 := hide ((unhide HO).putG (unhide HLT) ⟨some ⟨W0.heap.size, 0, none⟩, q, none, 0⟩ ⟨List.replicate q 0, []⟩)
    have HS3 := hide (below_putG (unhide HB1) (Nat.le_refl _) ⟨some ⟨W0.heap.size, 0, none⟩, q, none, 0⟩ ⟨List.replicate q 0, []⟩)
    have hlq : (List.replicate q (0 : Int)).length = q := by simp
    unfold putG at HS HS2 HS3
    rw [hlq] at HS HS2 HS3
    clear hlq
    go_wp2
    refine bodyPost_ret (res_gc Try.results14 rfl rfl (unhide HS)) rfl ?_
    rw [unhide HF]
    exact AnsG.of (R := (⟨List.replicate q 0, []⟩, 0)) (a := ⟨some ⟨W0.heap.size, 0, none⟩, q, none, 0⟩) (ts := []) (by simp) rfl ((unhide HS2).base (by have := unhide HLT; omega)) (unhide HS3)

theorem ngA_bd (n : Int) : GsBd (ngA n).1 := by
  unfold ngA
  split
  · rename_i h
    have := betw_iff.1 h
    exact ⟨by simp; omega, by simp, fun s hs => by simp at hs, by simp [snK]⟩
  · exact GsBd.zero

end Go.Proofs.Ythnpooffhopnkaa

/- The walk of laws.FnExactNewGuest, given what the program's function answers. (Made ahead of stage 10.) -/
namespace Go.Proofs.Ythnpooffhopnkaa
open Go.RowKit
set_option linter.unusedVariables false
set_option maxRecDepth 100000

set_option maxHeartbeats 3200000 in
theorem lawGsNewGuest (n : Int) (w : World)
    (himpl : ∀ W : World, Calls Try.prog 14 #[.int .i64 n] W fun e w' => AnsG W w' e (ngA n)) :
    Calls Try.prog 4 #[.int .i64 n] w fun e w' => e = .returned (.bool true) ∧ Below w.heap.size w w' := by
  have HRD := hide (ngA_bd n)
  have HRS := hide (unhide HRD).zs
  have HIM := hide himpl
  have HSP : Hid (∀ W : World, Calls Try.prog 13 #[.int .i64 n] W fun e w' => AnsG W w' e (ngA n)) := hide (fun W => newGuest_spec n W)
  have bcc : ((ngA n).2 != (ngA n).2) = false := by simp
  clear himpl
  generalize hRC : ngA n = RC at *
  clear hRC
  obtain ⟨R, C⟩ := RC
  simp only at HRD HRS bcc
  go_enter Try.func4, Try.ntmps4
  go_wp2_with fail
  refine (unhide HSP _).mono ?_
  rintro e w3 ⟨aW, tsW, rfl, hoW, hb3⟩
  simp only at hoW ⊢
  have HNW := hide (LwG.new w3 aW R hoW hb3.size)
  have HB3 := hide (fr hb3 (Joins.below_alloc1 w3 (.cells #[.slice aW.vo R.vals.length aW.vc, .slice aW.so R.shots.length aW.sc] 30)))
  clear hoW hb3
  go_upto_region 2 with fail
  revert HB3
  revert HNW
  generalize (w3.alloc _) = W3
  generalize w3.heap.size = pW
  intro HNW HB3
  go_wp2_with fail
  refine (unhide HIM _).mono ?_
  rintro e w5 ⟨aG, tsG, rfl, hoG, hb5⟩
  simp only at hoG ⊢
  have HB5' := hide (fr hb5 (Joins.below_alloc1 w5 (.cells #[.slice aG.vo R.vals.length aG.vc, .slice aG.so R.shots.length aG.sc] 30)))
  have HNW5 := hide ((unhide HNW).below (unhide HB5'))
  have HNG5 := hide (LwG.new w5 aG R hoG hb5.size)
  have HB5 := hide (fr (unhide HB3) (unhide HB5'))
  have HWX : Hid (∀ g, GsB aW R tsW g → g < W3.heap.size) := hide (fun g hg => ((unhide HNW).o.ge g hg).2)
  have HSL : Hid (w.heap.size ≤ W3.heap.size) := hide (unhide HB3).size
  clear hoG hb5 HNW HB3
  generalize W3.heap.size = n2 at *
  go_upto_region 3 with fail
  clear HB5'
  revert HB5
  revert HNG5
  revert HNW5
  generalize (w5.alloc _) = W5
  generalize w5.heap.size = pG
  intro HNW5 HNG5 HB5
  obtain ⟨c0, c1⟩ := (unhide HNG5).v.cells
  obtain ⟨d0, d1⟩ := (unhide HNW5).v.cells
  go_wp2_with fail
  refine (eqGuest_B aG aW R _ (unhide HRD) ((unhide HNG5).o.shows (unhide HRS)) ((unhide HNW5).o.shows (unhide HRS))).mono ?_
  rintro e w9 ⟨rfl, hb⟩
  have HNW9 := hide ((unhide HNW5).below hb)
  have HNG9 := hide ((unhide HNG5).below hb)
  have HB9 := hide (fr (unhide HB5) hb)
  clear hb c0 c1 d0 d1 HNW5 HNG5 HB5
  obtain ⟨c0, c1⟩ := (unhide HNG9).v.cells
  go_wp2_with fail
  refine (markGuest_B aG R tsG _ _ (unhide HRD) (unhide HNG9).o).mono ?_
  rintro e w10 ⟨rfl, ho10, hk10⟩
  have HNW10 := hide ((unhide HNW9).keep (unhide HNG9) hk10 (fun g h1 h2 => by have := unhide HWX g h1; have := ((unhide HNG9).o.ge g h2).1; omega))
  have HGV10 := hide ((unhide HNG9).v.keepGsI (unhide HNG9).o hk10)
  have HGO10 := hide ho10
  have HB10 := hide ((unhide HB9).trans (hk10.below (unhide HB9).size (fun g hg => by have := ((unhide HNG9).o.ge g hg).1; have := unhide HSL; omega)))
  clear ho10 hk10 c0 c1 HNW9 HNG9 HB9
  obtain ⟨c0, c1⟩ := (unhide HGV10).cells
  go_wp2_with fail
  refine (heldGuest_B aG R tsG _ _ (unhide HRD) (unhide HGO10)).mono ?_
  rintro e w12 ⟨rfl, hb⟩
  have HNW12 := hide ((unhide HNW10).below hb)
  have HGV12 := hide ((unhide HGV10).below hb)
  have HGO12 := hide ((unhide HGO10).below hb)
  have HB12 := hide (fr (unhide HB10) hb)
  clear hb c0 c1 HNW10 HGV10 HGO10 HB10
  have hq1 : ¬ (((1 + gsK R : Nat) : Int) < 0) := by omega
  go_wp2_with fail
  refine (unhide HIM _).mono ?_
  rintro e w13 ⟨aH, tsH, rfl, hoH, hb⟩
  simp only at hoH ⊢
  have HBa := hide (fr hb (Joins.below_alloc1 w13 (.cells #[.slice aH.vo R.vals.length aH.vc, .slice aH.so R.shots.length aH.sc] 30)))
  have HNH := hide (LwG.new w13 aH R hoH hb.size)
  have HNW13 := hide ((unhide HNW12).below (unhide HBa))
  have HGV13 := hide ((unhide HGV12).below (unhide HBa))
  have HGO13 := hide ((unhide HGO12).below (unhide HBa))
  have HB13 := hide (fr (unhide HB12) (unhide HBa))
  clear hb hoH HNW12 HGV12 HGO12 HB12
  go_upto_region 14 with fail
  clear HBa
  revert HB13
  revert HGO13
  revert HGV13
  revert HNW13
  revert HNH
  generalize (w13.alloc _) = W13
  generalize w13.heap.size = pH
  intro HNH HNW13 HGV13 HGO13 HB13
  obtain ⟨c0, c1⟩ := (unhide HNH).v.cells
  obtain ⟨d0, d1⟩ := (unhide HNW13).v.cells
  go_wp2_with fail
  refine (eqGuest_B aH aW R _ (unhide HRD) ((unhide HNH).o.shows (unhide HRS)) ((unhide HNW13).o.shows (unhide HRS))).mono ?_
  rintro e w14 ⟨rfl, hb⟩
  have HGV14 := hide ((unhide HGV13).below hb)
  have HGO14 := hide ((unhide HGO13).below hb)
  have HB14 := hide (fr (unhide HB13) hb)
  clear hb c0 c1 d0 d1 HNH HNW13 HGV13 HGO13 HB13
  obtain ⟨c0, c1⟩ := (unhide HGV14).cells
  go_wp2_with fail
  refine (heldGuest_B aG R tsG _ _ (unhide HRD) (unhide HGO14)).mono ?_
  rintro e w15 ⟨rfl, hb⟩
  have HB15 := hide (fr (unhide HB14) hb)
  clear hb c0 c1
  go_wp2
  go_ret
  exact ⟨rfl, unhide HB15⟩

end Go.Proofs.Ythnpooffhopnkaa

/- The walk of laws.FnExactNewGuest. -/
namespace Go.Proofs.Ythnpooffhopnkaa
open Go.RowKit
set_option linter.unusedVariables false
set_option maxRecDepth 100000

theorem gs_zsNewGuest {w : World} {a : Gs4} {g : Gst} (hc : GsS w a g) : ∀ s ∈ g.shots, s.name.size ≤ maxLen ∧ s.table.length ≤ maxLen := fun s hs => by
  obtain ⟨j, hj, rfl⟩ := List.mem_iff_getElem.1 hs
  obtain ⟨_, _, _, _, _, _, _, _, h1, h2⟩ := hc.s j hj
  exact ⟨h1, h2⟩
theorem wkNewGuest (n : Int) (w : World) :
    Calls Try.prog 4 #[.int .i64 n] w fun e w' => e = .returned (.bool true) ∧ Below w.heap.size w w' :=
  lawGsNewGuest n w (fun W => newGuest_impl n W)

end Go.Proofs.Ythnpooffhopnkaa
