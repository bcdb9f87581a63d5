import Derived.Test.YtjoafbkcnnhdiabRows
import Derived.Test.YtjoafbkcnnhdiabXCountRefsPart1
import Derived.Test.YtjoafbkcnnhdiabXCountRefsPart2
import Derived.Test.YtjoafbkcnnhdiabXCountRefsPart3
import Derived.WalkKit
import Derived.WalkSpells
import Derived.KernelRfl
import Derived.LoopN
import Derived.BigQuiet
import Derived.Deep.QuietTactic
import Derived.Deep.CutRange
import Derived.Deep.RegionWith
import Derived.Laws.BytesArg

/- Contracts of the laws' own copies of images: toImage. (Made ahead of stage 10.) -/
namespace Go.Proofs.Ytjoafbkcnnhdiab
open Go.RowKit
set_option linter.unusedVariables false
set_option maxRecDepth 100000

/-- Rows that were made later lie apart from all. -/
theorem OwnA.append {w w' : World} {B : Nat} {rs qs : List (Value × List Int)} (h : OwnA w B rs) (hb : Below w.heap.size w w') (hv : OwnA w' w.heap.size qs) (hB : B ≤ w.heap.size) : OwnA w' B (rs ++ qs) := by
  refine ⟨fun r hr => ?_, ?_⟩
  · rcases List.mem_append.1 hr with h1 | h1
    · exact (h.own r h1).below hb
    · exact (hv.own r h1).base hB
  · rw [List.pairwise_append]
    refine ⟨h.apart, hv.apart, fun a ha b hb' g hg hg' => ?_⟩
    have h1 := ((h.own a ha).ge g hg).2
    have h2 := ((hv.own b hb').ge g hg').1
    omega
theorem OwnA.perm {w : World} {B : Nat} {rs qs : List (Value × List Int)} (h : OwnA w B rs) (hp : rs.Perm qs) : OwnA w B qs :=
  ⟨fun r hr => h.own r (hp.mem_iff.2 hr), (hp.pairwise_iff (fun {a b} hab g hb ha => hab g ha hb)).1 h.apart⟩
theorem OwnA.one {w : World} {B : Nat} {v : Value} {xs : List Int} (h : OwnN w B v xs) : OwnA w B [(v, xs)] := ⟨fun r hr => by rw [List.mem_singleton] at hr; subst hr; exact h, List.pairwise_singleton _ _⟩
/-- A variable of four lists. -/
def VarM (w : World) (x : Nat) (t : TypeId) (v0 v1 v2 v3 : Value) : Prop := w.heap[x]? = some (.cells #[v0, v1, v2, v3] t (0, 0))
theorem VarM.lt {w : World} {x t : Nat} {v0 v1 v2 v3 : Value} (k : VarM w x t v0 v1 v2 v3) : x < w.heap.size := (Array.getElem?_eq_some_iff.1 k).1
theorem VarM.cells {w : World} {x t : Nat} {v0 v1 v2 v3 : Value} (k : VarM w x t v0 v1 v2 v3) : w.cell? ⟨x, 0, none⟩ = some v0 ∧ w.cell? ⟨x, 1, none⟩ = some v1 ∧ w.cell? ⟨x, 2, none⟩ = some v2 ∧ w.cell? ⟨x, 3, none⟩ = some v3 := ⟨by rw [Joins.cell_of_block k]; rfl, by rw [Joins.cell_of_block k]; rfl, by rw [Joins.cell_of_block k]; rfl, by rw [Joins.cell_of_block k]; rfl⟩
theorem VarM.free {w : World} {x t : Nat} {v0 v1 v2 v3 : Value} (k : VarM w x t v0 v1 v2 v3) : w.frozen? ⟨x, 0, none⟩ = false ∧ w.frozen? ⟨x, 1, none⟩ = false ∧ w.frozen? ⟨x, 2, none⟩ = false ∧ w.frozen? ⟨x, 3, none⟩ = false := ⟨Joins.unfrozen_of_block k 0, Joins.unfrozen_of_block k 1, Joins.unfrozen_of_block k 2, Joins.unfrozen_of_block k 3⟩
theorem VarM.below {w w' : World} {x t : Nat} {v0 v1 v2 v3 : Value} (k : VarM w x t v0 v1 v2 v3) (hb : Below w.heap.size w w') : VarM w' x t v0 v1 v2 v3 := by
  unfold VarM; rw [hb.block x k.lt]; exact k
theorem VarM.new (w : World) (t : TypeId) (v0 v1 v2 v3 : Value) : VarM (w.alloc (.cells #[v0, v1, v2, v3] t)) w.heap.size t v0 v1 v2 v3 := heap_alloc_new w _
theorem VarM.other {w : World} {x t : Nat} {v0 v1 v2 v3 : Value} (h : VarM w x t v0 v1 v2 v3) {p : Addr} (hp : x ≠ p.block) (u : Value) : VarM (w.setCell p u) x t v0 v1 v2 v3 := by
  unfold VarM; rw [Below.heap_setCell w p u x hp]; exact h
theorem VarM.set0 {w : World} {x t : Nat} {v0 v1 v2 v3 : Value} (h : VarM w x t v0 v1 v2 v3) (u : Value) : VarM (w.setCell ⟨x, 0, none⟩ u) x t u v1 v2 v3 := Joins.block_setCell (i := 0) h u
theorem VarM.set1 {w : World} {x t : Nat} {v0 v1 v2 v3 : Value} (h : VarM w x t v0 v1 v2 v3) (u : Value) : VarM (w.setCell ⟨x, 1, none⟩ u) x t v0 u v2 v3 := Joins.block_setCell (i := 1) h u
theorem VarM.set2 {w : World} {x t : Nat} {v0 v1 v2 v3 : Value} (h : VarM w x t v0 v1 v2 v3) (u : Value) : VarM (w.setCell ⟨x, 2, none⟩ u) x t v0 v1 u v3 := Joins.block_setCell (i := 2) h u
theorem VarM.set3 {w : World} {x t : Nat} {v0 v1 v2 v3 : Value} (h : VarM w x t v0 v1 v2 v3) (u : Value) : VarM (w.setCell ⟨x, 3, none⟩ u) x t v0 v1 v2 u := Joins.block_setCell (i := 3) h u
theorem VarM.at {w : World} {x y t : Nat} {v0 v1 v2 v3 : Value} (h : VarM w x t v0 v1 v2 v3) (e : x = y) : VarM w y t v0 v1 v2 v3 := e ▸ h
/-- Three of them, one behind another, as an image's copy has them. -/
structure Var3 (w0 w : World) (a0 a1 a2 a3 v0 v1 v2 v3 : Value) : Prop where
  a : VarM w w0.heap.size 25 a0 a1 a2 a3
  r : VarM w (w0.heap.size + 1) 29 (.slice none 0 0) (.slice none 0 0) (.slice none 0 0) (.slice none 0 0)
  o : VarM w (w0.heap.size + 1 + 1) 29 v0 v1 v2 v3
  b : Below w0.heap.size w0 w
theorem Var3.new (w : World) (a0 a1 a2 a3 : Value) : Var3 w (((w.alloc (.cells #[a0, a1, a2, a3] 25)).alloc (.cells #[.slice none 0 0, .slice none 0 0, .slice none 0 0, .slice none 0 0] 29)).alloc (.cells #[.slice none 0 0, .slice none 0 0, .slice none 0 0, .slice none 0 0] 29)) a0 a1 a2 a3 (.slice none 0 0) (.slice none 0 0) (.slice none 0 0) (.slice none 0 0) :=
  ⟨((VarM.new w _ _ _ _ _).below (Joins.below_alloc1 _ _)).below (Joins.below_alloc1 _ _), ((VarM.new (w.alloc _) _ _ _ _ _).below (Joins.below_alloc1 _ _)).at (by simp), (VarM.new ((w.alloc _).alloc _) _ _ _ _ _).at (by simp), Joins.below_alloc3 w _ _ _⟩
theorem Var3.below {w0 w w' : World} {a0 a1 a2 a3 v0 v1 v2 v3 : Value} (h : Var3 w0 w a0 a1 a2 a3 v0 v1 v2 v3) (hb : Below w.heap.size w w') : Var3 w0 w' a0 a1 a2 a3 v0 v1 v2 v3 := ⟨h.a.below hb, h.r.below hb, h.o.below hb, h.b.trans (hb.mono h.b.size)⟩
theorem Var3.set0 {w0 w : World} {a0 a1 a2 a3 v0 v1 v2 v3 : Value} (h : Var3 w0 w a0 a1 a2 a3 v0 v1 v2 v3) (u : Value) : Var3 w0 (w.setCell ⟨w0.heap.size + 1 + 1, 0, none⟩ u) a0 a1 a2 a3 u v1 v2 v3 := ⟨h.a.other (by simp; omega) u, h.r.other (by simp) u, h.o.set0 u, h.b.setCell (p := ⟨w0.heap.size + 1 + 1, 0, none⟩) (by simp; omega) u⟩
theorem Var3.set1 {w0 w : World} {a0 a1 a2 a3 v0 v1 v2 v3 : Value} (h : Var3 w0 w a0 a1 a2 a3 v0 v1 v2 v3) (u : Value) : Var3 w0 (w.setCell ⟨w0.heap.size + 1 + 1, 1, none⟩ u) a0 a1 a2 a3 v0 u v2 v3 := ⟨h.a.other (by simp; omega) u, h.r.other (by simp) u, h.o.set1 u, h.b.setCell (p := ⟨w0.heap.size + 1 + 1, 1, none⟩) (by simp; omega) u⟩
theorem Var3.set2 {w0 w : World} {a0 a1 a2 a3 v0 v1 v2 v3 : Value} (h : Var3 w0 w a0 a1 a2 a3 v0 v1 v2 v3) (u : Value) : Var3 w0 (w.setCell ⟨w0.heap.size + 1 + 1, 2, none⟩ u) a0 a1 a2 a3 v0 v1 u v3 := ⟨h.a.other (by simp; omega) u, h.r.other (by simp) u, h.o.set2 u, h.b.setCell (p := ⟨w0.heap.size + 1 + 1, 2, none⟩) (by simp; omega) u⟩
theorem Var3.lt {w0 w : World} {a0 a1 a2 a3 v0 v1 v2 v3 : Value} (h : Var3 w0 w a0 a1 a2 a3 v0 v1 v2 v3) : w0.heap.size + 3 ≤ w.heap.size := h.o.lt

set_option maxHeartbeats 3200000 in
theorem toImage_any (a : Im4) (m : Img) (w : World) (hr : m.refs.length ≤ 1048576) (ht : m.table.length ≤ 1048576) (hs : m.snaps.length ≤ 1048576) (hd : m.data.length ≤ 1048576) (hm : ∀ s ∈ m.snaps, s.table.length ≤ 1048576) (hc : ImS w a m) :
    Calls Try.prog 11 #[imV a m] w fun e w' => ∃ a' ts, e = .returned (imV a' m) ∧ OwnIm w' w.heap.size a' m ts ∧ Below w.heap.size w w' := by
  have HV0 := hide (Var3.new w (.slice a.ro m.refs.length a.rc) (.slice a.tq m.table.length a.tc) (.slice a.so m.snaps.length a.sc) (.slice a.dq m.data.length a.dc))
  have HC := hide hc
  have HM := hide hm
  have HR := hide hr
  have HT := hide ht
  have HS := hide hs
  have HD := hide hd
  clear hc hm hr ht hs hd
  go_enter Try.func11, Try.ntmps11
  go_wp2_with fail
  refine (toIntS_any a.ro a.rc m.refs _ (unhide HR) ((unhide HC).below (unhide HV0).b).r).mono ?_
  rintro e w1 ⟨g1, rfl, ho1, hb1⟩
  have HA1 := hide (OwnA.one (B := w.heap.size + 3) ⟨_, _, rfl, (OwnR.of ho1 (fun e => ⟨_, by rw [e]⟩)).base (unhide HV0).lt⟩)
  have HV1 := hide ((unhide HV0).below hb1)
  clear ho1 hb1 HV0
  obtain ⟨ca0p, ca1p, ca2p, ca3p⟩ := (unhide HV1).a.cells
  obtain ⟨cr0p, cr1p, cr2p, cr3p⟩ := (unhide HV1).r.cells
  obtain ⟨co0p, co1p, co2p, co3p⟩ := (unhide HV1).o.cells
  obtain ⟨fo0p, fo1p, fo2p, fo3p⟩ := (unhide HV1).o.free
  obtain ⟨fr0p, fr1p, fr2p, fr3p⟩ := (unhide HV1).r.free
  have HV1s := hide ((unhide HV1).set0 (.slice (some ⟨g1, 0, none⟩) m.refs.length m.refs.length))
  have HA1s := hide ((unhide HA1).setCell (a := ⟨w.heap.size + 1 + 1, 0, none⟩) (by simp) (.slice (some ⟨g1, 0, none⟩) m.refs.length m.refs.length))
  clear HV1 HA1
  go_wp2_with fail
  refine (toIntS_any a.tq a.tc m.table _ (unhide HT) ((unhide HC).below (unhide HV1s).b).t).mono ?_
  rintro e w2 ⟨g2, rfl, ho2, hb2⟩
  have HA2 := hide ((unhide HA1s).append hb2 (OwnA.one ⟨_, _, rfl, OwnR.of ho2 (fun e => ⟨_, by rw [e]⟩)⟩) (unhide HV1s).lt)
  have HV2 := hide ((unhide HV1s).below hb2)
  clear ho2 hb2 HV1s HA1s
  clear ca0p ca1p ca2p ca3p cr0p cr1p cr2p cr3p co0p co1p co2p co3p fo0p fo1p fo2p fo3p fr0p fr1p fr2p fr3p
  obtain ⟨ca0q, ca1q, ca2q, ca3q⟩ := (unhide HV2).a.cells
  obtain ⟨cr0q, cr1q, cr2q, cr3q⟩ := (unhide HV2).r.cells
  obtain ⟨co0q, co1q, co2q, co3q⟩ := (unhide HV2).o.cells
  obtain ⟨fo0q, fo1q, fo2q, fo3q⟩ := (unhide HV2).o.free
  obtain ⟨fr0q, fr1q, fr2q, fr3q⟩ := (unhide HV2).r.free
  have HV2s := hide ((unhide HV2).set1 (.slice (some ⟨g2, 0, none⟩) m.table.length m.table.length))
  have HA2s := hide ((unhide HA2).setCell (a := ⟨w.heap.size + 1 + 1, 1, none⟩) (by simp) (.slice (some ⟨g2, 0, none⟩) m.table.length m.table.length))
  clear HV2 HA2
  go_wp2_with fail
  refine (toSnapS_any a.so a.sc m.snaps _ (unhide HS) (unhide HM) ((unhide HC).below (unhide HV2s).b).s).mono ?_
  rintro e w3 ⟨g3, ts, rfl, hts, ho3, ha3, hb3⟩
  have HA3 := hide ((unhide HA2s).append hb3 ha3 (unhide HV2s).lt)
  have HO3 := hide ((OwnR.of ho3 (fun e => ⟨_, by rw [e]⟩)).base (unhide HV2s).lt)
  have HV3 := hide ((unhide HV2s).below hb3)
  have HTS := hide hts
  clear ho3 hb3 ha3 hts HV2s HA2s
  clear ca0q ca1q ca2q ca3q cr0q cr1q cr2q cr3q co0q co1q co2q co3q fo0q fo1q fo2q fo3q fr0q fr1q fr2q fr3q
  obtain ⟨ca0r, ca1r, ca2r, ca3r⟩ := (unhide HV3).a.cells
  obtain ⟨cr0r, cr1r, cr2r, cr3r⟩ := (unhide HV3).r.cells
  obtain ⟨co0r, co1r, co2r, co3r⟩ := (unhide HV3).o.cells
  obtain ⟨fo0r, fo1r, fo2r, fo3r⟩ := (unhide HV3).o.free
  obtain ⟨fr0r, fr1r, fr2r, fr3r⟩ := (unhide HV3).r.free
  have HV3s := hide ((unhide HV3).set2 (.slice (some ⟨g3, 0, none⟩) m.snaps.length m.snaps.length))
  have HA3s := hide ((unhide HA3).setCell (a := ⟨w.heap.size + 1 + 1, 2, none⟩) (by simp) (.slice (some ⟨g3, 0, none⟩) m.snaps.length m.snaps.length))
  have HO3s := hide ((unhide HO3).setCell (a := ⟨w.heap.size + 1 + 1, 2, none⟩) (by simp) (.slice (some ⟨g3, 0, none⟩) m.snaps.length m.snaps.length))
  clear HV3 HA3 HO3
  go_wp2_with fail
  refine (toIntS_any a.dq a.dc m.data _ (unhide HD) ((unhide HC).below (unhide HV3s).b).d).mono ?_
  rintro e w4 ⟨g4, rfl, ho4, hb4⟩
  have HA4 := hide ((unhide HA3s).append hb4 (OwnA.one ⟨_, _, rfl, OwnR.of ho4 (fun e => ⟨_, by rw [e]⟩)⟩) (unhide HV3s).lt)
  have HO4 := hide ((unhide HO3s).below hb4)
  have HV4 := hide ((unhide HV3s).below hb4)
  clear ho4 hb4 HV3s HA3s HO3s
  clear ca0r ca1r ca2r ca3r cr0r cr1r cr2r cr3r co0r co1r co2r co3r fo0r fo1r fo2r fo3r fr0r fr1r fr2r fr3r
  obtain ⟨ca0s, ca1s, ca2s, ca3s⟩ := (unhide HV4).a.cells
  obtain ⟨cr0s, cr1s, cr2s, cr3s⟩ := (unhide HV4).r.cells
  obtain ⟨co0s, co1s, co2s, co3s⟩ := (unhide HV4).o.cells
  obtain ⟨fo0s, fo1s, fo2s, fo3s⟩ := (unhide HV4).o.free
  obtain ⟨fr0s, fr1s, fr2s, fr3s⟩ := (unhide HV4).r.free
  have HA5 := hide ((((((unhide HA4).setCell (a := ⟨w.heap.size + 1 + 1, 3, none⟩) (by simp; try omega) (.slice (some ⟨g4, 0, none⟩) m.data.length m.data.length)).setCell (a := ⟨w.heap.size + 1, 0, none⟩) (by simp; try omega) (.slice (some ⟨g1, 0, none⟩) m.refs.length m.refs.length)).setCell (a := ⟨w.heap.size + 1, 1, none⟩) (by simp; try omega) (.slice (some ⟨g2, 0, none⟩) m.table.length m.table.length)).setCell (a := ⟨w.heap.size + 1, 2, none⟩) (by simp; try omega) (.slice (some ⟨g3, 0, none⟩) m.snaps.length m.snaps.length)).setCell (a := ⟨w.heap.size + 1, 3, none⟩) (by simp; try omega) (.slice (some ⟨g4, 0, none⟩) m.data.length m.data.length))
  have HO5 := hide ((((((unhide HO4).setCell (a := ⟨w.heap.size + 1 + 1, 3, none⟩) (by simp; try omega) (.slice (some ⟨g4, 0, none⟩) m.data.length m.data.length)).setCell (a := ⟨w.heap.size + 1, 0, none⟩) (by simp; try omega) (.slice (some ⟨g1, 0, none⟩) m.refs.length m.refs.length)).setCell (a := ⟨w.heap.size + 1, 1, none⟩) (by simp; try omega) (.slice (some ⟨g2, 0, none⟩) m.table.length m.table.length)).setCell (a := ⟨w.heap.size + 1, 2, none⟩) (by simp; try omega) (.slice (some ⟨g3, 0, none⟩) m.snaps.length m.snaps.length)).setCell (a := ⟨w.heap.size + 1, 3, none⟩) (by simp; try omega) (.slice (some ⟨g4, 0, none⟩) m.data.length m.data.length))
  have HB5 := hide ((((((unhide HV4).b.setCell (p := ⟨w.heap.size + 1 + 1, 3, none⟩) (by simp; try omega) (.slice (some ⟨g4, 0, none⟩) m.data.length m.data.length)).setCell (p := ⟨w.heap.size + 1, 0, none⟩) (by simp; try omega) (.slice (some ⟨g1, 0, none⟩) m.refs.length m.refs.length)).setCell (p := ⟨w.heap.size + 1, 1, none⟩) (by simp; try omega) (.slice (some ⟨g2, 0, none⟩) m.table.length m.table.length)).setCell (p := ⟨w.heap.size + 1, 2, none⟩) (by simp; try omega) (.slice (some ⟨g3, 0, none⟩) m.snaps.length m.snaps.length)).setCell (p := ⟨w.heap.size + 1, 3, none⟩) (by simp; try omega) (.slice (some ⟨g4, 0, none⟩) m.data.length m.data.length))
  clear HV4 HA4 HO4
  go_wp2
  refine bodyPost_ret (v := imV ⟨some ⟨g1, 0, none⟩, m.refs.length, some ⟨g2, 0, none⟩, m.table.length, some ⟨g3, 0, none⟩, m.snaps.length, some ⟨g4, 0, none⟩, m.data.length⟩ m) (by simp [results, Try.results11, go_sem, cr0s, cr1s, cr2s, cr3s]) rfl ⟨⟨some ⟨g1, 0, none⟩, m.refs.length, some ⟨g2, 0, none⟩, m.table.length, some ⟨g3, 0, none⟩, m.snaps.length, some ⟨g4, 0, none⟩, m.data.length⟩, ts, rfl, ?_, unhide HB5⟩
  refine ⟨(unhide HTS).symm, ((unhide HO5).base (by omega)).toS, ((unhide HA5).base (by omega)).perm ?_⟩
  unfold imRows
  refine (List.Perm.cons _ (List.Perm.cons _ ?_))
  exact List.perm_append_singleton _ _

end Go.Proofs.Ytjoafbkcnnhdiab

/- Contracts of the laws' marks: markText, markDisk, heldDisk. -/
namespace Go.Proofs.Ytjoafbkcnnhdiab
open Go.RowKit
set_option linter.unusedVariables false
set_option maxRecDepth 100000

/-- The decimal digits of a number, as bytes; none of 0. -/
def digsF : Nat → Nat → List UInt8
  | 0, _ => []
  | f + 1, n => if n = 0 then [] else digsF f (n / 10) ++ [UInt8.ofNat (48 + n % 10)]
theorem digsF_more : ∀ (f n g : Nat), n ≤ f → n ≤ g → digsF f n = digsF g n
  | 0, n, g, h, _ => by
    have : n = 0 := by omega
    subst this
    cases g <;> simp [digsF]
  | f + 1, n, 0, _, h => by
    have : n = 0 := by omega
    subst this
    simp [digsF]
  | f + 1, n, g + 1, h1, h2 => by
    by_cases h : n = 0
    · subst h; simp [digsF]
    · rw [digsF, digsF, if_neg h, if_neg h, digsF_more f (n / 10) g (by omega) (by omega)]
def digs (n : Nat) : List UInt8 := digsF n n
theorem digs_zero : digs 0 = [] := rfl
theorem digs_pos {n : Nat} (h : n ≠ 0) : digs n = digs (n / 10) ++ [UInt8.ofNat (48 + n % 10)] := by
  obtain ⟨m, rfl⟩ : ∃ m, n = m + 1 := ⟨n - 1, by omega⟩
  rw [digs, digsF, if_neg h, digs, digsF_more m ((m + 1) / 10) ((m + 1) / 10) (by omega) (Nat.le_refl _)]
theorem ret_str1 {a b : ByteArray} (h : a = b) : Ending.returned (.string a) = .returned (.string b) := by rw [h]
def mtB (k : Nat) : ByteArray := ⟨(109 :: digs k).toArray⟩

set_option maxHeartbeats 1600000 in
theorem markText_any (k : Nat) (w : World) (h0 : 0 < k) (h1 : k ≤ 1073741824) :
    Calls Try.prog 51 #[.int .i64 k] w fun e w' => e = .returned (.string (mtB k)) ∧ Below w.heap.size w w' := by
  go_enter Try.func51, Try.ntmps51
  go_wp2
  go_loopw [0, 3] (fun n o wr => ∃ (m : Nat) (s : ByteArray), n = .int .i64 m ∧ o = .string s ∧ m ≤ k ∧ s.size + m ≤ k ∧ Hid (digs m ++ s.data.toList = digs k) ∧ Hid (Below w.heap.size w wr)) (fun n _ _ => (intOf n).toNat)
  case atStart => exact ⟨k, ⟨#[]⟩, rfl, rfl, Nat.le_refl _, by show 0 + k ≤ k; omega, hide (by simp), hide (Below.refl _ _)⟩
  case round =>
    obtain ⟨m, s, rfl, rfl, hm, hs, HD, HB⟩ := hrel
    by_cases hp : 0 < m
    · obtain ⟨d1, Hd1, hsz, hcv⟩ : ∃ d1 : ByteArray, Hid (d1.data.toList = [UInt8.ofNat (48 + m % 10)]) ∧ d1.size = 1 ∧ (convert 80 9 (.slice (some ⟨wr.heap.size, 0, none⟩) 1 1)).run Try.prog (wr.alloc (.cells #[.int .u8 (48 + (m : Int) % 10)] 5)) = .ok (.string d1) (wr.alloc (.cells #[.int .u8 (48 + (m : Int) % 10)] 5)) := by
        refine ⟨_, ?_, ?_, run_convert_bytes_arg _ 80 5 Try.underlying80 Try.underlying5 wr.heap.size 0 1 1 [48 + (m : Int) % 10] rfl ?_ 9 Try.underlying9⟩
        · have e : (48 + (m : Int) % 10).toNat = 48 + m % 10 := by omega
          exact hide (by simp [strOfNums, e])
        · simp [strOfNums, ByteArray.size]
        · intro i hi
          have : i = 0 := by omega
          subst this
          simp [go_sem]
      have HBA := hide (fun o => (unhide HB).alloc (unhide HB).size o)
      have hsum : (d1 ++ s).size = 1 + s.size := by rw [ByteArray.size_append, hsz]
      have hlist : (d1 ++ s).data.toList = d1.data.toList ++ s.data.toList := by simp
      have HSUM := hide hsum
      have HLIST := hide hlist
      clear hsum hlist
      go_wp2
      go_roundw
      case rel =>
        refine ⟨m / 10, d1 ++ s, ?_, rfl, by omega, by rw [unhide HSUM]; omega, hide ?_, hide (unhide HBA _)⟩
        · go_num
        · rw [unhide HLIST, unhide Hd1, ← List.append_assoc, ← digs_pos (by omega)]
          exact unhide HD
      case measure => simp [intOf]; omega
    · have H : Hid (({ data := #[109] } : ByteArray) ++ s = mtB k) := by
        have hm0 : m = 0 := by omega
        subst hm0
        have := unhide HD
        rw [digs_zero, List.nil_append] at this
        refine hide ?_
        unfold mtB
        rw [← this]
        apply ByteArray.ext
        simp
      go_wp2
      go_ret
      exact ⟨ret_str1 (unhide H), unhide HB⟩

/-- The marks of a row of texts, of a row of writes. -/
def mkS (k n : Nat) : List ByteArray := (List.range n).map fun i => mtB (k + i)
def mkI (k n : Nat) : List Wr := (List.range n).map fun i => ⟨(k + 3 * i : Nat), (k + 3 * i + 1 : Nat), mtB (k + 3 * i + 2)⟩
theorem mkS_length (k n : Nat) : (mkS k n).length = n := by simp [mkS]
theorem mkI_length (k n : Nat) : (mkI k n).length = n := by simp [mkI]
theorem mkS_get {k n j : Nat} (h : j < n) : (strV (mkS k n))[j]? = some (.string (mtB (k + j))) := by simp [strV, mkS, h]
theorem mkI_get {k n j : Nat} (h : j < (mkI k n).length) : (mkI k n)[j] = ⟨(k + 3 * j : Nat), (k + 3 * j + 1 : Nat), mtB (k + 3 * j + 2)⟩ := by simp [mkI]

set_option maxHeartbeats 1600000 in
theorem markStringS_any (v : Value) (n k : Nat) (xs : List Value) (B : Nat) (w : World) (hn : n ≤ 4194304) (hk0 : 0 < k) (hk1 : k ≤ 268435456) (ho : OwnR w B 9 1 v n xs) :
    Calls Try.prog 21 #[v, .int .i64 k] w fun e w' => e = .returned (.int .i64 ((k + n : Nat) : Int)) ∧ OwnR w' B 9 1 v n (strV (mkS k n)) ∧ Keep (Own v) w w' := by
  rcases ho with ⟨rfl, rfl, ao, rfl⟩ | ⟨hpos, ho'⟩
  · go_enter Try.func21, Try.ntmps21
    go_wp2
    refine wp_loop_rounds 1 ?_
    rw [rounds_succ]
    go_wp2
    go_ret
    refine ⟨ret_int (by simp), .inl ⟨rfl, rfl, ao, rfl⟩, Keep.refl _ _⟩
  · obtain ⟨g, cap, cur, rfl, _, _⟩ := own_form hpos ho'
    have HO := hide ho'
    clear ho'
    go_enter Try.func21, Try.ntmps21
    go_wp2
    go_loopw [1, 5] (fun kk i wr => ∃ (j : Nat) (ys : List Value), j ≤ n ∧ i = .int .i64 j ∧ kk = .int .i64 ((k + j : Nat) : Int) ∧ Hid (ys.length = n) ∧ Hid (ys.take j = (strV (mkS k n)).take j) ∧ Hid (wr.ownsRow B 9 1 (.slice (some ⟨g, 0, none⟩) n cap) n ys) ∧ Hid (Keep (Own (.slice (some ⟨g, 0, none⟩) n cap)) w wr)) (fun _ i _ => n - (intOf i).toNat)
    case atStart => exact ⟨0, xs, Nat.zero_le _, rfl, by simp, hide (by rw [(unhide HO).1]; omega), hide (by simp), HO, hide (Keep.refl _ _)⟩
    case round =>
      obtain ⟨j, ys, hj, rfl, rfl, HL, HT, HO, HK⟩ := hrel
      by_cases hlt : j < n
      · go_wp2_with fail
        refine (markText_any (k + j) _ (by omega) (by omega)).mono ?_
        rintro e w2 ⟨rfl, hb2⟩
        have HO2 := hide (own_below (unhide HO) hb2)
        have HK2 := hide ((unhide HK).trans (Keep.of_below hb2))
        clear hb2
        have hfr := (unhide HO2).frozenAt j
        obtain ⟨x0, hcx⟩ : ∃ x, w2.cell? ⟨g, j, none⟩ = some x := ⟨_, ((unhide HO2).cellAt j (by omega)).trans (List.getElem?_eq_getElem (by rw [unhide HL]; exact hlt))⟩
        have HST := hide ((unhide HO2).stored j (.string (mtB (k + j))))
        have HKS := hide ((unhide HK2).setCell (p := ⟨g, j, none⟩) (own_of hpos rfl) (.string (mtB (k + j))))
        go_wp2
        go_roundw
        case rel => exact ⟨j + 1, ys.set j (.string (mtB (k + j))), by omega, by go_num, by go_num, hide (by rw [List.length_set]; exact unhide HL), hide (set_take' (by rw [unhide HL, strV_length, mkS_length]) (mkS_get hlt) (unhide HT)), hide (unhide HST).1, HKS⟩
        case measure => simp [intOf]; omega
      · go_wp2
        go_ret
        have hjn : j = n := by omega
        subst hjn
        have hxs : ys = strV (mkS k j) := by
          have := unhide HT
          rwa [List.take_of_length_le (by rw [unhide HL]; exact Nat.le_refl _), List.take_of_length_le (by rw [strV_length, mkS_length]; exact Nat.le_refl _)] at this
        subst hxs
        exact ⟨rfl, .inr ⟨hpos, unhide HO⟩, unhide HK⟩

set_option maxHeartbeats 1600000 in
theorem heldStringS_any (v : Value) (n k : Nat) (B : Nat) (w : World) (hn : n ≤ 4194304) (hk0 : 0 < k) (hk1 : k ≤ 268435456) (ho : OwnR w B 9 1 v n (strV (mkS k n))) :
    Calls Try.prog 22 #[v, .int .i64 k] w fun e w' => e = .returned (.int .i64 ((k + n : Nat) : Int)) ∧ Below w.heap.size w w' := by
  rcases ho with ⟨rfl, _, ao, rfl⟩ | ⟨hpos, ho'⟩
  · go_enter Try.func22, Try.ntmps22
    go_wp2
    refine wp_loop_rounds 1 ?_
    rw [rounds_succ]
    go_wp2
    go_ret
    exact ⟨ret_int (by simp), Below.refl _ _⟩
  · obtain ⟨g, cap, cur, rfl, _, _⟩ := own_form hpos ho'
    have HO := hide ho'
    clear ho'
    go_enter Try.func22, Try.ntmps22
    go_wp2
    go_loopw [1, 5] (fun kk i wr => ∃ (j : Nat), j ≤ n ∧ i = .int .i64 j ∧ kk = .int .i64 ((k + j : Nat) : Int) ∧ Hid (Below w.heap.size w wr)) (fun _ i _ => n - (intOf i).toNat)
    case atStart => exact ⟨0, Nat.zero_le _, rfl, by simp, hide (Below.refl _ _)⟩
    case round =>
      obtain ⟨j, hj, rfl, rfl, HB⟩ := hrel
      by_cases hlt : j < n
      · have hcx : wr.cell? ⟨g, j, none⟩ = some (.string (mtB (k + j))) := ((own_below (unhide HO) (unhide HB)).cellAt j (by omega)).trans (mkS_get hlt)
        have hgl : g < wr.heap.size := World.block_lt_of_cell? _ _ hcx
        go_wp2
        go_region_with (go_at_call 51; refine (markText_any (k + j) _ (by omega) (by omega)).mono ?_; rintro e w2 ⟨rfl, hb2⟩; have hcy := (hb2.cell (p := ⟨g, j, none⟩) hgl).trans hcx)
        all_goals
          have HB2 : Hid (Below w.heap.size w w2) := hide (Below.trans (by repeat (first | exact unhide HB | apply Below.drew)) (hb2.mono (unhide HB).size))
          clear hb2 hcy hcx hgl
          go_wp2
          go_roundw
          case rel => exact ⟨j + 1, by omega, by go_num, by go_num, HB2⟩
          case measure => simp [intOf]; omega
      · go_wp2
        go_ret
        have hjn : j = n := by omega
        subst hjn
        exact ⟨rfl, unhide HB⟩

theorem mk_take {ys : List Value} {k n j : Nat} (hj : j < n) (hl : ys.length = n * 3) (h : ys.take (j * 3) = (ioV (mkI k n)).take (j * 3)) :
    (((ys.set (j * 3) (.int .i64 ((k : Int) + 3 * (j : Int)))).set (j * 3 + 1) (.int .i64 ((k : Int) + 3 * (j : Int) + 1))).set (j * 3 + 2) (.string (mtB (k + 3 * j + 2)))).take ((j + 1) * 3) = (ioV (mkI k n)).take ((j + 1) * 3) := by
  have hj' : j < (mkI k n).length := by rw [mkI_length]; exact hj
  have e := io_take hj' (by rw [mkI_length]; exact hl) h
  have e0 : (mkI k n)[j].host = (k : Int) + 3 * (j : Int) := by rw [mkI_get hj']; simp
  have e1 : (mkI k n)[j].at_ = (k : Int) + 3 * (j : Int) + 1 := by rw [mkI_get hj']; simp
  have e2 : (mkI k n)[j].data = mtB (k + 3 * j + 2) := by rw [mkI_get hj']
  rw [e0, e1, e2] at e
  exact e

theorem mkI_cells {k n j : Nat} (hj : j < n) : (ioV (mkI k n))[j * 3]? = some (.int .i64 ((k : Int) + 3 * (j : Int))) ∧ (ioV (mkI k n))[j * 3 + 1]? = some (.int .i64 ((k : Int) + 3 * (j : Int) + 1)) ∧ (ioV (mkI k n))[j * 3 + 2]? = some (.string (mtB (k + 3 * j + 2))) := by
  have hj' : j < (mkI k n).length := by rw [mkI_length]; exact hj
  have e := ioV_get hj'
  have e0 : (mkI k n)[j].host = (k : Int) + 3 * (j : Int) := by rw [mkI_get hj']; simp
  have e1 : (mkI k n)[j].at_ = (k : Int) + 3 * (j : Int) + 1 := by rw [mkI_get hj']; simp
  have e2 : (mkI k n)[j].data = mtB (k + 3 * j + 2) := by rw [mkI_get hj']
  rw [e0, e1, e2] at e
  exact e

end Go.Proofs.Ytjoafbkcnnhdiab

/- Contracts of the laws' marks on lists of numbers: markIntS, heldIntS. -/
namespace Go.Proofs.Ytjoafbkcnnhdiab
open Go.RowKit
set_option linter.unusedVariables false
set_option maxRecDepth 100000

/-- The marks of a row of numbers. -/
def mkN (k n : Nat) : List Int := (List.range n).map fun i => ((k + i : Nat) : Int)
theorem mkN_length (k n : Nat) : (mkN k n).length = n := by simp [mkN]
theorem mkN_get {k n j : Nat} (h : j < n) : (intV (mkN k n))[j]? = some (.int .i64 ((k + j : Nat) : Int)) := by simp [intV, mkN, h]

set_option maxHeartbeats 1600000 in
theorem markIntS_any (v : Value) (n k : Nat) (xs : List Value) (B : Nat) (w : World) (hn : n ≤ 4194304) (hk0 : 0 < k) (hk1 : k ≤ 268435456) (ho : OwnR w B 3 1 v n xs) :
    Calls Try.prog 26 #[v, .int .i64 k] w fun e w' => e = .returned (.int .i64 ((k + n : Nat) : Int)) ∧ OwnR w' B 3 1 v n (intV (mkN k n)) ∧ Keep (Own v) w w' := by
  rcases ho with ⟨rfl, rfl, ao, rfl⟩ | ⟨hpos, ho'⟩
  · go_enter Try.func26, Try.ntmps26
    go_wp2
    refine wp_loop_rounds 1 ?_
    rw [rounds_succ]
    go_wp2
    go_ret
    refine ⟨ret_int (by simp), .inl ⟨rfl, rfl, ao, rfl⟩, Keep.refl _ _⟩
  · obtain ⟨g, cap, cur, rfl, _, _⟩ := own_form hpos ho'
    have HO := hide ho'
    clear ho'
    go_enter Try.func26, Try.ntmps26
    go_wp2
    go_loopw [1, 5] (fun kk i wr => ∃ (j : Nat) (ys : List Value), j ≤ n ∧ i = .int .i64 j ∧ kk = .int .i64 ((k + j : Nat) : Int) ∧ Hid (ys.length = n) ∧ Hid (ys.take j = (intV (mkN k n)).take j) ∧ Hid (wr.ownsRow B 3 1 (.slice (some ⟨g, 0, none⟩) n cap) n ys) ∧ Hid (Keep (Own (.slice (some ⟨g, 0, none⟩) n cap)) w wr)) (fun _ i _ => n - (intOf i).toNat)
    case atStart => exact ⟨0, xs, Nat.zero_le _, rfl, by simp, hide (by rw [(unhide HO).1]; omega), hide (by simp), HO, hide (Keep.refl _ _)⟩
    case round =>
      obtain ⟨j, ys, hj, rfl, rfl, HL, HT, HO, HK⟩ := hrel
      by_cases hlt : j < n
      · have hfr := (unhide HO).frozenAt j
        obtain ⟨x0, hcx⟩ : ∃ x, wr.cell? ⟨g, j, none⟩ = some x := ⟨_, ((unhide HO).cellAt j (by omega)).trans (List.getElem?_eq_getElem (by rw [unhide HL]; exact hlt))⟩
        have HST := hide ((unhide HO).stored j (.int .i64 ((k + j : Nat) : Int)))
        have HKS := hide ((unhide HK).setCell (p := ⟨g, j, none⟩) (own_of hpos rfl) (.int .i64 ((k + j : Nat) : Int)))
        go_wp2
        go_roundw
        case rel => exact ⟨j + 1, ys.set j (.int .i64 ((k + j : Nat) : Int)), by omega, by go_num, by go_num, hide (by rw [List.length_set]; exact unhide HL), hide (set_take' (by rw [unhide HL, intV_length, mkN_length]) (mkN_get hlt) (unhide HT)), hide (unhide HST).1, HKS⟩
        case measure => simp [intOf]; omega
      · go_wp2
        go_ret
        have hjn : j = n := by omega
        subst hjn
        have hxs : ys = intV (mkN k j) := by
          have := unhide HT
          rwa [List.take_of_length_le (by rw [unhide HL]; exact Nat.le_refl _), List.take_of_length_le (by rw [intV_length, mkN_length]; exact Nat.le_refl _)] at this
        subst hxs
        exact ⟨rfl, .inr ⟨hpos, unhide HO⟩, unhide HK⟩

set_option maxHeartbeats 1600000 in
theorem heldIntS_any (v : Value) (n k : Nat) (B : Nat) (w : World) (hn : n ≤ 4194304) (hk0 : 0 < k) (hk1 : k ≤ 268435456) (ho : OwnR w B 3 1 v n (intV (mkN k n))) :
    Calls Try.prog 27 #[v, .int .i64 k] w fun e w' => e = .returned (.int .i64 ((k + n : Nat) : Int)) ∧ Below w.heap.size w w' := by
  rcases ho with ⟨rfl, _, ao, rfl⟩ | ⟨hpos, ho'⟩
  · go_enter Try.func27, Try.ntmps27
    go_wp2
    refine wp_loop_rounds 1 ?_
    rw [rounds_succ]
    go_wp2
    go_ret
    exact ⟨ret_int (by simp), Below.refl _ _⟩
  · obtain ⟨g, cap, cur, rfl, _, _⟩ := own_form hpos ho'
    have HO := hide ho'
    clear ho'
    go_enter Try.func27, Try.ntmps27
    go_wp2
    go_loopw [1, 5] (fun kk i wr => ∃ (j : Nat), j ≤ n ∧ i = .int .i64 j ∧ kk = .int .i64 ((k + j : Nat) : Int) ∧ Hid (Below w.heap.size w wr)) (fun _ i _ => n - (intOf i).toNat)
    case atStart => exact ⟨0, Nat.zero_le _, rfl, by simp, hide (Below.refl _ _)⟩
    case round =>
      obtain ⟨j, hj, rfl, rfl, HB⟩ := hrel
      by_cases hlt : j < n
      · have hcx : wr.cell? ⟨g, j, none⟩ = some (.int .i64 ((k + j : Nat) : Int)) := ((own_below (unhide HO) (unhide HB)).cellAt j (by omega)).trans (mkN_get hlt)
        go_wp2
        go_roundw
        case rel => exact ⟨j + 1, by omega, by go_num, by go_num, HB⟩
        case measure => simp [intOf]; omega
      · go_wp2
        go_ret
        have hjn : j = n := by omega
        subst hjn
        exact ⟨rfl, unhide HB⟩

end Go.Proofs.Ytjoafbkcnnhdiab

/- The laws' marks on images: what they are, plainly. (Made ahead of stage 10.) -/
namespace Go.Proofs.Ytjoafbkcnnhdiab
open Go.RowKit
set_option linter.unusedVariables false
set_option maxRecDepth 100000

/-- How many marks a row of snapshots takes. -/
def snK (ss : List Snp) : Nat := (ss.map (fun s => 1 + s.table.length)).sum
theorem snK_take {ss : List Snp} {k : Nat} (h : k < ss.length) : snK (ss.take (k + 1)) = snK (ss.take k) + (1 + ss[k].table.length) := by
  unfold snK
  rw [List.take_succ_eq_append_getElem h, List.map_append, List.sum_append]; simp
theorem snK_le (ss : List Snp) (n : Nat) : snK (ss.take n) ≤ snK ss := by
  have h2 : snK ss = snK (ss.take n) + snK (ss.drop n) := by
    unfold snK
    rw [← List.sum_append, ← List.map_append, List.take_append_drop]
  omega
/-- The marks of one, and of a row. -/
def mk1 (k : Nat) (s : Snp) : Snp := ⟨mtB k, mkN (k + 1) s.table.length⟩
def mkSn : Nat → List Snp → List Snp
  | _, [] => []
  | k, s :: ss => mk1 k s :: mkSn (k + (1 + s.table.length)) ss
theorem mkSn_length : ∀ (k : Nat) (ss : List Snp), (mkSn k ss).length = ss.length
  | _, [] => rfl
  | k, s :: ss => by rw [mkSn, List.length_cons, mkSn_length, List.length_cons]
theorem mkSn_snoc : ∀ (k : Nat) (ss : List Snp) (s : Snp), mkSn k (ss ++ [s]) = mkSn k ss ++ [mk1 (k + snK ss) s]
  | k, [], s => rfl
  | k, x :: ss, s => by
    rw [List.cons_append, mkSn, mkSn_snoc, mkSn, List.cons_append]
    congr 4
    simp only [snK, List.map_cons, List.sum_cons]; omega
/-- As far as its first ones have been marked. -/
def snMid (k : Nat) (ss : List Snp) (j : Nat) : List Snp := mkSn k (ss.take j) ++ ss.drop j
theorem snMid_zero (k : Nat) (ss : List Snp) : snMid k ss 0 = ss := by simp [snMid, mkSn]
theorem snMid_all (k : Nat) (ss : List Snp) : snMid k ss ss.length = mkSn k ss := by simp [snMid]
theorem snMid_length (k : Nat) (ss : List Snp) (j : Nat) : (snMid k ss j).length = ss.length := by
  rw [snMid, List.length_append, mkSn_length, List.length_take, List.length_drop]; omega
theorem snMid_get {k : Nat} {ss : List Snp} {j : Nat} (h : j < ss.length) : (snMid k ss j)[j]? = some ss[j] := by
  rw [snMid, List.getElem?_append_right (by rw [mkSn_length, List.length_take]; omega), mkSn_length, List.length_take, Nat.min_eq_left (by omega), Nat.sub_self, List.getElem?_drop, Nat.add_zero, List.getElem?_eq_getElem h]
theorem snMid_succ {k : Nat} {ss : List Snp} {j : Nat} (h : j < ss.length) : (snMid k ss j).set j (mk1 (k + snK (ss.take j)) ss[j]) = snMid k ss (j + 1) := by
  rw [snMid, snMid, List.take_succ_eq_append_getElem h, mkSn_snoc, List.set_append_right _ _ (by rw [mkSn_length, List.length_take]; omega), mkSn_length, List.length_take, Nat.min_eq_left (by omega), Nat.sub_self, List.drop_eq_getElem_cons h, List.set_cons_zero, List.append_assoc]
  rfl
theorem snC_get : ∀ {cs : List Snp} {ts : List Value} {j : Nat} {s : Snp} {t : Value}, cs[j]? = some s → ts[j]? = some t → (snC cs ts)[j * 2]? = some (.string s.name) ∧ (snC cs ts)[j * 2 + 1]? = some t
  | [], _, _, _, _, h, _ => by simp at h
  | _ :: _, [], _, _, _, _, h => by simp at h
  | c :: cs, b :: ts, 0, s, t, h, h' => by
    simp at h h'
    subst h; subst h'
    exact ⟨rfl, rfl⟩
  | c :: cs, b :: ts, j + 1, s, t, h, h' => by
    rw [List.getElem?_cons_succ] at h h'
    have := snC_get h h'
    rw [show (j + 1) * 2 = j * 2 + 1 + 1 by omega]
    exact this
theorem snC_set : ∀ (cs : List Snp) (ts : List Value) (j : Nat) (s : Snp), j < ts.length → snC (cs.set j s) ts = (snC cs ts).set (j * 2) (.string s.name)
  | [], [], _, _, _ => rfl
  | [], _ :: _, _, _, _ => rfl
  | c :: cs, [], j, s, h => by simp at h
  | c :: cs, b :: ts, 0, s, _ => rfl
  | c :: cs, b :: ts, j + 1, s, h => by
    rw [List.set_cons_succ, snC, snC, snC_set cs ts j s (by simpa using h), show (j + 1) * 2 = j * 2 + 1 + 1 by omega]
    rfl
theorem zip_set1 : ∀ (ts : List Value) (cs : List Snp) (j : Nat) (s : Snp) (t : Value), ts[j]? = some t → ts.zip ((cs.set j s).map (·.table)) = (ts.zip (cs.map (·.table))).set j (t, s.table)
  | [], cs, j, s, t, h => by simp at h
  | b :: ts, [], j, s, t, h => by simp
  | b :: ts, c :: cs, 0, s, t, h => by
    simp at h
    subst h
    rfl
  | b :: ts, c :: cs, j + 1, s, t, h => by
    rw [List.getElem?_cons_succ] at h
    have := zip_set1 ts cs j s t h
    rw [List.set_cons_succ, List.map_cons, List.zip_cons_cons, this]
    rfl
theorem OwnA.turn {w w' : World} {B : Nat} {rs : List (Value × List Int)} {j : Nat} {v : Value} {xs ys : List Int} (h : OwnA w B rs) (hj : rs[j]? = some (v, xs)) (hk : Keep (Own v) w w') (hn : OwnN w' B v ys) : OwnA w' B (rs.set j (v, ys)) := by
  obtain ⟨hjl, hje⟩ := List.getElem?_eq_some_iff.1 hj
  refine ⟨fun r hr => ?_, ?_⟩
  · obtain ⟨i, hi, rfl⟩ := List.mem_iff_getElem.1 hr
    rw [List.length_set] at hi
    rw [List.getElem_set]
    split
    · exact hn
    · rename_i hne
      refine (h.own _ (List.getElem_mem hi)).keep hk (fun g hg hv => ?_)
      have hp := List.pairwise_iff_getElem.1 h.apart
      rcases Nat.lt_or_gt_of_ne hne with hlt | hlt
      · exact hp j i hjl hi hlt g (by rw [hje]; exact hv) hg
      · exact hp i j hi hjl hlt g hg (by rw [hje]; exact hv)
  · have e : (rs.set j (v, ys)).map Prod.fst = rs.map Prod.fst := by
      rw [List.map_set]
      have : (rs.map Prod.fst)[j]'(by simpa using hjl) = v := by rw [List.getElem_map, hje]
      conv => lhs; rw [show (v, ys).1 = (rs.map Prod.fst)[j]'(by simpa using hjl) from this.symm]
      rw [List.set_getElem_self]
    have hp := List.pairwise_map (f := Prod.fst) (R := fun a b => ∀ g, Own a g → ¬ Own b g) |>.2 h.apart
    rw [← e] at hp
    exact List.pairwise_map.1 hp
theorem OwnR.row {w : World} {B e size n : Nat} {v : Value} {xs : List Value} (h : OwnR w B e size v n xs) (hp : 0 < n) : w.ownsRow B e size v n xs := by
  rcases h with ⟨h0, _⟩ | ⟨_, h⟩
  · omega
  · exact h

end Go.Proofs.Ytjoafbkcnnhdiab

/- Contracts of the laws' marks on images: markSnapS, heldSnapS. (Made ahead of stage 10.) -/
namespace Go.Proofs.Ytjoafbkcnnhdiab
open Go.RowKit
set_option linter.unusedVariables false
set_option maxRecDepth 100000

set_option maxHeartbeats 3200000 in
theorem markSnapS_any (v : Value) (k B : Nat) (ss : List Snp) (ts : List Value) (w : World) (hn : ss.length ≤ 4194304) (hm : ∀ s ∈ ss, s.table.length ≤ 4194304) (hk0 : 0 < k) (hk1 : k + snK ss ≤ 268435456) (hl : ss.length = ts.length)
    (ho : OwnS w B 61 2 v ss.length (snC ss ts)) (ha : OwnA w B (ts.zip (ss.map (·.table)))) :
    Calls Try.prog 44 #[v, .int .i64 k] w fun e w' => e = .returned (.int .i64 ((k + snK ss : Nat) : Int)) ∧ OwnS w' B 61 2 v ss.length (snC (mkSn k ss) ts) ∧ OwnA w' B (ts.zip ((mkSn k ss).map (·.table))) ∧ Keep (fun g => Own v g ∨ ∃ t ∈ ts, Own t g) w w' := by
  rcases Nat.eq_zero_or_pos ss.length with h0 | hpos
  · have e0 : ss = [] := List.eq_nil_of_length_eq_zero h0
    subst e0
    rcases ho with ⟨_, _, ao, c0, rfl⟩ | ⟨h, _⟩
    · go_enter Try.func44, Try.ntmps44
      go_wp2
      refine wp_loop_rounds 1 ?_
      rw [rounds_succ]
      go_wp2
      go_ret
      exact ⟨ret_int (by simp [snK]), .inl ⟨rfl, by simp [mkSn, snC], ao, c0, rfl⟩, ha, Keep.refl _ _⟩
    · simp at h
  · obtain ⟨g, cap, cur, rfl, _, _⟩ := own_form hpos (ho.row hpos)
    have HO := hide (ho.toR (fun h => absurd h (by omega)))
    have HA := hide ha
    have HM := hide hm
    have HK1 := hide hk1
    have HLL := hide hl
    clear ho ha hm hk1 hl
    go_enter Try.func44, Try.ntmps44
    go_wp2
    go_loopw [1, 5] (fun kk i wr => ∃ (j : Nat), j ≤ ss.length ∧ i = .int .i64 j ∧ kk = .int .i64 ((k + snK (ss.take j) : Nat) : Int) ∧ Hid (OwnR wr B 61 2 (.slice (some ⟨g, 0, none⟩) ss.length cap) ss.length (snC (snMid k ss j) ts)) ∧ Hid (OwnA wr B (ts.zip ((snMid k ss j).map (·.table)))) ∧ Hid (Keep (fun x => Own (.slice (some ⟨g, 0, none⟩) ss.length cap) x ∨ ∃ t ∈ ts, Own t x) w wr)) (fun _ i _ => ss.length - (intOf i).toNat)
    case atStart => exact ⟨0, Nat.zero_le _, rfl, by simp [snK], by rw [snMid_zero]; exact HO, by rw [snMid_zero]; exact HA, hide (Keep.refl _ _)⟩
    case round =>
      obtain ⟨j, hj, rfl, rfl, HO, HA, HK⟩ := hrel
      by_cases hlt : j < ss.length
      · have HJ := hide (snK_take hlt)
        have HJL := hide (snK_le ss (j + 1))
        obtain ⟨q, hq, hq0, hqb⟩ : ∃ q : Nat, q = k + snK (ss.take j) ∧ 0 < q ∧ q + 1 + ss[j].table.length ≤ 268435456 := ⟨_, rfl, by omega, by have a := unhide HJ; have b := unhide HJL; have c := unhide HK1; omega⟩
        rw [← hq]
        have HQ := hide hq
        clear hq
        have hlj : j < ts.length := by rw [← unhide HLL]; exact hlt
        have hmj : ss[j].table.length ≤ 4194304 := unhide HM _ (List.getElem_mem hlt)
        have HRJ := hide (show (ts.zip ((snMid k ss j).map (·.table)))[j]? = some (ts[j], ss[j].table) by
          rw [List.getElem?_zip_eq_some]
          exact ⟨List.getElem?_eq_getElem hlj, by rw [List.getElem?_map, snMid_get hlt]; rfl⟩)
        go_wp2_with fail
        refine (markText_any q _ (by omega) (by omega)).mono ?_
        rintro e w2 ⟨rfl, hb2⟩
        have HO2 := hide ((unhide HO).below hb2)
        have HA2 := hide ((unhide HA).below hb2)
        have HK2 := hide ((unhide HK).trans (Keep.of_below hb2))
        clear hb2
        obtain ⟨qo, qa, hts, hrow⟩ := (unhide HA2).own _ (List.mem_of_getElem? (unhide HRJ))
        simp only at hts
        have HTS := hide hts
        have hcell := ((unhide HO2).row hpos).cellAt
        have hgs := snC_get (snMid_get (k := k) hlt) (List.getElem?_eq_getElem hlj)
        have hx0 : w2.cell? ⟨g, j * 2, none⟩ = some (.string ss[j].name) := (hcell (j * 2) (by omega)).trans hgs.1
        have hx1 : w2.cell? ⟨g, j * 2 + 1, none⟩ = some (.slice qo ss[j].table.length qa) := (hcell (j * 2 + 1) (by omega)).trans (by rw [hgs.2, hts])
        have hf0 := ((unhide HO2).row hpos).frozenAt (j * 2)
        clear hcell hgs hts hrow
        have HOS : Hid (OwnR (w2.setCell ⟨g, j * 2, none⟩ (.string (mtB q))) B 61 2 (.slice (some ⟨g, 0, none⟩) ss.length cap) ss.length (snC (snMid k ss (j + 1)) ts)) := hide (by
          rw [← snMid_succ hlt, snC_set _ _ _ _ hlj, ← unhide HQ]
          exact .inr ⟨hpos, (((unhide HO2).row hpos).stored (j * 2) (.string (mtB q))).1⟩)
        have HAS := hide ((unhide HA2).keep (S := fun x => x = g) ((Keep.refl (fun x => x = g) w2).setCell (p := ⟨g, j * 2, none⟩) rfl (.string (mtB q))) (fun r hr x hx he => by
          obtain ⟨_, _, e, hr'⟩ := (unhide HA2).own r hr
          rw [e] at hx
          exact own_apart (unhide HO2) hr' (by decide) x (own_of hpos he.symm) hx))
        have HKS := hide ((unhide HK2).setCell (p := ⟨g, j * 2, none⟩) (.inl (own_of hpos rfl)) (.string (mtB q)))
        obtain ⟨ro, rc, hre, hrow⟩ := (unhide HAS).own _ (List.mem_of_getElem? (unhide HRJ))
        simp only at hre hrow
        have hee : Value.slice qo ss[j].table.length qa = .slice ro ss[j].table.length rc := (unhide HTS).symm.trans hre
        rw [← hee] at hrow
        have HW := hide hrow
        clear hrow hre hee
        go_wp2_with fail
        refine (markIntS_any (.slice qo ss[j].table.length qa) ss[j].table.length (q + 1) _ B _ hmj (by omega) (by omega) (unhide HW)).mono ?_
        rintro e w4 ⟨rfl, ho4, hk4⟩
        have HA4 : Hid (OwnA w4 B (ts.zip ((snMid k ss (j + 1)).map (·.table)))) := hide (by
          rw [← snMid_succ hlt, zip_set1 _ _ _ _ _ (List.getElem?_eq_getElem hlj), ← unhide HQ]
          refine (unhide HAS).turn (unhide HRJ) (by rw [unhide HTS]; exact hk4) ?_
          rw [unhide HTS]
          exact ⟨qo, qa, by simp [mk1, mkN_length], by simpa only [mk1, mkN_length] using ho4⟩)
        have HO4 := hide ((unhide HOS).keep hk4 (own_apart (unhide HOS) (unhide HW) (by decide)))
        have HK4 := hide ((unhide HKS).trans (hk4.mono (fun x hx => Or.inr ⟨ts[j], List.getElem_mem hlj, by rw [unhide HTS]; exact hx⟩)))
        have hqn : q + 1 + ss[j].table.length = k + snK (ss.take (j + 1)) := by rw [unhide HJ, unhide HQ]; omega
        clear ho4 hk4
        go_wp2
        go_roundw
        case rel => exact ⟨j + 1, by omega, by go_num, by go_num, HO4, HA4, HK4⟩
        case measure => simp [intOf]; omega
      · have hjn : j = ss.length := by omega
        subst hjn
        have ho := unhide HO
        have ha := unhide HA
        rw [snMid_all] at ho ha
        have HO' := hide ho
        have HA' := hide ha
        have he : snK (ss.take ss.length) = snK ss := by rw [List.take_length]
        clear ho ha
        go_wp2
        go_ret
        exact ⟨by rw [he]; rfl, (unhide HO').toS, unhide HA', unhide HK⟩

theorem mkSn_get : ∀ {k : Nat} {ss : List Snp} {j : Nat} (h : j < ss.length), (mkSn k ss)[j]? = some (mk1 (k + snK (ss.take j)) ss[j])
  | k, [], j, h => by simp at h
  | k, s :: ss, 0, h => by simp [mkSn, snK]
  | k, s :: ss, j + 1, h => by
    rw [mkSn, List.getElem?_cons_succ, mkSn_get (by simpa using h)]
    simp only [List.take_succ_cons, List.getElem_cons_succ, snK, List.map_cons, List.sum_cons, Nat.add_assoc]

set_option maxHeartbeats 3200000 in
theorem heldSnapS_any (v : Value) (k B : Nat) (ss : List Snp) (ts : List Value) (w : World) (hn : ss.length ≤ 4194304) (hm : ∀ s ∈ ss, s.table.length ≤ 4194304) (hk0 : 0 < k) (hk1 : k + snK ss ≤ 268435456) (hl : ss.length = ts.length)
    (ho : OwnS w B 61 2 v ss.length (snC (mkSn k ss) ts)) (ha : OwnA w B (ts.zip ((mkSn k ss).map (·.table)))) :
    Calls Try.prog 45 #[v, .int .i64 k] w fun e w' => e = .returned (.int .i64 ((k + snK ss : Nat) : Int)) ∧ Below w.heap.size w w' := by
  rcases Nat.eq_zero_or_pos ss.length with h0 | hpos
  · have e0 : ss = [] := List.eq_nil_of_length_eq_zero h0
    subst e0
    rcases ho with ⟨_, _, ao, c0, rfl⟩ | ⟨h, _⟩
    · go_enter Try.func45, Try.ntmps45
      go_wp2
      refine wp_loop_rounds 1 ?_
      rw [rounds_succ]
      go_wp2
      go_ret
      exact ⟨ret_int (by simp [snK]), Below.refl _ _⟩
    · simp at h
  · obtain ⟨g, cap, cur, rfl, _, _⟩ := own_form hpos (ho.row hpos)
    have HO := hide (ho.toR (fun h => absurd h (by omega)))
    have HA := hide ha
    have HM := hide hm
    have HK1 := hide hk1
    have HLL := hide hl
    clear ho ha hm hk1 hl
    go_enter Try.func45, Try.ntmps45
    go_wp2
    go_loopw [1, 5] (fun kk i wr => ∃ (j : Nat), j ≤ ss.length ∧ i = .int .i64 j ∧ kk = .int .i64 ((k + snK (ss.take j) : Nat) : Int) ∧ Hid (Below w.heap.size w wr)) (fun _ i _ => ss.length - (intOf i).toNat)
    case atStart => exact ⟨0, Nat.zero_le _, rfl, by simp [snK], hide (Below.refl _ _)⟩
    case round =>
      obtain ⟨j, hj, rfl, rfl, HB⟩ := hrel
      by_cases hlt : j < ss.length
      · have HJ := hide (snK_take hlt)
        have HJL := hide (snK_le ss (j + 1))
        have HG := hide (mkSn_get (k := k) hlt)
        obtain ⟨q, hq, hq0, hqb⟩ : ∃ q : Nat, q = k + snK (ss.take j) ∧ 0 < q ∧ q + 1 + ss[j].table.length ≤ 268435456 := ⟨_, rfl, by omega, by have a := unhide HJ; have b := unhide HJL; have c := unhide HK1; omega⟩
        rw [← hq] at HG ⊢
        have HQ := hide hq
        clear hq
        have hlj : j < ts.length := by rw [← unhide HLL]; exact hlt
        have hmj : ss[j].table.length ≤ 4194304 := unhide HM _ (List.getElem_mem hlt)
        have HRJ := hide (show (ts.zip ((mkSn k ss).map (·.table)))[j]? = some (ts[j], mkN (q + 1) ss[j].table.length) by
          rw [List.getElem?_zip_eq_some]
          exact ⟨List.getElem?_eq_getElem hlj, by rw [List.getElem?_map, unhide HG]; rfl⟩)
        have HOr := hide ((unhide HO).below (unhide HB |>.mono (Nat.le_refl _)))
        have hgs := snC_get (unhide HG) (List.getElem?_eq_getElem hlj)
        have hx0 : wr.cell? ⟨g, j * 2, none⟩ = some (.string (mtB q)) := (((unhide HOr).row hpos).cellAt (j * 2) (by omega)).trans hgs.1
        clear hgs
        have hgl : g < wr.heap.size := World.block_lt_of_cell? _ _ hx0
        go_wp2
        go_region_with (go_at_call 51; refine (markText_any q _ hq0 (by omega)).mono ?_; rintro e w2 ⟨rfl, hb2⟩; have hcy := (hb2.cell (p := ⟨g, j * 2, none⟩) hgl).trans hx0)
        all_goals
          have HB2 : Hid (Below w.heap.size w w2) := hide (Below.trans (by repeat (first | exact unhide HB | apply Below.drew)) (hb2.mono (unhide HB).size))
          have HO2 := hide ((unhide HO).below (unhide HB2))
          have HA2 := hide ((unhide HA).below (unhide HB2))
          clear hb2 hcy hx0 hgl
          obtain ⟨qo, qa, hts, hrow⟩ := (unhide HA2).own _ (List.mem_of_getElem? (unhide HRJ))
          simp only [mkN_length] at hts hrow
          have HW := hide hrow
          have hgs := snC_get (unhide HG) (List.getElem?_eq_getElem hlj)
          have hx1 : w2.cell? ⟨g, j * 2 + 1, none⟩ = some (.slice qo ss[j].table.length qa) := (((unhide HO2).row hpos).cellAt (j * 2 + 1) (by omega)).trans (by rw [hgs.2, hts])
          clear hgs hts hrow
          go_wp2_with fail
          refine (heldIntS_any (.slice qo ss[j].table.length qa) ss[j].table.length (q + 1) B _ hmj (by omega) (by omega) (unhide HW)).mono ?_
          rintro e w4 ⟨rfl, hb4⟩
          have HB4 := hide ((unhide HB2).trans (hb4.mono (unhide HB2).size))
          have HQN : Hid (q + 1 + ss[j].table.length = k + snK (ss.take (j + 1))) := hide (by rw [unhide HJ, unhide HQ]; omega)
          clear hb4 hx1
          go_wp2
          go_roundw
          case rel => exact ⟨j + 1, by omega, by go_num, by rw [← unhide HQN]; go_num, HB4⟩
          case measure => simp [intOf]; omega
      · have hjn : j = ss.length := by omega
        subst hjn
        have he : snK (ss.take ss.length) = snK ss := by rw [List.take_length]
        go_wp2
        go_ret
        exact ⟨by rw [he]; rfl, unhide HB⟩

end Go.Proofs.Ytjoafbkcnnhdiab
