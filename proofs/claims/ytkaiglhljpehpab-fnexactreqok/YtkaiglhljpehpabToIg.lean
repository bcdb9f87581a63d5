/- Contracts of the laws' own copies of images: toImage. (Made ahead of stage 10.) -/
import Derived.Test.YtkaiglhljpehpabRows
import Derived.Test.YtkaiglhljpehpabGen
import Derived.Test.YtkaiglhljpehpabKeep
import Derived.Test.YtkaiglhljpehpabInts
import Derived.Test.YtkaiglhljpehpabOwnN
import Derived.Test.YtkaiglhljpehpabToInts
import Derived.Test.YtkaiglhljpehpabImP
import Derived.Test.YtkaiglhljpehpabImV
import Derived.Test.YtkaiglhljpehpabImO
import Derived.Test.YtkaiglhljpehpabToIm
import Derived.Test.YtkaiglhljpehpabToIs
import Derived.WalkKit
import Derived.WalkSpells
import Derived.KernelRfl
import Derived.LoopN
import Derived.BigQuiet
import Derived.Deep.QuietTactic
import Derived.Deep.CutRange
import Derived.Deep.RegionWith
namespace Go.Proofs.Ytkaiglhljpehpab
open Go.RowKit
set_option linter.unusedVariables false
set_option maxRecDepth 100000

/-- Rows that were made later lie apart from all. -/
theorem OwnA.append {w w' : World} {B : Nat} {rs qs : List (Value × List Int)} (h : OwnA w B rs) (hb : Below w.heap.size w w') (hv : OwnA w' w.heap.size qs) (hB : B ≤ w.heap.size) : OwnA w' B (rs ++ qs) := by
  refine ⟨fun r hr => ?_, ?_⟩
  · rcases List.mem_append.1 hr with h1 | h1
    · exact (h.own r h1).below hb
    · exact (hv.own r h1).base hB
  · rw [List.pairwise_append]
    refine ⟨h.apart, hv.apart, fun a ha b hb' g hg hg' => ?_⟩
    have h1 := ((h.own a ha).ge g hg).2
    have h2 := ((hv.own b hb').ge g hg').1
    omega
theorem OwnA.perm {w : World} {B : Nat} {rs qs : List (Value × List Int)} (h : OwnA w B rs) (hp : rs.Perm qs) : OwnA w B qs :=
  ⟨fun r hr => h.own r (hp.mem_iff.2 hr), (hp.pairwise_iff (fun {a b} hab g hb ha => hab g ha hb)).1 h.apart⟩
theorem OwnA.one {w : World} {B : Nat} {v : Value} {xs : List Int} (h : OwnN w B v xs) : OwnA w B [(v, xs)] := ⟨fun r hr => by rw [List.mem_singleton] at hr; subst hr; exact h, List.pairwise_singleton _ _⟩
/-- A variable of four lists. -/
def VarM (w : World) (x : Nat) (t : TypeId) (v0 v1 v2 v3 : Value) : Prop := w.heap[x]? = some (.cells #[v0, v1, v2, v3] t (0, 0))
theorem VarM.lt {w : World} {x t : Nat} {v0 v1 v2 v3 : Value} (k : VarM w x t v0 v1 v2 v3) : x < w.heap.size := (Array.getElem?_eq_some_iff.1 k).1
theorem VarM.cells {w : World} {x t : Nat} {v0 v1 v2 v3 : Value} (k : VarM w x t v0 v1 v2 v3) : w.cell? ⟨x, 0, none⟩ = some v0 ∧ w.cell? ⟨x, 1, none⟩ = some v1 ∧ w.cell? ⟨x, 2, none⟩ = some v2 ∧ w.cell? ⟨x, 3, none⟩ = some v3 := ⟨by rw [Joins.cell_of_block k]; rfl, by rw [Joins.cell_of_block k]; rfl, by rw [Joins.cell_of_block k]; rfl, by rw [Joins.cell_of_block k]; rfl⟩
theorem VarM.free {w : World} {x t : Nat} {v0 v1 v2 v3 : Value} (k : VarM w x t v0 v1 v2 v3) : w.frozen? ⟨x, 0, none⟩ = false ∧ w.frozen? ⟨x, 1, none⟩ = false ∧ w.frozen? ⟨x, 2, none⟩ = false ∧ w.frozen? ⟨x, 3, none⟩ = false := ⟨Joins.unfrozen_of_block k 0, Joins.unfrozen_of_block k 1, Joins.unfrozen_of_block k 2, Joins.unfrozen_of_block k 3⟩
theorem VarM.below {w w' : World} {x t : Nat} {v0 v1 v2 v3 : Value} (k : VarM w x t v0 v1 v2 v3) (hb : Below w.heap.size w w') : VarM w' x t v0 v1 v2 v3 := by
  unfold VarM; rw [hb.block x k.lt]; exact k
theorem VarM.new (w : World) (t : TypeId) (v0 v1 v2 v3 : Value) : VarM (w.alloc (.cells #[v0, v1, v2, v3] t)) w.heap.size t v0 v1 v2 v3 := heap_alloc_new w _
theorem VarM.other {w : World} {x t : Nat} {v0 v1 v2 v3 : Value} (h : VarM w x t v0 v1 v2 v3) {p : Addr} (hp : x ≠ p.block) (u : Value) : VarM (w.setCell p u) x t v0 v1 v2 v3 := by
  unfold VarM; rw [Below.heap_setCell w p u x hp]; exact h
theorem VarM.set0 {w : World} {x t : Nat} {v0 v1 v2 v3 : Value} (h : VarM w x t v0 v1 v2 v3) (u : Value) : VarM (w.setCell ⟨x, 0, none⟩ u) x t u v1 v2 v3 := Joins.block_setCell (i := 0) h u
theorem VarM.set1 {w : World} {x t : Nat} {v0 v1 v2 v3 : Value} (h : VarM w x t v0 v1 v2 v3) (u : Value) : VarM (w.setCell ⟨x, 1, none⟩ u) x t v0 u v2 v3 := Joins.block_setCell (i := 1) h u
theorem VarM.set2 {w : World} {x t : Nat} {v0 v1 v2 v3 : Value} (h : VarM w x t v0 v1 v2 v3) (u : Value) : VarM (w.setCell ⟨x, 2, none⟩ u) x t v0 v1 u v3 := Joins.block_setCell (i := 2) h u
theorem VarM.set3 {w : World} {x t : Nat} {v0 v1 v2 v3 : Value} (h : VarM w x t v0 v1 v2 v3) (u : Value) : VarM (w.setCell ⟨x, 3, none⟩ u) x t v0 v1 v2 u := Joins.block_setCell (i := 3) h u
theorem VarM.at {w : World} {x y t : Nat} {v0 v1 v2 v3 : Value} (h : VarM w x t v0 v1 v2 v3) (e : x = y) : VarM w y t v0 v1 v2 v3 := e ▸ h
/-- Three of them, one behind another, as an image's copy has them. -/
structure Var3 (w0 w : World) (a0 a1 a2 a3 v0 v1 v2 v3 : Value) : Prop where
  a : VarM w w0.heap.size 25 a0 a1 a2 a3
  r : VarM w (w0.heap.size + 1) 31 (.slice none 0 0) (.slice none 0 0) (.slice none 0 0) (.slice none 0 0)
  o : VarM w (w0.heap.size + 1 + 1) 31 v0 v1 v2 v3
  b : Below w0.heap.size w0 w
theorem Var3.new (w : World) (a0 a1 a2 a3 : Value) : Var3 w (((w.alloc (.cells #[a0, a1, a2, a3] 25)).alloc (.cells #[.slice none 0 0, .slice none 0 0, .slice none 0 0, .slice none 0 0] 31)).alloc (.cells #[.slice none 0 0, .slice none 0 0, .slice none 0 0, .slice none 0 0] 31)) a0 a1 a2 a3 (.slice none 0 0) (.slice none 0 0) (.slice none 0 0) (.slice none 0 0) :=
  ⟨((VarM.new w _ _ _ _ _).below (Joins.below_alloc1 _ _)).below (Joins.below_alloc1 _ _), ((VarM.new (w.alloc _) _ _ _ _ _).below (Joins.below_alloc1 _ _)).at (by simp), (VarM.new ((w.alloc _).alloc _) _ _ _ _ _).at (by simp), Joins.below_alloc3 w _ _ _⟩
theorem Var3.below {w0 w w' : World} {a0 a1 a2 a3 v0 v1 v2 v3 : Value} (h : Var3 w0 w a0 a1 a2 a3 v0 v1 v2 v3) (hb : Below w.heap.size w w') : Var3 w0 w' a0 a1 a2 a3 v0 v1 v2 v3 := ⟨h.a.below hb, h.r.below hb, h.o.below hb, h.b.trans (hb.mono h.b.size)⟩
theorem Var3.set0 {w0 w : World} {a0 a1 a2 a3 v0 v1 v2 v3 : Value} (h : Var3 w0 w a0 a1 a2 a3 v0 v1 v2 v3) (u : Value) : Var3 w0 (w.setCell ⟨w0.heap.size + 1 + 1, 0, none⟩ u) a0 a1 a2 a3 u v1 v2 v3 := ⟨h.a.other (by simp; omega) u, h.r.other (by simp) u, h.o.set0 u, h.b.setCell (p := ⟨w0.heap.size + 1 + 1, 0, none⟩) (by simp; omega) u⟩
theorem Var3.set1 {w0 w : World} {a0 a1 a2 a3 v0 v1 v2 v3 : Value} (h : Var3 w0 w a0 a1 a2 a3 v0 v1 v2 v3) (u : Value) : Var3 w0 (w.setCell ⟨w0.heap.size + 1 + 1, 1, none⟩ u) a0 a1 a2 a3 v0 u v2 v3 := ⟨h.a.other (by simp; omega) u, h.r.other (by simp) u, h.o.set1 u, h.b.setCell (p := ⟨w0.heap.size + 1 + 1, 1, none⟩) (by simp; omega) u⟩
theorem Var3.set2 {w0 w : World} {a0 a1 a2 a3 v0 v1 v2 v3 : Value} (h : Var3 w0 w a0 a1 a2 a3 v0 v1 v2 v3) (u : Value) : Var3 w0 (w.setCell ⟨w0.heap.size + 1 + 1, 2, none⟩ u) a0 a1 a2 a3 v0 v1 u v3 := ⟨h.a.other (by simp; omega) u, h.r.other (by simp) u, h.o.set2 u, h.b.setCell (p := ⟨w0.heap.size + 1 + 1, 2, none⟩) (by simp; omega) u⟩
theorem Var3.lt {w0 w : World} {a0 a1 a2 a3 v0 v1 v2 v3 : Value} (h : Var3 w0 w a0 a1 a2 a3 v0 v1 v2 v3) : w0.heap.size + 3 ≤ w.heap.size := h.o.lt

set_option maxHeartbeats 3200000 in
theorem toImage_any (a : Im4) (m : Img) (w : World) (hr : m.refs.length ≤ 1048576) (ht : m.table.length ≤ 1048576) (hs : m.snaps.length ≤ 1048576) (hd : m.data.length ≤ 1048576) (hm : ∀ s ∈ m.snaps, s.table.length ≤ 1048576) (hc : ImS w a m) :
    Calls Try.prog 10 #[imV a m] w fun e w' => ∃ a' ts, e = .returned (imV a' m) ∧ OwnIm w' w.heap.size a' m ts ∧ Below w.heap.size w w' := by
  have HV0 := hide (Var3.new w (.slice a.ro m.refs.length a.rc) (.slice a.tq m.table.length a.tc) (.slice a.so m.snaps.length a.sc) (.slice a.dq m.data.length a.dc))
  have HC := hide hc
  have HM := hide hm
  have HR := hide hr
  have HT := hide ht
  have HS := hide hs
  have HD := hide hd
  clear hc hm hr ht hs hd
  go_enter Try.func10, Try.ntmps10
  go_wp2_with fail
  refine (toIntS_any a.ro a.rc m.refs _ (unhide HR) ((unhide HC).below (unhide HV0).b).r).mono ?_
  rintro e w1 ⟨g1, rfl, ho1, hb1⟩
  have HA1 := hide (OwnA.one (B := w.heap.size + 3) ⟨_, _, rfl, (OwnR.of ho1 (fun e => ⟨_, by rw [e]⟩)).base (unhide HV0).lt⟩)
  have HV1 := hide ((unhide HV0).below hb1)
  clear ho1 hb1 HV0
  obtain ⟨ca0p, ca1p, ca2p, ca3p⟩ := (unhide HV1).a.cells
  obtain ⟨cr0p, cr1p, cr2p, cr3p⟩ := (unhide HV1).r.cells
  obtain ⟨co0p, co1p, co2p, co3p⟩ := (unhide HV1).o.cells
  obtain ⟨fo0p, fo1p, fo2p, fo3p⟩ := (unhide HV1).o.free
  obtain ⟨fr0p, fr1p, fr2p, fr3p⟩ := (unhide HV1).r.free
  have HV1s := hide ((unhide HV1).set0 (.slice (some ⟨g1, 0, none⟩) m.refs.length m.refs.length))
  have HA1s := hide ((unhide HA1).setCell (a := ⟨w.heap.size + 1 + 1, 0, none⟩) (by simp) (.slice (some ⟨g1, 0, none⟩) m.refs.length m.refs.length))
  clear HV1 HA1
  go_wp2_with fail
  refine (toIntS_any a.tq a.tc m.table _ (unhide HT) ((unhide HC).below (unhide HV1s).b).t).mono ?_
  rintro e w2 ⟨g2, rfl, ho2, hb2⟩
  have HA2 := hide ((unhide HA1s).append hb2 (OwnA.one ⟨_, _, rfl, OwnR.of ho2 (fun e => ⟨_, by rw [e]⟩)⟩) (unhide HV1s).lt)
  have HV2 := hide ((unhide HV1s).below hb2)
  clear ho2 hb2 HV1s HA1s
  clear ca0p ca1p ca2p ca3p cr0p cr1p cr2p cr3p co0p co1p co2p co3p fo0p fo1p fo2p fo3p fr0p fr1p fr2p fr3p
  obtain ⟨ca0q, ca1q, ca2q, ca3q⟩ := (unhide HV2).a.cells
  obtain ⟨cr0q, cr1q, cr2q, cr3q⟩ := (unhide HV2).r.cells
  obtain ⟨co0q, co1q, co2q, co3q⟩ := (unhide HV2).o.cells
  obtain ⟨fo0q, fo1q, fo2q, fo3q⟩ := (unhide HV2).o.free
  obtain ⟨fr0q, fr1q, fr2q, fr3q⟩ := (unhide HV2).r.free
  have HV2s := hide ((unhide HV2).set1 (.slice (some ⟨g2, 0, none⟩) m.table.length m.table.length))
  have HA2s := hide ((unhide HA2).setCell (a := ⟨w.heap.size + 1 + 1, 1, none⟩) (by simp) (.slice (some ⟨g2, 0, none⟩) m.table.length m.table.length))
  clear HV2 HA2
  go_wp2_with fail
  refine (toSnapS_any a.so a.sc m.snaps _ (unhide HS) (unhide HM) ((unhide HC).below (unhide HV2s).b).s).mono ?_
  rintro e w3 ⟨g3, ts, rfl, hts, ho3, ha3, hb3⟩
  have HA3 := hide ((unhide HA2s).append hb3 ha3 (unhide HV2s).lt)
  have HO3 := hide ((OwnR.of ho3 (fun e => ⟨_, by rw [e]⟩)).base (unhide HV2s).lt)
  have HV3 := hide ((unhide HV2s).below hb3)
  have HTS := hide hts
  clear ho3 hb3 ha3 hts HV2s HA2s
  clear ca0q ca1q ca2q ca3q cr0q cr1q cr2q cr3q co0q co1q co2q co3q fo0q fo1q fo2q fo3q fr0q fr1q fr2q fr3q
  obtain ⟨ca0r, ca1r, ca2r, ca3r⟩ := (unhide HV3).a.cells
  obtain ⟨cr0r, cr1r, cr2r, cr3r⟩ := (unhide HV3).r.cells
  obtain ⟨co0r, co1r, co2r, co3r⟩ := (unhide HV3).o.cells
  obtain ⟨fo0r, fo1r, fo2r, fo3r⟩ := (unhide HV3).o.free
  obtain ⟨fr0r, fr1r, fr2r, fr3r⟩ := (unhide HV3).r.free
  have HV3s := hide ((unhide HV3).set2 (.slice (some ⟨g3, 0, none⟩) m.snaps.length m.snaps.length))
  have HA3s := hide ((unhide HA3).setCell (a := ⟨w.heap.size + 1 + 1, 2, none⟩) (by simp) (.slice (some ⟨g3, 0, none⟩) m.snaps.length m.snaps.length))
  have HO3s := hide ((unhide HO3).setCell (a := ⟨w.heap.size + 1 + 1, 2, none⟩) (by simp) (.slice (some ⟨g3, 0, none⟩) m.snaps.length m.snaps.length))
  clear HV3 HA3 HO3
  go_wp2_with fail
  refine (toIntS_any a.dq a.dc m.data _ (unhide HD) ((unhide HC).below (unhide HV3s).b).d).mono ?_
  rintro e w4 ⟨g4, rfl, ho4, hb4⟩
  have HA4 := hide ((unhide HA3s).append hb4 (OwnA.one ⟨_, _, rfl, OwnR.of ho4 (fun e => ⟨_, by rw [e]⟩)⟩) (unhide HV3s).lt)
  have HO4 := hide ((unhide HO3s).below hb4)
  have HV4 := hide ((unhide HV3s).below hb4)
  clear ho4 hb4 HV3s HA3s HO3s
  clear ca0r ca1r ca2r ca3r cr0r cr1r cr2r cr3r co0r co1r co2r co3r fo0r fo1r fo2r fo3r fr0r fr1r fr2r fr3r
  obtain ⟨ca0s, ca1s, ca2s, ca3s⟩ := (unhide HV4).a.cells
  obtain ⟨cr0s, cr1s, cr2s, cr3s⟩ := (unhide HV4).r.cells
  obtain ⟨co0s, co1s, co2s, co3s⟩ := (unhide HV4).o.cells
  obtain ⟨fo0s, fo1s, fo2s, fo3s⟩ := (unhide HV4).o.free
  obtain ⟨fr0s, fr1s, fr2s, fr3s⟩ := (unhide HV4).r.free
  have HA5 := hide ((((((unhide HA4).setCell (a := ⟨w.heap.size + 1 + 1, 3, none⟩) (by simp; try omega) (.slice (some ⟨g4, 0, none⟩) m.data.length m.data.length)).setCell (a := ⟨w.heap.size + 1, 0, none⟩) (by simp; try omega) (.slice (some ⟨g1, 0, none⟩) m.refs.length m.refs.length)).setCell (a := ⟨w.heap.size + 1, 1, none⟩) (by simp; try omega) (.slice (some ⟨g2, 0, none⟩) m.table.length m.table.length)).setCell (a := ⟨w.heap.size + 1, 2, none⟩) (by simp; try omega) (.slice (some ⟨g3, 0, none⟩) m.snaps.length m.snaps.length)).setCell (a := ⟨w.heap.size + 1, 3, none⟩) (by simp; try omega) (.slice (some ⟨g4, 0, none⟩) m.data.length m.data.length))
  have HO5 := hide ((((((unhide HO4).setCell (a := ⟨w.heap.size + 1 + 1, 3, none⟩) (by simp; try omega) (.slice (some ⟨g4, 0, none⟩) m.data.length m.data.length)).setCell (a := ⟨w.heap.size + 1, 0, none⟩) (by simp; try omega) (.slice (some ⟨g1, 0, none⟩) m.refs.length m.refs.length)).setCell (a := ⟨w.heap.size + 1, 1, none⟩) (by simp; try omega) (.slice (some ⟨g2, 0, none⟩) m.table.length m.table.length)).setCell (a := ⟨w.heap.size + 1, 2, none⟩) (by simp; try omega) (.slice (some ⟨g3, 0, none⟩) m.snaps.length m.snaps.length)).setCell (a := ⟨w.heap.size + 1, 3, none⟩) (by simp; try omega) (.slice (some ⟨g4, 0, none⟩) m.data.length m.data.length))
  have HB5 := hide ((((((unhide HV4).b.setCell (p := ⟨w.heap.size + 1 + 1, 3, none⟩) (by simp; try omega) (.slice (some ⟨g4, 0, none⟩) m.data.length m.data.length)).setCell (p := ⟨w.heap.size + 1, 0, none⟩) (by simp; try omega) (.slice (some ⟨g1, 0, none⟩) m.refs.length m.refs.length)).setCell (p := ⟨w.heap.size + 1, 1, none⟩) (by simp; try omega) (.slice (some ⟨g2, 0, none⟩) m.table.length m.table.length)).setCell (p := ⟨w.heap.size + 1, 2, none⟩) (by simp; try omega) (.slice (some ⟨g3, 0, none⟩) m.snaps.length m.snaps.length)).setCell (p := ⟨w.heap.size + 1, 3, none⟩) (by simp; try omega) (.slice (some ⟨g4, 0, none⟩) m.data.length m.data.length))
  clear HV4 HA4 HO4
  go_wp2
  refine bodyPost_ret (v := imV ⟨some ⟨g1, 0, none⟩, m.refs.length, some ⟨g2, 0, none⟩, m.table.length, some ⟨g3, 0, none⟩, m.snaps.length, some ⟨g4, 0, none⟩, m.data.length⟩ m) (by simp [results, Try.results10, go_sem, cr0s, cr1s, cr2s, cr3s]) rfl ⟨⟨some ⟨g1, 0, none⟩, m.refs.length, some ⟨g2, 0, none⟩, m.table.length, some ⟨g3, 0, none⟩, m.snaps.length, some ⟨g4, 0, none⟩, m.data.length⟩, ts, rfl, ?_, unhide HB5⟩
  refine ⟨(unhide HTS).symm, ((unhide HO5).base (by omega)).toS, ((unhide HA5).base (by omega)).perm ?_⟩
  unfold imRows
  refine (List.Perm.cons _ (List.Perm.cons _ ?_))
  exact List.perm_append_singleton _ _

end Go.Proofs.Ytkaiglhljpehpab
