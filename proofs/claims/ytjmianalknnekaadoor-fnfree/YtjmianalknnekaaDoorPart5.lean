import Derived.Test.YtjmianalknnekaaDoorRows
import Derived.Test.YtjmianalknnekaaDoorPart1
import Derived.Test.YtjmianalknnekaaDoorPart2
import Derived.Test.YtjmianalknnekaaDoorPart3
import Derived.Test.YtjmianalknnekaaDoorPart4
import Derived.WalkKit
import Derived.WalkSpells
import Derived.KernelRfl
import Derived.LoopN
import Derived.BigQuiet
import Derived.Deep.QuietTactic
import Derived.Deep.CutRange
import Derived.Deep.RegionWith
import Derived.Laws.ResultCell
import Derived.Defers
import Derived.Recover
import Derived.Deep.MidRow
import Derived.ProofKit
import Derived.OpenShut
import Derived.ShutString
import Derived.LaidMore
import Derived.LaidLaws
import Derived.OpenVars
import Derived.Stop.Joined
import Derived.Lib.LaidTab
import Derived.ChangeSlices
import Derived.Laws.BytesArg

/- Contracts of impl.RefDown and of what it calls: less, which panics below 0, and the deferred call that recovers it. -/
namespace Go.Proofs.YtjmianalknnekaaDoor
open Go.RowKit
set_option linter.unusedVariables false
set_option maxRecDepth 100000

def BzW (w : World) : Prop := ∃ u pv, w.cell? ⟨0, 0, none⟩ = some (.iface u pv)
theorem BzW.below {w w' : World} (h : BzW w) (hb : Below w.heap.size w w') : BzW w' := by
  obtain ⟨u, pv, hc⟩ := h
  exact ⟨u, pv, (hb.cell (p := ⟨0, 0, none⟩) (World.block_lt_of_cell? _ _ hc)).trans hc⟩
theorem BzW.keep {w w' : World} {S : Nat → Prop} (h : BzW w) (hk : Keep S w w') (hs : ∀ k, S k → 0 ≠ k) : BzW w' := by
  obtain ⟨u, pv, hc⟩ := h
  refine ⟨u, pv, ?_⟩
  have hl := World.block_lt_of_cell? _ _ hc
  rw [← hc]
  unfold World.cell?
  simp only [hk.block 0 hl (fun hS => hs _ hS rfl)]
theorem BzW.pos {w : World} (h : BzW w) : 0 < w.heap.size := by
  obtain ⟨u, pv, hc⟩ := h
  exact World.block_lt_of_cell? _ _ hc

set_option maxHeartbeats 1600000 in
theorem less_yes (g q : Nat) (xs : List Int) (w : World) (hv : VarC w g xs) (hl : xs.length = 24) (hq : q < xs.length) (h0 : ¬ xs[q] = 0) (hr : 0 ≤ xs[q] ∧ xs[q] ≤ 15) :
    Calls Tryd.prog 32 #[.pointer (some ⟨g, 0, none⟩), .int .i64 q] w fun e w' => e = .returned (.tuple #[]) ∧ VarC w' g (xs.set q (xs[q] - 1)) ∧ Keep (fun k => k = g) w w' := by
  have hcell := arr_cell hv hq
  have hfz := Joins.unfrozen_of_block hv q
  have hq24 : (q : Int) < 24 := by omega
  have hq24' : q < 24 := by omega
  have b0 : (xs[q] == 0) = false := by simp [h0]
  have hwr : IntKind.i64.wrap (xs[q] - 1) = xs[q] - 1 := by rw [IntKind.wrap_i64]; omega
  have HS := hide (arr_set hv q (xs[q] - 1))
  have HK := hide (Keep.setCell (S := fun k => k = g) (Keep.refl _ w) (p := ⟨g, q, none⟩) rfl (.int .i64 (xs[q] - 1)))
  clear hv h0 hl
  go_enter Tryd.func32, Tryd.ntmps32
  go_wp2
  go_region
  all_goals
    go_wp2
    go_end0
    exact ⟨rfl, unhide HS, ⟨(unhide HK).os, (unhide HK).tape, (unhide HK).output, (unhide HK).size, (unhide HK).block⟩⟩

set_option maxHeartbeats 1600000 in
theorem less_no (g q : Nat) (xs : List Int) (w : World) (hv : VarC w g xs) (hl : xs.length = 24) (hq : q < xs.length) (h0 : xs[q] = 0) (hE : BzW w) :
    Calls Tryd.prog 32 #[.pointer (some ⟨g, 0, none⟩), .int .i64 q] w fun e w' => (∃ u pv, e = .panicked [{ v := .iface u pv, recovered := false }]) ∧ w' = w := by
  obtain ⟨u, pv, hc⟩ := hE
  have hp := fun w => run_panic_iface Tryd.prog w u pv
  have hcell := arr_cell hv hq
  have hq24 : (q : Int) < 24 := by omega
  have hq24' : q < 24 := by omega
  have b0 : (xs[q] == 0) = true := by simp [h0]
  clear hv h0 hl
  go_enter Tryd.func32, Tryd.ntmps32
  go_wp2
  exact ⟨rfl, ⟨u, pv, rfl⟩, rfl⟩

/-- What the recovering call leaves behind. -/
structure Caught (w W : World) (O C g : Nat) (n : Int) (xs : List Int) : Prop where
  w1 : ∃ w1, W = (w1.setCell ⟨O, 0, none⟩ (.slice (some ⟨g, 0, none⟩) 24 24)).setCell ⟨C, 0, none⟩ (.int .i64 n) ∧ w1.ownsRow w.heap.size 3 1 (.slice (some ⟨g, 0, none⟩) 24 24) 24 (intV xs) ∧ Below w.heap.size w w1

set_option maxHeartbeats 1600000 in
theorem catchC_panicking (G O C : Nat) (xs : List Int) (x : Value) (y : Int) (u : TypeId) (pv : Value) (older : List PanicEntry) (w : World) (hv : VarC w G xs) (hl : xs.length = 24)
    (hO : w.heap[O]? = some (.cells #[x] 23 (0, 0))) (hC : w.heap[C]? = some (.cells #[.int .i64 y] 3 (0, 0))) (hOC : O ≠ C) :
    CallsD Tryd.prog 31 #[.pointer (some ⟨G, 0, none⟩), .pointer (some ⟨O, 0, none⟩), .pointer (some ⟨C, 0, none⟩)] (.panicking ({ v := .iface u pv, recovered := false } :: older)) w fun e u' w' =>
      e = .returned (.tuple #[]) ∧ u' = .panicking ({ v := .iface u pv, recovered := true } :: older) ∧ ∃ g, Caught w w' O C g 5 xs := by
  refine callsD_of_wpS Tryd.func31 rfl fun c₀ cs hu => ?_
  apply wpS_seq
  apply wpS_region
  simp [wpOpsS, go_sem, recoverD, hu, Tryd.ntmps31, Exit.thenS]
  refine wpS_cond (t := true) (by simp [Act.eval, Array.replicate]) ?_
  simp only [if_true]
  refine wpS_of_wp ?_
  have HV := hide hv
  have HL := hide hl
  have HOO := hide hO
  have HCC := hide hC
  have HOC := hide hOC
  clear hv hl hO hC hOC hu
  show Code.wp Tryd.prog _ _ ({ tmps := #[.pointer (some ⟨G, 0, none⟩), .pointer (some ⟨O, 0, none⟩), .pointer (some ⟨C, 0, none⟩), .iface u pv, .bool true, undef, undef], defers := [] } : Act) w
  go_wp2_with (refine wpList_load_arr rfl 43 _ rfl G rfl (intV xs).toArray _ _ (unhide HV) und24 rfl (sizeA (unhide HL)) ?_)
  refine (list_any xs _ (unhide HL)).mono ?_
  rintro e w1 ⟨g, rfl, ho, hb⟩
  have hOc := block_of_below (unhide HOO) hb
  have hCc := block_of_below (unhide HCC) hb
  have oc0 : w1.cell? ⟨O, 0, none⟩ = some x := by rw [Joins.cell_of_block hOc]; rfl
  have of0 := Joins.unfrozen_of_block hOc 0
  have cc0 : w1.cell? ⟨C, 0, none⟩ = some (.int .i64 y) := by rw [Joins.cell_of_block hCc]; rfl
  have cf0 := Joins.unfrozen_of_block hCc 0
  have hne : O ≠ C := unhide HOC
  have hne' : C ≠ O := fun h => unhide HOC h.symm
  have HR := hide (And.intro ho hb)
  clear ho hb hOc hCc
  go_wp2
  exact ⟨rfl, _, rfl, .tuple #[], by simp [results, Tryd.results31], rfl, rfl, g, ⟨⟨w1, rfl, (unhide HR).1, (unhide HR).2⟩⟩⟩

theorem catchC_idle (p q r : Addr) (w : World) :
    CallsD Tryd.prog 31 #[.pointer (some p), .pointer (some q), .pointer (some r)] .returning w fun e u' w' => e = .returned (.tuple #[]) ∧ u' = .returning ∧ w' = w := by
  refine callsD_of_wpS Tryd.func31 rfl fun c₀ cs hu => ?_
  apply wpS_seq
  apply wpS_region
  simp [wpOpsS, go_sem, recoverD, hu, Tryd.ntmps31, Exit.thenS]
  refine wpS_cond (t := false) (by simp [Act.eval, Array.replicate]) ?_
  simp only [Bool.false_eq_true, if_false]
  refine wpS_of_wp (wp_skip ?_)
  cases c₀
  simp_all [bodyPostS, results, Tryd.results31]

theorem cell_of1 {W : World} {b : Nat} {v : Value} {t : TypeId} (h : W.heap[b]? = some (.cells #[v] t (0, 0))) : W.cell? ⟨b, 0, none⟩ = some v ∧ W.frozen? ⟨b, 0, none⟩ = false := ⟨by rw [Joins.cell_of_block h]; rfl, Joins.unfrozen_of_block h 0⟩
theorem set_of1 {W : World} {b : Nat} {v : Value} {t : TypeId} (h : W.heap[b]? = some (.cells #[v] t (0, 0))) (u : Value) : (W.setCell ⟨b, 0, none⟩ u).heap[b]? = some (.cells #[u] t (0, 0)) := Joins.block_setCell h u
theorem set_oth {W : World} {b k : Nat} {o : Obj} (h : W.heap[k]? = some o) (hk : k ≠ b) (u : Value) : (W.setCell ⟨b, 0, none⟩ u).heap[k]? = some o := by
  rw [Below.heap_setCell W ⟨b, 0, none⟩ u k hk]; exact h

/-- RefDown's variables: the answer, its code, the counts. -/
structure Dn (w W : World) (O C G : Nat) (x : Value) (n : Int) (xs : List Int) : Prop where
  o : W.heap[O]? = some (.cells #[x] 23 (0, 0))
  c : W.heap[C]? = some (.cells #[.int .i64 n] 3 (0, 0))
  g : VarC W G xs
  k : Below w.heap.size w W
  oo : w.heap.size ≤ O
  oc : O < C
  cg : C < G
theorem Dn.step {w W W' : World} {O C G : Nat} {x : Value} {n : Int} {xs : List Int} (h : Dn w W O C G x n xs) (hb : Below W.heap.size W W') : Dn w W' O C G x n xs :=
  ⟨block_of_below h.o hb, block_of_below h.c hb, block_of_below h.g hb, fr h.k hb, h.oo, h.oc, h.cg⟩
theorem Dn.less {w W W' : World} {O C G : Nat} {x : Value} {n : Int} {xs ys : List Int} (h : Dn w W O C G x n xs) (hg : VarC W' G ys) (hk : Keep (fun k => k = G) W W') : Dn w W' O C G x n ys :=
  ⟨(hk.block O (Array.getElem?_eq_some_iff.1 h.o).1 (by have := h.oc; have := h.cg; omega)).trans h.o, (hk.block C (Array.getElem?_eq_some_iff.1 h.c).1 (by have := h.cg; omega)).trans h.c, hg, keep_one h.k hk (by have := h.oo; have := h.oc; have := h.cg; omega), h.oo, h.oc, h.cg⟩
/-- The row that is answered, behind the two last stores. -/
theorem dn_own {W : World} {B O C g : Nat} {xs : List Int} (ho : W.ownsRow B 3 1 (.slice (some ⟨g, 0, none⟩) 24 24) 24 (intV xs)) (hl : xs.length = 24) (hO : O < B) (hC : C < B) (u v : Value) {B' : Nat} (hB : B' ≤ B) : OwnN ((W.setCell ⟨O, 0, none⟩ u).setCell ⟨C, 0, none⟩ v) B' (.slice (some ⟨g, 0, none⟩) 24 24) xs := by
  have h := own24 ho hl
  obtain ⟨qo, qa, e, hr⟩ := h
  exact ⟨qo, qa, e, ((hr.setCell (a := ⟨O, 0, none⟩) hO u).setCell (a := ⟨C, 0, none⟩) hC v).base hB⟩
theorem two_cells {W : World} {O C : Nat} {x y u v : Value} (ho : W.cell? ⟨O, 0, none⟩ = some x) (hc : W.cell? ⟨C, 0, none⟩ = some y) (hne : O ≠ C) : ((W.setCell ⟨O, 0, none⟩ u).setCell ⟨C, 0, none⟩ v).cell? ⟨O, 0, none⟩ = some u ∧ ((W.setCell ⟨O, 0, none⟩ u).setCell ⟨C, 0, none⟩ v).cell? ⟨C, 0, none⟩ = some v := by
  have hne' : ¬ C = O := fun h => hne h.symm
  constructor
  · rw [World.cell?_setCell_other _ _ _ _ (by simp), World.cell?_setCell_same _ _ _ ho]
  · refine World.cell?_setCell_same _ _ _ (u := y) ?_
    rw [World.cell?_setCell_other _ _ _ _ (by simp), hc]

theorem Dn.setC {w W : World} {O C G : Nat} {x : Value} {n : Int} {xs : List Int} (h : Dn w W O C G x n xs) (m : Int) : Dn w (W.setCell ⟨C, 0, none⟩ (.int .i64 m)) O C G x m xs :=
  ⟨set_oth h.o (by have := h.oc; omega) _, set_of1 h.c _, set_oth h.g (by have := h.cg; omega) _, h.k.setCell (p := ⟨C, 0, none⟩) (by have := h.oo; have := h.oc; show w.heap.size ≤ C; omega) _, h.oo, h.oc, h.cg⟩
theorem Dn.setOC {w W : World} {O C G : Nat} {x : Value} {n : Int} {xs : List Int} (h : Dn w W O C G x n xs) (v : Value) (m : Int) : Dn w ((W.setCell ⟨O, 0, none⟩ v).setCell ⟨C, 0, none⟩ (.int .i64 m)) O C G v m xs :=
  Dn.setC ⟨set_of1 h.o _, set_oth h.c (by have := h.oc; omega) _, set_oth h.g (by have := h.oc; have := h.cg; omega) _, h.k.setCell (p := ⟨O, 0, none⟩) h.oo _, h.oo, h.oc, h.cg⟩ m

set_option maxHeartbeats 3200000 in
theorem refDown_impl (ao : Option Addr) (cap : Nat) (xs : List Int) (c : Int) (w : World) (hl : xs.length ≤ maxLen) (hc : Is w ao xs) (hE : BzW w) :
    Calls Tryd.prog 14 #[.slice ao xs.length cap, .int .i64 c] w fun e w' => ∃ v, e = .returned (.tuple #[v, .int .i64 (dnF xs c)]) ∧ OwnN w' w.heap.size v (dnL xs c) ∧ Below w.heap.size w w' := by
  have hmf : ∀ (fn : Fn) (first cap : Array Value) (w : World), (Instr.makeFunc fn first cap).run Tryd.prog w = .ok (.func fn first cap) w := fun _ _ _ _ => rfl
  have HA := hide (Joins.below_alloc2 w (.cells #[.slice none 0 0] 23) (.cells #[.int .i64 0] 3))
  have HO : Hid (((w.alloc (.cells #[.slice none 0 0] 23)).alloc (.cells #[.int .i64 0] 3)).heap[w.heap.size]? = some (.cells #[.slice none 0 0] 23 (0, 0))) := hide (block_of_below (heap_alloc_new w _) (Joins.below_alloc1 _ _))
  have HCC : Hid (((w.alloc (.cells #[.slice none 0 0] 23)).alloc (.cells #[.int .i64 0] 3)).heap[w.heap.size + 1]? = some (.cells #[.int .i64 0] 3 (0, 0))) := hide (heap_alloc2_new w _ _)
  have HI := hide (hc.below (unhide HA))
  have HE := hide (hE.below (unhide HA))
  have HL := hide hl
  have HLC := hide (cwR_len xs c)
  have HPS := hE.pos
  clear hc hE
  go_enter_defers Tryd.func14, Tryd.ntmps14
  go_upto_region 1 with fail
  revert HA HO HCC HI HE
  generalize ((w.alloc _).alloc _) = W0
  intro HA HO HCC HI HE
  go_wp2_with fail
  refine (countsWith_any ao cap xs c _ (unhide HL) (unhide HI)).mono ?_
  rintro e w1 ⟨rfl, hb⟩
  have HB1 := hide (fr (unhide HA) hb)
  have HO1 := hide (block_of_below (unhide HO) hb)
  have HC1 := hide (block_of_below (unhide HCC) hb)
  have HE1 := hide ((unhide HE).below hb)
  clear hb HA HO HCC HI HE
  have HNN := hide (arr_new w1)
  have HA1 := hide (Joins.below_alloc1 w1 (.cells #[.int .i64 0, .int .i64 0, .int .i64 0, .int .i64 0, .int .i64 0, .int .i64 0, .int .i64 0, .int .i64 0, .int .i64 0, .int .i64 0, .int .i64 0, .int .i64 0, .int .i64 0, .int .i64 0, .int .i64 0, .int .i64 0, .int .i64 0, .int .i64 0, .int .i64 0, .int .i64 0, .int .i64 0, .int .i64 0, .int .i64 0, .int .i64 0] 43))
  have HLT : Hid (w.heap.size + 1 < w1.heap.size) := hide (Array.getElem?_eq_some_iff.1 (unhide HC1)).1
  go_upto_region 2 with (refine wpList_store_arr rfl 43 _ _ rfl w1.heap.size rfl (intV (cwR xs c)).toArray rfl _ _ (unhide HNN) (sizeA (unhide HLC)) (by rw [intV_size, intV_size, unhide HLC]; rfl) (intV_one _) ?_; intro w2 hn2 hk2 hs2; have HD2 : Hid (Dn w w2 w.heap.size (w.heap.size + 1) w1.heap.size (.slice none 0 0) 0 (cwR xs c)) := hide ⟨(hk2.block w.heap.size (by rw [World.size_alloc]; have := unhide HLT; omega) (by have := unhide HLT; omega)).trans (block_of_below (unhide HO1) (unhide HA1)), (hk2.block (w.heap.size + 1) (by rw [World.size_alloc]; have := unhide HLT; omega) (by have := unhide HLT; omega)).trans (block_of_below (unhide HC1) (unhide HA1)), hn2, keep_one (fr (unhide HB1) (unhide HA1)) hk2 (by have := unhide HLT; omega), Nat.le_refl _, by omega, unhide HLT⟩; have HE2 := hide (((unhide HE1).below (unhide HA1)).keep hk2 (fun k hk => by have := (unhide HE1).pos; omega)); obtain ⟨cc2, cf2⟩ := cell_of1 (unhide HD2).c; clear hn2 hk2 hs2 HNN HB1 HO1 HC1 HE1 HA1)
  have HD3 := hide ((unhide HD2).setC (cwF xs c))
  have HE3 := hide ((unhide HE2).keep (Keep.setCell (S := fun k => k = w.heap.size + 1) (Keep.refl _ w2) (p := ⟨w.heap.size + 1, 0, none⟩) rfl (.int .i64 (cwF xs c))) (fun k hk => by have := HPS; omega))
  clear cc2 cf2 HD2 HE2
  revert HD3 HE3
  generalize (w2.setCell _ _) = W3
  intro HD3 HE3
  generalize w.heap.size + 1 = C at *
  generalize w1.heap.size = G at *
  obtain ⟨oc3, of3⟩ := cell_of1 (unhide HD3).o
  obtain ⟨cc3, cf3⟩ := cell_of1 (unhide HD3).c
  have hne : w.heap.size ≠ C := by have := (unhide HD3).oc; omega
  have hne' : C ≠ w.heap.size := by have := (unhide HD3).oc; omega
  rcases cw_cases xs c with ⟨h0, h1, _, _, h2, h3⟩ | ⟨hb, h0, h1, q, rfl, hq⟩
  · have b0 := cw_ne h0
    have HF := hide (And.intro h2 h3)
    have HD4 := hide ((unhide HD3).setOC (.slice none 0 0) (cwF xs c))
    clear h0 h1 h2 h3
    go_wp2
    go_region
    all_goals
      go_wp2
      obtain ⟨r1, r2⟩ := two_cells (u := .slice none 0 0) (v := .int .i64 (cwF xs c)) oc3 cc3 hne
      simp [bodyPostD, Leaves, results, Tryd.results14, go_sem, r1, r2]
      refine ⟨.slice none 0 0, ?_, by rw [(unhide HF).2]; exact OwnN.nil _ _ _, (unhide HD4).k.drew⟩
      first | exact ⟨rfl, (unhide HF).1.symm⟩ | exact ret_ni rfl (unhide HF).1.symm
  · have HAT := hide (ctB_at hb q hq)
    have HDN := hide (dn_at h0 hq)
    have H24 := hide (ctB_len hb)
    have HD4 : Hid (Dn w W3 w.heap.size C G (.slice none 0 0) (cwF xs q) xs) := hide (by have := unhide HD3; rw [h1] at this; exact this)
    rw [h0] at HD4 cc3
    rw [h0]
    clear h1 h0 hb HD3 HLC
    by_cases hz : xs[q] = 0
    · have HF := hide ((unhide HDN).1 hz)
      have HZ := hide hz
      clear hz
      go_wp2_with fail
      refine (less_no G q xs _ (unhide HD4).g (unhide H24) hq (unhide HZ) (unhide HE3)).mono ?_
      rintro e w4 ⟨⟨u, pv, rfl⟩, hw⟩
      replace hw := hw.symm
      subst hw
      go_wp2
      refine leaves_cons (f := 31) (args := #[.pointer (some ⟨G, 0, none⟩), .pointer (some ⟨w.heap.size, 0, none⟩), .pointer (some ⟨C, 0, none⟩)]) (by simp) (by simp [go_sem]) ?_
      refine (catchC_panicking G w.heap.size C xs _ _ u pv [] _ (unhide HD4).g (unhide H24) (unhide HD4).o (unhide HD4).c hne).mono ?_
      rintro e u' w'' ⟨rfl, rfl, g, ⟨w5, rfl, ho, hb⟩⟩
      have HD5 := hide ((unhide HD4).step hb)
      obtain ⟨r1, r2⟩ := two_cells (u := .slice (some ⟨g, 0, none⟩) 24 24) (v := .int .i64 5) (cell_of1 (unhide HD5).o).1 (cell_of1 (unhide HD5).c).1 hne
      have HOW := hide (dn_own ho (unhide H24) (Array.getElem?_eq_some_iff.1 (unhide HD4).o).1 (Array.getElem?_eq_some_iff.1 (unhide HD4).c).1 (.slice (some ⟨g, 0, none⟩) 24 24) (.int .i64 5) (unhide HD4).k.size)
      have HD6 := hide ((unhide HD5).setOC (.slice (some ⟨g, 0, none⟩) 24 24) 5)
      clear ho hb
      simp [Leaves, settle, results, Tryd.results14, go_sem, r1, r2]
      refine ⟨.slice (some ⟨g, 0, none⟩) 24 24, ?_, by rw [(unhide HF).2]; exact unhide HOW, (unhide HD6).k⟩
      first | exact ⟨rfl, (unhide HF).1.symm⟩ | exact ret_ni rfl (unhide HF).1.symm
    · have HF := hide ((unhide HDN).2 hz)
      have HZ := hide hz
      clear hz
      go_wp2_with fail
      refine (less_yes G q xs _ (unhide HD4).g (unhide H24) hq (unhide HZ) (unhide HAT)).mono ?_
      rintro e w4 ⟨rfl, hg4, hk4⟩
      have HD5 := hide ((unhide HD4).less hg4 hk4)
      have HL5 : Hid ((xs.set q (xs[q] - 1)).length = 24) := hide (by rw [List.length_set]; exact unhide H24)
      clear hg4 hk4 oc3 of3 cc3 cf3
      go_wp2_with (refine wpList_load_arr rfl 43 _ rfl G rfl (intV (xs.set q (xs[q] - 1))).toArray _ _ (unhide HD5).g und24 rfl (sizeA (unhide HL5)) ?_)
      refine (list_any (xs.set q (xs[q] - 1)) _ (unhide HL5)).mono ?_
      rintro e w5 ⟨g, rfl, ho, hb⟩
      have HD6 := hide ((unhide HD5).step hb)
      obtain ⟨oc6, of6⟩ := cell_of1 (unhide HD6).o
      obtain ⟨cc6, cf6⟩ := cell_of1 (unhide HD6).c
      obtain ⟨r1, r2⟩ := two_cells (u := .slice (some ⟨g, 0, none⟩) 24 24) (v := .int .i64 0) oc6 cc6 hne
      have HOW := hide (dn_own ho (unhide HL5) (Array.getElem?_eq_some_iff.1 (unhide HD5).o).1 (Array.getElem?_eq_some_iff.1 (unhide HD5).c).1 (.slice (some ⟨g, 0, none⟩) 24 24) (.int .i64 0) (unhide HD5).k.size)
      have HD7 := hide ((unhide HD6).setOC (.slice (some ⟨g, 0, none⟩) 24 24) 0)
      clear ho hb
      go_wp2
      refine leaves_cons (f := 31) (args := #[.pointer (some ⟨G, 0, none⟩), .pointer (some ⟨w.heap.size, 0, none⟩), .pointer (some ⟨C, 0, none⟩)]) (by simp) (by simp [go_sem]) ?_
      refine (catchC_idle _ _ _ _).mono ?_
      rintro e u' w'' ⟨rfl, rfl, rfl⟩
      simp [Leaves, settle, results, Tryd.results14, go_sem, r1, r2]
      refine ⟨.slice (some ⟨g, 0, none⟩) 24 24, ?_, by rw [(unhide HF).2]; exact unhide HOW, (unhide HD7).k⟩
      first | exact ⟨rfl, (unhide HF).1.symm⟩ | exact ret_ni rfl (unhide HF).1.symm

end Go.Proofs.YtjmianalknnekaaDoor

/- What the proofs of this seat share: the variable errBelowZero as the row lists it, its cell; the door's own heap. -/
namespace Go.Proofs.YtjmianalknnekaaDoor
open Go.ChangeShapes Go.WideShapes Go.ChangeAt Go.RowKit

theorem gBz : Tryd.prog.globalNamed "loop.example/g00456/impl.errBelowZero" = some 0 := by kernel_rfl
theorem tBz : (Tryd.prog.globals[0]?).map (·.type) = some 68 := by kernel_rfl

abbrev laidZ : List (String × DataW Unit) := [("loop.example/g00456/impl.errBelowZero", Rows.laid_loop_example_g00456_impl_errBelowZero)]

/-- From the row's condition to what the walks ask. -/
theorem bz_of_laid {W : World} (h : laidMetH Tryd.prog laidZ W) : BzW W := by
  rw [MakeChecks.laidMetH_plain _ _ _ (by kernel_rfl)] at h
  obtain ⟨ps, ⟨g0, t0, cs0, f0, p0, q0, hg0, ht0, hv0, hd0, _⟩, _⟩ := h
  obtain rfl := Option.some.inj (gBz.symm.trans hg0)
  obtain rfl := Option.some.inj (tBz.symm.trans ht0)
  obtain ⟨f1, u, v, hcs, _, _⟩ := iface_of_trod Tryd.underlying68 hd0
  refine ⟨u, v, ?_⟩
  rw [World.var?_cell hg0 hv0 0]
  have e : cs0 = #[.iface u v] := by cases cs0; simpa using hcs
  rw [e]
  rfl

/-- The door's own heap meets the condition. -/
theorem bz_door (os : Os) (args : Array Value) : laidMetH Tryd.prog laidZ ((World.doorLaid Tryd.prog 400 os).forCall (fun _ _ => 0) ⟨#[], args, []⟩).memory :=
  laidMetH_of_parts3 (fuel := 8) (laidMet_of_run' 8 (by kernel_rfl) (by kernel_rfl)) (by kernel_rfl) (by kernel_rfl)

end Go.Proofs.YtjmianalknnekaaDoor

/- A slice of numbers of any kind that came in, opened: its cells. -/
namespace Go.Proofs.YtjmianalknnekaaDoor
open Go.ChangeShapes Go.WideShapes Go.ChangeAt Go.RowKit
set_option linter.unusedVariables false
set_option maxRecDepth 100000

theorem add_plain {a : Addr} {i : Nat} (h : a.spot = none) : a.add i = ⟨a.block, a.off + i, none⟩ := by
  unfold Addr.add
  by_cases hi : i = 0
  · subst hi; cases a; simp_all
  · simp [hi]

section
variable {H : Type} {enc : TypeId × Value → H} {P : Program} {w : World} {base b0 : Nat} {r : Reach} {spare : Nat → Bool} {held : Bool}
/-- A slice of numbers of any kind: its cells. -/
theorem open_Ns {t e : TypeId} {k : IntKind} {v : Value} {d : DataW H} {p : List MemPlace} (ht : P.underlying t = some (.slice e)) (he : P.underlying e = some (.int k)) (hc : P.cellsOf e = 1)
    (hv : Value.okWide P w r b0 t v) (h : DataW.Trod enc P w base spare held t v d p) :
    ∃ ao cap, ∃ xs : List Int, v = .slice ao xs.length cap ∧ xs.length ≤ maxLen ∧ (∀ i (h : i < xs.length), ∃ b off, ao = some ⟨b, off, none⟩ ∧ w.cell? ⟨b, off + i, none⟩ = some (.int k xs[i]) ∧ (Lit.int k xs[i]).wf = true) := by
  obtain ⟨ao, len, cap, rfl⟩ := okWide_slice ht hv
  obtain ⟨m, hm⟩ := h
  have hm' : DataW.trod enc P w base spare held m t [.slice ao len cap] = some (d, p) := hm
  rcases open_ints ht he hc hm' with ⟨hcs, _⟩ | ⟨a, len', cap', zs, hcs, _, hl, hcm, hz, _, hcell, hws⟩
  · simp only [List.cons.injEq, Value.slice.injEq, and_true] at hcs
    obtain ⟨rfl, rfl, rfl⟩ := hcs
    exact ⟨none, 0, [], rfl, Nat.zero_le _, fun i hi => absurd hi (Nat.not_lt_zero _)⟩
  · simp only [List.cons.injEq, Value.slice.injEq, and_true] at hcs
    obtain ⟨rfl, rfl, rfl⟩ := hcs
    have hlen : len ≤ zs.length := by rw [hz]; split <;> omega
    have htl : (zs.take len).length = len := by simp; omega
    refine ⟨some a, cap, zs.take len, by rw [htl], by omega, fun i hi => ?_⟩
    have hi' : i < len := by omega
    have h0 : a.spot = none := by
      have := World.cell?_spot (hcell 0 (by omega))
      simpa [Addr.add] using this
    have hci := hcell i (by omega)
    rw [add_plain h0] at hci
    have hg : (zs.take len)[i] = zs.getD i 0 := by
      rw [List.getElem_take]; simp [List.getD, show i < zs.length by omega]
    refine ⟨a.block, a.off, ?_, ?_, ?_⟩
    · cases a; simp_all
    · rw [hci, hg]
    · rw [hg]
      exact hws _ (by simp [List.getD, show i < zs.length by omega])
end

end Go.Proofs.YtjmianalknnekaaDoor

/- A slice of bytes that came in, opened: what it shows. -/
namespace Go.Proofs.YtjmianalknnekaaDoor
open Go.ChangeShapes Go.WideShapes Go.ChangeAt Go.RowKit
set_option linter.unusedVariables false
set_option maxRecDepth 100000

theorem cellsByte : Tryd.prog.cellsOf 5 = 1 := by kernel_rfl

theorem open_bytes {H : Type} {enc : TypeId × Value → H} {w : World} {base b0 : Nat} {r : Reach} {spare : Nat → Bool} {held : Bool} {v : Value} {d : DataW H} {p : List MemPlace}
    (hv : Value.okWide Tryd.prog w r b0 22 v) (h : DataW.Trod enc Tryd.prog w base spare held 22 v d p) : ∃ ao cap n, v = .slice ao n cap ∧ n ≤ maxLen ∧ Bs w ao n := by
  obtain ⟨ao, cap, xs, hv, hl, hx⟩ := open_Ns Tryd.underlying22 Tryd.underlying5 cellsByte hv h
  refine ⟨ao, cap, xs.length, hv, hl, fun i hi => ?_⟩
  obtain ⟨b, off, e, hc, hw⟩ := hx i hi
  have : 0 ≤ xs[i] ∧ xs[i] ≤ 255 := by simpa [Lit.wf, IntKind.min, IntKind.max, IntKind.signed, IntKind.bits] using hw
  exact ⟨b, off, xs[i], e, hc, this.1, this.2⟩

end Go.Proofs.YtjmianalknnekaaDoor

/- Contracts of impl.FreeCluster, impl.RefSum. -/
namespace Go.Proofs.YtjmianalknnekaaDoor
open Go.RowKit
set_option linter.unusedVariables false
set_option maxRecDepth 100000

theorem ctF_zero {xs : List Int} (h0 : ctF xs = 0) : ctB xs = true := by
  rcases ctF_cases xs with ⟨_, h, _⟩ | ⟨_, _, h, _⟩ | ⟨h, _⟩
  · rw [h0] at h; cases h
  · rw [h0] at h; cases h
  · exact h

set_option maxHeartbeats 1600000 in
theorem freeCluster_impl (ao : Option Addr) (cap : Nat) (xs : List Int) (w : World) (hl : xs.length ≤ maxLen) (hc : Is w ao xs) :
    Calls Tryd.prog 15 #[.slice ao xs.length cap] w fun e w' => e = .returned (.tuple #[.int .i64 (frR xs), .int .i64 (frC xs)]) ∧ Below w.heap.size w w' := by
  have HC := hide hc
  have HL := hide hl
  have HLC := hide (coR_len xs)
  clear hc
  go_enter Tryd.func15, Tryd.ntmps15
  go_wp2_with fail
  refine (countsOf_any ao cap xs _ (unhide HL) (unhide HC)).mono ?_
  rintro e w1 ⟨rfl, hb⟩
  have HB1 := hide hb
  have HSZ := hide hb.size
  clear hb HC
  have HNN := hide (arr_new w1)
  have HBB := hide (fr (unhide HB1) (Joins.below_alloc1 w1 (.cells #[.int .i64 0, .int .i64 0, .int .i64 0, .int .i64 0, .int .i64 0, .int .i64 0, .int .i64 0, .int .i64 0, .int .i64 0, .int .i64 0, .int .i64 0, .int .i64 0, .int .i64 0, .int .i64 0, .int .i64 0, .int .i64 0, .int .i64 0, .int .i64 0, .int .i64 0, .int .i64 0, .int .i64 0, .int .i64 0, .int .i64 0, .int .i64 0] 43)))
  by_cases h0 : ctF xs = 0
  · have HCO : Hid (coR xs = xs) := hide (if_pos h0)
    have HCB := hide (ctF_zero h0)
    rw [h0]
    clear h0
    go_upto_region 2 with (refine wpList_store_arr rfl 43 _ _ rfl w1.heap.size rfl (intV (coR xs)).toArray rfl _ _ (unhide HNN) (sizeA (unhide HLC)) (by rw [intV_size, intV_size, unhide HLC]; rfl) (intV_one _) ?_; intro w2 hn2 hk2 hs2; have HB2 := hide (keep_one (unhide HBB) hk2 (unhide HSZ)); clear hk2 hs2 HNN HBB HB1)
    have HN2 : Hid (VarC w2 w1.heap.size xs) := hide (by rw [unhide HCO] at hn2; exact hn2)
    clear hn2 HCO HLC
    generalize w1.heap.size = G at *
    go_wp2_with (refine wpList_load_arr rfl 43 _ rfl G rfl (intV xs).toArray _ _ (unhide HN2) und24 rfl (sizeA (ctB_len (unhide HCB))) ?_)
    go_loop [17] (fun i => ∃ k : Nat, k ≤ 24 ∧ i = .int .i64 k ∧ Hid (∀ j (hj : j < xs.length), j < k → decide (xs[j] ≠ 0) = true)) (fun i => 24 - (intOf i).toNat)
    case atStart => exact ⟨0, Nat.zero_le _, rfl, hide (fun j _ h => by omega)⟩
    case round =>
      obtain ⟨k, hk, rfl, HA⟩ := hrel
      by_cases hlt : k < 24
      · have hkx : k < xs.length := by rw [ctB_len (unhide HCB)]; exact hlt
        have hix := fun W => idx24 W xs k (ctB_len (unhide HCB)) hkx
        have hki : (k : Int) < 24 := by omega
        by_cases hz : xs[k] = 0
        · have HE := hide (frC_here (unhide HCB) hkx (fr_here hkx hz (unhide HA)))
          have bz : (xs[k] == 0) = true := by simp [hz]
          clear hz
          go_wp2
          go_ret2
          exact ⟨ret_two2 (unhide HE).2.symm (unhide HE).1.symm, unhide HB2⟩
        · have HN := hide (all_succ (p := fun n => decide (n ≠ 0)) hkx (unhide HA) (by simpa using hz))
          have bz : (xs[k] == 0) = false := by simp [hz]
          clear hz
          go_wp2
          go_round
          case rel => exact ⟨k + 1, by omega, by go_num, HN⟩
          case measure => simp [intOf]; omega
      · have HE := hide (frC_none (unhide HCB) (fr_none (fun j hj => unhide HA j hj (by have := ctB_len (unhide HCB); omega))))
        go_wp2
        go_ret2
        exact ⟨ret_two2 (unhide HE).2.symm (unhide HE).1.symm, unhide HB2⟩
  · have HE := hide (frC_bad h0)
    have hne := ctF_ne xs h0
    clear h0
    go_upto_region 2 with (refine wpList_store_arr rfl 43 _ _ rfl w1.heap.size rfl (intV (coR xs)).toArray rfl _ _ (unhide HNN) (sizeA (unhide HLC)) (by rw [intV_size, intV_size, unhide HLC]; rfl) (intV_one _) ?_; intro w2 hn2 hk2 hs2; have HB2 := hide (keep_one (unhide HBB) hk2 (unhide HSZ)); clear hk2 hs2 HNN HBB HB1)
    clear hn2
    go_wp2
    go_ret2
    exact ⟨ret_two2 (unhide HE).2.1.symm (unhide HE).1.symm, unhide HB2⟩

set_option maxHeartbeats 1600000 in
theorem refSum_impl (ao : Option Addr) (cap : Nat) (xs : List Int) (w : World) (hl : xs.length ≤ maxLen) (hc : Is w ao xs) :
    Calls Tryd.prog 11 #[.slice ao xs.length cap] w fun e w' => e = .returned (.tuple #[.int .i64 (smR xs), .int .i64 (ctF xs)]) ∧ Below w.heap.size w w' := by
  have HC := hide hc
  have HL := hide hl
  have HLC := hide (coR_len xs)
  clear hc
  go_enter Tryd.func11, Tryd.ntmps11
  go_wp2_with fail
  refine (countsOf_any ao cap xs _ (unhide HL) (unhide HC)).mono ?_
  rintro e w1 ⟨rfl, hb⟩
  have HB1 := hide hb
  have HSZ := hide hb.size
  clear hb HC
  have HNN := hide (arr_new w1)
  have HBB := hide (fr (unhide HB1) (Joins.below_alloc1 w1 (.cells #[.int .i64 0, .int .i64 0, .int .i64 0, .int .i64 0, .int .i64 0, .int .i64 0, .int .i64 0, .int .i64 0, .int .i64 0, .int .i64 0, .int .i64 0, .int .i64 0, .int .i64 0, .int .i64 0, .int .i64 0, .int .i64 0, .int .i64 0, .int .i64 0, .int .i64 0, .int .i64 0, .int .i64 0, .int .i64 0, .int .i64 0, .int .i64 0] 43)))
  by_cases h0 : ctF xs = 0
  · have HCO : Hid (coR xs = xs) := hide (if_pos h0)
    have HCB := hide (ctF_zero h0)
    have H0 := hide h0
    rw [h0]
    clear h0
    go_upto_region 2 with (refine wpList_store_arr rfl 43 _ _ rfl w1.heap.size rfl (intV (coR xs)).toArray rfl _ _ (unhide HNN) (sizeA (unhide HLC)) (by rw [intV_size, intV_size, unhide HLC]; rfl) (intV_one _) ?_; intro w2 hn2 hk2 hs2; have HB2 := hide (keep_one (unhide HBB) hk2 (unhide HSZ)); clear hk2 hs2 HNN HBB HB1)
    have HN2 : Hid (VarC w2 w1.heap.size xs) := hide (by rw [unhide HCO] at hn2; exact hn2)
    clear hn2 HCO HLC
    generalize w1.heap.size = G at *
    go_wp2_with (refine wpList_load_arr rfl 43 _ rfl G rfl (intV xs).toArray _ _ (unhide HN2) und24 rfl (sizeA (ctB_len (unhide HCB))) ?_)
    go_loop [6, 18] (fun s i => ∃ k : Nat, k ≤ 24 ∧ i = .int .i64 k ∧ s = .int .i64 ((xs.take k).sum)) (fun _ i => 24 - (intOf i).toNat)
    case atStart => exact ⟨0, Nat.zero_le _, rfl, by simp⟩
    case round =>
      obtain ⟨k, hk, rfl, rfl⟩ := hrel
      by_cases hlt : k < 24
      · have hkx : k < xs.length := by rw [ctB_len (unhide HCB)]; exact hlt
        have hix := fun W => idx24 W xs k (ctB_len (unhide HCB)) hkx
        have hki : (k : Int) < 24 := by omega
        have HS := hide (sum_take hkx)
        obtain ⟨s0, s1⟩ := sum_in (unhide HCB) k (by omega)
        obtain ⟨g0, g1⟩ := ctB_at (unhide HCB) k hkx
        generalize (xs.take k).sum = V at *
        go_wp2
        go_round
        case rel => exact ⟨k + 1, by omega, by go_num, by rw [unhide HS]⟩
        case measure => simp [intOf]; omega
      · have HE := hide (sum_all (k := k) (unhide HCB) (by have := ctB_len (unhide HCB); omega))
        go_wp2
        go_ret2
        exact ⟨ret_two2 (unhide HE).symm (unhide H0).symm, unhide HB2⟩
  · have HE := hide (frC_bad h0)
    have hne := ctF_ne xs h0
    clear h0
    go_upto_region 2 with (refine wpList_store_arr rfl 43 _ _ rfl w1.heap.size rfl (intV (coR xs)).toArray rfl _ _ (unhide HNN) (sizeA (unhide HLC)) (by rw [intV_size, intV_size, unhide HLC]; rfl) (intV_one _) ?_; intro w2 hn2 hk2 hs2; have HB2 := hide (keep_one (unhide HBB) hk2 (unhide HSZ)); clear hk2 hs2 HNN HBB HB1)
    clear hn2
    go_wp2
    go_ret2
    exact ⟨ret_two2 (unhide HE).2.2.symm rfl, unhide HB2⟩

end Go.Proofs.YtjmianalknnekaaDoor

/- What stays beside a source of choices; contract of spec.l00Source. -/
namespace Go.Proofs.YtjmianalknnekaaDoor
open Go.RowKit
set_option linter.unusedVariables false
set_option maxRecDepth 100000

theorem keep_cell {S : Nat → Prop} {w w' : World} {a : Addr} {v : Value} (hk : Keep S w w') (ha : ¬ S a.block) (h : w.cell? a = some v) : w'.cell? a = some v := by
  have hl := World.block_lt_of_cell? _ _ h
  rw [← h]
  unfold World.cell?
  simp only [hk.block a.block hl ha]
theorem keep_new {w w1 w2 : World} {b : Nat} {S : Nat → Prop} (h : Keep (fun k => k = b) w w1) (hk : Keep S w1 w2) (hs : ∀ k, S k → w.heap.size ≤ k ∨ k = b) : Keep (fun k => k = b) w w2 :=
  ⟨hk.os.trans h.os, hk.tape.trans h.tape, hk.output.trans h.output, Nat.le_trans h.size hk.size, fun k hl hn => (hk.block k (Nat.lt_of_lt_of_le hl h.size) (fun hS => by
    rcases hs k hS with h1 | h1
    · omega
    · exact hn h1)).trans (h.block k hl hn)⟩
theorem SrcK.other {w w1 w2 : World} {b : Nat} {ao : Option Addr} {n cap m m0 : Nat} {S : Nat → Prop} (h0 : SrcK w b ao n cap m0) (h : SrcK w1 b ao n cap m) (hw : Keep (fun k => k = b) w w2) (hk : Keep S w1 w2) (hs : ¬ S b) : SrcK w2 b ao n cap m := by
  obtain ⟨x0, y0, _, _, _, _, hblk0⟩ := h0.src
  obtain ⟨x, y, c0, c1, c2, c3, c4⟩ := h.src
  refine ⟨⟨x, y, c0, c1, c2, c3, ?_⟩, h0.bytes.keep hblk0 (fun z h => by cases h) hw⟩
  rw [hk.block b (Array.getElem?_eq_some_iff.1 c4).1 hs]; exact c4

theorem source_any (ao : Option Addr) (n cap : Nat) (w : World) (hn : n ≤ 1048576) (hB : Bs w ao n) :
    Calls Tryd.prog 21 #[.slice ao n cap] w fun e w' => e = .returned (.pointer (some ⟨w.heap.size, 0, none⟩)) ∧ SrcK w' w.heap.size ao n cap 0 ∧ Below w.heap.size w w' ∧ w'.heap.size = w.heap.size + 1 := by
  go_enter Tryd.func21, Tryd.ntmps21
  go_wp2
  go_ret
  exact ⟨rfl, ⟨⟨0, (n : Int) % 1000, by omega, by omega, by omega, by omega, heap_alloc_new w _⟩, hB.below (Joins.below_alloc1 _ _)⟩, Joins.below_alloc1 _ _, by simp⟩

theorem keep_drop {w w' : World} {b : Nat} (h : Keep (fun k => k = b ∨ w.heap.size ≤ k) w w') : Keep (fun k => k = b) w w' :=
  ⟨h.os, h.tape, h.output, h.size, fun k hl hn => h.block k hl (fun e => by
    rcases e with e | e
    · exact hn e
    · omega)⟩
theorem blk_keep {S : Nat → Prop} {w w' : World} {k : Nat} {o : Obj} (hk : Keep S w w') (hs : ¬ S k) (h : w.heap[k]? = some o) : w'.heap[k]? = some o := by
  rw [hk.block k (Array.getElem?_eq_some_iff.1 h).1 hs]; exact h
theorem blk_below {w w' : World} {k : Nat} {o : Obj} (hk : Below w.heap.size w w') (h : w.heap[k]? = some o) : w'.heap[k]? = some o := by
  rw [hk.block k (Array.getElem?_eq_some_iff.1 h).1]; exact h
theorem blk_lt {w : World} {k : Nat} {o : Obj} (h : w.heap[k]? = some o) : k < w.heap.size := (Array.getElem?_eq_some_iff.1 h).1

end Go.Proofs.YtjmianalknnekaaDoor

/- Contracts of SumOf, of the program and of its model. -/
namespace Go.Proofs.YtjmianalknnekaaDoor
open Go.RowKit
set_option linter.unusedVariables false
set_option maxRecDepth 100000

theorem l02Sum_any (s : ByteArray) (w : World) (hs : s.size ≤ 1048576) :
    Calls Tryd.prog 52 #[.string s] w fun e w' => e = .returned (.int .i64 (sumS s)) ∧ w' = w := by
  go_enter Tryd.func52, Tryd.ntmps52
  go_wp2
  go_loop [3, 4] (fun n i => ∃ k : Nat, k ≤ s.size ∧ i = .int .i64 k ∧ n = .int .i64 (sumTo s k)) (fun _ i => s.size - (intOf i).toNat)
  case atStart => exact ⟨0, Nat.zero_le _, rfl, rfl⟩
  case round =>
    obtain ⟨k, hk, rfl, rfl⟩ := hrel
    by_cases hlt : k < s.size
    · have HN := hide (sumTo_walk hlt (by omega))
      go_wp2
      go_round
      case rel => exact ⟨k + 1, by omega, by go_num, by rw [← unhide HN]⟩
      case measure => simp [intOf]; omega
    · go_wp2
      go_ret
      exact ⟨ret_int (by rw [sumS, show k = s.size by omega]), rfl⟩

theorem sumOf_impl (s : ByteArray) (w : World) (hs : s.size ≤ 1048576) :
    Calls Tryd.prog 50 #[.string s] w fun e w' => e = .returned (.int .i64 (sumC s)) ∧ w' = w := by
  by_cases h1 : 65536 < s.size
  · have HF := hide (sumC_long h1)
    go_enter Tryd.func50, Tryd.ntmps50
    go_wp2
    go_ret
    exact ⟨ret_int (unhide HF).symm, rfl⟩
  have HF := hide (sumC_short (s := s) (by omega))
  go_enter Tryd.func50, Tryd.ntmps50
  go_wp2
  go_loop [3, 4] (fun n i => ∃ k : Nat, k ≤ s.size ∧ i = .int .i64 k ∧ n = .int .i64 (sumTo s k)) (fun _ i => s.size - (intOf i).toNat)
  case atStart => exact ⟨0, Nat.zero_le _, rfl, rfl⟩
  case round =>
    obtain ⟨k, hk, rfl, rfl⟩ := hrel
    by_cases hlt : k < s.size
    · have HN := hide (sumTo_walk hlt (by omega))
      go_wp2
      go_round
      case rel => exact ⟨k + 1, by omega, by go_num, by rw [← unhide HN]⟩
      case measure => simp [intOf]; omega
    · go_wp2
      go_ret
      exact ⟨ret_int (by rw [unhide HF, sumS, show k = s.size by omega]), rfl⟩

end Go.Proofs.YtjmianalknnekaaDoor

/- Contracts of spec.l02Pack and impl.packNumbers. -/
namespace Go.Proofs.YtjmianalknnekaaDoor
open Go.RowKit
set_option linter.unusedVariables false

theorem infoB : (Tryd.prog.info? 5).map (fun i => (i.zero, i.size, i.bytes)) = some (some (.int .u8 0), 1, 1) := by kernel_rfl

theorem ret_str {a b : ByteArray} (h : a = b) : Ending.returned (.string a) = .returned (.string b) := by rw [h]

set_option maxRecDepth 100000 in
set_option maxHeartbeats 1600000 in
theorem l02Pack_any (ao : Option Addr) (cap : Nat) (xs : List Int) (w : World) (hl : xs.length ≤ 4096) (hn : ∀ j (h : j < xs.length), 0 ≤ xs[j] ∧ xs[j] ≤ 2147483647) (hc : Is w ao xs) :
    Calls Tryd.prog 51 #[.slice ao xs.length cap] w fun e w' => e = .returned (.string (packS xs)) ∧ Below w.heap.size w w' := by
  have HC := hide hc
  have HN := hide hn
  clear hc hn
  obtain ⟨j0, hj, hy0, hy1, hy2⟩ := info_parts infoB
  go_enter Tryd.func51, Tryd.ntmps51
  go_wp2
  go_loopw [3, 4] (fun o i wr => ∃ (k : Nat) (qo : Option Addr) (qa : Nat), k ≤ xs.length ∧ i = .int .i64 k ∧ o = .slice qo (k * 4) qa ∧ Hid (OwnR wr w.heap.size 5 1 (.slice qo (k * 4) qa) (k * 4) (byteV (packL (xs.take k)))) ∧ Hid (Below w.heap.size w wr)) (fun _ i _ => xs.length - (intOf i).toNat)
  case atStart => exact ⟨0, _, _, Nat.zero_le _, rfl, rfl, hide (.inl ⟨rfl, rfl, _, rfl⟩), hide (by first | exact Below.refl _ _ | exact Joins.below_alloc1 _ _)⟩
  case round =>
    obtain ⟨k, qo, qa, hk, rfl, rfl, HO, HB⟩ := hrel
    by_cases hlt : k < xs.length
    · obtain ⟨b, off, rfl, hc⟩ := (unhide HC).below (unhide HB) k hlt
      obtain ⟨h0, h1⟩ := unhide HN k hlt
      go_wp2
      go_loopw [3, 5, 6] (fun o m i wq => ∃ (j : Nat) (qo : Option Addr) (qa : Nat), j ≤ 4 ∧ i = .int .i64 j ∧ m = .int .i64 (shN xs[k] j) ∧ o = .slice qo (k * 4 + j) qa ∧ Hid (OwnR wq w.heap.size 5 1 (.slice qo (k * 4 + j) qa) (k * 4 + j) (byteV (packL (xs.take k) ++ fourTo xs[k] j))) ∧ Hid (Below w.heap.size w wq)) (fun _ _ i _ => 4 - (intOf i).toNat)
      case atStart => exact ⟨0, qo, qa, by omega, rfl, by simp [shN], rfl, hide (by simpa [fourTo] using unhide HO), HB⟩
      case round =>
        clear HO HB
        obtain ⟨j, qo, qa, hj4, rfl, rfl, rfl, HO, HB⟩ := hrel
        obtain ⟨hs0, hs1⟩ := shN_in h0 h1 j
        by_cases hj4 : j < 4
        · have HOA := hide ((unhide HO).below (Joins.below_alloc1 _ (.cells #[.int .u8 (shN xs[k] j % 256)] 5)))
          have HBA := hide (fr (unhide HB) (Joins.below_alloc1 _ (.cells #[.int .u8 (shN xs[k] j % 256)] 5)))
          have HSZ := hide (unhide HB).size
          have HSH := hide (shN_succ xs[k] j)
          go_wp2_with (at_builtin; refine wpList_append_one rfl _ _ 22 rfl w.heap.size 5 j0 (.int .u8 0) 1 1 Tryd.underlying22 hj hy0 hy1 hy2 rfl (by omega) qo (k * 4 + j) qa (byteV (packL (xs.take k) ++ fourTo xs[k] j)) rfl (unhide HOA) (by have := unhide HSZ; simp; omega) ⟨wr.heap.size, 0, none⟩ _ [.int .u8 (shN xs[k] j % 256)] rfl rfl (byte_news wr _ _) (byte_one _) (by unfold maxLen; omega) (by omega) ?_; intro g2 cap2 wA hoA hkA; have HSF := hide (And.intro hoA (keep_below (unhide HBA) (unhide HOA) (Nat.le_refl _) hkA)); clear hoA hkA)
          go_roundw
          case rel => exact ⟨j + 1, _, _, by omega, by go_num, by rw [unhide HSH], rfl, hide (.inr ⟨by omega, by rw [fourTo_succ, ← List.append_assoc, byteV_snoc, ← shN_byte]; exact (unhide HSF).1⟩), hide (unhide HSF).2⟩
          case measure => simp [intOf]; omega
        · have HE : Hid (j = 4) := hide (by omega)
          go_wp2
          go_roundw
          case rel => exact ⟨k + 1, qo, qa, by omega, by go_num, by rw [unhide HE, show (k + 1) * 4 = k * 4 + 4 by omega], hide (by have := unhide HO; rw [unhide HE] at this; rw [packL_succ hlt, show (k + 1) * 4 = k * 4 + 4 by omega]; exact this), HB⟩
          case measure => simp [intOf]; omega
    · have HE : Hid (xs.take k = xs) := hide (List.take_of_length_le (by omega))
      have hcv := convert_own (P := Tryd.prog) Tryd.underlying22 Tryd.underlying5 Tryd.underlying9 (unhide HO)
      go_wp2
      go_ret
      exact ⟨ret_str (by rw [unhide HE]; rfl), unhide HB⟩

end Go.Proofs.YtjmianalknnekaaDoor
