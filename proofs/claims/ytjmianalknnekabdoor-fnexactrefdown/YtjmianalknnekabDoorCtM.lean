/- Contracts of impl.RefDown and of what it calls: less, which panics below 0, and the deferred call that recovers it. -/
import Derived.Test.YtjmianalknnekabDoorRows
import Derived.Test.YtjmianalknnekabDoorGen
import Derived.Test.YtjmianalknnekabDoorKeep
import Derived.Test.YtjmianalknnekabDoorInts
import Derived.Test.YtjmianalknnekabDoorOwnN
import Derived.Test.YtjmianalknnekabDoorClkB
import Derived.Test.YtjmianalknnekabDoorArrV
import Derived.Test.YtjmianalknnekabDoorCtP
import Derived.Test.YtjmianalknnekabDoorUnI
import Derived.Test.YtjmianalknnekabDoorCtI
import Derived.Test.YtjmianalknnekabDoorCtJ
import Derived.WalkKit
import Derived.WalkSpells
import Derived.KernelRfl
import Derived.LoopN
import Derived.BigQuiet
import Derived.Deep.QuietTactic
import Derived.Deep.CutRange
import Derived.Deep.RegionWith
import Derived.Laws.ResultCell
import Derived.Defers
import Derived.Recover
import Derived.Deep.MidRow
namespace Go.Proofs.YtjmianalknnekabDoor
open Go.RowKit
set_option linter.unusedVariables false
set_option maxRecDepth 100000

def BzW (w : World) : Prop := ∃ u pv, w.cell? ⟨0, 0, none⟩ = some (.iface u pv)
theorem BzW.below {w w' : World} (h : BzW w) (hb : Below w.heap.size w w') : BzW w' := by
  obtain ⟨u, pv, hc⟩ := h
  exact ⟨u, pv, (hb.cell (p := ⟨0, 0, none⟩) (World.block_lt_of_cell? _ _ hc)).trans hc⟩
theorem BzW.keep {w w' : World} {S : Nat → Prop} (h : BzW w) (hk : Keep S w w') (hs : ∀ k, S k → 0 ≠ k) : BzW w' := by
  obtain ⟨u, pv, hc⟩ := h
  refine ⟨u, pv, ?_⟩
  have hl := World.block_lt_of_cell? _ _ hc
  rw [← hc]
  unfold World.cell?
  simp only [hk.block 0 hl (fun hS => hs _ hS rfl)]
theorem BzW.pos {w : World} (h : BzW w) : 0 < w.heap.size := by
  obtain ⟨u, pv, hc⟩ := h
  exact World.block_lt_of_cell? _ _ hc

set_option maxHeartbeats 1600000 in
theorem less_yes (g q : Nat) (xs : List Int) (w : World) (hv : VarC w g xs) (hl : xs.length = 24) (hq : q < xs.length) (h0 : ¬ xs[q] = 0) (hr : 0 ≤ xs[q] ∧ xs[q] ≤ 15) :
    Calls Tryd.prog 27 #[.pointer (some ⟨g, 0, none⟩), .int .i64 q] w fun e w' => e = .returned (.tuple #[]) ∧ VarC w' g (xs.set q (xs[q] - 1)) ∧ Keep (fun k => k = g) w w' := by
  have hcell := arr_cell hv hq
  have hfz := Joins.unfrozen_of_block hv q
  have hq24 : (q : Int) < 24 := by omega
  have hq24' : q < 24 := by omega
  have b0 : (xs[q] == 0) = false := by simp [h0]
  have hwr : IntKind.i64.wrap (xs[q] - 1) = xs[q] - 1 := by rw [IntKind.wrap_i64]; omega
  have HS := hide (arr_set hv q (xs[q] - 1))
  have HK := hide (Keep.setCell (S := fun k => k = g) (Keep.refl _ w) (p := ⟨g, q, none⟩) rfl (.int .i64 (xs[q] - 1)))
  clear hv h0 hl
  go_enter Tryd.func27, Tryd.ntmps27
  go_wp2
  go_region
  all_goals
    go_wp2
    go_end0
    exact ⟨rfl, unhide HS, ⟨(unhide HK).os, (unhide HK).tape, (unhide HK).output, (unhide HK).size, (unhide HK).block⟩⟩

set_option maxHeartbeats 1600000 in
theorem less_no (g q : Nat) (xs : List Int) (w : World) (hv : VarC w g xs) (hl : xs.length = 24) (hq : q < xs.length) (h0 : xs[q] = 0) (hE : BzW w) :
    Calls Tryd.prog 27 #[.pointer (some ⟨g, 0, none⟩), .int .i64 q] w fun e w' => (∃ u pv, e = .panicked [{ v := .iface u pv, recovered := false }]) ∧ w' = w := by
  obtain ⟨u, pv, hc⟩ := hE
  have hp := fun w => run_panic_iface Tryd.prog w u pv
  have hcell := arr_cell hv hq
  have hq24 : (q : Int) < 24 := by omega
  have hq24' : q < 24 := by omega
  have b0 : (xs[q] == 0) = true := by simp [h0]
  clear hv h0 hl
  go_enter Tryd.func27, Tryd.ntmps27
  go_wp2
  exact ⟨rfl, ⟨u, pv, rfl⟩, rfl⟩

/-- What the recovering call leaves behind. -/
structure Caught (w W : World) (O C g : Nat) (n : Int) (xs : List Int) : Prop where
  w1 : ∃ w1, W = (w1.setCell ⟨O, 0, none⟩ (.slice (some ⟨g, 0, none⟩) 24 24)).setCell ⟨C, 0, none⟩ (.int .i64 n) ∧ w1.ownsRow w.heap.size 3 1 (.slice (some ⟨g, 0, none⟩) 24 24) 24 (intV xs) ∧ Below w.heap.size w w1

set_option maxHeartbeats 1600000 in
theorem catchC_panicking (G O C : Nat) (xs : List Int) (x : Value) (y : Int) (u : TypeId) (pv : Value) (older : List PanicEntry) (w : World) (hv : VarC w G xs) (hl : xs.length = 24)
    (hO : w.heap[O]? = some (.cells #[x] 22 (0, 0))) (hC : w.heap[C]? = some (.cells #[.int .i64 y] 3 (0, 0))) (hOC : O ≠ C) :
    CallsD Tryd.prog 25 #[.pointer (some ⟨G, 0, none⟩), .pointer (some ⟨O, 0, none⟩), .pointer (some ⟨C, 0, none⟩)] (.panicking ({ v := .iface u pv, recovered := false } :: older)) w fun e u' w' =>
      e = .returned (.tuple #[]) ∧ u' = .panicking ({ v := .iface u pv, recovered := true } :: older) ∧ ∃ g, Caught w w' O C g 5 xs := by
  refine callsD_of_wpS Tryd.func25 rfl fun c₀ cs hu => ?_
  apply wpS_seq
  apply wpS_region
  simp [wpOpsS, go_sem, recoverD, hu, Tryd.ntmps25, Exit.thenS]
  refine wpS_cond (t := true) (by simp [Act.eval, Array.replicate]) ?_
  simp only [if_true]
  refine wpS_of_wp ?_
  have HV := hide hv
  have HL := hide hl
  have HOO := hide hO
  have HCC := hide hC
  have HOC := hide hOC
  clear hv hl hO hC hOC hu
  show Code.wp Tryd.prog _ _ ({ tmps := #[.pointer (some ⟨G, 0, none⟩), .pointer (some ⟨O, 0, none⟩), .pointer (some ⟨C, 0, none⟩), .iface u pv, .bool true, undef, undef], defers := [] } : Act) w
  go_wp2_with (refine wpList_load_arr rfl 53 _ rfl G rfl (intV xs).toArray _ _ (unhide HV) und24 rfl (sizeA (unhide HL)) ?_)
  refine (list_any xs _ (unhide HL)).mono ?_
  rintro e w1 ⟨g, rfl, ho, hb⟩
  have hOc := block_of_below (unhide HOO) hb
  have hCc := block_of_below (unhide HCC) hb
  have oc0 : w1.cell? ⟨O, 0, none⟩ = some x := by rw [Joins.cell_of_block hOc]; rfl
  have of0 := Joins.unfrozen_of_block hOc 0
  have cc0 : w1.cell? ⟨C, 0, none⟩ = some (.int .i64 y) := by rw [Joins.cell_of_block hCc]; rfl
  have cf0 := Joins.unfrozen_of_block hCc 0
  have hne : O ≠ C := unhide HOC
  have hne' : C ≠ O := fun h => unhide HOC h.symm
  have HR := hide (And.intro ho hb)
  clear ho hb hOc hCc
  go_wp2
  exact ⟨rfl, _, rfl, .tuple #[], by simp [results, Tryd.results25], rfl, rfl, g, ⟨⟨w1, rfl, (unhide HR).1, (unhide HR).2⟩⟩⟩

theorem catchC_idle (p q r : Addr) (w : World) :
    CallsD Tryd.prog 25 #[.pointer (some p), .pointer (some q), .pointer (some r)] .returning w fun e u' w' => e = .returned (.tuple #[]) ∧ u' = .returning ∧ w' = w := by
  refine callsD_of_wpS Tryd.func25 rfl fun c₀ cs hu => ?_
  apply wpS_seq
  apply wpS_region
  simp [wpOpsS, go_sem, recoverD, hu, Tryd.ntmps25, Exit.thenS]
  refine wpS_cond (t := false) (by simp [Act.eval, Array.replicate]) ?_
  simp only [Bool.false_eq_true, if_false]
  refine wpS_of_wp (wp_skip ?_)
  cases c₀
  simp_all [bodyPostS, results, Tryd.results25]

theorem cell_of1 {W : World} {b : Nat} {v : Value} {t : TypeId} (h : W.heap[b]? = some (.cells #[v] t (0, 0))) : W.cell? ⟨b, 0, none⟩ = some v ∧ W.frozen? ⟨b, 0, none⟩ = false := ⟨by rw [Joins.cell_of_block h]; rfl, Joins.unfrozen_of_block h 0⟩
theorem set_of1 {W : World} {b : Nat} {v : Value} {t : TypeId} (h : W.heap[b]? = some (.cells #[v] t (0, 0))) (u : Value) : (W.setCell ⟨b, 0, none⟩ u).heap[b]? = some (.cells #[u] t (0, 0)) := Joins.block_setCell h u
theorem set_oth {W : World} {b k : Nat} {o : Obj} (h : W.heap[k]? = some o) (hk : k ≠ b) (u : Value) : (W.setCell ⟨b, 0, none⟩ u).heap[k]? = some o := by
  rw [Below.heap_setCell W ⟨b, 0, none⟩ u k hk]; exact h

/-- RefDown's variables: the answer, its code, the counts. -/
structure Dn (w W : World) (O C G : Nat) (x : Value) (n : Int) (xs : List Int) : Prop where
  o : W.heap[O]? = some (.cells #[x] 22 (0, 0))
  c : W.heap[C]? = some (.cells #[.int .i64 n] 3 (0, 0))
  g : VarC W G xs
  k : Below w.heap.size w W
  oo : w.heap.size ≤ O
  oc : O < C
  cg : C < G
theorem Dn.step {w W W' : World} {O C G : Nat} {x : Value} {n : Int} {xs : List Int} (h : Dn w W O C G x n xs) (hb : Below W.heap.size W W') : Dn w W' O C G x n xs :=
  ⟨block_of_below h.o hb, block_of_below h.c hb, block_of_below h.g hb, fr h.k hb, h.oo, h.oc, h.cg⟩
theorem Dn.less {w W W' : World} {O C G : Nat} {x : Value} {n : Int} {xs ys : List Int} (h : Dn w W O C G x n xs) (hg : VarC W' G ys) (hk : Keep (fun k => k = G) W W') : Dn w W' O C G x n ys :=
  ⟨(hk.block O (Array.getElem?_eq_some_iff.1 h.o).1 (by have := h.oc; have := h.cg; omega)).trans h.o, (hk.block C (Array.getElem?_eq_some_iff.1 h.c).1 (by have := h.cg; omega)).trans h.c, hg, keep_one h.k hk (by have := h.oo; have := h.oc; have := h.cg; omega), h.oo, h.oc, h.cg⟩
/-- The row that is answered, behind the two last stores. -/
theorem dn_own {W : World} {B O C g : Nat} {xs : List Int} (ho : W.ownsRow B 3 1 (.slice (some ⟨g, 0, none⟩) 24 24) 24 (intV xs)) (hl : xs.length = 24) (hO : O < B) (hC : C < B) (u v : Value) {B' : Nat} (hB : B' ≤ B) : OwnN ((W.setCell ⟨O, 0, none⟩ u).setCell ⟨C, 0, none⟩ v) B' (.slice (some ⟨g, 0, none⟩) 24 24) xs := by
  have h := own24 ho hl
  obtain ⟨qo, qa, e, hr⟩ := h
  exact ⟨qo, qa, e, ((hr.setCell (a := ⟨O, 0, none⟩) hO u).setCell (a := ⟨C, 0, none⟩) hC v).base hB⟩
theorem two_cells {W : World} {O C : Nat} {x y u v : Value} (ho : W.cell? ⟨O, 0, none⟩ = some x) (hc : W.cell? ⟨C, 0, none⟩ = some y) (hne : O ≠ C) : ((W.setCell ⟨O, 0, none⟩ u).setCell ⟨C, 0, none⟩ v).cell? ⟨O, 0, none⟩ = some u ∧ ((W.setCell ⟨O, 0, none⟩ u).setCell ⟨C, 0, none⟩ v).cell? ⟨C, 0, none⟩ = some v := by
  have hne' : ¬ C = O := fun h => hne h.symm
  constructor
  · rw [World.cell?_setCell_other _ _ _ _ (by simp), World.cell?_setCell_same _ _ _ ho]
  · refine World.cell?_setCell_same _ _ _ (u := y) ?_
    rw [World.cell?_setCell_other _ _ _ _ (by simp), hc]

theorem Dn.setC {w W : World} {O C G : Nat} {x : Value} {n : Int} {xs : List Int} (h : Dn w W O C G x n xs) (m : Int) : Dn w (W.setCell ⟨C, 0, none⟩ (.int .i64 m)) O C G x m xs :=
  ⟨set_oth h.o (by have := h.oc; omega) _, set_of1 h.c _, set_oth h.g (by have := h.cg; omega) _, h.k.setCell (p := ⟨C, 0, none⟩) (by have := h.oo; have := h.oc; show w.heap.size ≤ C; omega) _, h.oo, h.oc, h.cg⟩
theorem Dn.setOC {w W : World} {O C G : Nat} {x : Value} {n : Int} {xs : List Int} (h : Dn w W O C G x n xs) (v : Value) (m : Int) : Dn w ((W.setCell ⟨O, 0, none⟩ v).setCell ⟨C, 0, none⟩ (.int .i64 m)) O C G v m xs :=
  Dn.setC ⟨set_of1 h.o _, set_oth h.c (by have := h.oc; omega) _, set_oth h.g (by have := h.oc; have := h.cg; omega) _, h.k.setCell (p := ⟨O, 0, none⟩) h.oo _, h.oo, h.oc, h.cg⟩ m

set_option maxHeartbeats 3200000 in
theorem refDown_impl (ao : Option Addr) (cap : Nat) (xs : List Int) (c : Int) (w : World) (hl : xs.length ≤ maxLen) (hc : Is w ao xs) (hE : BzW w) :
    Calls Tryd.prog 8 #[.slice ao xs.length cap, .int .i64 c] w fun e w' => ∃ v, e = .returned (.tuple #[v, .int .i64 (dnF xs c)]) ∧ OwnN w' w.heap.size v (dnL xs c) ∧ Below w.heap.size w w' := by
  have hmf : ∀ (fn : Fn) (first cap : Array Value) (w : World), (Instr.makeFunc fn first cap).run Tryd.prog w = .ok (.func fn first cap) w := fun _ _ _ _ => rfl
  have HA := hide (Joins.below_alloc2 w (.cells #[.slice none 0 0] 22) (.cells #[.int .i64 0] 3))
  have HO : Hid (((w.alloc (.cells #[.slice none 0 0] 22)).alloc (.cells #[.int .i64 0] 3)).heap[w.heap.size]? = some (.cells #[.slice none 0 0] 22 (0, 0))) := hide (block_of_below (heap_alloc_new w _) (Joins.below_alloc1 _ _))
  have HCC : Hid (((w.alloc (.cells #[.slice none 0 0] 22)).alloc (.cells #[.int .i64 0] 3)).heap[w.heap.size + 1]? = some (.cells #[.int .i64 0] 3 (0, 0))) := hide (heap_alloc2_new w _ _)
  have HI := hide (hc.below (unhide HA))
  have HE := hide (hE.below (unhide HA))
  have HL := hide hl
  have HLC := hide (cwR_len xs c)
  have HPS := hE.pos
  clear hc hE
  go_enter_defers Tryd.func8, Tryd.ntmps8
  go_upto_region 1 with fail
  revert HA HO HCC HI HE
  generalize ((w.alloc _).alloc _) = W0
  intro HA HO HCC HI HE
  go_wp2_with fail
  refine (countsWith_any ao cap xs c _ (unhide HL) (unhide HI)).mono ?_
  rintro e w1 ⟨rfl, hb⟩
  have HB1 := hide (fr (unhide HA) hb)
  have HO1 := hide (block_of_below (unhide HO) hb)
  have HC1 := hide (block_of_below (unhide HCC) hb)
  have HE1 := hide ((unhide HE).below hb)
  clear hb HA HO HCC HI HE
  have HNN := hide (arr_new w1)
  have HA1 := hide (Joins.below_alloc1 w1 (.cells #[.int .i64 0, .int .i64 0, .int .i64 0, .int .i64 0, .int .i64 0, .int .i64 0, .int .i64 0, .int .i64 0, .int .i64 0, .int .i64 0, .int .i64 0, .int .i64 0, .int .i64 0, .int .i64 0, .int .i64 0, .int .i64 0, .int .i64 0, .int .i64 0, .int .i64 0, .int .i64 0, .int .i64 0, .int .i64 0, .int .i64 0, .int .i64 0] 53))
  have HLT : Hid (w.heap.size + 1 < w1.heap.size) := hide (Array.getElem?_eq_some_iff.1 (unhide HC1)).1
  go_upto_region 2 with (refine wpList_store_arr rfl 53 _ _ rfl w1.heap.size rfl (intV (cwR xs c)).toArray rfl _ _ (unhide HNN) (sizeA (unhide HLC)) (by rw [intV_size, intV_size, unhide HLC]; rfl) (intV_one _) ?_; intro w2 hn2 hk2 hs2; have HD2 : Hid (Dn w w2 w.heap.size (w.heap.size + 1) w1.heap.size (.slice none 0 0) 0 (cwR xs c)) := hide ⟨(hk2.block w.heap.size (by rw [World.size_alloc]; have := unhide HLT; omega) (by have := unhide HLT; omega)).trans (block_of_below (unhide HO1) (unhide HA1)), (hk2.block (w.heap.size + 1) (by rw [World.size_alloc]; have := unhide HLT; omega) (by have := unhide HLT; omega)).trans (block_of_below (unhide HC1) (unhide HA1)), hn2, keep_one (fr (unhide HB1) (unhide HA1)) hk2 (by have := unhide HLT; omega), Nat.le_refl _, by omega, unhide HLT⟩; have HE2 := hide (((unhide HE1).below (unhide HA1)).keep hk2 (fun k hk => by have := (unhide HE1).pos; omega)); obtain ⟨cc2, cf2⟩ := cell_of1 (unhide HD2).c; clear hn2 hk2 hs2 HNN HB1 HO1 HC1 HE1 HA1)
  have HD3 := hide ((unhide HD2).setC (cwF xs c))
  have HE3 := hide ((unhide HE2).keep (Keep.setCell (S := fun k => k = w.heap.size + 1) (Keep.refl _ w2) (p := ⟨w.heap.size + 1, 0, none⟩) rfl (.int .i64 (cwF xs c))) (fun k hk => by have := HPS; omega))
  clear cc2 cf2 HD2 HE2
  revert HD3 HE3
  generalize (w2.setCell _ _) = W3
  intro HD3 HE3
  generalize w.heap.size + 1 = C at *
  generalize w1.heap.size = G at *
  obtain ⟨oc3, of3⟩ := cell_of1 (unhide HD3).o
  obtain ⟨cc3, cf3⟩ := cell_of1 (unhide HD3).c
  have hne : w.heap.size ≠ C := by have := (unhide HD3).oc; omega
  have hne' : C ≠ w.heap.size := by have := (unhide HD3).oc; omega
  rcases cw_cases xs c with ⟨h0, h1, _, _, h2, h3⟩ | ⟨hb, h0, h1, q, rfl, hq⟩
  · have b0 := cw_ne h0
    have HF := hide (And.intro h2 h3)
    have HD4 := hide ((unhide HD3).setOC (.slice none 0 0) (cwF xs c))
    clear h0 h1 h2 h3
    go_wp2
    go_region
    all_goals
      go_wp2
      obtain ⟨r1, r2⟩ := two_cells (u := .slice none 0 0) (v := .int .i64 (cwF xs c)) oc3 cc3 hne
      simp [bodyPostD, Leaves, results, Tryd.results8, go_sem, r1, r2]
      refine ⟨.slice none 0 0, ?_, by rw [(unhide HF).2]; exact OwnN.nil _ _ _, (unhide HD4).k.drew⟩
      first | exact ⟨rfl, (unhide HF).1.symm⟩ | exact ret_ni rfl (unhide HF).1.symm
  · have HAT := hide (ctB_at hb q hq)
    have HDN := hide (dn_at h0 hq)
    have H24 := hide (ctB_len hb)
    have HD4 : Hid (Dn w W3 w.heap.size C G (.slice none 0 0) (cwF xs q) xs) := hide (by have := unhide HD3; rw [h1] at this; exact this)
    rw [h0] at HD4 cc3
    rw [h0]
    clear h1 h0 hb HD3 HLC
    by_cases hz : xs[q] = 0
    · have HF := hide ((unhide HDN).1 hz)
      have HZ := hide hz
      clear hz
      go_wp2_with fail
      refine (less_no G q xs _ (unhide HD4).g (unhide H24) hq (unhide HZ) (unhide HE3)).mono ?_
      rintro e w4 ⟨⟨u, pv, rfl⟩, hw⟩
      replace hw := hw.symm
      subst hw
      go_wp2
      refine leaves_cons (f := 25) (args := #[.pointer (some ⟨G, 0, none⟩), .pointer (some ⟨w.heap.size, 0, none⟩), .pointer (some ⟨C, 0, none⟩)]) (by simp) (by simp [go_sem]) ?_
      refine (catchC_panicking G w.heap.size C xs _ _ u pv [] _ (unhide HD4).g (unhide H24) (unhide HD4).o (unhide HD4).c hne).mono ?_
      rintro e u' w'' ⟨rfl, rfl, g, ⟨w5, rfl, ho, hb⟩⟩
      have HD5 := hide ((unhide HD4).step hb)
      obtain ⟨r1, r2⟩ := two_cells (u := .slice (some ⟨g, 0, none⟩) 24 24) (v := .int .i64 5) (cell_of1 (unhide HD5).o).1 (cell_of1 (unhide HD5).c).1 hne
      have HOW := hide (dn_own ho (unhide H24) (Array.getElem?_eq_some_iff.1 (unhide HD4).o).1 (Array.getElem?_eq_some_iff.1 (unhide HD4).c).1 (.slice (some ⟨g, 0, none⟩) 24 24) (.int .i64 5) (unhide HD4).k.size)
      have HD6 := hide ((unhide HD5).setOC (.slice (some ⟨g, 0, none⟩) 24 24) 5)
      clear ho hb
      simp [Leaves, settle, results, Tryd.results8, go_sem, r1, r2]
      refine ⟨.slice (some ⟨g, 0, none⟩) 24 24, ?_, by rw [(unhide HF).2]; exact unhide HOW, (unhide HD6).k⟩
      first | exact ⟨rfl, (unhide HF).1.symm⟩ | exact ret_ni rfl (unhide HF).1.symm
    · have HF := hide ((unhide HDN).2 hz)
      have HZ := hide hz
      clear hz
      go_wp2_with fail
      refine (less_yes G q xs _ (unhide HD4).g (unhide H24) hq (unhide HZ) (unhide HAT)).mono ?_
      rintro e w4 ⟨rfl, hg4, hk4⟩
      have HD5 := hide ((unhide HD4).less hg4 hk4)
      have HL5 : Hid ((xs.set q (xs[q] - 1)).length = 24) := hide (by rw [List.length_set]; exact unhide H24)
      clear hg4 hk4 oc3 of3 cc3 cf3
      go_wp2_with (refine wpList_load_arr rfl 53 _ rfl G rfl (intV (xs.set q (xs[q] - 1))).toArray _ _ (unhide HD5).g und24 rfl (sizeA (unhide HL5)) ?_)
      refine (list_any (xs.set q (xs[q] - 1)) _ (unhide HL5)).mono ?_
      rintro e w5 ⟨g, rfl, ho, hb⟩
      have HD6 := hide ((unhide HD5).step hb)
      obtain ⟨oc6, of6⟩ := cell_of1 (unhide HD6).o
      obtain ⟨cc6, cf6⟩ := cell_of1 (unhide HD6).c
      obtain ⟨r1, r2⟩ := two_cells (u := .slice (some ⟨g, 0, none⟩) 24 24) (v := .int .i64 0) oc6 cc6 hne
      have HOW := hide (dn_own ho (unhide HL5) (Array.getElem?_eq_some_iff.1 (unhide HD5).o).1 (Array.getElem?_eq_some_iff.1 (unhide HD5).c).1 (.slice (some ⟨g, 0, none⟩) 24 24) (.int .i64 0) (unhide HD5).k.size)
      have HD7 := hide ((unhide HD6).setOC (.slice (some ⟨g, 0, none⟩) 24 24) 0)
      clear ho hb
      go_wp2
      refine leaves_cons (f := 25) (args := #[.pointer (some ⟨G, 0, none⟩), .pointer (some ⟨w.heap.size, 0, none⟩), .pointer (some ⟨C, 0, none⟩)]) (by simp) (by simp [go_sem]) ?_
      refine (catchC_idle _ _ _ _).mono ?_
      rintro e u' w'' ⟨rfl, rfl, rfl⟩
      simp [Leaves, settle, results, Tryd.results8, go_sem, r1, r2]
      refine ⟨.slice (some ⟨g, 0, none⟩) 24 24, ?_, by rw [(unhide HF).2]; exact unhide HOW, (unhide HD7).k⟩
      first | exact ⟨rfl, (unhide HF).1.symm⟩ | exact ret_ni rfl (unhide HF).1.symm

end Go.Proofs.YtjmianalknnekabDoor
