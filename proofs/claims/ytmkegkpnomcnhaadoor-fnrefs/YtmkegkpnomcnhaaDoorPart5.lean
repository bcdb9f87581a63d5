import Derived.Test.YtmkegkpnomcnhaaDoorRows
import Derived.Test.YtmkegkpnomcnhaaDoorPart1
import Derived.Test.YtmkegkpnomcnhaaDoorPart2
import Derived.Test.YtmkegkpnomcnhaaDoorPart3
import Derived.Test.YtmkegkpnomcnhaaDoorPart4
import Derived.WalkKit
import Derived.WalkSpells
import Derived.KernelRfl
import Derived.LoopN
import Derived.BigQuiet
import Derived.Deep.QuietTactic
import Derived.Deep.CutRange
import Derived.Deep.RegionWith
import Derived.Laws.ResultCell
import Derived.Defers
import Derived.Recover
import Derived.Deep.MidRow
import Derived.ProofKit
import Derived.OpenShut
import Derived.ShutString
import Derived.LaidMore
import Derived.LaidLaws
import Derived.OpenVars
import Derived.Stop.Joined
import Derived.Lib.LaidTab
import Derived.ChangeSlices

/- Contracts of impl.RefDown and of what it calls: less, which panics below 0, and the deferred call that recovers it. -/
namespace Go.Proofs.YtmkegkpnomcnhaaDoor
open Go.RowKit
set_option linter.unusedVariables false
set_option maxRecDepth 100000

def BzW (w : World) : Prop := ∃ u pv, w.cell? ⟨0, 0, none⟩ = some (.iface u pv)
theorem BzW.below {w w' : World} (h : BzW w) (hb : Below w.heap.size w w') : BzW w' := by
  obtain ⟨u, pv, hc⟩ := h
  exact ⟨u, pv, (hb.cell (p := ⟨0, 0, none⟩) (World.block_lt_of_cell? _ _ hc)).trans hc⟩
theorem BzW.keep {w w' : World} {S : Nat → Prop} (h : BzW w) (hk : Keep S w w') (hs : ∀ k, S k → 0 ≠ k) : BzW w' := by
  obtain ⟨u, pv, hc⟩ := h
  refine ⟨u, pv, ?_⟩
  have hl := World.block_lt_of_cell? _ _ hc
  rw [← hc]
  unfold World.cell?
  simp only [hk.block 0 hl (fun hS => hs _ hS rfl)]
theorem BzW.pos {w : World} (h : BzW w) : 0 < w.heap.size := by
  obtain ⟨u, pv, hc⟩ := h
  exact World.block_lt_of_cell? _ _ hc

set_option maxHeartbeats 1600000 in
theorem less_yes (g q : Nat) (xs : List Int) (w : World) (hv : VarC w g xs) (hl : xs.length = 24) (hq : q < xs.length) (h0 : ¬ xs[q] = 0) (hr : 0 ≤ xs[q] ∧ xs[q] ≤ 15) :
    Calls Tryd.prog 24 #[.pointer (some ⟨g, 0, none⟩), .int .i64 q] w fun e w' => e = .returned (.tuple #[]) ∧ VarC w' g (xs.set q (xs[q] - 1)) ∧ Keep (fun k => k = g) w w' := by
  have hcell := arr_cell hv hq
  have hfz := Joins.unfrozen_of_block hv q
  have hq24 : (q : Int) < 24 := by omega
  have hq24' : q < 24 := by omega
  have b0 : (xs[q] == 0) = false := by simp [h0]
  have hwr : IntKind.i64.wrap (xs[q] - 1) = xs[q] - 1 := by rw [IntKind.wrap_i64]; omega
  have HS := hide (arr_set hv q (xs[q] - 1))
  have HK := hide (Keep.setCell (S := fun k => k = g) (Keep.refl _ w) (p := ⟨g, q, none⟩) rfl (.int .i64 (xs[q] - 1)))
  clear hv h0 hl
  go_enter Tryd.func24, Tryd.ntmps24
  go_wp2
  go_region
  all_goals
    go_wp2
    go_end0
    exact ⟨rfl, unhide HS, ⟨(unhide HK).os, (unhide HK).tape, (unhide HK).output, (unhide HK).size, (unhide HK).block⟩⟩

set_option maxHeartbeats 1600000 in
theorem less_no (g q : Nat) (xs : List Int) (w : World) (hv : VarC w g xs) (hl : xs.length = 24) (hq : q < xs.length) (h0 : xs[q] = 0) (hE : BzW w) :
    Calls Tryd.prog 24 #[.pointer (some ⟨g, 0, none⟩), .int .i64 q] w fun e w' => (∃ u pv, e = .panicked [{ v := .iface u pv, recovered := false }]) ∧ w' = w := by
  obtain ⟨u, pv, hc⟩ := hE
  have hp := fun w => run_panic_iface Tryd.prog w u pv
  have hcell := arr_cell hv hq
  have hq24 : (q : Int) < 24 := by omega
  have hq24' : q < 24 := by omega
  have b0 : (xs[q] == 0) = true := by simp [h0]
  clear hv h0 hl
  go_enter Tryd.func24, Tryd.ntmps24
  go_wp2
  exact ⟨rfl, ⟨u, pv, rfl⟩, rfl⟩

/-- What the recovering call leaves behind. -/
structure Caught (w W : World) (O C g : Nat) (n : Int) (xs : List Int) : Prop where
  w1 : ∃ w1, W = (w1.setCell ⟨O, 0, none⟩ (.slice (some ⟨g, 0, none⟩) 24 24)).setCell ⟨C, 0, none⟩ (.int .i64 n) ∧ w1.ownsRow w.heap.size 3 1 (.slice (some ⟨g, 0, none⟩) 24 24) 24 (intV xs) ∧ Below w.heap.size w w1

set_option maxHeartbeats 1600000 in
theorem catchC_panicking (G O C : Nat) (xs : List Int) (x : Value) (y : Int) (u : TypeId) (pv : Value) (older : List PanicEntry) (w : World) (hv : VarC w G xs) (hl : xs.length = 24)
    (hO : w.heap[O]? = some (.cells #[x] 23 (0, 0))) (hC : w.heap[C]? = some (.cells #[.int .i64 y] 3 (0, 0))) (hOC : O ≠ C) :
    CallsD Tryd.prog 23 #[.pointer (some ⟨G, 0, none⟩), .pointer (some ⟨O, 0, none⟩), .pointer (some ⟨C, 0, none⟩)] (.panicking ({ v := .iface u pv, recovered := false } :: older)) w fun e u' w' =>
      e = .returned (.tuple #[]) ∧ u' = .panicking ({ v := .iface u pv, recovered := true } :: older) ∧ ∃ g, Caught w w' O C g 5 xs := by
  refine callsD_of_wpS Tryd.func23 rfl fun c₀ cs hu => ?_
  apply wpS_seq
  apply wpS_region
  simp [wpOpsS, go_sem, recoverD, hu, Tryd.ntmps23, Exit.thenS]
  refine wpS_cond (t := true) (by simp [Act.eval, Array.replicate]) ?_
  simp only [if_true]
  refine wpS_of_wp ?_
  have HV := hide hv
  have HL := hide hl
  have HOO := hide hO
  have HCC := hide hC
  have HOC := hide hOC
  clear hv hl hO hC hOC hu
  show Code.wp Tryd.prog _ _ ({ tmps := #[.pointer (some ⟨G, 0, none⟩), .pointer (some ⟨O, 0, none⟩), .pointer (some ⟨C, 0, none⟩), .iface u pv, .bool true, undef, undef], defers := [] } : Act) w
  go_wp2_with (refine wpList_load_arr rfl 39 _ rfl G rfl (intV xs).toArray _ _ (unhide HV) und24 rfl (sizeA (unhide HL)) ?_)
  refine (list_any xs _ (unhide HL)).mono ?_
  rintro e w1 ⟨g, rfl, ho, hb⟩
  have hOc := block_of_below (unhide HOO) hb
  have hCc := block_of_below (unhide HCC) hb
  have oc0 : w1.cell? ⟨O, 0, none⟩ = some x := by rw [Joins.cell_of_block hOc]; rfl
  have of0 := Joins.unfrozen_of_block hOc 0
  have cc0 : w1.cell? ⟨C, 0, none⟩ = some (.int .i64 y) := by rw [Joins.cell_of_block hCc]; rfl
  have cf0 := Joins.unfrozen_of_block hCc 0
  have hne : O ≠ C := unhide HOC
  have hne' : C ≠ O := fun h => unhide HOC h.symm
  have HR := hide (And.intro ho hb)
  clear ho hb hOc hCc
  go_wp2
  exact ⟨rfl, _, rfl, .tuple #[], by simp [results, Tryd.results23], rfl, rfl, g, ⟨⟨w1, rfl, (unhide HR).1, (unhide HR).2⟩⟩⟩

theorem catchC_idle (p q r : Addr) (w : World) :
    CallsD Tryd.prog 23 #[.pointer (some p), .pointer (some q), .pointer (some r)] .returning w fun e u' w' => e = .returned (.tuple #[]) ∧ u' = .returning ∧ w' = w := by
  refine callsD_of_wpS Tryd.func23 rfl fun c₀ cs hu => ?_
  apply wpS_seq
  apply wpS_region
  simp [wpOpsS, go_sem, recoverD, hu, Tryd.ntmps23, Exit.thenS]
  refine wpS_cond (t := false) (by simp [Act.eval, Array.replicate]) ?_
  simp only [Bool.false_eq_true, if_false]
  refine wpS_of_wp (wp_skip ?_)
  cases c₀
  simp_all [bodyPostS, results, Tryd.results23]

theorem cell_of1 {W : World} {b : Nat} {v : Value} {t : TypeId} (h : W.heap[b]? = some (.cells #[v] t (0, 0))) : W.cell? ⟨b, 0, none⟩ = some v ∧ W.frozen? ⟨b, 0, none⟩ = false := ⟨by rw [Joins.cell_of_block h]; rfl, Joins.unfrozen_of_block h 0⟩
theorem set_of1 {W : World} {b : Nat} {v : Value} {t : TypeId} (h : W.heap[b]? = some (.cells #[v] t (0, 0))) (u : Value) : (W.setCell ⟨b, 0, none⟩ u).heap[b]? = some (.cells #[u] t (0, 0)) := Joins.block_setCell h u
theorem set_oth {W : World} {b k : Nat} {o : Obj} (h : W.heap[k]? = some o) (hk : k ≠ b) (u : Value) : (W.setCell ⟨b, 0, none⟩ u).heap[k]? = some o := by
  rw [Below.heap_setCell W ⟨b, 0, none⟩ u k hk]; exact h

/-- RefDown's variables: the answer, its code, the counts. -/
structure Dn (w W : World) (O C G : Nat) (x : Value) (n : Int) (xs : List Int) : Prop where
  o : W.heap[O]? = some (.cells #[x] 23 (0, 0))
  c : W.heap[C]? = some (.cells #[.int .i64 n] 3 (0, 0))
  g : VarC W G xs
  k : Below w.heap.size w W
  oo : w.heap.size ≤ O
  oc : O < C
  cg : C < G
theorem Dn.step {w W W' : World} {O C G : Nat} {x : Value} {n : Int} {xs : List Int} (h : Dn w W O C G x n xs) (hb : Below W.heap.size W W') : Dn w W' O C G x n xs :=
  ⟨block_of_below h.o hb, block_of_below h.c hb, block_of_below h.g hb, fr h.k hb, h.oo, h.oc, h.cg⟩
theorem Dn.less {w W W' : World} {O C G : Nat} {x : Value} {n : Int} {xs ys : List Int} (h : Dn w W O C G x n xs) (hg : VarC W' G ys) (hk : Keep (fun k => k = G) W W') : Dn w W' O C G x n ys :=
  ⟨(hk.block O (Array.getElem?_eq_some_iff.1 h.o).1 (by have := h.oc; have := h.cg; omega)).trans h.o, (hk.block C (Array.getElem?_eq_some_iff.1 h.c).1 (by have := h.cg; omega)).trans h.c, hg, keep_one h.k hk (by have := h.oo; have := h.oc; have := h.cg; omega), h.oo, h.oc, h.cg⟩
/-- The row that is answered, behind the two last stores. -/
theorem dn_own {W : World} {B O C g : Nat} {xs : List Int} (ho : W.ownsRow B 3 1 (.slice (some ⟨g, 0, none⟩) 24 24) 24 (intV xs)) (hl : xs.length = 24) (hO : O < B) (hC : C < B) (u v : Value) {B' : Nat} (hB : B' ≤ B) : OwnN ((W.setCell ⟨O, 0, none⟩ u).setCell ⟨C, 0, none⟩ v) B' (.slice (some ⟨g, 0, none⟩) 24 24) xs := by
  have h := own24 ho hl
  obtain ⟨qo, qa, e, hr⟩ := h
  exact ⟨qo, qa, e, ((hr.setCell (a := ⟨O, 0, none⟩) hO u).setCell (a := ⟨C, 0, none⟩) hC v).base hB⟩
theorem two_cells {W : World} {O C : Nat} {x y u v : Value} (ho : W.cell? ⟨O, 0, none⟩ = some x) (hc : W.cell? ⟨C, 0, none⟩ = some y) (hne : O ≠ C) : ((W.setCell ⟨O, 0, none⟩ u).setCell ⟨C, 0, none⟩ v).cell? ⟨O, 0, none⟩ = some u ∧ ((W.setCell ⟨O, 0, none⟩ u).setCell ⟨C, 0, none⟩ v).cell? ⟨C, 0, none⟩ = some v := by
  have hne' : ¬ C = O := fun h => hne h.symm
  constructor
  · rw [World.cell?_setCell_other _ _ _ _ (by simp), World.cell?_setCell_same _ _ _ ho]
  · refine World.cell?_setCell_same _ _ _ (u := y) ?_
    rw [World.cell?_setCell_other _ _ _ _ (by simp), hc]

theorem Dn.setC {w W : World} {O C G : Nat} {x : Value} {n : Int} {xs : List Int} (h : Dn w W O C G x n xs) (m : Int) : Dn w (W.setCell ⟨C, 0, none⟩ (.int .i64 m)) O C G x m xs :=
  ⟨set_oth h.o (by have := h.oc; omega) _, set_of1 h.c _, set_oth h.g (by have := h.cg; omega) _, h.k.setCell (p := ⟨C, 0, none⟩) (by have := h.oo; have := h.oc; show w.heap.size ≤ C; omega) _, h.oo, h.oc, h.cg⟩
theorem Dn.setOC {w W : World} {O C G : Nat} {x : Value} {n : Int} {xs : List Int} (h : Dn w W O C G x n xs) (v : Value) (m : Int) : Dn w ((W.setCell ⟨O, 0, none⟩ v).setCell ⟨C, 0, none⟩ (.int .i64 m)) O C G v m xs :=
  Dn.setC ⟨set_of1 h.o _, set_oth h.c (by have := h.oc; omega) _, set_oth h.g (by have := h.oc; have := h.cg; omega) _, h.k.setCell (p := ⟨O, 0, none⟩) h.oo _, h.oo, h.oc, h.cg⟩ m

set_option maxHeartbeats 3200000 in
theorem refDown_impl (ao : Option Addr) (cap : Nat) (xs : List Int) (c : Int) (w : World) (hl : xs.length ≤ maxLen) (hc : Is w ao xs) (hE : BzW w) :
    Calls Tryd.prog 12 #[.slice ao xs.length cap, .int .i64 c] w fun e w' => ∃ v, e = .returned (.tuple #[v, .int .i64 (dnF xs c)]) ∧ OwnN w' w.heap.size v (dnL xs c) ∧ Below w.heap.size w w' := by
  have hmf : ∀ (fn : Fn) (first cap : Array Value) (w : World), (Instr.makeFunc fn first cap).run Tryd.prog w = .ok (.func fn first cap) w := fun _ _ _ _ => rfl
  have HA := hide (Joins.below_alloc2 w (.cells #[.slice none 0 0] 23) (.cells #[.int .i64 0] 3))
  have HO : Hid (((w.alloc (.cells #[.slice none 0 0] 23)).alloc (.cells #[.int .i64 0] 3)).heap[w.heap.size]? = some (.cells #[.slice none 0 0] 23 (0, 0))) := hide (block_of_below (heap_alloc_new w _) (Joins.below_alloc1 _ _))
  have HCC : Hid (((w.alloc (.cells #[.slice none 0 0] 23)).alloc (.cells #[.int .i64 0] 3)).heap[w.heap.size + 1]? = some (.cells #[.int .i64 0] 3 (0, 0))) := hide (heap_alloc2_new w _ _)
  have HI := hide (hc.below (unhide HA))
  have HE := hide (hE.below (unhide HA))
  have HL := hide hl
  have HLC := hide (cwR_len xs c)
  have HPS := hE.pos
  clear hc hE
  go_enter_defers Tryd.func12, Tryd.ntmps12
  go_upto_region 1 with fail
  revert HA HO HCC HI HE
  generalize ((w.alloc _).alloc _) = W0
  intro HA HO HCC HI HE
  go_wp2_with fail
  refine (countsWith_any ao cap xs c _ (unhide HL) (unhide HI)).mono ?_
  rintro e w1 ⟨rfl, hb⟩
  have HB1 := hide (fr (unhide HA) hb)
  have HO1 := hide (block_of_below (unhide HO) hb)
  have HC1 := hide (block_of_below (unhide HCC) hb)
  have HE1 := hide ((unhide HE).below hb)
  clear hb HA HO HCC HI HE
  have HNN := hide (arr_new w1)
  have HA1 := hide (Joins.below_alloc1 w1 (.cells #[.int .i64 0, .int .i64 0, .int .i64 0, .int .i64 0, .int .i64 0, .int .i64 0, .int .i64 0, .int .i64 0, .int .i64 0, .int .i64 0, .int .i64 0, .int .i64 0, .int .i64 0, .int .i64 0, .int .i64 0, .int .i64 0, .int .i64 0, .int .i64 0, .int .i64 0, .int .i64 0, .int .i64 0, .int .i64 0, .int .i64 0, .int .i64 0] 39))
  have HLT : Hid (w.heap.size + 1 < w1.heap.size) := hide (Array.getElem?_eq_some_iff.1 (unhide HC1)).1
  go_upto_region 2 with (refine wpList_store_arr rfl 39 _ _ rfl w1.heap.size rfl (intV (cwR xs c)).toArray rfl _ _ (unhide HNN) (sizeA (unhide HLC)) (by rw [intV_size, intV_size, unhide HLC]; rfl) (intV_one _) ?_; intro w2 hn2 hk2 hs2; have HD2 : Hid (Dn w w2 w.heap.size (w.heap.size + 1) w1.heap.size (.slice none 0 0) 0 (cwR xs c)) := hide ⟨(hk2.block w.heap.size (by rw [World.size_alloc]; have := unhide HLT; omega) (by have := unhide HLT; omega)).trans (block_of_below (unhide HO1) (unhide HA1)), (hk2.block (w.heap.size + 1) (by rw [World.size_alloc]; have := unhide HLT; omega) (by have := unhide HLT; omega)).trans (block_of_below (unhide HC1) (unhide HA1)), hn2, keep_one (fr (unhide HB1) (unhide HA1)) hk2 (by have := unhide HLT; omega), Nat.le_refl _, by omega, unhide HLT⟩; have HE2 := hide (((unhide HE1).below (unhide HA1)).keep hk2 (fun k hk => by have := (unhide HE1).pos; omega)); obtain ⟨cc2, cf2⟩ := cell_of1 (unhide HD2).c; clear hn2 hk2 hs2 HNN HB1 HO1 HC1 HE1 HA1)
  have HD3 := hide ((unhide HD2).setC (cwF xs c))
  have HE3 := hide ((unhide HE2).keep (Keep.setCell (S := fun k => k = w.heap.size + 1) (Keep.refl _ w2) (p := ⟨w.heap.size + 1, 0, none⟩) rfl (.int .i64 (cwF xs c))) (fun k hk => by have := HPS; omega))
  clear cc2 cf2 HD2 HE2
  revert HD3 HE3
  generalize (w2.setCell _ _) = W3
  intro HD3 HE3
  generalize w.heap.size + 1 = C at *
  generalize w1.heap.size = G at *
  obtain ⟨oc3, of3⟩ := cell_of1 (unhide HD3).o
  obtain ⟨cc3, cf3⟩ := cell_of1 (unhide HD3).c
  have hne : w.heap.size ≠ C := by have := (unhide HD3).oc; omega
  have hne' : C ≠ w.heap.size := by have := (unhide HD3).oc; omega
  rcases cw_cases xs c with ⟨h0, h1, _, _, h2, h3⟩ | ⟨hb, h0, h1, q, rfl, hq⟩
  · have b0 := cw_ne h0
    have HF := hide (And.intro h2 h3)
    have HD4 := hide ((unhide HD3).setOC (.slice none 0 0) (cwF xs c))
    clear h0 h1 h2 h3
    go_wp2
    go_region
    all_goals
      go_wp2
      obtain ⟨r1, r2⟩ := two_cells (u := .slice none 0 0) (v := .int .i64 (cwF xs c)) oc3 cc3 hne
      simp [bodyPostD, Leaves, results, Tryd.results12, go_sem, r1, r2]
      refine ⟨.slice none 0 0, ?_, by rw [(unhide HF).2]; exact OwnN.nil _ _ _, (unhide HD4).k.drew⟩
      first | exact ⟨rfl, (unhide HF).1.symm⟩ | exact ret_ni rfl (unhide HF).1.symm
  · have HAT := hide (ctB_at hb q hq)
    have HDN := hide (dn_at h0 hq)
    have H24 := hide (ctB_len hb)
    have HD4 : Hid (Dn w W3 w.heap.size C G (.slice none 0 0) (cwF xs q) xs) := hide (by have := unhide HD3; rw [h1] at this; exact this)
    rw [h0] at HD4 cc3
    rw [h0]
    clear h1 h0 hb HD3 HLC
    by_cases hz : xs[q] = 0
    · have HF := hide ((unhide HDN).1 hz)
      have HZ := hide hz
      clear hz
      go_wp2_with fail
      refine (less_no G q xs _ (unhide HD4).g (unhide H24) hq (unhide HZ) (unhide HE3)).mono ?_
      rintro e w4 ⟨⟨u, pv, rfl⟩, hw⟩
      replace hw := hw.symm
      subst hw
      go_wp2
      refine leaves_cons (f := 23) (args := #[.pointer (some ⟨G, 0, none⟩), .pointer (some ⟨w.heap.size, 0, none⟩), .pointer (some ⟨C, 0, none⟩)]) (by simp) (by simp [go_sem]) ?_
      refine (catchC_panicking G w.heap.size C xs _ _ u pv [] _ (unhide HD4).g (unhide H24) (unhide HD4).o (unhide HD4).c hne).mono ?_
      rintro e u' w'' ⟨rfl, rfl, g, ⟨w5, rfl, ho, hb⟩⟩
      have HD5 := hide ((unhide HD4).step hb)
      obtain ⟨r1, r2⟩ := two_cells (u := .slice (some ⟨g, 0, none⟩) 24 24) (v := .int .i64 5) (cell_of1 (unhide HD5).o).1 (cell_of1 (unhide HD5).c).1 hne
      have HOW := hide (dn_own ho (unhide H24) (Array.getElem?_eq_some_iff.1 (unhide HD4).o).1 (Array.getElem?_eq_some_iff.1 (unhide HD4).c).1 (.slice (some ⟨g, 0, none⟩) 24 24) (.int .i64 5) (unhide HD4).k.size)
      have HD6 := hide ((unhide HD5).setOC (.slice (some ⟨g, 0, none⟩) 24 24) 5)
      clear ho hb
      simp [Leaves, settle, results, Tryd.results12, go_sem, r1, r2]
      refine ⟨.slice (some ⟨g, 0, none⟩) 24 24, ?_, by rw [(unhide HF).2]; exact unhide HOW, (unhide HD6).k⟩
      first | exact ⟨rfl, (unhide HF).1.symm⟩ | exact ret_ni rfl (unhide HF).1.symm
    · have HF := hide ((unhide HDN).2 hz)
      have HZ := hide hz
      clear hz
      go_wp2_with fail
      refine (less_yes G q xs _ (unhide HD4).g (unhide H24) hq (unhide HZ) (unhide HAT)).mono ?_
      rintro e w4 ⟨rfl, hg4, hk4⟩
      have HD5 := hide ((unhide HD4).less hg4 hk4)
      have HL5 : Hid ((xs.set q (xs[q] - 1)).length = 24) := hide (by rw [List.length_set]; exact unhide H24)
      clear hg4 hk4 oc3 of3 cc3 cf3
      go_wp2_with (refine wpList_load_arr rfl 39 _ rfl G rfl (intV (xs.set q (xs[q] - 1))).toArray _ _ (unhide HD5).g und24 rfl (sizeA (unhide HL5)) ?_)
      refine (list_any (xs.set q (xs[q] - 1)) _ (unhide HL5)).mono ?_
      rintro e w5 ⟨g, rfl, ho, hb⟩
      have HD6 := hide ((unhide HD5).step hb)
      obtain ⟨oc6, of6⟩ := cell_of1 (unhide HD6).o
      obtain ⟨cc6, cf6⟩ := cell_of1 (unhide HD6).c
      obtain ⟨r1, r2⟩ := two_cells (u := .slice (some ⟨g, 0, none⟩) 24 24) (v := .int .i64 0) oc6 cc6 hne
      have HOW := hide (dn_own ho (unhide HL5) (Array.getElem?_eq_some_iff.1 (unhide HD5).o).1 (Array.getElem?_eq_some_iff.1 (unhide HD5).c).1 (.slice (some ⟨g, 0, none⟩) 24 24) (.int .i64 0) (unhide HD5).k.size)
      have HD7 := hide ((unhide HD6).setOC (.slice (some ⟨g, 0, none⟩) 24 24) 0)
      clear ho hb
      go_wp2
      refine leaves_cons (f := 23) (args := #[.pointer (some ⟨G, 0, none⟩), .pointer (some ⟨w.heap.size, 0, none⟩), .pointer (some ⟨C, 0, none⟩)]) (by simp) (by simp [go_sem]) ?_
      refine (catchC_idle _ _ _ _).mono ?_
      rintro e u' w'' ⟨rfl, rfl, rfl⟩
      simp [Leaves, settle, results, Tryd.results12, go_sem, r1, r2]
      refine ⟨.slice (some ⟨g, 0, none⟩) 24 24, ?_, by rw [(unhide HF).2]; exact unhide HOW, (unhide HD7).k⟩
      first | exact ⟨rfl, (unhide HF).1.symm⟩ | exact ret_ni rfl (unhide HF).1.symm

end Go.Proofs.YtmkegkpnomcnhaaDoor

/- What the proofs of this seat share: the variable errNoForm as the row lists it, its cell; the door's own heap. -/
namespace Go.Proofs.YtmkegkpnomcnhaaDoor
open Go.ChangeShapes Go.WideShapes Go.ChangeAt Go.RowKit

theorem gErr : Tryd.prog.globalNamed "loop.example/g00456/impl.errNoForm" = some 1 := by kernel_rfl
theorem tErr : (Tryd.prog.globals[1]?).map (·.type) = some 62 := by kernel_rfl

abbrev laidE : List (String × DataW Unit) := [("loop.example/g00456/impl.errNoForm", Rows.laid_loop_example_g00456_impl_errNoForm)]

/-- From the row's condition to what the walks ask. -/
theorem err_of_laid {W : World} (h : laidMetH Tryd.prog laidE W) : ErrW W := by
  rw [MakeChecks.laidMetH_plain _ _ _ (by kernel_rfl)] at h
  obtain ⟨ps, ⟨g0, t0, cs0, f0, p0, q0, hg0, ht0, hv0, hd0, _⟩, _⟩ := h
  obtain rfl := Option.some.inj (gErr.symm.trans hg0)
  obtain rfl := Option.some.inj (tErr.symm.trans ht0)
  obtain ⟨f1, u, v, hcs, _, _⟩ := iface_of_trod Tryd.underlying62 hd0
  refine ⟨u, v, ?_⟩
  rw [World.var?_cell hg0 hv0 0]
  have e : cs0 = #[.iface u v] := by cases cs0; simpa using hcs
  rw [e]
  rfl

/-- The door's own heap meets the condition. -/
theorem err_door (os : Os) (args : Array Value) : laidMetH Tryd.prog laidE ((World.doorLaid Tryd.prog 400 os).forCall (fun _ _ => 0) ⟨#[], args, []⟩).memory :=
  laidMetH_of_parts3 (fuel := 8) (laidMet_of_run' 8 (by kernel_rfl) (by kernel_rfl)) (by kernel_rfl) (by kernel_rfl)

end Go.Proofs.YtmkegkpnomcnhaaDoor

/- What the proofs of this seat share: the variable errBelowZero as the row lists it, its cell; the door's own heap. -/
namespace Go.Proofs.YtmkegkpnomcnhaaDoor
open Go.ChangeShapes Go.WideShapes Go.ChangeAt Go.RowKit

theorem gBz : Tryd.prog.globalNamed "loop.example/g00456/impl.errBelowZero" = some 0 := by kernel_rfl
theorem tBz : (Tryd.prog.globals[0]?).map (·.type) = some 62 := by kernel_rfl

abbrev laidZ : List (String × DataW Unit) := [("loop.example/g00456/impl.errBelowZero", Rows.laid_loop_example_g00456_impl_errBelowZero)]

/-- From the row's condition to what the walks ask. -/
theorem bz_of_laid {W : World} (h : laidMetH Tryd.prog laidZ W) : BzW W := by
  rw [MakeChecks.laidMetH_plain _ _ _ (by kernel_rfl)] at h
  obtain ⟨ps, ⟨g0, t0, cs0, f0, p0, q0, hg0, ht0, hv0, hd0, _⟩, _⟩ := h
  obtain rfl := Option.some.inj (gBz.symm.trans hg0)
  obtain rfl := Option.some.inj (tBz.symm.trans ht0)
  obtain ⟨f1, u, v, hcs, _, _⟩ := iface_of_trod Tryd.underlying62 hd0
  refine ⟨u, v, ?_⟩
  rw [World.var?_cell hg0 hv0 0]
  have e : cs0 = #[.iface u v] := by cases cs0; simpa using hcs
  rw [e]
  rfl

/-- The door's own heap meets the condition. -/
theorem bz_door (os : Os) (args : Array Value) : laidMetH Tryd.prog laidZ ((World.doorLaid Tryd.prog 400 os).forCall (fun _ _ => 0) ⟨#[], args, []⟩).memory :=
  laidMetH_of_parts3 (fuel := 8) (laidMet_of_run' 8 (by kernel_rfl) (by kernel_rfl)) (by kernel_rfl) (by kernel_rfl)

end Go.Proofs.YtmkegkpnomcnhaaDoor

/- What the proofs of this seat share where a row lists both variables: errNoForm and errBelowZero; their cells; the door's own heap. -/
namespace Go.Proofs.YtmkegkpnomcnhaaDoor
open Go.ChangeShapes Go.WideShapes Go.ChangeAt Go.RowKit

abbrev laidEZ : List (String × DataW Unit) := [("loop.example/g00456/impl.errNoForm", Rows.laid_loop_example_g00456_impl_errNoForm), ("loop.example/g00456/impl.errBelowZero", Rows.laid_loop_example_g00456_impl_errBelowZero)]

/-- From the row's condition to what the walks ask. -/
theorem ez_of_laid {W : World} (h : laidMetH Tryd.prog laidEZ W) : ErrW W ∧ BzW W := by
  rw [MakeChecks.laidMetH_plain _ _ _ (by kernel_rfl)] at h
  obtain ⟨ps, ⟨g0, t0, cs0, f0, p0, q0, hg0, ht0, hv0, hd0, ⟨g1, t1, cs1, f1, p1, q1, hg1, ht1, hv1, hd1, _⟩, _⟩, _⟩ := h
  constructor
  · obtain rfl := Option.some.inj (gErr.symm.trans hg0)
    obtain rfl := Option.some.inj (tErr.symm.trans ht0)
    obtain ⟨f1, u, v, hcs, _, _⟩ := iface_of_trod Tryd.underlying62 hd0
    refine ⟨u, v, ?_⟩
    rw [World.var?_cell hg0 hv0 0]
    have e : cs0 = #[.iface u v] := by cases cs0; simpa using hcs
    rw [e]
    rfl
  · obtain rfl := Option.some.inj (gBz.symm.trans hg1)
    obtain rfl := Option.some.inj (tBz.symm.trans ht1)
    obtain ⟨f1, u, v, hcs, _, _⟩ := iface_of_trod Tryd.underlying62 hd1
    refine ⟨u, v, ?_⟩
    rw [World.var?_cell hg1 hv1 0]
    have e : cs1 = #[.iface u v] := by cases cs1; simpa using hcs
    rw [e]
    rfl

/-- The door's own heap meets the condition. -/
theorem ez_door (os : Os) (args : Array Value) : laidMetH Tryd.prog laidEZ ((World.doorLaid Tryd.prog 400 os).forCall (fun _ _ => 0) ⟨#[], args, []⟩).memory :=
  laidMetH_of_parts3 (fuel := 8) (laidMet_of_run' 8 (by kernel_rfl) (by kernel_rfl)) (by kernel_rfl) (by kernel_rfl)

end Go.Proofs.YtmkegkpnomcnhaaDoor

/- A slice of numbers of any kind that came in, opened: its cells. -/
namespace Go.Proofs.YtmkegkpnomcnhaaDoor
open Go.ChangeShapes Go.WideShapes Go.ChangeAt Go.RowKit
set_option linter.unusedVariables false
set_option maxRecDepth 100000

theorem add_plain {a : Addr} {i : Nat} (h : a.spot = none) : a.add i = ⟨a.block, a.off + i, none⟩ := by
  unfold Addr.add
  by_cases hi : i = 0
  · subst hi; cases a; simp_all
  · simp [hi]

section
variable {H : Type} {enc : TypeId × Value → H} {P : Program} {w : World} {base b0 : Nat} {r : Reach} {spare : Nat → Bool} {held : Bool}
/-- A slice of numbers of any kind: its cells. -/
theorem open_Ns {t e : TypeId} {k : IntKind} {v : Value} {d : DataW H} {p : List MemPlace} (ht : P.underlying t = some (.slice e)) (he : P.underlying e = some (.int k)) (hc : P.cellsOf e = 1)
    (hv : Value.okWide P w r b0 t v) (h : DataW.Trod enc P w base spare held t v d p) :
    ∃ ao cap, ∃ xs : List Int, v = .slice ao xs.length cap ∧ xs.length ≤ maxLen ∧ (∀ i (h : i < xs.length), ∃ b off, ao = some ⟨b, off, none⟩ ∧ w.cell? ⟨b, off + i, none⟩ = some (.int k xs[i]) ∧ (Lit.int k xs[i]).wf = true) := by
  obtain ⟨ao, len, cap, rfl⟩ := okWide_slice ht hv
  obtain ⟨m, hm⟩ := h
  have hm' : DataW.trod enc P w base spare held m t [.slice ao len cap] = some (d, p) := hm
  rcases open_ints ht he hc hm' with ⟨hcs, _⟩ | ⟨a, len', cap', zs, hcs, _, hl, hcm, hz, _, hcell, hws⟩
  · simp only [List.cons.injEq, Value.slice.injEq, and_true] at hcs
    obtain ⟨rfl, rfl, rfl⟩ := hcs
    exact ⟨none, 0, [], rfl, Nat.zero_le _, fun i hi => absurd hi (Nat.not_lt_zero _)⟩
  · simp only [List.cons.injEq, Value.slice.injEq, and_true] at hcs
    obtain ⟨rfl, rfl, rfl⟩ := hcs
    have hlen : len ≤ zs.length := by rw [hz]; split <;> omega
    have htl : (zs.take len).length = len := by simp; omega
    refine ⟨some a, cap, zs.take len, by rw [htl], by omega, fun i hi => ?_⟩
    have hi' : i < len := by omega
    have h0 : a.spot = none := by
      have := World.cell?_spot (hcell 0 (by omega))
      simpa [Addr.add] using this
    have hci := hcell i (by omega)
    rw [add_plain h0] at hci
    have hg : (zs.take len)[i] = zs.getD i 0 := by
      rw [List.getElem_take]; simp [List.getD, show i < zs.length by omega]
    refine ⟨a.block, a.off, ?_, ?_, ?_⟩
    · cases a; simp_all
    · rw [hci, hg]
    · rw [hg]
      exact hws _ (by simp [List.getD, show i < zs.length by omega])
end

end Go.Proofs.YtmkegkpnomcnhaaDoor

/- A slice of bytes that came in, opened: what it shows. -/
namespace Go.Proofs.YtmkegkpnomcnhaaDoor
open Go.ChangeShapes Go.WideShapes Go.ChangeAt Go.RowKit
set_option linter.unusedVariables false
set_option maxRecDepth 100000

theorem cellsByte : Tryd.prog.cellsOf 5 = 1 := by kernel_rfl

theorem open_bytes {H : Type} {enc : TypeId × Value → H} {w : World} {base b0 : Nat} {r : Reach} {spare : Nat → Bool} {held : Bool} {v : Value} {d : DataW H} {p : List MemPlace}
    (hv : Value.okWide Tryd.prog w r b0 22 v) (h : DataW.Trod enc Tryd.prog w base spare held 22 v d p) : ∃ ao cap n, v = .slice ao n cap ∧ n ≤ maxLen ∧ Bs w ao n := by
  obtain ⟨ao, cap, xs, hv, hl, hx⟩ := open_Ns Tryd.underlying22 Tryd.underlying5 cellsByte hv h
  refine ⟨ao, cap, xs.length, hv, hl, fun i hi => ?_⟩
  obtain ⟨b, off, e, hc, hw⟩ := hx i hi
  have : 0 ≤ xs[i] ∧ xs[i] ≤ 255 := by simpa [Lit.wf, IntKind.min, IntKind.max, IntKind.signed, IntKind.bits] using hw
  exact ⟨b, off, xs[i], e, hc, this.1, this.2⟩

end Go.Proofs.YtmkegkpnomcnhaaDoor

/- Contract of laws.at: one of some choices. -/
namespace Go.Proofs.YtmkegkpnomcnhaaDoor
open Go.RowKit
set_option linter.unusedVariables false
set_option maxRecDepth 100000

set_option maxHeartbeats 3200000 in
theorem at_any (ao : Option Addr) (n cap : Nat) (i k : Int) (w : World) (hn : n ≤ 1048576) (hi0 : 0 ≤ i) (hi1 : i ≤ 1000) (hk0 : 1 ≤ k) (hk1 : k ≤ 100000) (hB : Bs w ao n) :
    Calls Tryd.prog 8 #[.slice ao n cap, .int .i64 i, .int .i64 k] w fun e w' => ∃ r : Int, e = .returned (.int .i64 r) ∧ 0 ≤ r ∧ r < k ∧ Below w.heap.size w w' := by
  by_cases h1 : k ≤ 1
  · go_enter Tryd.func8, Tryd.ntmps8
    go_wp2
    go_ret
    exact ⟨0, rfl, by omega, by omega, Below.refl _ _⟩
  by_cases h0 : n = 0
  · have hb0 : ((n : Int) == 0) = true := by simp [h0]
    go_enter Tryd.func8, Tryd.ntmps8
    go_wp2
    go_ret
    have q0 := Int.emod_nonneg (i * 7) (show k ≠ 0 by omega)
    have q1 := Int.emod_lt_of_pos (i * 7) (show 0 < k by omega)
    exact ⟨i * 7 % k, rfl, q0, q1, Below.refl _ _⟩
  have hb0 : ((n : Int) == 0) = false := by simp [h0]
  have hnp : (0 : Int) < n := by omega
  have p0 := Int.emod_nonneg i (show (n : Int) ≠ 0 by omega)
  have p1 := Int.emod_lt_of_pos i hnp
  have p2 := Int.emod_nonneg (i + 1) (show (n : Int) ≠ 0 by omega)
  have p3 := Int.emod_lt_of_pos (i + 1) hnp
  obtain ⟨u, hu⟩ := Int.eq_ofNat_of_zero_le p0
  obtain ⟨v, hv⟩ := Int.eq_ofNat_of_zero_le p2
  have q0 : i / (n : Int) ≤ 1000 := Int.le_trans (Int.ediv_le_self _ hi0) hi1
  have q1 : 0 ≤ i / (n : Int) := Int.ediv_nonneg hi0 (by omega)
  obtain ⟨b, off, x, rfl, hcx, hx0, hx1⟩ := hB u (by omega)
  obtain ⟨b2, off2, y, he, hcy, hy0, hy1⟩ := hB v (by omega)
  simp only [Option.some.injEq, Addr.mk.injEq, and_true] at he
  obtain ⟨rfl, rfl⟩ := he
  have hn0 : ((n : Int) == 0) = false := hb0
  have hn1 : ¬ (n : Int) = 0 := by omega
  have hk2 : ¬ k = 0 := by omega
  have t1 : i.tmod (n : Int) = (u : Int) := by rw [Int.tmod_eq_emod_of_nonneg hi0]; exact hu
  have w1 : IntKind.i64.wrap (i + 1) = i + 1 := wrapI (by omega) (by omega)
  have t2 : (i + 1).tmod (n : Int) = (v : Int) := by rw [Int.tmod_eq_emod_of_nonneg (by omega)]; exact hv
  have w2 : IntKind.i64.wrap x = x := wrapI (by omega) (by omega)
  have w3 : IntKind.i64.wrap (x * 31) = x * 31 := wrapI (by omega) (by omega)
  have w4 : IntKind.i64.wrap y = y := wrapI (by omega) (by omega)
  have w5 : IntKind.i64.wrap (x * 31 + y) = x * 31 + y := wrapI (by omega) (by omega)
  have t3 : i.tdiv (n : Int) = i / (n : Int) := Int.tdiv_eq_ediv_of_nonneg hi0
  have w6 : IntKind.i64.wrap (i / (n : Int)) = i / (n : Int) := wrapI (by omega) (by omega)
  have w7 : IntKind.i64.wrap (x * 31 + y + i / (n : Int)) = x * 31 + y + i / (n : Int) := wrapI (by omega) (by omega)
  have t4 : (x * 31 + y + i / (n : Int)).tmod k = (x * 31 + y + i / (n : Int)) % k := Int.tmod_eq_emod_of_nonneg (by omega)
  have z0 := Int.emod_nonneg (x * 31 + y + i / (n : Int)) (show k ≠ 0 by omega)
  have z1 := Int.emod_lt_of_pos (x * 31 + y + i / (n : Int)) (show 0 < k by omega)
  go_enter Tryd.func8, Tryd.ntmps8
  go_wp2
  go_quiet (fail)
  go_wp2
  go_ret
  exact ⟨_, rfl, z0, z1, Joins.below_draws _ _ _⟩

end Go.Proofs.YtmkegkpnomcnhaaDoor

/- Contract of the laws' comparison of lists of numbers (sameInts). -/
namespace Go.Proofs.YtmkegkpnomcnhaaDoor
open Go.RowKit
set_option linter.unusedVariables false
set_option maxRecDepth 100000

set_option maxHeartbeats 800000 in
theorem sameInts_any (ao bo : Option Addr) (ca cb : Nat) (ss tt : List Int) (w : World) (hl : ss.length ≤ maxLen) (hc : Is w ao ss) (hd : Is w bo tt) :
    Calls Tryd.prog 11 #[.slice ao ss.length ca, .slice bo tt.length cb] w fun e w' => e = .returned (.bool (eqNB ss tt)) ∧ Below w.heap.size w w' := by
  have HC := hide hc
  have HD := hide hd
  clear hc hd
  unfold maxLen at hl
  by_cases hle : ss.length = tt.length
  · have hb : ((ss.length : Int) != (tt.length : Int)) = false := by simp [hle]
    have HLE := hide hle
    clear hle
    go_enter Tryd.func11, Tryd.ntmps11
    go_wp2
    go_loopw [5] (fun i wr => ∃ k : Nat, k ≤ ss.length ∧ i = .int .i64 k ∧ Hid (∀ j (h : j < ss.length) (h' : j < tt.length), j < k → ss[j] = tt[j]) ∧ Hid (Below w.heap.size w wr)) (fun i _ => ss.length - (intOf i).toNat)
    case atStart => exact ⟨0, Nat.zero_le _, rfl, hide (fun j _ _ h => by omega), hide (Below.refl _ _)⟩
    case round =>
      obtain ⟨k, hk, rfl, HA, HB⟩ := hrel
      by_cases hlt : k < ss.length
      · have hlt' : k < tt.length := by rw [← unhide HLE]; exact hlt
        obtain ⟨b, off, rfl, hc⟩ := (unhide HC).below (unhide HB) k hlt
        obtain ⟨b', off', rfl, hc'⟩ := (unhide HD).below (unhide HB) k hlt'
        by_cases he : ss[k] = tt[k]
        · have HN := hide (eq_succ hlt hlt' (unhide HA) he)
          have be : (ss[k] != tt[k]) = false := by simp [he]
          clear he
          go_wp2
          go_quiet (fail)
          go_wp2
          go_roundw
          case rel => exact ⟨k + 1, by omega, by go_num, HN, hide ((unhide HB).trans (Joins.below_draws _ _ _))⟩
          case measure => simp [intOf]; omega
        · have H := hide (eqNB_false hlt hlt' he)
          have be : (ss[k] != tt[k]) = true := by simp [he]
          clear he
          go_wp2
          go_quiet (fail)
          go_wp2
          go_ret
          exact ⟨ret_bool (unhide H).symm, (unhide HB).trans (Joins.below_draws _ _ _)⟩
      · have H := hide (eqNB_true (unhide HLE) (fun j h h' => unhide HA j h h' (by omega)))
        go_wp2
        go_ret
        exact ⟨ret_bool (unhide H).symm, unhide HB⟩
  · have hb : ((ss.length : Int) != (tt.length : Int)) = true := by simp; omega
    have H := hide (eqNB_false_len hle)
    clear hle
    go_enter Tryd.func11, Tryd.ntmps11
    go_wp2
    go_ret
    exact ⟨ret_bool (unhide H).symm, Below.refl _ _⟩

end Go.Proofs.YtmkegkpnomcnhaaDoor
