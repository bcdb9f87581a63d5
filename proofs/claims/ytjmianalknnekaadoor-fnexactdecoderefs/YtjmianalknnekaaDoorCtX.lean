/- Contracts of impl.readText at counts, impl.DecodeRefs. -/
import Derived.Test.YtjmianalknnekaaDoorRows
import Derived.Test.YtjmianalknnekaaDoorGen
import Derived.Test.YtjmianalknnekaaDoorKeep
import Derived.Test.YtjmianalknnekaaDoorInts
import Derived.Test.YtjmianalknnekaaDoorOwnN
import Derived.Test.YtjmianalknnekaaDoorClkB
import Derived.Test.YtjmianalknnekaaDoorArrV
import Derived.Test.YtjmianalknnekaaDoorCtP
import Derived.Test.YtjmianalknnekaaDoorUnI
import Derived.Test.YtjmianalknnekaaDoorCtQ
import Derived.Test.YtjmianalknnekaaDoorCtI
import Derived.Test.YtjmianalknnekaaDoorCtJ
import Derived.Test.YtjmianalknnekaaDoorCtW
import Derived.WalkKit
import Derived.WalkSpells
import Derived.KernelRfl
import Derived.LoopN
import Derived.BigQuiet
import Derived.Deep.QuietTactic
import Derived.Deep.CutRange
import Derived.Deep.RegionWith
import Derived.Laws.ResultCell
import Derived.Defers
import Derived.Recover
import Derived.Deep.MidRow
namespace Go.Proofs.YtjmianalknnekaaDoor
open Go.RowKit
set_option linter.unusedVariables false
set_option maxRecDepth 100000

theorem results_cc {fn : Func} {p u : Tmp} {ty tu : TypeId} (h : fn.results = #[.cell p ty, .cell u tu]) (tmps : Array Value) (P : Program) (w : World) :
    (results fn tmps).run P w = ((asAddr (tmps.getD p undef)).run P w).andThen fun a w₁ => ((loadVar ty a).run P w₁).andThen fun v w₂ => ((asAddr (tmps.getD u undef)).run P w₂).andThen fun b w₃ => ((loadVar tu b).run P w₃).andThen fun x w₄ => .ok (Value.tuple #[v, x]) w₄ := by
  simp only [results, h]
  simp [Sem.run_bind, Result.andThen]
theorem res_cc {W : World} {R C : Nat} {xs : List Int} {n : Int} {p u : Value} (h : VarC W R xs) (hl : xs.length = 24) (hc : W.cell? ⟨C, 0, none⟩ = some (.int .i64 n)) (hp : p = .pointer (some ⟨R, 0, none⟩)) (hu : u = .pointer (some ⟨C, 0, none⟩)) :
    (((asAddr p).run Tryd.prog W).andThen fun a w₁ => ((loadVar 43 a).run Tryd.prog w₁).andThen fun v w₂ => ((asAddr u).run Tryd.prog w₂).andThen fun b w₃ => ((loadVar 3 b).run Tryd.prog w₃).andThen fun x w₄ => .ok (Value.tuple #[v, x]) w₄) = .ok (Value.tuple #[ctV xs, .int .i64 n]) W := by
  subst hp hu
  simp only [asAddr, Sem.run_pure, Result.andThen_ok, load_ct W h hl]
  simp [go_sem, hc]

theorem catchK_panicking (p : Addr) (x : Int) (u : TypeId) (pv : Value) (older : List PanicEntry) (w : World) (hc : w.cell? p = some (.int .i64 x)) (hz : w.frozen? p = false) :
    CallsD Tryd.prog 40 #[.pointer (some p)] (.panicking ({ v := .iface u pv, recovered := false } :: older)) w fun e u' w' =>
      e = .returned (.tuple #[]) ∧ u' = .panicking ({ v := .iface u pv, recovered := true } :: older) ∧ w' = w.setCell p (.int .i64 3) := by
  refine callsD_of_wpS Tryd.func40 rfl fun c₀ cs hu => ?_
  apply wpS_seq
  apply wpS_region
  simp [wpOpsS, go_sem, recoverD, hu, Tryd.ntmps40, Exit.thenS]
  refine wpS_cond (t := true) (by simp [Act.eval, Array.replicate]) ?_
  simp only [if_true]
  apply wpS_region
  simp [wpOpsS, go_sem, hc, hz, bodyPostS, results, Tryd.results40]

theorem catchK_idle (p : Addr) (w : World) :
    CallsD Tryd.prog 40 #[.pointer (some p)] .returning w fun e u' w' => e = .returned (.tuple #[]) ∧ u' = .returning ∧ w' = w := by
  refine callsD_of_wpS Tryd.func40 rfl fun c₀ cs hu => ?_
  apply wpS_seq
  apply wpS_region
  simp [wpOpsS, go_sem, recoverD, hu, Tryd.ntmps40, Exit.thenS]
  refine wpS_cond (t := false) (by simp [Act.eval, Array.replicate]) ?_
  simp only [Bool.false_eq_true, if_false]
  refine wpS_of_wp (wp_skip ?_)
  cases c₀
  simp_all [bodyPostS, results, Tryd.results40]

theorem set_othK {W : World} {b k : Nat} {o : Obj} (h : W.heap[k]? = some o) (hk : k ≠ b) (u : Value) : (W.setCell ⟨b, 0, none⟩ u).heap[k]? = some o := by
  rw [Below.heap_setCell W ⟨b, 0, none⟩ u k hk]; exact h
/-- What readText answers at counts. -/
def rtL (s : ByteArray) : List Int := if cdC s = 0 then cdL s else zero24
set_option maxHeartbeats 3200000 in
theorem readTextC_any (s : ByteArray) (w : World) (hE : ErrW w) :
    Calls Tryd.prog 27 #[.string s, .func (.func 28) #[] #[]] w fun e w' => e = .returned (.tuple #[ctV (rtL s), .int .i64 (cdC s)]) ∧ Below w.heap.size w w' := by
  have hmf : ∀ (fn : Fn) (first cap : Array Value) (w : World), (Instr.makeFunc fn first cap).run Tryd.prog w = .ok (.func fn first cap) w := fun _ _ _ _ => rfl
  have HA := hide (Joins.below_alloc2 w (.cells #[.int .i64 0, .int .i64 0, .int .i64 0, .int .i64 0, .int .i64 0, .int .i64 0, .int .i64 0, .int .i64 0, .int .i64 0, .int .i64 0, .int .i64 0, .int .i64 0, .int .i64 0, .int .i64 0, .int .i64 0, .int .i64 0, .int .i64 0, .int .i64 0, .int .i64 0, .int .i64 0, .int .i64 0, .int .i64 0, .int .i64 0, .int .i64 0] 43) (.cells #[.int .i64 0] 3))
  have HR := hide (block_of_below (arr_new w) (Joins.below_alloc1 (w.alloc (.cells #[.int .i64 0, .int .i64 0, .int .i64 0, .int .i64 0, .int .i64 0, .int .i64 0, .int .i64 0, .int .i64 0, .int .i64 0, .int .i64 0, .int .i64 0, .int .i64 0, .int .i64 0, .int .i64 0, .int .i64 0, .int .i64 0, .int .i64 0, .int .i64 0, .int .i64 0, .int .i64 0, .int .i64 0, .int .i64 0, .int .i64 0, .int .i64 0] 43)) (.cells #[.int .i64 0] 3)))
  have HC : Hid (((w.alloc (.cells #[.int .i64 0, .int .i64 0, .int .i64 0, .int .i64 0, .int .i64 0, .int .i64 0, .int .i64 0, .int .i64 0, .int .i64 0, .int .i64 0, .int .i64 0, .int .i64 0, .int .i64 0, .int .i64 0, .int .i64 0, .int .i64 0, .int .i64 0, .int .i64 0, .int .i64 0, .int .i64 0, .int .i64 0, .int .i64 0, .int .i64 0, .int .i64 0] 43)).alloc (.cells #[.int .i64 0] 3)).heap[w.heap.size + 1]? = some (.cells #[.int .i64 0] 3 (0, 0))) := hide (heap_alloc2_new w _ _)
  have HE := hide (hE.below (unhide HA))
  clear hE
  by_cases hlong : 65536 < s.size
  · have HF := hide (cd_long hlong)
    go_enter_defers Tryd.func27, Tryd.ntmps27
    go_upto_region 1 with fail
    revert HA HR HC HE
    generalize ((w.alloc _).alloc _) = W0
    intro HA HR HC HE
    have cc : W0.cell? ⟨w.heap.size + 1, 0, none⟩ = some (.int .i64 0) := by rw [Joins.cell_of_block (unhide HC)]; rfl
    have cf := Joins.unfrozen_of_block (unhide HC) 0
    go_wp2_with (first | (refine wpList_load_arr rfl 43 _ rfl w.heap.size rfl (intV zero24).toArray _ _ (unhide HR) und24 rfl sizeA24 ?_) | (refine wpList_store_arr rfl 43 _ _ rfl w.heap.size rfl (intV zero24).toArray rfl _ _ (unhide HR) sizeA24 rfl (intV_one _) ?_; intro w2 hn2 hk2 hs2; have HN2 := hide hn2; have hC2 := (hk2.block (w.heap.size + 1) (Array.getElem?_eq_some_iff.1 (unhide HC)).1 (by omega)).trans (unhide HC); have HC2 := hide hC2; have HB2 := hide (keep_one (unhide HA) hk2 (Nat.le_refl _)); have cc2 : w2.cell? ⟨w.heap.size + 1, 0, none⟩ = some (.int .i64 0) := (by rw [Joins.cell_of_block hC2]; rfl); have cf2 := Joins.unfrozen_of_block hC2 0; clear hn2 hk2 hs2 hC2 cc cf))
    have HN3 : Hid (VarC (w2.setCell ⟨w.heap.size + 1, 0, none⟩ (.int .i64 2)) w.heap.size zero24) := hide (set_othK (unhide HN2) (by omega) _)
    refine ⟨.tuple #[ctV zero24, .int .i64 2], ?_, ?_, (unhide HB2).setCell (p := ⟨w.heap.size + 1, 0, none⟩) (Nat.le_succ _) _⟩
    · exact (results_cc (Tryd.results27) _ _ _).trans (res_cc (unhide HN3) rfl (World.cell?_setCell_same _ _ _ cc2) rfl rfl)
    · exact ret_ci (by rw [rtL, (unhide HF).1]; rfl) (unhide HF).1.symm
  · have hs : s.size ≤ 65536 := by omega
    go_enter_defers Tryd.func27, Tryd.ntmps27
    go_upto_region 1 with fail
    revert HA HR HC HE
    generalize ((w.alloc _).alloc _) = W0
    intro HA HR HC HE
    go_wp2_with fail
    refine (readCounts_any s _ hs (unhide HE)).mono ?_
    rintro e w1 ⟨hr, hb⟩
    have HB1 := hide (fr (unhide HA) hb)
    have HR1 := hide (block_of_below (unhide HR) hb)
    have hC1 := block_of_below (unhide HC) hb
    have HC1 := hide hC1
    have cc1 : w1.cell? ⟨w.heap.size + 1, 0, none⟩ = some (.int .i64 0) := by rw [Joins.cell_of_block hC1]; rfl
    have cf1 := Joins.unfrozen_of_block hC1 0
    clear hb hC1 HA HR HC HE
    rcases hr with ⟨hd, rfl⟩ | ⟨hd, u, pv, rfl⟩
    · have HF := hide (cd_ok hlong hd)
      have HL := hide (cdL_len hd)
      clear hd
      generalize hLL : cdL s = L at *
      have HLL := hide hLL
      clear hLL
      go_wp2_with (refine wpList_store_arr rfl 43 _ _ rfl w.heap.size rfl (intV L).toArray rfl _ _ (unhide HR1) (sizeA (unhide HL)) (by rw [intV_size, intV_size, unhide HL]; rfl) (intV_one _) ?_; intro w2 hn2 hk2 hs2; have HN2 := hide hn2; have hC2 := (hk2.block (w.heap.size + 1) (Array.getElem?_eq_some_iff.1 (unhide HC1)).1 (by omega)).trans (unhide HC1); have HC2 := hide hC2; have HB2 := hide (keep_one (unhide HB1) hk2 (Nat.le_refl _)); have cc2 : w2.cell? ⟨w.heap.size + 1, 0, none⟩ = some (.int .i64 0) := (by rw [Joins.cell_of_block hC2]; rfl); have cf2 := Joins.unfrozen_of_block hC2 0; clear hn2 hk2 hs2 hC2 cc1 cf1)
      have HN3 : Hid (VarC (w2.setCell ⟨w.heap.size + 1, 0, none⟩ (.int .i64 0)) w.heap.size L) := hide (set_othK (unhide HN2) (by omega) _)
      have HB3 := hide ((unhide HB2).setCell (p := ⟨w.heap.size + 1, 0, none⟩) (Nat.le_succ _) (.int .i64 0))
      have HCC := hide (World.cell?_setCell_same _ _ (.int .i64 0) cc2)
      refine leaves_cons (f := 40) (args := #[.pointer (some ⟨w.heap.size + 1, 0, none⟩)]) (by simp) (by simp [go_sem]) ?_
      refine (catchK_idle ⟨w.heap.size + 1, 0, none⟩ _).mono ?_
      rintro e u' w'' ⟨rfl, rfl, rfl⟩
      refine ⟨.tuple #[ctV L, .int .i64 0], ?_, ?_, unhide HB3⟩
      · exact (results_cc (Tryd.results27) _ _ _).trans (res_cc (unhide HN3) (unhide HL) (unhide HCC) rfl rfl)
      · exact ret_ci (by rw [rtL, (unhide HF).1, if_pos rfl, unhide HLL]) (unhide HF).1.symm
    · have HF := hide (cd_no hlong hd)
      clear hd
      go_wp2
      refine leaves_cons (f := 40) (args := #[.pointer (some ⟨w.heap.size + 1, 0, none⟩)]) (by simp) (by simp [go_sem]) ?_
      refine (catchK_panicking ⟨w.heap.size + 1, 0, none⟩ 0 u pv [] _ cc1 cf1).mono ?_
      rintro e u' w'' ⟨rfl, rfl, rfl⟩
      have HN3 : Hid (VarC (w1.setCell ⟨w.heap.size + 1, 0, none⟩ (.int .i64 3)) w.heap.size zero24) := hide (set_othK (unhide HR1) (by omega) _)
      have HB3 := hide ((unhide HB1).setCell (p := ⟨w.heap.size + 1, 0, none⟩) (Nat.le_succ _) (.int .i64 3))
      have HCC := hide (World.cell?_setCell_same _ _ (.int .i64 3) cc1)
      refine ⟨.tuple #[ctV zero24, .int .i64 3], ?_, ?_, unhide HB3⟩
      · exact (results_cc (Tryd.results27) _ _ _).trans (res_cc (unhide HN3) rfl (unhide HCC) rfl rfl)
      · exact ret_ci (by rw [rtL, (unhide HF).1]; rfl) (unhide HF).1.symm

set_option maxHeartbeats 1600000 in
theorem decodeRefs_impl (s : ByteArray) (w : World) (hE : ErrW w) :
    Calls Tryd.prog 9 #[.string s] w fun e w' => ∃ v, e = .returned (.tuple #[v, .int .i64 (cdC s)]) ∧ OwnN w' w.heap.size v (cdR s) ∧ Below w.heap.size w w' := by
  have HE := hide hE
  have HLC : Hid ((rtL s).length = 24) := hide (by
    unfold rtL
    split
    · rename_i h
      apply cdL_len
      unfold cdC at h
      split at h
      · cases h
      · split at h
        · assumption
        · cases h
    · rfl)
  clear hE
  go_enter Tryd.func9, Tryd.ntmps9
  go_wp2_with fail
  refine (readTextC_any s _ (unhide HE)).mono ?_
  rintro e w1 ⟨rfl, hb⟩
  have HB1 := hide hb
  have HSZ := hide hb.size
  clear hb HE
  have HNN := hide (arr_new w1)
  have HBB := hide (fr (unhide HB1) (Joins.below_alloc1 w1 (.cells #[.int .i64 0, .int .i64 0, .int .i64 0, .int .i64 0, .int .i64 0, .int .i64 0, .int .i64 0, .int .i64 0, .int .i64 0, .int .i64 0, .int .i64 0, .int .i64 0, .int .i64 0, .int .i64 0, .int .i64 0, .int .i64 0, .int .i64 0, .int .i64 0, .int .i64 0, .int .i64 0, .int .i64 0, .int .i64 0, .int .i64 0, .int .i64 0] 43)))
  by_cases h0 : cdC s = 0
  · have HRT : Hid (rtL s = cdL s ∧ cdR s = cdL s) := hide ⟨if_pos h0, if_pos h0⟩
    have H0 := hide h0
    rw [h0]
    clear h0
    go_upto_region 2 with (refine wpList_store_arr rfl 43 _ _ rfl w1.heap.size rfl (intV (rtL s)).toArray rfl _ _ (unhide HNN) (sizeA (unhide HLC)) (by rw [intV_size, intV_size, unhide HLC]; rfl) (intV_one _) ?_; intro w2 hn2 hk2 hs2; have HN2 := hide hn2; have HB2 := hide (keep_one (unhide HBB) hk2 (unhide HSZ)); clear hn2 hk2 hs2 HNN HBB HB1)
    go_wp2_with (first | (refine wpList_load_arr rfl 43 _ rfl w1.heap.size rfl (intV (rtL s)).toArray _ _ (unhide HN2) und24 rfl (sizeA (unhide HLC)) ?_) | fail)
    refine (list_any (rtL s) _ (unhide HLC)).mono ?_
    rintro e w3 ⟨g3, rfl, ho, hb⟩
    have HO := hide (own24 (own_base ho (unhide HB2).size) (unhide HLC))
    have HB3 := hide (fr (unhide HB2) hb)
    clear ho hb
    go_wp2
    go_ret2
    exact ⟨_, ret_ni rfl (unhide H0).symm, by rw [(unhide HRT).2, ← (unhide HRT).1]; exact unhide HO, unhide HB3⟩
  · have HRT : Hid (cdR s = []) := hide (if_neg h0)
    have hne := cw_ne h0
    clear h0
    go_upto_region 2 with (refine wpList_store_arr rfl 43 _ _ rfl w1.heap.size rfl (intV (rtL s)).toArray rfl _ _ (unhide HNN) (sizeA (unhide HLC)) (by rw [intV_size, intV_size, unhide HLC]; rfl) (intV_one _) ?_; intro w2 hn2 hk2 hs2; have HB2 := hide (keep_one (unhide HBB) hk2 (unhide HSZ)); clear hn2 hk2 hs2 HNN HBB HB1)
    go_wp2
    go_ret2
    exact ⟨.slice none 0 0, ret_ni rfl rfl, by rw [unhide HRT]; exact OwnN.nil _ _ _, unhide HB2⟩

end Go.Proofs.YtjmianalknnekaaDoor
