import Derived.Test.YtmkegkpnomcnhaaDoorRows
import Derived.Test.YtmkegkpnomcnhaaDoorPart1
import Derived.Test.YtmkegkpnomcnhaaDoorPart2
import Derived.Test.YtmkegkpnomcnhaaDoorPart3
import Derived.Test.YtmkegkpnomcnhaaDoorPart8
import Derived.Test.YtmkegkpnomcnhaaDoorPart6
import Derived.Test.YtmkegkpnomcnhaaDoorPart4
import Derived.WalkKit
import Derived.WalkSpells
import Derived.KernelRfl
import Derived.LoopN
import Derived.BigQuiet
import Derived.Deep.QuietTactic
import Derived.Deep.CutRange
import Derived.Deep.RegionWith
import Derived.Laws.ResultCell
import Derived.Defers
import Derived.Recover
import Derived.Lib.EndianBits
import Derived.Deep.MidRow
import Derived.Outline
import Derived.Test.YtmkegkpnomcnhaaDoorPart7
import Derived.Deep.RegionLawGrows
import Derived.Deep.RegionHeld3
import Derived.Deep.AppendLies

/- Contracts of impl.readCounts, impl.readText at counts, impl.DecodeRefs. -/
namespace Go.Proofs.YtmkegkpnomcnhaaDoor
open Go.RowKit
set_option linter.unusedVariables false
set_option maxRecDepth 100000

theorem and15 {V : Int} (h0 : 0 ≤ V) (h1 : V ≤ 2147483647) : bits .and .i64 V 15 = V % 16 := by
  obtain ⟨n, rfl⟩ := Int.eq_ofNat_of_zero_le h0
  have h := (bits_nat .i64 63 (by decide) (fun n a b => wraps_i64 n a b) n 15 (by omega) (by omega)).1
  have e2 : (15 : Int) = ((15 : Nat) : Int) := rfl
  rw [e2, h, show (15 : Nat) = 2 ^ 4 - 1 from rfl, Nat.and_two_pow_sub_one_eq_mod]
  omega
theorem open_yes2 {s : ByteArray} (h : openB s 2 = true) : RecP s ∧ byteAt s 0 = 2 := by
  simp only [openB, Bool.and_eq_true, decide_eq_true_eq] at h
  exact ⟨recB_iff.1 h.1, h.2⟩
theorem open_no2 {s : ByteArray} (h : openB s 2 = false) : ¬ (RecP s ∧ byteAt s 0 = 2) := by
  rintro ⟨a, b⟩
  rw [openB_yes a b] at h
  cases h

theorem keep_cell1 {w w' : World} {S : Nat → Prop} {b off : Nat} {v : Value} (hk : Keep S w w') (hb : ¬ S b) (h : w.cell? ⟨b, off, none⟩ = some v) : w'.cell? ⟨b, off, none⟩ = some v := by
  have hl := World.block_lt_of_cell? _ _ h
  rw [← h]
  unfold World.cell?
  simp only [hk.block b hl hb]
theorem errW_keep {w w' : World} {S : Nat → Prop} (h : ErrW w) (hk : Keep S w w') (hs : ∀ k, S k → 1 ≠ k) : ErrW w' := by
  obtain ⟨u, pv, hc⟩ := h
  exact ⟨u, pv, keep_cell1 hk (fun hS => hs _ hS rfl) hc⟩
theorem errW_pos {w : World} (h : ErrW w) : 1 < w.heap.size := by
  obtain ⟨u, pv, hc⟩ := h
  exact World.block_lt_of_cell? _ _ hc
/-- What reading counts comes to. -/
def RdC (s : ByteArray) (e : Ending) : Prop := (cdB s = true ∧ e = .returned (ctV (cdL s))) ∨ (cdB s = false ∧ ∃ u pv, e = .panicked [{ v := .iface u pv, recovered := false }])

set_option maxHeartbeats 3200000 in
theorem readCounts_any (s : ByteArray) (w : World) (hs : s.size ≤ 65536) (hE : ErrW w) :
    Calls Tryd.prog 20 #[.string s] w fun e w' => RdC s e ∧ Below w.heap.size w w' := by
  have HN := hide (arr_new w)
  have HA := hide (Joins.below_alloc1 w (.cells #[.int .i64 0, .int .i64 0, .int .i64 0, .int .i64 0, .int .i64 0, .int .i64 0, .int .i64 0, .int .i64 0, .int .i64 0, .int .i64 0, .int .i64 0, .int .i64 0, .int .i64 0, .int .i64 0, .int .i64 0, .int .i64 0, .int .i64 0, .int .i64 0, .int .i64 0, .int .i64 0, .int .i64 0, .int .i64 0, .int .i64 0, .int .i64 0] 39))
  have HE := hide (hE.below (unhide HA))
  have HPS := hide (errW_pos hE)
  clear hE
  go_enter Tryd.func20, Tryd.ntmps20
  go_upto_region 1 with fail
  revert HN HA HE
  generalize (w.alloc _) = W0
  intro HN HA HE
  cases hop : openB s 2
  · have HNO := hide (open_no2 hop)
    have HF := hide (cd_open hop)
    clear hop
    go_wp2_with fail
    refine (readKind_no s 2 _ hs (unhide HNO) (unhide HE)).mono ?_
    rintro e w1 ⟨⟨u, pv, rfl⟩, hb⟩
    have HB := hide (fr (unhide HA) hb)
    clear hb
    go_wp2
    exact ⟨rfl, .inr ⟨unhide HF, _, _, rfl⟩, unhide HB⟩
  have HYE := hide (open_yes2 hop)
  have HLE := hide (openL_yes hop)
  have HIN := hide (openL_in hop)
  have HNUM : Hid (∀ k (hk : k < (openL s 2).length), cdN (openL s 2)[k] = false → cdB s = false) := hide (fun k hk h => cd_num hk h)
  have HYES : Hid ((openL s 2).length = 4 → (∀ j (hj : j < (openL s 2).length), cdN (openL s 2)[j] = true) → cdB s = true) := hide (fun h4 h => cd_yes hop h4 h)
  have HCL : Hid (cdL s = sxA (openL s 2) 4) := hide rfl
  have HLEN : Hid (¬ (openL s 2).length = 4 → cdB s = false) := hide cd_len
  clear hop
  go_wp2_with fail
  refine (readKind_yes s 2 _ hs (unhide HYE).1 (unhide HYE).2).mono ?_
  rintro e w1 ⟨v, rfl, ⟨qo, qa, rfl, ho⟩, hb⟩
  rw [← unhide HLE] at ho ⊢
  have HI := hide (ownRN ho)
  have HB := hide (fr (unhide HA) hb)
  have HN1 := hide (block_of_below (unhide HN) hb)
  have HE1 := hide ((unhide HE).below hb)
  clear ho hb HA HN HE HLE HYE
  generalize openL s 2 = ns at *
  by_cases h4 : ns.length = 4
  · have H4 := hide h4
    have b4 : (((ns.length : Nat) : Int) == 4) = true := by simp [h4]
    clear h4 HLEN
    have HNN := hide (arr_new w1)
    have HAA := hide (Joins.below_alloc1 w1 (.cells #[.int .i64 0, .int .i64 0, .int .i64 0, .int .i64 0, .int .i64 0, .int .i64 0, .int .i64 0, .int .i64 0, .int .i64 0, .int .i64 0, .int .i64 0, .int .i64 0, .int .i64 0, .int .i64 0, .int .i64 0, .int .i64 0, .int .i64 0, .int .i64 0, .int .i64 0, .int .i64 0, .int .i64 0, .int .i64 0, .int .i64 0, .int .i64 0] 39))
    have HSZ : Hid (w.heap.size < w1.heap.size) := hide (Array.getElem?_eq_some_iff.1 (unhide HN1)).1
    go_upto_region 4 with (go_at_call 34; refine (demand_true _).mono ?_; rintro e w' ⟨rfl, hw⟩; replace hw := hw.symm; subst hw)
    have HI2 := hide ((unhide HI).below (unhide HAA))
    have HB2 := hide (fr (unhide HB) (unhide HAA))
    have HN2 := hide (block_of_below (unhide HN1) (unhide HAA))
    have HE2 := hide ((unhide HE1).below (unhide HAA))
    have HLTS : Hid (∀ b off, qo = some ⟨b, off, none⟩ → b < w1.heap.size) := hide (fun b off e => by
      obtain ⟨b', off', e', hc⟩ := (unhide HI) 0 (by have := unhide H4; omega)
      rw [e] at e'
      cases e'
      exact World.block_lt_of_cell? _ _ hc)
    clear HI HB HN1 HE1 HAA
    revert HNN HI2 HB2 HN2 HE2
    generalize (w1.alloc _) = W2
    intro HNN HI2 HB2 HN2 HE2
    generalize w1.heap.size = G at *
    have HNG : Hid (VarC W2 G (pad24 (sxA ns 0))) := hide (unhide HNN)
    clear HNN
    go_wp2
    go_loopw [16] (fun i wr => ∃ k : Nat, k ≤ ns.length ∧ i = .int .i64 k ∧ Hid (∀ j (h : j < ns.length), j < k → cdN ns[j] = true) ∧ Hid (VarC wr G (pad24 (sxA ns k))) ∧ Hid (Keep (fun b => b = G) W2 wr)) (fun i _ => ns.length - (intOf i).toNat)
    case atStart => exact ⟨0, Nat.zero_le _, rfl, hide (fun j _ h => by omega), HNG, hide (Keep.refl _ _)⟩
    case round =>
      clear HNG
      obtain ⟨k, hk, rfl, HAL, HV, HK⟩ := hrel
      by_cases hlt : k < ns.length
      · obtain ⟨b, off, rfl, hcl0⟩ := (unhide HI2) k hlt
        have hbl := unhide HLTS b off rfl
        have hcl : wr.cell? ⟨b, off + k, none⟩ = some (.int .i64 ns[k]) := keep_cell1 (unhide HK) (show ¬ b = G by omega) hcl0
        obtain ⟨hp0, hp1⟩ := unhide HIN k hlt
        have HP := hide (And.intro hp0 hp1)
        have HK4 : Hid (k < 4) := hide (by have := unhide H4; omega)
        have hk4i : (k : Int) < 4 := by have := unhide HK4; omega
        have HSU := hide (sxA_succ hlt)
        have HP6 : Hid (cdN ns[k] = true ↔ ns[k] / 16 ^ 6 = 0) := hide (by simp [cdN])
        have HNK := hide (unhide HNUM k hlt)
        have HAK := hide (fun (h : cdN ns[k] = true) => all_succ hlt (unhide HAL) h)
        have HSL := hide (sxA_len ns k hk)
        clear hcl0
        go_wp2
        clear hcl
        generalize ns[k] = p at *
        go_loopw [6, 7] (fun n c wq => ∃ m : Nat, m ≤ 6 ∧ c = .int .i64 ((6 * k + m : Nat) : Int) ∧ n = .int .i64 (p / 16 ^ m) ∧ Hid (VarC wq G (pad24 (sxA ns k ++ sxT p m))) ∧ Hid (Keep (fun b => b = G) W2 wq)) (fun _ c _ => 24 - (intOf c).toNat)
        case atStart => exact ⟨0, by omega, by go_num, by simp, hide (by simpa [sxT] using unhide HV), HK⟩
        case round =>
          clear HV HK
          obtain ⟨m, hm, rfl, rfl, HV, HK⟩ := hrel
          by_cases hm6 : m < 6
          · obtain ⟨r0, r1⟩ := rest_in (unhide HP).1 (unhide HP).2 m
            have HRS := hide (rest_succ p m)
            have HSS := hide (sxT_succ p m)
            have hk4n := unhide HK4
            have HLN : Hid ((sxA ns k ++ sxT p m).length = 6 * k + m) := hide (by rw [List.length_append, unhide HSL, sxT_len])
            have hlc : ((6 * k + m : Nat) : Int) < ((k : Int) + 1) * 6 := by omega
            have hlj : ((6 * k + m : Nat) : Int) < 24 := by omega
            have hpl : 6 * k + m < (pad24 (sxA ns k ++ sxT p m)).length := by rw [pad_len (by rw [unhide HLN]; omega)]; omega
            have hand := and15 r0 r1
            obtain ⟨x0, hcx⟩ : ∃ x, wr.cell? ⟨G, 6 * k + m, none⟩ = some x := ⟨_, arr_cell (unhide HV) hpl⟩
            have hfz := Joins.unfrozen_of_block (unhide HV) (6 * k + m)
            generalize p / 16 ^ m = V at *
            have HST : Hid (VarC (wr.setCell ⟨G, 6 * k + m, none⟩ (.int .i64 (V % 16))) G (pad24 (sxA ns k ++ sxT p (m + 1)))) := hide (by
              have := arr_set (unhide HV) (6 * k + m) (V % 16)
              have e := pad_set (xs := sxA ns k ++ sxT p m) (by rw [unhide HLN]; omega) (V % 16)
              rw [unhide HLN] at e
              rw [e, List.append_assoc, ← unhide HSS] at this
              exact this)
            have HKS := hide ((unhide HK).setCell (p := ⟨G, 6 * k + m, none⟩) rfl (.int .i64 (V % 16)))
            clear hpl
            generalize hJ : 6 * k + m = J at *
            go_wp2
            go_roundw
            case rel => exact ⟨m + 1, by omega, by go_num, by rw [← unhide HRS], HST, HKS⟩
            case measure => simp [intOf]; omega
          · have hm66 : m = 6 := by omega
            subst hm66
            obtain ⟨r0, r1⟩ := rest_in (unhide HP).1 (unhide HP).2 6
            have HVN : Hid (VarC wr G (pad24 (sxA ns (k + 1)))) := hide (by rw [← unhide HSU]; exact unhide HV)
            have hk4n := unhide HK4
            have hge : ¬ ((6 * k + 6 : Nat) : Int) < ((k : Int) + 1) * 6 := by omega
            by_cases hz : p / 16 ^ 6 = 0
            · have HAN := hide (unhide HAK ((unhide HP6).2 hz))
              have bz : (p / 16 ^ 6 == 0) = true := by rw [hz]; rfl
              clear hz
              generalize p / 16 ^ 6 = V at *
              go_wp2_with (go_at_call 34; refine (demand_true _).mono ?_; rintro e w' ⟨rfl, hw⟩; replace hw := hw.symm; subst hw)
              go_roundw
              case rel => exact ⟨k + 1, by omega, by go_num, HAN, HVN, HK⟩
              case measure => simp [intOf]; omega
            · have HF := hide (unhide HNK (by rw [← Bool.not_eq_true]; exact fun h => hz ((unhide HP6).1 h)))
              have bz : (p / 16 ^ 6 == 0) = false := beq_eq_false_iff_ne.2 hz
              have HEW := hide (errW_keep (unhide HE2) (unhide HK) (fun j hj => by have := unhide HPS; have := unhide HSZ; omega))
              have HBE := hide (keep_one (unhide HB2) (unhide HK) (by have := unhide HSZ; omega))
              clear hz
              generalize p / 16 ^ 6 = V at *
              go_wp2_with (go_at_call 34; refine (demand_false _ (unhide HEW)).mono ?_; rintro e w' ⟨⟨u, pv, rfl⟩, hw⟩; replace hw := hw.symm; subst hw)
              exact ⟨rfl, .inr ⟨unhide HF, _, _, rfl⟩, unhide HBE⟩
      · have hk4 : k = 4 := by have := unhide H4; omega
        subst hk4
        have HF := hide (unhide HYES (unhide H4) (fun j h => unhide HAL j h (by have := unhide H4; omega)))
        have HLC := hide (cdL_len (unhide HF))
        have HVF : Hid (VarC wr G (cdL s)) := hide (by have := unhide HV; rw [← unhide HCL, pad_full (unhide HLC)] at this; exact this)
        have HNF : Hid (VarC wr w.heap.size zero24) := hide (((unhide HK).block w.heap.size (Array.getElem?_eq_some_iff.1 (unhide HN2)).1 (by have := unhide HSZ; omega)).trans (unhide HN2))
        have HBE := hide (keep_one (unhide HB2) (unhide HK) (by have := unhide HSZ; omega))
        have hnl : ¬ ((4 : Nat) : Int) < ((ns.length : Nat) : Int) := by have := unhide H4; omega
        generalize hLL : cdL s = L at *
        have HLL := hide hLL
        clear hLL
        go_wp2_with (first | (refine wpList_load_arr rfl 39 _ rfl G rfl (intV L).toArray _ _ (unhide HVF) und24 rfl (sizeA (unhide HLC)) ?_) | (refine wpList_store_arr rfl 39 _ _ rfl w.heap.size rfl (intV L).toArray rfl _ _ (unhide HNF) (sizeA (unhide HLC)) (by rw [intV_size, intV_size, unhide HLC]; rfl) (intV_one _) ?_; intro w3 hn3 hk3 hs3; have HN3 := hide hn3; have HB3 := hide (keep_one (unhide HBE) hk3 (Nat.le_refl _)); clear hn3 hk3 hs3))
        refine bodyPost_ret (v := ctV L) ?_ rfl ⟨.inl ⟨unhide HF, ?_⟩, unhide HB3⟩
        · exact results_cell_row Tryd.results20 _ _ w.heap.size 39 (intV L).toArray (0, 0) _ rfl (unhide HN3) und24 rfl (sizeA (unhide HLC))
        · rw [unhide HLL]
  · have HF := hide (unhide HLEN h4)
    have b4 : (((ns.length : Nat) : Int) == 4) = false := by simp; omega
    clear h4 HLEN
    go_wp2_with (go_at_call 34; refine (demand_false _ (unhide HE1)).mono ?_; rintro e w' ⟨⟨u, pv, rfl⟩, hw⟩; replace hw := hw.symm; subst hw)
    exact ⟨rfl, .inr ⟨unhide HF, _, _, rfl⟩, unhide HB⟩

end Go.Proofs.YtmkegkpnomcnhaaDoor

/- Contracts of impl.readText at counts, impl.DecodeRefs. -/
namespace Go.Proofs.YtmkegkpnomcnhaaDoor
open Go.RowKit
set_option linter.unusedVariables false
set_option maxRecDepth 100000

theorem results_cc {fn : Func} {p u : Tmp} {ty tu : TypeId} (h : fn.results = #[.cell p ty, .cell u tu]) (tmps : Array Value) (P : Program) (w : World) :
    (results fn tmps).run P w = ((asAddr (tmps.getD p undef)).run P w).andThen fun a w₁ => ((loadVar ty a).run P w₁).andThen fun v w₂ => ((asAddr (tmps.getD u undef)).run P w₂).andThen fun b w₃ => ((loadVar tu b).run P w₃).andThen fun x w₄ => .ok (Value.tuple #[v, x]) w₄ := by
  simp only [results, h]
  simp [Sem.run_bind, Result.andThen]
theorem res_cc {W : World} {R C : Nat} {xs : List Int} {n : Int} {p u : Value} (h : VarC W R xs) (hl : xs.length = 24) (hc : W.cell? ⟨C, 0, none⟩ = some (.int .i64 n)) (hp : p = .pointer (some ⟨R, 0, none⟩)) (hu : u = .pointer (some ⟨C, 0, none⟩)) :
    (((asAddr p).run Tryd.prog W).andThen fun a w₁ => ((loadVar 39 a).run Tryd.prog w₁).andThen fun v w₂ => ((asAddr u).run Tryd.prog w₂).andThen fun b w₃ => ((loadVar 3 b).run Tryd.prog w₃).andThen fun x w₄ => .ok (Value.tuple #[v, x]) w₄) = .ok (Value.tuple #[ctV xs, .int .i64 n]) W := by
  subst hp hu
  simp only [asAddr, Sem.run_pure, Result.andThen_ok, load_ct W h hl]
  simp [go_sem, hc]

theorem catchK_panicking (p : Addr) (x : Int) (u : TypeId) (pv : Value) (older : List PanicEntry) (w : World) (hc : w.cell? p = some (.int .i64 x)) (hz : w.frozen? p = false) :
    CallsD Tryd.prog 32 #[.pointer (some p)] (.panicking ({ v := .iface u pv, recovered := false } :: older)) w fun e u' w' =>
      e = .returned (.tuple #[]) ∧ u' = .panicking ({ v := .iface u pv, recovered := true } :: older) ∧ w' = w.setCell p (.int .i64 3) := by
  refine callsD_of_wpS Tryd.func32 rfl fun c₀ cs hu => ?_
  apply wpS_seq
  apply wpS_region
  simp [wpOpsS, go_sem, recoverD, hu, Tryd.ntmps32, Exit.thenS]
  refine wpS_cond (t := true) (by simp [Act.eval, Array.replicate]) ?_
  simp only [if_true]
  apply wpS_region
  simp [wpOpsS, go_sem, hc, hz, bodyPostS, results, Tryd.results32]

theorem catchK_idle (p : Addr) (w : World) :
    CallsD Tryd.prog 32 #[.pointer (some p)] .returning w fun e u' w' => e = .returned (.tuple #[]) ∧ u' = .returning ∧ w' = w := by
  refine callsD_of_wpS Tryd.func32 rfl fun c₀ cs hu => ?_
  apply wpS_seq
  apply wpS_region
  simp [wpOpsS, go_sem, recoverD, hu, Tryd.ntmps32, Exit.thenS]
  refine wpS_cond (t := false) (by simp [Act.eval, Array.replicate]) ?_
  simp only [Bool.false_eq_true, if_false]
  refine wpS_of_wp (wp_skip ?_)
  cases c₀
  simp_all [bodyPostS, results, Tryd.results32]

theorem set_othK {W : World} {b k : Nat} {o : Obj} (h : W.heap[k]? = some o) (hk : k ≠ b) (u : Value) : (W.setCell ⟨b, 0, none⟩ u).heap[k]? = some o := by
  rw [Below.heap_setCell W ⟨b, 0, none⟩ u k hk]; exact h
/-- What readText answers at counts. -/
def rtL (s : ByteArray) : List Int := if cdC s = 0 then cdL s else zero24
set_option maxHeartbeats 3200000 in
theorem readTextC_any (s : ByteArray) (w : World) (hE : ErrW w) :
    Calls Tryd.prog 19 #[.string s, .func (.func 20) #[] #[]] w fun e w' => e = .returned (.tuple #[ctV (rtL s), .int .i64 (cdC s)]) ∧ Below w.heap.size w w' := by
  have hmf : ∀ (fn : Fn) (first cap : Array Value) (w : World), (Instr.makeFunc fn first cap).run Tryd.prog w = .ok (.func fn first cap) w := fun _ _ _ _ => rfl
  have HA := hide (Joins.below_alloc2 w (.cells #[.int .i64 0, .int .i64 0, .int .i64 0, .int .i64 0, .int .i64 0, .int .i64 0, .int .i64 0, .int .i64 0, .int .i64 0, .int .i64 0, .int .i64 0, .int .i64 0, .int .i64 0, .int .i64 0, .int .i64 0, .int .i64 0, .int .i64 0, .int .i64 0, .int .i64 0, .int .i64 0, .int .i64 0, .int .i64 0, .int .i64 0, .int .i64 0] 39) (.cells #[.int .i64 0] 3))
  have HR := hide (block_of_below (arr_new w) (Joins.below_alloc1 (w.alloc (.cells #[.int .i64 0, .int .i64 0, .int .i64 0, .int .i64 0, .int .i64 0, .int .i64 0, .int .i64 0, .int .i64 0, .int .i64 0, .int .i64 0, .int .i64 0, .int .i64 0, .int .i64 0, .int .i64 0, .int .i64 0, .int .i64 0, .int .i64 0, .int .i64 0, .int .i64 0, .int .i64 0, .int .i64 0, .int .i64 0, .int .i64 0, .int .i64 0] 39)) (.cells #[.int .i64 0] 3)))
  have HC : Hid (((w.alloc (.cells #[.int .i64 0, .int .i64 0, .int .i64 0, .int .i64 0, .int .i64 0, .int .i64 0, .int .i64 0, .int .i64 0, .int .i64 0, .int .i64 0, .int .i64 0, .int .i64 0, .int .i64 0, .int .i64 0, .int .i64 0, .int .i64 0, .int .i64 0, .int .i64 0, .int .i64 0, .int .i64 0, .int .i64 0, .int .i64 0, .int .i64 0, .int .i64 0] 39)).alloc (.cells #[.int .i64 0] 3)).heap[w.heap.size + 1]? = some (.cells #[.int .i64 0] 3 (0, 0))) := hide (heap_alloc2_new w _ _)
  have HE := hide (hE.below (unhide HA))
  clear hE
  by_cases hlong : 65536 < s.size
  · have HF := hide (cd_long hlong)
    go_enter_defers Tryd.func19, Tryd.ntmps19
    go_upto_region 1 with fail
    revert HA HR HC HE
    generalize ((w.alloc _).alloc _) = W0
    intro HA HR HC HE
    have cc : W0.cell? ⟨w.heap.size + 1, 0, none⟩ = some (.int .i64 0) := by rw [Joins.cell_of_block (unhide HC)]; rfl
    have cf := Joins.unfrozen_of_block (unhide HC) 0
    go_wp2_with (first | (refine wpList_load_arr rfl 39 _ rfl w.heap.size rfl (intV zero24).toArray _ _ (unhide HR) und24 rfl sizeA24 ?_) | (refine wpList_store_arr rfl 39 _ _ rfl w.heap.size rfl (intV zero24).toArray rfl _ _ (unhide HR) sizeA24 rfl (intV_one _) ?_; intro w2 hn2 hk2 hs2; have HN2 := hide hn2; have hC2 := (hk2.block (w.heap.size + 1) (Array.getElem?_eq_some_iff.1 (unhide HC)).1 (by omega)).trans (unhide HC); have HC2 := hide hC2; have HB2 := hide (keep_one (unhide HA) hk2 (Nat.le_refl _)); have cc2 : w2.cell? ⟨w.heap.size + 1, 0, none⟩ = some (.int .i64 0) := (by rw [Joins.cell_of_block hC2]; rfl); have cf2 := Joins.unfrozen_of_block hC2 0; clear hn2 hk2 hs2 hC2 cc cf))
    have HN3 : Hid (VarC (w2.setCell ⟨w.heap.size + 1, 0, none⟩ (.int .i64 2)) w.heap.size zero24) := hide (set_othK (unhide HN2) (by omega) _)
    refine ⟨.tuple #[ctV zero24, .int .i64 2], ?_, ?_, (unhide HB2).setCell (p := ⟨w.heap.size + 1, 0, none⟩) (Nat.le_succ _) _⟩
    · exact (results_cc (Tryd.results19) _ _ _).trans (res_cc (unhide HN3) rfl (World.cell?_setCell_same _ _ _ cc2) rfl rfl)
    · exact ret_ci (by rw [rtL, (unhide HF).1]; rfl) (unhide HF).1.symm
  · have hs : s.size ≤ 65536 := by omega
    go_enter_defers Tryd.func19, Tryd.ntmps19
    go_upto_region 1 with fail
    revert HA HR HC HE
    generalize ((w.alloc _).alloc _) = W0
    intro HA HR HC HE
    go_wp2_with fail
    refine (readCounts_any s _ hs (unhide HE)).mono ?_
    rintro e w1 ⟨hr, hb⟩
    have HB1 := hide (fr (unhide HA) hb)
    have HR1 := hide (block_of_below (unhide HR) hb)
    have hC1 := block_of_below (unhide HC) hb
    have HC1 := hide hC1
    have cc1 : w1.cell? ⟨w.heap.size + 1, 0, none⟩ = some (.int .i64 0) := by rw [Joins.cell_of_block hC1]; rfl
    have cf1 := Joins.unfrozen_of_block hC1 0
    clear hb hC1 HA HR HC HE
    rcases hr with ⟨hd, rfl⟩ | ⟨hd, u, pv, rfl⟩
    · have HF := hide (cd_ok hlong hd)
      have HL := hide (cdL_len hd)
      clear hd
      generalize hLL : cdL s = L at *
      have HLL := hide hLL
      clear hLL
      go_wp2_with (refine wpList_store_arr rfl 39 _ _ rfl w.heap.size rfl (intV L).toArray rfl _ _ (unhide HR1) (sizeA (unhide HL)) (by rw [intV_size, intV_size, unhide HL]; rfl) (intV_one _) ?_; intro w2 hn2 hk2 hs2; have HN2 := hide hn2; have hC2 := (hk2.block (w.heap.size + 1) (Array.getElem?_eq_some_iff.1 (unhide HC1)).1 (by omega)).trans (unhide HC1); have HC2 := hide hC2; have HB2 := hide (keep_one (unhide HB1) hk2 (Nat.le_refl _)); have cc2 : w2.cell? ⟨w.heap.size + 1, 0, none⟩ = some (.int .i64 0) := (by rw [Joins.cell_of_block hC2]; rfl); have cf2 := Joins.unfrozen_of_block hC2 0; clear hn2 hk2 hs2 hC2 cc1 cf1)
      have HN3 : Hid (VarC (w2.setCell ⟨w.heap.size + 1, 0, none⟩ (.int .i64 0)) w.heap.size L) := hide (set_othK (unhide HN2) (by omega) _)
      have HB3 := hide ((unhide HB2).setCell (p := ⟨w.heap.size + 1, 0, none⟩) (Nat.le_succ _) (.int .i64 0))
      have HCC := hide (World.cell?_setCell_same _ _ (.int .i64 0) cc2)
      refine leaves_cons (f := 32) (args := #[.pointer (some ⟨w.heap.size + 1, 0, none⟩)]) (by simp) (by simp [go_sem]) ?_
      refine (catchK_idle ⟨w.heap.size + 1, 0, none⟩ _).mono ?_
      rintro e u' w'' ⟨rfl, rfl, rfl⟩
      refine ⟨.tuple #[ctV L, .int .i64 0], ?_, ?_, unhide HB3⟩
      · exact (results_cc (Tryd.results19) _ _ _).trans (res_cc (unhide HN3) (unhide HL) (unhide HCC) rfl rfl)
      · exact ret_ci (by rw [rtL, (unhide HF).1, if_pos rfl, unhide HLL]) (unhide HF).1.symm
    · have HF := hide (cd_no hlong hd)
      clear hd
      go_wp2
      refine leaves_cons (f := 32) (args := #[.pointer (some ⟨w.heap.size + 1, 0, none⟩)]) (by simp) (by simp [go_sem]) ?_
      refine (catchK_panicking ⟨w.heap.size + 1, 0, none⟩ 0 u pv [] _ cc1 cf1).mono ?_
      rintro e u' w'' ⟨rfl, rfl, rfl⟩
      have HN3 : Hid (VarC (w1.setCell ⟨w.heap.size + 1, 0, none⟩ (.int .i64 3)) w.heap.size zero24) := hide (set_othK (unhide HR1) (by omega) _)
      have HB3 := hide ((unhide HB1).setCell (p := ⟨w.heap.size + 1, 0, none⟩) (Nat.le_succ _) (.int .i64 3))
      have HCC := hide (World.cell?_setCell_same _ _ (.int .i64 3) cc1)
      refine ⟨.tuple #[ctV zero24, .int .i64 3], ?_, ?_, unhide HB3⟩
      · exact (results_cc (Tryd.results19) _ _ _).trans (res_cc (unhide HN3) rfl (unhide HCC) rfl rfl)
      · exact ret_ci (by rw [rtL, (unhide HF).1]; rfl) (unhide HF).1.symm

set_option maxHeartbeats 1600000 in
theorem decodeRefs_impl (s : ByteArray) (w : World) (hE : ErrW w) :
    Calls Tryd.prog 7 #[.string s] w fun e w' => ∃ v, e = .returned (.tuple #[v, .int .i64 (cdC s)]) ∧ OwnN w' w.heap.size v (cdR s) ∧ Below w.heap.size w w' := by
  have HE := hide hE
  have HLC : Hid ((rtL s).length = 24) := hide (by
    unfold rtL
    split
    · rename_i h
      apply cdL_len
      unfold cdC at h
      split at h
      · cases h
      · split at h
        · assumption
        · cases h
    · rfl)
  clear hE
  go_enter Tryd.func7, Tryd.ntmps7
  go_wp2_with fail
  refine (readTextC_any s _ (unhide HE)).mono ?_
  rintro e w1 ⟨rfl, hb⟩
  have HB1 := hide hb
  have HSZ := hide hb.size
  clear hb HE
  have HNN := hide (arr_new w1)
  have HBB := hide (fr (unhide HB1) (Joins.below_alloc1 w1 (.cells #[.int .i64 0, .int .i64 0, .int .i64 0, .int .i64 0, .int .i64 0, .int .i64 0, .int .i64 0, .int .i64 0, .int .i64 0, .int .i64 0, .int .i64 0, .int .i64 0, .int .i64 0, .int .i64 0, .int .i64 0, .int .i64 0, .int .i64 0, .int .i64 0, .int .i64 0, .int .i64 0, .int .i64 0, .int .i64 0, .int .i64 0, .int .i64 0] 39)))
  by_cases h0 : cdC s = 0
  · have HRT : Hid (rtL s = cdL s ∧ cdR s = cdL s) := hide ⟨if_pos h0, if_pos h0⟩
    have H0 := hide h0
    rw [h0]
    clear h0
    go_upto_region 2 with (refine wpList_store_arr rfl 39 _ _ rfl w1.heap.size rfl (intV (rtL s)).toArray rfl _ _ (unhide HNN) (sizeA (unhide HLC)) (by rw [intV_size, intV_size, unhide HLC]; rfl) (intV_one _) ?_; intro w2 hn2 hk2 hs2; have HN2 := hide hn2; have HB2 := hide (keep_one (unhide HBB) hk2 (unhide HSZ)); clear hn2 hk2 hs2 HNN HBB HB1)
    go_wp2_with (first | (refine wpList_load_arr rfl 39 _ rfl w1.heap.size rfl (intV (rtL s)).toArray _ _ (unhide HN2) und24 rfl (sizeA (unhide HLC)) ?_) | fail)
    refine (list_any (rtL s) _ (unhide HLC)).mono ?_
    rintro e w3 ⟨g3, rfl, ho, hb⟩
    have HO := hide (own24 (own_base ho (unhide HB2).size) (unhide HLC))
    have HB3 := hide (fr (unhide HB2) hb)
    clear ho hb
    go_wp2
    go_ret2
    exact ⟨_, ret_ni rfl (unhide H0).symm, by rw [(unhide HRT).2, ← (unhide HRT).1]; exact unhide HO, unhide HB3⟩
  · have HRT : Hid (cdR s = []) := hide (if_neg h0)
    have hne := cw_ne h0
    clear h0
    go_upto_region 2 with (refine wpList_store_arr rfl 39 _ _ rfl w1.heap.size rfl (intV (rtL s)).toArray rfl _ _ (unhide HNN) (sizeA (unhide HLC)) (by rw [intV_size, intV_size, unhide HLC]; rfl) (intV_one _) ?_; intro w2 hn2 hk2 hs2; have HB2 := hide (keep_one (unhide HBB) hk2 (unhide HSZ)); clear hn2 hk2 hs2 HNN HBB HB1)
    go_wp2
    go_ret2
    exact ⟨.slice none 0 0, ret_ni rfl rfl, by rw [unhide HRT]; exact OwnN.nil _ _ _, unhide HB2⟩

end Go.Proofs.YtmkegkpnomcnhaaDoor

/- Contracts of impl.FreeCluster, impl.RefSum. -/
namespace Go.Proofs.YtmkegkpnomcnhaaDoor
open Go.RowKit
set_option linter.unusedVariables false
set_option maxRecDepth 100000

theorem ctF_zero {xs : List Int} (h0 : ctF xs = 0) : ctB xs = true := by
  rcases ctF_cases xs with ⟨_, h, _⟩ | ⟨_, _, h, _⟩ | ⟨h, _⟩
  · rw [h0] at h; cases h
  · rw [h0] at h; cases h
  · exact h

set_option maxHeartbeats 1600000 in
theorem refSum_impl (ao : Option Addr) (cap : Nat) (xs : List Int) (w : World) (hl : xs.length ≤ maxLen) (hc : Is w ao xs) :
    Calls Tryd.prog 9 #[.slice ao xs.length cap] w fun e w' => e = .returned (.tuple #[.int .i64 (smR xs), .int .i64 (ctF xs)]) ∧ Below w.heap.size w w' := by
  have HC := hide hc
  have HL := hide hl
  have HLC := hide (coR_len xs)
  clear hc
  go_enter Tryd.func9, Tryd.ntmps9
  go_wp2_with fail
  refine (countsOf_any ao cap xs _ (unhide HL) (unhide HC)).mono ?_
  rintro e w1 ⟨rfl, hb⟩
  have HB1 := hide hb
  have HSZ := hide hb.size
  clear hb HC
  have HNN := hide (arr_new w1)
  have HBB := hide (fr (unhide HB1) (Joins.below_alloc1 w1 (.cells #[.int .i64 0, .int .i64 0, .int .i64 0, .int .i64 0, .int .i64 0, .int .i64 0, .int .i64 0, .int .i64 0, .int .i64 0, .int .i64 0, .int .i64 0, .int .i64 0, .int .i64 0, .int .i64 0, .int .i64 0, .int .i64 0, .int .i64 0, .int .i64 0, .int .i64 0, .int .i64 0, .int .i64 0, .int .i64 0, .int .i64 0, .int .i64 0] 39)))
  by_cases h0 : ctF xs = 0
  · have HCO : Hid (coR xs = xs) := hide (if_pos h0)
    have HCB := hide (ctF_zero h0)
    have H0 := hide h0
    rw [h0]
    clear h0
    go_upto_region 2 with (refine wpList_store_arr rfl 39 _ _ rfl w1.heap.size rfl (intV (coR xs)).toArray rfl _ _ (unhide HNN) (sizeA (unhide HLC)) (by rw [intV_size, intV_size, unhide HLC]; rfl) (intV_one _) ?_; intro w2 hn2 hk2 hs2; have HB2 := hide (keep_one (unhide HBB) hk2 (unhide HSZ)); clear hk2 hs2 HNN HBB HB1)
    have HN2 : Hid (VarC w2 w1.heap.size xs) := hide (by rw [unhide HCO] at hn2; exact hn2)
    clear hn2 HCO HLC
    generalize w1.heap.size = G at *
    go_wp2_with (refine wpList_load_arr rfl 39 _ rfl G rfl (intV xs).toArray _ _ (unhide HN2) und24 rfl (sizeA (ctB_len (unhide HCB))) ?_)
    go_loop [6, 18] (fun s i => ∃ k : Nat, k ≤ 24 ∧ i = .int .i64 k ∧ s = .int .i64 ((xs.take k).sum)) (fun _ i => 24 - (intOf i).toNat)
    case atStart => exact ⟨0, Nat.zero_le _, rfl, by simp⟩
    case round =>
      obtain ⟨k, hk, rfl, rfl⟩ := hrel
      by_cases hlt : k < 24
      · have hkx : k < xs.length := by rw [ctB_len (unhide HCB)]; exact hlt
        have hix := fun W => idx24 W xs k (ctB_len (unhide HCB)) hkx
        have hki : (k : Int) < 24 := by omega
        have HS := hide (sum_take hkx)
        obtain ⟨s0, s1⟩ := sum_in (unhide HCB) k (by omega)
        obtain ⟨g0, g1⟩ := ctB_at (unhide HCB) k hkx
        generalize (xs.take k).sum = V at *
        go_wp2
        go_round
        case rel => exact ⟨k + 1, by omega, by go_num, by rw [unhide HS]⟩
        case measure => simp [intOf]; omega
      · have HE := hide (sum_all (k := k) (unhide HCB) (by have := ctB_len (unhide HCB); omega))
        go_wp2
        go_ret2
        exact ⟨ret_two2 (unhide HE).symm (unhide H0).symm, unhide HB2⟩
  · have HE := hide (frC_bad h0)
    have hne := ctF_ne xs h0
    clear h0
    go_upto_region 2 with (refine wpList_store_arr rfl 39 _ _ rfl w1.heap.size rfl (intV (coR xs)).toArray rfl _ _ (unhide HNN) (sizeA (unhide HLC)) (by rw [intV_size, intV_size, unhide HLC]; rfl) (intV_one _) ?_; intro w2 hn2 hk2 hs2; have HB2 := hide (keep_one (unhide HBB) hk2 (unhide HSZ)); clear hk2 hs2 HNN HBB HB1)
    clear hn2
    go_wp2
    go_ret2
    exact ⟨ret_two2 (unhide HE).2.2.symm rfl, unhide HB2⟩

end Go.Proofs.YtmkegkpnomcnhaaDoor

/- What stays beside a source of choices; contract of spec.l00Source. -/
namespace Go.Proofs.YtmkegkpnomcnhaaDoor
open Go.RowKit
set_option linter.unusedVariables false
set_option maxRecDepth 100000

theorem keep_cell {S : Nat → Prop} {w w' : World} {a : Addr} {v : Value} (hk : Keep S w w') (ha : ¬ S a.block) (h : w.cell? a = some v) : w'.cell? a = some v := by
  have hl := World.block_lt_of_cell? _ _ h
  rw [← h]
  unfold World.cell?
  simp only [hk.block a.block hl ha]
theorem keep_new {w w1 w2 : World} {b : Nat} {S : Nat → Prop} (h : Keep (fun k => k = b) w w1) (hk : Keep S w1 w2) (hs : ∀ k, S k → w.heap.size ≤ k ∨ k = b) : Keep (fun k => k = b) w w2 :=
  ⟨hk.os.trans h.os, hk.tape.trans h.tape, hk.output.trans h.output, Nat.le_trans h.size hk.size, fun k hl hn => (hk.block k (Nat.lt_of_lt_of_le hl h.size) (fun hS => by
    rcases hs k hS with h1 | h1
    · omega
    · exact hn h1)).trans (h.block k hl hn)⟩
theorem SrcK.other {w w1 w2 : World} {b : Nat} {ao : Option Addr} {n cap m m0 : Nat} {S : Nat → Prop} (h0 : SrcK w b ao n cap m0) (h : SrcK w1 b ao n cap m) (hw : Keep (fun k => k = b) w w2) (hk : Keep S w1 w2) (hs : ¬ S b) : SrcK w2 b ao n cap m := by
  obtain ⟨x0, y0, _, _, _, _, hblk0⟩ := h0.src
  obtain ⟨x, y, c0, c1, c2, c3, c4⟩ := h.src
  refine ⟨⟨x, y, c0, c1, c2, c3, ?_⟩, h0.bytes.keep hblk0 (fun z h => by cases h) hw⟩
  rw [hk.block b (Array.getElem?_eq_some_iff.1 c4).1 hs]; exact c4

theorem source_any (ao : Option Addr) (n cap : Nat) (w : World) (hn : n ≤ 1048576) (hB : Bs w ao n) :
    Calls Tryd.prog 13 #[.slice ao n cap] w fun e w' => e = .returned (.pointer (some ⟨w.heap.size, 0, none⟩)) ∧ SrcK w' w.heap.size ao n cap 0 ∧ Below w.heap.size w w' ∧ w'.heap.size = w.heap.size + 1 := by
  go_enter Tryd.func13, Tryd.ntmps13
  go_wp2
  go_ret
  exact ⟨rfl, ⟨⟨0, (n : Int) % 1000, by omega, by omega, by omega, by omega, heap_alloc_new w _⟩, hB.below (Joins.below_alloc1 _ _)⟩, Joins.below_alloc1 _ _, by simp⟩

theorem keep_drop {w w' : World} {b : Nat} (h : Keep (fun k => k = b ∨ w.heap.size ≤ k) w w') : Keep (fun k => k = b) w w' :=
  ⟨h.os, h.tape, h.output, h.size, fun k hl hn => h.block k hl (fun e => by
    rcases e with e | e
    · exact hn e
    · omega)⟩
theorem blk_keep {S : Nat → Prop} {w w' : World} {k : Nat} {o : Obj} (hk : Keep S w w') (hs : ¬ S k) (h : w.heap[k]? = some o) : w'.heap[k]? = some o := by
  rw [hk.block k (Array.getElem?_eq_some_iff.1 h).1 hs]; exact h
theorem blk_below {w w' : World} {k : Nat} {o : Obj} (hk : Below w.heap.size w w') (h : w.heap[k]? = some o) : w'.heap[k]? = some o := by
  rw [hk.block k (Array.getElem?_eq_some_iff.1 h).1]; exact h
theorem blk_lt {w : World} {k : Nat} {o : Obj} (h : w.heap[k]? = some o) : k < w.heap.size := (Array.getElem?_eq_some_iff.1 h).1

end Go.Proofs.YtmkegkpnomcnhaaDoor

/- Contracts of DiskOK, of the program and of its model: both answer one plain function of the disk. -/
namespace Go.Proofs.YtmkegkpnomcnhaaDoor
open Go.RowKit
set_option linter.unusedVariables false
set_option maxRecDepth 100000

theorem l01In_any (n low high : Int) (w : World) : Calls Tryd.prog 30 #[.int .i64 n, .int .i64 low, .int .i64 high] w fun e w' => e = .returned (.bool (inB n low high)) ∧ w' = w := by
  go_enter Tryd.func30, Tryd.ntmps30
  go_wp2
  all_goals
    go_ret
    exact ⟨ret_bool (by rw [Bool.eq_iff_iff]; simp [inB]; omega), rfl⟩

end Go.Proofs.YtmkegkpnomcnhaaDoor

/- Contracts of the disk's codes and of ReadSector, of the program and of its model. -/
namespace Go.Proofs.YtmkegkpnomcnhaaDoor
open Go.RowKit
set_option linter.unusedVariables false
set_option maxRecDepth 100000

end Go.Proofs.YtmkegkpnomcnhaaDoor

/- Contract of impl.PendingOf. -/
namespace Go.Proofs.YtmkegkpnomcnhaaDoor
open Go.RowKit
set_option linter.unusedVariables false
set_option maxRecDepth 100000

/-- How many writes a host has. -/
def cntW (xs : List Wr) (h : Int) : Nat := (xs.filter fun x => x.host == h).length
theorem cntW_le (xs : List Wr) (h : Int) : cntW xs h ≤ xs.length := List.length_filter_le _ _
theorem cnt_hit {xs : List Wr} {h : Int} {k : Nat} (hk : k < xs.length) (he : xs[k].host = h) : cntW (xs.take (k + 1)) h = cntW (xs.take k) h + 1 := by
  rw [cntW, cntW, List.take_succ_eq_append_getElem hk, List.filter_append, List.length_append]; simp [he]
theorem cnt_miss {xs : List Wr} {h : Int} {k : Nat} (hk : k < xs.length) (he : ¬ xs[k].host = h) : cntW (xs.take (k + 1)) h = cntW (xs.take k) h := by
  rw [cntW, cntW, List.take_succ_eq_append_getElem hk, List.filter_append, List.length_append]; simp [he]
theorem askC_zero (ss : List ByteArray) (xs : List Wr) (h : Int) : askC ss xs h 0 = hostC ss xs h := by
  unfold askC
  split
  · rename_i e; rw [e]; rfl
  · rfl
def cntC (ss : List ByteArray) (xs : List Wr) (h : Int) : Int := if hostC ss xs h = 0 then (cntW xs h : Int) else 0
theorem ret_two {a b c d : Int} (h : a = b) (k : c = d) : Ending.returned (.tuple #[.int .i64 a, .int .i64 c]) = .returned (.tuple #[.int .i64 b, .int .i64 d]) := by rw [h, k]

end Go.Proofs.YtmkegkpnomcnhaaDoor

/- A disk in rows of the call's own; variables that hold a disk. -/
namespace Go.Proofs.YtmkegkpnomcnhaaDoor
open Go.RowKit
set_option linter.unusedVariables false

def OwnB (ao : Option Addr) (n ca : Nat) (bo : Option Addr) (m cb : Nat) (k : Nat) : Prop := Own (.slice ao n ca) k ∨ Own (.slice bo m cb) k

end Go.Proofs.YtmkegkpnomcnhaaDoor

/- Contract of impl.copyDisk: the disk as it was, in new memory. -/
namespace Go.Proofs.YtmkegkpnomcnhaaDoor
open Go.RowKit
set_option linter.unusedVariables false
set_option maxRecDepth 100000

end Go.Proofs.YtmkegkpnomcnhaaDoor

/- Contract of spec.l01Own: the disk as it was, in new memory. -/
namespace Go.Proofs.YtmkegkpnomcnhaaDoor
open Go.RowKit
set_option linter.unusedVariables false
set_option maxRecDepth 100000

/-- The cells of a slice's texts, of its writes, for an append. -/
theorem Ss.src {w : World} {ao : Option Addr} {ss : List ByteArray} (h : Ss w ao ss) : 0 < ss.length → ∃ ad, ao = some ad ∧ ∀ j u, (strV ss)[j]? = some u → w.cell? (ad.add j) = some u := fun hp => by
  obtain ⟨b, off, rfl, hc⟩ := h.at hp
  exact ⟨_, rfl, hc⟩
theorem Ios.src {w : World} {ao : Option Addr} {xs : List Wr} (h : Ios w ao xs) : 0 < xs.length → ∃ ad, ao = some ad ∧ ∀ j u, (ioV xs)[j]? = some u → w.cell? (ad.add j) = some u := fun hp => by
  obtain ⟨b, off, rfl, hc⟩ := h.at hp
  exact ⟨_, rfl, hc⟩


end Go.Proofs.YtmkegkpnomcnhaaDoor

/- Variables that hold a write; ends of calls that answer with a disk. -/
namespace Go.Proofs.YtmkegkpnomcnhaaDoor
open Go.RowKit
set_option linter.unusedVariables false

def wrV (x : Wr) : List Value := [.int .i64 x.host, .int .i64 x.at_, .string x.data]
theorem wrV_one (x : Wr) : ∀ u ∈ wrV x, u.oneCell' = true := by
  intro u hu
  simp [wrV] at hu
  rcases hu with rfl | rfl | rfl <;> rfl
theorem ioV_snoc (xs : List Wr) (x : Wr) : ioV (xs ++ [x]) = ioV xs ++ wrV x := by simp [ioV, wrV]

theorem belowKp {W0 W W' : World} {S : Nat → Prop} (h : Below W0.heap.size W0 W) (hk : Keep S W W') (hs : ∀ j, S j → W0.heap.size ≤ j) : Below W0.heap.size W0 W' := h.trans (hk.below h.size hs)
theorem zero_end {w wL : World} (hb : Below w.heap.size w wL) (a b : Value) : Below w.heap.size w ((wL.setCell ⟨w.heap.size + 1, 0, none⟩ a).setCell ⟨w.heap.size + 1, 1, none⟩ b) :=
  (hb.setCell (p := ⟨w.heap.size + 1, 0, none⟩) (by simp) a).setCell (p := ⟨w.heap.size + 1, 1, none⟩) (by simp) b

theorem ask_zero (ss : List ByteArray) (xs : List Wr) (h : Int) : askC ss xs h 0 = hostC ss xs h := by
  unfold askC
  split
  · rename_i e; rw [e]; rfl
  · rfl
end Go.Proofs.YtmkegkpnomcnhaaDoor

/- Contract of impl.landFirst: of a host's writes the first ones are sure. -/
namespace Go.Proofs.YtmkegkpnomcnhaaDoor
open Go.RowKit
set_option linter.unusedVariables false

/-- One write of a disk's, as a host's writes land: the sectors, what is left, how many may still land. -/
def stepF (h : Int) (lost : Bool) (st : List ByteArray × List Wr × Int) (x : Wr) : List ByteArray × List Wr × Int :=
  if x.host = h then (if 0 < st.2.2 then (st.1.set x.at_.toNat x.data, st.2.1, st.2.2 - 1) else if lost = true then st else (st.1, st.2.1 ++ [x], st.2.2)) else (st.1, st.2.1 ++ [x], st.2.2)
def landF (h : Int) (lost : Bool) (ss : List ByteArray) (xs : List Wr) (n : Int) : List ByteArray × List Wr × Int := xs.foldl (stepF h lost) (ss, [], n)
theorem landF_succ {h : Int} {lost : Bool} {ss : List ByteArray} {xs : List Wr} {n : Int} {k : Nat} (hk : k < xs.length) : landF h lost ss (xs.take (k + 1)) n = stepF h lost (landF h lost ss (xs.take k) n) xs[k] := by
  unfold landF
  rw [List.take_succ_eq_append_getElem hk, List.foldl_append]
  rfl
theorem step_other {h : Int} {lost : Bool} {x : Wr} (ha : x.host ≠ h) (SS : List ByteArray) (LX : List Wr) (N : Int) : stepF h lost (SS, LX, N) x = (SS, LX ++ [x], N) := by simp [stepF, ha]
theorem step_land {h : Int} {lost : Bool} {x : Wr} (ha : x.host = h) (SS : List ByteArray) (LX : List Wr) {N : Int} (hn : 0 < N) : stepF h lost (SS, LX, N) x = (SS.set x.at_.toNat x.data, LX, N - 1) := by simp [stepF, ha, hn]
theorem step_keep {h : Int} {x : Wr} (ha : x.host = h) (SS : List ByteArray) (LX : List Wr) {N : Int} (hn : ¬ 0 < N) : stepF h false (SS, LX, N) x = (SS, LX ++ [x], N) := by simp [stepF, ha, hn]

theorem strV_set (SS : List ByteArray) (j : Nat) (d : ByteArray) : (strV SS).set j (.string d) = strV (SS.set j d) := by simp [strV, List.map_set]

end Go.Proofs.YtmkegkpnomcnhaaDoor

/- Contract of spec.l01Land: of a host's writes the first ones are sure, the others stay or are lost. -/
namespace Go.Proofs.YtmkegkpnomcnhaaDoor
open Go.RowKit
set_option linter.unusedVariables false

theorem step_drop {h : Int} {x : Wr} (ha : x.host = h) (SS : List ByteArray) (LX : List Wr) {N : Int} (hn : ¬ 0 < N) : stepF h true (SS, LX, N) x = (SS, LX, N) := by simp [stepF, ha, hn]

end Go.Proofs.YtmkegkpnomcnhaaDoor
