/- Contracts of impl.readCounts, impl.readText at counts, impl.DecodeRefs. -/
import Derived.Test.YtjmianalknnekaaDoorRows
import Derived.Test.YtjmianalknnekaaDoorGen
import Derived.Test.YtjmianalknnekaaDoorKeep
import Derived.Test.YtjmianalknnekaaDoorInts
import Derived.Test.YtjmianalknnekaaDoorOwnN
import Derived.Test.YtjmianalknnekaaDoorClkB
import Derived.Test.YtjmianalknnekaaDoorArrV
import Derived.Test.YtjmianalknnekaaDoorCtP
import Derived.Test.YtjmianalknnekaaDoorUnI
import Derived.Test.YtjmianalknnekaaDoorKindR
import Derived.Test.YtjmianalknnekaaDoorCtQ
import Derived.Test.YtjmianalknnekaaDoorCtI
import Derived.Test.YtjmianalknnekaaDoorCtJ
import Derived.WalkKit
import Derived.WalkSpells
import Derived.KernelRfl
import Derived.LoopN
import Derived.BigQuiet
import Derived.Deep.QuietTactic
import Derived.Deep.CutRange
import Derived.Deep.RegionWith
import Derived.Laws.ResultCell
import Derived.Defers
import Derived.Recover
import Derived.Lib.EndianBits
import Derived.Deep.MidRow
namespace Go.Proofs.YtjmianalknnekaaDoor
open Go.RowKit
set_option linter.unusedVariables false
set_option maxRecDepth 100000

theorem and15 {V : Int} (h0 : 0 ≤ V) (h1 : V ≤ 2147483647) : bits .and .i64 V 15 = V % 16 := by
  obtain ⟨n, rfl⟩ := Int.eq_ofNat_of_zero_le h0
  have h := (bits_nat .i64 63 (by decide) (fun n a b => wraps_i64 n a b) n 15 (by omega) (by omega)).1
  have e2 : (15 : Int) = ((15 : Nat) : Int) := rfl
  rw [e2, h, show (15 : Nat) = 2 ^ 4 - 1 from rfl, Nat.and_two_pow_sub_one_eq_mod]
  omega
theorem open_yes2 {s : ByteArray} (h : openB s 2 = true) : RecP s ∧ byteAt s 0 = 2 := by
  simp only [openB, Bool.and_eq_true, decide_eq_true_eq] at h
  exact ⟨recB_iff.1 h.1, h.2⟩
theorem open_no2 {s : ByteArray} (h : openB s 2 = false) : ¬ (RecP s ∧ byteAt s 0 = 2) := by
  rintro ⟨a, b⟩
  rw [openB_yes a b] at h
  cases h

theorem keep_cell1 {w w' : World} {S : Nat → Prop} {b off : Nat} {v : Value} (hk : Keep S w w') (hb : ¬ S b) (h : w.cell? ⟨b, off, none⟩ = some v) : w'.cell? ⟨b, off, none⟩ = some v := by
  have hl := World.block_lt_of_cell? _ _ h
  rw [← h]
  unfold World.cell?
  simp only [hk.block b hl hb]
theorem errW_keep {w w' : World} {S : Nat → Prop} (h : ErrW w) (hk : Keep S w w') (hs : ∀ k, S k → 1 ≠ k) : ErrW w' := by
  obtain ⟨u, pv, hc⟩ := h
  exact ⟨u, pv, keep_cell1 hk (fun hS => hs _ hS rfl) hc⟩
theorem errW_pos {w : World} (h : ErrW w) : 1 < w.heap.size := by
  obtain ⟨u, pv, hc⟩ := h
  exact World.block_lt_of_cell? _ _ hc
/-- What reading counts comes to. -/
def RdC (s : ByteArray) (e : Ending) : Prop := (cdB s = true ∧ e = .returned (ctV (cdL s))) ∨ (cdB s = false ∧ ∃ u pv, e = .panicked [{ v := .iface u pv, recovered := false }])

set_option maxHeartbeats 3200000 in
theorem readCounts_any (s : ByteArray) (w : World) (hs : s.size ≤ 65536) (hE : ErrW w) :
    Calls Tryd.prog 28 #[.string s] w fun e w' => RdC s e ∧ Below w.heap.size w w' := by
  have HN := hide (arr_new w)
  have HA := hide (Joins.below_alloc1 w (.cells #[.int .i64 0, .int .i64 0, .int .i64 0, .int .i64 0, .int .i64 0, .int .i64 0, .int .i64 0, .int .i64 0, .int .i64 0, .int .i64 0, .int .i64 0, .int .i64 0, .int .i64 0, .int .i64 0, .int .i64 0, .int .i64 0, .int .i64 0, .int .i64 0, .int .i64 0, .int .i64 0, .int .i64 0, .int .i64 0, .int .i64 0, .int .i64 0] 43))
  have HE := hide (hE.below (unhide HA))
  have HPS := hide (errW_pos hE)
  clear hE
  go_enter Tryd.func28, Tryd.ntmps28
  go_upto_region 1 with fail
  revert HN HA HE
  generalize (w.alloc _) = W0
  intro HN HA HE
  cases hop : openB s 2
  · have HNO := hide (open_no2 hop)
    have HF := hide (cd_open hop)
    clear hop
    go_wp2_with fail
    refine (readKind_no s 2 _ hs (unhide HNO) (unhide HE)).mono ?_
    rintro e w1 ⟨⟨u, pv, rfl⟩, hb⟩
    have HB := hide (fr (unhide HA) hb)
    clear hb
    go_wp2
    exact ⟨rfl, .inr ⟨unhide HF, _, _, rfl⟩, unhide HB⟩
  have HYE := hide (open_yes2 hop)
  have HLE := hide (openL_yes hop)
  have HIN := hide (openL_in hop)
  have HNUM : Hid (∀ k (hk : k < (openL s 2).length), cdN (openL s 2)[k] = false → cdB s = false) := hide (fun k hk h => cd_num hk h)
  have HYES : Hid ((openL s 2).length = 4 → (∀ j (hj : j < (openL s 2).length), cdN (openL s 2)[j] = true) → cdB s = true) := hide (fun h4 h => cd_yes hop h4 h)
  have HCL : Hid (cdL s = sxA (openL s 2) 4) := hide rfl
  have HLEN : Hid (¬ (openL s 2).length = 4 → cdB s = false) := hide cd_len
  clear hop
  go_wp2_with fail
  refine (readKind_yes s 2 _ hs (unhide HYE).1 (unhide HYE).2).mono ?_
  rintro e w1 ⟨v, rfl, ⟨qo, qa, rfl, ho⟩, hb⟩
  rw [← unhide HLE] at ho ⊢
  have HI := hide (ownRN ho)
  have HB := hide (fr (unhide HA) hb)
  have HN1 := hide (block_of_below (unhide HN) hb)
  have HE1 := hide ((unhide HE).below hb)
  clear ho hb HA HN HE HLE HYE
  generalize openL s 2 = ns at *
  by_cases h4 : ns.length = 4
  · have H4 := hide h4
    have b4 : (((ns.length : Nat) : Int) == 4) = true := by simp [h4]
    clear h4 HLEN
    have HNN := hide (arr_new w1)
    have HAA := hide (Joins.below_alloc1 w1 (.cells #[.int .i64 0, .int .i64 0, .int .i64 0, .int .i64 0, .int .i64 0, .int .i64 0, .int .i64 0, .int .i64 0, .int .i64 0, .int .i64 0, .int .i64 0, .int .i64 0, .int .i64 0, .int .i64 0, .int .i64 0, .int .i64 0, .int .i64 0, .int .i64 0, .int .i64 0, .int .i64 0, .int .i64 0, .int .i64 0, .int .i64 0, .int .i64 0] 43))
    have HSZ : Hid (w.heap.size < w1.heap.size) := hide (Array.getElem?_eq_some_iff.1 (unhide HN1)).1
    go_upto_region 4 with (go_at_call 42; refine (demand_true _).mono ?_; rintro e w' ⟨rfl, hw⟩; replace hw := hw.symm; subst hw)
    have HI2 := hide ((unhide HI).below (unhide HAA))
    have HB2 := hide (fr (unhide HB) (unhide HAA))
    have HN2 := hide (block_of_below (unhide HN1) (unhide HAA))
    have HE2 := hide ((unhide HE1).below (unhide HAA))
    have HLTS : Hid (∀ b off, qo = some ⟨b, off, none⟩ → b < w1.heap.size) := hide (fun b off e => by
      obtain ⟨b', off', e', hc⟩ := (unhide HI) 0 (by have := unhide H4; omega)
      rw [e] at e'
      cases e'
      exact World.block_lt_of_cell? _ _ hc)
    clear HI HB HN1 HE1 HAA
    revert HNN HI2 HB2 HN2 HE2
    generalize (w1.alloc _) = W2
    intro HNN HI2 HB2 HN2 HE2
    generalize w1.heap.size = G at *
    have HNG : Hid (VarC W2 G (pad24 (sxA ns 0))) := hide (unhide HNN)
    clear HNN
    go_wp2
    go_loopw [16] (fun i wr => ∃ k : Nat, k ≤ ns.length ∧ i = .int .i64 k ∧ Hid (∀ j (h : j < ns.length), j < k → cdN ns[j] = true) ∧ Hid (VarC wr G (pad24 (sxA ns k))) ∧ Hid (Keep (fun b => b = G) W2 wr)) (fun i _ => ns.length - (intOf i).toNat)
    case atStart => exact ⟨0, Nat.zero_le _, rfl, hide (fun j _ h => by omega), HNG, hide (Keep.refl _ _)⟩
    case round =>
      clear HNG
      obtain ⟨k, hk, rfl, HAL, HV, HK⟩ := hrel
      by_cases hlt : k < ns.length
      · obtain ⟨b, off, rfl, hcl0⟩ := (unhide HI2) k hlt
        have hbl := unhide HLTS b off rfl
        have hcl : wr.cell? ⟨b, off + k, none⟩ = some (.int .i64 ns[k]) := keep_cell1 (unhide HK) (show ¬ b = G by omega) hcl0
        obtain ⟨hp0, hp1⟩ := unhide HIN k hlt
        have HP := hide (And.intro hp0 hp1)
        have HK4 : Hid (k < 4) := hide (by have := unhide H4; omega)
        have hk4i : (k : Int) < 4 := by have := unhide HK4; omega
        have HSU := hide (sxA_succ hlt)
        have HP6 : Hid (cdN ns[k] = true ↔ ns[k] / 16 ^ 6 = 0) := hide (by simp [cdN])
        have HNK := hide (unhide HNUM k hlt)
        have HAK := hide (fun (h : cdN ns[k] = true) => all_succ hlt (unhide HAL) h)
        have HSL := hide (sxA_len ns k hk)
        clear hcl0
        go_wp2
        clear hcl
        generalize ns[k] = p at *
        go_loopw [6, 7] (fun n c wq => ∃ m : Nat, m ≤ 6 ∧ c = .int .i64 ((6 * k + m : Nat) : Int) ∧ n = .int .i64 (p / 16 ^ m) ∧ Hid (VarC wq G (pad24 (sxA ns k ++ sxT p m))) ∧ Hid (Keep (fun b => b = G) W2 wq)) (fun _ c _ => 24 - (intOf c).toNat)
        case atStart => exact ⟨0, by omega, by go_num, by simp, hide (by simpa [sxT] using unhide HV), HK⟩
        case round =>
          clear HV HK
          obtain ⟨m, hm, rfl, rfl, HV, HK⟩ := hrel
          by_cases hm6 : m < 6
          · obtain ⟨r0, r1⟩ := rest_in (unhide HP).1 (unhide HP).2 m
            have HRS := hide (rest_succ p m)
            have HSS := hide (sxT_succ p m)
            have hk4n := unhide HK4
            have HLN : Hid ((sxA ns k ++ sxT p m).length = 6 * k + m) := hide (by rw [List.length_append, unhide HSL, sxT_len])
            have hlc : ((6 * k + m : Nat) : Int) < ((k : Int) + 1) * 6 := by omega
            have hlj : ((6 * k + m : Nat) : Int) < 24 := by omega
            have hpl : 6 * k + m < (pad24 (sxA ns k ++ sxT p m)).length := by rw [pad_len (by rw [unhide HLN]; omega)]; omega
            have hand := and15 r0 r1
            obtain ⟨x0, hcx⟩ : ∃ x, wr.cell? ⟨G, 6 * k + m, none⟩ = some x := ⟨_, arr_cell (unhide HV) hpl⟩
            have hfz := Joins.unfrozen_of_block (unhide HV) (6 * k + m)
            generalize p / 16 ^ m = V at *
            have HST : Hid (VarC (wr.setCell ⟨G, 6 * k + m, none⟩ (.int .i64 (V % 16))) G (pad24 (sxA ns k ++ sxT p (m + 1)))) := hide (by
              have := arr_set (unhide HV) (6 * k + m) (V % 16)
              have e := pad_set (xs := sxA ns k ++ sxT p m) (by rw [unhide HLN]; omega) (V % 16)
              rw [unhide HLN] at e
              rw [e, List.append_assoc, ← unhide HSS] at this
              exact this)
            have HKS := hide ((unhide HK).setCell (p := ⟨G, 6 * k + m, none⟩) rfl (.int .i64 (V % 16)))
            clear hpl
            generalize hJ : 6 * k + m = J at *
            go_wp2
            go_roundw
            case rel => exact ⟨m + 1, by omega, by go_num, by rw [← unhide HRS], HST, HKS⟩
            case measure => simp [intOf]; omega
          · have hm66 : m = 6 := by omega
            subst hm66
            obtain ⟨r0, r1⟩ := rest_in (unhide HP).1 (unhide HP).2 6
            have HVN : Hid (VarC wr G (pad24 (sxA ns (k + 1)))) := hide (by rw [← unhide HSU]; exact unhide HV)
            have hk4n := unhide HK4
            have hge : ¬ ((6 * k + 6 : Nat) : Int) < ((k : Int) + 1) * 6 := by omega
            by_cases hz : p / 16 ^ 6 = 0
            · have HAN := hide (unhide HAK ((unhide HP6).2 hz))
              have bz : (p / 16 ^ 6 == 0) = true := by rw [hz]; rfl
              clear hz
              generalize p / 16 ^ 6 = V at *
              go_wp2_with (go_at_call 42; refine (demand_true _).mono ?_; rintro e w' ⟨rfl, hw⟩; replace hw := hw.symm; subst hw)
              go_roundw
              case rel => exact ⟨k + 1, by omega, by go_num, HAN, HVN, HK⟩
              case measure => simp [intOf]; omega
            · have HF := hide (unhide HNK (by rw [← Bool.not_eq_true]; exact fun h => hz ((unhide HP6).1 h)))
              have bz : (p / 16 ^ 6 == 0) = false := beq_eq_false_iff_ne.2 hz
              have HEW := hide (errW_keep (unhide HE2) (unhide HK) (fun j hj => by have := unhide HPS; have := unhide HSZ; omega))
              have HBE := hide (keep_one (unhide HB2) (unhide HK) (by have := unhide HSZ; omega))
              clear hz
              generalize p / 16 ^ 6 = V at *
              go_wp2_with (go_at_call 42; refine (demand_false _ (unhide HEW)).mono ?_; rintro e w' ⟨⟨u, pv, rfl⟩, hw⟩; replace hw := hw.symm; subst hw)
              exact ⟨rfl, .inr ⟨unhide HF, _, _, rfl⟩, unhide HBE⟩
      · have hk4 : k = 4 := by have := unhide H4; omega
        subst hk4
        have HF := hide (unhide HYES (unhide H4) (fun j h => unhide HAL j h (by have := unhide H4; omega)))
        have HLC := hide (cdL_len (unhide HF))
        have HVF : Hid (VarC wr G (cdL s)) := hide (by have := unhide HV; rw [← unhide HCL, pad_full (unhide HLC)] at this; exact this)
        have HNF : Hid (VarC wr w.heap.size zero24) := hide (((unhide HK).block w.heap.size (Array.getElem?_eq_some_iff.1 (unhide HN2)).1 (by have := unhide HSZ; omega)).trans (unhide HN2))
        have HBE := hide (keep_one (unhide HB2) (unhide HK) (by have := unhide HSZ; omega))
        have hnl : ¬ ((4 : Nat) : Int) < ((ns.length : Nat) : Int) := by have := unhide H4; omega
        generalize hLL : cdL s = L at *
        have HLL := hide hLL
        clear hLL
        go_wp2_with (first | (refine wpList_load_arr rfl 43 _ rfl G rfl (intV L).toArray _ _ (unhide HVF) und24 rfl (sizeA (unhide HLC)) ?_) | (refine wpList_store_arr rfl 43 _ _ rfl w.heap.size rfl (intV L).toArray rfl _ _ (unhide HNF) (sizeA (unhide HLC)) (by rw [intV_size, intV_size, unhide HLC]; rfl) (intV_one _) ?_; intro w3 hn3 hk3 hs3; have HN3 := hide hn3; have HB3 := hide (keep_one (unhide HBE) hk3 (Nat.le_refl _)); clear hn3 hk3 hs3))
        refine bodyPost_ret (v := ctV L) ?_ rfl ⟨.inl ⟨unhide HF, ?_⟩, unhide HB3⟩
        · exact results_cell_row Tryd.results28 _ _ w.heap.size 43 (intV L).toArray (0, 0) _ rfl (unhide HN3) und24 rfl (sizeA (unhide HLC))
        · rw [unhide HLL]
  · have HF := hide (unhide HLEN h4)
    have b4 : (((ns.length : Nat) : Int) == 4) = false := by simp; omega
    clear h4 HLEN
    go_wp2_with (go_at_call 42; refine (demand_false _ (unhide HE1)).mono ?_; rintro e w' ⟨⟨u, pv, rfl⟩, hw⟩; replace hw := hw.symm; subst hw)
    exact ⟨rfl, .inr ⟨unhide HF, _, _, rfl⟩, unhide HB⟩

end Go.Proofs.YtjmianalknnekaaDoor
