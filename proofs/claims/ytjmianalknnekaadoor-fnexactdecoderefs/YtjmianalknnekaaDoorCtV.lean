/- Contracts of the model's l08Decode, DecodeRefs. -/
import Derived.Test.YtjmianalknnekaaDoorRows
import Derived.Test.YtjmianalknnekaaDoorGen
import Derived.Test.YtjmianalknnekaaDoorKeep
import Derived.Test.YtjmianalknnekaaDoorInts
import Derived.Test.YtjmianalknnekaaDoorOwnN
import Derived.Test.YtjmianalknnekaaDoorClkB
import Derived.Test.YtjmianalknnekaaDoorArrV
import Derived.Test.YtjmianalknnekaaDoorCtP
import Derived.Test.YtjmianalknnekaaDoorApp
import Derived.Test.YtjmianalknnekaaDoorOpenS
import Derived.Test.YtjmianalknnekaaDoorCtQ
import Derived.WalkKit
import Derived.WalkSpells
import Derived.KernelRfl
import Derived.LoopN
import Derived.BigQuiet
import Derived.Deep.QuietTactic
import Derived.Deep.CutRange
import Derived.Deep.RegionWith
namespace Go.Proofs.YtjmianalknnekaaDoor
open Go.RowKit
set_option linter.unusedVariables false
set_option maxRecDepth 100000

def cdO (s : ByteArray) : List Int := if cdB s = true then cdL s else []
theorem cdN_iff (p : Int) : cdN p = true ↔ p / 16 ^ 6 = 0 := by simp [cdN]

set_option maxHeartbeats 3200000 in
theorem l08Decode_any (s : ByteArray) (w : World) (hs : s.size ≤ 65536) :
    Calls Tryd.prog 34 #[.string s] w fun e w' => ∃ v, e = .returned (.tuple #[v, .bool (cdB s)]) ∧ OwnN w' w.heap.size v (cdO s) ∧ Below w.heap.size w w' := by
  obtain ⟨j0, hj, hy0, hy1, hy2⟩ := info_parts infoM
  go_enter Tryd.func34, Tryd.ntmps34
  go_wp2_with fail
  refine (l02Open_any s 2 _ hs).mono ?_
  rintro e w1 ⟨v, rfl, ⟨qo, qa, rfl, ho⟩, hb1⟩
  have HB1 := hide hb1
  have HI := hide (ownRN ho)
  clear ho hb1
  cases hop : openB s 2
  · have HE := hide (cd_open hop)
    have HCO : Hid (cdO s = []) := hide (by rw [cdO, cd_open hop]; rfl)
    clear hop
    go_wp2
    go_ret2
    exact ⟨.slice (some ⟨w1.heap.size, 0, none⟩) 0 0, ret_nb rfl (unhide HE).symm, by rw [unhide HCO]; exact OwnN.nil _ _ _, fr (unhide HB1) (Joins.below_alloc1 _ _)⟩
  by_cases h4 : (openL s 2).length = 4
  · have HIN := hide (openL_in hop)
    have H4 := hide h4
    have HOP := hide hop
    have b4 : ((((openL s 2).length : Nat) : Int) != 4) = false := by simp [h4]
    have HA : Hid (Below w1.heap.size w1 (w1.alloc (.cells #[] 3))) := hide (Joins.below_alloc1 _ _)
    have HCL : Hid (cdL s = sxA (openL s 2) 4) := hide rfl
    have HNO : Hid (∀ k (hk : k < (openL s 2).length), cdN (openL s 2)[k] = false → cdB s = false) := hide (fun k hk h => cd_num hk h)
    have HYES : Hid ((∀ j (hj : j < (openL s 2).length), cdN (openL s 2)[j] = true) → cdB s = true) := hide (fun h => cd_yes (unhide HOP) (unhide H4) h)
    clear hop h4
    generalize openL s 2 = ns at *
    go_wp2
    go_loopw [6, 7] (fun o i wr => ∃ (k : Nat) (po : Option Addr) (pa : Nat), k ≤ ns.length ∧ i = .int .i64 k ∧ o = .slice po (6 * k) pa ∧ Hid (∀ j (h : j < ns.length), j < k → cdN ns[j] = true) ∧ Hid (OwnR wr w1.heap.size 3 1 (.slice po (6 * k) pa) (6 * k) (intV (sxA ns k))) ∧ Hid (Below w1.heap.size w1 wr)) (fun _ i _ => ns.length - (intOf i).toNat)
    case atStart => exact ⟨0, _, _, Nat.zero_le _, rfl, rfl, hide (fun j _ h => by omega), hide (.inl ⟨rfl, rfl, _, rfl⟩), HA⟩
    case round =>
      obtain ⟨k, po, pa, hk, rfl, rfl, HAL, HO, HB⟩ := hrel
      by_cases hlt : k < ns.length
      · obtain ⟨b, off, rfl, hcl⟩ := (unhide HI).below (unhide HB) k hlt
        obtain ⟨hp0, hp1⟩ := unhide HIN k hlt
        have HP := hide (And.intro hp0 hp1)
        have HK4 : Hid (k < 4) := hide (by have := unhide H4; omega)
        have HSU := hide (sxA_succ hlt)
        have HP6 : Hid (cdN ns[k] = true ↔ ns[k] / 16 ^ 6 = 0) := hide (cdN_iff _)
        have HNK := hide (unhide HNO k hlt)
        have HAK := hide (fun (h : cdN ns[k] = true) => all_succ hlt (unhide HAL) h)
        have HSL := hide (sxA_len ns k hk)
        go_wp2
        clear hcl
        generalize ns[k] = p at *
        go_loopw [6, 8, 9] (fun o n j wq => ∃ (m : Nat) (ro : Option Addr) (ra : Nat), m ≤ 6 ∧ j = .int .i64 m ∧ n = .int .i64 (p / 16 ^ m) ∧ o = .slice ro (6 * k + m) ra ∧ Hid (OwnR wq w1.heap.size 3 1 (.slice ro (6 * k + m) ra) (6 * k + m) (intV (sxA ns k ++ sxT p m))) ∧ Hid (Below w1.heap.size w1 wq)) (fun _ _ j _ => 6 - (intOf j).toNat)
        case atStart => exact ⟨0, po, pa, by omega, rfl, by simp, rfl, hide (by simpa [sxT] using unhide HO), HB⟩
        case round =>
          clear HO HB
          obtain ⟨m, ro, ra, hm, rfl, rfl, rfl, HO, HB⟩ := hrel
          by_cases hm6 : m < 6
          · obtain ⟨r0, r1⟩ := rest_in (unhide HP).1 (unhide HP).2 m
            have HRS := hide (rest_succ p m)
            have HSS := hide (sxT_succ p m)
            have hm6' : (m : Int) < 6 := by omega
            have hkm : 6 * k + m ≤ 1000 := by have := unhide HK4; omega
            generalize p / 16 ^ m = V at *
            have HOA := hide ((unhide HO).below (Joins.below_alloc1 _ (.cells #[.int .i64 (V % 16)] 3)))
            have HBA := hide (fr (unhide HB) (Joins.below_alloc1 _ (.cells #[.int .i64 (V % 16)] 3)))
            have HSZ := hide (unhide HB).size
            go_wp2_with (at_builtin; refine wpList_append_one rfl _ _ 23 rfl w1.heap.size 3 j0 (.int .i64 0) 1 8 Tryd.underlying23 hj hy0 hy1 hy2 rfl (by omega) ro (6 * k + m) ra (intV (sxA ns k ++ sxT p m)) rfl (unhide HOA) (by have := unhide HSZ; simp; omega) ⟨wr.heap.size, 0, none⟩ _ [.int .i64 (V % 16)] rfl rfl (byte_news wr _ _) (int_one _) (by unfold maxLen; omega) (by omega) ?_; intro g2 cap2 wA hoA hkA; have HSF := hide (And.intro hoA (keep_below (unhide HBA) (unhide HOA) (Nat.le_refl _) hkA)); clear hoA hkA)
            go_roundw
            case rel => exact ⟨m + 1, some ⟨g2, 0, none⟩, cap2, by omega, by go_num, by rw [← unhide HRS], by rfl, hide (.inr ⟨by omega, by rw [unhide HSS, ← List.append_assoc, intV_snoc]; exact (unhide HSF).1⟩), hide (unhide HSF).2⟩
            case measure => simp [intOf]; omega
          · have hm66 : m = 6 := by omega
            subst hm66
            obtain ⟨r0, r1⟩ := rest_in (unhide HP).1 (unhide HP).2 6
            have HON : Hid (OwnR wr w1.heap.size 3 1 (.slice ro (6 * (k + 1)) ra) (6 * (k + 1)) (intV (sxA ns (k + 1)))) := hide (by rw [← unhide HSU]; exact unhide HO)
            by_cases hz : p / 16 ^ 6 = 0
            · have HAN := hide (unhide HAK ((unhide HP6).2 hz))
              have hgt : ¬ (0 < p / 16 ^ 6) := by omega
              have hk4i : (k : Int) < 4 := by have := unhide HK4; omega
              clear hz
              generalize p / 16 ^ 6 = V at *
              go_wp2
              go_roundw
              case rel => exact ⟨k + 1, ro, ra, by omega, by go_num, by rfl, HAN, HON, HB⟩
              case measure => simp [intOf]; omega
            · have HE := hide (unhide HNK (by rw [← Bool.not_eq_true]; exact fun h => hz ((unhide HP6).1 h)))
              have HCO : Hid (cdO s = []) := hide (by rw [cdO, unhide HE]; rfl)
              have hgt : 0 < p / 16 ^ 6 := by omega
              clear hz
              generalize p / 16 ^ 6 = V at *
              go_wp2
              go_ret2
              exact ⟨.slice (some ⟨wr.heap.size, 0, none⟩) 0 0, ret_nb rfl (unhide HE).symm, by rw [unhide HCO]; exact OwnN.nil _ _ _, fr (unhide HB1) (fr (unhide HB) (Joins.below_alloc1 _ _))⟩
      · have hk4 : k = 4 := by have := unhide H4; omega
        subst hk4
        have HE := hide (unhide HYES (fun j h => unhide HAL j h (by have := unhide H4; omega)))
        have HCO : Hid (cdO s = sxA ns 4) := hide (by rw [cdO, unhide HE, if_pos rfl, unhide HCL])
        have HL24 := hide (sxA_len ns 4 (by have := unhide H4; omega))
        have HSZ := hide (unhide HB1).size
        go_wp2
        go_ret2
        refine ⟨.slice po (6 * 4) pa, ret_nb rfl (unhide HE).symm, ?_, fr (unhide HB1) (unhide HB)⟩
        rw [unhide HCO]
        refine ⟨po, pa, by rw [unhide HL24], ?_⟩
        rw [unhide HL24]
        exact (unhide HO).base (unhide HSZ)
  · have HE := hide (cd_len h4)
    have HCO : Hid (cdO s = []) := hide (by rw [cdO, cd_len h4]; rfl)
    have b4 : ((((openL s 2).length : Nat) : Int) != 4) = true := by simp; omega
    clear hop h4
    go_wp2
    go_ret2
    exact ⟨.slice (some ⟨w1.heap.size, 0, none⟩) 0 0, ret_nb rfl (unhide HE).symm, by rw [unhide HCO]; exact OwnN.nil _ _ _, fr (unhide HB1) (Joins.below_alloc1 _ _)⟩

set_option maxHeartbeats 1600000 in
theorem decodeRefs_spec (s : ByteArray) (w : World) :
    Calls Tryd.prog 17 #[.string s] w fun e w' => ∃ v, e = .returned (.tuple #[v, .int .i64 (cdC s)]) ∧ OwnN w' w.heap.size v (cdR s) ∧ Below w.heap.size w w' := by
  by_cases h : 65536 < s.size
  · have HE := hide (cd_long h)
    go_enter Tryd.func17, Tryd.ntmps17
    go_wp2
    go_ret2
    exact ⟨.slice (some ⟨w.heap.size, 0, none⟩) 0 0, ret_ni rfl (unhide HE).1.symm, by rw [(unhide HE).2]; exact OwnN.nil _ _ _, Joins.below_alloc1 _ _⟩
  · have hs : s.size ≤ 65536 := by omega
    cases hb : cdB s
    · have HE := hide (cd_no h hb)
      have HBB := hide hb
      clear hb
      go_enter Tryd.func17, Tryd.ntmps17
      go_wp2_with fail
      refine (l08Decode_any s _ hs).mono ?_
      rintro e w1 ⟨v, rfl, ho, hb1⟩
      rw [unhide HBB]
      have HB := hide (fr hb1 (Joins.below_alloc1 _ (.cells #[] 3)))
      clear ho hb1
      go_wp2
      go_ret2
      exact ⟨.slice (some ⟨w1.heap.size, 0, none⟩) 0 0, ret_ni rfl (unhide HE).1.symm, by rw [(unhide HE).2]; exact OwnN.nil _ _ _, unhide HB⟩
    · have HE := hide (cd_ok h hb)
      have HCO : Hid (cdO s = cdL s) := hide (if_pos hb)
      have HBB := hide hb
      clear hb
      go_enter Tryd.func17, Tryd.ntmps17
      go_wp2_with fail
      refine (l08Decode_any s _ hs).mono ?_
      rintro e w1 ⟨v, rfl, ho, hb1⟩
      rw [unhide HBB]
      have HB := hide hb1
      have HO := hide ho
      clear ho hb1
      go_wp2
      go_ret2
      exact ⟨v, ret_ni rfl (unhide HE).1.symm, by rw [(unhide HE).2, ← unhide HCO]; exact unhide HO, unhide HB⟩

end Go.Proofs.YtjmianalknnekaaDoor
