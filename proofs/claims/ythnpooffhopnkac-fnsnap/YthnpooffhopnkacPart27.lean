import Derived.Test.YthnpooffhopnkacRows
import Derived.Test.YthnpooffhopnkacPart1
import Derived.WalkKit
import Derived.WalkSpells
import Derived.BigQuiet
import Derived.Deep.QuietTactic
import Derived.Deep.RegionWith
import Derived.Test.YthnpooffhopnkacPart2
import Derived.Test.YthnpooffhopnkacPart3
import Derived.Test.YthnpooffhopnkacPart13
import Derived.Test.YthnpooffhopnkacPart7
import Derived.Test.YthnpooffhopnkacPart15
import Derived.Test.YthnpooffhopnkacPart4
import Derived.Test.YthnpooffhopnkacPart5
import Derived.Test.YthnpooffhopnkacPart11
import Derived.Test.YthnpooffhopnkacPart12
import Derived.KernelRfl
import Derived.LoopN
import Derived.Deep.RegionHeld3
import Derived.Deep.CutRange
import Derived.Laws.ResultCell
import Derived.Deep.MidRow
import Derived.Test.YthnpooffhopnkacPart16
import Derived.Test.YthnpooffhopnkacPart18

/- Contract of laws.at: one of some choices. -/
namespace Go.Proofs.Ythnpooffhopnkac
open Go.RowKit
set_option linter.unusedVariables false
set_option maxRecDepth 100000

set_option maxHeartbeats 3200000 in
theorem at_any (ao : Option Addr) (n cap : Nat) (i k : Int) (w : World) (hn : n ≤ 1048576) (hi0 : 0 ≤ i) (hi1 : i ≤ 1000) (hk0 : 1 ≤ k) (hk1 : k ≤ 100000) (hB : Bs w ao n) :
    Calls Try.prog 6 #[.slice ao n cap, .int .i64 i, .int .i64 k] w fun e w' => ∃ r : Int, e = .returned (.int .i64 r) ∧ 0 ≤ r ∧ r < k ∧ Below w.heap.size w w' := by
  by_cases h1 : k ≤ 1
  · go_enter Try.func6, Try.ntmps6
    go_wp2
    go_ret
    exact ⟨0, rfl, by omega, by omega, Below.refl _ _⟩
  by_cases h0 : n = 0
  · have hb0 : ((n : Int) == 0) = true := by simp [h0]
    go_enter Try.func6, Try.ntmps6
    go_wp2
    go_ret
    have q0 := Int.emod_nonneg (i * 7) (show k ≠ 0 by omega)
    have q1 := Int.emod_lt_of_pos (i * 7) (show 0 < k by omega)
    exact ⟨i * 7 % k, rfl, q0, q1, Below.refl _ _⟩
  have hb0 : ((n : Int) == 0) = false := by simp [h0]
  have hnp : (0 : Int) < n := by omega
  have p0 := Int.emod_nonneg i (show (n : Int) ≠ 0 by omega)
  have p1 := Int.emod_lt_of_pos i hnp
  have p2 := Int.emod_nonneg (i + 1) (show (n : Int) ≠ 0 by omega)
  have p3 := Int.emod_lt_of_pos (i + 1) hnp
  obtain ⟨u, hu⟩ := Int.eq_ofNat_of_zero_le p0
  obtain ⟨v, hv⟩ := Int.eq_ofNat_of_zero_le p2
  have q0 : i / (n : Int) ≤ 1000 := Int.le_trans (Int.ediv_le_self _ hi0) hi1
  have q1 : 0 ≤ i / (n : Int) := Int.ediv_nonneg hi0 (by omega)
  obtain ⟨b, off, x, rfl, hcx, hx0, hx1⟩ := hB u (by omega)
  obtain ⟨b2, off2, y, he, hcy, hy0, hy1⟩ := hB v (by omega)
  simp only [Option.some.injEq, Addr.mk.injEq, and_true] at he
  obtain ⟨rfl, rfl⟩ := he
  have hn0 : ((n : Int) == 0) = false := hb0
  have hn1 : ¬ (n : Int) = 0 := by omega
  have hk2 : ¬ k = 0 := by omega
  have t1 : i.tmod (n : Int) = (u : Int) := by rw [Int.tmod_eq_emod_of_nonneg hi0]; exact hu
  have w1 : IntKind.i64.wrap (i + 1) = i + 1 := wrapI (by omega) (by omega)
  have t2 : (i + 1).tmod (n : Int) = (v : Int) := by rw [Int.tmod_eq_emod_of_nonneg (by omega)]; exact hv
  have w2 : IntKind.i64.wrap x = x := wrapI (by omega) (by omega)
  have w3 : IntKind.i64.wrap (x * 31) = x * 31 := wrapI (by omega) (by omega)
  have w4 : IntKind.i64.wrap y = y := wrapI (by omega) (by omega)
  have w5 : IntKind.i64.wrap (x * 31 + y) = x * 31 + y := wrapI (by omega) (by omega)
  have t3 : i.tdiv (n : Int) = i / (n : Int) := Int.tdiv_eq_ediv_of_nonneg hi0
  have w6 : IntKind.i64.wrap (i / (n : Int)) = i / (n : Int) := wrapI (by omega) (by omega)
  have w7 : IntKind.i64.wrap (x * 31 + y + i / (n : Int)) = x * 31 + y + i / (n : Int) := wrapI (by omega) (by omega)
  have t4 : (x * 31 + y + i / (n : Int)).tmod k = (x * 31 + y + i / (n : Int)) % k := Int.tmod_eq_emod_of_nonneg (by omega)
  have z0 := Int.emod_nonneg (x * 31 + y + i / (n : Int)) (show k ≠ 0 by omega)
  have z1 := Int.emod_lt_of_pos (x * 31 + y + i / (n : Int)) (show 0 < k by omega)
  go_enter Try.func6, Try.ntmps6
  go_wp2
  go_quiet (fail)
  go_wp2
  go_ret
  exact ⟨_, rfl, z0, z1, Joins.below_draws _ _ _⟩

end Go.Proofs.Ythnpooffhopnkac

/- Contract of laws.at, told outright: the same choice in every later world. -/
namespace Go.Proofs.Ythnpooffhopnkac
open Go.RowKit
set_option linter.unusedVariables false
set_option maxRecDepth 100000

set_option maxHeartbeats 3200000 in
theorem at_told (ao : Option Addr) (n cap : Nat) (i k : Int) (w : World) (hn : n ≤ 1048576) (hi0 : 0 ≤ i) (hi1 : i ≤ 1000) (hk0 : 1 ≤ k) (hk1 : k ≤ 100000) (hB : Bs w ao n) :
    ∃ r : Int, (0 ≤ r ∧ r < k) ∧ ∀ W, Below w.heap.size w W → Calls Try.prog 6 #[.slice ao n cap, .int .i64 i, .int .i64 k] W fun e w' => e = .returned (.int .i64 r) ∧ Below W.heap.size W w' := by
  by_cases h1 : k ≤ 1
  · refine ⟨0, ⟨by omega, by omega⟩, fun W HW => ?_⟩
    go_enter Try.func6, Try.ntmps6
    go_wp2
    go_ret
    exact ⟨rfl, Below.refl _ _⟩
  by_cases h0 : n = 0
  · have hb0 : ((n : Int) == 0) = true := by simp [h0]
    have q0 := Int.emod_nonneg (i * 7) (show k ≠ 0 by omega)
    have q1 := Int.emod_lt_of_pos (i * 7) (show 0 < k by omega)
    refine ⟨i * 7 % k, ⟨q0, q1⟩, fun W HW => ?_⟩
    clear q0 q1
    go_enter Try.func6, Try.ntmps6
    go_wp2
    go_ret
    exact ⟨rfl, Below.refl _ _⟩
  have hb0 : ((n : Int) == 0) = false := by simp [h0]
  have hnp : (0 : Int) < n := by omega
  have p0 := Int.emod_nonneg i (show (n : Int) ≠ 0 by omega)
  have p1 := Int.emod_lt_of_pos i hnp
  have p2 := Int.emod_nonneg (i + 1) (show (n : Int) ≠ 0 by omega)
  have p3 := Int.emod_lt_of_pos (i + 1) hnp
  obtain ⟨u, hu⟩ := Int.eq_ofNat_of_zero_le p0
  obtain ⟨v, hv⟩ := Int.eq_ofNat_of_zero_le p2
  have q0 : i / (n : Int) ≤ 1000 := Int.le_trans (Int.ediv_le_self _ hi0) hi1
  have q1 : 0 ≤ i / (n : Int) := Int.ediv_nonneg hi0 (by omega)
  obtain ⟨b, off, x, rfl, hcx, hx0, hx1⟩ := hB u (by omega)
  obtain ⟨b2, off2, y, he, hcy, hy0, hy1⟩ := hB v (by omega)
  simp only [Option.some.injEq, Addr.mk.injEq, and_true] at he
  obtain ⟨rfl, rfl⟩ := he
  have hn0 : ((n : Int) == 0) = false := hb0
  have hn1 : ¬ (n : Int) = 0 := by omega
  have hk2 : ¬ k = 0 := by omega
  have t1 : i.tmod (n : Int) = (u : Int) := by rw [Int.tmod_eq_emod_of_nonneg hi0]; exact hu
  have w1 : IntKind.i64.wrap (i + 1) = i + 1 := wrapI (by omega) (by omega)
  have t2 : (i + 1).tmod (n : Int) = (v : Int) := by rw [Int.tmod_eq_emod_of_nonneg (by omega)]; exact hv
  have w2 : IntKind.i64.wrap x = x := wrapI (by omega) (by omega)
  have w3 : IntKind.i64.wrap (x * 31) = x * 31 := wrapI (by omega) (by omega)
  have w4 : IntKind.i64.wrap y = y := wrapI (by omega) (by omega)
  have w5 : IntKind.i64.wrap (x * 31 + y) = x * 31 + y := wrapI (by omega) (by omega)
  have t3 : i.tdiv (n : Int) = i / (n : Int) := Int.tdiv_eq_ediv_of_nonneg hi0
  have w6 : IntKind.i64.wrap (i / (n : Int)) = i / (n : Int) := wrapI (by omega) (by omega)
  have w7 : IntKind.i64.wrap (x * 31 + y + i / (n : Int)) = x * 31 + y + i / (n : Int) := wrapI (by omega) (by omega)
  have t4 : (x * 31 + y + i / (n : Int)).tmod k = (x * 31 + y + i / (n : Int)) % k := Int.tmod_eq_emod_of_nonneg (by omega)
  have z0 := Int.emod_nonneg (x * 31 + y + i / (n : Int)) (show k ≠ 0 by omega)
  have z1 := Int.emod_lt_of_pos (x * 31 + y + i / (n : Int)) (show 0 < k by omega)
  refine ⟨(x * 31 + y + i / (n : Int)) % k, ⟨z0, z1⟩, fun W HW => ?_⟩
  have hcx' := (HW.cell (World.block_lt_of_cell? _ _ hcx)).trans hcx
  have hcy' := (HW.cell (World.block_lt_of_cell? _ _ hcy)).trans hcy
  clear hcx hcy HW hB
  go_enter Try.func6, Try.ntmps6
  go_wp2
  go_quiet (fail)
  go_wp2
  go_ret
  exact ⟨rfl, Joins.below_draws _ _ _⟩

end Go.Proofs.Ythnpooffhopnkac

/- Contracts of SnapNames, of the model and of the program. -/
namespace Go.Proofs.Ythnpooffhopnkac
open Go.RowKit
set_option linter.unusedVariables false
set_option maxRecDepth 100000

/-- An answer: texts of its own and a code. -/
def AnsS (W w' : World) (e : Ending) (R : List ByteArray × Int) : Prop := ∃ qo qa, e = .returned (.tuple #[.slice qo R.1.length qa, .int .i64 R.2]) ∧ OwnR w' W.heap.size 9 1 (.slice qo R.1.length qa) R.1.length (strV R.1) ∧ Below W.heap.size W w'
theorem nmL_len (m : Img) : (nmL m).length = m.snaps.length := by simp [nmL]

theorem sn_bd (m : Img) : (snA m).1.length ≤ 1000 ∧ ∀ s ∈ (snA m).1, s.size ≤ maxLen := by
  unfold snA
  split
  · rename_i h
    have hM := (imB_iff.1 h).M
    refine ⟨by rw [nmL_len]; have := hM.s; omega, fun s hs => ?_⟩
    unfold nmL at hs
    obtain ⟨t, ht, rfl⟩ := List.mem_map.1 hs
    have := (hM.st t ht).2
    unfold maxLen; omega
  · exact ⟨Nat.zero_le _, fun s hs => by cases hs⟩

set_option maxHeartbeats 1600000 in
theorem snapNames_impl (a : Im4) (m : Img) (w : World) (hL : ImL m) (hc : ImS w a m) :
    Calls Try.prog 18 #[imV a m] w fun e w' => AnsS w w' e (snA m) := by
  have HA := hide (Joins.below_alloc1 w (.cells #[.slice a.ro m.refs.length a.rc, .slice a.tq m.table.length a.tc, .slice a.so m.snaps.length a.sc, .slice a.dq m.data.length a.dc] 26))
  have HV := hide (VarM.new w 26 (.slice a.ro m.refs.length a.rc) (.slice a.tq m.table.length a.tc) (.slice a.so m.snaps.length a.sc) (.slice a.dq m.data.length a.dc))
  have HC := hide (hc.below (unhide HA))
  have HL := hide hL
  obtain ⟨R, HR⟩ : ∃ R, Hid (R = snA m) := ⟨_, rfl⟩
  rw [← unhide HR]
  clear hc hL
  obtain ⟨j0, hj, hy0, hy1, hy2⟩ := info_parts infoS
  go_enter Try.func18, Try.ntmps18
  go_upto_region 1 with fail
  revert HA HV HC
  generalize (w.alloc _) = W0
  intro HA HV HC
  obtain ⟨c0, c1, c2, c3⟩ := (unhide HV).cells
  go_wp2_with fail
  refine (imageOK_impl a m _ (unhide HL) (unhide HC)).mono ?_
  rintro e w1 ⟨rfl, hb⟩
  have HB1 := hide (fr (unhide HA) hb)
  have HC1 := hide ((unhide HC).below hb)
  have HV1 := hide ((unhide HV).below hb)
  clear hb c0 c1 c2 c3 HA HV HC
  cases him : imB m
  · have HE : Hid (R = ([], 1)) := hide (by rw [unhide HR, snA, him]; rfl)
    go_wp2
    go_ret2
    rw [unhide HE]
    exact ⟨_, _, rfl, .inl ⟨rfl, rfl, _, rfl⟩, unhide HB1⟩
  have HE : Hid (R = (nmL m, 0)) := hide (by rw [unhide HR, snA, him]; rfl)
  have hs3 := (imB_iff.1 him).few
  clear him
  obtain ⟨c0, c1, c2, c3⟩ := (unhide HV1).cells
  go_wp2
  clear c0 c1 c2 c3
  go_loopw [4, 13] (fun o i wr => ∃ (k : Nat) (qo : Option Addr) (qa : Nat), k ≤ m.snaps.length ∧ i = .int .i64 k ∧ o = .slice qo k qa ∧ Hid (OwnR wr w1.heap.size 9 1 (.slice qo k qa) k (strV ((nmL m).take k))) ∧ Hid (Below w1.heap.size w1 wr)) (fun _ i _ => m.snaps.length - (intOf i).toNat)
  case atStart => exact ⟨0, _, _, Nat.zero_le _, rfl, rfl, hide (.inl ⟨rfl, by simp [strV], _, rfl⟩), hide (Below.refl _ _)⟩
  case round =>
    obtain ⟨k, qo, qa, hk, rfl, rfl, HO, HB⟩ := hrel
    by_cases hlt : k < m.snaps.length
    · obtain ⟨b, off, tq, tc, eb, hn0, ht0, _, _, _⟩ := ((unhide HC1).s.below (unhide HB)) k hlt
      have hlti : (k : Int) < (m.snaps.length : Int) := by omega
      have HS : Hid (strV ((nmL m).take (k + 1)) = strV ((nmL m).take k) ++ [.string m.snaps[k].name]) := hide (by
        rw [List.take_succ_eq_append_getElem (by simpa [nmL] using hlt)]
        simp [strV, nmL])
      have HX := hide (VarN.new wr m.snaps[k].name (.slice tq m.snaps[k].table.length tc))
      have HBX := hide (Joins.below_alloc1 wr (.cells #[.string m.snaps[k].name, .slice tq m.snaps[k].table.length tc] 63))
      go_upto_region 7 with fail
      revert HX HBX
      generalize (wr.alloc _) = w2
      intro HX HBX
      obtain ⟨x0, x1⟩ := (unhide HX).cells
      have HO2 := hide ((unhide HO).below (unhide HBX))
      have HB2 := hide (fr (unhide HB) (unhide HBX))
      clear HX HBX hn0 ht0 eb
      have HOA := hide ((unhide HO2).below (Joins.below_alloc1 _ (.cells #[.string m.snaps[k].name] 9)))
      have HBA := hide (fr (unhide HB2) (Joins.below_alloc1 _ (.cells #[.string m.snaps[k].name] 9)))
      have HSZ := hide (unhide HB2).size
      go_wp2_with (at_builtin; refine wpList_append_one rfl _ _ 46 rfl w1.heap.size 9 j0 (.string ⟨#[]⟩) 1 16 Try.underlying46 hj hy0 hy1 hy2 rfl (by omega) qo k qa (strV ((nmL m).take k)) rfl (unhide HOA) (by have := unhide HSZ; simp; omega) ⟨w2.heap.size, 0, none⟩ _ [.string m.snaps[k].name] rfl rfl (byte_news w2 _ _) (str_one _) (by unfold maxLen; omega) (by omega) ?_; intro g2 cap2 wA hoA hkA; have HSF := hide (And.intro hoA (keep_below (unhide HBA) (unhide HOA) (Nat.le_refl _) hkA)); clear hoA hkA)
      go_roundw
      case rel => exact ⟨k + 1, some ⟨g2, 0, none⟩, cap2, by omega, by go_num, rfl, hide (.inr ⟨by omega, by rw [unhide HS]; exact (unhide HSF).1⟩), hide (unhide HSF).2⟩
      case measure => simp [intOf]; omega
    · have hkl : k = m.snaps.length := by omega
      subst hkl
      have HT : Hid ((nmL m).take m.snaps.length = nmL m) := hide (List.take_of_length_le (by simp [nmL]))
      go_wp2
      go_ret2
      have h := unhide HO
      rw [unhide HT] at h
      rw [unhide HE]
      exact ⟨qo, qa, by rw [nmL_len]; rfl, by rw [nmL_len]; exact h.base (unhide HB1).size, fr (unhide HB1) (unhide HB)⟩

end Go.Proofs.Ythnpooffhopnkac

/- Contracts of impl.FreeCluster, impl.RefSum. -/
namespace Go.Proofs.Ythnpooffhopnkac
open Go.RowKit
set_option linter.unusedVariables false
set_option maxRecDepth 100000

theorem ctF_zero {xs : List Int} (h0 : ctF xs = 0) : ctB xs = true := by
  rcases ctF_cases xs with ⟨_, h, _⟩ | ⟨_, _, h, _⟩ | ⟨h, _⟩
  · rw [h0] at h; cases h
  · rw [h0] at h; cases h
  · exact h

set_option maxHeartbeats 1600000 in
theorem freeCluster_impl (ao : Option Addr) (cap : Nat) (xs : List Int) (w : World) (hl : xs.length ≤ maxLen) (hc : Is w ao xs) :
    Calls Try.prog 26 #[.slice ao xs.length cap] w fun e w' => e = .returned (.tuple #[.int .i64 (frR xs), .int .i64 (frC xs)]) ∧ Below w.heap.size w w' := by
  have HC := hide hc
  have HL := hide hl
  have HLC := hide (coR_len xs)
  clear hc
  go_enter Try.func26, Try.ntmps26
  go_wp2_with fail
  refine (countsOf_any ao cap xs _ (unhide HL) (unhide HC)).mono ?_
  rintro e w1 ⟨rfl, hb⟩
  have HB1 := hide hb
  have HSZ := hide hb.size
  clear hb HC
  have HNN := hide (arr_new w1)
  have HBB := hide (fr (unhide HB1) (Joins.below_alloc1 w1 (.cells #[.int .i64 0, .int .i64 0, .int .i64 0, .int .i64 0, .int .i64 0, .int .i64 0, .int .i64 0, .int .i64 0, .int .i64 0, .int .i64 0, .int .i64 0, .int .i64 0, .int .i64 0, .int .i64 0, .int .i64 0, .int .i64 0, .int .i64 0, .int .i64 0, .int .i64 0, .int .i64 0, .int .i64 0, .int .i64 0, .int .i64 0, .int .i64 0] 83)))
  by_cases h0 : ctF xs = 0
  · have HCO : Hid (coR xs = xs) := hide (if_pos h0)
    have HCB := hide (ctF_zero h0)
    rw [h0]
    clear h0
    go_upto_region 2 with (refine wpList_store_arr rfl 83 _ _ rfl w1.heap.size rfl (intV (coR xs)).toArray rfl _ _ (unhide HNN) (sizeA (unhide HLC)) (by rw [intV_size, intV_size, unhide HLC]; rfl) (intV_one _) ?_; intro w2 hn2 hk2 hs2; have HB2 := hide (keep_one (unhide HBB) hk2 (unhide HSZ)); clear hk2 hs2 HNN HBB HB1)
    have HN2 : Hid (VarC w2 w1.heap.size xs) := hide (by rw [unhide HCO] at hn2; exact hn2)
    clear hn2 HCO HLC
    generalize w1.heap.size = G at *
    go_wp2_with (refine wpList_load_arr rfl 83 _ rfl G rfl (intV xs).toArray _ _ (unhide HN2) und24 rfl (sizeA (ctB_len (unhide HCB))) ?_)
    go_loop [17] (fun i => ∃ k : Nat, k ≤ 24 ∧ i = .int .i64 k ∧ Hid (∀ j (hj : j < xs.length), j < k → decide (xs[j] ≠ 0) = true)) (fun i => 24 - (intOf i).toNat)
    case atStart => exact ⟨0, Nat.zero_le _, rfl, hide (fun j _ h => by omega)⟩
    case round =>
      obtain ⟨k, hk, rfl, HA⟩ := hrel
      by_cases hlt : k < 24
      · have hkx : k < xs.length := by rw [ctB_len (unhide HCB)]; exact hlt
        have hix := fun W => idx24 W xs k (ctB_len (unhide HCB)) hkx
        have hki : (k : Int) < 24 := by omega
        by_cases hz : xs[k] = 0
        · have HE := hide (frC_here (unhide HCB) hkx (fr_here hkx hz (unhide HA)))
          have bz : (xs[k] == 0) = true := by simp [hz]
          clear hz
          go_wp2
          go_ret2
          exact ⟨ret_two2 (unhide HE).2.symm (unhide HE).1.symm, unhide HB2⟩
        · have HN := hide (all_succ (p := fun n => decide (n ≠ 0)) hkx (unhide HA) (by simpa using hz))
          have bz : (xs[k] == 0) = false := by simp [hz]
          clear hz
          go_wp2
          go_round
          case rel => exact ⟨k + 1, by omega, by go_num, HN⟩
          case measure => simp [intOf]; omega
      · have HE := hide (frC_none (unhide HCB) (fr_none (fun j hj => unhide HA j hj (by have := ctB_len (unhide HCB); omega))))
        go_wp2
        go_ret2
        exact ⟨ret_two2 (unhide HE).2.symm (unhide HE).1.symm, unhide HB2⟩
  · have HE := hide (frC_bad h0)
    have hne := ctF_ne xs h0
    clear h0
    go_upto_region 2 with (refine wpList_store_arr rfl 83 _ _ rfl w1.heap.size rfl (intV (coR xs)).toArray rfl _ _ (unhide HNN) (sizeA (unhide HLC)) (by rw [intV_size, intV_size, unhide HLC]; rfl) (intV_one _) ?_; intro w2 hn2 hk2 hs2; have HB2 := hide (keep_one (unhide HBB) hk2 (unhide HSZ)); clear hk2 hs2 HNN HBB HB1)
    clear hn2
    go_wp2
    go_ret2
    exact ⟨ret_two2 (unhide HE).2.1.symm (unhide HE).1.symm, unhide HB2⟩

end Go.Proofs.Ythnpooffhopnkac

/- Contract of impl.WriteCluster. -/
namespace Go.Proofs.Ythnpooffhopnkac
open Go.RowKit
set_option linter.unusedVariables false
set_option maxRecDepth 100000

/-- The cluster that is written. -/
def wcS (m : Img) (e : Int) : Option Nat := if 2 ≤ e ∧ m.refs.getD (e - 2).toNat 0 = 1 then some (e - 2).toNat else if frN m.refs < m.refs.length then some (frN m.refs) else none
/-- The image that WriteCluster makes ahead of its counts. -/
def wcM (m : Img) (g : Nat) (v : Int) : Option Nat → Img
  | some c => { m with table := m.table.set g (2 + (c : Int)), data := m.data.set c v }
  | none => m
def wcK : Option Nat → Int
  | some _ => 0
  | none => 7
def wc1 (m : Img) (g v : Int) : Img := if betw g 0 ((m.table.length : Int) - 1) = true ∧ numB v = true then wcM m g.toNat v (wcS m (m.table.getD g.toNat 0)) else m
def wcC (m : Img) (g v : Int) : Int := if betw g 0 ((m.table.length : Int) - 1) = true ∧ numB v = true then wcK (wcS m (m.table.getD g.toNat 0)) else 4
theorem wcS_lt {m : Img} (h : ImR m) {g c : Nat} (hg : g < m.table.length) (hs : wcS m m.table[g] = some c) : c < 24 := by
  unfold wcS at hs
  have hb := tbB_at h.table g hg
  split at hs
  · cases hs; omega
  · split at hs
    · rename_i hf; cases hs; rw [h.rl] at hf; exact hf
    · cases hs
theorem wc_fit {m : Img} (g v : Int) (h : ImR m) : FitR (wc1 m g v) := by
  unfold wc1
  by_cases hok : betw g 0 ((m.table.length : Int) - 1) = true ∧ numB v = true
  · rw [if_pos hok]
    obtain ⟨l0, l1⟩ := betw_iff.1 hok.1
    have hg : g.toNat < m.table.length := by omega
    have e : m.table.getD g.toNat 0 = m.table[g.toNat] := by simp [List.getD, hg]
    rw [e]
    cases hs : wcS m m.table[g.toNat] with
    | none => exact h.fitR
    | some c =>
      have := wcS_lt h hg hs
      exact h.fitT (tbB_set h.table _ (by omega) (by omega)) (by simp [h.len])
  · rw [if_neg hok]
    exact h.fitR
theorem wc_ans {m : Img} (g v : Int) : (if imB m = true then (imFit (wc1 m g v), wcC m g v) else (im0, 1)) = wcA m g v := by
  refine ans_eq (fun h => ?_) (fun h => by rw [wcA, h]; rfl)
  have hR := imB_iff.1 h
  rw [wcA, if_pos h]
  unfold wc1 wcC
  by_cases hok : betw g 0 ((m.table.length : Int) - 1) = true ∧ numB v = true
  · rw [if_pos hok, if_pos hok, if_pos hok]
    obtain ⟨l0, l1⟩ := betw_iff.1 hok.1
    have hg : g.toNat < m.table.length := by omega
    have e : m.table.getD g.toNat 0 = m.table[g.toNat] := by simp [List.getD, hg]
    have hb := tbB_at hR.table _ hg
    rw [e]
    unfold wcS
    by_cases h1 : 2 ≤ m.table[g.toNat] ∧ m.refs.getD (m.table[g.toNat] - 2).toNat 0 = 1
    · rw [if_pos h1]
      have hc : m.table[g.toNat] = (((m.table[g.toNat] - 2).toNat : Nat) : Int) + 2 := by omega
      have hr : (m.table[g.toNat] - 2).toNat < m.refs.length := by rw [hR.rl]; omega
      have h1' : m.refs[(m.table[g.toNat] - 2).toNat] = 1 := by have := h1.2; simpa [List.getD, hr] using this
      rw [imWrite_in hg hc hr h1']
      exact ⟨fit_in hR v hg hc h1.2, rfl⟩
    · rw [if_neg h1, imWrite_out hg h1]
      by_cases h2 : frN m.refs < m.refs.length
      · rw [if_pos h2, if_pos h2]
        exact ⟨fit_out hR v hg (by rw [hR.rl] at h2; exact h2) (free_spec h2), rfl⟩
      · rw [if_neg h2, if_neg h2]
        exact ⟨fit_self hR, rfl⟩
  · rw [if_neg hok, if_neg hok, if_neg hok]
    exact ⟨fit_self hR, rfl⟩
/-- A cluster that a table has is counted. -/
theorem used_pos {m : Img} (h : ImR m) {g c : Nat} (hg : g < m.table.length) (hc : m.table[g] = (c : Int) + 2) (h24 : c < 24) : 1 ≤ m.refs.getD c 0 := by
  have h1 := cN_pos hg hc
  have h3 := sN_nn (m.snaps.map (·.table)) c
  rw [h.cntA h24, sN_tabs]
  omega

set_option maxHeartbeats 3200000 in
theorem writeC_any (m : Img) (g v : Int) (x y : Nat) (W : World) (p B : Nat) (a : Im4) (ts : List Value) (hR : ImR m) (hx : VarN1 W x g) (hxB : x < B) (hy : VarN1 W y v) (hyB : y < B) (hB : B ≤ W.heap.size) (hh : Hld W p B a m ts) :
    Calls Try.prog 23 #[.pointer (some ⟨p, 0, none⟩), .pointer (some ⟨x, 0, none⟩), .pointer (some ⟨y, 0, none⟩)] W fun e W' => Chg W W' p B e (wcC m g v) (wc1 m g v) := by
  have HH := hide hh
  have HT := hide (hh.o.shows hR.M.zs).t
  have HL := hide hR.M.L.t
  have HRR := hide hR
  have HXV := hide hx
  have HYV := hide hy
  have hx' : W.cell? ⟨x, 0, none⟩ = some (.int .i64 g) := hx
  obtain ⟨c0, c1, c2, c3⟩ := hh.v.cells
  have hpl := hh.v.lt
  have hxl := World.block_lt_of_cell? _ _ hx
  have HCAL : Hid (∀ W1, Below W.heap.size W W1 → Calls Try.prog 24 #[.slice a.tq m.table.length a.tc, .int .i64 g] W1 fun e w' => e = .returned (.tuple #[.int .i64 (enK m.table g), .int .i64 (enC m.table g), .int .i64 (enF m.table g)]) ∧ Below W.heap.size W w') := hide (fun W1 hW => (entryOf_impl a.tq a.tc m.table g W1 (unhide HL) ((unhide HT).below hW)).mono fun e w' ⟨h1, h3⟩ => ⟨h1, fr hW h3⟩)
  obtain ⟨C, HC⟩ : ∃ C, Hid (C = wcC m g v) := ⟨_, rfl⟩
  obtain ⟨M1, HM1⟩ : ∃ M1, Hid (M1 = wc1 m g v) := ⟨_, rfl⟩
  rw [← unhide HC, ← unhide HM1]
  have HEN := hide (en_cases m.table g)
  have HTF := hide (tbF_ok hR.table)
  clear hh hx hy hR
  generalize enK m.table g = K at *
  generalize enC m.table g = Cc at *
  generalize enF m.table g = F at *
  go_enter Try.func23, Try.ntmps23
  go_upto_region 1 with fail
  go_region_held3 (fun w' => w'.cell? ⟨p, 1, none⟩ = some (.slice a.tq m.table.length a.tc) ∧ w'.cell? ⟨x, 0, none⟩ = some (.int .i64 g)) (go_keep) ((go_at_call 24; refine (unhide HCAL _ (Below.refl _ _).drew).mono ?_; rintro e w3 ⟨rfl, hb3⟩; have k1 := (hb3.cell (p := ⟨p, 1, none⟩) hpl).trans c1; have k2 := (hb3.cell (p := ⟨x, 0, none⟩) hxl).trans hx'; have HN3 := hide hb3; clear hb3))
  clear k1 k2 c0 c1 c2 c3 hx' hpl hxl HCAL
  generalize w3 = wz at HN3 ⊢
  have HH3 := hide ((unhide HH).below (unhide HN3))
  have HX3 := hide ((unhide HXV).below (unhide HN3))
  have HY3 := hide ((unhide HYV).below (unhide HN3))
  have HS3 := hide (Nat.le_trans hB (unhide HN3).size)
  rcases unhide HEN with ⟨hf, _⟩ | ⟨hb, hg, eF, eK, eC⟩ | ⟨hb, q, rfl, hq, eF, eK, eC⟩
  · exact absurd (unhide HTF) hf
  · have HE : Hid (C = 4 ∧ M1 = m) := hide ⟨by rw [unhide HC, wcC, hg]; rfl, by rw [unhide HM1, wc1, hg]; rfl⟩
    subst eF eK eC
    clear hg
    go_wp2
    go_ret
    rw [(unhide HE).1, (unhide HE).2]
    exact Chg.same 4 (unhide HH) hB (unhide HN3)
  have hgb : betw (q : Int) 0 ((m.table.length : Int) - 1) = true := betw_iff.2 ⟨by omega, by omega⟩
  have hy' : wz.cell? ⟨y, 0, none⟩ = some (.int .i64 v) := unhide HY3
  subst eF
  cases hnv : numB v
  · have HE : Hid (C = 4 ∧ M1 = m) := hide ⟨by rw [unhide HC, wcC, hnv]; simp, by rw [unhide HM1, wc1, hnv]; simp⟩
    clear hgb eK eC
    go_wp2_with (go_at_call 25; refine (isNumber_any _ _).mono ?_; rintro e w' ⟨rfl, hw⟩; replace hw := hw.symm; subst hw; rw [hnv])
    go_ret
    rw [(unhide HE).1, (unhide HE).2]
    exact Chg.same 4 (unhide HH) hB (unhide HN3)
  have HE : Hid (C = wcK (wcS m m.table[q]) ∧ M1 = wcM m q v (wcS m m.table[q])) := hide (by
    have e : m.table.getD q 0 = m.table[q] := by simp [List.getD, hq]
    rw [unhide HC, unhide HM1, wcC, wc1, if_pos ⟨hgb, hnv⟩, if_pos ⟨hgb, hnv⟩, Int.toNat_natCast, e]
    exact ⟨rfl, rfl⟩)
  have HTQ := hide (tbB_at hb q hq)
  have HSL := hide (fun c hs => wcS_lt (c := c) (unhide HRR) hq hs)
  have HPOS := hide (fun c hc h24 => used_pos (c := c) (unhide HRR) hq hc h24)
  have hqi : (q : Int) < (m.table.length : Int) := by omega
  clear hgb hb
  obtain ⟨c0, c1, c2, c3⟩ := (unhide HH3).v.cells
  by_cases hT : m.table[q] < 2
  · have HNO : Hid (¬ (2 ≤ m.table[q] ∧ m.refs.getD (m.table[q] - 2).toNat 0 = 1)) := hide (fun h => by omega)
    have h3 : (K != 2) = true := by rw [eK]; simp; omega
    clear hT eK eC
    -- the first free one
    have HB3 : Hid (Below B W wz) := hide ((unhide HN3).mono hB)
    go_wp2_with (first | (go_at_call 25; refine (isNumber_any _ _).mono ?_; rintro e w' ⟨rfl, hw⟩; replace hw := hw.symm; subst hw; rw [hnv]) | fail)
    refine (freeCluster_impl a.ro a.rc m.refs _ (unhide HRR).M.L.r ((unhide HH3).o.shows (unhide HRR).M.zs).r).mono ?_
    rintro e w4 ⟨rfl, hb4⟩
    have HN4 := hide (fr (unhide HN3) hb4)
    have HH4 := hide ((unhide HH3).below hb4)
    have HX4 := hide ((unhide HX3).below hb4)
    have HS4 := hide (Nat.le_trans (unhide HS3) hb4.size)
    have HB4 : Hid (Below B W w4) := hide ((unhide HN4).mono hB)
    clear hb4 c0 c1 c2 c3 hy'
    by_cases hfr : frN m.refs < m.refs.length
    · obtain ⟨f1, f2⟩ := frC_here (unhide HRR).refs hfr rfl
      have hc24 : frN m.refs < 24 := by rw [(unhide HRR).rl] at hfr; exact hfr
      have HE2 : Hid (C = 0 ∧ M1 = { m with table := m.table.set q (2 + (frN m.refs : Int)), data := m.data.set (frN m.refs) v }) := hide (by rw [(unhide HE).1, (unhide HE).2, wcS, if_neg (unhide HNO), if_pos hfr]; exact ⟨rfl, rfl⟩)
      rw [f1, f2]
      clear f1 f2 hfr
      generalize frN m.refs = c at *
      obtain ⟨c0, c1, c2, c3⟩ := (unhide HH4).v.cells
      have x4 : w4.cell? ⟨x, 0, none⟩ = some (.int .i64 (q : Int)) := unhide HX4
      obtain ⟨gt, et, ht1, hf1, hst⟩ := (unhide HH4).setT (unhide HS4) hq
      have HS := hide (hst (2 + (c : Int)))
      have hwc : IntKind.i64.wrap (2 + (c : Int)) = 2 + (c : Int) := by rw [IntKind.wrap_i64]; omega
      rw [et] at c1
      clear et hst
      go_upto_region 8 with fail
      go_region
      have HH5 := hide ((unhide HS).1.below (Below.refl _ _).drew)
      have HB5 : Hid (Below B W (w4.setCell ⟨gt, q, none⟩ (.int .i64 (2 + (c : Int)))).drew) := hide ((unhide HB4).trans (unhide HS).2).drew
      have HX5 := hide ((unhide HXV).belowB hxB (unhide HB5))
      have HY5 := hide ((unhide HYV).belowB hyB (unhide HB5))
      clear c0 c1 c2 c3 x4 ht1 hf1 HS HH4 HX4 HS4 HB4
      revert HH5 HB5 HX5 HY5
      generalize (World.drew _) = W5
      intro HH5 HB5 HX5 HY5
      obtain ⟨c0, c1, c2, c3⟩ := (unhide HH5).v.cells
      have y5 : W5.cell? ⟨y, 0, none⟩ = some (.int .i64 v) := unhide HY5
      obtain ⟨gd, ed, hd1, hf2, hsd⟩ := (unhide HH5).setD (c := c) (Nat.le_trans hB (unhide HB5).size) (by show c < m.data.length; rw [(unhide HRR).len]; exact hc24)
      have HS2 := hide (hsd v)
      rw [ed] at c3
      have hcdi : (c : Int) < (m.data.length : Int) := by rw [(unhide HRR).len]; omega
      clear ed hsd
      go_wp2
      go_region
      go_wp2
      go_ret
      rw [(unhide HE2).1, (unhide HE2).2]
      exact ⟨rfl, _, _, (unhide HS2).1.below (Below.refl _ _).drew, ((unhide HB5).trans (unhide HS2).2).drew⟩
    · obtain ⟨f1, f2⟩ := frC_none (unhide HRR).refs hfr
      have HE2 : Hid (C = 7 ∧ M1 = m) := hide (by rw [(unhide HE).1, (unhide HE).2, wcS, if_neg (unhide HNO), if_neg hfr]; exact ⟨rfl, rfl⟩)
      rw [f1, f2]
      clear f1 f2 hfr
      go_wp2
      go_ret
      rw [(unhide HE2).1, (unhide HE2).2]
      exact Chg.same 7 (unhide HH) hB (unhide HN4)
  · obtain ⟨c, hcc⟩ := Int.eq_ofNat_of_zero_le (show 0 ≤ m.table[q] - 2 by omega)
    have hTQ := unhide HTQ
    have hc24 : c < 24 := by omega
    have hcr : c < m.refs.length := by rw [(unhide HRR).rl]; exact hc24
    have hcri : (c : Int) < (m.refs.length : Int) := by omega
    have h1 : K = 2 := by omega
    have h2 : Cc = (c : Int) := by omega
    have egd : m.refs.getD c 0 = m.refs[c] := by simp [List.getD, hcr]
    have hpos := unhide HPOS c (by omega) hc24
    rw [egd] at hpos
    obtain ⟨b3, o3, e3, hx3⟩ := ((unhide HH3).o.shows (unhide HRR).M.zs).r c hcr
    rw [e3] at c0
    have E3 := hide e3
    subst h1 h2
    have HCC : Hid ((m.table[q] - 2).toNat = c) := hide (by omega)
    have HT2 : Hid (2 ≤ m.table[q]) := hide (by omega)
    clear hT eK eC e3 hTQ hcc
    by_cases hone : m.refs[c] = 1
    · have HE2 : Hid (C = 0 ∧ M1 = { m with table := m.table.set q (2 + (c : Int)), data := m.data.set c v }) := hide (by rw [(unhide HE).1, (unhide HE).2, wcS, if_pos ⟨unhide HT2, by rw [unhide HCC, egd]; exact hone⟩, unhide HCC]; exact ⟨rfl, rfl⟩)
      have hn1 : ¬ (1 : Int) < m.refs[c] := by omega
      have HH4 := HH3
      have HX4 := HX3
      have HS4 := HS3
      have HB4 : Hid (Below B W wz) := hide ((unhide HN3).mono hB)
      clear hone egd hpos
      generalize m.refs[c] = RC at *
      go_upto_region 8 with (go_at_call 25; refine (isNumber_any _ _).mono ?_; rintro e w' ⟨rfl, hw⟩; replace hw := hw.symm; subst hw; rw [hnv])
      clear c0 c1 c2 c3 hx3 hn1 hy'
      obtain ⟨c0, c1, c2, c3⟩ := (unhide HH4).v.cells
      have x4 : wz.cell? ⟨x, 0, none⟩ = some (.int .i64 (q : Int)) := unhide HX4
      obtain ⟨gt, et, ht1, hf1, hst⟩ := (unhide HH4).setT (unhide HS4) hq
      have HS := hide (hst (2 + (c : Int)))
      have hwc : IntKind.i64.wrap (2 + (c : Int)) = 2 + (c : Int) := by rw [IntKind.wrap_i64]; omega
      rw [et] at c1
      clear et hst
      go_region
      have HH5 := hide ((unhide HS).1.below (Below.refl _ _).drew)
      have HB5 : Hid (Below B W (wz.setCell ⟨gt, q, none⟩ (.int .i64 (2 + (c : Int)))).drew) := hide ((unhide HB4).trans (unhide HS).2).drew
      have HX5 := hide ((unhide HXV).belowB hxB (unhide HB5))
      have HY5 := hide ((unhide HYV).belowB hyB (unhide HB5))
      clear c0 c1 c2 c3 x4 ht1 hf1 HS HH4 HX4 HS4 HB4
      revert HH5 HB5 HX5 HY5
      generalize (World.drew _) = W5
      intro HH5 HB5 HX5 HY5
      obtain ⟨c0, c1, c2, c3⟩ := (unhide HH5).v.cells
      have y5 : W5.cell? ⟨y, 0, none⟩ = some (.int .i64 v) := unhide HY5
      obtain ⟨gd, ed, hd1, hf2, hsd⟩ := (unhide HH5).setD (c := c) (Nat.le_trans hB (unhide HB5).size) (by show c < m.data.length; rw [(unhide HRR).len]; exact hc24)
      have HS2 := hide (hsd v)
      rw [ed] at c3
      have hcdi : (c : Int) < (m.data.length : Int) := by rw [(unhide HRR).len]; omega
      clear ed hsd
      go_wp2
      go_region
      go_wp2
      go_ret
      rw [(unhide HE2).1, (unhide HE2).2]
      exact ⟨rfl, _, _, (unhide HS2).1.below (Below.refl _ _).drew, ((unhide HB5).trans (unhide HS2).2).drew⟩
    · have HNO : Hid (¬ (2 ≤ m.table[q] ∧ m.refs.getD (m.table[q] - 2).toNat 0 = 1)) := hide (fun h => hone (by have := h.2; rw [unhide HCC, egd] at this; exact this))
      have hn1 : (1 : Int) < m.refs[c] := by omega
      clear hone egd hpos
      generalize m.refs[c] = RC at *
      -- the first free one
      have HB3 : Hid (Below B W wz) := hide ((unhide HN3).mono hB)
      go_wp2_with (first | (go_at_call 25; refine (isNumber_any _ _).mono ?_; rintro e w' ⟨rfl, hw⟩; replace hw := hw.symm; subst hw; rw [hnv]) | fail)
      refine (freeCluster_impl (some ⟨b3, o3, none⟩) a.rc m.refs _ (unhide HRR).M.L.r (by rw [← unhide E3]; exact ((unhide HH3).o.shows (unhide HRR).M.zs).r)).mono ?_
      rintro e w4 ⟨rfl, hb4⟩
      have HN4 := hide (fr (unhide HN3) hb4)
      have HH4 := hide ((unhide HH3).below hb4)
      have HX4 := hide ((unhide HX3).below hb4)
      have HS4 := hide (Nat.le_trans (unhide HS3) hb4.size)
      have HB4 : Hid (Below B W w4) := hide ((unhide HN4).mono hB)
      clear hb4 c0 c1 c2 c3 hy' hx3 hn1
      by_cases hfr : frN m.refs < m.refs.length
      · obtain ⟨f1, f2⟩ := frC_here (unhide HRR).refs hfr rfl
        have hc25 : frN m.refs < 24 := by rw [(unhide HRR).rl] at hfr; exact hfr
        have HE2 : Hid (C = 0 ∧ M1 = { m with table := m.table.set q (2 + (frN m.refs : Int)), data := m.data.set (frN m.refs) v }) := hide (by rw [(unhide HE).1, (unhide HE).2, wcS, if_neg (unhide HNO), if_pos hfr]; exact ⟨rfl, rfl⟩)
        rw [f1, f2]
        clear f1 f2 hfr
        generalize frN m.refs = c at *
        obtain ⟨c0, c1, c2, c3⟩ := (unhide HH4).v.cells
        have x4 : w4.cell? ⟨x, 0, none⟩ = some (.int .i64 (q : Int)) := unhide HX4
        obtain ⟨gt, et, ht1, hf1, hst⟩ := (unhide HH4).setT (unhide HS4) hq
        have HS := hide (hst (2 + (c : Int)))
        have hwc : IntKind.i64.wrap (2 + (c : Int)) = 2 + (c : Int) := by rw [IntKind.wrap_i64]; omega
        rw [et] at c1
        clear et hst
        go_upto_region 8 with fail
        go_region
        have HH5 := hide ((unhide HS).1.below (Below.refl _ _).drew)
        have HB5 : Hid (Below B W (w4.setCell ⟨gt, q, none⟩ (.int .i64 (2 + (c : Int)))).drew) := hide ((unhide HB4).trans (unhide HS).2).drew
        have HX5 := hide ((unhide HXV).belowB hxB (unhide HB5))
        have HY5 := hide ((unhide HYV).belowB hyB (unhide HB5))
        clear c0 c1 c2 c3 x4 ht1 hf1 HS HH4 HX4 HS4 HB4
        revert HH5 HB5 HX5 HY5
        generalize (World.drew _) = W5
        intro HH5 HB5 HX5 HY5
        obtain ⟨c0, c1, c2, c3⟩ := (unhide HH5).v.cells
        have y5 : W5.cell? ⟨y, 0, none⟩ = some (.int .i64 v) := unhide HY5
        obtain ⟨gd, ed, hd1, hf2, hsd⟩ := (unhide HH5).setD (c := c) (Nat.le_trans hB (unhide HB5).size) (by show c < m.data.length; rw [(unhide HRR).len]; exact hc25)
        have HS2 := hide (hsd v)
        rw [ed] at c3
        have hcdi : (c : Int) < (m.data.length : Int) := by rw [(unhide HRR).len]; omega
        clear ed hsd
        go_wp2
        go_region
        go_wp2
        go_ret
        rw [(unhide HE2).1, (unhide HE2).2]
        exact ⟨rfl, _, _, (unhide HS2).1.below (Below.refl _ _).drew, ((unhide HB5).trans (unhide HS2).2).drew⟩
      · obtain ⟨f1, f2⟩ := frC_none (unhide HRR).refs hfr
        have HE2 : Hid (C = 7 ∧ M1 = m) := hide (by rw [(unhide HE).1, (unhide HE).2, wcS, if_neg (unhide HNO), if_neg hfr]; exact ⟨rfl, rfl⟩)
        rw [f1, f2]
        clear f1 f2 hfr
        go_wp2
        go_ret
        rw [(unhide HE2).1, (unhide HE2).2]
        exact Chg.same 7 (unhide HH) hB (unhide HN4)

set_option maxHeartbeats 1600000 in
theorem writeCluster_impl (a : Im4) (m : Img) (g : Int) (v : Int) (w : World) (hL : ImL m) (hc : ImS w a m) :
    Calls Try.prog 7 #[imV a m, .int .i64 g, .int .i64 v] w fun e w' => AnsI w w' e (wcA m g v) := by
  have hmf : ∀ (fn : Fn) (first cap : Array Value) (w : World), (Instr.makeFunc fn first cap).run Try.prog w = .ok (.func fn first cap) w := fun _ _ _ _ => rfl
  have HE : Hid (FcE w ((((w.alloc (.cells #[.slice a.ro m.refs.length a.rc, .slice a.tq m.table.length a.tc, .slice a.so m.snaps.length a.sc, .slice a.dq m.data.length a.dc] 26)).alloc (.cells #[.int .i64 g] 3)).alloc (.cells #[.int .i64 v] 3)).alloc (.cells #[.slice none 0 0, .slice none 0 0, .slice none 0 0, .slice none 0 0] 26)) (w.heap.size + 1 + 1 + 1) a m) := hide (by
    refine ⟨?_, ?_, hc.below (fr (fr (fr (Joins.below_alloc1 w _) (Joins.below_alloc1 _ _)) (Joins.below_alloc1 _ _)) (Joins.below_alloc1 _ _)), fr (fr (fr (Joins.below_alloc1 w _) (Joins.below_alloc1 _ _)) (Joins.below_alloc1 _ _)) (Joins.below_alloc1 _ _), by omega, by simp⟩
    · exact (((VarM.new w 26 (.slice a.ro m.refs.length a.rc) (.slice a.tq m.table.length a.tc) (.slice a.so m.snaps.length a.sc) (.slice a.dq m.data.length a.dc)).below (Joins.below_alloc1 _ _)).below (Joins.below_alloc1 _ _)).below (Joins.below_alloc1 _ _)
    · have h := VarM.new (((w.alloc (.cells #[.slice a.ro m.refs.length a.rc, .slice a.tq m.table.length a.tc, .slice a.so m.snaps.length a.sc, .slice a.dq m.data.length a.dc] 26)).alloc (.cells #[.int .i64 g] 3)).alloc (.cells #[.int .i64 v] 3)) 26 (.slice none 0 0) (.slice none 0 0) (.slice none 0 0) (.slice none 0 0)
      simp only [World.size_alloc] at h
      exact h)
  have HX0 : Hid (VarN1 ((((w.alloc (.cells #[.slice a.ro m.refs.length a.rc, .slice a.tq m.table.length a.tc, .slice a.so m.snaps.length a.sc, .slice a.dq m.data.length a.dc] 26)).alloc (.cells #[.int .i64 g] 3)).alloc (.cells #[.int .i64 v] 3)).alloc (.cells #[.slice none 0 0, .slice none 0 0, .slice none 0 0, .slice none 0 0] 26)) (w.heap.size + 1) g) := hide (by
    have h : VarN1 ((((w.alloc (.cells #[.slice a.ro m.refs.length a.rc, .slice a.tq m.table.length a.tc, .slice a.so m.snaps.length a.sc, .slice a.dq m.data.length a.dc] 26)).alloc (.cells #[.int .i64 g] 3)).alloc (.cells #[.int .i64 v] 3)).alloc (.cells #[.slice none 0 0, .slice none 0 0, .slice none 0 0, .slice none 0 0] 26)) (w.alloc (.cells #[.slice a.ro m.refs.length a.rc, .slice a.tq m.table.length a.tc, .slice a.so m.snaps.length a.sc, .slice a.dq m.data.length a.dc] 26)).heap.size g := ((VarN1.new (w.alloc (.cells #[.slice a.ro m.refs.length a.rc, .slice a.tq m.table.length a.tc, .slice a.so m.snaps.length a.sc, .slice a.dq m.data.length a.dc] 26)) g).below (Joins.below_alloc1 _ _)).below (Joins.below_alloc1 _ _)
    simp only [World.size_alloc] at h
    exact h)
  have HX1 : Hid (VarN1 ((((w.alloc (.cells #[.slice a.ro m.refs.length a.rc, .slice a.tq m.table.length a.tc, .slice a.so m.snaps.length a.sc, .slice a.dq m.data.length a.dc] 26)).alloc (.cells #[.int .i64 g] 3)).alloc (.cells #[.int .i64 v] 3)).alloc (.cells #[.slice none 0 0, .slice none 0 0, .slice none 0 0, .slice none 0 0] 26)) (w.heap.size + 1 + 1) v) := hide (by
    have h : VarN1 ((((w.alloc (.cells #[.slice a.ro m.refs.length a.rc, .slice a.tq m.table.length a.tc, .slice a.so m.snaps.length a.sc, .slice a.dq m.data.length a.dc] 26)).alloc (.cells #[.int .i64 g] 3)).alloc (.cells #[.int .i64 v] 3)).alloc (.cells #[.slice none 0 0, .slice none 0 0, .slice none 0 0, .slice none 0 0] 26)) ((w.alloc (.cells #[.slice a.ro m.refs.length a.rc, .slice a.tq m.table.length a.tc, .slice a.so m.snaps.length a.sc, .slice a.dq m.data.length a.dc] 26)).alloc (.cells #[.int .i64 g] 3)).heap.size v := (VarN1.new ((w.alloc (.cells #[.slice a.ro m.refs.length a.rc, .slice a.tq m.table.length a.tc, .slice a.so m.snaps.length a.sc, .slice a.dq m.data.length a.dc] 26)).alloc (.cells #[.int .i64 g] 3)) v).below (Joins.below_alloc1 _ _)
    simp only [World.size_alloc] at h
    exact h)
  have HL := hide hL
  obtain ⟨R, HR⟩ : ∃ R, Hid (R = wcA m g v) := ⟨_, rfl⟩
  rw [← unhide HR]
  clear hc hL
  go_enter Try.func7, Try.ntmps7
  go_upto_region 1 with fail
  revert HE HX0 HX1
  generalize ((((w.alloc _).alloc _).alloc _).alloc _) = W0
  intro HE HX0 HX1
  obtain ⟨c0, c1, c2, c3⟩ := (unhide HE).v.cells
  go_wp2_with fail
  refine (changeImage_any a m 23 #[.pointer (some ⟨w.heap.size + 1, 0, none⟩), .pointer (some ⟨w.heap.size + 1 + 1, 0, none⟩)] (wc1 m g v) (wcC m g v) _ (unhide HL) (unhide HE).s (fun _ _ => rfl) (fun him => ⟨wc_fit g v (imB_iff.1 him), fun W p B a1 ts1 h1 h2 h3 h4 _ => ?_⟩)).mono ?_
  · exact writeC_any m g v _ _ W p B a1 ts1 (imB_iff.1 him) ((unhide HX0).below h1) (Nat.lt_of_lt_of_le (World.block_lt_of_cell? _ _ (unhide HX0)) h2) ((unhide HX1).below h1) (Nat.lt_of_lt_of_le (World.block_lt_of_cell? _ _ (unhide HX1)) h2) h3 h4
  · intro e w2 hans
    rw [wc_ans, ← unhide HR] at hans
    obtain ⟨b, ts, rfl, ho, hb⟩ := hans
    have HP := hide ((unhide HE).put hb ho)
    have HE2 := hide ((unhide HE).below hb)
    clear ho hb c0 c1 c2 c3
    obtain ⟨r0, r1, r2, r3⟩ := (unhide HE2).r.cells
    obtain ⟨z0, z1, z2, z3⟩ := (unhide HE2).r.free
    go_wp2
    refine bodyPost_ret (res_ic Try.results7 rfl rfl (unhide HP).1) rfl ?_
    exact AnsI.of rfl rfl (unhide HP).2.1 (unhide HP).2.2

end Go.Proofs.Ythnpooffhopnkac
