/- Contracts of the laws' comparisons of disks that show the same (sameTexts, sameDisk). -/
import Derived.Test.YtoiclgeeaednnaaRows
import Derived.Test.YtoiclgeeaednnaaGen
import Derived.WalkKit
import Derived.WalkSpells
import Derived.BigQuiet
import Derived.Deep.QuietTactic
import Derived.Laws.StructEq
import Derived.KernelRfl
namespace Go.Proofs.Ytoiclgeeaednnaa
open Go.RowKit
set_option linter.unusedVariables false
set_option maxRecDepth 100000

set_option maxHeartbeats 800000 in
theorem sameTexts_same (ao bo : Option Addr) (ca cb : Nat) (ss : List ByteArray) (w : World) (hl : ss.length ≤ maxLen) (hc : Ss w ao ss) (hd : Ss w bo ss) :
    Calls Try.prog 42 #[.slice ao ss.length ca, .slice bo ss.length cb] w fun e w' => e = .returned (.bool true) ∧ Below w.heap.size w w' := by
  have HC := hide hc
  have HD := hide hd
  clear hc hd
  unfold maxLen at hl
  have hb : ((ss.length : Int) != (ss.length : Int)) = false := by simp
  go_enter Try.func42, Try.ntmps42
  go_wp2
  go_loopw [5] (fun i wr => ∃ k : Nat, k ≤ ss.length ∧ i = .int .i64 k ∧ Hid (Below w.heap.size w wr)) (fun i _ => ss.length - (intOf i).toNat)
  case atStart => exact ⟨0, Nat.zero_le _, rfl, hide (Below.refl _ _)⟩
  case round =>
    obtain ⟨k, hk, rfl, HB⟩ := hrel
    by_cases hlt : k < ss.length
    · obtain ⟨b, off, rfl, hc, hz⟩ := (unhide HC).below (unhide HB) k hlt
      obtain ⟨b', off', rfl, hc', hz'⟩ := (unhide HD).below (unhide HB) k hlt
      clear hz hz'
      have be : (ss[k].toList == ss[k].toList) = true := by simp
      go_wp2
      go_quiet (fail)
      go_wp2
      go_roundw
      case rel => exact ⟨k + 1, by omega, by go_num, hide ((unhide HB).trans (Joins.below_draws _ _ _))⟩
      case measure => simp [intOf]; omega
    · go_wp2
      go_ret
      exact ⟨rfl, unhide HB⟩

theorem eqIo_same (a b : Int) (s : ByteArray) (w : World) : (Op.equalIn 10000 59 (.agg #[.int .i64 a, .int .i64 b, .string s]) (.agg #[.int .i64 a, .int .i64 b, .string s])).run Try.prog w = .ok true w := by
  have u3 := Try.underlying3
  have u9 := Try.underlying9
  have a3 := Try.isAgg3
  have a9 := Try.isAgg9
  have z3 := Try.sizeOf3
  have z9 := Try.sizeOf9
  have hS : Try.prog.underlying 59 = some (.struct (Try.prog.fieldsOf 59)) := by kernel_rfl
  rw [show (10000 : Nat) = 9999 + 1 from rfl, run_equalIn_agg w 9999 59 _ _ hS (by kernel_rfl)]
  simp only [Program.fieldsOf, Try.underlying59]
  go_simp

set_option maxHeartbeats 1600000 in
theorem sameDisk_same (ao bo co eo : Option Addr) (ca cb cc ce : Nat) (ss : List ByteArray) (xs : List Wr) (w : World) (hl : ss.length ≤ maxLen) (hm : xs.length ≤ maxLen) (h1 : Ss w ao ss) (h2 : Ios w bo xs) (h3 : Ss w co ss) (h4 : Ios w eo xs) :
    Calls Try.prog 16 #[.agg #[.slice ao ss.length ca, .slice bo xs.length cb], .agg #[.slice co ss.length cc, .slice eo xs.length ce]] w fun e w' => e = .returned (.bool true) ∧ Below w.heap.size w w' := by
  have HA := hide (Joins.below_alloc2 w (.cells #[.slice ao ss.length ca, .slice bo xs.length cb] 26) (.cells #[.slice co ss.length cc, .slice eo xs.length ce] 26))
  have H1 := hide (h1.below (unhide HA))
  have H2 := hide (h2.below (unhide HA))
  have H3 := hide (h3.below (unhide HA))
  have H4 := hide (h4.below (unhide HA))
  have HV1 : Hid (((w.alloc (.cells #[.slice ao ss.length ca, .slice bo xs.length cb] 26)).alloc (.cells #[.slice co ss.length cc, .slice eo xs.length ce] 26)).heap[w.heap.size]? = some (.cells #[.slice ao ss.length ca, .slice bo xs.length cb] 26 (0, 0))) := hide (by rw [(Joins.below_alloc1 (w.alloc (.cells #[.slice ao ss.length ca, .slice bo xs.length cb] 26)) _).block _ (by simp)]; exact heap_alloc_new w _)
  have HV2 : Hid (((w.alloc (.cells #[.slice ao ss.length ca, .slice bo xs.length cb] 26)).alloc (.cells #[.slice co ss.length cc, .slice eo xs.length ce] 26)).heap[w.heap.size + 1]? = some (.cells #[.slice co ss.length cc, .slice eo xs.length ce] 26 (0, 0))) := hide (by have := heap_alloc_new (w.alloc (.cells #[.slice ao ss.length ca, .slice bo xs.length cb] 26)) (.cells #[.slice co ss.length cc, .slice eo xs.length ce] 26); simp only [World.size_alloc] at this; exact this)
  clear h1 h2 h3 h4
  have hb : ((xs.length : Int) != (xs.length : Int)) = false := by simp
  have heq := eqIo_same
  have HL := hide hl
  unfold maxLen at hm
  clear hl
  go_enter Try.func16, Try.ntmps16
  go_wp2_with fail
  revert HA H1 H2 H3 H4 HV1 HV2
  generalize (w.alloc (.cells #[.slice ao ss.length ca, .slice bo xs.length cb] 26)).alloc (.cells #[.slice co ss.length cc, .slice eo xs.length ce] 26) = W0
  intro HA H1 H2 H3 H4 HV1 HV2
  refine (sameTexts_same ao co ca cc ss _ (unhide HL) (unhide H1) (unhide H3)).mono ?_
  rintro e w1 ⟨rfl, hb1⟩
  have HB1 := hide (fr (unhide HA) hb1)
  have P2 := hide ((unhide H2).below hb1)
  have P4 := hide ((unhide H4).below hb1)
  have V1 : Hid (w1.heap[w.heap.size]? = some (.cells #[.slice ao ss.length ca, .slice bo xs.length cb] 26 (0, 0))) := hide (by rw [hb1.block _ (Array.getElem?_eq_some_iff.1 (unhide HV1)).1]; exact unhide HV1)
  have V2 : Hid (w1.heap[w.heap.size + 1]? = some (.cells #[.slice co ss.length cc, .slice eo xs.length ce] 26 (0, 0))) := hide (by rw [hb1.block _ (Array.getElem?_eq_some_iff.1 (unhide HV2)).1]; exact unhide HV2)
  clear HA H1 H2 H3 H4 HV1 HV2 hb1 HL
  have q1 := Joins.cell_of_block (unhide V1) 1
  have q2 := Joins.cell_of_block (unhide V2) 1
  simp at q1 q2
  go_wp2
  go_loopw [5] (fun i wr => ∃ k : Nat, k ≤ xs.length ∧ i = .int .i64 k ∧ Hid (Below w1.heap.size w1 wr)) (fun i _ => xs.length - (intOf i).toNat)
  case atStart => exact ⟨0, Nat.zero_le _, rfl, hide (Below.refl _ _)⟩
  case round =>
    obtain ⟨k, hk, rfl, HB⟩ := hrel
    have r1 := ((unhide HB).cell (p := ⟨w.heap.size, 1, none⟩) (World.block_lt_of_cell? _ _ q1)).trans q1
    have r2 := ((unhide HB).cell (p := ⟨w.heap.size + 1, 1, none⟩) (World.block_lt_of_cell? _ _ q2)).trans q2
    by_cases hlt : k < xs.length
    · obtain ⟨b, off, rfl, c0, c1, c2, hz⟩ := (unhide P2).below (unhide HB) k hlt
      obtain ⟨b', off', rfl, d0, d1, d2, hz'⟩ := (unhide P4).below (unhide HB) k hlt
      clear hz hz'
      go_wp2
      go_quiet (fail)
      go_wp2
      go_roundw
      case rel => exact ⟨k + 1, by omega, by go_num, hide ((unhide HB).trans (Joins.below_draws _ _ _))⟩
      case measure => simp [intOf]; omega
    · go_wp2
      go_ret
      exact ⟨rfl, fr (unhide HB1) (unhide HB)⟩

end Go.Proofs.Ytoiclgeeaednnaa
