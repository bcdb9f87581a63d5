import Derived.Test.YtmkegkpnomcnhaaRows
import Derived.Test.YtmkegkpnomcnhaaPart1
import Derived.Test.YtmkegkpnomcnhaaPart5
import Derived.Test.YtmkegkpnomcnhaaPart14
import Derived.WalkKit
import Derived.WalkSpells
import Derived.KernelRfl
import Derived.LoopN
import Derived.Lib.ConvBytes

/- Contracts of the program's packLetters, PackName. -/
namespace Go.Proofs.Ytmkegkpnomcnhaa
open Go.RowKit
set_option linter.unusedVariables false
set_option maxRecDepth 100000

theorem nm1_at {t : ByteArray} (h : t.data.toList.all nm1 = true) {k : Nat} (hk : k < t.size) : nm1 t[k] = true := by
  have e : t.data.toList[k]'(by simpa using hk) = t[k] := by have := snm_get hk; rw [List.getElem?_eq_getElem (by simpa using hk)] at this; exact Option.some.inj this
  rw [← e]
  exact List.all_eq_true.1 h _ (List.getElem_mem _)

set_option maxHeartbeats 1600000 in
theorem packLetters_any (t : ByteArray) (w : World) (hn : snmB t = true) :
    Calls Try.prog 40 #[.string t] w fun e w' => e = .returned (.int .i64 (nmN t)) ∧ Below w.heap.size w w' := by
  obtain ⟨hal, h1, h6⟩ := snm_parts hn
  have HAL := hide hal
  clear hn hal
  have hcv := fun (W : World) => Lib.run_convert_string_bytes (P := Try.prog) W 9 22 5 t Try.underlying9 Try.underlying22 Try.underlying5
  have HB := hide (below_bytes w 5 t)
  have HCL := hide (Lib.bytesWorld_cell w 5 t)
  go_enter Try.func40, Try.ntmps40
  go_wp2
  revert HB HCL
  generalize Lib.bytesWorld w 5 t = w1
  generalize grownCap w t.size 0 5 = gc
  intro HB HCL
  clear hcv
  go_loop [3, 9] (fun n i => ∃ k : Nat, k ≤ t.size ∧ i = .int .i64 k ∧ n = .int .i64 (nmK t k)) (fun _ i => t.size - (intOf i).toNat)
  case atStart => exact ⟨0, Nat.zero_le _, rfl, rfl⟩
  case round =>
    obtain ⟨k, hk, rfl, rfl⟩ := hrel
    by_cases hlt : k < t.size
    · have hlti : (k : Int) < (t.size : Int) := by omega
      have hck := unhide HCL k hlt
      have eck : (t.data.toList.getD k 0) = t[k] := by simp [List.getD, snm_get hlt]
      rw [eck] at hck
      clear eck
      have hnm := nm1_at (unhide HAL) hlt
      simp only [nm1, Bool.and_eq_true, decide_eq_true_eq] at hnm
      have HS : Hid (nmK t (k + 1) = nmK t k * 27 + ((t[k].toNat : Int) - 96)) := hide (by
        rw [nmK_succ hlt]
        have e : t.data.toList[k]'(by simpa using hlt) = t[k] := by have := snm_get hlt; rw [List.getElem?_eq_getElem (by simpa using hlt)] at this; exact Option.some.inj this
        rw [e]
        unfold ch1
        omega)
      obtain ⟨b0, b1⟩ := nmK_le t k hk
      obtain ⟨d0, d1⟩ := bd27_le k (by omega)
      obtain ⟨c0, c1⟩ := hnm
      have hu : IntKind.u8.wrap ((t[k].toNat : Int) - 96) = ((t[k].toNat : Int) - 96) := by simp [IntKind.wrap, IntKind.bits, IntKind.signed]; omega
      generalize nmK t k = X at *
      generalize hD : ((t[k].toNat : Int) - 96) = D at *
      have w1 : IntKind.i64.wrap (X * 27) = X * 27 := by rw [IntKind.wrap_i64]; omega
      have w2 : IntKind.i64.wrap D = D := by rw [IntKind.wrap_i64]; omega
      have w3 : IntKind.i64.wrap (X * 27 + D) = X * 27 + D := by rw [IntKind.wrap_i64]; omega
      have HD := hide hD
      rw [← hD] at hu w2 w3
      go_wp2
      go_round
      case rel => exact ⟨k + 1, by omega, by go_num, by rw [unhide HS]⟩
      case measure => simp [intOf]; omega
    · obtain rfl : k = t.size := by omega
      have HF := hide (nmK_all t)
      go_wp2
      go_ret
      exact ⟨ret_int (unhide HF), unhide HB⟩

set_option maxHeartbeats 800000 in
theorem packName_impl (t : ByteArray) (w : World) (hz : t.size ≤ maxLen) :
    Calls Try.prog 16 #[.string t] w fun e w' => e = .returned (.tuple #[.int .i64 (pnN t), .int .i64 (pnF t)]) ∧ Below w.heap.size w w' := by
  have HZ := hide hz
  unfold maxLen at hz
  by_cases hl : 65536 < t.size
  · have HF : Hid (pnF t = 2 ∧ pnN t = 0) := hide (by have e : pnF t = 2 := if_pos hl; exact ⟨e, by rw [pnN, e]; rfl⟩)
    go_enter Try.func16, Try.ntmps16
    go_wp2
    go_ret2
    rw [(unhide HF).1, (unhide HF).2]
    exact ⟨rfl, Below.refl _ _⟩
  go_enter Try.func16, Try.ntmps16
  go_wp2_with fail
  refine (snapNameOK_any t _ (unhide HZ)).mono ?_
  rintro e w1 ⟨rfl, hb1⟩
  have HB1 := hide hb1
  clear hb1
  cases hn : snmB t
  · have HF : Hid (pnF t = 12 ∧ pnN t = 0) := hide (by have e : pnF t = 12 := by rw [pnF, if_neg hl, hn]; rfl
                                                       exact ⟨e, by rw [pnN, e]; rfl⟩)
    go_wp2
    go_ret2
    rw [(unhide HF).1, (unhide HF).2]
    exact ⟨rfl, unhide HB1⟩
  · have HF : Hid (pnF t = 0 ∧ pnN t = nmN t) := hide (by have e : pnF t = 0 := by rw [pnF, if_neg hl, hn]; rfl
                                                          exact ⟨e, by rw [pnN, e]; rfl⟩)
    have HT := hide hn
    clear hn
    go_wp2_with fail
    refine (packLetters_any t _ (unhide HT)).mono ?_
    rintro e w2 ⟨rfl, hb2⟩
    have HB2 := hide (fr (unhide HB1) hb2)
    clear hb2
    go_wp2
    go_ret2
    rw [(unhide HF).1, (unhide HF).2]
    exact ⟨rfl, unhide HB2⟩

end Go.Proofs.Ytmkegkpnomcnhaa

/- The walk of laws.FnExactPackName. -/
namespace Go.Proofs.Ytmkegkpnomcnhaa
open Go.RowKit
set_option linter.unusedVariables false
set_option maxRecDepth 100000

theorem wkPackName (s : ByteArray) (w : World) (hs : s.size ≤ maxLen) :
    Calls Try.prog 5 #[.string s] w fun e w' => e = .returned (.bool true) ∧ Below w.heap.size w w' := lawPackName s w hs (fun W => packName_impl s W hs)

end Go.Proofs.Ytmkegkpnomcnhaa
