import Derived.Test.YthnpooffhopnkacGreatDoorRows
import Derived.Test.YthnpooffhopnkacGreatDoorPart1
import Derived.Test.YthnpooffhopnkacGreatDoorPart2
import Derived.Test.YthnpooffhopnkacGreatDoorPart3
import Derived.Test.YthnpooffhopnkacGreatDoorPart29
import Derived.Test.YthnpooffhopnkacGreatDoorPart9
import Derived.WalkKit
import Derived.WalkSpells
import Derived.Laws.BytesArg
import Derived.Deep.RegionWith
import Derived.Test.YthnpooffhopnkacGreatDoorPart7
import Derived.Test.YthnpooffhopnkacGreatDoorPart10
import Derived.Test.YthnpooffhopnkacGreatDoorPart28
import Derived.KernelRfl
import Derived.LoopN
import Derived.BigQuiet
import Derived.Deep.QuietTactic
import Derived.Deep.CutRange
import Derived.Laws.ResultCell
import Derived.Deep.MidRow
import Derived.Laws.MakeOwn
import Derived.Laws.OwnMore
import Derived.Shelf.SlIterI.Nil
import Derived.Shelf.SortM.Plain
import Derived.Shelf.SortM.SortNone
import Derived.Maps.Own
import Derived.Maps.OwnOps
import Derived.Maps.OwnSet
import Derived.Maps.Views
import Derived.Test.YthnpooffhopnkacGreatDoorPart25
import Derived.Test.YthnpooffhopnkacGreatDoorPart26
import Derived.Test.YthnpooffhopnkacGreatDoorPart13
import Derived.Test.YthnpooffhopnkacGreatDoorPart22
import Derived.Lib.ConvBytes

/- Contracts of SealRecord, of the program and of its model. -/
namespace Go.Proofs.YthnpooffhopnkacGreatDoor
open Go.RowKit
set_option linter.unusedVariables false
set_option maxRecDepth 100000

/-- 'string(head[:2])', 'string(head[:])', head an array of four bytes. -/
theorem arr2 (W : World) (g : Nat) (a b c d : Int) (h : W.heap.size = g) : (convert 22 9 (.slice (some ⟨g, 0, none⟩) 2 4)).run Tryz.prog (W.alloc (.cells #[.int .u8 a, .int .u8 b, .int .u8 c, .int .u8 d] 152)) = .ok (.string (strOfNums [a, b])) (W.alloc (.cells #[.int .u8 a, .int .u8 b, .int .u8 c, .int .u8 d] 152)) := by
  subst h
  refine run_convert_bytes_arg _ 22 5 Tryz.underlying22 Tryz.underlying5 W.heap.size 0 2 4 [a, b] rfl ?_ 9 Tryz.underlying9
  intro i hi
  rcases (show i = 0 ∨ i = 1 by omega) with rfl | rfl <;> simp [go_sem, List.getD]
theorem arr4 (W : World) (g : Nat) (a b c d : Int) (h : W.heap.size = g) : (convert 22 9 (.slice (some ⟨g, 0, none⟩) 4 4)).run Tryz.prog (W.alloc (.cells #[.int .u8 a, .int .u8 b, .int .u8 c, .int .u8 d] 152)) = .ok (.string (strOfNums [a, b, c, d])) (W.alloc (.cells #[.int .u8 a, .int .u8 b, .int .u8 c, .int .u8 d] 152)) := by
  subst h
  refine run_convert_bytes_arg _ 22 5 Tryz.underlying22 Tryz.underlying5 W.heap.size 0 4 4 [a, b, c, d] rfl ?_ 9 Tryz.underlying9
  intro i hi
  rcases (show i = 0 ∨ i = 1 ∨ i = 2 ∨ i = 3 by omega) with rfl | rfl | rfl | rfl <;> simp [go_sem, List.getD]
theorem sum_impl (k : Int) (xs : List Int) (w : World) (hl : xs.length ≤ 16) : Calls Tryz.prog 134 #[.string (strOfNums [k, (xs.length : Int)] ++ packS xs)] w fun e w' => e = .returned (.int .i64 (sumR k xs)) ∧ w' = w := by
  have h := sumOf_impl (sumT k xs) w (by rw [sumT_size]; omega)
  rw [sumC_short (by rw [sumT_size]; omega)] at h
  exact h

set_option maxHeartbeats 1600000 in
theorem sealRecord_impl (k : Int) (ao : Option Addr) (cap : Nat) (xs : List Int) (w : World) (hl : xs.length ≤ 1048576) (hc : Is w ao xs) :
    Calls Tryz.prog 108 #[.int .i64 k, .slice ao xs.length cap] w fun e w' => e = .returned (.tuple #[.string (sealT k xs), .int .i64 (sealC k xs)]) ∧ Below w.heap.size w w' := by
  have HC := hide hc
  clear hc
  by_cases h2 : listC xs = 0
  · have HL := hide h2
    have hb : (listC xs != 0) = false := by simp [h2]
    have HP := hide (intsB_parts (listC_zero h2))
    clear h2
    by_cases h3 : kindB k = true
    · have HF := hide (sealC_ok (unhide HL) h3)
      obtain ⟨hk0, hk1⟩ := kindB_in h3
      have hl16 := (unhide HP).2
      have hp := packS_size xs
      have hs2 : (strOfNums [k, (xs.length : Int)]).size = 2 := strOfNums_size _
      have hs4 : (strOfNums [k, (xs.length : Int), sumR k xs, 0]).size = 4 := strOfNums_size _
      obtain ⟨hr0, hr1⟩ := sumR_in k xs
      go_enter Tryz.func108, Tryz.ntmps108
      go_wp2_with (first | (go_at_call 131; refine (listFault_any _ _ xs _ hl (unhide HC)).mono ?_; rintro e w' ⟨rfl, rfl⟩) | (go_at_call 132; refine (kindOK_any _ _).mono ?_; rintro e w' ⟨rfl, rfl⟩) | (go_at_call 133; refine (packNumbers_any _ _ xs _ (unhide HP).2 (unhide HP).1 (unhide HC)).mono ?_; rintro e w1 ⟨rfl, hb1⟩; have HB1 := hide hb1; clear hb1; have hc2 := arr2 w1 w1.heap.size k xs.length 0 0 rfl) | (go_at_call 134; refine (sum_impl k xs _ hl16).mono ?_; rintro e w' ⟨rfl, rfl⟩; have hc4 := arr4 w1 w1.heap.size k xs.length (sumR k xs) 0 rfl))
      go_ret2
      exact ⟨ret_si (sealT_ok (unhide HF)).symm (unhide HF).symm, fr (unhide HB1) (Joins.below_alloc1 _ _)⟩
    · have h4 : kindB k = false := by simpa using h3
      have HF := hide (sealC_kind (unhide HL) h4)
      clear h3
      go_enter Tryz.func108, Tryz.ntmps108
      go_wp2_with (first | (go_at_call 131; refine (listFault_any _ _ xs _ hl (unhide HC)).mono ?_; rintro e w' ⟨rfl, rfl⟩) | (go_at_call 132; refine (kindOK_any _ _).mono ?_; rintro e w' ⟨rfl, rfl⟩))
      go_ret2
      exact ⟨ret_si (sealT_no (by rw [unhide HF]; decide)).symm (unhide HF).symm, Below.refl _ _⟩
  · have HF := hide (sealC_list (k := k) h2)
    have HNE := hide h2
    have hb : (listC xs != 0) = true := by simp [h2]
    clear h2
    go_enter Tryz.func108, Tryz.ntmps108
    go_wp2_with (go_at_call 131; refine (listFault_any _ _ xs _ hl (unhide HC)).mono ?_; rintro e w' ⟨rfl, rfl⟩)
    go_ret2
    exact ⟨ret_si (sealT_no (by rw [unhide HF]; exact unhide HNE)).symm (unhide HF).symm, Below.refl _ _⟩

end Go.Proofs.YthnpooffhopnkacGreatDoor

/- Contracts of the program's text of counts and of EncodeRefs. -/
namespace Go.Proofs.YthnpooffhopnkacGreatDoor
open Go.RowKit
set_option linter.unusedVariables false
set_option maxRecDepth 100000

theorem wrap_place {xs : List Int} (h : ctB xs = true) {k r : Nat} (hk : k < xs.length) (hr : r < 6) : IntKind.i64.wrap (xs[k] * 16 ^ r) = xs[k] * 16 ^ r := by
  obtain ⟨g0, g1⟩ := ctB_at h k hk
  have hp : (16 : Int) ^ r ≤ 1048576 := by
    match r, hr with
    | 0, _ => decide
    | 1, _ => decide
    | 2, _ => decide
    | 3, _ => decide
    | 4, _ => decide
    | 5, _ => decide
  have hp0 : 0 < (16 : Int) ^ r := Int.pow_pos (by omega)
  have a0 : 0 ≤ xs[k] * 16 ^ r := Int.mul_nonneg g0 (by omega)
  have a1 : xs[k] * 16 ^ r ≤ 15 * 16 ^ r := Int.mul_le_mul_of_nonneg_right g1 (by omega)
  generalize xs[k] * 16 ^ r = S at *
  generalize (16 : Int) ^ r = P at *
  rw [IntKind.wrap_i64]; omega
theorem wrap_place64 {xs : List Int} (h : ctB xs = true) {k r : Nat} (hk : k < xs.length) (hr : r < 6) : wrap64 (xs[k] * 16 ^ r) = xs[k] * 16 ^ r := by
  have := wrap_place h hk hr
  rw [IntKind.wrap_i64] at this
  generalize xs[k] * 16 ^ r = S at *
  simp only [wrap64]
  omega
theorem infoK4 : (Tryz.prog.info? 3).map (fun i => (i.zero, i.size, i.bytes)) = some (some (.int .i64 0), 1, 8) := by kernel_rfl
theorem mk4 (W : World) : (Instr.makeSlice 23 (.int .i64 4) (.int .i64 4)).run Tryz.prog W = .ok (.slice (some ⟨W.heap.size, 0, none⟩) 4 4) (W.alloc (.cells #[.int .i64 0, .int .i64 0, .int .i64 0, .int .i64 0] 3)) := by
  obtain ⟨i0, hi, hz0, hz1, hz2⟩ := info_parts infoK4
  have := run_make (P := Tryz.prog) W 23 3 i0 (.int .i64 0) Tryz.underlying23 hi hz0 .i64 .i64 4 4 (by omega) (by omega) (by rw [hz2]; decide) (by omega)
  rw [hz1] at this
  have e : madeCells (Value.int .i64 0).cells ((4 : Int).toNat * 1) = #[.int .i64 0, .int .i64 0, .int .i64 0, .int .i64 0] := by kernel_rfl
  rw [e] at this
  exact this

set_option maxHeartbeats 3200000 in
theorem numbersC_any (xs : List Int) (w : World) (hb : ctB xs = true) :
    Calls Tryz.prog 61 #[ctV xs] w fun e w' => ∃ g, e = .returned (.slice (some ⟨g, 0, none⟩) 4 4) ∧ w.heap.size ≤ g ∧ w'.heap[g]? = some (.cells (intV (ctNs xs)).toArray 3 (0, 0)) ∧ Below w.heap.size w w' := by
  have HCB := hide hb
  have HL := hide (ctB_len hb)
  have HN : Hid (VarC (w.alloc (.cells (intV xs).toArray 101)) w.heap.size xs) := hide (heap_alloc_new w _)
  have HA := hide (Joins.below_alloc1 w (.cells (intV xs).toArray 101))
  have hsz : (w.alloc (.cells (intV xs).toArray 101)).heap.size = w.heap.size + 1 := World.size_alloc _ _
  have HSZ := hide hsz
  have hmk := mk4
  clear hb hsz
  go_enter Tryz.func61, Tryz.ntmps61
  go_upto_region 1 with fail
  revert HN HA HSZ
  generalize (w.alloc _) = W1
  intro HN HA HSZ
  have HN4 : Hid ((W1.alloc (.cells #[.int .i64 0, .int .i64 0, .int .i64 0, .int .i64 0] 3)).heap[W1.heap.size]? = some (.cells (intV (txN xs 0)).toArray 3 (0, 0))) := hide (by rw [txN_zero]; exact heap_alloc_new W1 _)
  have HN1 := hide (block_of_below (unhide HN) (Joins.below_alloc1 W1 (.cells #[.int .i64 0, .int .i64 0, .int .i64 0, .int .i64 0] 3)))
  have HB1 := hide (fr (unhide HA) (Joins.below_alloc1 W1 (.cells #[.int .i64 0, .int .i64 0, .int .i64 0, .int .i64 0] 3)))
  have HSL : Hid (w.heap.size ≤ W1.heap.size) := hide (unhide HA).size
  clear HN HA
  go_upto_region 2 with fail
  revert HN4 HN1 HB1
  generalize (W1.alloc _) = W2
  intro HN4 HN1 HB1
  generalize W1.heap.size = G at *
  clear hmk
  go_wp2_with (refine wpList_load_arr rfl 101 _ rfl w.heap.size rfl (intV xs).toArray _ _ (unhide HN1) und24 rfl (sizeA (unhide HL)) ?_)
  clear HN1
  go_loopw [8] (fun i wr => ∃ k : Nat, k ≤ 24 ∧ i = .int .i64 k ∧ Hid (wr.heap[G]? = some (.cells (intV (txN xs k)).toArray 3 (0, 0))) ∧ Hid (Below w.heap.size w wr)) (fun i _ => 24 - (intOf i).toNat)
  case atStart => exact ⟨0, by omega, rfl, HN4, HB1⟩
  case round =>
    clear HN4 HB1
    obtain ⟨k, hk, rfl, HN, HB⟩ := hrel
    by_cases hlt : k < 24
    · have hkx : k < xs.length := by rw [unhide HL]; exact hlt
      have hix := fun W => idx24 W xs k (unhide HL) hkx
      have HG : Hid (xs.getD k 0 = xs[k]) := hide (by simp [List.getD, hkx])
      have hki : (k : Int) < 24 := by omega
      have HST := hide (txN_step xs k hlt)
      have HAT := hide (txN_at xs k hlt (by rw [txN_len]; omega))
      have HOR := hide (or_place (unhide HCB) (6 * (k / 6)) k (k % 6) (by omega))
      have hq4 : k / 6 < (txN xs k).length := by rw [txN_len]; omega
      have hcell := arr_cell (unhide HN) hq4
      rw [unhide HAT] at hcell
      rw [unhide HG] at HOR HST
      have hfz := Joins.unfrozen_of_block (unhide HN) (k / 6)
      have hd6 : (k : Int) / 6 = ((k / 6 : Nat) : Int) := by omega
      have hr6 : (k : Int) % 6 = ((k % 6 : Nat) : Int) := by omega
      have hd4 : k / 6 < 4 := by omega
      have hr4 : k % 6 < 6 := by omega
      clear hq4 HAT
      generalize k / 6 = q at *
      generalize k % 6 = r at *
      have hq0 : (0 : Int) ≤ (q : Int) := by omega
      have hq3 : (q : Int) < 4 := by omega
      have hm4 : IntKind.i64.wrap ((r : Int) * 4) = (r : Int) * 4 := by rw [IntKind.wrap_i64]; omega
      have HV : Hid (bits .or .i64 (lo6 xs (6 * q) r) (wrap64 (xs[k] * 2 ^ (r * 4))) = lo6 xs (6 * q) r + xs[k] * 16 ^ r) := hide (by rw [← pow_two, wrap_place64 (unhide HCB) hkx hr4]; exact unhide HOR)
      have HST2 := hide (arr_set (unhide HN) q (bits .or .i64 (lo6 xs (6 * q) r) (wrap64 (xs[k] * 2 ^ (r * 4)))))
      have HNX : Hid (intV ((txN xs k).set q (bits .or .i64 (lo6 xs (6 * q) r) (wrap64 (xs[k] * 2 ^ (r * 4))))) = intV (txN xs (k + 1))) := hide (by rw [unhide HV, unhide HST])
      rw [unhide HNX] at HST2
      clear HOR HG HNX HST HV
      generalize lo6 xs (6 * q) r = L at *
      have HB2 := hide ((unhide HB).setCell (p := ⟨G, q, none⟩) (unhide HSL) (.int .i64 (bits .or .i64 L (wrap64 (xs[k] * 2 ^ (r * 4))))))
      go_wp2
      go_region
      all_goals
        go_wp2
        go_roundw
        case rel => exact ⟨k + 1, by omega, by go_num, hide (by exact unhide HST2), hide (by exact (unhide HB2).drew)⟩
        case measure => simp [intOf]; omega
    · have HK : Hid (txN xs k = ctNs xs) := hide (by rw [show k = 24 by omega]; exact txN_end xs)
      have HNE : Hid (wr.heap[G]? = some (.cells (intV (ctNs xs)).toArray 3 (0, 0))) := hide (by rw [← unhide HK]; exact unhide HN)
      go_wp2
      go_ret
      exact ⟨G, rfl, unhide HSL, unhide HNE, unhide HB⟩

end Go.Proofs.YthnpooffhopnkacGreatDoor

/- The library's slices.Sorted, slices.Sort and maps.Keys lie in this program as in the shelf's: the numbers. -/
namespace Go.Proofs.YthnpooffhopnkacGreatDoor
open Go.RowKit Go.Shelf
set_option maxRecDepth 100000

def lay_keysA_ren : Go.Shelf.Ren := ⟨fun | 7 => 57 | 10 => 106 | n => n, fun | 23 => 59 | 26 => 3 | 3 => 97 | 28 => 94 | 0 => 0 | 27 => 93 | 33 => 86 | 4 => 4 | n => n, fun | n => n⟩

theorem lay_keysA : Go.Proofs.SlLaysZI.n7 Tryz.prog lay_keysA_ren := {
  mixed := by kernel_rfl
  f7 := ⟨Tryz.f57.name, by decide, Tryz.func57.trans (congrArg some (by kernel_rfl))⟩
  f10 := ⟨Tryz.f106.name, by decide, Tryz.func106.trans (congrArg some (by kernel_rfl))⟩
  t0 := Tryz.underlying0
  a0 := Tryz.isAgg0
  z0 := Tryz.sizeOf0
  v0 := Tryz.zeroValue0
  t4 := Tryz.underlying4
  a4 := Tryz.isAgg4
  z4 := Tryz.sizeOf4
  v4 := Tryz.zeroValue4
  t23 := Tryz.underlying59
  a23 := Tryz.isAgg59
  z23 := Tryz.sizeOf59
  v23 := Tryz.zeroValue59
  t26 := Tryz.underlying3
  a26 := Tryz.isAgg3
  z26 := Tryz.sizeOf3
  v26 := Tryz.zeroValue3
  t27 := Tryz.underlying93
  a27 := Tryz.isAgg93
  z27 := Tryz.sizeOf93
  v27 := Tryz.zeroValue93
  t28 := Tryz.underlying94
  a28 := Tryz.isAgg94
  z28 := Tryz.sizeOf94
  v28 := Tryz.zeroValue94
  t33 := Tryz.underlying86
  a33 := Tryz.isAgg86
  z33 := Tryz.sizeOf86
  v33 := Tryz.zeroValue86 }

def lay_sortedA_ren : Go.Shelf.Ren := ⟨fun | 6 => 56 | 8 => 104 | 9 => 105 | 11 => 128 | 13 => 130 | 12 => 129 | 23 => 150 | 24 => 151 | 14 => 141 | 15 => 142 | 16 => 143 | 17 => 144 | 18 => 145 | 19 => 146 | 20 => 147 | 21 => 148 | 22 => 149 | 25 => 154 | 26 => 155 | 27 => 156 | 28 => 157 | 29 => 158 | 30 => 159 | 31 => 160 | n => n, fun | 26 => 3 | 28 => 94 | 24 => 23 | 0 => 0 | 3 => 3 | 37 => 142 | 48 => 167 | 50 => 169 | 4 => 4 | 40 => 159 | 39 => 158 | 45 => 164 | 5 => 5 | 9 => 9 | 51 => 173 | 55 => 177 | 57 => 179 | 58 => 171 | 33 => 86 | n => n, fun | n => n⟩

theorem lay_sortedA : Go.Proofs.SlLaysZI.n6 Tryz.prog lay_sortedA_ren := {
  mixed := by kernel_rfl
  f6 := ⟨Tryz.f56.name, by decide, Tryz.func56.trans (congrArg some (by kernel_rfl))⟩
  f8 := ⟨Tryz.f104.name, by decide, Tryz.func104.trans (congrArg some (by kernel_rfl))⟩
  f11 := ⟨Tryz.f128.name, by decide, Tryz.func128.trans (congrArg some (by kernel_rfl))⟩
  t0 := Tryz.underlying0
  a0 := Tryz.isAgg0
  z0 := Tryz.sizeOf0
  v0 := Tryz.zeroValue0
  t24 := Tryz.underlying23
  a24 := Tryz.isAgg23
  z24 := Tryz.sizeOf23
  v24 := Tryz.zeroValue23
  t26 := Tryz.underlying3
  a26 := Tryz.isAgg3
  z26 := Tryz.sizeOf3
  v26 := Tryz.zeroValue3
  t28 := Tryz.underlying94
  a28 := Tryz.isAgg94
  z28 := Tryz.sizeOf94
  v28 := Tryz.zeroValue94
  i26 := by kernel_rfl }

def lay_sortA_ren : Go.Shelf.Ren := ⟨fun | 5 => 105 | 8 => 130 | 7 => 129 | 19 => 150 | 20 => 151 | 10 => 141 | 11 => 142 | 12 => 143 | 13 => 144 | 14 => 145 | 15 => 146 | 16 => 147 | 17 => 148 | 18 => 149 | 30 => 154 | 31 => 155 | 32 => 156 | 33 => 157 | 34 => 158 | 35 => 159 | 40 => 160 | n => n, fun | 23 => 23 | 25 => 3 | 3 => 3 | 32 => 142 | 22 => 23 | 0 => 0 | 44 => 167 | 46 => 169 | 4 => 4 | 36 => 159 | 35 => 158 | 41 => 164 | 5 => 5 | 9 => 9 | 53 => 173 | 57 => 177 | 63 => 179 | 64 => 171 | n => n, fun | n => n⟩

theorem lay_sortA : Go.Proofs.SlLaysM.n5 Tryz.prog lay_sortA_ren := {
  mixed := by kernel_rfl
  f5 := ⟨Tryz.f105.name, by decide, Tryz.func105.trans (congrArg some (by kernel_rfl))⟩
  f7 := ⟨Tryz.f129.name, by decide, Tryz.func129.trans (congrArg some (by kernel_rfl))⟩
  f8 := Tryz.func130.trans (congrArg some (by kernel_rfl))
  f10 := ⟨Tryz.f141.name, by decide, Tryz.func141.trans (congrArg some (by kernel_rfl))⟩
  f11 := ⟨Tryz.f142.name, by decide, Tryz.func142.trans (congrArg some (by kernel_rfl))⟩
  f12 := ⟨Tryz.f143.name, by decide, Tryz.func143.trans (congrArg some (by kernel_rfl))⟩
  f13 := ⟨Tryz.f144.name, by decide, Tryz.func144.trans (congrArg some (by kernel_rfl))⟩
  f14 := ⟨Tryz.f145.name, by decide, Tryz.func145.trans (congrArg some (by kernel_rfl))⟩
  f15 := ⟨Tryz.f146.name, by decide, Tryz.func146.trans (congrArg some (by kernel_rfl))⟩
  f16 := ⟨Tryz.f147.name, by decide, Tryz.func147.trans (congrArg some (by kernel_rfl))⟩
  f17 := ⟨Tryz.f148.name, by decide, Tryz.func148.trans (congrArg some (by kernel_rfl))⟩
  f18 := ⟨Tryz.f149.name, by decide, Tryz.func149.trans (congrArg some (by kernel_rfl))⟩
  f19 := Tryz.func150.trans (congrArg some (by kernel_rfl))
  f20 := Tryz.func151.trans (congrArg some (by kernel_rfl))
  f30 := ⟨Tryz.f154.name, by decide, Tryz.func154.trans (congrArg some (by kernel_rfl))⟩
  f31 := Tryz.func155.trans (congrArg some (by kernel_rfl))
  f32 := Tryz.func156.trans (congrArg some (by kernel_rfl))
  f33 := ⟨Tryz.f157.name, by decide, Tryz.func157.trans (congrArg some (by kernel_rfl))⟩
  f34 := ⟨Tryz.f158.name, by decide, Tryz.func158.trans (congrArg some (by kernel_rfl))⟩
  f35 := ⟨Tryz.f159.name, by decide, Tryz.func159.trans (congrArg some (by kernel_rfl))⟩
  f40 := ⟨Tryz.f160.name, by decide, Tryz.func160.trans (congrArg some (by kernel_rfl))⟩
  t0 := Tryz.underlying0
  a0 := Tryz.isAgg0
  z0 := Tryz.sizeOf0
  v0 := Tryz.zeroValue0
  t3 := Tryz.underlying3
  a3 := Tryz.isAgg3
  z3 := Tryz.sizeOf3
  v3 := Tryz.zeroValue3
  t4 := Tryz.underlying4
  a4 := Tryz.isAgg4
  z4 := Tryz.sizeOf4
  v4 := Tryz.zeroValue4
  t5 := Tryz.underlying5
  a5 := Tryz.isAgg5
  z5 := Tryz.sizeOf5
  v5 := Tryz.zeroValue5
  t9 := Tryz.underlying9
  a9 := Tryz.isAgg9
  z9 := Tryz.sizeOf9
  v9 := Tryz.zeroValue9
  t22 := Tryz.underlying23
  a22 := Tryz.isAgg23
  z22 := Tryz.sizeOf23
  v22 := Tryz.zeroValue23
  t23 := Tryz.underlying23
  a23 := Tryz.isAgg23
  z23 := Tryz.sizeOf23
  v23 := Tryz.zeroValue23
  t25 := Tryz.underlying3
  a25 := Tryz.isAgg3
  z25 := Tryz.sizeOf3
  v25 := Tryz.zeroValue3
  t32 := Tryz.underlying142
  a32 := Tryz.isAgg142
  z32 := Tryz.sizeOf142
  v32 := Tryz.zeroValue142
  t35 := Tryz.underlying158
  a35 := Tryz.isAgg158
  z35 := Tryz.sizeOf158
  v35 := Tryz.zeroValue158
  t36 := Tryz.underlying159
  a36 := Tryz.isAgg159
  z36 := Tryz.sizeOf159
  v36 := Tryz.zeroValue159
  t41 := Tryz.underlying164
  a41 := Tryz.isAgg164
  z41 := Tryz.sizeOf164
  v41 := Tryz.zeroValue164
  t44 := Tryz.underlying167
  a44 := Tryz.isAgg167
  z44 := Tryz.sizeOf167
  v44 := Tryz.zeroValue167
  t46 := Tryz.underlying169
  a46 := Tryz.isAgg169
  z46 := Tryz.sizeOf169
  v46 := Tryz.zeroValue169
  t53 := Tryz.underlying173
  a53 := Tryz.isAgg173
  z53 := Tryz.sizeOf173
  v53 := Tryz.zeroValue173
  t57 := Tryz.underlying177
  a57 := Tryz.isAgg177
  z57 := Tryz.sizeOf177
  v57 := Tryz.zeroValue177
  t63 := Tryz.underlying179
  a63 := Tryz.isAgg179
  z63 := Tryz.sizeOf179
  v63 := Tryz.zeroValue179
  t64 := Tryz.underlying171
  a64 := Tryz.isAgg171
  z64 := Tryz.sizeOf171
  v64 := Tryz.zeroValue171 }

end Go.Proofs.YthnpooffhopnkacGreatDoor

/- Maps from places to records; their places, rising (slices.Sorted, maps.Keys by the library's contracts). -/
namespace Go.Proofs.YthnpooffhopnkacGreatDoor
open Go.RowKit Go.Maps Go.Sort Go.Shelf
set_option linter.unusedVariables false
set_option maxRecDepth 100000

/-- A record: its kind and its numbers. -/
abbrev Rc := Int × List Int
/-- A map's values are told as they stand. -/
def recR (v : Value) : Option (DataW Value × List MemPlace) := some (.held v, [])
def rcV (r : Rc) (ao : Option Addr) (cap : Nat) : Value := .agg #[.int .i64 r.1, .slice ao r.2.length cap]
theorem lawK : Keyed Tryz.prog 3 := int_keyed Tryz.underlying3
theorem zeroR (w : World) : (zeroValue 97).run Tryz.prog w = .ok (.agg #[.int .i64 0, .slice none 0 0]) w := by kernel_rfl
theorem wfP {p : Nat} (h : p < 64) : (Lit.int .i64 (p : Int)).wf = true := WalkArith.wf_i64 (by omega)
theorem keyP {p : Nat} (h : p < 64) : keyOf Tryz.prog 3 (.int .i64 (p : Int)) = some (.int .i64 (p : Int)) := keyOf_int_mk Tryz.underlying3 (wfP h)
/-- The map in block B has at most n entries, all at places, and says these records. -/
structure MpR (w : World) (B n : Nat) (D : DataW Value) (f : Nat → Option Rc) : Prop where
  own : w.ownsMap Tryz.prog 3 recR B n D
  no : ∀ p : Nat, p < 64 → f p = none → has D (.int .i64 (p : Int)) = false
  yes : ∀ p : Nat, p < 64 → ∀ r, f p = some r → has D (.int .i64 (p : Int)) = true ∧ ∃ ao cap, (∀ z, D.atKey (.int .i64 (p : Int)) z = .held (rcV r ao cap)) ∧ Is w ao r.2
  only : ∀ kl, has D kl = true → ∃ p : Nat, p < 64 ∧ kl = .int .i64 (p : Int)
def setF (f : Nat → Option Rc) (p : Nat) (r : Rc) : Nat → Option Rc := fun q => if q = p then some r else f q
theorem MpR.made (w : World) : MpR (w.alloc (.map #[] 0)) w.heap.size 0 (.map []) (fun _ => none) where
  own := World.ownsMap_made _ _ _ _
  no := fun p _ _ => rfl
  yes := fun p _ r h => by cases h
  only := fun kl h => by cases h
theorem MpR.lt {w : World} {B n : Nat} {D : DataW Value} {f : Nat → Option Rc} (h : MpR w B n D f) : B < w.heap.size := h.own.lt
theorem MpR.mono {w : World} {B n n' : Nat} {D : DataW Value} {f : Nat → Option Rc} (h : MpR w B n D f) (hn : n ≤ n') : MpR w B n' D f := ⟨h.own.mono hn, h.no, h.yes, h.only⟩
theorem MpR.below {w w' : World} {B n : Nat} {D : DataW Value} {f : Nat → Option Rc} (h : MpR w B n D f) (hb : Below w.heap.size w w') : MpR w' B n D f where
  own := by
    have hl := h.lt
    obtain ⟨es, clock, e, F, hn, hD⟩ := h.own
    exact ⟨es, clock, (hb.block B hl).trans e, F, hn, hD⟩
  no := h.no
  yes := fun p hp r hr => by
    obtain ⟨h1, ao, cap, h2, h3⟩ := h.yes p hp r hr
    exact ⟨h1, ao, cap, h2, h3.below hb⟩
  only := h.only
/-- No cell lies in a map. -/
theorem own_noCell {w : World} {B n : Nat} {D : DataW Value} (h : w.ownsMap Tryz.prog 3 recR B n D) {p : Addr} {v : Value} (hc : w.cell? p = some v) : p.block ≠ B := by
  intro he
  obtain ⟨es, clock, hb, _⟩ := h
  rw [← he] at hb
  simp [World.cell?, hb] at hc
theorem cell_turned {w w' : World} {B : Nat} (hg : w.grownBy w' (some B)) {p : Addr} {v : Value} (hc : w.cell? p = some v) (hn : p.block ≠ B) : w'.cell? p = some v :=
  (World.cell?_of_block (hg.block p.block (World.block_lt_of_cell? _ _ hc) (fun e => hn (Option.some.inj e)))).trans hc
theorem is_turned {w w' : World} {B n : Nat} {D : DataW Value} (h : w.ownsMap Tryz.prog 3 recR B n D) (hg : w.grownBy w' (some B)) {ao : Option Addr} {xs : List Int} (hi : Is w ao xs) : Is w' ao xs := fun i hl => by
  obtain ⟨b, off, e, hc⟩ := hi i hl
  exact ⟨b, off, e, cell_turned hg hc (own_noCell h hc)⟩
/-- One record is set. -/
theorem MpR.put {w w' : World} {B n p : Nat} {D : DataW Value} {f : Nat → Option Rc} {r : Rc} {ao : Option Addr} {cap : Nat} (h : MpR w B n D f) (hp : p < 64) (hi : Is w ao r.2) (ho : w'.ownsMap Tryz.prog 3 recR B (n + 1) (D.put (.int .i64 (p : Int)) (.held (rcV r ao cap)))) (hg : w.grownBy w' (some B)) :
    MpR w' B (n + 1) (D.put (.int .i64 (p : Int)) (.held (rcV r ao cap))) (setF f p r) := by
  have hM : IsMap D := h.own.isMap
  refine ⟨ho, fun q hq hf => ?_, fun q hq s hf => ?_, fun kl hk => ?_⟩
  · by_cases e : q = p
    · simp [setF, e] at hf
    · rw [has_put_other (by intro h2; simp only [Lit.int.injEq, true_and] at h2; omega)]
      exact h.no q hq (by simpa [setF, e] using hf)
  · by_cases e : q = p
    · subst e
      have : r = s := by simpa [setF] using hf
      subst this
      exact ⟨has_put_same (k := .int .i64 (q : Int)) hM trivial _, ao, cap, fun z => atKey_put_same (k := .int .i64 (q : Int)) hM trivial _ _, is_turned h.own hg hi⟩
    · obtain ⟨h1, a2, c2, h2, h3⟩ := h.yes q hq s (by simpa [setF, e] using hf)
      have hne : (Lit.int .i64 (q : Int)) ≠ .int .i64 (p : Int) := by intro h2; simp only [Lit.int.injEq, true_and] at h2; omega
      exact ⟨by rw [has_put_other hne]; exact h1, a2, c2, fun z => by rw [atKey_put_other hne]; exact h2 z, is_turned h.own hg h3⟩
  · by_cases e : kl = .int .i64 (p : Int)
    · exact ⟨p, hp, e⟩
    · rw [has_put_other e] at hk
      exact h.only kl hk
/-- A record is put. -/
theorem MpR.update {w : World} {B n p : Nat} {D : DataW Value} {f : Nat → Option Rc} (h : MpR w B n D f) (hn : n < 1000000) (hp : p < 64) (r : Rc) (ao : Option Addr) (cap : Nat) (hi : Is w ao r.2) :
    ∃ w' D', (Instr.mapUpdate 59 (.map (some B)) (.int .i64 (p : Int)) (rcV r ao cap)).run Tryz.prog w = .ok () w' ∧ MpR w' B (n + 1) D' (setF f p r) ∧ w.grownBy w' (some B) := by
  obtain ⟨w', hrun, r1, r2⟩ := h.own.update lawK Tryz.underlying59 (by unfold maxLen; omega) (keyP hp) (d := .held (rcV r ao cap)) (ps := []) rfl
  exact ⟨w', _, hrun, h.put hp hi r1 r2, r2⟩
/-- What is looked up. -/
theorem MpR.look {w : World} {B n p : Nat} {D : DataW Value} {f : Nat → Option Rc} (h : MpR w B n D f) (hp : p < 64) {r : Rc} (hr : f p = some r) : ∃ ao cap, (Instr.lookup 59 (.map (some B)) (.int .i64 (p : Int)) false).run Tryz.prog w = .ok (rcV r ao cap) w ∧ Is w ao r.2 := by
  obtain ⟨h1, ao, cap, h2, h3⟩ := h.yes p hp r hr
  obtain ⟨v, ps, hrun, hat⟩ := h.own.lookup lawK Tryz.underlying59 (zeroR _) (zd := .held _) (zp := []) rfl (keyP hp)
  rw [h2] at hat
  simp only [recR, Option.some.injEq, Prod.mk.injEq, DataW.held.injEq] at hat
  rw [hat.1] at hrun
  exact ⟨ao, cap, hrun, h3⟩
theorem MpR.miss {w : World} {B n p : Nat} {D : DataW Value} {f : Nat → Option Rc} (h : MpR w B n D f) (hp : p < 64) (hr : f p = none) : (Instr.lookup 59 (.map (some B)) (.int .i64 (p : Int)) false).run Tryz.prog w = .ok (.agg #[.int .i64 0, .slice none 0 0]) w := by
  obtain ⟨v, ps, hrun, hat⟩ := h.own.lookup lawK Tryz.underlying59 (zeroR _) (zd := .held _) (zp := []) rfl (keyP hp)
  rw [atKey_of_not_has (h.no p hp hr)] at hat
  simp only [recR, Option.some.injEq, Prod.mk.injEq, DataW.held.injEq] at hat
  rw [hat.1] at hrun
  exact hrun
theorem miss_nil {p : Nat} (hp : p < 64) (w : World) : (Instr.lookup 59 (.map none) (.int .i64 (p : Int)) false).run Tryz.prog w = .ok (.agg #[.int .i64 0, .slice none 0 0]) w :=
  Maps.look_nil false lawK Tryz.underlying59 (zeroR _) (keyP hp)

/-- The places of records, rising. -/
def plcN (f : Nat → Option Rc) : List Nat := (List.range 64).filter (fun p => (f p).isSome)
def plcL (f : Nat → Option Rc) : List Int := (plcN f).map (fun p : Nat => (p : Int))
theorem plcN_lt {f : Nat → Option Rc} {p : Nat} (h : p ∈ plcN f) : p < 64 ∧ ∃ r, f p = some r := by
  simp only [plcN, List.mem_filter, List.mem_range] at h
  exact ⟨h.1, Option.isSome_iff_exists.1 h.2⟩
theorem plcL_rise (f : Nat → Option Rc) : (plcL f).Pairwise (· < ·) := by
  unfold plcL
  rw [List.pairwise_map]
  refine List.Pairwise.imp ?_ ((List.pairwise_lt_range (n := 64)).filter _)
  intro a b h; omega
theorem plcL_mem {w : World} {B n : Nat} {D : DataW Value} {f : Nat → Option Rc} (h : MpR w B n D f) (x : Int) : x ∈ plcL f ↔ has D (.int .i64 x) = true := by
  simp only [plcL, plcN, List.mem_map, List.mem_filter, List.mem_range]
  constructor
  · rintro ⟨p, ⟨hp, hs⟩, rfl⟩
    obtain ⟨r, hr⟩ := Option.isSome_iff_exists.1 hs
    exact (h.yes p hp r hr).1
  · intro hh
    obtain ⟨p, hp, e⟩ := h.only _ hh
    simp only [Lit.int.injEq, true_and] at e
    subst e
    refine ⟨p, ⟨hp, ?_⟩, rfl⟩
    cases hf : f p with
    | none => rw [h.no p hp hf] at hh; cases hh
    | some r => rfl
theorem MpR.perm {w : World} {B n : Nat} {D : DataW Value} {f : Nat → Option Rc} (h : MpR w B n D f) : (plcL f).Perm (intKeys D) := by
  obtain ⟨es, hD, hpw, _⟩ := h.own.entries lawK
  obtain ⟨es', hD', hko⟩ := h.own.keysOf
  obtain rfl : es = es' := by rw [hD] at hD'; simpa using hD'
  subst hD
  exact perm_intKeys hpw (fun p hp => by obtain ⟨v, hv⟩ := hko p hp; obtain ⟨x, _, hx, _⟩ := Maps.keyOf_i64 Tryz.underlying3 hv; exact ⟨x, hx⟩) ((plcL_rise f).imp (fun h => Int.ne_of_lt h)) (plcL_mem h)
theorem MpR.sorted {w : World} {B n : Nat} {D : DataW Value} {f : Nat → Option Rc} (h : MpR w B n D f) {ss : List Int} (hp : ss.Perm (intKeys D)) : ss.mergeSort (fun x y => decide (x ≤ y)) = plcL f := by
  have tr : ∀ a b c : Int, decide (a ≤ b) = true → decide (b ≤ c) = true → decide (a ≤ c) = true := fun a b c h1 h2 => by simp only [decide_eq_true_eq] at *; omega
  have tot : ∀ a b : Int, (decide (a ≤ b) || decide (b ≤ a)) = true := fun a b => by simp only [Bool.or_eq_true, decide_eq_true_eq]; omega
  refine List.Perm.eq_of_pairwise (le := fun a b => decide (a ≤ b) = true) (fun a b _ _ h1 h2 => by simp only [decide_eq_true_eq] at h1 h2; omega) (List.pairwise_mergeSort tr tot ss) ((plcL_rise f).imp fun {a b} h => by simp only [decide_eq_true_eq]; omega) (((List.mergeSort_perm ss _).trans hp).trans h.perm.symm)

/-- The library's calls. -/
theorem sorts_in (m : Nat) : AnyZI.SortsIn Tryz.prog lay_sortedA_ren Fence.wide m :=
  ⟨fun blk off cap ss W hH hblk hsz => callsIn_wide.2 (AnyM.slices_Sort_int lay_sortA blk off cap ss W hH hblk hsz),
   fun p cap W => callsIn_wide.2 (AnyM.slices_Sort_int_none lay_sortA p cap W)⟩
theorem mapsKeys_any (mb : Option Nat) (W : World) : Calls Tryz.prog 57 #[.map mb] W fun e w' => e = .returned (.func (.func 106) #[] #[.pointer (some ⟨W.heap.size, 0, none⟩)]) ∧ w' = W.alloc (.cells #[.map mb] 59) :=
  (callsIn_wide (n := 5)).1 (AnyZI.keys_in lay_keysA Fence.wide 5 trivial rfl mb W)
theorem sorted_any (B n : Nat) (D : DataW Value) (f : Nat → Option Rc) (w : World) (h : MpR w B n D f) (hn : n ≤ 1000000) :
    Calls Tryz.prog 56 #[.func (.func 106) #[] #[.pointer (some ⟨w.heap.size, 0, none⟩)]] (w.alloc (.cells #[.map (some B)] 59)) fun e w' => ∃ v, e = .returned v ∧ OwnN w' w.heap.size v (plcL f) ∧ Below w.heap.size w w' := by
  have hbl := h.lt
  have hsz := h.own.size_le
  have hseq : SeqGives Fence.wide 2 Tryz.prog 106 #[.pointer (some ⟨w.heap.size, 0, none⟩)] encZ (fun ss => ss.Perm (intKeys D)) (Maps.size D) (w.alloc (.cells #[.map (some B)] 59)) :=
    AnyZI.keys_gives (ρ := lay_keysA_ren) { lay_keysA with } Fence.wide _ trivial rfl (by omega) w.heap.size B n D _ (by simp) (by simp) (h.own.alloc _)
  have cS := AnyZI.sorted_in lay_sortedA Fence.wide 5 trivial trivial trivial trivial rfl (by omega) (sorts_in _) (enters_of Tryz.func105 (by kernel_rfl) rfl) 106 #[.pointer (some ⟨w.heap.size, 0, none⟩)] trivial (enters_of Tryz.func106 (by kernel_rfl) rfl) _ _ (by unfold maxLen; omega) (by omega) _ hseq
  change CallsIn _ _ Tryz.prog 56 _ _ _ at cS
  refine ((callsIn_wide (n := 5)).1 cS).mono ?_
  rintro e w' ⟨v, ss, rfl, hS, hrow, hnil, hb⟩
  have hs := h.sorted hS
  refine ⟨v, rfl, ?_, ((Below.refl _ w).alloc (Nat.le_refl _) _).trans (hb.mono (by simp))⟩
  have hlen : ss.length = (plcL f).length := by rw [← hs]; exact (List.mergeSort_perm ss _).length_eq.symm
  rw [hs, hlen] at hrow
  replace hrow := ownsRow_base_a hrow (base' := w.heap.size) (by simp)
  have hx : (plcL f).map encZ = intV (plcL f) := rfl
  rw [hx] at hrow
  rcases hrow.2 with ⟨hv, h0⟩ | ⟨g, cap, cur, hv, hrest⟩
  · have e0 : plcL f = [] := List.eq_nil_of_length_eq_zero h0
    rw [e0, hv]
    exact OwnN.nil _ _ _
  · have hr := hrow
    rw [hv] at hr ⊢
    exact ⟨_, _, rfl, OwnR.of hr (fun h0 => by
      have : v = .slice none 0 0 := hnil.2 (List.eq_nil_of_length_eq_zero (by omega))
      rw [this] at hv; cases hv)⟩

end Go.Proofs.YthnpooffhopnkacGreatDoor

/- The store's records by their places, plainly. -/
namespace Go.Proofs.YthnpooffhopnkacGreatDoor
open Go.RowKit
set_option linter.unusedVariables false
set_option maxRecDepth 100000

/-- The record at a place. -/
def rcAt (m : Img) (p : Nat) : Option Rc :=
  if p = 9 then some (1, supL m) else if p = 10 then some (2, ctNs m.refs) else if 11 ≤ p ∧ p ≤ 14 then ((imTabs m)[p - 11]?).map (fun t => (3, t))
  else if 15 ≤ p ∧ p < 39 ∧ 0 < m.refs.getD (p - 15) 0 then some (4, [m.data.getD (p - 15) 0]) else none
/-- .. as far as some place. -/
def rcTo (m : Img) (K p : Nat) : Option Rc := if p < K then rcAt m p else none
theorem rcAt_tab {m : Img} {k : Nat} (hk : k < 4) : rcAt m (11 + k) = ((imTabs m)[k]?).map (fun t => (3, t)) := by
  unfold rcAt
  rw [if_neg (by omega), if_neg (by omega), if_pos (by omega), show 11 + k - 11 = k by omega]
theorem rcAt_dat {m : Img} {c : Nat} (hc : c < 24) : rcAt m (15 + c) = if 0 < m.refs.getD c 0 then some (4, [m.data.getD c 0]) else none := by
  unfold rcAt
  rw [if_neg (by omega), if_neg (by omega), if_neg (by omega), show 15 + c - 15 = c by omega]
  by_cases h : 0 < m.refs.getD c 0
  · rw [if_pos ⟨by omega, by omega, h⟩, if_pos h]
  · rw [if_neg (by intro h2; exact h h2.2.2), if_neg h]
theorem rcAt_none {m : Img} {p : Nat} (h : p < 9 ∨ 39 ≤ p) : rcAt m p = none := by
  unfold rcAt
  rw [if_neg (by omega), if_neg (by omega), if_neg (by omega), if_neg (by omega)]
theorem rcTo_two (m : Img) : setF (setF (fun _ => none) 9 (1, supL m)) 10 (2, ctNs m.refs) = rcTo m 11 := by
  funext p
  simp only [rcTo, setF]
  by_cases h1 : p = 9
  · subst h1; simp [rcAt]
  · by_cases h2 : p = 10
    · subst h2; simp [rcAt]
    · simp only [h1, h2, if_false]
      by_cases h3 : p < 11
      · rw [if_pos h3, rcAt_none (.inl (by omega))]
      · rw [if_neg h3]
theorem rcTo_tab {m : Img} {k : Nat} (hk : k < (imTabs m).length) (h4 : k < 4) : setF (rcTo m (11 + k)) (11 + k) (3, (imTabs m)[k]) = rcTo m (11 + (k + 1)) := by
  funext p
  simp only [rcTo, setF]
  by_cases h1 : p = 11 + k
  · subst h1
    rw [if_pos rfl, if_pos (by omega), rcAt_tab h4, List.getElem?_eq_getElem hk]; rfl
  · rw [if_neg h1]
    by_cases h2 : p < 11 + k
    · rw [if_pos h2, if_pos (by omega)]
    · rw [if_neg h2, if_neg (by omega)]
theorem rcTo_tabs {m : Img} (h4 : (imTabs m).length ≤ 4) : rcTo m (11 + (imTabs m).length) = rcTo m (15 + 0) := by
  funext p
  simp only [rcTo]
  by_cases h1 : p < 11 + (imTabs m).length
  · rw [if_pos h1, if_pos (by omega)]
  · rw [if_neg h1]
    by_cases h2 : p < 15 + 0
    · rw [if_pos h2]
      have hp : 11 ≤ p := by
        rcases Nat.lt_or_ge p 11 with h | h
        · exact absurd h (by omega)
        · exact h
      have := rcAt_tab (m := m) (k := p - 11) (by omega)
      rw [show 11 + (p - 11) = p by omega, List.getElem?_eq_none (by omega)] at this
      rw [this]; rfl
    · rw [if_neg h2]
theorem rcTo_dat {m : Img} {c : Nat} (hc : c < 24) (h : 0 < m.refs.getD c 0) : setF (rcTo m (15 + c)) (15 + c) (4, [m.data.getD c 0]) = rcTo m (15 + (c + 1)) := by
  funext p
  simp only [rcTo, setF]
  by_cases h1 : p = 15 + c
  · subst h1
    rw [if_pos rfl, if_pos (by omega), rcAt_dat hc, if_pos h]
  · rw [if_neg h1]
    by_cases h2 : p < 15 + c
    · rw [if_pos h2, if_pos (by omega)]
    · rw [if_neg h2, if_neg (by omega)]
theorem rcTo_no {m : Img} {c : Nat} (hc : c < 24) (h : ¬ 0 < m.refs.getD c 0) : rcTo m (15 + c) = rcTo m (15 + (c + 1)) := by
  funext p
  simp only [rcTo]
  by_cases h1 : p = 15 + c
  · subst h1
    rw [if_neg (by omega), if_pos (by omega), rcAt_dat hc, if_neg h]
  · by_cases h2 : p < 15 + c
    · rw [if_pos h2, if_pos (by omega)]
    · rw [if_neg h2, if_neg (by omega)]
theorem rcTo_all (m : Img) : rcTo m (15 + 24) = rcAt m := by
  funext p
  simp only [rcTo]
  by_cases h2 : p < 15 + 24
  · rw [if_pos h2]
  · rw [if_neg h2, rcAt_none (.inr (by omega))]

end Go.Proofs.YthnpooffhopnkacGreatDoor

/- Contracts of the program's packLetters, PackName. -/
namespace Go.Proofs.YthnpooffhopnkacGreatDoor
open Go.RowKit
set_option linter.unusedVariables false
set_option maxRecDepth 100000

theorem nm1_at {t : ByteArray} (h : t.data.toList.all nm1 = true) {k : Nat} (hk : k < t.size) : nm1 t[k] = true := by
  have e : t.data.toList[k]'(by simpa using hk) = t[k] := by have := snm_get hk; rw [List.getElem?_eq_getElem (by simpa using hk)] at this; exact Option.some.inj this
  rw [← e]
  exact List.all_eq_true.1 h _ (List.getElem_mem _)

set_option maxHeartbeats 1600000 in
theorem packLetters_any (t : ByteArray) (w : World) (hn : snmB t = true) :
    Calls Tryz.prog 109 #[.string t] w fun e w' => e = .returned (.int .i64 (nmN t)) ∧ Below w.heap.size w w' := by
  obtain ⟨hal, h1, h6⟩ := snm_parts hn
  have HAL := hide hal
  clear hn hal
  have hcv := fun (W : World) => Lib.run_convert_string_bytes (P := Tryz.prog) W 9 22 5 t Tryz.underlying9 Tryz.underlying22 Tryz.underlying5
  have HB := hide (below_bytes w 5 t)
  have HCL := hide (Lib.bytesWorld_cell w 5 t)
  go_enter Tryz.func109, Tryz.ntmps109
  go_wp2
  revert HB HCL
  generalize Lib.bytesWorld w 5 t = w1
  generalize grownCap w t.size 0 5 = gc
  intro HB HCL
  clear hcv
  go_loop [3, 9] (fun n i => ∃ k : Nat, k ≤ t.size ∧ i = .int .i64 k ∧ n = .int .i64 (nmK t k)) (fun _ i => t.size - (intOf i).toNat)
  case atStart => exact ⟨0, Nat.zero_le _, rfl, rfl⟩
  case round =>
    obtain ⟨k, hk, rfl, rfl⟩ := hrel
    by_cases hlt : k < t.size
    · have hlti : (k : Int) < (t.size : Int) := by omega
      have hck := unhide HCL k hlt
      have eck : (t.data.toList.getD k 0) = t[k] := by simp [List.getD, snm_get hlt]
      rw [eck] at hck
      clear eck
      have hnm := nm1_at (unhide HAL) hlt
      simp only [nm1, Bool.and_eq_true, decide_eq_true_eq] at hnm
      have HS : Hid (nmK t (k + 1) = nmK t k * 27 + ((t[k].toNat : Int) - 96)) := hide (by
        rw [nmK_succ hlt]
        have e : t.data.toList[k]'(by simpa using hlt) = t[k] := by have := snm_get hlt; rw [List.getElem?_eq_getElem (by simpa using hlt)] at this; exact Option.some.inj this
        rw [e]
        unfold ch1
        omega)
      obtain ⟨b0, b1⟩ := nmK_le t k hk
      obtain ⟨d0, d1⟩ := bd27_le k (by omega)
      obtain ⟨c0, c1⟩ := hnm
      have hu : IntKind.u8.wrap ((t[k].toNat : Int) - 96) = ((t[k].toNat : Int) - 96) := by simp [IntKind.wrap, IntKind.bits, IntKind.signed]; omega
      generalize nmK t k = X at *
      generalize hD : ((t[k].toNat : Int) - 96) = D at *
      have w1 : IntKind.i64.wrap (X * 27) = X * 27 := by rw [IntKind.wrap_i64]; omega
      have w2 : IntKind.i64.wrap D = D := by rw [IntKind.wrap_i64]; omega
      have w3 : IntKind.i64.wrap (X * 27 + D) = X * 27 + D := by rw [IntKind.wrap_i64]; omega
      have HD := hide hD
      rw [← hD] at hu w2 w3
      go_wp2
      go_round
      case rel => exact ⟨k + 1, by omega, by go_num, by rw [unhide HS]⟩
      case measure => simp [intOf]; omega
    · obtain rfl : k = t.size := by omega
      have HF := hide (nmK_all t)
      go_wp2
      go_ret
      exact ⟨ret_int (unhide HF), unhide HB⟩

end Go.Proofs.YthnpooffhopnkacGreatDoor
