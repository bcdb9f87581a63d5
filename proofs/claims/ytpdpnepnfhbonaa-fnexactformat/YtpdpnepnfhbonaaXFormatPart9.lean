import Derived.Test.YtpdpnepnfhbonaaRows
import Derived.Test.YtpdpnepnfhbonaaXFormatPart1
import Derived.Test.YtpdpnepnfhbonaaXFormatPart3
import Derived.Test.YtpdpnepnfhbonaaXFormatPart4
import Derived.Test.YtpdpnepnfhbonaaXFormatPart8
import Derived.Test.YtpdpnepnfhbonaaXFormatPart5
import Derived.Test.YtpdpnepnfhbonaaXFormatPart6
import Derived.Test.YtpdpnepnfhbonaaXFormatPart7
import Derived.WalkKit
import Derived.WalkSpells
import Derived.KernelRfl
import Derived.LoopN
import Derived.BigQuiet
import Derived.Deep.QuietTactic
import Derived.Deep.RegionWith
import Derived.Laws.BytesArg
import Derived.Laws.CopyRow
import Derived.Laws.CopyOwn
import Derived.Deep.RegionLaw
import Derived.Deep.AppendLies
import Derived.Deep.CutRange
import Derived.Laws.ResultCell
import Derived.Deep.MidRow
import Derived.Laws.MakeOwn
import Derived.Laws.OwnMore
import Derived.Shelf.SlIterI.Nil
import Derived.Shelf.SortM.Plain
import Derived.Shelf.SortM.SortNone
import Derived.Maps.Own
import Derived.Maps.OwnOps
import Derived.Maps.OwnSet
import Derived.Maps.Views
import Derived.Lib.ConvBytes

namespace Go.Proofs.Ytpdpnepnfhbonaa
open Go.RowKit
set_option linter.unusedVariables false
set_option maxRecDepth 100000

section
variable (w : World) (r a b c : Obj)
theorem chI0 : ((((w.alloc r).alloc a).alloc b).alloc c).drew.heap[w.heap.size]? = some r := blk_belowI (blk_belowI (blk_belowI (blk_belowI (heap_alloc_new w r) (Joins.below_alloc1 _ _)) (Joins.below_alloc1 _ _)) (Joins.below_alloc1 _ _)) (Below.refl _ _).drew
theorem chI1 : ((((w.alloc r).alloc a).alloc b).alloc c).drew.heap[w.heap.size + 1]? = some a := by
  have h := heap_alloc_new (w.alloc r) a
  rw [World.size_alloc] at h
  exact blk_belowI (blk_belowI (blk_belowI h (Joins.below_alloc1 _ _)) (Joins.below_alloc1 _ _)) (Below.refl _ _).drew
theorem chI2 : ((((w.alloc r).alloc a).alloc b).alloc c).drew.heap[w.heap.size + 1 + 1]? = some b := by
  have h := heap_alloc_new ((w.alloc r).alloc a) b
  rw [World.size_alloc, World.size_alloc] at h
  exact blk_belowI (blk_belowI h (Joins.below_alloc1 _ _)) (Below.refl _ _).drew
theorem chI3 : ((((w.alloc r).alloc a).alloc b).alloc c).drew.heap[w.heap.size + 1 + 1 + 1]? = some c := by
  have h := heap_alloc_new (((w.alloc r).alloc a).alloc b) c
  rw [World.size_alloc, World.size_alloc, World.size_alloc] at h
  exact blk_belowI h (Below.refl _ _).drew
theorem chIB : Below w.heap.size w ((((w.alloc r).alloc a).alloc b).alloc c).drew := (fr (Joins.below_alloc3 w r a b) (Joins.below_alloc1 _ c)).drew
end
theorem new_leafI {w W : World} {n g0 g1 g3 : Nat} (hn : n ≤ 1000) (h0 : W.heap[g0]? = some (.cells (intV zero24).toArray 3 (0, 0))) (h1 : W.heap[g1]? = some (.cells (intV (List.replicate n 0)).toArray 3 (0, 0))) (h3 : W.heap[g3]? = some (.cells (intV zero24).toArray 3 (0, 0)))
    (n1 : g0 ≠ g1) (n2 : g0 ≠ g3) (n3 : g1 ≠ g3) (b0 : w.heap.size ≤ g0) (b1 : w.heap.size ≤ g1) (b3 : w.heap.size ≤ g3) (hb : Below w.heap.size w W) :
    AnsI w W (.returned (.tuple #[.agg #[.slice (some ⟨g0, 0, none⟩) 24 24, .slice (some ⟨g1, 0, none⟩) n n, .slice none 0 0, .slice (some ⟨g3, 0, none⟩) 24 24], .int .i64 0])) (imNew n, 0) := by
  have hl : (imNew n).table.length = n := by simp [imNew]
  refine ⟨⟨some ⟨g0, 0, none⟩, 24, some ⟨g1, 0, none⟩, n, none, 0, some ⟨g3, 0, none⟩, 24⟩, [], by simp only [imV, hl]; rfl, ⟨rfl, .inl ⟨rfl, rfl, _, _, rfl⟩, ?_⟩, hb⟩
  have o0 := own_made (B := w.heap.size) (n := 24) h0 b0 rfl (by omega)
  have o1 := own_made (B := w.heap.size) (n := n) h1 b1 (by simp) hn
  have o3 := own_made (B := w.heap.size) (n := 24) h3 b3 rfl (by omega)
  have e : imRows ⟨some ⟨g0, 0, none⟩, 24, some ⟨g1, 0, none⟩, n, none, 0, some ⟨g3, 0, none⟩, 24⟩ (imNew n) [] = [(.slice (some ⟨g0, 0, none⟩) 24 24, zero24), (.slice (some ⟨g1, 0, none⟩) n n, List.replicate n 0), (.slice (some ⟨g3, 0, none⟩) 24 24, zero24)] := by
    simp only [imRows, hl]; rfl
  rw [e]
  refine ⟨fun r hr => ?_, ?_⟩
  · simp only [List.mem_cons, List.not_mem_nil, or_false] at hr
    rcases hr with rfl | rfl | rfl
    · exact o0
    · exact o1
    · exact o3
  · simp only [List.pairwise_cons, List.mem_cons, List.not_mem_nil, or_false, forall_eq_or_imp, forall_eq, List.Pairwise.nil, and_true]
    exact ⟨⟨own_ne (v := undef) n1, own_ne (v := undef) n2⟩, own_ne (v := undef) n3, fun _ h => h.elim⟩

set_option maxHeartbeats 6400000 in
theorem newImage_impl (n : Int) (w : World) :
    Calls Try.prog 54 #[.int .i64 n] w fun e w' => AnsI w w' e (niI n, niF n) := by
  have HA := hide (Joins.below_alloc1 w (.cells #[.slice none 0 0, .slice none 0 0, .slice none 0 0, .slice none 0 0] 26))
  have HV := hide (VarM.new w 26 (.slice none 0 0) (.slice none 0 0) (.slice none 0 0) (.slice none 0 0))
  cases hb : betw n 0 12
  · have HF : Hid (niF n = 4 ∧ niI n = im0) := hide (by
      have e : niF n = 4 := by rw [niF, hb]; rfl
      exact ⟨e, by rw [niI, e]; rfl⟩)
    go_enter Try.func54, Try.ntmps54
    go_upto_region 1 with fail
    revert HA HV
    generalize (w.alloc _) = W0
    intro HA HV
    obtain ⟨c0, c1, c2, c3⟩ := (unhide HV).cells
    obtain ⟨f0, f1, f2, f3⟩ := (unhide HV).free
    have HV2 := hide (((((unhide HV).set0 (.slice none 0 0)).set1 (.slice none 0 0)).set2 (.slice none 0 0)).set3 (.slice none 0 0))
    have HB2 := hide (((((unhide HA).setCell (p := ⟨w.heap.size, 0, none⟩) (Nat.le_refl _) (.slice none 0 0)).setCell (p := ⟨w.heap.size, 1, none⟩) (Nat.le_refl _) (.slice none 0 0)).setCell (p := ⟨w.heap.size, 2, none⟩) (Nat.le_refl _) (.slice none 0 0)).setCell (p := ⟨w.heap.size, 3, none⟩) (Nat.le_refl _) (.slice none 0 0))
    go_wp2_with (go_at_call 78; refine (within_any _ _ _ _).mono ?_; rintro e w' ⟨rfl, hw⟩; replace hw := hw.symm; subst hw; rw [hb])
    refine bodyPost_ret (res_ic Try.results54 rfl rfl (unhide HV2)) rfl ?_
    rw [(unhide HF).1, (unhide HF).2]
    exact AnsI.bad 4 (unhide HB2)
  · obtain ⟨l0, l1⟩ := betw_iff.1 hb
    obtain ⟨q, rfl⟩ := Int.eq_ofNat_of_zero_le l0
    have HF : Hid (niF (q : Int) = 0 ∧ niI (q : Int) = imNew q) := hide (by
      have e : niF (q : Int) = 0 := by rw [niF, hb]; rfl
      exact ⟨e, by rw [niI, e]; rfl⟩)
    have h24 := mk24
    have hmn := mkZ q (by omega)
    have HL := hide (fun (W : World) (g0 g1 g3 : Nat) => new_leafI (w := w) (W := W) (n := q) (g0 := g0) (g1 := g1) (g3 := g3) (by omega))
    generalize (intV zero24).toArray = Z24 at *
    generalize (intV (List.replicate q 0)).toArray = ZN at *
    clear HA HV
    rw [(unhide HF).1, (unhide HF).2]
    go_enter Try.func54, Try.ntmps54
    go_wp2_with (first | (go_at_call 78; refine (within_any _ _ _ _).mono ?_; rintro e w' ⟨rfl, hw⟩; replace hw := hw.symm; subst hw; rw [hb]) | fail)
    go_region
    all_goals
      go_wp2
      refine bodyPost_ret (res_ic Try.results54 rfl rfl (chI0 w _ _ _ _)) rfl ?_
      exact unhide HL _ _ _ _ (by first | exact chI1 _ _ _ _ _ | exact chI2 _ _ _ _ _ | exact chI3 _ _ _ _ _) (by first | exact chI1 _ _ _ _ _ | exact chI2 _ _ _ _ _ | exact chI3 _ _ _ _ _) (by first | exact chI1 _ _ _ _ _ | exact chI2 _ _ _ _ _ | exact chI3 _ _ _ _ _) (by omega) (by omega) (by omega) (by omega) (by omega) (by omega) (chIB _ _ _ _ _)

end Go.Proofs.Ytpdpnepnfhbonaa

namespace Go.Proofs.Ytpdpnepnfhbonaa
open Go.RowKit
set_option linter.unusedVariables false
set_option maxRecDepth 100000

theorem block_alloc {w : World} {g : Nat} {c : Array Value} {t : TypeId} {f : Nat × Nat} (h : w.heap[g]? = some (.cells c t f)) (o : Obj) : (w.alloc o).heap[g]? = some (.cells c t f) := by
  rw [(Joins.below_alloc1 w o).block g (Array.getElem?_eq_some_iff.1 h).1]; exact h

def arrL (xs : List Int) (k : Nat) : List Value := byteV (packL (xs.take k)) ++ List.replicate (64 - k * 4) (.int .u8 0)
theorem arrL_zero (xs : List Int) : arrL xs 0 = List.replicate 64 (.int .u8 0) := by simp [arrL, packL, byteV]
theorem four_lit {n : Int} (h : 0 ≤ n) (h' : n ≤ 2147483647) : [Value.int .u8 (n % 256), .int .u8 (n / 256 % 256), .int .u8 (n / 65536 % 256), .int .u8 (n / 16777216)] = byteV (four n) := by
  have e : n / 16777216 = n / 16777216 % 256 := by omega
  have : byteV (four n) = [Value.int .u8 (n / (256 : Int) ^ 0 % 256), .int .u8 (n / (256 : Int) ^ 1 % 256), .int .u8 (n / (256 : Int) ^ 2 % 256), .int .u8 (n / (256 : Int) ^ 3 % 256)] := rfl
  rw [this, e]
  simp
theorem arrL_length {xs : List Int} {k : Nat} (hl : xs.length ≤ 16) (hk : k ≤ xs.length) : (arrL xs k).length = 64 := by
  rw [arrL, List.length_append, byteV_length, packL_length, List.length_replicate, List.length_take, Nat.min_eq_left hk]
  omega
theorem arrL_splice {xs : List Int} {k : Nat} (hl : xs.length ≤ 16) (hk : k < xs.length) : splice (arrL xs k) (k * 4) (byteV (four xs[k])) = arrL xs (k + 1) := by
  have h1 : (byteV (packL (xs.take k))).length = k * 4 := by rw [byteV_length, packL_length, List.length_take, Nat.min_eq_left (by omega)]
  have h4 : (byteV (four xs[k])).length = 4 := by rw [byteV_length, four, fourTo_length]
  unfold splice arrL
  rw [h4, List.take_append_of_le_length (by omega), List.take_of_length_le (by omega), List.drop_append, List.drop_of_length_le (by omega), List.nil_append, h1, packL_succ hk, List.drop_replicate]
  rw [show k * 4 + 4 - k * 4 = 4 by omega, show 64 - k * 4 - 4 = 64 - (k + 1) * 4 by omega]
  simp [byteV]
theorem arrL_cells {W : World} {g : Nat} {t : TypeId} {xs : List Int} (h : W.heap[g]? = some (.cells (arrL xs xs.length).toArray t (0, 0))) : ∀ i, i < xs.length * 4 → W.cell? ⟨g, 0 + i, none⟩ = some (.int .u8 ((packL xs).getD i 0)) := by
  intro i hi
  rw [Nat.zero_add, Joins.cell_of_block h]
  have hl : i < (packL xs).length := by rw [packL_length]; exact hi
  simp [arrL, byteV, List.getElem?_append_left, hl, List.getD]
theorem lit_one (a b c d : Int) : ∀ v ∈ [Value.int .u8 a, .int .u8 b, .int .u8 c, .int .u8 d], v.oneCell' = true := by
  intro v hv
  simp at hv
  rcases hv with rfl | rfl | rfl | rfl <;> rfl
theorem sizeB : (Try.prog.info? 5).map (·.size) = some 1 := by kernel_rfl
theorem runB (W : World) : (Go.sizeOf 5).run Try.prog W = .ok 1 W := by
  have h := sizeB
  cases hq : Try.prog.info? 5 with
  | none => simp [hq] at h
  | some i =>
    have hi : i.size = 1 := by simpa [hq] using h
    simp [Go.sizeOf, typeInfo, hq, hi]
theorem arr64 : Try.prog.arrayLen 167 = 64 := by kernel_rfl
theorem und64 : Try.prog.underlying 167 = some (.array (Try.prog.arrayLen 167) (Try.prog.elem 167)) := by kernel_rfl
theorem elem64 : Try.prog.elem 167 = 5 := by kernel_rfl
theorem wrap4 (k : Nat) (hk : k ≤ 16) : IntKind.i64.wrap ((k : Int) * 4) = ((k * 4 : Nat) : Int) := by
  rw [IntKind.wrap_i64]
  omega
theorem slice64 (W : World) (g k : Nat) (hk : k < 16) : (Instr.sliceAt 167 (.pointer (some ⟨g, 0, none⟩)) (some (.int .i64 (IntKind.i64.wrap ((k : Int) * 4)))) none none).run Try.prog W = .ok (.slice (some ⟨g, k * 4, none⟩) (64 - k * 4) (64 - k * 4)) W := by
  rw [wrap4 k (by omega), run_sliceAt_array_l W _ _ und64 .i64 _ (by omega) (by rw [arr64]; omega), elem64, runB, arr64]
  simp only [Result.andThen, slicedAt, Int.toNat_natCast, Nat.mul_one]
  rw [if_neg (by omega), show Addr.add ⟨g, 0, none⟩ (k * 4) = ⟨g, k * 4, none⟩ from by unfold Addr.add; split <;> simp_all]
theorem slice64h (W : World) (g k : Nat) (hk : k ≤ 16) : (Instr.sliceAt 167 (.pointer (some ⟨g, 0, none⟩)) none (some (.int .i64 ((k : Int) * 4))) none).run Try.prog W = .ok (.slice (some ⟨g, 0, none⟩) (k * 4) 64) W := by
  rw [run_sliceAt_array_h W _ _ und64 .i64 _ (by omega) (by rw [arr64]; omega), elem64, runB, arr64]
  simp only [Result.andThen, slicedAt, Nat.mul_one, Nat.sub_zero]
  rw [if_neg (by omega), show ((k : Int) * 4).toNat = k * 4 by omega]
  rfl

set_option maxHeartbeats 1600000 in
theorem packNumbers_any (ao : Option Addr) (cap : Nat) (xs : List Int) (w : World) (hl : xs.length ≤ 16) (hn : ∀ j (h : j < xs.length), 0 ≤ xs[j] ∧ xs[j] ≤ 2147483647) (hc : Is w ao xs) :
    Calls Try.prog 150 #[.slice ao xs.length cap] w fun e w' => e = .returned (.string (packS xs)) ∧ Below w.heap.size w w' := by
  have HC := hide hc
  have HN := hide hn
  clear hc hn
  go_enter Try.func150, Try.ntmps150
  go_wp2
  go_loopw [9] (fun i wr => ∃ k : Nat, k ≤ xs.length ∧ i = .int .i64 k ∧ Hid (wr.heap[w.heap.size]? = some (.cells (arrL xs k).toArray 167 (0, 0))) ∧ Hid (Below w.heap.size w wr)) (fun i _ => xs.length - (intOf i).toNat)
  case atStart => exact ⟨0, Nat.zero_le _, rfl, hide (by rw [arrL_zero]; exact heap_alloc_new w _), hide (Joins.below_alloc1 _ _)⟩
  case round =>
    obtain ⟨k, hk, rfl, HO, HB⟩ := hrel
    by_cases hlt : k < xs.length
    · obtain ⟨b, off, rfl, hc⟩ := (unhide HC).below (unhide HB) k hlt
      obtain ⟨h0, h1⟩ := unhide HN k hlt
      have HBA := hide (fr (unhide HB) (Joins.below_alloc1 _ (.cells #[.int .u8 (xs[k] % 256), .int .u8 (xs[k] / 256 % 256), .int .u8 (xs[k] / 65536 % 256), .int .u8 (xs[k] / 16777216)] 152)))
      have HOA := hide (block_alloc (unhide HO) (.cells #[.int .u8 (xs[k] % 256), .int .u8 (xs[k] / 256 % 256), .int .u8 (xs[k] / 65536 % 256), .int .u8 (xs[k] / 16777216)] 152))
      have HL := hide (arrL_length hl hk)
      have HNW := hide (World.news_of_block (cs := #[.int .u8 (xs[k] % 256), .int .u8 (xs[k] / 256 % 256), .int .u8 (xs[k] / 65536 % 256), .int .u8 (xs[k] / 16777216)]) (heap_alloc_new wr (.cells #[.int .u8 (xs[k] % 256), .int .u8 (xs[k] / 256 % 256), .int .u8 (xs[k] / 65536 % 256), .int .u8 (xs[k] / 16777216)] 152)))
      have HE := hide (four_lit h0 h1)
      have HSP := hide (arrL_splice hl hlt)
      have hsl := fun W => slice64 W w.heap.size k (by omega)
      go_wp2
      go_region_law (refine step_copy_splice ?_ (.tmp 28) (.tmp 29) 22 22 ?_ 5 Try.underlying22 sizeB (some ⟨w.heap.size, k * 4, none⟩) (some ⟨wr.heap.size, 0, none⟩) (64 - k * 4) (64 - k * 4) 4 4 ?_ ?_ w.heap.size (k * 4) (arrL xs k) 167 ?_ [.int .u8 (xs[k] % 256), .int .u8 (xs[k] / 256 % 256), .int .u8 (xs[k] / 65536 % 256), .int .u8 (xs[k] / 16777216)] ?_ ?_ ?_ (lit_one _ _ _ _) w.heap.size w ?_ (Nat.le_refl _) ?_
                     · rfl
                     · rfl
                     · rfl
                     · rfl
                     · exact unhide HOA
                     · simp only [List.length_cons, List.length_nil]; exact (Nat.min_eq_left (by omega)).symm
                     · exact fun _ => ⟨rfl, _, rfl, unhide HNW⟩
                     · rw [unhide HL]; simp only [List.length_cons, List.length_nil]; omega
                     · exact (unhide HBA).drew
                     intro w4 hg4 hb4)
      all_goals
        have HSF : Hid (w4.heap[w.heap.size]? = some (.cells (arrL xs (k + 1)).toArray 167 (0, 0))) := by rw [← unhide HSP, ← unhide HE]; exact hg4
        have HBF := hide hb4
        clear hg4 hb4 hsl
        go_wp2
        go_roundw
        case rel => exact ⟨k + 1, by omega, by go_num, HSF, HBF⟩
        case measure => simp [intOf]; omega
    · have hkn : k = xs.length := by omega
      subst hkn
      have hsl := slice64h wr w.heap.size xs.length hl
      have hcv := run_convert_bytes_arg (P := Try.prog) wr 22 5 Try.underlying22 Try.underlying5 w.heap.size 0 (xs.length * 4) 64 (packL xs) (packL_length xs) (arrL_cells (unhide HO)) 9 Try.underlying9
      go_wp2
      go_ret
      exact ⟨rfl, unhide HB⟩

end Go.Proofs.Ytpdpnepnfhbonaa

namespace Go.Proofs.Ytpdpnepnfhbonaa
open Go.RowKit
set_option linter.unusedVariables false
set_option maxRecDepth 100000

theorem kindOK_any (n : Int) (w : World) : Calls Try.prog 149 #[.int .i64 n] w fun e w' => e = .returned (.bool (kindB n)) ∧ w' = w := by
  go_enter Try.func149, Try.ntmps149
  go_wp2
  all_goals
    go_ret
    exact ⟨ret_bool (by rw [Bool.eq_iff_iff]; simp [kindB, inB]; omega), rfl⟩

end Go.Proofs.Ytpdpnepnfhbonaa

namespace Go.Proofs.Ytpdpnepnfhbonaa
open Go.RowKit
set_option linter.unusedVariables false
set_option maxRecDepth 100000

theorem arr2 (W : World) (g : Nat) (a b c d : Int) (h : W.heap.size = g) : (convert 22 9 (.slice (some ⟨g, 0, none⟩) 2 4)).run Try.prog (W.alloc (.cells #[.int .u8 a, .int .u8 b, .int .u8 c, .int .u8 d] 152)) = .ok (.string (strOfNums [a, b])) (W.alloc (.cells #[.int .u8 a, .int .u8 b, .int .u8 c, .int .u8 d] 152)) := by
  subst h
  refine run_convert_bytes_arg _ 22 5 Try.underlying22 Try.underlying5 W.heap.size 0 2 4 [a, b] rfl ?_ 9 Try.underlying9
  intro i hi
  rcases (show i = 0 ∨ i = 1 by omega) with rfl | rfl <;> simp [go_sem, List.getD]
theorem arr4 (W : World) (g : Nat) (a b c d : Int) (h : W.heap.size = g) : (convert 22 9 (.slice (some ⟨g, 0, none⟩) 4 4)).run Try.prog (W.alloc (.cells #[.int .u8 a, .int .u8 b, .int .u8 c, .int .u8 d] 152)) = .ok (.string (strOfNums [a, b, c, d])) (W.alloc (.cells #[.int .u8 a, .int .u8 b, .int .u8 c, .int .u8 d] 152)) := by
  subst h
  refine run_convert_bytes_arg _ 22 5 Try.underlying22 Try.underlying5 W.heap.size 0 4 4 [a, b, c, d] rfl ?_ 9 Try.underlying9
  intro i hi
  rcases (show i = 0 ∨ i = 1 ∨ i = 2 ∨ i = 3 by omega) with rfl | rfl | rfl | rfl <;> simp [go_sem, List.getD]
theorem sum_impl (k : Int) (xs : List Int) (w : World) (hl : xs.length ≤ 16) : Calls Try.prog 151 #[.string (strOfNums [k, (xs.length : Int)] ++ packS xs)] w fun e w' => e = .returned (.int .i64 (sumR k xs)) ∧ w' = w := by
  have h := sumOf_impl (sumT k xs) w (by rw [sumT_size]; omega)
  rw [sumC_short (by rw [sumT_size]; omega)] at h
  exact h

set_option maxHeartbeats 1600000 in
theorem sealRecord_impl (k : Int) (ao : Option Addr) (cap : Nat) (xs : List Int) (w : World) (hl : xs.length ≤ 1048576) (hc : Is w ao xs) :
    Calls Try.prog 135 #[.int .i64 k, .slice ao xs.length cap] w fun e w' => e = .returned (.tuple #[.string (sealT k xs), .int .i64 (sealC k xs)]) ∧ Below w.heap.size w w' := by
  have HC := hide hc
  clear hc
  by_cases h2 : listC xs = 0
  · have HL := hide h2
    have hb : (listC xs != 0) = false := by simp [h2]
    have HP := hide (intsB_parts (listC_zero h2))
    clear h2
    by_cases h3 : kindB k = true
    · have HF := hide (sealC_ok (unhide HL) h3)
      obtain ⟨hk0, hk1⟩ := kindB_in h3
      have hl16 := (unhide HP).2
      have hp := packS_size xs
      have hs2 : (strOfNums [k, (xs.length : Int)]).size = 2 := strOfNums_size _
      have hs4 : (strOfNums [k, (xs.length : Int), sumR k xs, 0]).size = 4 := strOfNums_size _
      obtain ⟨hr0, hr1⟩ := sumR_in k xs
      go_enter Try.func135, Try.ntmps135
      go_wp2_with (first | (go_at_call 148; refine (listFault_any _ _ xs _ hl (unhide HC)).mono ?_; rintro e w' ⟨rfl, rfl⟩) | (go_at_call 149; refine (kindOK_any _ _).mono ?_; rintro e w' ⟨rfl, rfl⟩) | (go_at_call 150; refine (packNumbers_any _ _ xs _ (unhide HP).2 (unhide HP).1 (unhide HC)).mono ?_; rintro e w1 ⟨rfl, hb1⟩; have HB1 := hide hb1; clear hb1; have hc2 := arr2 w1 w1.heap.size k xs.length 0 0 rfl) | (go_at_call 151; refine (sum_impl k xs _ hl16).mono ?_; rintro e w' ⟨rfl, rfl⟩; have hc4 := arr4 w1 w1.heap.size k xs.length (sumR k xs) 0 rfl))
      go_ret2
      exact ⟨ret_si (sealT_ok (unhide HF)).symm (unhide HF).symm, fr (unhide HB1) (Joins.below_alloc1 _ _)⟩
    · have h4 : kindB k = false := by simpa using h3
      have HF := hide (sealC_kind (unhide HL) h4)
      clear h3
      go_enter Try.func135, Try.ntmps135
      go_wp2_with (first | (go_at_call 148; refine (listFault_any _ _ xs _ hl (unhide HC)).mono ?_; rintro e w' ⟨rfl, rfl⟩) | (go_at_call 149; refine (kindOK_any _ _).mono ?_; rintro e w' ⟨rfl, rfl⟩))
      go_ret2
      exact ⟨ret_si (sealT_no (by rw [unhide HF]; decide)).symm (unhide HF).symm, Below.refl _ _⟩
  · have HF := hide (sealC_list (k := k) h2)
    have HNE := hide h2
    have hb : (listC xs != 0) = true := by simp [h2]
    clear h2
    go_enter Try.func135, Try.ntmps135
    go_wp2_with (go_at_call 148; refine (listFault_any _ _ xs _ hl (unhide HC)).mono ?_; rintro e w' ⟨rfl, rfl⟩)
    go_ret2
    exact ⟨ret_si (sealT_no (by rw [unhide HF]; exact unhide HNE)).symm (unhide HF).symm, Below.refl _ _⟩

end Go.Proofs.Ytpdpnepnfhbonaa

namespace Go.Proofs.Ytpdpnepnfhbonaa
open Go.RowKit
set_option linter.unusedVariables false
set_option maxRecDepth 100000

theorem wrap_place {xs : List Int} (h : ctB xs = true) {k r : Nat} (hk : k < xs.length) (hr : r < 6) : IntKind.i64.wrap (xs[k] * 16 ^ r) = xs[k] * 16 ^ r := by
  obtain ⟨g0, g1⟩ := ctB_at h k hk
  have hp : (16 : Int) ^ r ≤ 1048576 := by
    match r, hr with
    | 0, _ => decide
    | 1, _ => decide
    | 2, _ => decide
    | 3, _ => decide
    | 4, _ => decide
    | 5, _ => decide
  have hp0 : 0 < (16 : Int) ^ r := Int.pow_pos (by omega)
  have a0 : 0 ≤ xs[k] * 16 ^ r := Int.mul_nonneg g0 (by omega)
  have a1 : xs[k] * 16 ^ r ≤ 15 * 16 ^ r := Int.mul_le_mul_of_nonneg_right g1 (by omega)
  generalize xs[k] * 16 ^ r = S at *
  generalize (16 : Int) ^ r = P at *
  rw [IntKind.wrap_i64]; omega
theorem wrap_place64 {xs : List Int} (h : ctB xs = true) {k r : Nat} (hk : k < xs.length) (hr : r < 6) : wrap64 (xs[k] * 16 ^ r) = xs[k] * 16 ^ r := by
  have := wrap_place h hk hr
  rw [IntKind.wrap_i64] at this
  generalize xs[k] * 16 ^ r = S at *
  simp only [wrap64]
  omega
theorem infoK4 : (Try.prog.info? 3).map (fun i => (i.zero, i.size, i.bytes)) = some (some (.int .i64 0), 1, 8) := by kernel_rfl
theorem mk4 (W : World) : (Instr.makeSlice 23 (.int .i64 4) (.int .i64 4)).run Try.prog W = .ok (.slice (some ⟨W.heap.size, 0, none⟩) 4 4) (W.alloc (.cells #[.int .i64 0, .int .i64 0, .int .i64 0, .int .i64 0] 3)) := by
  obtain ⟨i0, hi, hz0, hz1, hz2⟩ := info_parts infoK4
  have := run_make (P := Try.prog) W 23 3 i0 (.int .i64 0) Try.underlying23 hi hz0 .i64 .i64 4 4 (by omega) (by omega) (by rw [hz2]; decide) (by omega)
  rw [hz1] at this
  have e : madeCells (Value.int .i64 0).cells ((4 : Int).toNat * 1) = #[.int .i64 0, .int .i64 0, .int .i64 0, .int .i64 0] := by kernel_rfl
  rw [e] at this
  exact this

set_option maxHeartbeats 3200000 in
theorem numbersC_any (xs : List Int) (w : World) (hb : ctB xs = true) :
    Calls Try.prog 104 #[ctV xs] w fun e w' => ∃ g, e = .returned (.slice (some ⟨g, 0, none⟩) 4 4) ∧ w.heap.size ≤ g ∧ w'.heap[g]? = some (.cells (intV (ctNs xs)).toArray 3 (0, 0)) ∧ Below w.heap.size w w' := by
  have HCB := hide hb
  have HL := hide (ctB_len hb)
  have HN : Hid (VarC (w.alloc (.cells (intV xs).toArray 125)) w.heap.size xs) := hide (heap_alloc_new w _)
  have HA := hide (Joins.below_alloc1 w (.cells (intV xs).toArray 125))
  have hsz : (w.alloc (.cells (intV xs).toArray 125)).heap.size = w.heap.size + 1 := World.size_alloc _ _
  have HSZ := hide hsz
  have hmk := mk4
  clear hb hsz
  go_enter Try.func104, Try.ntmps104
  go_upto_region 1 with fail
  revert HN HA HSZ
  generalize (w.alloc _) = W1
  intro HN HA HSZ
  have HN4 : Hid ((W1.alloc (.cells #[.int .i64 0, .int .i64 0, .int .i64 0, .int .i64 0] 3)).heap[W1.heap.size]? = some (.cells (intV (txN xs 0)).toArray 3 (0, 0))) := hide (by rw [txN_zero]; exact heap_alloc_new W1 _)
  have HN1 := hide (block_of_below (unhide HN) (Joins.below_alloc1 W1 (.cells #[.int .i64 0, .int .i64 0, .int .i64 0, .int .i64 0] 3)))
  have HB1 := hide (fr (unhide HA) (Joins.below_alloc1 W1 (.cells #[.int .i64 0, .int .i64 0, .int .i64 0, .int .i64 0] 3)))
  have HSL : Hid (w.heap.size ≤ W1.heap.size) := hide (unhide HA).size
  clear HN HA
  go_upto_region 2 with fail
  revert HN4 HN1 HB1
  generalize (W1.alloc _) = W2
  intro HN4 HN1 HB1
  generalize W1.heap.size = G at *
  clear hmk
  go_wp2_with (refine wpList_load_arr rfl 125 _ rfl w.heap.size rfl (intV xs).toArray _ _ (unhide HN1) und24 rfl (sizeA (unhide HL)) ?_)
  clear HN1
  go_loopw [8] (fun i wr => ∃ k : Nat, k ≤ 24 ∧ i = .int .i64 k ∧ Hid (wr.heap[G]? = some (.cells (intV (txN xs k)).toArray 3 (0, 0))) ∧ Hid (Below w.heap.size w wr)) (fun i _ => 24 - (intOf i).toNat)
  case atStart => exact ⟨0, by omega, rfl, HN4, HB1⟩
  case round =>
    clear HN4 HB1
    obtain ⟨k, hk, rfl, HN, HB⟩ := hrel
    by_cases hlt : k < 24
    · have hkx : k < xs.length := by rw [unhide HL]; exact hlt
      have hix := fun W => idx24 W xs k (unhide HL) hkx
      have HG : Hid (xs.getD k 0 = xs[k]) := hide (by simp [List.getD, hkx])
      have hki : (k : Int) < 24 := by omega
      have HST := hide (txN_step xs k hlt)
      have HAT := hide (txN_at xs k hlt (by rw [txN_len]; omega))
      have HOR := hide (or_place (unhide HCB) (6 * (k / 6)) k (k % 6) (by omega))
      have hq4 : k / 6 < (txN xs k).length := by rw [txN_len]; omega
      have hcell := arr_cell (unhide HN) hq4
      rw [unhide HAT] at hcell
      rw [unhide HG] at HOR HST
      have hfz := Joins.unfrozen_of_block (unhide HN) (k / 6)
      have hd6 : (k : Int) / 6 = ((k / 6 : Nat) : Int) := by omega
      have hr6 : (k : Int) % 6 = ((k % 6 : Nat) : Int) := by omega
      have hd4 : k / 6 < 4 := by omega
      have hr4 : k % 6 < 6 := by omega
      clear hq4 HAT
      generalize k / 6 = q at *
      generalize k % 6 = r at *
      have hq0 : (0 : Int) ≤ (q : Int) := by omega
      have hq3 : (q : Int) < 4 := by omega
      have hm4 : IntKind.i64.wrap ((r : Int) * 4) = (r : Int) * 4 := by rw [IntKind.wrap_i64]; omega
      have HV : Hid (bits .or .i64 (lo6 xs (6 * q) r) (wrap64 (xs[k] * 2 ^ (r * 4))) = lo6 xs (6 * q) r + xs[k] * 16 ^ r) := hide (by rw [← pow_two, wrap_place64 (unhide HCB) hkx hr4]; exact unhide HOR)
      have HST2 := hide (arr_set (unhide HN) q (bits .or .i64 (lo6 xs (6 * q) r) (wrap64 (xs[k] * 2 ^ (r * 4)))))
      have HNX : Hid (intV ((txN xs k).set q (bits .or .i64 (lo6 xs (6 * q) r) (wrap64 (xs[k] * 2 ^ (r * 4))))) = intV (txN xs (k + 1))) := hide (by rw [unhide HV, unhide HST])
      rw [unhide HNX] at HST2
      clear HOR HG HNX HST HV
      generalize lo6 xs (6 * q) r = L at *
      have HB2 := hide ((unhide HB).setCell (p := ⟨G, q, none⟩) (unhide HSL) (.int .i64 (bits .or .i64 L (wrap64 (xs[k] * 2 ^ (r * 4))))))
      go_wp2
      go_region
      all_goals
        go_wp2
        go_roundw
        case rel => exact ⟨k + 1, by omega, by go_num, hide (by exact unhide HST2), hide (by exact (unhide HB2).drew)⟩
        case measure => simp [intOf]; omega
    · have HK : Hid (txN xs k = ctNs xs) := hide (by rw [show k = 24 by omega]; exact txN_end xs)
      have HNE : Hid (wr.heap[G]? = some (.cells (intV (ctNs xs)).toArray 3 (0, 0))) := hide (by rw [← unhide HK]; exact unhide HN)
      go_wp2
      go_ret
      exact ⟨G, rfl, unhide HSL, unhide HNE, unhide HB⟩

end Go.Proofs.Ytpdpnepnfhbonaa

namespace Go.Proofs.Ytpdpnepnfhbonaa
open Go.RowKit Go.Shelf
set_option maxRecDepth 100000

def lay_keysA_ren : Go.Shelf.Ren := ⟨fun | 7 => 100 | 10 => 133 | n => n, fun | 23 => 77 | 26 => 3 | 3 => 121 | 28 => 118 | 0 => 0 | 27 => 117 | 33 => 90 | 4 => 4 | n => n, fun | n => n⟩

theorem lay_keysA : Go.Proofs.SlLaysZI.n7 Try.prog lay_keysA_ren := {
  mixed := by kernel_rfl
  f7 := ⟨Try.f100.name, by decide, Try.func100.trans (congrArg some (by kernel_rfl))⟩
  f10 := ⟨Try.f133.name, by decide, Try.func133.trans (congrArg some (by kernel_rfl))⟩
  t0 := Try.underlying0
  a0 := Try.isAgg0
  z0 := Try.sizeOf0
  v0 := Try.zeroValue0
  t4 := Try.underlying4
  a4 := Try.isAgg4
  z4 := Try.sizeOf4
  v4 := Try.zeroValue4
  t23 := Try.underlying77
  a23 := Try.isAgg77
  z23 := Try.sizeOf77
  v23 := Try.zeroValue77
  t26 := Try.underlying3
  a26 := Try.isAgg3
  z26 := Try.sizeOf3
  v26 := Try.zeroValue3
  t27 := Try.underlying117
  a27 := Try.isAgg117
  z27 := Try.sizeOf117
  v27 := Try.zeroValue117
  t28 := Try.underlying118
  a28 := Try.isAgg118
  z28 := Try.sizeOf118
  v28 := Try.zeroValue118
  t33 := Try.underlying90
  a33 := Try.isAgg90
  z33 := Try.sizeOf90
  v33 := Try.zeroValue90 }

def lay_sortedA_ren : Go.Shelf.Ren := ⟨fun | 6 => 99 | 8 => 131 | 9 => 132 | 11 => 145 | 13 => 147 | 12 => 146 | 23 => 162 | 24 => 163 | 14 => 153 | 15 => 154 | 16 => 155 | 17 => 156 | 18 => 157 | 19 => 158 | 20 => 159 | 21 => 160 | 22 => 161 | 25 => 164 | 26 => 165 | 27 => 166 | 28 => 167 | 29 => 168 | 30 => 169 | 31 => 170 | n => n, fun | 26 => 3 | 28 => 118 | 24 => 23 | 0 => 0 | 3 => 3 | 37 => 151 | 48 => 164 | 50 => 166 | 4 => 4 | 40 => 157 | 39 => 156 | 45 => 153 | 5 => 5 | 9 => 9 | 51 => 168 | 55 => 172 | 57 => 174 | 58 => 33 | 33 => 90 | n => n, fun | n => n⟩

theorem lay_sortedA : Go.Proofs.SlLaysZI.n6 Try.prog lay_sortedA_ren := {
  mixed := by kernel_rfl
  f6 := ⟨Try.f99.name, by decide, Try.func99.trans (congrArg some (by kernel_rfl))⟩
  f8 := ⟨Try.f131.name, by decide, Try.func131.trans (congrArg some (by kernel_rfl))⟩
  f11 := ⟨Try.f145.name, by decide, Try.func145.trans (congrArg some (by kernel_rfl))⟩
  t0 := Try.underlying0
  a0 := Try.isAgg0
  z0 := Try.sizeOf0
  v0 := Try.zeroValue0
  t24 := Try.underlying23
  a24 := Try.isAgg23
  z24 := Try.sizeOf23
  v24 := Try.zeroValue23
  t26 := Try.underlying3
  a26 := Try.isAgg3
  z26 := Try.sizeOf3
  v26 := Try.zeroValue3
  t28 := Try.underlying118
  a28 := Try.isAgg118
  z28 := Try.sizeOf118
  v28 := Try.zeroValue118
  i26 := by kernel_rfl }

def lay_sortA_ren : Go.Shelf.Ren := ⟨fun | 5 => 132 | 8 => 147 | 7 => 146 | 19 => 162 | 20 => 163 | 10 => 153 | 11 => 154 | 12 => 155 | 13 => 156 | 14 => 157 | 15 => 158 | 16 => 159 | 17 => 160 | 18 => 161 | 30 => 164 | 31 => 165 | 32 => 166 | 33 => 167 | 34 => 168 | 35 => 169 | 40 => 170 | n => n, fun | 23 => 23 | 25 => 3 | 3 => 3 | 32 => 151 | 22 => 23 | 0 => 0 | 44 => 164 | 46 => 166 | 4 => 4 | 36 => 157 | 35 => 156 | 41 => 153 | 5 => 5 | 9 => 9 | 53 => 168 | 57 => 172 | 63 => 174 | 64 => 33 | n => n, fun | n => n⟩

theorem lay_sortA : Go.Proofs.SlLaysM.n5 Try.prog lay_sortA_ren := {
  mixed := by kernel_rfl
  f5 := ⟨Try.f132.name, by decide, Try.func132.trans (congrArg some (by kernel_rfl))⟩
  f7 := ⟨Try.f146.name, by decide, Try.func146.trans (congrArg some (by kernel_rfl))⟩
  f8 := Try.func147.trans (congrArg some (by kernel_rfl))
  f10 := ⟨Try.f153.name, by decide, Try.func153.trans (congrArg some (by kernel_rfl))⟩
  f11 := ⟨Try.f154.name, by decide, Try.func154.trans (congrArg some (by kernel_rfl))⟩
  f12 := ⟨Try.f155.name, by decide, Try.func155.trans (congrArg some (by kernel_rfl))⟩
  f13 := ⟨Try.f156.name, by decide, Try.func156.trans (congrArg some (by kernel_rfl))⟩
  f14 := ⟨Try.f157.name, by decide, Try.func157.trans (congrArg some (by kernel_rfl))⟩
  f15 := ⟨Try.f158.name, by decide, Try.func158.trans (congrArg some (by kernel_rfl))⟩
  f16 := ⟨Try.f159.name, by decide, Try.func159.trans (congrArg some (by kernel_rfl))⟩
  f17 := ⟨Try.f160.name, by decide, Try.func160.trans (congrArg some (by kernel_rfl))⟩
  f18 := ⟨Try.f161.name, by decide, Try.func161.trans (congrArg some (by kernel_rfl))⟩
  f19 := Try.func162.trans (congrArg some (by kernel_rfl))
  f20 := Try.func163.trans (congrArg some (by kernel_rfl))
  f30 := ⟨Try.f164.name, by decide, Try.func164.trans (congrArg some (by kernel_rfl))⟩
  f31 := Try.func165.trans (congrArg some (by kernel_rfl))
  f32 := Try.func166.trans (congrArg some (by kernel_rfl))
  f33 := ⟨Try.f167.name, by decide, Try.func167.trans (congrArg some (by kernel_rfl))⟩
  f34 := ⟨Try.f168.name, by decide, Try.func168.trans (congrArg some (by kernel_rfl))⟩
  f35 := ⟨Try.f169.name, by decide, Try.func169.trans (congrArg some (by kernel_rfl))⟩
  f40 := ⟨Try.f170.name, by decide, Try.func170.trans (congrArg some (by kernel_rfl))⟩
  t0 := Try.underlying0
  a0 := Try.isAgg0
  z0 := Try.sizeOf0
  v0 := Try.zeroValue0
  t3 := Try.underlying3
  a3 := Try.isAgg3
  z3 := Try.sizeOf3
  v3 := Try.zeroValue3
  t4 := Try.underlying4
  a4 := Try.isAgg4
  z4 := Try.sizeOf4
  v4 := Try.zeroValue4
  t5 := Try.underlying5
  a5 := Try.isAgg5
  z5 := Try.sizeOf5
  v5 := Try.zeroValue5
  t9 := Try.underlying9
  a9 := Try.isAgg9
  z9 := Try.sizeOf9
  v9 := Try.zeroValue9
  t22 := Try.underlying23
  a22 := Try.isAgg23
  z22 := Try.sizeOf23
  v22 := Try.zeroValue23
  t23 := Try.underlying23
  a23 := Try.isAgg23
  z23 := Try.sizeOf23
  v23 := Try.zeroValue23
  t25 := Try.underlying3
  a25 := Try.isAgg3
  z25 := Try.sizeOf3
  v25 := Try.zeroValue3
  t32 := Try.underlying151
  a32 := Try.isAgg151
  z32 := Try.sizeOf151
  v32 := Try.zeroValue151
  t35 := Try.underlying156
  a35 := Try.isAgg156
  z35 := Try.sizeOf156
  v35 := Try.zeroValue156
  t36 := Try.underlying157
  a36 := Try.isAgg157
  z36 := Try.sizeOf157
  v36 := Try.zeroValue157
  t41 := Try.underlying153
  a41 := Try.isAgg153
  z41 := Try.sizeOf153
  v41 := Try.zeroValue153
  t44 := Try.underlying164
  a44 := Try.isAgg164
  z44 := Try.sizeOf164
  v44 := Try.zeroValue164
  t46 := Try.underlying166
  a46 := Try.isAgg166
  z46 := Try.sizeOf166
  v46 := Try.zeroValue166
  t53 := Try.underlying168
  a53 := Try.isAgg168
  z53 := Try.sizeOf168
  v53 := Try.zeroValue168
  t57 := Try.underlying172
  a57 := Try.isAgg172
  z57 := Try.sizeOf172
  v57 := Try.zeroValue172
  t63 := Try.underlying174
  a63 := Try.isAgg174
  z63 := Try.sizeOf174
  v63 := Try.zeroValue174
  t64 := Try.underlying33
  a64 := Try.isAgg33
  z64 := Try.sizeOf33
  v64 := Try.zeroValue33 }

end Go.Proofs.Ytpdpnepnfhbonaa

namespace Go.Proofs.Ytpdpnepnfhbonaa
open Go.RowKit Go.Maps Go.Sort Go.Shelf
set_option linter.unusedVariables false
set_option maxRecDepth 100000

abbrev Rc := Int × List Int
def recR (v : Value) : Option (DataW Value × List MemPlace) := some (.held v, [])
def rcV (r : Rc) (ao : Option Addr) (cap : Nat) : Value := .agg #[.int .i64 r.1, .slice ao r.2.length cap]
theorem lawK : Keyed Try.prog 3 := int_keyed Try.underlying3
theorem zeroR (w : World) : (zeroValue 121).run Try.prog w = .ok (.agg #[.int .i64 0, .slice none 0 0]) w := by kernel_rfl
theorem wfP {p : Nat} (h : p < 64) : (Lit.int .i64 (p : Int)).wf = true := WalkArith.wf_i64 (by omega)
theorem keyP {p : Nat} (h : p < 64) : keyOf Try.prog 3 (.int .i64 (p : Int)) = some (.int .i64 (p : Int)) := keyOf_int_mk Try.underlying3 (wfP h)
structure MpR (w : World) (B n : Nat) (D : DataW Value) (f : Nat → Option Rc) : Prop where
  own : w.ownsMap Try.prog 3 recR B n D
  no : ∀ p : Nat, p < 64 → f p = none → has D (.int .i64 (p : Int)) = false
  yes : ∀ p : Nat, p < 64 → ∀ r, f p = some r → has D (.int .i64 (p : Int)) = true ∧ ∃ ao cap, (∀ z, D.atKey (.int .i64 (p : Int)) z = .held (rcV r ao cap)) ∧ Is w ao r.2
  only : ∀ kl, has D kl = true → ∃ p : Nat, p < 64 ∧ kl = .int .i64 (p : Int)
def setF (f : Nat → Option Rc) (p : Nat) (r : Rc) : Nat → Option Rc := fun q => if q = p then some r else f q
theorem MpR.made (w : World) : MpR (w.alloc (.map #[] 0)) w.heap.size 0 (.map []) (fun _ => none) where
  own := World.ownsMap_made _ _ _ _
  no := fun p _ _ => rfl
  yes := fun p _ r h => by cases h
  only := fun kl h => by cases h
theorem MpR.lt {w : World} {B n : Nat} {D : DataW Value} {f : Nat → Option Rc} (h : MpR w B n D f) : B < w.heap.size := h.own.lt
theorem MpR.mono {w : World} {B n n' : Nat} {D : DataW Value} {f : Nat → Option Rc} (h : MpR w B n D f) (hn : n ≤ n') : MpR w B n' D f := ⟨h.own.mono hn, h.no, h.yes, h.only⟩
theorem MpR.below {w w' : World} {B n : Nat} {D : DataW Value} {f : Nat → Option Rc} (h : MpR w B n D f) (hb : Below w.heap.size w w') : MpR w' B n D f where
  own := by
    have hl := h.lt
    obtain ⟨es, clock, e, F, hn, hD⟩ := h.own
    exact ⟨es, clock, (hb.block B hl).trans e, F, hn, hD⟩
  no := h.no
  yes := fun p hp r hr => by
    obtain ⟨h1, ao, cap, h2, h3⟩ := h.yes p hp r hr
    exact ⟨h1, ao, cap, h2, h3.below hb⟩
  only := h.only
theorem own_noCell {w : World} {B n : Nat} {D : DataW Value} (h : w.ownsMap Try.prog 3 recR B n D) {p : Addr} {v : Value} (hc : w.cell? p = some v) : p.block ≠ B := by
  intro he
  obtain ⟨es, clock, hb, _⟩ := h
  rw [← he] at hb
  simp [World.cell?, hb] at hc
theorem cell_turned {w w' : World} {B : Nat} (hg : w.grownBy w' (some B)) {p : Addr} {v : Value} (hc : w.cell? p = some v) (hn : p.block ≠ B) : w'.cell? p = some v :=
  (World.cell?_of_block (hg.block p.block (World.block_lt_of_cell? _ _ hc) (fun e => hn (Option.some.inj e)))).trans hc
theorem is_turned {w w' : World} {B n : Nat} {D : DataW Value} (h : w.ownsMap Try.prog 3 recR B n D) (hg : w.grownBy w' (some B)) {ao : Option Addr} {xs : List Int} (hi : Is w ao xs) : Is w' ao xs := fun i hl => by
  obtain ⟨b, off, e, hc⟩ := hi i hl
  exact ⟨b, off, e, cell_turned hg hc (own_noCell h hc)⟩
theorem MpR.put {w w' : World} {B n p : Nat} {D : DataW Value} {f : Nat → Option Rc} {r : Rc} {ao : Option Addr} {cap : Nat} (h : MpR w B n D f) (hp : p < 64) (hi : Is w ao r.2) (ho : w'.ownsMap Try.prog 3 recR B (n + 1) (D.put (.int .i64 (p : Int)) (.held (rcV r ao cap)))) (hg : w.grownBy w' (some B)) :
    MpR w' B (n + 1) (D.put (.int .i64 (p : Int)) (.held (rcV r ao cap))) (setF f p r) := by
  have hM : IsMap D := h.own.isMap
  refine ⟨ho, fun q hq hf => ?_, fun q hq s hf => ?_, fun kl hk => ?_⟩
  · by_cases e : q = p
    · simp [setF, e] at hf
    · rw [has_put_other (by intro h2; simp only [Lit.int.injEq, true_and] at h2; omega)]
      exact h.no q hq (by simpa [setF, e] using hf)
  · by_cases e : q = p
    · subst e
      have : r = s := by simpa [setF] using hf
      subst this
      exact ⟨has_put_same (k := .int .i64 (q : Int)) hM trivial _, ao, cap, fun z => atKey_put_same (k := .int .i64 (q : Int)) hM trivial _ _, is_turned h.own hg hi⟩
    · obtain ⟨h1, a2, c2, h2, h3⟩ := h.yes q hq s (by simpa [setF, e] using hf)
      have hne : (Lit.int .i64 (q : Int)) ≠ .int .i64 (p : Int) := by intro h2; simp only [Lit.int.injEq, true_and] at h2; omega
      exact ⟨by rw [has_put_other hne]; exact h1, a2, c2, fun z => by rw [atKey_put_other hne]; exact h2 z, is_turned h.own hg h3⟩
  · by_cases e : kl = .int .i64 (p : Int)
    · exact ⟨p, hp, e⟩
    · rw [has_put_other e] at hk
      exact h.only kl hk
theorem MpR.update {w : World} {B n p : Nat} {D : DataW Value} {f : Nat → Option Rc} (h : MpR w B n D f) (hn : n < 1000000) (hp : p < 64) (r : Rc) (ao : Option Addr) (cap : Nat) (hi : Is w ao r.2) :
    ∃ w' D', (Instr.mapUpdate 77 (.map (some B)) (.int .i64 (p : Int)) (rcV r ao cap)).run Try.prog w = .ok () w' ∧ MpR w' B (n + 1) D' (setF f p r) ∧ w.grownBy w' (some B) := by
  obtain ⟨w', hrun, r1, r2⟩ := h.own.update lawK Try.underlying77 (by unfold maxLen; omega) (keyP hp) (d := .held (rcV r ao cap)) (ps := []) rfl
  exact ⟨w', _, hrun, h.put hp hi r1 r2, r2⟩
theorem MpR.look {w : World} {B n p : Nat} {D : DataW Value} {f : Nat → Option Rc} (h : MpR w B n D f) (hp : p < 64) {r : Rc} (hr : f p = some r) : ∃ ao cap, (Instr.lookup 77 (.map (some B)) (.int .i64 (p : Int)) false).run Try.prog w = .ok (rcV r ao cap) w ∧ Is w ao r.2 := by
  obtain ⟨h1, ao, cap, h2, h3⟩ := h.yes p hp r hr
  obtain ⟨v, ps, hrun, hat⟩ := h.own.lookup lawK Try.underlying77 (zeroR _) (zd := .held _) (zp := []) rfl (keyP hp)
  rw [h2] at hat
  simp only [recR, Option.some.injEq, Prod.mk.injEq, DataW.held.injEq] at hat
  rw [hat.1] at hrun
  exact ⟨ao, cap, hrun, h3⟩
theorem MpR.miss {w : World} {B n p : Nat} {D : DataW Value} {f : Nat → Option Rc} (h : MpR w B n D f) (hp : p < 64) (hr : f p = none) : (Instr.lookup 77 (.map (some B)) (.int .i64 (p : Int)) false).run Try.prog w = .ok (.agg #[.int .i64 0, .slice none 0 0]) w := by
  obtain ⟨v, ps, hrun, hat⟩ := h.own.lookup lawK Try.underlying77 (zeroR _) (zd := .held _) (zp := []) rfl (keyP hp)
  rw [atKey_of_not_has (h.no p hp hr)] at hat
  simp only [recR, Option.some.injEq, Prod.mk.injEq, DataW.held.injEq] at hat
  rw [hat.1] at hrun
  exact hrun
theorem miss_nil {p : Nat} (hp : p < 64) (w : World) : (Instr.lookup 77 (.map none) (.int .i64 (p : Int)) false).run Try.prog w = .ok (.agg #[.int .i64 0, .slice none 0 0]) w :=
  Maps.look_nil false lawK Try.underlying77 (zeroR _) (keyP hp)

def plcN (f : Nat → Option Rc) : List Nat := (List.range 64).filter (fun p => (f p).isSome)
def plcL (f : Nat → Option Rc) : List Int := (plcN f).map (fun p : Nat => (p : Int))
theorem plcN_lt {f : Nat → Option Rc} {p : Nat} (h : p ∈ plcN f) : p < 64 ∧ ∃ r, f p = some r := by
  simp only [plcN, List.mem_filter, List.mem_range] at h
  exact ⟨h.1, Option.isSome_iff_exists.1 h.2⟩
theorem plcL_rise (f : Nat → Option Rc) : (plcL f).Pairwise (· < ·) := by
  unfold plcL
  rw [List.pairwise_map]
  refine List.Pairwise.imp ?_ ((List.pairwise_lt_range (n := 64)).filter _)
  intro a b h; omega
theorem plcL_mem {w : World} {B n : Nat} {D : DataW Value} {f : Nat → Option Rc} (h : MpR w B n D f) (x : Int) : x ∈ plcL f ↔ has D (.int .i64 x) = true := by
  simp only [plcL, plcN, List.mem_map, List.mem_filter, List.mem_range]
  constructor
  · rintro ⟨p, ⟨hp, hs⟩, rfl⟩
    obtain ⟨r, hr⟩ := Option.isSome_iff_exists.1 hs
    exact (h.yes p hp r hr).1
  · intro hh
    obtain ⟨p, hp, e⟩ := h.only _ hh
    simp only [Lit.int.injEq, true_and] at e
    subst e
    refine ⟨p, ⟨hp, ?_⟩, rfl⟩
    cases hf : f p with
    | none => rw [h.no p hp hf] at hh; cases hh
    | some r => rfl
theorem MpR.perm {w : World} {B n : Nat} {D : DataW Value} {f : Nat → Option Rc} (h : MpR w B n D f) : (plcL f).Perm (intKeys D) := by
  obtain ⟨es, hD, hpw, _⟩ := h.own.entries lawK
  obtain ⟨es', hD', hko⟩ := h.own.keysOf
  obtain rfl : es = es' := by rw [hD] at hD'; simpa using hD'
  subst hD
  exact perm_intKeys hpw (fun p hp => by obtain ⟨v, hv⟩ := hko p hp; obtain ⟨x, _, hx, _⟩ := Maps.keyOf_i64 Try.underlying3 hv; exact ⟨x, hx⟩) ((plcL_rise f).imp (fun h => Int.ne_of_lt h)) (plcL_mem h)
theorem MpR.sorted {w : World} {B n : Nat} {D : DataW Value} {f : Nat → Option Rc} (h : MpR w B n D f) {ss : List Int} (hp : ss.Perm (intKeys D)) : ss.mergeSort (fun x y => decide (x ≤ y)) = plcL f := by
  have tr : ∀ a b c : Int, decide (a ≤ b) = true → decide (b ≤ c) = true → decide (a ≤ c) = true := fun a b c h1 h2 => by simp only [decide_eq_true_eq] at *; omega
  have tot : ∀ a b : Int, (decide (a ≤ b) || decide (b ≤ a)) = true := fun a b => by simp only [Bool.or_eq_true, decide_eq_true_eq]; omega
  refine List.Perm.eq_of_pairwise (le := fun a b => decide (a ≤ b) = true) (fun a b _ _ h1 h2 => by simp only [decide_eq_true_eq] at h1 h2; omega) (List.pairwise_mergeSort tr tot ss) ((plcL_rise f).imp fun {a b} h => by simp only [decide_eq_true_eq]; omega) (((List.mergeSort_perm ss _).trans hp).trans h.perm.symm)

theorem sorts_in (m : Nat) : AnyZI.SortsIn Try.prog lay_sortedA_ren Fence.wide m :=
  ⟨fun blk off cap ss W hH hblk hsz => callsIn_wide.2 (AnyM.slices_Sort_int lay_sortA blk off cap ss W hH hblk hsz),
   fun p cap W => callsIn_wide.2 (AnyM.slices_Sort_int_none lay_sortA p cap W)⟩
theorem mapsKeys_any (mb : Option Nat) (W : World) : Calls Try.prog 100 #[.map mb] W fun e w' => e = .returned (.func (.func 133) #[] #[.pointer (some ⟨W.heap.size, 0, none⟩)]) ∧ w' = W.alloc (.cells #[.map mb] 77) :=
  (callsIn_wide (n := 5)).1 (AnyZI.keys_in lay_keysA Fence.wide 5 trivial rfl mb W)
theorem sorted_any (B n : Nat) (D : DataW Value) (f : Nat → Option Rc) (w : World) (h : MpR w B n D f) (hn : n ≤ 1000000) :
    Calls Try.prog 99 #[.func (.func 133) #[] #[.pointer (some ⟨w.heap.size, 0, none⟩)]] (w.alloc (.cells #[.map (some B)] 77)) fun e w' => ∃ v, e = .returned v ∧ OwnN w' w.heap.size v (plcL f) ∧ Below w.heap.size w w' := by
  have hbl := h.lt
  have hsz := h.own.size_le
  have hseq : SeqGives Fence.wide 2 Try.prog 133 #[.pointer (some ⟨w.heap.size, 0, none⟩)] encZ (fun ss => ss.Perm (intKeys D)) (Maps.size D) (w.alloc (.cells #[.map (some B)] 77)) :=
    AnyZI.keys_gives (ρ := lay_keysA_ren) { lay_keysA with } Fence.wide _ trivial rfl (by omega) w.heap.size B n D _ (by simp) (by simp) (h.own.alloc _)
  have cS := AnyZI.sorted_in lay_sortedA Fence.wide 5 trivial trivial trivial trivial rfl (by omega) (sorts_in _) (enters_of Try.func132 (by kernel_rfl) rfl) 133 #[.pointer (some ⟨w.heap.size, 0, none⟩)] trivial (enters_of Try.func133 (by kernel_rfl) rfl) _ _ (by unfold maxLen; omega) (by omega) _ hseq
  change CallsIn _ _ Try.prog 99 _ _ _ at cS
  refine ((callsIn_wide (n := 5)).1 cS).mono ?_
  rintro e w' ⟨v, ss, rfl, hS, hrow, hnil, hb⟩
  have hs := h.sorted hS
  refine ⟨v, rfl, ?_, ((Below.refl _ w).alloc (Nat.le_refl _) _).trans (hb.mono (by simp))⟩
  have hlen : ss.length = (plcL f).length := by rw [← hs]; exact (List.mergeSort_perm ss _).length_eq.symm
  rw [hs, hlen] at hrow
  replace hrow := ownsRow_base_a hrow (base' := w.heap.size) (by simp)
  have hx : (plcL f).map encZ = intV (plcL f) := rfl
  rw [hx] at hrow
  rcases hrow.2 with ⟨hv, h0⟩ | ⟨g, cap, cur, hv, hrest⟩
  · have e0 : plcL f = [] := List.eq_nil_of_length_eq_zero h0
    rw [e0, hv]
    exact OwnN.nil _ _ _
  · have hr := hrow
    rw [hv] at hr ⊢
    exact ⟨_, _, rfl, OwnR.of hr (fun h0 => by
      have : v = .slice none 0 0 := hnil.2 (List.eq_nil_of_length_eq_zero (by omega))
      rw [this] at hv; cases hv)⟩

end Go.Proofs.Ytpdpnepnfhbonaa

namespace Go.Proofs.Ytpdpnepnfhbonaa
open Go.RowKit
set_option linter.unusedVariables false
set_option maxRecDepth 100000

def rcAt (m : Img) (p : Nat) : Option Rc :=
  if p = 9 then some (1, supL m) else if p = 10 then some (2, ctNs m.refs) else if 11 ≤ p ∧ p ≤ 14 then ((imTabs m)[p - 11]?).map (fun t => (3, t))
  else if 15 ≤ p ∧ p < 39 ∧ 0 < m.refs.getD (p - 15) 0 then some (4, [m.data.getD (p - 15) 0]) else none
def rcTo (m : Img) (K p : Nat) : Option Rc := if p < K then rcAt m p else none
theorem rcAt_tab {m : Img} {k : Nat} (hk : k < 4) : rcAt m (11 + k) = ((imTabs m)[k]?).map (fun t => (3, t)) := by
  unfold rcAt
  rw [if_neg (by omega), if_neg (by omega), if_pos (by omega), show 11 + k - 11 = k by omega]
theorem rcAt_dat {m : Img} {c : Nat} (hc : c < 24) : rcAt m (15 + c) = if 0 < m.refs.getD c 0 then some (4, [m.data.getD c 0]) else none := by
  unfold rcAt
  rw [if_neg (by omega), if_neg (by omega), if_neg (by omega), show 15 + c - 15 = c by omega]
  by_cases h : 0 < m.refs.getD c 0
  · rw [if_pos ⟨by omega, by omega, h⟩, if_pos h]
  · rw [if_neg (by intro h2; exact h h2.2.2), if_neg h]
theorem rcAt_none {m : Img} {p : Nat} (h : p < 9 ∨ 39 ≤ p) : rcAt m p = none := by
  unfold rcAt
  rw [if_neg (by omega), if_neg (by omega), if_neg (by omega), if_neg (by omega)]
theorem rcTo_two (m : Img) : setF (setF (fun _ => none) 9 (1, supL m)) 10 (2, ctNs m.refs) = rcTo m 11 := by
  funext p
  simp only [rcTo, setF]
  by_cases h1 : p = 9
  · subst h1; simp [rcAt]
  · by_cases h2 : p = 10
    · subst h2; simp [rcAt]
    · simp only [h1, h2, if_false]
      by_cases h3 : p < 11
      · rw [if_pos h3, rcAt_none (.inl (by omega))]
      · rw [if_neg h3]
theorem rcTo_tab {m : Img} {k : Nat} (hk : k < (imTabs m).length) (h4 : k < 4) : setF (rcTo m (11 + k)) (11 + k) (3, (imTabs m)[k]) = rcTo m (11 + (k + 1)) := by
  funext p
  simp only [rcTo, setF]
  by_cases h1 : p = 11 + k
  · subst h1
    rw [if_pos rfl, if_pos (by omega), rcAt_tab h4, List.getElem?_eq_getElem hk]; rfl
  · rw [if_neg h1]
    by_cases h2 : p < 11 + k
    · rw [if_pos h2, if_pos (by omega)]
    · rw [if_neg h2, if_neg (by omega)]
theorem rcTo_tabs {m : Img} (h4 : (imTabs m).length ≤ 4) : rcTo m (11 + (imTabs m).length) = rcTo m (15 + 0) := by
  funext p
  simp only [rcTo]
  by_cases h1 : p < 11 + (imTabs m).length
  · rw [if_pos h1, if_pos (by omega)]
  · rw [if_neg h1]
    by_cases h2 : p < 15 + 0
    · rw [if_pos h2]
      have hp : 11 ≤ p := by
        rcases Nat.lt_or_ge p 11 with h | h
        · exact absurd h (by omega)
        · exact h
      have := rcAt_tab (m := m) (k := p - 11) (by omega)
      rw [show 11 + (p - 11) = p by omega, List.getElem?_eq_none (by omega)] at this
      rw [this]; rfl
    · rw [if_neg h2]
theorem rcTo_dat {m : Img} {c : Nat} (hc : c < 24) (h : 0 < m.refs.getD c 0) : setF (rcTo m (15 + c)) (15 + c) (4, [m.data.getD c 0]) = rcTo m (15 + (c + 1)) := by
  funext p
  simp only [rcTo, setF]
  by_cases h1 : p = 15 + c
  · subst h1
    rw [if_pos rfl, if_pos (by omega), rcAt_dat hc, if_pos h]
  · rw [if_neg h1]
    by_cases h2 : p < 15 + c
    · rw [if_pos h2, if_pos (by omega)]
    · rw [if_neg h2, if_neg (by omega)]
theorem rcTo_no {m : Img} {c : Nat} (hc : c < 24) (h : ¬ 0 < m.refs.getD c 0) : rcTo m (15 + c) = rcTo m (15 + (c + 1)) := by
  funext p
  simp only [rcTo]
  by_cases h1 : p = 15 + c
  · subst h1
    rw [if_neg (by omega), if_pos (by omega), rcAt_dat hc, if_neg h]
  · by_cases h2 : p < 15 + c
    · rw [if_pos h2, if_pos (by omega)]
    · rw [if_neg h2, if_neg (by omega)]
theorem rcTo_all (m : Img) : rcTo m (15 + 24) = rcAt m := by
  funext p
  simp only [rcTo]
  by_cases h2 : p < 15 + 24
  · rw [if_pos h2]
  · rw [if_neg h2, rcAt_none (.inr (by omega))]

end Go.Proofs.Ytpdpnepnfhbonaa

namespace Go.Proofs.Ytpdpnepnfhbonaa
open Go.RowKit
set_option linter.unusedVariables false
set_option maxRecDepth 100000

theorem nm1_at {t : ByteArray} (h : t.data.toList.all nm1 = true) {k : Nat} (hk : k < t.size) : nm1 t[k] = true := by
  have e : t.data.toList[k]'(by simpa using hk) = t[k] := by have := snm_get hk; rw [List.getElem?_eq_getElem (by simpa using hk)] at this; exact Option.some.inj this
  rw [← e]
  exact List.all_eq_true.1 h _ (List.getElem_mem _)

set_option maxHeartbeats 1600000 in
theorem packLetters_any (t : ByteArray) (w : World) (hn : snmB t = true) :
    Calls Try.prog 42 #[.string t] w fun e w' => e = .returned (.int .i64 (nmN t)) ∧ Below w.heap.size w w' := by
  obtain ⟨hal, h1, h6⟩ := snm_parts hn
  have HAL := hide hal
  clear hn hal
  have hcv := fun (W : World) => Lib.run_convert_string_bytes (P := Try.prog) W 9 22 5 t Try.underlying9 Try.underlying22 Try.underlying5
  have HB := hide (below_bytes w 5 t)
  have HCL := hide (Lib.bytesWorld_cell w 5 t)
  go_enter Try.func42, Try.ntmps42
  go_wp2
  revert HB HCL
  generalize Lib.bytesWorld w 5 t = w1
  generalize grownCap w t.size 0 5 = gc
  intro HB HCL
  clear hcv
  go_loop [3, 9] (fun n i => ∃ k : Nat, k ≤ t.size ∧ i = .int .i64 k ∧ n = .int .i64 (nmK t k)) (fun _ i => t.size - (intOf i).toNat)
  case atStart => exact ⟨0, Nat.zero_le _, rfl, rfl⟩
  case round =>
    obtain ⟨k, hk, rfl, rfl⟩ := hrel
    by_cases hlt : k < t.size
    · have hlti : (k : Int) < (t.size : Int) := by omega
      have hck := unhide HCL k hlt
      have eck : (t.data.toList.getD k 0) = t[k] := by simp [List.getD, snm_get hlt]
      rw [eck] at hck
      clear eck
      have hnm := nm1_at (unhide HAL) hlt
      simp only [nm1, Bool.and_eq_true, decide_eq_true_eq] at hnm
      have HS : Hid (nmK t (k + 1) = nmK t k * 27 + ((t[k].toNat : Int) - 96)) := hide (by
        rw [nmK_succ hlt]
        have e : t.data.toList[k]'(by simpa using hlt) = t[k] := by have := snm_get hlt; rw [List.getElem?_eq_getElem (by simpa using hlt)] at this; exact Option.some.inj this
        rw [e]
        unfold ch1
        omega)
      obtain ⟨b0, b1⟩ := nmK_le t k hk
      obtain ⟨d0, d1⟩ := bd27_le k (by omega)
      obtain ⟨c0, c1⟩ := hnm
      have hu : IntKind.u8.wrap ((t[k].toNat : Int) - 96) = ((t[k].toNat : Int) - 96) := by simp [IntKind.wrap, IntKind.bits, IntKind.signed]; omega
      generalize nmK t k = X at *
      generalize hD : ((t[k].toNat : Int) - 96) = D at *
      have w1 : IntKind.i64.wrap (X * 27) = X * 27 := by rw [IntKind.wrap_i64]; omega
      have w2 : IntKind.i64.wrap D = D := by rw [IntKind.wrap_i64]; omega
      have w3 : IntKind.i64.wrap (X * 27 + D) = X * 27 + D := by rw [IntKind.wrap_i64]; omega
      have HD := hide hD
      rw [← hD] at hu w2 w3
      go_wp2
      go_round
      case rel => exact ⟨k + 1, by omega, by go_num, by rw [unhide HS]⟩
      case measure => simp [intOf]; omega
    · obtain rfl : k = t.size := by omega
      have HF := hide (nmK_all t)
      go_wp2
      go_ret
      exact ⟨ret_int (unhide HF), unhide HB⟩

end Go.Proofs.Ytpdpnepnfhbonaa

namespace Go.Proofs.Ytpdpnepnfhbonaa
open Go.RowKit
set_option linter.unusedVariables false
set_option maxRecDepth 100000

set_option maxHeartbeats 1600000 in
theorem packNames_any (so : Option Addr) (sc : Nat) (m : Img) (w : World) (hR : ImR m) (hc : Sns w so m.snaps) :
    Calls Try.prog 103 #[.slice so m.snaps.length sc] w fun e w' => ∃ qo qa, e = .returned (.slice qo (supL m).length qa) ∧ Is w' qo (supL m) ∧ Below w.heap.size w w' := by
  have HC := hide hc
  have HNS : Hid (∀ k (h : k < m.snaps.length), snmB m.snaps[k].name = true) := hide (fun k h => (hR.snaps _ (List.getElem_mem h)).1)
  have hs3 := hR.few
  have HSL : Hid ((supL m).length = m.snaps.length + 1) := hide (by simp [supL])
  clear hc hR
  obtain ⟨j0, hj, hy0, hy1, hy2⟩ := info_parts infoM
  go_enter Try.func103, Try.ntmps103
  go_upto_region 1 with fail
  have H0 : Hid (OwnR (w.alloc (.cells #[.int .i64 (m.snaps.length : Int)] 3)) w.heap.size 3 1 (.slice (some ⟨w.heap.size, 0, none⟩) 1 1) 1 (intV ((supL m).take 1)) ∧ Below w.heap.size w (w.alloc (.cells #[.int .i64 (m.snaps.length : Int)] 3))) := hide
    ⟨.inr ⟨by omega, by have := World.ownsRow_lit (base := w.heap.size) (e := 3) (size := 1) w #[.int .i64 (m.snaps.length : Int)] 1 (Nat.le_refl _) (by unfold maxLen; omega) rfl; simpa [supL, intV] using this⟩, Joins.below_alloc1 _ _⟩
  go_wp2
  go_loopw [3, 11] (fun o i wr => ∃ (k : Nat) (qo : Option Addr) (qa : Nat), k ≤ m.snaps.length ∧ i = .int .i64 k ∧ o = .slice qo (k + 1) qa ∧ Hid (OwnR wr w.heap.size 3 1 (.slice qo (k + 1) qa) (k + 1) (intV ((supL m).take (k + 1))) ∧ Below w.heap.size w wr)) (fun _ i _ => m.snaps.length - (intOf i).toNat)
  case atStart => exact ⟨0, _, _, Nat.zero_le _, rfl, rfl, H0⟩
  case round =>
    clear H0
    obtain ⟨k, qo, qa, hk, rfl, rfl, HO⟩ := hrel
    by_cases hlt : k < m.snaps.length
    · obtain ⟨b, off, tq, tc, eb, hn0, ht0, _, _, _⟩ := ((unhide HC).below (unhide HO).2) k hlt
      have hlti : (k : Int) < (m.snaps.length : Int) := by omega
      have HST : Hid (intV ((supL m).take (k + 1 + 1)) = intV ((supL m).take (k + 1)) ++ [.int .i64 (nmN m.snaps[k].name)]) := hide (by rw [supL_take hlt]; simp [intV])
      have HX := hide (VarN.new wr m.snaps[k].name (.slice tq m.snaps[k].table.length tc))
      have HBX := hide (Joins.below_alloc1 wr (.cells #[.string m.snaps[k].name, .slice tq m.snaps[k].table.length tc] 60))
      go_upto_region 5 with fail
      revert HX HBX
      generalize (wr.alloc _) = w2
      intro HX HBX
      obtain ⟨x0, x1⟩ := (unhide HX).cells
      have HO2 := hide ((unhide HO).1.below (unhide HBX))
      have HB2 := hide (fr (unhide HO).2 (unhide HBX))
      clear HX HBX hn0 ht0 eb HO
      go_wp2_with fail
      refine (packLetters_any m.snaps[k].name _ (unhide HNS k hlt)).mono ?_
      rintro e w3 ⟨rfl, hb3⟩
      generalize nmN m.snaps[k].name = NN at *
      have HO3 := hide ((unhide HO2).below hb3)
      have HB3 := hide (fr (unhide HB2) hb3)
      clear hb3 HO2 HB2 x0 x1
      have HOA := hide ((unhide HO3).below (Joins.below_alloc1 _ (.cells #[.int .i64 NN] 3)))
      have HBA := hide (fr (unhide HB3) (Joins.below_alloc1 _ (.cells #[.int .i64 NN] 3)))
      have HSZ := hide (unhide HB3).size
      go_wp2_with (at_builtin; refine wpList_append_one rfl _ _ 23 rfl w.heap.size 3 j0 (.int .i64 0) 1 8 Try.underlying23 hj hy0 hy1 hy2 rfl (by omega) qo (k + 1) qa (intV ((supL m).take (k + 1))) rfl (unhide HOA) (by have := unhide HSZ; simp; omega) ⟨w3.heap.size, 0, none⟩ _ [.int .i64 NN] rfl rfl (byte_news w3 _ _) (int_one _) (by unfold maxLen; omega) (by omega) ?_; intro g2 cap2 wA hoA hkA; have HSF := hide (And.intro hoA (keep_below (unhide HBA) (unhide HOA) (Nat.le_refl _) hkA)); clear hoA hkA)
      go_roundw
      case rel => exact ⟨k + 1, some ⟨g2, 0, none⟩, cap2, by omega, by go_num, rfl, hide ⟨.inr ⟨by omega, by rw [unhide HST]; exact (unhide HSF).1⟩, (unhide HSF).2⟩⟩
      case measure => simp [intOf]; omega
    · obtain rfl : k = m.snaps.length := by omega
      have HIS : Hid (Is wr qo (supL m)) := hide (by
        have h := (unhide HO).1
        rw [List.take_of_length_le (by rw [unhide HSL]; exact Nat.le_refl _), ← unhide HSL] at h
        exact ownRN h)
      go_wp2
      go_ret
      exact ⟨qo, qa, by rw [unhide HSL]; rfl, unhide HIS, (unhide HO).2⟩

theorem eqN_at {xs ys : List Int} {k : Nat} (h1 : k < xs.length) (h2 : k < ys.length) (h : xs[k] ≠ ys[k]) : eqNB xs ys = false := by
  simp only [eqNB, decide_eq_false_iff_not]
  intro e; subst e; exact h rfl
theorem eqN_len {xs ys : List Int} (h : xs.length ≠ ys.length) : eqNB xs ys = false := by
  simp only [eqNB, decide_eq_false_iff_not]
  intro e; subst e; exact h rfl
theorem eqN_all {xs ys : List Int} (hl : xs.length = ys.length) (h : ∀ j (h1 : j < xs.length) (h2 : j < ys.length), xs[j] = ys[j]) : eqNB xs ys = true := by
  simp only [eqNB, decide_eq_true_eq]
  exact List.ext_getElem hl (fun j h1 h2 => h j h1 h2)

set_option maxHeartbeats 1600000 in
theorem slicesEqual_any (ao bo : Option Addr) (ca cb : Nat) (xs ys : List Int) (w : World) (h1 : xs.length ≤ maxLen) (h2 : ys.length ≤ maxLen) (hx : Is w ao xs) (hy : Is w bo ys) :
    Calls Try.prog 134 #[.slice ao xs.length ca, .slice bo ys.length cb] w fun e w' => e = .returned (.bool (eqNB xs ys)) ∧ Below w.heap.size w w' := by
  have HX := hide hx
  have HY := hide hy
  clear hx hy
  unfold maxLen at h1 h2
  by_cases hl : xs.length = ys.length
  · have HL := hide hl
    have hlb : ((xs.length : Int) != (ys.length : Int)) = false := by simp [hl]
    clear hl
    go_enter Try.func134, Try.ntmps134
    go_wp2
    go_loopw [13] (fun i wr => ∃ k : Nat, k ≤ xs.length ∧ i = .int .i64 k ∧ Hid (∀ j (h1 : j < xs.length) (h2 : j < ys.length), j < k → xs[j] = ys[j]) ∧ Hid (Below w.heap.size w wr)) (fun i _ => xs.length - (intOf i).toNat)
    case atStart => exact ⟨0, Nat.zero_le _, rfl, hide (fun j _ _ h => by omega), hide (Below.refl _ _)⟩
    case round =>
      obtain ⟨k, hk, rfl, HA, HB⟩ := hrel
      by_cases hlt : k < xs.length
      · have hly : k < ys.length := by have := unhide HL; omega
        obtain ⟨b, off, rfl, hcx⟩ := ((unhide HX).below (unhide HB)) k hlt
        obtain ⟨b', off', rfl, hcy⟩ := ((unhide HY).below (unhide HB)) k hly
        have hi1 : (k : Int) < (xs.length : Int) := by omega
        have hi2 : (k : Int) < (ys.length : Int) := by omega
        have hi0 : (0 : Int) ≤ (k : Int) := by omega
        by_cases he : xs[k] = ys[k]
        · have HN : Hid (∀ j (h1 : j < xs.length) (h2 : j < ys.length), j < k + 1 → xs[j] = ys[j]) := hide (fun j h1 h2 hj => by
            by_cases e : j = k
            · subst e; exact he
            · exact unhide HA j h1 h2 (by omega))
          rw [← he] at hcy
          generalize xs[k] = X at *
          have hbe : (X != X) = false := by simp
          go_wp2
          go_region
          all_goals
            go_wp2
            go_roundw
            case rel => exact ⟨k + 1, by omega, by go_num, HN, hide (by exact (unhide HB).drew)⟩
            case measure => simp [intOf]; omega
        · have HF := hide (eqN_at hlt hly he)
          have hbe : (xs[k] != ys[k]) = true := by simp [he]
          generalize xs[k] = X at *
          generalize ys[k] = Y at *
          go_wp2
          go_region
          all_goals
            go_wp2
            go_ret
            exact ⟨ret_bool (unhide HF).symm, (by exact (unhide HB).drew)⟩
      · have HF := hide (eqN_all (unhide HL) (fun j h1 h2 => unhide HA j h1 h2 (by omega)))
        go_wp2
        go_ret
        exact ⟨ret_bool (unhide HF).symm, unhide HB⟩
  · have HF := hide (eqN_len hl)
    have hlb : ((xs.length : Int) != (ys.length : Int)) = true := by simp; omega
    clear hl
    go_enter Try.func134, Try.ntmps134
    go_wp2
    go_ret
    exact ⟨ret_bool (unhide HF).symm, Below.refl _ _⟩

def VarRk (w : World) (x : Nat) (r : Rc) (ao : Option Addr) (cap : Nat) : Prop := w.heap[x]? = some (.cells #[.int .i64 r.1, .slice ao r.2.length cap] 121 (0, 0))
theorem VarRk.cells {w : World} {x : Nat} {r : Rc} {ao : Option Addr} {cap : Nat} (k : VarRk w x r ao cap) : w.cell? ⟨x, 0, none⟩ = some (.int .i64 r.1) ∧ w.cell? ⟨x, 1, none⟩ = some (.slice ao r.2.length cap) := ⟨by rw [Joins.cell_of_block k]; rfl, by rw [Joins.cell_of_block k]; rfl⟩
theorem VarRk.new (w : World) (r : Rc) (ao : Option Addr) (cap : Nat) : VarRk (w.alloc (.cells #[.int .i64 r.1, .slice ao r.2.length cap] 121)) w.heap.size r ao cap := heap_alloc_new w _
theorem VarRk.below {w w' : World} {x : Nat} {r : Rc} {ao : Option Addr} {cap : Nat} (h : VarRk w x r ao cap) (hb : Below w.heap.size w w') : VarRk w' x r ao cap := block_of_below h hb
def rcEq (r s : Rc) : Bool := decide (r.1 = s.1) && eqNB r.2 s.2
theorem rcEq_iff {r s : Rc} : rcEq r s = true ↔ r = s := by
  simp only [rcEq, eqNB, Bool.and_eq_true, decide_eq_true_eq]
  exact ⟨fun h => Prod.ext h.1 h.2, fun h => by rw [h]; exact ⟨rfl, rfl⟩⟩

set_option maxHeartbeats 1600000 in
theorem like_any (r s : Rc) (ao bo : Option Addr) (ca cb : Nat) (w : World) (h1 : r.2.length ≤ maxLen) (h2 : s.2.length ≤ maxLen) (hx : Is w ao r.2) (hy : Is w bo s.2) :
    Calls Try.prog 101 #[rcV r ao ca, rcV s bo cb] w fun e w' => e = .returned (.bool (rcEq r s)) ∧ Below w.heap.size w w' := by
  have HV1 := hide ((VarRk.new w r ao ca).below (Joins.below_alloc1 _ (.cells #[.int .i64 s.1, .slice bo s.2.length cb] 121)))
  have HV2 : Hid (VarRk ((w.alloc (.cells #[.int .i64 r.1, .slice ao r.2.length ca] 121)).alloc (.cells #[.int .i64 s.1, .slice bo s.2.length cb] 121)) (w.heap.size + 1) s bo cb) := hide (by
    have := VarRk.new (w.alloc (.cells #[.int .i64 r.1, .slice ao r.2.length ca] 121)) s bo cb
    rwa [World.size_alloc] at this)
  have HB := hide (Joins.below_alloc2 w (.cells #[.int .i64 r.1, .slice ao r.2.length ca] 121) (.cells #[.int .i64 s.1, .slice bo s.2.length cb] 121))
  have H1 := hide h1
  have H2 := hide h2
  have HX := hide (hx.below (unhide HB))
  have HY := hide (hy.below (unhide HB))
  clear hx hy h1 h2
  unfold rcV
  go_enter Try.func101, Try.ntmps101
  go_upto_region 1 with fail
  revert HV1 HV2 HB HX HY
  generalize ((w.alloc _).alloc _) = W
  intro HV1 HV2 HB HX HY
  obtain ⟨c0, c1⟩ := (unhide HV1).cells
  obtain ⟨d0, d1⟩ := (unhide HV2).cells
  by_cases he : r.1 = s.1
  · have HF : Hid (rcEq r s = eqNB r.2 s.2) := hide (by simp [rcEq, he])
    have hbe : (r.1 == s.1) = true := by simp [he]
    go_wp2_with fail
    refine (slicesEqual_any ao bo ca cb r.2 s.2 _ (unhide H1) (unhide H2) (unhide HX) (unhide HY)).mono ?_
    rintro e w1 ⟨rfl, hb⟩
    have HB1 := hide (fr (unhide HB) hb)
    clear hb
    go_wp2
    go_ret
    exact ⟨ret_bool (unhide HF).symm, unhide HB1⟩
  · have HF : Hid (rcEq r s = false) := hide (by simp [rcEq, he])
    have hbe : (r.1 == s.1) = false := by simp [he]
    go_wp2
    go_ret
    exact ⟨ret_bool (unhide HF).symm, unhide HB⟩

def rcT (r : Rc) : ByteArray := sealT r.1 r.2

set_option maxHeartbeats 1600000 in
theorem textR_any (r : Rc) (ao : Option Addr) (ca : Nat) (w : World) (h1 : r.2.length ≤ 1048576) (hx : Is w ao r.2) :
    Calls Try.prog 102 #[rcV r ao ca] w fun e w' => e = .returned (.string (rcT r)) ∧ Below w.heap.size w w' := by
  have HV := hide (VarRk.new w r ao ca)
  have HB := hide (Joins.below_alloc1 w (.cells #[.int .i64 r.1, .slice ao r.2.length ca] 121))
  have HX := hide (hx.below (unhide HB))
  have H1 := hide h1
  have HT : Hid (rcT r = sealT r.1 r.2) := hide rfl
  clear hx h1
  unfold rcV
  go_enter Try.func102, Try.ntmps102
  go_upto_region 1 with fail
  revert HV HB HX
  generalize (w.alloc _) = W
  intro HV HB HX
  obtain ⟨c0, c1⟩ := (unhide HV).cells
  go_wp2_with fail
  refine (sealRecord_impl r.1 ao ca r.2 _ (unhide H1) (unhide HX)).mono ?_
  rintro e w1 ⟨rfl, hb⟩
  have HB1 := hide (fr (unhide HB) hb)
  clear hb
  go_wp2
  go_ret
  exact ⟨rfl, unhide HB1⟩

end Go.Proofs.Ytpdpnepnfhbonaa
