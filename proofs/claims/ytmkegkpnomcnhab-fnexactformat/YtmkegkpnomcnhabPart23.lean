import Derived.Test.YtmkegkpnomcnhabRows
import Derived.Test.YtmkegkpnomcnhabPart1
import Derived.Test.YtmkegkpnomcnhabPart2
import Derived.Test.YtmkegkpnomcnhabPart7
import Derived.Test.YtmkegkpnomcnhabPart8
import Derived.Test.YtmkegkpnomcnhabPart10
import Derived.Test.YtmkegkpnomcnhabPart11
import Derived.Test.YtmkegkpnomcnhabPart22
import Derived.Test.YtmkegkpnomcnhabPart12
import Derived.Test.YtmkegkpnomcnhabPart13
import Derived.Test.YtmkegkpnomcnhabPart16
import Derived.Test.YtmkegkpnomcnhabPart18
import Derived.WalkKit
import Derived.WalkSpells
import Derived.KernelRfl
import Derived.LoopN
import Derived.BigQuiet
import Derived.Deep.QuietTactic
import Derived.Deep.RegionWith
import Derived.Laws.BytesArg
import Derived.Laws.CopyRow
import Derived.Laws.CopyOwn
import Derived.Deep.RegionLaw
import Derived.Deep.AppendLies
import Derived.Deep.CutRange
import Derived.Laws.ResultCell
import Derived.Deep.MidRow
import Derived.Laws.MakeOwn
import Derived.Laws.OwnMore
import Derived.Shelf.SlIterI.Nil
import Derived.Shelf.SortM.Plain
import Derived.Shelf.SortM.SortNone

/- Contracts of impl.ReadCluster, impl.NewImage. -/
namespace Go.Proofs.Ytmkegkpnomcnhab
open Go.RowKit
set_option linter.unusedVariables false
set_option maxRecDepth 100000

section
variable (w : World) (r a b c : Obj)
theorem chI0 : ((((w.alloc r).alloc a).alloc b).alloc c).drew.heap[w.heap.size]? = some r := blk_belowI (blk_belowI (blk_belowI (blk_belowI (heap_alloc_new w r) (Joins.below_alloc1 _ _)) (Joins.below_alloc1 _ _)) (Joins.below_alloc1 _ _)) (Below.refl _ _).drew
theorem chI1 : ((((w.alloc r).alloc a).alloc b).alloc c).drew.heap[w.heap.size + 1]? = some a := by
  have h := heap_alloc_new (w.alloc r) a
  rw [World.size_alloc] at h
  exact blk_belowI (blk_belowI (blk_belowI h (Joins.below_alloc1 _ _)) (Joins.below_alloc1 _ _)) (Below.refl _ _).drew
theorem chI2 : ((((w.alloc r).alloc a).alloc b).alloc c).drew.heap[w.heap.size + 1 + 1]? = some b := by
  have h := heap_alloc_new ((w.alloc r).alloc a) b
  rw [World.size_alloc, World.size_alloc] at h
  exact blk_belowI (blk_belowI h (Joins.below_alloc1 _ _)) (Below.refl _ _).drew
theorem chI3 : ((((w.alloc r).alloc a).alloc b).alloc c).drew.heap[w.heap.size + 1 + 1 + 1]? = some c := by
  have h := heap_alloc_new (((w.alloc r).alloc a).alloc b) c
  rw [World.size_alloc, World.size_alloc, World.size_alloc] at h
  exact blk_belowI h (Below.refl _ _).drew
theorem chIB : Below w.heap.size w ((((w.alloc r).alloc a).alloc b).alloc c).drew := (fr (Joins.below_alloc3 w r a b) (Joins.below_alloc1 _ c)).drew
end
theorem new_leafI {w W : World} {n g0 g1 g3 : Nat} (hn : n ≤ 1000) (h0 : W.heap[g0]? = some (.cells (intV zero24).toArray 3 (0, 0))) (h1 : W.heap[g1]? = some (.cells (intV (List.replicate n 0)).toArray 3 (0, 0))) (h3 : W.heap[g3]? = some (.cells (intV zero24).toArray 3 (0, 0)))
    (n1 : g0 ≠ g1) (n2 : g0 ≠ g3) (n3 : g1 ≠ g3) (b0 : w.heap.size ≤ g0) (b1 : w.heap.size ≤ g1) (b3 : w.heap.size ≤ g3) (hb : Below w.heap.size w W) :
    AnsI w W (.returned (.tuple #[.agg #[.slice (some ⟨g0, 0, none⟩) 24 24, .slice (some ⟨g1, 0, none⟩) n n, .slice none 0 0, .slice (some ⟨g3, 0, none⟩) 24 24], .int .i64 0])) (imNew n, 0) := by
  have hl : (imNew n).table.length = n := by simp [imNew]
  refine ⟨⟨some ⟨g0, 0, none⟩, 24, some ⟨g1, 0, none⟩, n, none, 0, some ⟨g3, 0, none⟩, 24⟩, [], by simp only [imV, hl]; rfl, ⟨rfl, .inl ⟨rfl, rfl, _, _, rfl⟩, ?_⟩, hb⟩
  have o0 := own_made (B := w.heap.size) (n := 24) h0 b0 rfl (by omega)
  have o1 := own_made (B := w.heap.size) (n := n) h1 b1 (by simp) hn
  have o3 := own_made (B := w.heap.size) (n := 24) h3 b3 rfl (by omega)
  have e : imRows ⟨some ⟨g0, 0, none⟩, 24, some ⟨g1, 0, none⟩, n, none, 0, some ⟨g3, 0, none⟩, 24⟩ (imNew n) [] = [(.slice (some ⟨g0, 0, none⟩) 24 24, zero24), (.slice (some ⟨g1, 0, none⟩) n n, List.replicate n 0), (.slice (some ⟨g3, 0, none⟩) 24 24, zero24)] := by
    simp only [imRows, hl]; rfl
  rw [e]
  refine ⟨fun r hr => ?_, ?_⟩
  · simp only [List.mem_cons, List.not_mem_nil, or_false] at hr
    rcases hr with rfl | rfl | rfl
    · exact o0
    · exact o1
    · exact o3
  · simp only [List.pairwise_cons, List.mem_cons, List.not_mem_nil, or_false, forall_eq_or_imp, forall_eq, List.Pairwise.nil, and_true]
    exact ⟨⟨own_ne (v := undef) n1, own_ne (v := undef) n2⟩, own_ne (v := undef) n3, fun _ h => h.elim⟩

set_option maxHeartbeats 6400000 in
theorem newImage_impl (n : Int) (w : World) :
    Calls Try.prog 20 #[.int .i64 n] w fun e w' => AnsI w w' e (niI n, niF n) := by
  have HA := hide (Joins.below_alloc1 w (.cells #[.slice none 0 0, .slice none 0 0, .slice none 0 0, .slice none 0 0] 47))
  have HV := hide (VarM.new w 47 (.slice none 0 0) (.slice none 0 0) (.slice none 0 0) (.slice none 0 0))
  cases hb : betw n 0 12
  · have HF : Hid (niF n = 4 ∧ niI n = im0) := hide (by
      have e : niF n = 4 := by rw [niF, hb]; rfl
      exact ⟨e, by rw [niI, e]; rfl⟩)
    go_enter Try.func20, Try.ntmps20
    go_upto_region 1 with fail
    revert HA HV
    generalize (w.alloc _) = W0
    intro HA HV
    obtain ⟨c0, c1, c2, c3⟩ := (unhide HV).cells
    obtain ⟨f0, f1, f2, f3⟩ := (unhide HV).free
    have HV2 := hide (((((unhide HV).set0 (.slice none 0 0)).set1 (.slice none 0 0)).set2 (.slice none 0 0)).set3 (.slice none 0 0))
    have HB2 := hide (((((unhide HA).setCell (p := ⟨w.heap.size, 0, none⟩) (Nat.le_refl _) (.slice none 0 0)).setCell (p := ⟨w.heap.size, 1, none⟩) (Nat.le_refl _) (.slice none 0 0)).setCell (p := ⟨w.heap.size, 2, none⟩) (Nat.le_refl _) (.slice none 0 0)).setCell (p := ⟨w.heap.size, 3, none⟩) (Nat.le_refl _) (.slice none 0 0))
    go_wp2_with (go_at_call 41; refine (within_any _ _ _ _).mono ?_; rintro e w' ⟨rfl, hw⟩; replace hw := hw.symm; subst hw; rw [hb])
    refine bodyPost_ret (res_ic Try.results20 rfl rfl (unhide HV2)) rfl ?_
    rw [(unhide HF).1, (unhide HF).2]
    exact AnsI.bad 4 (unhide HB2)
  · obtain ⟨l0, l1⟩ := betw_iff.1 hb
    obtain ⟨q, rfl⟩ := Int.eq_ofNat_of_zero_le l0
    have HF : Hid (niF (q : Int) = 0 ∧ niI (q : Int) = imNew q) := hide (by
      have e : niF (q : Int) = 0 := by rw [niF, hb]; rfl
      exact ⟨e, by rw [niI, e]; rfl⟩)
    have h24 := mk24
    have hmn := mkZ q (by omega)
    have HL := hide (fun (W : World) (g0 g1 g3 : Nat) => new_leafI (w := w) (W := W) (n := q) (g0 := g0) (g1 := g1) (g3 := g3) (by omega))
    generalize (intV zero24).toArray = Z24 at *
    generalize (intV (List.replicate q 0)).toArray = ZN at *
    clear HA HV
    rw [(unhide HF).1, (unhide HF).2]
    go_enter Try.func20, Try.ntmps20
    go_wp2_with (first | (go_at_call 41; refine (within_any _ _ _ _).mono ?_; rintro e w' ⟨rfl, hw⟩; replace hw := hw.symm; subst hw; rw [hb]) | fail)
    go_region
    all_goals
      go_wp2
      refine bodyPost_ret (res_ic Try.results20 rfl rfl (chI0 w _ _ _ _)) rfl ?_
      exact unhide HL _ _ _ _ (by first | exact chI1 _ _ _ _ _ | exact chI2 _ _ _ _ _ | exact chI3 _ _ _ _ _) (by first | exact chI1 _ _ _ _ _ | exact chI2 _ _ _ _ _ | exact chI3 _ _ _ _ _) (by first | exact chI1 _ _ _ _ _ | exact chI2 _ _ _ _ _ | exact chI3 _ _ _ _ _) (by omega) (by omega) (by omega) (by omega) (by omega) (by omega) (chIB _ _ _ _ _)

end Go.Proofs.Ytmkegkpnomcnhab

/- Contract of impl.packNumbers. -/
namespace Go.Proofs.Ytmkegkpnomcnhab
open Go.RowKit
set_option linter.unusedVariables false
set_option maxRecDepth 100000

theorem block_alloc {w : World} {g : Nat} {c : Array Value} {t : TypeId} {f : Nat × Nat} (h : w.heap[g]? = some (.cells c t f)) (o : Obj) : (w.alloc o).heap[g]? = some (.cells c t f) := by
  rw [(Joins.below_alloc1 w o).block g (Array.getElem?_eq_some_iff.1 h).1]; exact h

/-- The bytes that stand in the array when k numbers are in it. -/
def arrL (xs : List Int) (k : Nat) : List Value := byteV (packL (xs.take k)) ++ List.replicate (64 - k * 4) (.int .u8 0)
theorem arrL_zero (xs : List Int) : arrL xs 0 = List.replicate 64 (.int .u8 0) := by simp [arrL, packL, byteV]
theorem four_lit {n : Int} (h : 0 ≤ n) (h' : n ≤ 2147483647) : [Value.int .u8 (n % 256), .int .u8 (n / 256 % 256), .int .u8 (n / 65536 % 256), .int .u8 (n / 16777216)] = byteV (four n) := by
  have e : n / 16777216 = n / 16777216 % 256 := by omega
  have : byteV (four n) = [Value.int .u8 (n / (256 : Int) ^ 0 % 256), .int .u8 (n / (256 : Int) ^ 1 % 256), .int .u8 (n / (256 : Int) ^ 2 % 256), .int .u8 (n / (256 : Int) ^ 3 % 256)] := rfl
  rw [this, e]
  simp
theorem arrL_length {xs : List Int} {k : Nat} (hl : xs.length ≤ 16) (hk : k ≤ xs.length) : (arrL xs k).length = 64 := by
  rw [arrL, List.length_append, byteV_length, packL_length, List.length_replicate, List.length_take, Nat.min_eq_left hk]
  omega
theorem arrL_splice {xs : List Int} {k : Nat} (hl : xs.length ≤ 16) (hk : k < xs.length) : splice (arrL xs k) (k * 4) (byteV (four xs[k])) = arrL xs (k + 1) := by
  have h1 : (byteV (packL (xs.take k))).length = k * 4 := by rw [byteV_length, packL_length, List.length_take, Nat.min_eq_left (by omega)]
  have h4 : (byteV (four xs[k])).length = 4 := by rw [byteV_length, four, fourTo_length]
  unfold splice arrL
  rw [h4, List.take_append_of_le_length (by omega), List.take_of_length_le (by omega), List.drop_append, List.drop_of_length_le (by omega), List.nil_append, h1, packL_succ hk, List.drop_replicate]
  rw [show k * 4 + 4 - k * 4 = 4 by omega, show 64 - k * 4 - 4 = 64 - (k + 1) * 4 by omega]
  simp [byteV]
theorem arrL_cells {W : World} {g : Nat} {t : TypeId} {xs : List Int} (h : W.heap[g]? = some (.cells (arrL xs xs.length).toArray t (0, 0))) : ∀ i, i < xs.length * 4 → W.cell? ⟨g, 0 + i, none⟩ = some (.int .u8 ((packL xs).getD i 0)) := by
  intro i hi
  rw [Nat.zero_add, Joins.cell_of_block h]
  have hl : i < (packL xs).length := by rw [packL_length]; exact hi
  simp [arrL, byteV, List.getElem?_append_left, hl, List.getD]
theorem byteV_one (ns : List Int) : ∀ v ∈ byteV ns, v.oneCell' = true := by
  intro v hv
  simp only [byteV, List.mem_map] at hv
  obtain ⟨s, _, rfl⟩ := hv
  rfl
theorem lit_one (a b c d : Int) : ∀ v ∈ [Value.int .u8 a, .int .u8 b, .int .u8 c, .int .u8 d], v.oneCell' = true := by
  intro v hv
  simp at hv
  rcases hv with rfl | rfl | rfl | rfl <;> rfl
theorem sizeB : (Try.prog.info? 5).map (·.size) = some 1 := by kernel_rfl
theorem runB (W : World) : (Go.sizeOf 5).run Try.prog W = .ok 1 W := by
  have h := sizeB
  cases hq : Try.prog.info? 5 with
  | none => simp [hq] at h
  | some i =>
    have hi : i.size = 1 := by simpa [hq] using h
    simp [Go.sizeOf, typeInfo, hq, hi]
theorem arr64 : Try.prog.arrayLen 123 = 64 := by kernel_rfl
theorem und64 : Try.prog.underlying 123 = some (.array (Try.prog.arrayLen 123) (Try.prog.elem 123)) := by kernel_rfl
theorem elem64 : Try.prog.elem 123 = 5 := by kernel_rfl
theorem wrap4 (k : Nat) (hk : k ≤ 16) : IntKind.i64.wrap ((k : Int) * 4) = ((k * 4 : Nat) : Int) := by
  rw [IntKind.wrap_i64]
  omega
theorem slice64 (W : World) (g k : Nat) (hk : k < 16) : (Instr.sliceAt 123 (.pointer (some ⟨g, 0, none⟩)) (some (.int .i64 (IntKind.i64.wrap ((k : Int) * 4)))) none none).run Try.prog W = .ok (.slice (some ⟨g, k * 4, none⟩) (64 - k * 4) (64 - k * 4)) W := by
  rw [wrap4 k (by omega), run_sliceAt_array_l W _ _ und64 .i64 _ (by omega) (by rw [arr64]; omega), elem64, runB, arr64]
  simp only [Result.andThen, slicedAt, Int.toNat_natCast, Nat.mul_one]
  rw [if_neg (by omega), show Addr.add ⟨g, 0, none⟩ (k * 4) = ⟨g, k * 4, none⟩ from by unfold Addr.add; split <;> simp_all]
theorem slice64h (W : World) (g k : Nat) (hk : k ≤ 16) : (Instr.sliceAt 123 (.pointer (some ⟨g, 0, none⟩)) none (some (.int .i64 ((k : Int) * 4))) none).run Try.prog W = .ok (.slice (some ⟨g, 0, none⟩) (k * 4) 64) W := by
  rw [run_sliceAt_array_h W _ _ und64 .i64 _ (by omega) (by rw [arr64]; omega), elem64, runB, arr64]
  simp only [Result.andThen, slicedAt, Nat.mul_one, Nat.sub_zero]
  rw [if_neg (by omega), show ((k : Int) * 4).toNat = k * 4 by omega]
  rfl

set_option maxHeartbeats 1600000 in
theorem packNumbers_any (ao : Option Addr) (cap : Nat) (xs : List Int) (w : World) (hl : xs.length ≤ 16) (hn : ∀ j (h : j < xs.length), 0 ≤ xs[j] ∧ xs[j] ≤ 2147483647) (hc : Is w ao xs) :
    Calls Try.prog 78 #[.slice ao xs.length cap] w fun e w' => e = .returned (.string (packS xs)) ∧ Below w.heap.size w w' := by
  have HC := hide hc
  have HN := hide hn
  clear hc hn
  go_enter Try.func78, Try.ntmps78
  go_wp2
  go_loopw [9] (fun i wr => ∃ k : Nat, k ≤ xs.length ∧ i = .int .i64 k ∧ Hid (wr.heap[w.heap.size]? = some (.cells (arrL xs k).toArray 123 (0, 0))) ∧ Hid (Below w.heap.size w wr)) (fun i _ => xs.length - (intOf i).toNat)
  case atStart => exact ⟨0, Nat.zero_le _, rfl, hide (by rw [arrL_zero]; exact heap_alloc_new w _), hide (Joins.below_alloc1 _ _)⟩
  case round =>
    obtain ⟨k, hk, rfl, HO, HB⟩ := hrel
    by_cases hlt : k < xs.length
    · obtain ⟨b, off, rfl, hc⟩ := (unhide HC).below (unhide HB) k hlt
      obtain ⟨h0, h1⟩ := unhide HN k hlt
      have HBA := hide (fr (unhide HB) (Joins.below_alloc1 _ (.cells #[.int .u8 (xs[k] % 256), .int .u8 (xs[k] / 256 % 256), .int .u8 (xs[k] / 65536 % 256), .int .u8 (xs[k] / 16777216)] 109)))
      have HOA := hide (block_alloc (unhide HO) (.cells #[.int .u8 (xs[k] % 256), .int .u8 (xs[k] / 256 % 256), .int .u8 (xs[k] / 65536 % 256), .int .u8 (xs[k] / 16777216)] 109))
      have HL := hide (arrL_length hl hk)
      have HNW := hide (World.news_of_block (cs := #[.int .u8 (xs[k] % 256), .int .u8 (xs[k] / 256 % 256), .int .u8 (xs[k] / 65536 % 256), .int .u8 (xs[k] / 16777216)]) (heap_alloc_new wr (.cells #[.int .u8 (xs[k] % 256), .int .u8 (xs[k] / 256 % 256), .int .u8 (xs[k] / 65536 % 256), .int .u8 (xs[k] / 16777216)] 109)))
      have HE := hide (four_lit h0 h1)
      have HSP := hide (arrL_splice hl hlt)
      have hsl := fun W => slice64 W w.heap.size k (by omega)
      go_wp2
      go_region_law (refine step_copy_splice ?_ (.tmp 28) (.tmp 29) 103 103 ?_ 5 Try.underlying103 sizeB (some ⟨w.heap.size, k * 4, none⟩) (some ⟨wr.heap.size, 0, none⟩) (64 - k * 4) (64 - k * 4) 4 4 ?_ ?_ w.heap.size (k * 4) (arrL xs k) 123 ?_ [.int .u8 (xs[k] % 256), .int .u8 (xs[k] / 256 % 256), .int .u8 (xs[k] / 65536 % 256), .int .u8 (xs[k] / 16777216)] ?_ ?_ ?_ (lit_one _ _ _ _) w.heap.size w ?_ (Nat.le_refl _) ?_
                     · rfl
                     · rfl
                     · rfl
                     · rfl
                     · exact unhide HOA
                     · simp only [List.length_cons, List.length_nil]; exact (Nat.min_eq_left (by omega)).symm
                     · exact fun _ => ⟨rfl, _, rfl, unhide HNW⟩
                     · rw [unhide HL]; simp only [List.length_cons, List.length_nil]; omega
                     · exact (unhide HBA).drew
                     intro w4 hg4 hb4)
      all_goals
        have HSF : Hid (w4.heap[w.heap.size]? = some (.cells (arrL xs (k + 1)).toArray 123 (0, 0))) := by rw [← unhide HSP, ← unhide HE]; exact hg4
        have HBF := hide hb4
        clear hg4 hb4 hsl
        go_wp2
        go_roundw
        case rel => exact ⟨k + 1, by omega, by go_num, HSF, HBF⟩
        case measure => simp [intOf]; omega
    · have hkn : k = xs.length := by omega
      subst hkn
      have hsl := slice64h wr w.heap.size xs.length hl
      have hcv := run_convert_bytes_arg (P := Try.prog) wr 103 5 Try.underlying103 Try.underlying5 w.heap.size 0 (xs.length * 4) 64 (packL xs) (packL_length xs) (arrL_cells (unhide HO)) 9 Try.underlying9
      go_wp2
      go_ret
      exact ⟨rfl, unhide HB⟩

end Go.Proofs.Ytmkegkpnomcnhab

/- Contract of impl.kindOK. -/
namespace Go.Proofs.Ytmkegkpnomcnhab
open Go.RowKit
set_option linter.unusedVariables false
set_option maxRecDepth 100000

theorem kindOK_any (n : Int) (w : World) : Calls Try.prog 77 #[.int .i64 n] w fun e w' => e = .returned (.bool (kindB n)) ∧ w' = w := by
  go_enter Try.func77, Try.ntmps77
  go_wp2
  all_goals
    go_ret
    exact ⟨ret_bool (by rw [Bool.eq_iff_iff]; simp [kindB, inB]; omega), rfl⟩

end Go.Proofs.Ytmkegkpnomcnhab

/- Contracts of SealRecord, of the program and of its model. -/
namespace Go.Proofs.Ytmkegkpnomcnhab
open Go.RowKit
set_option linter.unusedVariables false
set_option maxRecDepth 100000

/-- 'string(head[:2])', 'string(head[:])', head an array of four bytes. -/
theorem arr2 (W : World) (g : Nat) (a b c d : Int) (h : W.heap.size = g) : (convert 103 9 (.slice (some ⟨g, 0, none⟩) 2 4)).run Try.prog (W.alloc (.cells #[.int .u8 a, .int .u8 b, .int .u8 c, .int .u8 d] 109)) = .ok (.string (strOfNums [a, b])) (W.alloc (.cells #[.int .u8 a, .int .u8 b, .int .u8 c, .int .u8 d] 109)) := by
  subst h
  refine run_convert_bytes_arg _ 103 5 Try.underlying103 Try.underlying5 W.heap.size 0 2 4 [a, b] rfl ?_ 9 Try.underlying9
  intro i hi
  rcases (show i = 0 ∨ i = 1 by omega) with rfl | rfl <;> simp [go_sem, List.getD]
theorem arr4 (W : World) (g : Nat) (a b c d : Int) (h : W.heap.size = g) : (convert 103 9 (.slice (some ⟨g, 0, none⟩) 4 4)).run Try.prog (W.alloc (.cells #[.int .u8 a, .int .u8 b, .int .u8 c, .int .u8 d] 109)) = .ok (.string (strOfNums [a, b, c, d])) (W.alloc (.cells #[.int .u8 a, .int .u8 b, .int .u8 c, .int .u8 d] 109)) := by
  subst h
  refine run_convert_bytes_arg _ 103 5 Try.underlying103 Try.underlying5 W.heap.size 0 4 4 [a, b, c, d] rfl ?_ 9 Try.underlying9
  intro i hi
  rcases (show i = 0 ∨ i = 1 ∨ i = 2 ∨ i = 3 by omega) with rfl | rfl | rfl | rfl <;> simp [go_sem, List.getD]
theorem sum_impl (k : Int) (xs : List Int) (w : World) (hl : xs.length ≤ 16) : Calls Try.prog 79 #[.string (strOfNums [k, (xs.length : Int)] ++ packS xs)] w fun e w' => e = .returned (.int .i64 (sumR k xs)) ∧ w' = w := by
  have h := sumOf_impl (sumT k xs) w (by rw [sumT_size]; omega)
  rw [sumC_short (by rw [sumT_size]; omega)] at h
  exact h

set_option maxHeartbeats 1600000 in
theorem sealRecord_impl (k : Int) (ao : Option Addr) (cap : Nat) (xs : List Int) (w : World) (hl : xs.length ≤ 1048576) (hc : Is w ao xs) :
    Calls Try.prog 67 #[.int .i64 k, .slice ao xs.length cap] w fun e w' => e = .returned (.tuple #[.string (sealT k xs), .int .i64 (sealC k xs)]) ∧ Below w.heap.size w w' := by
  have HC := hide hc
  clear hc
  by_cases h2 : listC xs = 0
  · have HL := hide h2
    have hb : (listC xs != 0) = false := by simp [h2]
    have HP := hide (intsB_parts (listC_zero h2))
    clear h2
    by_cases h3 : kindB k = true
    · have HF := hide (sealC_ok (unhide HL) h3)
      obtain ⟨hk0, hk1⟩ := kindB_in h3
      have hl16 := (unhide HP).2
      have hp := packS_size xs
      have hs2 : (strOfNums [k, (xs.length : Int)]).size = 2 := strOfNums_size _
      have hs4 : (strOfNums [k, (xs.length : Int), sumR k xs, 0]).size = 4 := strOfNums_size _
      obtain ⟨hr0, hr1⟩ := sumR_in k xs
      go_enter Try.func67, Try.ntmps67
      go_wp2_with (first | (go_at_call 76; refine (listFault_any _ _ xs _ hl (unhide HC)).mono ?_; rintro e w' ⟨rfl, rfl⟩) | (go_at_call 77; refine (kindOK_any _ _).mono ?_; rintro e w' ⟨rfl, rfl⟩) | (go_at_call 78; refine (packNumbers_any _ _ xs _ (unhide HP).2 (unhide HP).1 (unhide HC)).mono ?_; rintro e w1 ⟨rfl, hb1⟩; have HB1 := hide hb1; clear hb1; have hc2 := arr2 w1 w1.heap.size k xs.length 0 0 rfl) | (go_at_call 79; refine (sum_impl k xs _ hl16).mono ?_; rintro e w' ⟨rfl, rfl⟩; have hc4 := arr4 w1 w1.heap.size k xs.length (sumR k xs) 0 rfl))
      go_ret2
      exact ⟨ret_si (sealT_ok (unhide HF)).symm (unhide HF).symm, fr (unhide HB1) (Joins.below_alloc1 _ _)⟩
    · have h4 : kindB k = false := by simpa using h3
      have HF := hide (sealC_kind (unhide HL) h4)
      clear h3
      go_enter Try.func67, Try.ntmps67
      go_wp2_with (first | (go_at_call 76; refine (listFault_any _ _ xs _ hl (unhide HC)).mono ?_; rintro e w' ⟨rfl, rfl⟩) | (go_at_call 77; refine (kindOK_any _ _).mono ?_; rintro e w' ⟨rfl, rfl⟩))
      go_ret2
      exact ⟨ret_si (sealT_no (by rw [unhide HF]; decide)).symm (unhide HF).symm, Below.refl _ _⟩
  · have HF := hide (sealC_list (k := k) h2)
    have HNE := hide h2
    have hb : (listC xs != 0) = true := by simp [h2]
    clear h2
    go_enter Try.func67, Try.ntmps67
    go_wp2_with (go_at_call 76; refine (listFault_any _ _ xs _ hl (unhide HC)).mono ?_; rintro e w' ⟨rfl, rfl⟩)
    go_ret2
    exact ⟨ret_si (sealT_no (by rw [unhide HF]; exact unhide HNE)).symm (unhide HF).symm, Below.refl _ _⟩

end Go.Proofs.Ytmkegkpnomcnhab

/- Contracts of the program's text of counts and of EncodeRefs. -/
namespace Go.Proofs.Ytmkegkpnomcnhab
open Go.RowKit
set_option linter.unusedVariables false
set_option maxRecDepth 100000

theorem wrap_place {xs : List Int} (h : ctB xs = true) {k r : Nat} (hk : k < xs.length) (hr : r < 6) : IntKind.i64.wrap (xs[k] * 16 ^ r) = xs[k] * 16 ^ r := by
  obtain ⟨g0, g1⟩ := ctB_at h k hk
  have hp : (16 : Int) ^ r ≤ 1048576 := by
    match r, hr with
    | 0, _ => decide
    | 1, _ => decide
    | 2, _ => decide
    | 3, _ => decide
    | 4, _ => decide
    | 5, _ => decide
  have hp0 : 0 < (16 : Int) ^ r := Int.pow_pos (by omega)
  have a0 : 0 ≤ xs[k] * 16 ^ r := Int.mul_nonneg g0 (by omega)
  have a1 : xs[k] * 16 ^ r ≤ 15 * 16 ^ r := Int.mul_le_mul_of_nonneg_right g1 (by omega)
  generalize xs[k] * 16 ^ r = S at *
  generalize (16 : Int) ^ r = P at *
  rw [IntKind.wrap_i64]; omega
theorem wrap_place64 {xs : List Int} (h : ctB xs = true) {k r : Nat} (hk : k < xs.length) (hr : r < 6) : wrap64 (xs[k] * 16 ^ r) = xs[k] * 16 ^ r := by
  have := wrap_place h hk hr
  rw [IntKind.wrap_i64] at this
  generalize xs[k] * 16 ^ r = S at *
  simp only [wrap64]
  omega
theorem infoK4 : (Try.prog.info? 3).map (fun i => (i.zero, i.size, i.bytes)) = some (some (.int .i64 0), 1, 8) := by kernel_rfl
theorem mk4 (W : World) : (Instr.makeSlice 44 (.int .i64 4) (.int .i64 4)).run Try.prog W = .ok (.slice (some ⟨W.heap.size, 0, none⟩) 4 4) (W.alloc (.cells #[.int .i64 0, .int .i64 0, .int .i64 0, .int .i64 0] 3)) := by
  obtain ⟨i0, hi, hz0, hz1, hz2⟩ := info_parts infoK4
  have := run_make (P := Try.prog) W 44 3 i0 (.int .i64 0) Try.underlying44 hi hz0 .i64 .i64 4 4 (by omega) (by omega) (by rw [hz2]; decide) (by omega)
  rw [hz1] at this
  have e : madeCells (Value.int .i64 0).cells ((4 : Int).toNat * 1) = #[.int .i64 0, .int .i64 0, .int .i64 0, .int .i64 0] := by kernel_rfl
  rw [e] at this
  exact this

set_option maxHeartbeats 3200000 in
theorem numbersC_any (xs : List Int) (w : World) (hb : ctB xs = true) :
    Calls Try.prog 47 #[ctV xs] w fun e w' => ∃ g, e = .returned (.slice (some ⟨g, 0, none⟩) 4 4) ∧ w.heap.size ≤ g ∧ w'.heap[g]? = some (.cells (intV (ctNs xs)).toArray 3 (0, 0)) ∧ Below w.heap.size w w' := by
  have HCB := hide hb
  have HL := hide (ctB_len hb)
  have HN : Hid (VarC (w.alloc (.cells (intV xs).toArray 82)) w.heap.size xs) := hide (heap_alloc_new w _)
  have HA := hide (Joins.below_alloc1 w (.cells (intV xs).toArray 82))
  have hsz : (w.alloc (.cells (intV xs).toArray 82)).heap.size = w.heap.size + 1 := World.size_alloc _ _
  have HSZ := hide hsz
  have hmk := mk4
  clear hb hsz
  go_enter Try.func47, Try.ntmps47
  go_upto_region 1 with fail
  revert HN HA HSZ
  generalize (w.alloc _) = W1
  intro HN HA HSZ
  have HN4 : Hid ((W1.alloc (.cells #[.int .i64 0, .int .i64 0, .int .i64 0, .int .i64 0] 3)).heap[W1.heap.size]? = some (.cells (intV (txN xs 0)).toArray 3 (0, 0))) := hide (by rw [txN_zero]; exact heap_alloc_new W1 _)
  have HN1 := hide (block_of_below (unhide HN) (Joins.below_alloc1 W1 (.cells #[.int .i64 0, .int .i64 0, .int .i64 0, .int .i64 0] 3)))
  have HB1 := hide (fr (unhide HA) (Joins.below_alloc1 W1 (.cells #[.int .i64 0, .int .i64 0, .int .i64 0, .int .i64 0] 3)))
  have HSL : Hid (w.heap.size ≤ W1.heap.size) := hide (unhide HA).size
  clear HN HA
  go_upto_region 2 with fail
  revert HN4 HN1 HB1
  generalize (W1.alloc _) = W2
  intro HN4 HN1 HB1
  generalize W1.heap.size = G at *
  clear hmk
  go_wp2_with (refine wpList_load_arr rfl 82 _ rfl w.heap.size rfl (intV xs).toArray _ _ (unhide HN1) und24 rfl (sizeA (unhide HL)) ?_)
  clear HN1
  go_loopw [8] (fun i wr => ∃ k : Nat, k ≤ 24 ∧ i = .int .i64 k ∧ Hid (wr.heap[G]? = some (.cells (intV (txN xs k)).toArray 3 (0, 0))) ∧ Hid (Below w.heap.size w wr)) (fun i _ => 24 - (intOf i).toNat)
  case atStart => exact ⟨0, by omega, rfl, HN4, HB1⟩
  case round =>
    clear HN4 HB1
    obtain ⟨k, hk, rfl, HN, HB⟩ := hrel
    by_cases hlt : k < 24
    · have hkx : k < xs.length := by rw [unhide HL]; exact hlt
      have hix := fun W => idx24 W xs k (unhide HL) hkx
      have HG : Hid (xs.getD k 0 = xs[k]) := hide (by simp [List.getD, hkx])
      have hki : (k : Int) < 24 := by omega
      have HST := hide (txN_step xs k hlt)
      have HAT := hide (txN_at xs k hlt (by rw [txN_len]; omega))
      have HOR := hide (or_place (unhide HCB) (6 * (k / 6)) k (k % 6) (by omega))
      have hq4 : k / 6 < (txN xs k).length := by rw [txN_len]; omega
      have hcell := arr_cell (unhide HN) hq4
      rw [unhide HAT] at hcell
      rw [unhide HG] at HOR HST
      have hfz := Joins.unfrozen_of_block (unhide HN) (k / 6)
      have hd6 : (k : Int) / 6 = ((k / 6 : Nat) : Int) := by omega
      have hr6 : (k : Int) % 6 = ((k % 6 : Nat) : Int) := by omega
      have hd4 : k / 6 < 4 := by omega
      have hr4 : k % 6 < 6 := by omega
      clear hq4 HAT
      generalize k / 6 = q at *
      generalize k % 6 = r at *
      have hq0 : (0 : Int) ≤ (q : Int) := by omega
      have hq3 : (q : Int) < 4 := by omega
      have hm4 : IntKind.i64.wrap ((r : Int) * 4) = (r : Int) * 4 := by rw [IntKind.wrap_i64]; omega
      have HV : Hid (bits .or .i64 (lo6 xs (6 * q) r) (wrap64 (xs[k] * 2 ^ (r * 4))) = lo6 xs (6 * q) r + xs[k] * 16 ^ r) := hide (by rw [← pow_two, wrap_place64 (unhide HCB) hkx hr4]; exact unhide HOR)
      have HST2 := hide (arr_set (unhide HN) q (bits .or .i64 (lo6 xs (6 * q) r) (wrap64 (xs[k] * 2 ^ (r * 4)))))
      have HNX : Hid (intV ((txN xs k).set q (bits .or .i64 (lo6 xs (6 * q) r) (wrap64 (xs[k] * 2 ^ (r * 4))))) = intV (txN xs (k + 1))) := hide (by rw [unhide HV, unhide HST])
      rw [unhide HNX] at HST2
      clear HOR HG HNX HST HV
      generalize lo6 xs (6 * q) r = L at *
      have HB2 := hide ((unhide HB).setCell (p := ⟨G, q, none⟩) (unhide HSL) (.int .i64 (bits .or .i64 L (wrap64 (xs[k] * 2 ^ (r * 4))))))
      go_wp2
      go_region
      all_goals
        go_wp2
        go_roundw
        case rel => exact ⟨k + 1, by omega, by go_num, hide (by exact unhide HST2), hide (by exact (unhide HB2).drew)⟩
        case measure => simp [intOf]; omega
    · have HK : Hid (txN xs k = ctNs xs) := hide (by rw [show k = 24 by omega]; exact txN_end xs)
      have HNE : Hid (wr.heap[G]? = some (.cells (intV (ctNs xs)).toArray 3 (0, 0))) := hide (by rw [← unhide HK]; exact unhide HN)
      go_wp2
      go_ret
      exact ⟨G, rfl, unhide HSL, unhide HNE, unhide HB⟩

end Go.Proofs.Ytmkegkpnomcnhab

/- The library's slices.Sorted, slices.Sort and maps.Keys lie in this program as in the shelf's: the numbers. -/
namespace Go.Proofs.Ytmkegkpnomcnhab
open Go.RowKit Go.Shelf
set_option maxRecDepth 100000

def lay_keysA_ren : Go.Shelf.Ren := ⟨fun | 7 => 43 | 10 => 65 | n => n, fun | 23 => 52 | 26 => 3 | 3 => 77 | 28 => 74 | 0 => 0 | 27 => 73 | 33 => 71 | 4 => 4 | n => n, fun | n => n⟩

theorem lay_keysA : Go.Proofs.SlLaysZI.n7 Try.prog lay_keysA_ren := {
  mixed := by kernel_rfl
  f7 := ⟨Try.f43.name, by decide, Try.func43.trans (congrArg some (by kernel_rfl))⟩
  f10 := ⟨Try.f65.name, by decide, Try.func65.trans (congrArg some (by kernel_rfl))⟩
  t0 := Try.underlying0
  a0 := Try.isAgg0
  z0 := Try.sizeOf0
  v0 := Try.zeroValue0
  t4 := Try.underlying4
  a4 := Try.isAgg4
  z4 := Try.sizeOf4
  v4 := Try.zeroValue4
  t23 := Try.underlying52
  a23 := Try.isAgg52
  z23 := Try.sizeOf52
  v23 := Try.zeroValue52
  t26 := Try.underlying3
  a26 := Try.isAgg3
  z26 := Try.sizeOf3
  v26 := Try.zeroValue3
  t27 := Try.underlying73
  a27 := Try.isAgg73
  z27 := Try.sizeOf73
  v27 := Try.zeroValue73
  t28 := Try.underlying74
  a28 := Try.isAgg74
  z28 := Try.sizeOf74
  v28 := Try.zeroValue74
  t33 := Try.underlying71
  a33 := Try.isAgg71
  z33 := Try.sizeOf71
  v33 := Try.zeroValue71 }

def lay_sortedA_ren : Go.Shelf.Ren := ⟨fun | 6 => 42 | 8 => 63 | 9 => 64 | 11 => 73 | 13 => 75 | 12 => 74 | 23 => 89 | 24 => 90 | 14 => 80 | 15 => 81 | 16 => 82 | 17 => 83 | 18 => 84 | 19 => 85 | 20 => 86 | 21 => 87 | 22 => 88 | 25 => 92 | 26 => 93 | 27 => 94 | 28 => 95 | 29 => 96 | 30 => 97 | 31 => 98 | n => n, fun | 26 => 3 | 28 => 74 | 24 => 44 | 0 => 0 | 3 => 3 | 37 => 107 | 48 => 120 | 50 => 122 | 4 => 4 | 40 => 112 | 39 => 111 | 45 => 117 | 5 => 5 | 9 => 9 | 51 => 124 | 55 => 128 | 57 => 130 | 58 => 131 | 33 => 71 | n => n, fun | n => n⟩

theorem lay_sortedA : Go.Proofs.SlLaysZI.n6 Try.prog lay_sortedA_ren := {
  mixed := by kernel_rfl
  f6 := ⟨Try.f42.name, by decide, Try.func42.trans (congrArg some (by kernel_rfl))⟩
  f8 := ⟨Try.f63.name, by decide, Try.func63.trans (congrArg some (by kernel_rfl))⟩
  f11 := ⟨Try.f73.name, by decide, Try.func73.trans (congrArg some (by kernel_rfl))⟩
  t0 := Try.underlying0
  a0 := Try.isAgg0
  z0 := Try.sizeOf0
  v0 := Try.zeroValue0
  t24 := Try.underlying44
  a24 := Try.isAgg44
  z24 := Try.sizeOf44
  v24 := Try.zeroValue44
  t26 := Try.underlying3
  a26 := Try.isAgg3
  z26 := Try.sizeOf3
  v26 := Try.zeroValue3
  t28 := Try.underlying74
  a28 := Try.isAgg74
  z28 := Try.sizeOf74
  v28 := Try.zeroValue74
  i26 := by kernel_rfl }

def lay_sortA_ren : Go.Shelf.Ren := ⟨fun | 5 => 64 | 8 => 75 | 7 => 74 | 19 => 89 | 20 => 90 | 10 => 80 | 11 => 81 | 12 => 82 | 13 => 83 | 14 => 84 | 15 => 85 | 16 => 86 | 17 => 87 | 18 => 88 | 30 => 92 | 31 => 93 | 32 => 94 | 33 => 95 | 34 => 96 | 35 => 97 | 40 => 98 | n => n, fun | 23 => 44 | 25 => 3 | 3 => 3 | 32 => 107 | 22 => 44 | 0 => 0 | 44 => 120 | 46 => 122 | 4 => 4 | 36 => 112 | 35 => 111 | 41 => 117 | 5 => 5 | 9 => 9 | 53 => 124 | 57 => 128 | 63 => 130 | 64 => 131 | n => n, fun | n => n⟩

theorem lay_sortA : Go.Proofs.SlLaysM.n5 Try.prog lay_sortA_ren := {
  mixed := by kernel_rfl
  f5 := ⟨Try.f64.name, by decide, Try.func64.trans (congrArg some (by kernel_rfl))⟩
  f7 := ⟨Try.f74.name, by decide, Try.func74.trans (congrArg some (by kernel_rfl))⟩
  f8 := Try.func75.trans (congrArg some (by kernel_rfl))
  f10 := ⟨Try.f80.name, by decide, Try.func80.trans (congrArg some (by kernel_rfl))⟩
  f11 := ⟨Try.f81.name, by decide, Try.func81.trans (congrArg some (by kernel_rfl))⟩
  f12 := ⟨Try.f82.name, by decide, Try.func82.trans (congrArg some (by kernel_rfl))⟩
  f13 := ⟨Try.f83.name, by decide, Try.func83.trans (congrArg some (by kernel_rfl))⟩
  f14 := ⟨Try.f84.name, by decide, Try.func84.trans (congrArg some (by kernel_rfl))⟩
  f15 := ⟨Try.f85.name, by decide, Try.func85.trans (congrArg some (by kernel_rfl))⟩
  f16 := ⟨Try.f86.name, by decide, Try.func86.trans (congrArg some (by kernel_rfl))⟩
  f17 := ⟨Try.f87.name, by decide, Try.func87.trans (congrArg some (by kernel_rfl))⟩
  f18 := ⟨Try.f88.name, by decide, Try.func88.trans (congrArg some (by kernel_rfl))⟩
  f19 := Try.func89.trans (congrArg some (by kernel_rfl))
  f20 := Try.func90.trans (congrArg some (by kernel_rfl))
  f30 := ⟨Try.f92.name, by decide, Try.func92.trans (congrArg some (by kernel_rfl))⟩
  f31 := Try.func93.trans (congrArg some (by kernel_rfl))
  f32 := Try.func94.trans (congrArg some (by kernel_rfl))
  f33 := ⟨Try.f95.name, by decide, Try.func95.trans (congrArg some (by kernel_rfl))⟩
  f34 := ⟨Try.f96.name, by decide, Try.func96.trans (congrArg some (by kernel_rfl))⟩
  f35 := ⟨Try.f97.name, by decide, Try.func97.trans (congrArg some (by kernel_rfl))⟩
  f40 := ⟨Try.f98.name, by decide, Try.func98.trans (congrArg some (by kernel_rfl))⟩
  t0 := Try.underlying0
  a0 := Try.isAgg0
  z0 := Try.sizeOf0
  v0 := Try.zeroValue0
  t3 := Try.underlying3
  a3 := Try.isAgg3
  z3 := Try.sizeOf3
  v3 := Try.zeroValue3
  t4 := Try.underlying4
  a4 := Try.isAgg4
  z4 := Try.sizeOf4
  v4 := Try.zeroValue4
  t5 := Try.underlying5
  a5 := Try.isAgg5
  z5 := Try.sizeOf5
  v5 := Try.zeroValue5
  t9 := Try.underlying9
  a9 := Try.isAgg9
  z9 := Try.sizeOf9
  v9 := Try.zeroValue9
  t22 := Try.underlying44
  a22 := Try.isAgg44
  z22 := Try.sizeOf44
  v22 := Try.zeroValue44
  t23 := Try.underlying44
  a23 := Try.isAgg44
  z23 := Try.sizeOf44
  v23 := Try.zeroValue44
  t25 := Try.underlying3
  a25 := Try.isAgg3
  z25 := Try.sizeOf3
  v25 := Try.zeroValue3
  t32 := Try.underlying107
  a32 := Try.isAgg107
  z32 := Try.sizeOf107
  v32 := Try.zeroValue107
  t35 := Try.underlying111
  a35 := Try.isAgg111
  z35 := Try.sizeOf111
  v35 := Try.zeroValue111
  t36 := Try.underlying112
  a36 := Try.isAgg112
  z36 := Try.sizeOf112
  v36 := Try.zeroValue112
  t41 := Try.underlying117
  a41 := Try.isAgg117
  z41 := Try.sizeOf117
  v41 := Try.zeroValue117
  t44 := Try.underlying120
  a44 := Try.isAgg120
  z44 := Try.sizeOf120
  v44 := Try.zeroValue120
  t46 := Try.underlying122
  a46 := Try.isAgg122
  z46 := Try.sizeOf122
  v46 := Try.zeroValue122
  t53 := Try.underlying124
  a53 := Try.isAgg124
  z53 := Try.sizeOf124
  v53 := Try.zeroValue124
  t57 := Try.underlying128
  a57 := Try.isAgg128
  z57 := Try.sizeOf128
  v57 := Try.zeroValue128
  t63 := Try.underlying130
  a63 := Try.isAgg130
  z63 := Try.sizeOf130
  v63 := Try.zeroValue130
  t64 := Try.underlying131
  a64 := Try.isAgg131
  z64 := Try.sizeOf131
  v64 := Try.zeroValue131 }

end Go.Proofs.Ytmkegkpnomcnhab
