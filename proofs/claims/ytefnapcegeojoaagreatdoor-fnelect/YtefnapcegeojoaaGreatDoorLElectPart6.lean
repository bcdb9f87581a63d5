import Derived.Test.YtefnapcegeojoaaGreatDoorRows
import Derived.Test.YtefnapcegeojoaaGreatDoorLElectPart1
import Derived.Test.YtefnapcegeojoaaGreatDoorLElectPart3
import Derived.Test.YtefnapcegeojoaaGreatDoorLElectPart5
import Derived.Test.YtefnapcegeojoaaGreatDoorLElectPart4
import Derived.WalkKit
import Derived.WalkSpells
import Derived.KernelRfl
import Derived.Deep.RegionWith
import Derived.Deep.CutRange
import Derived.Test.YtefnapcegeojoaaGreatDoorLElectPart2
import Derived.Lib.SmallJoins
import Derived.Laws.BytesArg
import Derived.Laws.CopyRow
import Derived.Laws.CopyOwn
import Derived.Deep.RegionLaw
import Derived.Deep.AppendLies

namespace Go.Proofs.YtefnapcegeojoaaGreatDoor
open Go.RowKit
set_option linter.unusedVariables false
set_option maxRecDepth 100000

set_option maxHeartbeats 12800000 in
theorem block_1 (b : Nat) (ao : Option Addr) (n cap a : Nat) (cd : Nat → Int) (seed : Int) (m : Nat) (w : World) (ha : a ≤ m) (hm : m ≤ 800000) (hn : n ≤ 1048576) (hs : SrcX w b ao n cap cd a seed) (q1 q3 : Int) (hq1 : srcV cd n a seed % 3 = q1) (hq2 : srcV cd n (a + 1) (srcN cd n a seed) % 2 = 1) (hq3 : srcV cd n (a + 1 + 1) (srcN cd n (a + 1) (srcN cd n a seed)) % 12 = q3) :
    Calls Tryz.prog 69 #[.pointer (some ⟨b, 0, none⟩)] w fun e w' => ∃ v mb bl i : Int, e = .returned (blkV v mb bl i) ∧ (0 ≤ v ∧ v ≤ 2) ∧ (0 ≤ mb ∧ mb ≤ 11) ∧ (0 ≤ bl ∧ bl ≤ mb) ∧ (0 ≤ i ∧ i ≤ 8) ∧ (bl = 0 → i = 0) ∧ SrcK w' b ao n cap (m + 15) ∧ Keep (fun j => j = b) w w' := by
  have hlt := hs.lt
  have HS : Hid (∃ m0, SrcK w b ao n cap m0) := hide ⟨m, hs.k ha⟩
  have D0 : Hid (DrX w (w.alloc (.cells #[.int .i64 0, .int .i64 0, .int .i64 0, .int .i64 0] 96)) b ao n cap cd a seed (blkO 0 0 0 0)) := hide ⟨hs.below (Joins.below_alloc1 _ _), Keep.of_below (Joins.below_alloc1 _ _), heap_alloc_new w _⟩
  have HQ1 := hide hq1
  have HQ2 := hide hq2
  have q10 : 0 ≤ q1 ∧ q1 < 3 := by rw [← hq1]; exact srcV_mod (by omega)
  have q30 : 0 ≤ q3 ∧ q3 < 12 := by rw [← hq3]; exact srcV_mod (by omega)
  have HQ3 := hide hq3
  clear hs hq1 hq2 hq3
  go_enter Tryz.func69, Tryz.ntmps69
  go_upto_region 1 with fail
  revert D0
  generalize w.alloc (.cells #[.int .i64 0, .int .i64 0, .int .i64 0, .int .i64 0] 96) = W0
  intro D0
  go_cut [3] from 4 to 13 (fun c wx => ∃ C : Nat, c = .pointer (some ⟨C, 0, none⟩) ∧ Hid (BlkAt w wx b ao n cap (m + 3) C q1 q3 0 0))
  case first =>
    have r0 : W0.cell? ⟨w.heap.size, 0, none⟩ = some (.int .i64 0) := by rw [Joins.cell_of_block (unhide D0).r]; rfl
    have n0 : W0.heap.size ≠ w.heap.size := World.new_ne W0 ⟨w.heap.size, 0, none⟩ r0
    have hb0 := (unhide D0).s.lt
    have nb0 : W0.heap.size ≠ b := by omega
    have gt0 : w.heap.size < W0.heap.size := blk_lt (unhide D0).r
    go_region_with (first
      | (go_at_call_of 105 (Value.int IntKind.i64 3); refine (next_x b ao n cap a cd seed 3 _ (by omega) (by omega) (by omega) hn ?_).mono ?_; (first | exact (unhide D0).s.below ((Below.refl _ _).drew) | exact ((unhide D0).s.below ((Below.refl _ _).drew)).below (Joins.below_alloc1 _ _)); rintro e w1 ⟨rfl, hs1, hk1⟩; rw [unhide HQ1]; have D1 := hide (DrX.src (DrX.below (unhide D0) (by first | exact (Below.refl _ _).drew | exact fr ((Below.refl _ _).drew) (Joins.below_alloc1 _ _))) hlt hs1 hk1); have hb1 := hs1.lt; have r1 : w1.cell? ⟨w.heap.size, 0, none⟩ = some (.int .i64 0) := (by rw [Joins.cell_of_block (unhide D1).r]; rfl); have n1 : w1.heap.size ≠ w.heap.size := World.new_ne w1 ⟨w.heap.size, 0, none⟩ r1; have nb1 : w1.heap.size ≠ b := (by omega); have nb1p : w1.heap.size + 1 ≠ b := (by omega); (first | (have hX : Keep (fun k => k = b) (W0.alloc (blkO 0 0 0 0)).drew w1 := (by with_reducible exact hk1); have C1 := hide (blk_keep hX nb0 (new_top W0 (blkO 0 0 0 0))); clear hX) | skip); clear hs1 hk1)
      | (go_at_call_of 105 (Value.int IntKind.i64 2); refine (next_x b ao n cap (a + 1) cd (srcN cd n a seed) 2 _ (by omega) (by omega) (by omega) hn ?_).mono ?_; (first | exact (unhide D1).s | exact (unhide D1).s.below (Joins.below_alloc1 _ _) | exact (unhide D1).s.below (Joins.below_alloc2 _ _ _)); rintro e w2 ⟨rfl, hs2, hk2⟩; rw [unhide HQ2]; have D2 := hide (DrX.src (DrX.below (unhide D1) (by first | exact Below.refl _ _ | exact Joins.below_alloc1 _ _ | exact Joins.below_alloc2 _ _ _)) hlt hs2 hk2); have hb2 := hs2.lt; have r2 : w2.cell? ⟨w.heap.size, 0, none⟩ = some (.int .i64 0) := (by rw [Joins.cell_of_block (unhide D2).r]; rfl); have n2 : w2.heap.size ≠ w.heap.size := World.new_ne w2 ⟨w.heap.size, 0, none⟩ r2; have nb2 : w2.heap.size ≠ b := (by omega); have nb2p : w2.heap.size + 1 ≠ b := (by omega); (first | (have hX : Keep (fun k => k = b) w1 w2 := (by with_reducible exact hk2); (first | (have C2 : Hid (w2.heap[W0.heap.size]? = some (blkO 0 0 0 0)) := (by with_reducible exact hide (blk_keep hX nb0 (unhide C1))); obtain ⟨c20, c21, c22, c23, f20, f21, f22, f23⟩ := blk_cells (unhide C2); have lC2 : W0.heap.size < w2.heap.size := blk_lt (unhide C2)) | skip); skip) | (have hX : Keep (fun k => k = b) (w1.alloc (twoO 0 q1)) w2 := (by with_reducible exact hk2); have G2 := hide (blk_keep hX nb1 (new_top w1 _)); have g2 : w2.cell? ⟨w1.heap.size, 1, none⟩ = some (.int .i64 q1) := (by rw [Joins.cell_of_block (unhide G2)]; rfl); have lG2 : w1.heap.size < w2.heap.size := blk_lt (unhide G2); (first | (have C2 : Hid (w2.heap[W0.heap.size]? = some (blkO 0 0 0 0)) := (by with_reducible exact hide (blk_keep hX nb0 (new_at (unhide C1)))); obtain ⟨c20, c21, c22, c23, f20, f21, f22, f23⟩ := blk_cells (unhide C2); have lC2 : W0.heap.size < w2.heap.size := blk_lt (unhide C2)) | skip)) | (have hX : Keep (fun k => k = b) (w1.alloc (blkO 0 0 0 0)) w2 := (by with_reducible exact hk2); have C2 := hide (blk_keep hX nb1 (new_top w1 _)); obtain ⟨c20, c21, c22, c23, f20, f21, f22, f23⟩ := blk_cells (unhide C2); have lC2 : w1.heap.size < w2.heap.size := blk_lt (unhide C2); skip) | (have hX : Keep (fun k => k = b) ((w1.alloc (twoO 0 q1)).alloc (blkO 0 0 0 0)) w2 := (by with_reducible exact hk2); have G2 := hide (blk_keep hX nb1 (new_at (new_top w1 _))); have g2 : w2.cell? ⟨w1.heap.size, 1, none⟩ = some (.int .i64 q1) := (by rw [Joins.cell_of_block (unhide G2)]; rfl); have lG2 : w1.heap.size < w2.heap.size := blk_lt (unhide G2); have C2 := hide (blk_keep hX nb1p (new_two w1 _ _)); obtain ⟨c20, c21, c22, c23, f20, f21, f22, f23⟩ := blk_cells (unhide C2); have lC2 : w1.heap.size + 1 < w2.heap.size := blk_lt (unhide C2)) | (have hX : Keep (fun k => k = b) ((w1.alloc (blkO 0 0 0 0)).alloc (twoO 0 q1)) w2 := (by with_reducible exact hk2); have C2 := hide (blk_keep hX nb1 (new_at (new_top w1 _))); obtain ⟨c20, c21, c22, c23, f20, f21, f22, f23⟩ := blk_cells (unhide C2); have lC2 : w1.heap.size < w2.heap.size := blk_lt (unhide C2); have G2 := hide (blk_keep hX nb1p (new_two w1 _ _)); have g2 : w2.cell? ⟨w1.heap.size + 1, 1, none⟩ = some (.int .i64 q1) := (by rw [Joins.cell_of_block (unhide G2)]; rfl); have lG2 : w1.heap.size + 1 < w2.heap.size := blk_lt (unhide G2))); clear hs2 hk2 hX)
      | (go_at_call_of 105 (Value.int IntKind.i64 12); refine (next_x b ao n cap (a + 1 + 1) cd (srcN cd n (a + 1) (srcN cd n a seed)) 12 _ (by omega) (by omega) (by omega) hn ?_).mono ?_; (first | exact (unhide D2).s | exact (unhide D2).s.below (Joins.below_alloc1 _ _) | exact (unhide D2).s.below (Joins.below_alloc2 _ _ _)); rintro e w3 ⟨rfl, hs3, hk3⟩; rw [unhide HQ3]; have D3 := hide (DrX.src (DrX.below (unhide D2) (by first | exact Below.refl _ _ | exact Joins.below_alloc1 _ _ | exact Joins.below_alloc2 _ _ _)) hlt hs3 hk3); have hb3 := hs3.lt; have r3 : w3.cell? ⟨w.heap.size, 0, none⟩ = some (.int .i64 0) := (by rw [Joins.cell_of_block (unhide D3).r]; rfl); have n3 : w3.heap.size ≠ w.heap.size := World.new_ne w3 ⟨w.heap.size, 0, none⟩ r3; have nb3 : w3.heap.size ≠ b := (by omega); have nb3p : w3.heap.size + 1 ≠ b := (by omega); (first | (have hX : Keep (fun k => k = b) w2 w3 := (by with_reducible exact hk3); (first | (have C3 : Hid (w3.heap[W0.heap.size]? = some (blkO 0 0 0 0)) := (by with_reducible exact hide (blk_keep hX nb0 (unhide C2))); obtain ⟨c30, c31, c32, c33, f30, f31, f32, f33⟩ := blk_cells (unhide C3); have lC3 : W0.heap.size < w3.heap.size := blk_lt (unhide C3)) | (have C3 : Hid (w3.heap[w1.heap.size]? = some (blkO 0 0 0 0)) := (by with_reducible exact hide (blk_keep hX nb1 (unhide C2))); obtain ⟨c30, c31, c32, c33, f30, f31, f32, f33⟩ := blk_cells (unhide C3); have lC3 : w1.heap.size < w3.heap.size := blk_lt (unhide C3)) | (have C3 : Hid (w3.heap[w1.heap.size + 1]? = some (blkO 0 0 0 0)) := (by with_reducible exact hide (blk_keep hX nb1p (unhide C2))); obtain ⟨c30, c31, c32, c33, f30, f31, f32, f33⟩ := blk_cells (unhide C3); have lC3 : w1.heap.size + 1 < w3.heap.size := blk_lt (unhide C3)) | skip); (first | (have G3 : Hid (w3.heap[w1.heap.size]? = some (twoO 0 q1)) := (by with_reducible exact hide (blk_keep hX nb1 (unhide G2))); have g3 : w3.cell? ⟨w1.heap.size, 1, none⟩ = some (.int .i64 q1) := (by rw [Joins.cell_of_block (unhide G3)]; rfl); have lG3 : w1.heap.size < w3.heap.size := blk_lt (unhide G3)) | (have G3 : Hid (w3.heap[w1.heap.size + 1]? = some (twoO 0 q1)) := (by with_reducible exact hide (blk_keep hX nb1p (unhide G2))); have g3 : w3.cell? ⟨w1.heap.size + 1, 1, none⟩ = some (.int .i64 q1) := (by rw [Joins.cell_of_block (unhide G3)]; rfl); have lG3 : w1.heap.size + 1 < w3.heap.size := blk_lt (unhide G3)) | skip)) | (have hX : Keep (fun k => k = b) (w2.alloc (twoO 0 q1)) w3 := (by with_reducible exact hk3); have G3 := hide (blk_keep hX nb2 (new_top w2 _)); have g3 : w3.cell? ⟨w2.heap.size, 1, none⟩ = some (.int .i64 q1) := (by rw [Joins.cell_of_block (unhide G3)]; rfl); have lG3 : w2.heap.size < w3.heap.size := blk_lt (unhide G3); (first | (have C3 : Hid (w3.heap[W0.heap.size]? = some (blkO 0 0 0 0)) := (by with_reducible exact hide (blk_keep hX nb0 (new_at (unhide C2)))); obtain ⟨c30, c31, c32, c33, f30, f31, f32, f33⟩ := blk_cells (unhide C3); have lC3 : W0.heap.size < w3.heap.size := blk_lt (unhide C3)) | (have C3 : Hid (w3.heap[w1.heap.size]? = some (blkO 0 0 0 0)) := (by with_reducible exact hide (blk_keep hX nb1 (new_at (unhide C2)))); obtain ⟨c30, c31, c32, c33, f30, f31, f32, f33⟩ := blk_cells (unhide C3); have lC3 : w1.heap.size < w3.heap.size := blk_lt (unhide C3)) | (have C3 : Hid (w3.heap[w1.heap.size + 1]? = some (blkO 0 0 0 0)) := (by with_reducible exact hide (blk_keep hX nb1p (new_at (unhide C2)))); obtain ⟨c30, c31, c32, c33, f30, f31, f32, f33⟩ := blk_cells (unhide C3); have lC3 : w1.heap.size + 1 < w3.heap.size := blk_lt (unhide C3)) | skip)) | (have hX : Keep (fun k => k = b) (w2.alloc (blkO 0 0 0 0)) w3 := (by with_reducible exact hk3); have C3 := hide (blk_keep hX nb2 (new_top w2 _)); obtain ⟨c30, c31, c32, c33, f30, f31, f32, f33⟩ := blk_cells (unhide C3); have lC3 : w2.heap.size < w3.heap.size := blk_lt (unhide C3); (first | (have G3 : Hid (w3.heap[w1.heap.size]? = some (twoO 0 q1)) := (by with_reducible exact hide (blk_keep hX nb1 (new_at (unhide G2)))); have g3 : w3.cell? ⟨w1.heap.size, 1, none⟩ = some (.int .i64 q1) := (by rw [Joins.cell_of_block (unhide G3)]; rfl); have lG3 : w1.heap.size < w3.heap.size := blk_lt (unhide G3)) | (have G3 : Hid (w3.heap[w1.heap.size + 1]? = some (twoO 0 q1)) := (by with_reducible exact hide (blk_keep hX nb1p (new_at (unhide G2)))); have g3 : w3.cell? ⟨w1.heap.size + 1, 1, none⟩ = some (.int .i64 q1) := (by rw [Joins.cell_of_block (unhide G3)]; rfl); have lG3 : w1.heap.size + 1 < w3.heap.size := blk_lt (unhide G3)) | skip)) | (have hX : Keep (fun k => k = b) ((w2.alloc (twoO 0 q1)).alloc (blkO 0 0 0 0)) w3 := (by with_reducible exact hk3); have G3 := hide (blk_keep hX nb2 (new_at (new_top w2 _))); have g3 : w3.cell? ⟨w2.heap.size, 1, none⟩ = some (.int .i64 q1) := (by rw [Joins.cell_of_block (unhide G3)]; rfl); have lG3 : w2.heap.size < w3.heap.size := blk_lt (unhide G3); have C3 := hide (blk_keep hX nb2p (new_two w2 _ _)); obtain ⟨c30, c31, c32, c33, f30, f31, f32, f33⟩ := blk_cells (unhide C3); have lC3 : w2.heap.size + 1 < w3.heap.size := blk_lt (unhide C3)) | (have hX : Keep (fun k => k = b) ((w2.alloc (blkO 0 0 0 0)).alloc (twoO 0 q1)) w3 := (by with_reducible exact hk3); have C3 := hide (blk_keep hX nb2 (new_at (new_top w2 _))); obtain ⟨c30, c31, c32, c33, f30, f31, f32, f33⟩ := blk_cells (unhide C3); have lC3 : w2.heap.size < w3.heap.size := blk_lt (unhide C3); have G3 := hide (blk_keep hX nb2p (new_two w2 _ _)); have g3 : w3.cell? ⟨w2.heap.size + 1, 1, none⟩ = some (.int .i64 q1) := (by rw [Joins.cell_of_block (unhide G3)]; rfl); have lG3 : w2.heap.size + 1 < w3.heap.size := blk_lt (unhide G3))); clear hs3 hk3 hX))
    all_goals
      have gt1 : w.heap.size < w1.heap.size := blk_lt (unhide D1).r
      have gt2 : w.heap.size < w2.heap.size := blk_lt (unhide D2).r
      have S3 := (unhide D3).d (show a + 1 + 1 + 1 ≤ m + 3 by omega)
      go_wp2_with fail
      go_meet
      first
        | (have E9 := hide (BlkAt.top (v := q1) (mb := q3) (bl := 0) (i := 0) S3 hlt); with_reducible exact ⟨_, rfl, E9⟩)
        | (have E9 := hide (BlkAt.two (v := q1) (mb := q3) (bl := 0) (i := 0) S3 hlt (twoO 0 q1)); with_reducible exact ⟨_, rfl, E9⟩)
        | (have E9 := hide ((BlkAt.top (v := q1) (mb := q3) (bl := 0) (i := 0) S3 hlt).more (twoO 0 q1)); with_reducible exact ⟨_, rfl, E9⟩)
        | (have E9 := hide (BlkAt.set (v := q1) (mb := q3) (bl := 0) (i := 0) S3 (unhide HS) hlt (unhide C3) (by first | exact gt0 | exact gt1 | exact gt2 | omega)); with_reducible exact ⟨_, rfl, E9⟩)
        | (have E9 := hide ((BlkAt.set (v := q1) (mb := q3) (bl := 0) (i := 0) S3 (unhide HS) hlt (unhide C3) (by first | exact gt0 | exact gt1 | exact gt2 | omega)).more (twoO 0 q1)); with_reducible exact ⟨_, rfl, E9⟩)
  case rest =>
    obtain ⟨C, rfl, E0⟩ := hcut
    clear D0 HQ1 HQ2 HQ3
    obtain ⟨x0, x1, x2, x3, y0, y1, y2, y3⟩ := blk_cells (unhide E0).c
    go_wp2_with fail
    refine (next_k b ao n cap (m + 3) (q3 + 1) _ (by omega) (by omega) (by omega) hn (unhide E0).d.s).mono ?_
    rintro e w5 ⟨bl, rfl, bl0, bl1, hs5, hk5⟩
    have E1 := hide ((unhide E0).src hlt hs5 hk5)
    clear hs5 hk5 E0 x0 x1 x2 x3 y0 y1 y2 y3
    obtain ⟨x0, x1, x2, x3, y0, y1, y2, y3⟩ := blk_cells (unhide E1).c
    have E2 := hide ((unhide E1).bal (unhide HS) hlt bl)
    by_cases hbl : 0 < bl
    · go_wp2_with fail
      revert E2
      generalize w5.setCell ⟨C, 2, none⟩ (.int .i64 bl) = W6
      intro E2
      refine (next_k b ao n cap (m + 3 + 3) 9 _ (by omega) (by omega) (by omega) hn (unhide E2).d.s).mono ?_
      rintro e w7 ⟨ip, rfl, ip0, ip1, hs7, hk7⟩
      have E3 := hide ((unhide E2).src hlt hs7 hk7)
      clear hs7 hk7 E1 E2 x0 x1 x2 x3 y0 y1 y2 y3
      obtain ⟨x0, x1, x2, x3, y0, y1, y2, y3⟩ := blk_cells (unhide E3).c
      have E4 := hide ((unhide E3).inp (unhide HS) hlt ip)
      obtain ⟨c0, c1, c2, c3, f0, f1, f2, f3⟩ := blk_cells (unhide E3).d.r
      obtain ⟨d0, d1, d2, d3, g0, g1, g2, g3⟩ := blk_cells (unhide E4).d.r
      obtain ⟨u0, u1, u2, u3, v0, v1, v2, v3⟩ := blk_cells (unhide E4).c
      have hne : C ≠ w.heap.size := by have := (unhide E4).gt; omega
      have hne' := hne.symm
      have HE := hide (fun p q r t => DrS.end4 (unhide E4).d hlt (unhide HS) p q r t)
      go_wp2
      exact bodyPost_ret (v := blkV q1 q3 bl ip) (by simp [results, Tryz.results69, go_sem, *]) rfl ⟨q1, q3, bl, ip, rfl, by omega, by omega, by omega, by omega, by omega, (unhide HE _ _ _ _).1.more (by omega), (unhide HE _ _ _ _).2⟩
    · have hb0 : bl = 0 := by omega
      subst hb0
      obtain ⟨c0, c1, c2, c3, f0, f1, f2, f3⟩ := blk_cells (unhide E1).d.r
      have hne : C ≠ w.heap.size := by have := (unhide E2).gt; omega
      have hne' := hne.symm
      have HE := hide (fun p q r t => DrS.end4 (unhide E2).d hlt (unhide HS) p q r t)
      go_wp2
      exact bodyPost_ret (v := blkV q1 q3 0 0) (by simp [results, Tryz.results69, go_sem, *]) rfl ⟨q1, q3, 0, 0, rfl, by omega, by omega, by omega, by omega, fun _ => rfl, (unhide HE _ _ _ _).1.more (by omega), (unhide HE _ _ _ _).2⟩

end Go.Proofs.YtefnapcegeojoaaGreatDoor

namespace Go.Proofs.YtefnapcegeojoaaGreatDoor
open Go.RowKit
theorem block_k (b : Nat) (ao : Option Addr) (n cap m : Nat) (w : World) (hm : m ≤ 800000) (hn : n ≤ 1048576) (hs : SrcK w b ao n cap m) :
    Calls Tryz.prog 69 #[.pointer (some ⟨b, 0, none⟩)] w fun e w' => ∃ v mb bl i : Int, e = .returned (blkV v mb bl i) ∧ (0 ≤ v ∧ v ≤ 2) ∧ (0 ≤ mb ∧ mb ≤ 11) ∧ (0 ≤ bl ∧ bl ≤ mb) ∧ (0 ≤ i ∧ i ≤ 8) ∧ (bl = 0 → i = 0) ∧ SrcK w' b ao n cap (m + 15) ∧ Keep (fun j => j = b) w w' := by
  obtain ⟨cd, a, seed, ha, hx⟩ := hs.x
  have h2 := srcV_mod (cd := cd) (n := n) (a := a + 1) (seed := srcN cd n a seed) (k := 2) (by omega)
  by_cases e : srcV cd n (a + 1) (srcN cd n a seed) % 2 = 0
  · exact block_0 b ao n cap a cd seed m w ha hm hn hx _ _ rfl e rfl
  · exact block_1 b ao n cap a cd seed m w ha hm hn hx _ _ rfl (by omega) rfl
end Go.Proofs.YtefnapcegeojoaaGreatDoor

namespace Go.Proofs.YtefnapcegeojoaaGreatDoor
open Go.RowKit
set_option linter.unusedVariables false
set_option maxRecDepth 100000

abbrev ldrV (v o g : Int) : Value := .agg #[.int .i64 v, .int .i64 o, .int .i64 g]

theorem ldr_cells {w : World} {k t : Nat} {x y z : Int} (h : w.heap[k]? = some (.cells #[.int .i64 x, .int .i64 y, .int .i64 z] t (0, 0))) : w.cell? ⟨k, 0, none⟩ = some (.int .i64 x) ∧ w.cell? ⟨k, 1, none⟩ = some (.int .i64 y) ∧ w.cell? ⟨k, 2, none⟩ = some (.int .i64 z) ∧ w.frozen? ⟨k, 0, none⟩ = false ∧ w.frozen? ⟨k, 1, none⟩ = false ∧ w.frozen? ⟨k, 2, none⟩ = false :=
  ⟨by rw [Joins.cell_of_block h]; rfl, by rw [Joins.cell_of_block h]; rfl, by rw [Joins.cell_of_block h]; rfl, Joins.unfrozen_of_block h 0, Joins.unfrozen_of_block h 1, Joins.unfrozen_of_block h 2⟩

set_option maxHeartbeats 1600000 in
theorem leader_k (b : Nat) (ao : Option Addr) (n cap m : Nat) (w : World) (hm : m ≤ 800000) (hn : n ≤ 1048576) (hs : SrcK w b ao n cap m) :
    Calls Tryz.prog 67 #[.pointer (some ⟨b, 0, none⟩)] w fun e w' => ∃ v o g : Int, e = .returned (ldrV v o g) ∧ (0 ≤ v ∧ v ≤ 3) ∧ (-1 ≤ o ∧ o ≤ 3) ∧ (0 ≤ g ∧ g ≤ 3) ∧ SrcK w' b ao n cap (m + 12) ∧ Keep (fun j => j = b) w w' := by
  have hlt := hs.lt
  have HS := hide hs
  have D0 := hide (DrS.new hs #[.int .i64 0, .int .i64 0, .int .i64 0] 30)
  clear hs
  go_enter Tryz.func67, Tryz.ntmps67
  go_wp2_with fail
  refine (chance_k b ao n cap m 3 _ (by omega) (by omega) (by omega) hn (unhide D0).s).mono ?_
  rintro e w1 ⟨q, rfl, hs1, hk1⟩
  have D1 := hide ((unhide D0).src hlt hs1 hk1)
  clear hs1 hk1
  cases q with
  | true =>
    go_wp2_with fail
    refine (next_k b ao n cap (m + 3) 3 _ (by omega) (by omega) (by omega) hn (unhide D1).s).mono ?_
    rintro e w2 ⟨q2, rfl, q20, q21, hs1, hk1⟩
    have D2 := hide ((unhide D1).src hlt hs1 hk1)
    clear hs1 hk1
    obtain ⟨c0, c1, c2, f0, f1, f2⟩ := ldr_cells (unhide D2).r
    have HE := hide (fun u v x => DrS.end3 (unhide D2) (.inr trivial) hlt ⟨m, unhide HS⟩ u v x)
    go_wp2
    exact bodyPost_ret (v := ldrV q2 (-1) 0) (by simp [results, Tryz.results67, go_sem, c0, c1, c2]) rfl ⟨q2, -1, 0, rfl, by omega, by omega, by omega, (unhide HE _ _ _).1.more (by omega), (unhide HE _ _ _).2⟩
  | false =>
    go_wp2_with fail
    refine (next_k b ao n cap (m + 3) 3 _ (by omega) (by omega) (by omega) hn (unhide D1).s).mono ?_
    rintro e w2 ⟨q2, rfl, q20, q21, hs1, hk1⟩
    have D2 := hide ((unhide D1).src hlt hs1 hk1)
    clear hs1 hk1
    go_wp2_with fail
    refine (next_k b ao n cap (m + 3 + 3) 4 _ (by omega) (by omega) (by omega) hn (unhide D2).s).mono ?_
    rintro e w3 ⟨q3, rfl, q30, q31, hs1, hk1⟩
    have D3 := hide ((unhide D2).src hlt hs1 hk1)
    clear hs1 hk1
    go_wp2_with fail
    refine (next_k b ao n cap (m + 3 + 3 + 3) 3 _ (by omega) (by omega) (by omega) hn (unhide D3).s).mono ?_
    rintro e w4 ⟨q4, rfl, q40, q41, hs1, hk1⟩
    have D4 := hide ((unhide D3).src hlt hs1 hk1)
    clear hs1 hk1
    obtain ⟨c0, c1, c2, f0, f1, f2⟩ := ldr_cells (unhide D4).r
    have HE := hide (fun u v x => DrS.end3 (unhide D4) (.inr trivial) hlt ⟨m, unhide HS⟩ u v x)
    go_wp2
    exact bodyPost_ret (v := ldrV (1 + q2) q3 (1 + q4)) (by simp [results, Tryz.results67, go_sem, c0, c1, c2]) rfl ⟨1 + q2, q3, 1 + q4, rfl, by omega, by omega, by omega, (unhide HE _ _ _).1.more (by omega), (unhide HE _ _ _).2⟩

def encLd (v o g : Int) : ByteArray := sealS 6 [v, o + 1, g]
def encBk (v m b i : Int) : ByteArray := sealS 5 [v, m, b, i]
theorem isL (w : World) (k : Nat) (t : TypeId) (a b c : Int) (hn : w.heap.size = k) : Is (w.alloc (.cells #[.int .i64 a, .int .i64 b, .int .i64 c] t)) (some ⟨k, 0, none⟩) [a, b, c] := by
  subst hn
  intro i hi
  have hi' : i < 3 := hi
  refine ⟨w.heap.size, 0, rfl, ?_⟩
  rcases (show i = 0 ∨ i = 1 ∨ i = 2 by omega) with rfl | rfl | rfl <;> simp [go_sem]
theorem isB (w : World) (k : Nat) (t : TypeId) (a b c d : Int) (hn : w.heap.size = k) : Is (w.alloc (.cells #[.int .i64 a, .int .i64 b, .int .i64 c, .int .i64 d] t)) (some ⟨k, 0, none⟩) [a, b, c, d] := by
  subst hn
  intro i hi
  have hi' : i < 4 := hi
  refine ⟨w.heap.size, 0, rfl, ?_⟩
  rcases (show i = 0 ∨ i = 1 ∨ i = 2 ∨ i = 3 by omega) with rfl | rfl | rfl | rfl <;> simp [go_sem]
theorem in_list {xs : List Int} (h : ∀ x ∈ xs, 0 ≤ x ∧ x ≤ 2147483647) : ∀ j (hj : j < xs.length), 0 ≤ xs[j] ∧ xs[j] ≤ 2147483647 := fun j hj => h _ (List.getElem_mem hj)

set_option maxHeartbeats 1600000 in
theorem l06Encode_any (v o g : Int) (w : World) (hv : 0 ≤ v ∧ v ≤ 1000000) (ho : -1 ≤ o ∧ o ≤ 1000000) (hg : 0 ≤ g ∧ g ≤ 1000000) : Calls Tryz.prog 54 #[ldrV v o g] w fun e w' => e = .returned (.string (encLd v o g)) ∧ Below w.heap.size w w' := by
  have wr1 : IntKind.i64.wrap (o + 1) = o + 1 := by rw [IntKind.wrap_i64]; omega
  have HN : Hid (∀ j (hj : j < [v, o + 1, g].length), 0 ≤ [v, o + 1, g][j] ∧ [v, o + 1, g][j] ≤ 2147483647) := hide (in_list (by simp; omega))
  go_enter Tryz.func54, Tryz.ntmps54
  go_wp2_with fail
  refine (l02Seal_any 6 _ 3 [v, o + 1, g] _ (by decide) (by simp) (unhide HN) (isL _ _ _ _ _ _ (by simp))).mono ?_
  rintro e w1 ⟨rfl, hb⟩
  have HB := hide hb
  clear hb
  go_wp2
  go_ret
  exact ⟨rfl, fr (Joins.below_alloc2 _ _ _) (unhide HB)⟩

set_option maxHeartbeats 1600000 in
theorem l05Encode_any (v m b i : Int) (w : World) (hv : 0 ≤ v ∧ v ≤ 2147483647) (hm : 0 ≤ m ∧ m ≤ 2147483647) (hb' : 0 ≤ b ∧ b ≤ 2147483647) (hi : 0 ≤ i ∧ i ≤ 2147483647) : Calls Tryz.prog 68 #[blkV v m b i] w fun e w' => e = .returned (.string (encBk v m b i)) ∧ Below w.heap.size w w' := by
  have HN : Hid (∀ j (hj : j < [v, m, b, i].length), 0 ≤ [v, m, b, i][j] ∧ [v, m, b, i][j] ≤ 2147483647) := hide (in_list (by simp; omega))
  go_enter Tryz.func68, Tryz.ntmps68
  go_wp2_with fail
  refine (l02Seal_any 5 _ 4 [v, m, b, i] _ (by decide) (by simp) (unhide HN) (isB _ _ _ _ _ _ _ (by simp))).mono ?_
  rintro e w1 ⟨rfl, hb⟩
  have HB := hide hb
  clear hb
  go_wp2
  go_ret
  exact ⟨rfl, fr (Joins.below_alloc2 _ _ _) (unhide HB)⟩

end Go.Proofs.YtefnapcegeojoaaGreatDoor

namespace Go.Proofs.YtefnapcegeojoaaGreatDoor
open Go.RowKit
set_option linter.unusedVariables false
set_option maxRecDepth 100000

theorem drw_leader {v o g : Int} (h1 : 0 ≤ v ∧ v ≤ 3) (h2 : -1 ≤ o ∧ o ≤ 3) (h3 : 0 ≤ g ∧ g ≤ 3) : Drw (encLd v o g) ∧ (encLd v o g).size ≤ maxLen := ⟨.inr (.inr ⟨6, [v, o + 1, g], rfl, by omega, by simp, by simp; omega⟩), by rw [encLd, sealS_size]; unfold maxLen; simp⟩
theorem drw_block {v m b i : Int} (h1 : 0 ≤ v ∧ v ≤ 2) (h2 : 0 ≤ m ∧ m ≤ 11) (h3 : 0 ≤ b ∧ b ≤ m) (h4 : 0 ≤ i ∧ i ≤ 8) : Drw (encBk v m b i) ∧ (encBk v m b i).size ≤ maxLen := ⟨.inr (.inr ⟨5, [v, m, b, i], rfl, by omega, by simp, by simp; omega⟩), by rw [encBk, sealS_size]; unfold maxLen; simp⟩
theorem LsD.below {W W' : World} {B pa qa : Nat} {po qo : Option Addr} {ss : List ByteArray} {xs : List Wr} (h : LsD W B po pa qo qa ss xs) (hb : Below W.heap.size W W') : LsD W' B po pa qo qa ss xs := ⟨h.s.below hb, h.i.below hb, h.t, fun e => (h.o e).below hb, h.l⟩
abbrev DrwZ (t : ByteArray) : Prop := Drw t ∧ t.size ≤ maxLen

set_option maxHeartbeats 3200000 in
theorem leaseDisk_k (b : Nat) (so : Option Addr) (n cap m : Nat) (w : World) (hm : m ≤ 300000) (hn : n ≤ 1048576) (hs : SrcK w b so n cap m) :
    Calls Tryz.prog 28 #[.pointer (some ⟨b, 0, none⟩)] w fun e w' => (∃ ss xs po pa qo qa, e = .returned (.agg #[.slice po ss.length pa, .slice qo xs.length qa]) ∧ LsD w' (w.heap.size + 1) po pa qo qa ss xs) ∧ Keep (fun k => k = b) w w' ∧ SrcK w' b so n cap (m + 3000) := by
  have HS := hide hs
  have hlt := hs.lt
  clear hs
  have HK0 : Hid (Keep (fun k => k = b ∨ w.heap.size ≤ k) w (w.alloc (.cells #[.slice none 0 0, .slice none 0 0] 26))) := hide (Keep.of_below (Joins.below_alloc1 _ _))
  have HS0 := hide ((unhide HS).below (Joins.below_alloc1 w (.cells #[.slice none 0 0, .slice none 0 0] 26)))
  have HR0 : Hid (VarD (w.alloc (.cells #[.slice none 0 0, .slice none 0 0] 26)) w.heap.size (.slice none 0 0) (.slice none 0 0)) := hide (heap_alloc_new w _)
  go_enter Tryz.func28, Tryz.ntmps28
  go_wp2_with fail
  refine (deltaDisk_k b so n cap m _ (by omega) hn (unhide HS0)).mono ?_
  rintro e w1 ⟨⟨ss0, xs0, po0, pa0, qo0, qa0, rfl, hL⟩, hk, hs1⟩
  have HL := hide hL
  have HR1 := hide ((unhide HR0).keep hk (by omega))
  have HK1 := hide ((unhide HK0).trans (hk.mono (fun k e => .inl e)))
  have HS1 := hide hs1
  have hz1 : w.heap.size < w1.heap.size := (unhide HR1).lt
  have hl0 := hL.l
  clear hL hk hs1
  by_cases h64 : ss0.length = 64
  · have D0 : Hid (DkO w (w1.alloc (.cells #[.slice po0 ss0.length pa0, .slice qo0 xs0.length qa0] 26)) b so n cap (m + 2000) w1.heap.size po0 pa0 qo0 qa0 ss0 xs0) := hide (by
      have hbA := Joins.below_alloc1 w1 (.cells #[.slice po0 ss0.length pa0, .slice qo0 xs0.length qa0] 26)
      exact ⟨VarD.new _ _ _, (((unhide HL).o h64).below hbA).base (by simp), (unhide HR1).below hbA, (unhide HK1).trans (Keep.of_below hbA), (unhide HS1).below hbA, hz1⟩)
    have HT0 : Hid (AllT DrwZ ss0 xs0) := hide ⟨fun s hs => ⟨(unhide HL).t.1 s hs, (unhide HL).s.sizes s hs⟩, fun x hx => ⟨(unhide HL).t.2 x hx, (unhide HL).i.sizes x hx⟩⟩
    have H64 := hide h64
    have hb64 : ((ss0.length : Int) != 64) = false := by rw [h64]; rfl
    clear h64 HL HR1 HK1 HS1 HK0 HS0 HR0
    go_wp2_with fail
    revert D0
    generalize w1.alloc (.cells #[.slice po0 ss0.length pa0, .slice qo0 xs0.length qa0] 26) = W1
    generalize hC : w1.heap.size = C at *
    clear hC
    intro D0
    refine (chance_k b so n cap (m + 2000) 2 _ (by omega) (by omega) (by omega) hn (unhide D0).s).mono ?_
    rintro e w2 ⟨q, rfl, hs2, hk2⟩
    have D1 := hide ((unhide D0).src hlt hs2 hk2)
    clear hs2 hk2 D0
    obtain ⟨v0, v1⟩ := (unhide D1).var.cells
    have hp0 : 0 < ss0.length := by have := unhide H64; omega
    cases q with
    | true =>
      go_wp2_with fail
      go_region_with (first
        | (go_at_call 67; refine (leader_k b so n cap (m + 2000 + 3) _ (by omega) hn ?_).mono ?_; exact (unhide D1).s.below ((Below.refl _ _).drew); rintro e wA ⟨lv, lo, lg, rfl, k1, k2, k3, hsA, hkA⟩; have DA := hide (((unhide D1).below ((Below.refl _ _).drew)).src hlt hsA hkA); obtain ⟨a0, a1⟩ := (unhide DA).var.cells; clear hsA hkA)
        | (go_at_call 54; refine (l06Encode_any lv lo lg _ (by omega) (by omega) (by omega)).mono ?_; rintro e wB ⟨rfl, hbB⟩; have DB := hide ((unhide DA).below hbB); have HDR := hide (drw_leader k1 k2 k3); obtain ⟨b0, b1⟩ := (unhide DB).var.cells; obtain ⟨g, xx, rfl, hgl, hgc, hgf, hgs⟩ := (unhide DB).cell (unhide HS) hp0; have HGS := hide hgs; clear hbB hgs))
      all_goals
        have D2 := hide ((unhide HGS (encLd lv lo lg)).more (m' := m + 2100) (by omega))
        have HT1 := hide ((unhide HT0).set (j := 0) (unhide HDR))
        have H65 : Hid ((ss0.set 0 (encLd lv lo lg)).length = 64) := hide (by rw [List.length_set]; exact unhide H64)
        clear HGS hgc hgf hgl a0 a1 b0 b1 v0 v1 DA DB D1 HDR HT0 H64 hb64 hp0
        revert D2 HT1 H65
        generalize wB.setCell ⟨g, 0, none⟩ (.string (encLd lv lo lg)) = W2
        generalize ss0.set 0 (encLd lv lo lg) = ss1
        intro D2 HT1 H65
        go_wp2
        go_loopw [4] (fun i wr => ∃ (j : Nat) (ss : List ByteArray) (po : Option Addr) (pa : Nat), j ≤ 4 ∧ i = .int .i64 j ∧ Hid (ss.length = 64) ∧ Hid (AllT DrwZ ss xs0) ∧ Hid (DkO w wr b so n cap (m + 2100 + 30 * j) C po pa qo0 qa0 ss xs0)) (fun i _ => 4 - (intOf i).toNat)
        case atStart => exact ⟨0, ss1, _, _, by omega, rfl, H65, HT1, hide ((unhide D2).more (by omega))⟩
        case round =>
          clear H65 HT1 D2
          obtain ⟨j, ss, po, pa, hj4, rfl, H6, HT, HD⟩ := hrel
          obtain ⟨v0, v1⟩ := (unhide HD).var.cells
          by_cases hj : j < 4
          · have hji : (j : Int) < 4 := by omega
            go_wp2_with fail
            refine (chance_k b so n cap _ 3 _ (by omega) (by omega) (by omega) hn (unhide HD).s).mono ?_
            rintro e w3 ⟨qc, rfl, hs3, hk3⟩
            have D3 := hide ((unhide HD).src hlt hs3 hk3)
            clear hs3 hk3 v0 v1 HD
            obtain ⟨v0, v1⟩ := (unhide D3).var.cells
            cases qc with
            | true =>
              have hjs : j + 1 < ss.length := by have := unhide H6; omega
              have hjs2 : (1 : Int) + j < ss.length := by omega
              have wr1 : IntKind.i64.wrap (1 + (j : Int)) = 1 + j := by rw [IntKind.wrap_i64]; omega
              have htn : (1 + (j : Int)).toNat = j + 1 := by omega
              go_wp2_with fail
              go_region_with (first
                | (go_at_call 69; refine (block_k b so n cap (m + 2100 + 30 * j + 3) _ (by omega) hn ?_).mono ?_; exact (unhide D3).s.below ((Below.refl _ _).drew); rintro e wA ⟨bv, bm, bb, bi, rfl, k1, k2, k3, k4, k5, hsA, hkA⟩; have DA := hide (((unhide D3).below ((Below.refl _ _).drew)).src hlt hsA hkA); obtain ⟨a0, a1⟩ := (unhide DA).var.cells; clear hsA hkA k5)
                | (go_at_call 68; refine (l05Encode_any bv bm bb bi _ (by omega) (by omega) (by omega) (by omega)).mono ?_; rintro e wB ⟨rfl, hbB⟩; have DB := hide ((unhide DA).below hbB); have HDR := hide (drw_block k1 k2 k3 k4); obtain ⟨b0, b1⟩ := (unhide DB).var.cells; obtain ⟨g, xx, rfl, hgl, hgc, hgf, hgs⟩ := (unhide DB).cell (unhide HS) hjs; have HGS := hide hgs; clear hbB hgs))
              all_goals
                have D4 := hide ((unhide HGS (encBk bv bm bb bi)).more (m' := m + 2100 + 30 * (j + 1)) (by omega))
                have HT4 := hide ((unhide HT).set (j := j + 1) (unhide HDR))
                have H64' : Hid ((ss.set (j + 1) (encBk bv bm bb bi)).length = 64) := hide (by rw [List.length_set]; exact unhide H6)
                clear HGS hgc hgf hgl a0 a1 b0 b1 v0 v1 DA DB D3 HDR HT H6
                revert D4 HT4 H64'
                generalize wB.setCell ⟨g, j + 1, none⟩ (.string (encBk bv bm bb bi)) = W4
                generalize ss.set (j + 1) (encBk bv bm bb bi) = ss4
                intro D4 HT4 H64'
                go_wp2
                go_roundw
                case rel => exact ⟨j + 1, ss4, _, _, by omega, by go_num, H64', HT4, D4⟩
                case measure => simp [intOf]; omega
            | false =>
              go_wp2
              go_roundw
              case rel => exact ⟨j + 1, ss, _, _, by omega, by go_num, H6, HT, hide ((unhide D3).more (by omega))⟩
              case measure => simp [intOf]; omega
          · have hji : ¬ (j : Int) < 4 := by omega
            obtain ⟨r0, r1⟩ := (unhide HD).r.cells
            have r2 := (unhide HD).r.free 0
            have r3 := (unhide HD).r.free 1
            have HE := hide (fun u v => (unhide HD).ret (unhide HS) u v)
            go_wp2
            exact bodyPost_ret (v := .agg #[.slice po ss.length pa, .slice qo0 xs0.length qa0]) (by simp [results, Tryz.results28, go_sem, r0, r1]) rfl ⟨⟨ss, xs0, _, _, _, _, rfl, LsD.of (unhide HE _ _).2.2 ((unhide HT).mono (fun t h => h.1)) ((unhide HT).sizes (fun t h => h.2)) ⟨by have := unhide H6; omega, hl0.2⟩⟩, (unhide HE _ _).2.1, (unhide HE _ _).1.more (by omega)⟩
    | false =>
      have D2 := hide ((unhide D1).more (m' := m + 2100) (by omega))
      have HT1 := HT0
      have H65 := H64
      clear v0 v1 D1 HT0 H64 hb64 hp0
      revert D2 HT1 H65
      generalize w2 = W2
      generalize ss0 = ss1
      intro D2 HT1 H65
      go_wp2
      go_loopw [4] (fun i wr => ∃ (j : Nat) (ss : List ByteArray) (po : Option Addr) (pa : Nat), j ≤ 4 ∧ i = .int .i64 j ∧ Hid (ss.length = 64) ∧ Hid (AllT DrwZ ss xs0) ∧ Hid (DkO w wr b so n cap (m + 2100 + 30 * j) C po pa qo0 qa0 ss xs0)) (fun i _ => 4 - (intOf i).toNat)
      case atStart => exact ⟨0, ss1, _, _, by omega, rfl, H65, HT1, hide ((unhide D2).more (by omega))⟩
      case round =>
        clear H65 HT1 D2
        obtain ⟨j, ss, po, pa, hj4, rfl, H6, HT, HD⟩ := hrel
        obtain ⟨v0, v1⟩ := (unhide HD).var.cells
        by_cases hj : j < 4
        · have hji : (j : Int) < 4 := by omega
          go_wp2_with fail
          refine (chance_k b so n cap _ 3 _ (by omega) (by omega) (by omega) hn (unhide HD).s).mono ?_
          rintro e w3 ⟨qc, rfl, hs3, hk3⟩
          have D3 := hide ((unhide HD).src hlt hs3 hk3)
          clear hs3 hk3 v0 v1 HD
          obtain ⟨v0, v1⟩ := (unhide D3).var.cells
          cases qc with
          | true =>
            have hjs : j + 1 < ss.length := by have := unhide H6; omega
            have hjs2 : (1 : Int) + j < ss.length := by omega
            have wr1 : IntKind.i64.wrap (1 + (j : Int)) = 1 + j := by rw [IntKind.wrap_i64]; omega
            have htn : (1 + (j : Int)).toNat = j + 1 := by omega
            go_wp2_with fail
            go_region_with (first
              | (go_at_call 69; refine (block_k b so n cap (m + 2100 + 30 * j + 3) _ (by omega) hn ?_).mono ?_; exact (unhide D3).s.below ((Below.refl _ _).drew); rintro e wA ⟨bv, bm, bb, bi, rfl, k1, k2, k3, k4, k5, hsA, hkA⟩; have DA := hide (((unhide D3).below ((Below.refl _ _).drew)).src hlt hsA hkA); obtain ⟨a0, a1⟩ := (unhide DA).var.cells; clear hsA hkA k5)
              | (go_at_call 68; refine (l05Encode_any bv bm bb bi _ (by omega) (by omega) (by omega) (by omega)).mono ?_; rintro e wB ⟨rfl, hbB⟩; have DB := hide ((unhide DA).below hbB); have HDR := hide (drw_block k1 k2 k3 k4); obtain ⟨b0, b1⟩ := (unhide DB).var.cells; obtain ⟨g, xx, rfl, hgl, hgc, hgf, hgs⟩ := (unhide DB).cell (unhide HS) hjs; have HGS := hide hgs; clear hbB hgs))
            all_goals
              have D4 := hide ((unhide HGS (encBk bv bm bb bi)).more (m' := m + 2100 + 30 * (j + 1)) (by omega))
              have HT4 := hide ((unhide HT).set (j := j + 1) (unhide HDR))
              have H64' : Hid ((ss.set (j + 1) (encBk bv bm bb bi)).length = 64) := hide (by rw [List.length_set]; exact unhide H6)
              clear HGS hgc hgf hgl a0 a1 b0 b1 v0 v1 DA DB D3 HDR HT H6
              revert D4 HT4 H64'
              generalize wB.setCell ⟨g, j + 1, none⟩ (.string (encBk bv bm bb bi)) = W4
              generalize ss.set (j + 1) (encBk bv bm bb bi) = ss4
              intro D4 HT4 H64'
              go_wp2
              go_roundw
              case rel => exact ⟨j + 1, ss4, _, _, by omega, by go_num, H64', HT4, D4⟩
              case measure => simp [intOf]; omega
          | false =>
            go_wp2
            go_roundw
            case rel => exact ⟨j + 1, ss, _, _, by omega, by go_num, H6, HT, hide ((unhide D3).more (by omega))⟩
            case measure => simp [intOf]; omega
        · have hji : ¬ (j : Int) < 4 := by omega
          obtain ⟨r0, r1⟩ := (unhide HD).r.cells
          have r2 := (unhide HD).r.free 0
          have r3 := (unhide HD).r.free 1
          have HE := hide (fun u v => (unhide HD).ret (unhide HS) u v)
          go_wp2
          exact bodyPost_ret (v := .agg #[.slice po ss.length pa, .slice qo0 xs0.length qa0]) (by simp [results, Tryz.results28, go_sem, r0, r1]) rfl ⟨⟨ss, xs0, _, _, _, _, rfl, LsD.of (unhide HE _ _).2.2 ((unhide HT).mono (fun t h => h.1)) ((unhide HT).sizes (fun t h => h.2)) ⟨by have := unhide H6; omega, hl0.2⟩⟩, (unhide HE _ _).2.1, (unhide HE _ _).1.more (by omega)⟩
  · have hb64 : ((ss0.length : Int) != 64) = true := by simp only [bne_iff_ne, ne_eq]; omega
    have HL2 := hide (LsD.ret ((unhide HL).base (B' := w.heap.size + 1) (by simp)) (unhide HR1) (Nat.lt_succ_self _))
    obtain ⟨r0, r1⟩ := (unhide HR1).cells
    have r2 := (unhide HR1).free 0
    have r3 := (unhide HR1).free 1
    clear h64
    go_wp2
    have hK := (unhide HK1).trans ((unhide HL2).2.mono (fun k e => .inr (by omega)))
    have hbA := Joins.below_alloc1 ((w1.setCell ⟨w.heap.size, 0, none⟩ (.slice po0 ss0.length pa0)).setCell ⟨w.heap.size, 1, none⟩ (.slice qo0 xs0.length qa0)) (.cells #[.slice po0 ss0.length pa0, .slice qo0 xs0.length qa0] 26)
    exact bodyPost_ret (v := .agg #[.slice po0 ss0.length pa0, .slice qo0 xs0.length qa0]) (by simp [results, Tryz.results28, go_sem, r0, r1, hz1]) rfl ⟨⟨ss0, xs0, _, _, _, _, rfl, (unhide HL2).1.below hbA⟩, (keep_drop hK).trans (Keep.of_below hbA), (((unhide HS).other (unhide HS1) (keep_drop hK) (unhide HL2).2 (by omega)).more (by omega)).below hbA⟩

end Go.Proofs.YtefnapcegeojoaaGreatDoor

namespace Go.Proofs.YtefnapcegeojoaaGreatDoor
open Go.RowKit
set_option linter.unusedVariables false
set_option maxRecDepth 100000

theorem right_none {ss : List ByteArray} {xs : List Wr} (h : diskB ss xs = true) : diskB ss [] = true := diskB_parts.2 ⟨(diskB_parts.1 h).1, by simp, fun x hx => by cases hx⟩
theorem row_ss {W : World} {B pa : Nat} {po : Option Addr} {ss : List ByteArray} (h : OwnR W B 9 1 (.slice po ss.length pa) ss.length (strV ss)) (hz : ∀ s ∈ ss, s.size ≤ maxLen) : Ss W po ss :=
  OwnD.ss (xs := []) (bo := none) (m := 0) (cb := 0) ⟨h, .inl ⟨rfl, rfl, none, rfl⟩⟩ hz

set_option maxHeartbeats 3200000 in
theorem leaseDisk_any (so : Option Addr) (n cap : Nat) (w : World) (hn : n ≤ 1048576) (hB : Bs w so n) :
    Calls Tryz.prog 7 #[.slice so n cap] w fun e w' => ∃ ss po pa qo qa, e = .returned (.agg #[.slice po ss.length pa, .slice qo 0 qa]) ∧ diskB ss [] = true ∧ (∀ s ∈ ss, Drw s) ∧ Ss w' po ss ∧ Below w.heap.size w w' := by
  have HB0 := hide (hB.below (Joins.below_alloc1 w (.cells #[.slice none 0 0, .slice none 0 0] 26)))
  have HW0 := hide (Joins.below_alloc1 w (.cells #[.slice none 0 0, .slice none 0 0] 26))
  have HR0 : Hid (VarD (w.alloc (.cells #[.slice none 0 0, .slice none 0 0] 26)) w.heap.size (.slice none 0 0) (.slice none 0 0)) := hide (heap_alloc_new w _)
  clear hB
  go_enter Tryz.func7, Tryz.ntmps7
  go_wp2_with fail
  refine (source_any so n cap _ hn (unhide HB0)).mono ?_
  rintro e w1 ⟨rfl, hs1, hb1, hz⟩
  have HR1 := hide ((unhide HR0).below hb1)
  have HW1 := hide (fr (unhide HW0) hb1)
  simp only [World.size_alloc] at hs1
  have hz1 : w1.heap.size = w.heap.size + 2 := by rw [hz]; simp
  clear hb1 hz
  go_wp2_with fail
  refine (leaseDisk_k _ so n cap 0 _ (by omega) hn hs1).mono ?_
  rintro e w2 ⟨⟨ss, xs, po, pa, qo, qa, rfl, hL⟩, hk, _⟩
  have HR2 := hide ((unhide HR1).keep hk (by omega))
  have HW2 := hide ((unhide HW1).trans (hk.below (B := w.heap.size) (by omega) (fun k hk => by rw [hk]; simp)))
  have HL := hide hL
  have hz2 : w.heap.size < w2.heap.size := (unhide HR2).lt
  have hl1 := hL.l.1
  have hl2 := hL.l.2
  clear hk hs1 hL HR0 HR1 HW0 HW1 HB0
  have hA2 := Joins.below_alloc1 w2 (.cells #[.slice po ss.length pa, .slice qo xs.length qa] 26)
  have HRA := hide ((unhide HR2).below hA2)
  have HWA := hide (fr (unhide HW2) hA2)
  have HLA := hide ((unhide HL).below hA2)
  have HVA := hide (VarD.new w2 (.slice po ss.length pa) (.slice qo xs.length qa))
  clear hA2
  by_cases h64 : ss.length = 64
  · have hb64 : ((ss.length : Int) != 64) = false := by rw [h64]; rfl
    have HM1 : Hid (ss.length ≤ maxLen) := hide (by unfold maxLen; omega)
    have HM2 : Hid (xs.length ≤ maxLen) := hide (by unfold maxLen; omega)
    have H64 := hide h64
    clear h64
    go_wp2_with fail
    refine (diskOK_spec po qo pa qa ss xs _ (unhide HM1) (unhide HM2) (unhide HLA).s (unhide HLA).i).mono ?_
    rintro e w3 ⟨rfl, hb3⟩
    have HR3 := hide ((unhide HRA).below hb3)
    have HW3 := hide (fr (unhide HWA) hb3)
    have HL3 := hide ((unhide HLA).below hb3)
    have HV3 := hide ((unhide HVA).below hb3)
    clear hb3
    cases hd : diskB ss xs with
    | true =>
      obtain ⟨v0, v1⟩ := (unhide HV3).cells
      go_wp2_with fail
      refine (l01Own_any po qo pa qa ss xs _ (by omega) (by omega) (unhide HL3).s (unhide HL3).i).mono ?_
      rintro e w4 ⟨po4, pa4, qo4, qa4, rfl, ho, hb4⟩
      have HR4 := hide ((unhide HR3).below hb4)
      have HW4 := hide (fr (unhide HW3) hb4)
      have HV4 := hide ((unhide HV3).below hb4)
      have HO4 := hide ho
      have hz4 := hb4.size
      clear ho hb4 v0 v1
      obtain ⟨v0, v1⟩ := (unhide HV4).cells
      have v2 := (unhide HV4).free 0
      have v3 := (unhide HV4).free 1
      obtain ⟨r0, r1⟩ := (unhide HR4).cells
      have r2 := (unhide HR4).free 0
      have r3 := (unhide HR4).free 1
      have n1 : w2.heap.size ≠ w.heap.size := by omega
      have n2 : w.heap.size ≠ w2.heap.size := by omega
      go_upto_region 5 with fail
      have hk : Keep (fun j => j = w2.heap.size) w4 ((w4.setCell ⟨w2.heap.size, 0, none⟩ (.slice po4 ss.length pa4)).setCell ⟨w2.heap.size, 1, none⟩ (.slice qo4 xs.length qa4)) := ((Keep.refl (fun j => j = w2.heap.size) w4).setCell (p := ⟨w2.heap.size, 0, none⟩) rfl _).setCell (p := ⟨w2.heap.size, 1, none⟩) rfl _
      have HV5 := hide (((unhide HV4).set0 (.slice po4 ss.length pa4)).set1 (.slice qo4 xs.length qa4))
      have HR5 := hide ((unhide HR4).keep hk (by omega))
      have HO5 := hide ((unhide HO4).s.keep hk (fun g hg e => (unhide HO4).s.other (unhide HV4) (by decide) (e ▸ hg)))
      have HW5 : Hid (Below w.heap.size w ((w4.setCell ⟨w2.heap.size, 0, none⟩ (.slice po4 ss.length pa4)).setCell ⟨w2.heap.size, 1, none⟩ (.slice qo4 xs.length qa4))) := hide (((unhide HW4).setCell (p := ⟨w2.heap.size, 0, none⟩) (Nat.le_of_lt hz2) _).setCell (p := ⟨w2.heap.size, 1, none⟩) (Nat.le_of_lt hz2) _)
      have hz3 : w2.heap.size < w3.heap.size := (unhide HV3).lt
      clear hk v0 v1 v2 v3 r0 r1 r2 r3 HV4 HR4 HO4 HW4 hz4
      revert HV5 HR5 HO5 HW5
      generalize (w4.setCell ⟨w2.heap.size, 0, none⟩ (.slice po4 ss.length pa4)).setCell ⟨w2.heap.size, 1, none⟩ (.slice qo4 xs.length qa4) = W5
      intro HV5 HR5 HO5 HW5
      obtain ⟨v0, v1⟩ := (unhide HV5).cells
      have v2 := (unhide HV5).free 0
      have v3 := (unhide HV5).free 1
      obtain ⟨r0, r1⟩ := (unhide HR5).cells
      have r2 := (unhide HR5).free 0
      have r3 := (unhide HR5).free 1
      have hC5 : w2.heap.size < W5.heap.size := (unhide HV5).lt
      have hR5 : w.heap.size < W5.heap.size := (unhide HR5).lt
      have HF := hide (fun (a u v : Value) => And.intro ((((unhide HO5).setCell (a := ⟨w2.heap.size, 1, none⟩) hz3 a).setCell (a := ⟨w.heap.size, 0, none⟩) (show w.heap.size < w3.heap.size by omega) u).setCell (a := ⟨w.heap.size, 1, none⟩) (show w.heap.size < w3.heap.size by omega) v) ((((unhide HW5).setCell (p := ⟨w2.heap.size, 1, none⟩) (Nat.le_of_lt hz2) a).setCell (p := ⟨w.heap.size, 0, none⟩) (Nat.le_refl _) u).setCell (p := ⟨w.heap.size, 1, none⟩) (Nat.le_refl _) v))
      go_wp2
      obtain ⟨f1, f2⟩ := unhide HF (.slice (some ⟨W5.heap.size, 0, none⟩) 0 0) (.slice po4 ss.length pa4) (.slice (some ⟨W5.heap.size, 0, none⟩) 0 0)
      exact bodyPost_ret (v := .agg #[.slice po4 ss.length pa4, .slice (some ⟨W5.heap.size, 0, none⟩) 0 0]) (by simp [results, Tryz.results7, go_sem, r0, r1, hR5]) rfl ⟨ss, po4, pa4, _, _, rfl, right_none hd, (unhide HL).t.1, (row_ss f1 (right_ss hd)).below (Joins.below_alloc1 _ _), fr f2 (Joins.below_alloc1 _ _)⟩
    | false =>
      go_wp2_with fail
      refine (l01New_any _).mono ?_
      rintro e w4 ⟨g, k, rfl, ho, hb4⟩
      have HR4 := hide ((unhide HR3).below hb4)
      have HW4 := hide (fr (unhide HW3) hb4)
      have HO4 := hide ho
      clear ho hb4
      obtain ⟨r0, r1⟩ := (unhide HR4).cells
      have r2 := (unhide HR4).free 0
      have r3 := (unhide HR4).free 1
      obtain ⟨hdv, hkr⟩ := DV.store (ca := 64) (cb := 0) (unhide HR4) ((unhide HO4).ss (right_ss new_right)) ((unhide HO4).ios (right_xs new_right))
      rw [noSs_len] at hdv
      have HDV := hide hdv.s
      have HWF := hide (((unhide HW4).setCell (p := ⟨w.heap.size, 0, none⟩) (Nat.le_refl _) (.slice (some ⟨g, 0, none⟩) 64 64)).setCell (p := ⟨w.heap.size, 1, none⟩) (Nat.le_refl _) (.slice (some ⟨k, 0, none⟩) 0 0))
      clear hdv hkr
      go_wp2
      exact bodyPost_ret (v := .agg #[.slice (some ⟨g, 0, none⟩) 64 64, .slice (some ⟨k, 0, none⟩) 0 0]) (by simp [results, Tryz.results7, go_sem, r0, r1]) rfl ⟨noSs, some ⟨g, 0, none⟩, 64, some ⟨k, 0, none⟩, 0, by rw [noSs_len], new_right, fun s hs => (AllT.new (P := Drw) (drw_short (Nat.zero_le _))).1 s hs, unhide HDV, unhide HWF⟩
  · have hb64 : ((ss.length : Int) != 64) = true := by simp only [bne_iff_ne, ne_eq]; omega
    clear h64
    go_wp2_with fail
    refine (l01New_any _).mono ?_
    rintro e w4 ⟨g, k, rfl, ho, hb4⟩
    have HR4 := hide ((unhide HRA).below hb4)
    have HW4 := hide (fr (unhide HWA) hb4)
    have HO4 := hide ho
    clear ho hb4
    obtain ⟨r0, r1⟩ := (unhide HR4).cells
    have r2 := (unhide HR4).free 0
    have r3 := (unhide HR4).free 1
    obtain ⟨hdv, hkr⟩ := DV.store (ca := 64) (cb := 0) (unhide HR4) ((unhide HO4).ss (right_ss new_right)) ((unhide HO4).ios (right_xs new_right))
    rw [noSs_len] at hdv
    have HDV := hide hdv.s
    have HWF := hide (((unhide HW4).setCell (p := ⟨w.heap.size, 0, none⟩) (Nat.le_refl _) (.slice (some ⟨g, 0, none⟩) 64 64)).setCell (p := ⟨w.heap.size, 1, none⟩) (Nat.le_refl _) (.slice (some ⟨k, 0, none⟩) 0 0))
    clear hdv hkr
    go_wp2
    exact bodyPost_ret (v := .agg #[.slice (some ⟨g, 0, none⟩) 64 64, .slice (some ⟨k, 0, none⟩) 0 0]) (by simp [results, Tryz.results7, go_sem, r0, r1]) rfl ⟨noSs, some ⟨g, 0, none⟩, 64, some ⟨k, 0, none⟩, 0, by rw [noSs_len], new_right, fun s hs => (AllT.new (P := Drw) (drw_short (Nat.zero_le _))).1 s hs, unhide HDV, unhide HWF⟩

end Go.Proofs.YtefnapcegeojoaaGreatDoor

namespace Go.Proofs.YtefnapcegeojoaaGreatDoor
open Go.RowKit
set_option linter.unusedVariables false

structure Ld where
  ver : Int
  own : Int
  gen : Int
abbrev lV (x : Ld) : Value := .agg #[.int .i64 x.ver, .int .i64 x.own, .int .i64 x.gen]
def ld0 : Ld := ⟨0, 0, 0⟩
def ldN (v : Int) : Ld := ⟨v, -1, 0⟩
def ldB (x : Ld) : Bool := inB x.ver 0 1000000 && ((decide (x.own = -1) && decide (x.gen = 0)) || (decide (0 < x.ver) && (inB x.own 0 3 && inB x.gen 1 1000000)))
theorem ldB_iff {x : Ld} : ldB x = true ↔ (0 ≤ x.ver ∧ x.ver ≤ 1000000) ∧ ((x.own = -1 ∧ x.gen = 0) ∨ (0 < x.ver ∧ (0 ≤ x.own ∧ x.own ≤ 3) ∧ 1 ≤ x.gen ∧ x.gen ≤ 1000000)) := by
  simp only [ldB, inB, Bool.and_eq_true, Bool.or_eq_true, decide_eq_true_eq]
theorem ldB_lo {x : Ld} (h : ldB x = true) : (0 ≤ x.ver ∧ x.ver ≤ 1000000) ∧ (-1 ≤ x.own ∧ x.own ≤ 3) ∧ 0 ≤ x.gen ∧ x.gen ≤ 1000000 := by
  obtain ⟨h1, h2⟩ := ldB_iff.1 h
  omega
theorem ldB_N (v : Int) (h0 : 0 ≤ v) (h1 : v ≤ 1000000) : ldB (ldN v) = true := ldB_iff.2 ⟨⟨h0, h1⟩, .inl ⟨rfl, rfl⟩⟩
def encL (x : Ld) : ByteArray := sealS 6 [x.ver, x.own + 1, x.gen]
theorem encL_size (x : Ld) : (encL x).size = 16 := by rw [encL, sealS_size]; rfl
def elC (x : Ld) : Int := if ldB x = true then 0 else 1
def elR (x : Ld) : ByteArray := if ldB x = true then encL x else ⟨#[]⟩
def ldL (t : ByteArray) : List Int := openL t 6
def ld3 (l : List Int) : Ld := ⟨l.getD 0 0, l.getD 1 0 - 1, l.getD 2 0⟩
def ldD (t : ByteArray) : Bool := openB t 6 && (decide ((ldL t).length = 3) && ldB (ld3 (ldL t)))
def ldK (t : ByteArray) : Ld := if ldD t = true then ld3 (ldL t) else ldN 0
theorem ldD_open {t : ByteArray} (h : openB t 6 = false) : ldD t = false := by simp [ldD, h]
theorem ldD_len {t : ByteArray} (h : ¬ (ldL t).length = 3) : ldD t = false := by simp [ldD, h]
theorem ldD_at {t : ByteArray} {a b c : Int} (h : openB t 6 = true) (hl : ldL t = [a, b, c]) : ldD t = ldB ⟨a, b - 1, c⟩ := by
  have e : ld3 (ldL t) = ⟨a, b - 1, c⟩ := by rw [hl]; rfl
  simp [ldD, h, e]
  rw [hl]; simp
theorem ld_no {t : ByteArray} (h : ldD t = false) : ldK t = ldN 0 := by simp [ldK, h]
theorem ld_yes {t : ByteArray} {a b c : Int} (h : ldD t = true) (hl : ldL t = [a, b, c]) : ldK t = ⟨a, b - 1, c⟩ := by rw [ldK, if_pos h, hl]; rfl
theorem ld_right (t : ByteArray) : ldB (ldK t) = true := by
  by_cases h : ldD t = true
  · have h' := h
    simp only [ldD, Bool.and_eq_true, decide_eq_true_eq] at h'
    rw [ldK, if_pos h]; exact h'.2.2
  · rw [Bool.not_eq_true] at h
    rw [ld_no h]; exact ldB_N 0 (by decide) (by decide)
def lcC (t : ByteArray) : Int := if 65536 < t.size then 2 else if ldD t = true then 0 else 3
def lcK (t : ByteArray) : Ld := if 65536 < t.size then ld0 else if ldD t = true then ldK t else ld0
theorem lc_long {t : ByteArray} (h : 65536 < t.size) : lcK t = ld0 ∧ lcC t = 2 := ⟨if_pos h, if_pos h⟩
theorem lc_no {t : ByteArray} (h : ¬ 65536 < t.size) (hd : ldD t = false) : lcK t = ld0 ∧ lcC t = 3 := ⟨(if_neg h).trans (if_neg (by simp [hd])), (if_neg h).trans (if_neg (by simp [hd]))⟩
theorem lc_yes {t : ByteArray} (h : ¬ 65536 < t.size) (hd : ldD t = true) : lcK t = ldK t ∧ lcC t = 0 := ⟨(if_neg h).trans (if_pos hd), (if_neg h).trans (if_pos hd)⟩
theorem ret_li {a b : Ld} {x y : Int} (h : a = b) (k : x = y) : Ending.returned (.tuple #[lV a, .int .i64 x]) = .returned (.tuple #[lV b, .int .i64 y]) := by rw [h, k]
theorem ret_lb {a b : Ld} {x y : Bool} (h : a = b) (k : x = y) : Ending.returned (.tuple #[lV a, .bool x]) = .returned (.tuple #[lV b, .bool y]) := by rw [h, k]
theorem ret_sl {a b : ByteArray} {c d : Int} (h : a = b) (k : c = d) : Ending.returned (.tuple #[.string a, .int .i64 c]) = .returned (.tuple #[.string b, .int .i64 d]) := by rw [h, k]
theorem l3_nums {x : Ld} (hd : ldB x = true) : ∀ j (hj : j < [x.ver, x.own + 1, x.gen].length), 0 ≤ [x.ver, x.own + 1, x.gen][j] ∧ [x.ver, x.own + 1, x.gen][j] ≤ 2147483647 := by
  obtain ⟨h1, h2, h3⟩ := ldB_lo hd
  intro j hj
  have hj' : j < 3 := hj
  rcases (show j = 0 ∨ j = 1 ∨ j = 2 by omega) with rfl | rfl | rfl <;> simp <;> omega
theorem l3_ints {x : Ld} (hd : ldB x = true) : intsB [x.ver, x.own + 1, x.gen] = true := by
  obtain ⟨h1, h2, h3⟩ := ldB_lo hd
  rw [intsB_len]
  · rfl
  · intro j hj
    have hj' : j < 3 := hj
    rcases (show j = 0 ∨ j = 1 ∨ j = 2 by omega) with rfl | rfl | rfl <;> simp [numB, inB] <;> omega
theorem l3_seal {x : Ld} (hd : ldB x = true) : sealC 6 [x.ver, x.own + 1, x.gen] = 0 ∧ sealT 6 [x.ver, x.own + 1, x.gen] = encL x := by
  have hc : sealC 6 [x.ver, x.own + 1, x.gen] = 0 := sealC_ok (listC_ok (by simp) (l3_ints hd)) rfl
  exact ⟨hc, sealT_ok hc⟩
theorem open_nums {t : ByteArray} {k : Int} (h : openB t k = true) : ∀ x ∈ openL t k, 0 ≤ x ∧ x ≤ 2147483647 := by
  intro x hx
  rw [openL_yes h] at hx
  simp only [openB, Bool.and_eq_true] at h
  obtain ⟨_, _, _, _, _, hu⟩ := recB_iff.1 h.1
  obtain ⟨j, hj, rfl⟩ := List.mem_iff_getElem.1 hx
  exact (intsB_parts (okU_parts hu).2.2).1 j hj
theorem open_mid {t : ByteArray} {a b c : Int} (h : openB t 6 = true) (hl : ldL t = [a, b, c]) : IntKind.i64.wrap (b - 1) = b - 1 := by
  have := open_nums h b (by rw [show openL t 6 = [a, b, c] from hl]; simp)
  rw [IntKind.wrap_i64]; omega
end Go.Proofs.YtefnapcegeojoaaGreatDoor

namespace Go.Proofs.YtefnapcegeojoaaGreatDoor
open Go.RowKit
set_option linter.unusedVariables false
set_option maxRecDepth 100000

theorem hidB {p : Prop} (h : p) : Hid p := h
def betw (n low high : Int) : Bool := decide (low ≤ n) && decide (n ≤ high)
theorem betw_yes {n low high : Int} (h : low ≤ n) (h' : n ≤ high) : betw n low high = true := by simp [betw, h, h']
theorem betw_no {n low high : Int} (h : ¬ (low ≤ n ∧ n ≤ high)) : betw n low high = false := by simp only [betw, Bool.and_eq_false_iff, decide_eq_false_iff_not]; omega
set_option maxHeartbeats 800000 in
theorem within_any (n low high : Int) (w : World) : Calls Tryz.prog 48 #[.int .i64 n, .int .i64 low, .int .i64 high] w fun e w' => e = .returned (.bool (betw n low high)) ∧ w' = w := by
  by_cases h1 : low ≤ n
  · by_cases h2 : n ≤ high
    · have hr := hidB (betw_yes h1 h2)
      go_enter Tryz.func48, Tryz.ntmps48
      go_wp2
      go_ret
      rw [show betw n low high = true from hr]
      exact ⟨rfl, rfl⟩
    · have hr := hidB (betw_no (n := n) (low := low) (high := high) (by omega))
      go_enter Tryz.func48, Tryz.ntmps48
      go_wp2
      go_ret
      rw [show betw n low high = false from hr]
      exact ⟨rfl, rfl⟩
  · have hr := hidB (betw_no (n := n) (low := low) (high := high) (by omega))
    go_enter Tryz.func48, Tryz.ntmps48
    go_wp2
    go_ret
    rw [show betw n low high = false from hr]
    exact ⟨rfl, rfl⟩
end Go.Proofs.YtefnapcegeojoaaGreatDoor

namespace Go.Proofs.YtefnapcegeojoaaGreatDoor
open Go.RowKit
set_option linter.unusedVariables false
set_option maxRecDepth 100000

theorem block_alloc {w : World} {g : Nat} {c : Array Value} {t : TypeId} {f : Nat × Nat} (h : w.heap[g]? = some (.cells c t f)) (o : Obj) : (w.alloc o).heap[g]? = some (.cells c t f) := by
  rw [(Joins.below_alloc1 w o).block g (Array.getElem?_eq_some_iff.1 h).1]; exact h

def arrL (xs : List Int) (k : Nat) : List Value := byteV (packL (xs.take k)) ++ List.replicate (64 - k * 4) (.int .u8 0)
theorem arrL_zero (xs : List Int) : arrL xs 0 = List.replicate 64 (.int .u8 0) := by simp [arrL, packL, byteV]
theorem four_lit {n : Int} (h : 0 ≤ n) (h' : n ≤ 2147483647) : [Value.int .u8 (n % 256), .int .u8 (n / 256 % 256), .int .u8 (n / 65536 % 256), .int .u8 (n / 16777216)] = byteV (four n) := by
  have e : n / 16777216 = n / 16777216 % 256 := by omega
  have : byteV (four n) = [Value.int .u8 (n / (256 : Int) ^ 0 % 256), .int .u8 (n / (256 : Int) ^ 1 % 256), .int .u8 (n / (256 : Int) ^ 2 % 256), .int .u8 (n / (256 : Int) ^ 3 % 256)] := rfl
  rw [this, e]
  simp
theorem arrL_length {xs : List Int} {k : Nat} (hl : xs.length ≤ 16) (hk : k ≤ xs.length) : (arrL xs k).length = 64 := by
  rw [arrL, List.length_append, byteV_length, packL_length, List.length_replicate, List.length_take, Nat.min_eq_left hk]
  omega
theorem arrL_splice {xs : List Int} {k : Nat} (hl : xs.length ≤ 16) (hk : k < xs.length) : splice (arrL xs k) (k * 4) (byteV (four xs[k])) = arrL xs (k + 1) := by
  have h1 : (byteV (packL (xs.take k))).length = k * 4 := by rw [byteV_length, packL_length, List.length_take, Nat.min_eq_left (by omega)]
  have h4 : (byteV (four xs[k])).length = 4 := by rw [byteV_length, four, fourTo_length]
  unfold splice arrL
  rw [h4, List.take_append_of_le_length (by omega), List.take_of_length_le (by omega), List.drop_append, List.drop_of_length_le (by omega), List.nil_append, h1, packL_succ hk, List.drop_replicate]
  rw [show k * 4 + 4 - k * 4 = 4 by omega, show 64 - k * 4 - 4 = 64 - (k + 1) * 4 by omega]
  simp [byteV]
theorem arrL_cells {W : World} {g : Nat} {t : TypeId} {xs : List Int} (h : W.heap[g]? = some (.cells (arrL xs xs.length).toArray t (0, 0))) : ∀ i, i < xs.length * 4 → W.cell? ⟨g, 0 + i, none⟩ = some (.int .u8 ((packL xs).getD i 0)) := by
  intro i hi
  rw [Nat.zero_add, Joins.cell_of_block h]
  have hl : i < (packL xs).length := by rw [packL_length]; exact hi
  simp [arrL, byteV, List.getElem?_append_left, hl, List.getD]
theorem lit_one (a b c d : Int) : ∀ v ∈ [Value.int .u8 a, .int .u8 b, .int .u8 c, .int .u8 d], v.oneCell' = true := by
  intro v hv
  simp at hv
  rcases hv with rfl | rfl | rfl | rfl <;> rfl
theorem sizeB : (Tryz.prog.info? 5).map (·.size) = some 1 := by kernel_rfl
theorem runB (W : World) : (Go.sizeOf 5).run Tryz.prog W = .ok 1 W := by
  have h := sizeB
  cases hq : Tryz.prog.info? 5 with
  | none => simp [hq] at h
  | some i =>
    have hi : i.size = 1 := by simpa [hq] using h
    simp [Go.sizeOf, typeInfo, hq, hi]
theorem arr64 : Tryz.prog.arrayLen 150 = 64 := by kernel_rfl
theorem und64 : Tryz.prog.underlying 150 = some (.array (Tryz.prog.arrayLen 150) (Tryz.prog.elem 150)) := by kernel_rfl
theorem elem64 : Tryz.prog.elem 150 = 5 := by kernel_rfl
theorem wrap4 (k : Nat) (hk : k ≤ 16) : IntKind.i64.wrap ((k : Int) * 4) = ((k * 4 : Nat) : Int) := by
  rw [IntKind.wrap_i64]
  omega
theorem slice64 (W : World) (g k : Nat) (hk : k < 16) : (Instr.sliceAt 150 (.pointer (some ⟨g, 0, none⟩)) (some (.int .i64 (IntKind.i64.wrap ((k : Int) * 4)))) none none).run Tryz.prog W = .ok (.slice (some ⟨g, k * 4, none⟩) (64 - k * 4) (64 - k * 4)) W := by
  rw [wrap4 k (by omega), run_sliceAt_array_l W _ _ und64 .i64 _ (by omega) (by rw [arr64]; omega), elem64, runB, arr64]
  simp only [Result.andThen, slicedAt, Int.toNat_natCast, Nat.mul_one]
  rw [if_neg (by omega), show Addr.add ⟨g, 0, none⟩ (k * 4) = ⟨g, k * 4, none⟩ from by unfold Addr.add; split <;> simp_all]
theorem slice64h (W : World) (g k : Nat) (hk : k ≤ 16) : (Instr.sliceAt 150 (.pointer (some ⟨g, 0, none⟩)) none (some (.int .i64 ((k : Int) * 4))) none).run Tryz.prog W = .ok (.slice (some ⟨g, 0, none⟩) (k * 4) 64) W := by
  rw [run_sliceAt_array_h W _ _ und64 .i64 _ (by omega) (by rw [arr64]; omega), elem64, runB, arr64]
  simp only [Result.andThen, slicedAt, Nat.mul_one, Nat.sub_zero]
  rw [if_neg (by omega), show ((k : Int) * 4).toNat = k * 4 by omega]
  rfl

set_option maxHeartbeats 1600000 in
theorem packNumbers_any (ao : Option Addr) (cap : Nat) (xs : List Int) (w : World) (hl : xs.length ≤ 16) (hn : ∀ j (h : j < xs.length), 0 ≤ xs[j] ∧ xs[j] ≤ 2147483647) (hc : Is w ao xs) :
    Calls Tryz.prog 91 #[.slice ao xs.length cap] w fun e w' => e = .returned (.string (packS xs)) ∧ Below w.heap.size w w' := by
  have HC := hide hc
  have HN := hide hn
  clear hc hn
  go_enter Tryz.func91, Tryz.ntmps91
  go_wp2
  go_loopw [9] (fun i wr => ∃ k : Nat, k ≤ xs.length ∧ i = .int .i64 k ∧ Hid (wr.heap[w.heap.size]? = some (.cells (arrL xs k).toArray 150 (0, 0))) ∧ Hid (Below w.heap.size w wr)) (fun i _ => xs.length - (intOf i).toNat)
  case atStart => exact ⟨0, Nat.zero_le _, rfl, hide (by rw [arrL_zero]; exact heap_alloc_new w _), hide (Joins.below_alloc1 _ _)⟩
  case round =>
    obtain ⟨k, hk, rfl, HO, HB⟩ := hrel
    by_cases hlt : k < xs.length
    · obtain ⟨b, off, rfl, hc⟩ := (unhide HC).below (unhide HB) k hlt
      obtain ⟨h0, h1⟩ := unhide HN k hlt
      have HBA := hide (fr (unhide HB) (Joins.below_alloc1 _ (.cells #[.int .u8 (xs[k] % 256), .int .u8 (xs[k] / 256 % 256), .int .u8 (xs[k] / 65536 % 256), .int .u8 (xs[k] / 16777216)] 113)))
      have HOA := hide (block_alloc (unhide HO) (.cells #[.int .u8 (xs[k] % 256), .int .u8 (xs[k] / 256 % 256), .int .u8 (xs[k] / 65536 % 256), .int .u8 (xs[k] / 16777216)] 113))
      have HL := hide (arrL_length hl hk)
      have HNW := hide (World.news_of_block (cs := #[.int .u8 (xs[k] % 256), .int .u8 (xs[k] / 256 % 256), .int .u8 (xs[k] / 65536 % 256), .int .u8 (xs[k] / 16777216)]) (heap_alloc_new wr (.cells #[.int .u8 (xs[k] % 256), .int .u8 (xs[k] / 256 % 256), .int .u8 (xs[k] / 65536 % 256), .int .u8 (xs[k] / 16777216)] 113)))
      have HE := hide (four_lit h0 h1)
      have HSP := hide (arrL_splice hl hlt)
      have hsl := fun W => slice64 W w.heap.size k (by omega)
      go_wp2
      go_region_law (refine step_copy_splice ?_ (.tmp 28) (.tmp 29) 22 22 ?_ 5 Tryz.underlying22 sizeB (some ⟨w.heap.size, k * 4, none⟩) (some ⟨wr.heap.size, 0, none⟩) (64 - k * 4) (64 - k * 4) 4 4 ?_ ?_ w.heap.size (k * 4) (arrL xs k) 150 ?_ [.int .u8 (xs[k] % 256), .int .u8 (xs[k] / 256 % 256), .int .u8 (xs[k] / 65536 % 256), .int .u8 (xs[k] / 16777216)] ?_ ?_ ?_ (lit_one _ _ _ _) w.heap.size w ?_ (Nat.le_refl _) ?_
                     · rfl
                     · rfl
                     · rfl
                     · rfl
                     · exact unhide HOA
                     · simp only [List.length_cons, List.length_nil]; exact (Nat.min_eq_left (by omega)).symm
                     · exact fun _ => ⟨rfl, _, rfl, unhide HNW⟩
                     · rw [unhide HL]; simp only [List.length_cons, List.length_nil]; omega
                     · exact (unhide HBA).drew
                     intro w4 hg4 hb4)
      all_goals
        have HSF : Hid (w4.heap[w.heap.size]? = some (.cells (arrL xs (k + 1)).toArray 150 (0, 0))) := by rw [← unhide HSP, ← unhide HE]; exact hg4
        have HBF := hide hb4
        clear hg4 hb4 hsl
        go_wp2
        go_roundw
        case rel => exact ⟨k + 1, by omega, by go_num, HSF, HBF⟩
        case measure => simp [intOf]; omega
    · have hkn : k = xs.length := by omega
      subst hkn
      have hsl := slice64h wr w.heap.size xs.length hl
      have hcv := run_convert_bytes_arg (P := Tryz.prog) wr 22 5 Tryz.underlying22 Tryz.underlying5 w.heap.size 0 (xs.length * 4) 64 (packL xs) (packL_length xs) (arrL_cells (unhide HO)) 9 Tryz.underlying9
      go_wp2
      go_ret
      exact ⟨rfl, unhide HB⟩

end Go.Proofs.YtefnapcegeojoaaGreatDoor

namespace Go.Proofs.YtefnapcegeojoaaGreatDoor
open Go.RowKit
set_option linter.unusedVariables false
set_option maxRecDepth 100000

theorem nums_no {xs : List Int} {k : Nat} (hk : k < xs.length) (h : numB xs[k] = false) : xs.all numB = false := all_not (p := numB) hk h
theorem nums_all {xs : List Int} (h : ∀ j (hj : j < xs.length), numB xs[j] = true) : xs.all numB = true := all_of (p := numB) (fun i hi _ => h i hi)

set_option maxHeartbeats 800000 in
theorem areNumbers_any (ao : Option Addr) (cap : Nat) (xs : List Int) (w : World) (hl : xs.length ≤ maxLen) (hc : Is w ao xs) :
    Calls Tryz.prog 124 #[.slice ao xs.length cap] w fun e w' => e = .returned (.bool (xs.all numB)) ∧ w' = w := by
  have HC := hide hc
  clear hc
  unfold maxLen at hl
  obtain ⟨R, HR⟩ : ∃ R, Hid (R = xs.all numB) := ⟨_, hide rfl⟩
  rw [← unhide HR]
  go_enter Tryz.func124, Tryz.ntmps124
  go_wp2
  go_loop [7] (fun i => ∃ k : Nat, k ≤ xs.length ∧ i = .int .i64 k ∧ Hid (∀ j (h : j < xs.length), j < k → numB xs[j] = true)) (fun i => xs.length - (intOf i).toNat)
  case atStart => exact ⟨0, Nat.zero_le _, rfl, hide (fun j _ h => by omega)⟩
  case round =>
    obtain ⟨k, hk, rfl, HA⟩ := hrel
    by_cases hlt : k < xs.length
    · obtain ⟨b, off, rfl, hc⟩ := unhide HC k hlt
      cases hn : numB xs[k]
      · have HF := hide (nums_no hlt hn)
        go_wp2_with (go_at_call 144; refine (isNumber_any _ _).mono ?_; rintro e w' ⟨rfl, hw⟩; replace hw := hw.symm; subst hw; rw [hn])
        go_ret
        exact ⟨ret_bool (by rw [unhide HR, unhide HF]), rfl⟩
      · have HN := hide (all_succ hlt (unhide HA) hn)
        go_wp2_with (go_at_call 144; refine (isNumber_any _ _).mono ?_; rintro e w' ⟨rfl, hw⟩; replace hw := hw.symm; subst hw; rw [hn])
        go_round
        case rel => exact ⟨k + 1, by omega, by go_num, HN⟩
        case measure => simp [intOf]; omega
    · have HF := hide (nums_all (fun j h => unhide HA j h (by omega)))
      go_wp2
      go_ret
      exact ⟨ret_bool (by rw [unhide HR, unhide HF]), rfl⟩

end Go.Proofs.YtefnapcegeojoaaGreatDoor

namespace Go.Proofs.YtefnapcegeojoaaGreatDoor
open Go.RowKit
set_option linter.unusedVariables false
set_option maxRecDepth 100000

theorem intsB_all_no {xs : List Int} (h : xs.all numB = false) : intsB xs = false := by rw [intsB, allB, h]; rfl
theorem intsB_all {xs : List Int} (hl : xs.length ≤ 16) (h : xs.all numB = true) : intsB xs = true := by rw [intsB, allB, h, decide_eq_true hl]; rfl

set_option maxHeartbeats 800000 in
theorem listFault_any (ao : Option Addr) (cap : Nat) (xs : List Int) (w : World) (hl : xs.length ≤ 1048576) (hc : Is w ao xs) :
    Calls Tryz.prog 89 #[.slice ao xs.length cap] w fun e w' => e = .returned (.int .i64 (listC xs)) ∧ w' = w := by
  have HC := hide hc
  clear hc
  by_cases h1 : 4096 < xs.length
  · have HF := hide (listC_long h1)
    go_enter Tryz.func89, Tryz.ntmps89
    go_wp2
    go_ret
    exact ⟨ret_int (unhide HF).symm, rfl⟩
  by_cases h2 : 16 < xs.length
  · have HF := hide (listC_bad h1 (intsB_long h2))
    go_enter Tryz.func89, Tryz.ntmps89
    go_wp2
    go_ret
    exact ⟨ret_int (unhide HF).symm, rfl⟩
  cases hn : xs.all numB
  · have HF := hide (listC_bad h1 (intsB_all_no hn))
    go_enter Tryz.func89, Tryz.ntmps89
    go_wp2_with (go_at_call 124; refine (areNumbers_any _ _ _ _ (by unfold maxLen; omega) (unhide HC)).mono ?_; rintro e w' ⟨rfl, hw⟩; replace hw := hw.symm; subst hw; rw [hn])
    go_ret
    exact ⟨ret_int (unhide HF).symm, rfl⟩
  · have HF := hide (listC_ok (xs := xs) h1 (intsB_all (by omega) hn))
    go_enter Tryz.func89, Tryz.ntmps89
    go_wp2_with (go_at_call 124; refine (areNumbers_any _ _ _ _ (by unfold maxLen; omega) (unhide HC)).mono ?_; rintro e w' ⟨rfl, hw⟩; replace hw := hw.symm; subst hw; rw [hn])
    go_ret
    exact ⟨ret_int (unhide HF).symm, rfl⟩

end Go.Proofs.YtefnapcegeojoaaGreatDoor

namespace Go.Proofs.YtefnapcegeojoaaGreatDoor
set_option linter.unusedVariables false

theorem ret_si {a b : ByteArray} {c d : Int} (h : a = b) (k : c = d) : Ending.returned (.tuple #[.string a, .int .i64 c]) = .returned (.tuple #[.string b, .int .i64 d]) := by rw [h, k]

end Go.Proofs.YtefnapcegeojoaaGreatDoor

namespace Go.Proofs.YtefnapcegeojoaaGreatDoor
open Go.RowKit
set_option linter.unusedVariables false
set_option maxRecDepth 100000

theorem kindOK_any (n : Int) (w : World) : Calls Tryz.prog 90 #[.int .i64 n] w fun e w' => e = .returned (.bool (kindB n)) ∧ w' = w := by
  go_enter Tryz.func90, Tryz.ntmps90
  go_wp2
  all_goals
    go_ret
    exact ⟨ret_bool (by rw [Bool.eq_iff_iff]; simp [kindB, inB]; omega), rfl⟩

end Go.Proofs.YtefnapcegeojoaaGreatDoor

namespace Go.Proofs.YtefnapcegeojoaaGreatDoor
open Go.RowKit
set_option linter.unusedVariables false
set_option maxRecDepth 100000

theorem arr2 (W : World) (g : Nat) (a b c d : Int) (h : W.heap.size = g) : (convert 22 9 (.slice (some ⟨g, 0, none⟩) 2 4)).run Tryz.prog (W.alloc (.cells #[.int .u8 a, .int .u8 b, .int .u8 c, .int .u8 d] 113)) = .ok (.string (strOfNums [a, b])) (W.alloc (.cells #[.int .u8 a, .int .u8 b, .int .u8 c, .int .u8 d] 113)) := by
  subst h
  refine run_convert_bytes_arg _ 22 5 Tryz.underlying22 Tryz.underlying5 W.heap.size 0 2 4 [a, b] rfl ?_ 9 Tryz.underlying9
  intro i hi
  rcases (show i = 0 ∨ i = 1 by omega) with rfl | rfl <;> simp [go_sem, List.getD]
theorem arr4 (W : World) (g : Nat) (a b c d : Int) (h : W.heap.size = g) : (convert 22 9 (.slice (some ⟨g, 0, none⟩) 4 4)).run Tryz.prog (W.alloc (.cells #[.int .u8 a, .int .u8 b, .int .u8 c, .int .u8 d] 113)) = .ok (.string (strOfNums [a, b, c, d])) (W.alloc (.cells #[.int .u8 a, .int .u8 b, .int .u8 c, .int .u8 d] 113)) := by
  subst h
  refine run_convert_bytes_arg _ 22 5 Tryz.underlying22 Tryz.underlying5 W.heap.size 0 4 4 [a, b, c, d] rfl ?_ 9 Tryz.underlying9
  intro i hi
  rcases (show i = 0 ∨ i = 1 ∨ i = 2 ∨ i = 3 by omega) with rfl | rfl | rfl | rfl <;> simp [go_sem, List.getD]
theorem sum_impl (k : Int) (xs : List Int) (w : World) (hl : xs.length ≤ 16) : Calls Tryz.prog 92 #[.string (strOfNums [k, (xs.length : Int)] ++ packS xs)] w fun e w' => e = .returned (.int .i64 (sumR k xs)) ∧ w' = w := by
  have h := sumOf_impl (sumT k xs) w (by rw [sumT_size]; omega)
  rw [sumC_short (by rw [sumT_size]; omega)] at h
  exact h

set_option maxHeartbeats 1600000 in
theorem sealRecord_impl (k : Int) (ao : Option Addr) (cap : Nat) (xs : List Int) (w : World) (hl : xs.length ≤ 1048576) (hc : Is w ao xs) :
    Calls Tryz.prog 43 #[.int .i64 k, .slice ao xs.length cap] w fun e w' => e = .returned (.tuple #[.string (sealT k xs), .int .i64 (sealC k xs)]) ∧ Below w.heap.size w w' := by
  have HC := hide hc
  clear hc
  by_cases h2 : listC xs = 0
  · have HL := hide h2
    have hb : (listC xs != 0) = false := by simp [h2]
    have HP := hide (intsB_parts (listC_zero h2))
    clear h2
    by_cases h3 : kindB k = true
    · have HF := hide (sealC_ok (unhide HL) h3)
      obtain ⟨hk0, hk1⟩ := kindB_in h3
      have hl16 := (unhide HP).2
      have hp := packS_size xs
      have hs2 : (strOfNums [k, (xs.length : Int)]).size = 2 := strOfNums_size _
      have hs4 : (strOfNums [k, (xs.length : Int), sumR k xs, 0]).size = 4 := strOfNums_size _
      obtain ⟨hr0, hr1⟩ := sumR_in k xs
      go_enter Tryz.func43, Tryz.ntmps43
      go_wp2_with (first | (go_at_call 89; refine (listFault_any _ _ xs _ hl (unhide HC)).mono ?_; rintro e w' ⟨rfl, rfl⟩) | (go_at_call 90; refine (kindOK_any _ _).mono ?_; rintro e w' ⟨rfl, rfl⟩) | (go_at_call 91; refine (packNumbers_any _ _ xs _ (unhide HP).2 (unhide HP).1 (unhide HC)).mono ?_; rintro e w1 ⟨rfl, hb1⟩; have HB1 := hide hb1; clear hb1; have hc2 := arr2 w1 w1.heap.size k xs.length 0 0 rfl) | (go_at_call 92; refine (sum_impl k xs _ hl16).mono ?_; rintro e w' ⟨rfl, rfl⟩; have hc4 := arr4 w1 w1.heap.size k xs.length (sumR k xs) 0 rfl))
      go_ret2
      exact ⟨ret_si (sealT_ok (unhide HF)).symm (unhide HF).symm, fr (unhide HB1) (Joins.below_alloc1 _ _)⟩
    · have h4 : kindB k = false := by simpa using h3
      have HF := hide (sealC_kind (unhide HL) h4)
      clear h3
      go_enter Tryz.func43, Tryz.ntmps43
      go_wp2_with (first | (go_at_call 89; refine (listFault_any _ _ xs _ hl (unhide HC)).mono ?_; rintro e w' ⟨rfl, rfl⟩) | (go_at_call 90; refine (kindOK_any _ _).mono ?_; rintro e w' ⟨rfl, rfl⟩))
      go_ret2
      exact ⟨ret_si (sealT_no (by rw [unhide HF]; decide)).symm (unhide HF).symm, Below.refl _ _⟩
  · have HF := hide (sealC_list (k := k) h2)
    have HNE := hide h2
    have hb : (listC xs != 0) = true := by simp [h2]
    clear h2
    go_enter Tryz.func43, Tryz.ntmps43
    go_wp2_with (go_at_call 89; refine (listFault_any _ _ xs _ hl (unhide HC)).mono ?_; rintro e w' ⟨rfl, rfl⟩)
    go_ret2
    exact ⟨ret_si (sealT_no (by rw [unhide HF]; exact unhide HNE)).symm (unhide HF).symm, Below.refl _ _⟩

end Go.Proofs.YtefnapcegeojoaaGreatDoor

namespace Go.Proofs.YtefnapcegeojoaaGreatDoor
open Go.RowKit
set_option linter.unusedVariables false
set_option maxRecDepth 100000

theorem genOK_any (n : Int) (w : World) : Calls Tryz.prog 75 #[.int .i64 n] w fun e w' => e = .returned (.bool (inB n 1 1000000)) ∧ w' = w := by
  go_enter Tryz.func75, Tryz.ntmps75
  go_wp2_with fail
  refine (within_any n 1 1000000 _).mono ?_
  rintro e w1 ⟨rfl, rfl⟩
  go_wp2
  go_ret
  exact ⟨rfl, rfl⟩
theorem is3i (w : World) (n : Nat) (t : TypeId) (a b c : Int) (hn : w.heap.size = n) : Is (w.alloc (.cells #[.int .i64 a, .int .i64 b, .int .i64 c] t)) (some ⟨n, 0, none⟩) [a, b, c] := by
  subst hn
  intro i hi
  have hi' : i < 3 := hi
  refine ⟨w.heap.size, 0, rfl, ?_⟩
  rcases (show i = 0 ∨ i = 1 ∨ i = 2 by omega) with rfl | rfl | rfl <;> simp [go_sem]

end Go.Proofs.YtefnapcegeojoaaGreatDoor
