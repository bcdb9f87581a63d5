import Derived.Test.YtdfinapjgffjiaaRows
import Derived.Test.YtdfinapjgffjiaaPart1
import Derived.Test.YtdfinapjgffjiaaPart8
import Derived.Test.YtdfinapjgffjiaaPart9
import Derived.WalkKit
import Derived.WalkSpells
import Derived.KernelRfl
import Derived.Deep.RegionWith
import Derived.Deep.CutRange
import Derived.Test.YtdfinapjgffjiaaPart2
import Derived.Test.YtdfinapjgffjiaaPart3
import Derived.Test.YtdfinapjgffjiaaPart4
import Derived.Test.YtdfinapjgffjiaaPart5
import Derived.BigQuiet
import Derived.Deep.QuietTactic

/- The model's draw of a block, where the second number drawn is 0. -/
namespace Go.Proofs.Ytdfinapjgffjiaa
open Go.RowKit
set_option linter.unusedVariables false
set_option maxRecDepth 100000

set_option maxHeartbeats 12800000 in
theorem block_0 (b : Nat) (ao : Option Addr) (n cap a : Nat) (cd : Nat → Int) (seed : Int) (m : Nat) (w : World) (ha : a ≤ m) (hm : m ≤ 800000) (hn : n ≤ 1048576) (hs : SrcX w b ao n cap cd a seed) (q1 q3 : Int) (hq1 : srcV cd n a seed % 3 = q1) (hq2 : srcV cd n (a + 1) (srcN cd n a seed) % 2 = 0) (hq3 : srcV cd n (a + 1 + 1) (srcN cd n (a + 1) (srcN cd n a seed)) % 12 = q3) :
    Calls Try.prog 42 #[.pointer (some ⟨b, 0, none⟩)] w fun e w' => ∃ v mb bl i : Int, e = .returned (blkV v mb bl i) ∧ (0 ≤ v ∧ v ≤ 2) ∧ (0 ≤ mb ∧ mb ≤ 11) ∧ (0 ≤ bl ∧ bl ≤ mb) ∧ (0 ≤ i ∧ i ≤ 8) ∧ (bl = 0 → i = 0) ∧ SrcK w' b ao n cap (m + 15) ∧ Keep (fun j => j = b) w w' := by
  have hlt := hs.lt
  have HS : Hid (∃ m0, SrcK w b ao n cap m0) := hide ⟨m, hs.k ha⟩
  have D0 : Hid (DrX w (w.alloc (.cells #[.int .i64 0, .int .i64 0, .int .i64 0, .int .i64 0] 35)) b ao n cap cd a seed (blkO 0 0 0 0)) := hide ⟨hs.below (Joins.below_alloc1 _ _), Keep.of_below (Joins.below_alloc1 _ _), heap_alloc_new w _⟩
  have HQ1 := hide hq1
  have HQ2 := hide hq2
  have q10 : 0 ≤ q1 ∧ q1 < 3 := by rw [← hq1]; exact srcV_mod (by omega)
  have q30 : 0 ≤ q3 ∧ q3 < 12 := by rw [← hq3]; exact srcV_mod (by omega)
  have HQ3 := hide hq3
  clear hs hq1 hq2 hq3
  go_enter Try.func42, Try.ntmps42
  go_upto_region 1 with fail
  revert D0
  generalize w.alloc (.cells #[.int .i64 0, .int .i64 0, .int .i64 0, .int .i64 0] 35) = W0
  intro D0
  go_cut [3] from 4 to 13 (fun c wx => ∃ C : Nat, c = .pointer (some ⟨C, 0, none⟩) ∧ Hid (BlkAt w wx b ao n cap (m + 3) C 0 q3 0 0))
  case first =>
    have r0 : W0.cell? ⟨w.heap.size, 0, none⟩ = some (.int .i64 0) := by rw [Joins.cell_of_block (unhide D0).r]; rfl
    have n0 : W0.heap.size ≠ w.heap.size := World.new_ne W0 ⟨w.heap.size, 0, none⟩ r0
    have hb0 := (unhide D0).s.lt
    have nb0 : W0.heap.size ≠ b := by omega
    have gt0 : w.heap.size < W0.heap.size := blk_lt (unhide D0).r
    go_region_with (first
      | (go_at_call_of 41 (Value.int IntKind.i64 3); refine (next_x b ao n cap a cd seed 3 _ (by omega) (by omega) (by omega) hn ?_).mono ?_; (first | exact (unhide D0).s.below ((Below.refl _ _).drew) | exact ((unhide D0).s.below ((Below.refl _ _).drew)).below (Joins.below_alloc1 _ _)); rintro e w1 ⟨rfl, hs1, hk1⟩; rw [unhide HQ1]; have D1 := hide (DrX.src (DrX.below (unhide D0) (by first | exact (Below.refl _ _).drew | exact fr ((Below.refl _ _).drew) (Joins.below_alloc1 _ _))) hlt hs1 hk1); have hb1 := hs1.lt; have r1 : w1.cell? ⟨w.heap.size, 0, none⟩ = some (.int .i64 0) := (by rw [Joins.cell_of_block (unhide D1).r]; rfl); have n1 : w1.heap.size ≠ w.heap.size := World.new_ne w1 ⟨w.heap.size, 0, none⟩ r1; have nb1 : w1.heap.size ≠ b := (by omega); have nb1p : w1.heap.size + 1 ≠ b := (by omega); (first | (have hX : Keep (fun k => k = b) (W0.alloc (blkO 0 0 0 0)).drew w1 := (by with_reducible exact hk1); have C1 := hide (blk_keep hX nb0 (new_top W0 (blkO 0 0 0 0))); clear hX) | skip); clear hs1 hk1)
      | (go_at_call_of 41 (Value.int IntKind.i64 2); refine (next_x b ao n cap (a + 1) cd (srcN cd n a seed) 2 _ (by omega) (by omega) (by omega) hn ?_).mono ?_; (first | exact (unhide D1).s | exact (unhide D1).s.below (Joins.below_alloc1 _ _) | exact (unhide D1).s.below (Joins.below_alloc2 _ _ _)); rintro e w2 ⟨rfl, hs2, hk2⟩; rw [unhide HQ2]; have D2 := hide (DrX.src (DrX.below (unhide D1) (by first | exact Below.refl _ _ | exact Joins.below_alloc1 _ _ | exact Joins.below_alloc2 _ _ _)) hlt hs2 hk2); have hb2 := hs2.lt; have r2 : w2.cell? ⟨w.heap.size, 0, none⟩ = some (.int .i64 0) := (by rw [Joins.cell_of_block (unhide D2).r]; rfl); have n2 : w2.heap.size ≠ w.heap.size := World.new_ne w2 ⟨w.heap.size, 0, none⟩ r2; have nb2 : w2.heap.size ≠ b := (by omega); have nb2p : w2.heap.size + 1 ≠ b := (by omega); (first | (have hX : Keep (fun k => k = b) w1 w2 := (by with_reducible exact hk2); (first | (have C2 : Hid (w2.heap[W0.heap.size]? = some (blkO 0 0 0 0)) := (by with_reducible exact hide (blk_keep hX nb0 (unhide C1))); obtain ⟨c20, c21, c22, c23, f20, f21, f22, f23⟩ := blk_cells (unhide C2); have lC2 : W0.heap.size < w2.heap.size := blk_lt (unhide C2)) | skip); skip) | (have hX : Keep (fun k => k = b) (w1.alloc (twoO 0 q1)) w2 := (by with_reducible exact hk2); have G2 := hide (blk_keep hX nb1 (new_top w1 _)); have g2 : w2.cell? ⟨w1.heap.size, 0, none⟩ = some (.int .i64 0) := (by rw [Joins.cell_of_block (unhide G2)]; rfl); have lG2 : w1.heap.size < w2.heap.size := blk_lt (unhide G2); (first | (have C2 : Hid (w2.heap[W0.heap.size]? = some (blkO 0 0 0 0)) := (by with_reducible exact hide (blk_keep hX nb0 (new_at (unhide C1)))); obtain ⟨c20, c21, c22, c23, f20, f21, f22, f23⟩ := blk_cells (unhide C2); have lC2 : W0.heap.size < w2.heap.size := blk_lt (unhide C2)) | skip)) | (have hX : Keep (fun k => k = b) (w1.alloc (blkO 0 0 0 0)) w2 := (by with_reducible exact hk2); have C2 := hide (blk_keep hX nb1 (new_top w1 _)); obtain ⟨c20, c21, c22, c23, f20, f21, f22, f23⟩ := blk_cells (unhide C2); have lC2 : w1.heap.size < w2.heap.size := blk_lt (unhide C2); skip) | (have hX : Keep (fun k => k = b) ((w1.alloc (twoO 0 q1)).alloc (blkO 0 0 0 0)) w2 := (by with_reducible exact hk2); have G2 := hide (blk_keep hX nb1 (new_at (new_top w1 _))); have g2 : w2.cell? ⟨w1.heap.size, 0, none⟩ = some (.int .i64 0) := (by rw [Joins.cell_of_block (unhide G2)]; rfl); have lG2 : w1.heap.size < w2.heap.size := blk_lt (unhide G2); have C2 := hide (blk_keep hX nb1p (new_two w1 _ _)); obtain ⟨c20, c21, c22, c23, f20, f21, f22, f23⟩ := blk_cells (unhide C2); have lC2 : w1.heap.size + 1 < w2.heap.size := blk_lt (unhide C2)) | (have hX : Keep (fun k => k = b) ((w1.alloc (blkO 0 0 0 0)).alloc (twoO 0 q1)) w2 := (by with_reducible exact hk2); have C2 := hide (blk_keep hX nb1 (new_at (new_top w1 _))); obtain ⟨c20, c21, c22, c23, f20, f21, f22, f23⟩ := blk_cells (unhide C2); have lC2 : w1.heap.size < w2.heap.size := blk_lt (unhide C2); have G2 := hide (blk_keep hX nb1p (new_two w1 _ _)); have g2 : w2.cell? ⟨w1.heap.size + 1, 0, none⟩ = some (.int .i64 0) := (by rw [Joins.cell_of_block (unhide G2)]; rfl); have lG2 : w1.heap.size + 1 < w2.heap.size := blk_lt (unhide G2))); clear hs2 hk2 hX)
      | (go_at_call_of 41 (Value.int IntKind.i64 12); refine (next_x b ao n cap (a + 1 + 1) cd (srcN cd n (a + 1) (srcN cd n a seed)) 12 _ (by omega) (by omega) (by omega) hn ?_).mono ?_; (first | exact (unhide D2).s | exact (unhide D2).s.below (Joins.below_alloc1 _ _) | exact (unhide D2).s.below (Joins.below_alloc2 _ _ _)); rintro e w3 ⟨rfl, hs3, hk3⟩; rw [unhide HQ3]; have D3 := hide (DrX.src (DrX.below (unhide D2) (by first | exact Below.refl _ _ | exact Joins.below_alloc1 _ _ | exact Joins.below_alloc2 _ _ _)) hlt hs3 hk3); have hb3 := hs3.lt; have r3 : w3.cell? ⟨w.heap.size, 0, none⟩ = some (.int .i64 0) := (by rw [Joins.cell_of_block (unhide D3).r]; rfl); have n3 : w3.heap.size ≠ w.heap.size := World.new_ne w3 ⟨w.heap.size, 0, none⟩ r3; have nb3 : w3.heap.size ≠ b := (by omega); have nb3p : w3.heap.size + 1 ≠ b := (by omega); (first | (have hX : Keep (fun k => k = b) w2 w3 := (by with_reducible exact hk3); (first | (have C3 : Hid (w3.heap[W0.heap.size]? = some (blkO 0 0 0 0)) := (by with_reducible exact hide (blk_keep hX nb0 (unhide C2))); obtain ⟨c30, c31, c32, c33, f30, f31, f32, f33⟩ := blk_cells (unhide C3); have lC3 : W0.heap.size < w3.heap.size := blk_lt (unhide C3)) | (have C3 : Hid (w3.heap[w1.heap.size]? = some (blkO 0 0 0 0)) := (by with_reducible exact hide (blk_keep hX nb1 (unhide C2))); obtain ⟨c30, c31, c32, c33, f30, f31, f32, f33⟩ := blk_cells (unhide C3); have lC3 : w1.heap.size < w3.heap.size := blk_lt (unhide C3)) | (have C3 : Hid (w3.heap[w1.heap.size + 1]? = some (blkO 0 0 0 0)) := (by with_reducible exact hide (blk_keep hX nb1p (unhide C2))); obtain ⟨c30, c31, c32, c33, f30, f31, f32, f33⟩ := blk_cells (unhide C3); have lC3 : w1.heap.size + 1 < w3.heap.size := blk_lt (unhide C3)) | skip); (first | (have G3 : Hid (w3.heap[w1.heap.size]? = some (twoO 0 q1)) := (by with_reducible exact hide (blk_keep hX nb1 (unhide G2))); have g3 : w3.cell? ⟨w1.heap.size, 0, none⟩ = some (.int .i64 0) := (by rw [Joins.cell_of_block (unhide G3)]; rfl); have lG3 : w1.heap.size < w3.heap.size := blk_lt (unhide G3)) | (have G3 : Hid (w3.heap[w1.heap.size + 1]? = some (twoO 0 q1)) := (by with_reducible exact hide (blk_keep hX nb1p (unhide G2))); have g3 : w3.cell? ⟨w1.heap.size + 1, 0, none⟩ = some (.int .i64 0) := (by rw [Joins.cell_of_block (unhide G3)]; rfl); have lG3 : w1.heap.size + 1 < w3.heap.size := blk_lt (unhide G3)) | skip)) | (have hX : Keep (fun k => k = b) (w2.alloc (twoO 0 q1)) w3 := (by with_reducible exact hk3); have G3 := hide (blk_keep hX nb2 (new_top w2 _)); have g3 : w3.cell? ⟨w2.heap.size, 0, none⟩ = some (.int .i64 0) := (by rw [Joins.cell_of_block (unhide G3)]; rfl); have lG3 : w2.heap.size < w3.heap.size := blk_lt (unhide G3); (first | (have C3 : Hid (w3.heap[W0.heap.size]? = some (blkO 0 0 0 0)) := (by with_reducible exact hide (blk_keep hX nb0 (new_at (unhide C2)))); obtain ⟨c30, c31, c32, c33, f30, f31, f32, f33⟩ := blk_cells (unhide C3); have lC3 : W0.heap.size < w3.heap.size := blk_lt (unhide C3)) | (have C3 : Hid (w3.heap[w1.heap.size]? = some (blkO 0 0 0 0)) := (by with_reducible exact hide (blk_keep hX nb1 (new_at (unhide C2)))); obtain ⟨c30, c31, c32, c33, f30, f31, f32, f33⟩ := blk_cells (unhide C3); have lC3 : w1.heap.size < w3.heap.size := blk_lt (unhide C3)) | (have C3 : Hid (w3.heap[w1.heap.size + 1]? = some (blkO 0 0 0 0)) := (by with_reducible exact hide (blk_keep hX nb1p (new_at (unhide C2)))); obtain ⟨c30, c31, c32, c33, f30, f31, f32, f33⟩ := blk_cells (unhide C3); have lC3 : w1.heap.size + 1 < w3.heap.size := blk_lt (unhide C3)) | skip)) | (have hX : Keep (fun k => k = b) (w2.alloc (blkO 0 0 0 0)) w3 := (by with_reducible exact hk3); have C3 := hide (blk_keep hX nb2 (new_top w2 _)); obtain ⟨c30, c31, c32, c33, f30, f31, f32, f33⟩ := blk_cells (unhide C3); have lC3 : w2.heap.size < w3.heap.size := blk_lt (unhide C3); (first | (have G3 : Hid (w3.heap[w1.heap.size]? = some (twoO 0 q1)) := (by with_reducible exact hide (blk_keep hX nb1 (new_at (unhide G2)))); have g3 : w3.cell? ⟨w1.heap.size, 0, none⟩ = some (.int .i64 0) := (by rw [Joins.cell_of_block (unhide G3)]; rfl); have lG3 : w1.heap.size < w3.heap.size := blk_lt (unhide G3)) | (have G3 : Hid (w3.heap[w1.heap.size + 1]? = some (twoO 0 q1)) := (by with_reducible exact hide (blk_keep hX nb1p (new_at (unhide G2)))); have g3 : w3.cell? ⟨w1.heap.size + 1, 0, none⟩ = some (.int .i64 0) := (by rw [Joins.cell_of_block (unhide G3)]; rfl); have lG3 : w1.heap.size + 1 < w3.heap.size := blk_lt (unhide G3)) | skip)) | (have hX : Keep (fun k => k = b) ((w2.alloc (twoO 0 q1)).alloc (blkO 0 0 0 0)) w3 := (by with_reducible exact hk3); have G3 := hide (blk_keep hX nb2 (new_at (new_top w2 _))); have g3 : w3.cell? ⟨w2.heap.size, 0, none⟩ = some (.int .i64 0) := (by rw [Joins.cell_of_block (unhide G3)]; rfl); have lG3 : w2.heap.size < w3.heap.size := blk_lt (unhide G3); have C3 := hide (blk_keep hX nb2p (new_two w2 _ _)); obtain ⟨c30, c31, c32, c33, f30, f31, f32, f33⟩ := blk_cells (unhide C3); have lC3 : w2.heap.size + 1 < w3.heap.size := blk_lt (unhide C3)) | (have hX : Keep (fun k => k = b) ((w2.alloc (blkO 0 0 0 0)).alloc (twoO 0 q1)) w3 := (by with_reducible exact hk3); have C3 := hide (blk_keep hX nb2 (new_at (new_top w2 _))); obtain ⟨c30, c31, c32, c33, f30, f31, f32, f33⟩ := blk_cells (unhide C3); have lC3 : w2.heap.size < w3.heap.size := blk_lt (unhide C3); have G3 := hide (blk_keep hX nb2p (new_two w2 _ _)); have g3 : w3.cell? ⟨w2.heap.size + 1, 0, none⟩ = some (.int .i64 0) := (by rw [Joins.cell_of_block (unhide G3)]; rfl); have lG3 : w2.heap.size + 1 < w3.heap.size := blk_lt (unhide G3))); clear hs3 hk3 hX))
    all_goals
      have gt1 : w.heap.size < w1.heap.size := blk_lt (unhide D1).r
      have gt2 : w.heap.size < w2.heap.size := blk_lt (unhide D2).r
      have S3 := (unhide D3).d (show a + 1 + 1 + 1 ≤ m + 3 by omega)
      go_wp2_with fail
      go_meet
      first
        | (have E9 := hide (BlkAt.top (v := 0) (mb := q3) (bl := 0) (i := 0) S3 hlt); with_reducible exact ⟨_, rfl, E9⟩)
        | (have E9 := hide (BlkAt.two (v := 0) (mb := q3) (bl := 0) (i := 0) S3 hlt (twoO 0 q1)); with_reducible exact ⟨_, rfl, E9⟩)
        | (have E9 := hide ((BlkAt.top (v := 0) (mb := q3) (bl := 0) (i := 0) S3 hlt).more (twoO 0 q1)); with_reducible exact ⟨_, rfl, E9⟩)
        | (have E9 := hide (BlkAt.set (v := 0) (mb := q3) (bl := 0) (i := 0) S3 (unhide HS) hlt (unhide C3) (by first | exact gt0 | exact gt1 | exact gt2 | omega)); with_reducible exact ⟨_, rfl, E9⟩)
        | (have E9 := hide ((BlkAt.set (v := 0) (mb := q3) (bl := 0) (i := 0) S3 (unhide HS) hlt (unhide C3) (by first | exact gt0 | exact gt1 | exact gt2 | omega)).more (twoO 0 q1)); with_reducible exact ⟨_, rfl, E9⟩)
  case rest =>
    obtain ⟨C, rfl, E0⟩ := hcut
    clear D0 HQ1 HQ2 HQ3
    obtain ⟨x0, x1, x2, x3, y0, y1, y2, y3⟩ := blk_cells (unhide E0).c
    go_wp2_with fail
    refine (next_k b ao n cap (m + 3) (q3 + 1) _ (by omega) (by omega) (by omega) hn (unhide E0).d.s).mono ?_
    rintro e w5 ⟨bl, rfl, bl0, bl1, hs5, hk5⟩
    have E1 := hide ((unhide E0).src hlt hs5 hk5)
    clear hs5 hk5 E0 x0 x1 x2 x3 y0 y1 y2 y3
    obtain ⟨x0, x1, x2, x3, y0, y1, y2, y3⟩ := blk_cells (unhide E1).c
    have E2 := hide ((unhide E1).bal (unhide HS) hlt bl)
    by_cases hbl : 0 < bl
    · go_wp2_with fail
      revert E2
      generalize w5.setCell ⟨C, 2, none⟩ (.int .i64 bl) = W6
      intro E2
      refine (next_k b ao n cap (m + 3 + 3) 9 _ (by omega) (by omega) (by omega) hn (unhide E2).d.s).mono ?_
      rintro e w7 ⟨ip, rfl, ip0, ip1, hs7, hk7⟩
      have E3 := hide ((unhide E2).src hlt hs7 hk7)
      clear hs7 hk7 E1 E2 x0 x1 x2 x3 y0 y1 y2 y3
      obtain ⟨x0, x1, x2, x3, y0, y1, y2, y3⟩ := blk_cells (unhide E3).c
      have E4 := hide ((unhide E3).inp (unhide HS) hlt ip)
      obtain ⟨c0, c1, c2, c3, f0, f1, f2, f3⟩ := blk_cells (unhide E3).d.r
      obtain ⟨d0, d1, d2, d3, g0, g1, g2, g3⟩ := blk_cells (unhide E4).d.r
      obtain ⟨u0, u1, u2, u3, v0, v1, v2, v3⟩ := blk_cells (unhide E4).c
      have hne : C ≠ w.heap.size := by have := (unhide E4).gt; omega
      have hne' := hne.symm
      have HE := hide (fun p q r t => DrS.end4 (unhide E4).d hlt (unhide HS) p q r t)
      go_wp2
      exact bodyPost_ret (v := blkV 0 q3 bl ip) (by simp [results, Try.results42, go_sem, *]) rfl ⟨0, q3, bl, ip, rfl, by omega, by omega, by omega, by omega, by omega, (unhide HE _ _ _ _).1.more (by omega), (unhide HE _ _ _ _).2⟩
    · have hb0 : bl = 0 := by omega
      subst hb0
      obtain ⟨c0, c1, c2, c3, f0, f1, f2, f3⟩ := blk_cells (unhide E1).d.r
      have hne : C ≠ w.heap.size := by have := (unhide E2).gt; omega
      have hne' := hne.symm
      have HE := hide (fun p q r t => DrS.end4 (unhide E2).d hlt (unhide HS) p q r t)
      go_wp2
      exact bodyPost_ret (v := blkV 0 q3 0 0) (by simp [results, Try.results42, go_sem, *]) rfl ⟨0, q3, 0, 0, rfl, by omega, by omega, by omega, by omega, fun _ => rfl, (unhide HE _ _ _ _).1.more (by omega), (unhide HE _ _ _ _).2⟩

end Go.Proofs.Ytdfinapjgffjiaa

/- The model's draw of a block, where the second number drawn is 1. -/
namespace Go.Proofs.Ytdfinapjgffjiaa
open Go.RowKit
set_option linter.unusedVariables false
set_option maxRecDepth 100000

set_option maxHeartbeats 12800000 in
theorem block_1 (b : Nat) (ao : Option Addr) (n cap a : Nat) (cd : Nat → Int) (seed : Int) (m : Nat) (w : World) (ha : a ≤ m) (hm : m ≤ 800000) (hn : n ≤ 1048576) (hs : SrcX w b ao n cap cd a seed) (q1 q3 : Int) (hq1 : srcV cd n a seed % 3 = q1) (hq2 : srcV cd n (a + 1) (srcN cd n a seed) % 2 = 1) (hq3 : srcV cd n (a + 1 + 1) (srcN cd n (a + 1) (srcN cd n a seed)) % 12 = q3) :
    Calls Try.prog 42 #[.pointer (some ⟨b, 0, none⟩)] w fun e w' => ∃ v mb bl i : Int, e = .returned (blkV v mb bl i) ∧ (0 ≤ v ∧ v ≤ 2) ∧ (0 ≤ mb ∧ mb ≤ 11) ∧ (0 ≤ bl ∧ bl ≤ mb) ∧ (0 ≤ i ∧ i ≤ 8) ∧ (bl = 0 → i = 0) ∧ SrcK w' b ao n cap (m + 15) ∧ Keep (fun j => j = b) w w' := by
  have hlt := hs.lt
  have HS : Hid (∃ m0, SrcK w b ao n cap m0) := hide ⟨m, hs.k ha⟩
  have D0 : Hid (DrX w (w.alloc (.cells #[.int .i64 0, .int .i64 0, .int .i64 0, .int .i64 0] 35)) b ao n cap cd a seed (blkO 0 0 0 0)) := hide ⟨hs.below (Joins.below_alloc1 _ _), Keep.of_below (Joins.below_alloc1 _ _), heap_alloc_new w _⟩
  have HQ1 := hide hq1
  have HQ2 := hide hq2
  have q10 : 0 ≤ q1 ∧ q1 < 3 := by rw [← hq1]; exact srcV_mod (by omega)
  have q30 : 0 ≤ q3 ∧ q3 < 12 := by rw [← hq3]; exact srcV_mod (by omega)
  have HQ3 := hide hq3
  clear hs hq1 hq2 hq3
  go_enter Try.func42, Try.ntmps42
  go_upto_region 1 with fail
  revert D0
  generalize w.alloc (.cells #[.int .i64 0, .int .i64 0, .int .i64 0, .int .i64 0] 35) = W0
  intro D0
  go_cut [3] from 4 to 13 (fun c wx => ∃ C : Nat, c = .pointer (some ⟨C, 0, none⟩) ∧ Hid (BlkAt w wx b ao n cap (m + 3) C q1 q3 0 0))
  case first =>
    have r0 : W0.cell? ⟨w.heap.size, 0, none⟩ = some (.int .i64 0) := by rw [Joins.cell_of_block (unhide D0).r]; rfl
    have n0 : W0.heap.size ≠ w.heap.size := World.new_ne W0 ⟨w.heap.size, 0, none⟩ r0
    have hb0 := (unhide D0).s.lt
    have nb0 : W0.heap.size ≠ b := by omega
    have gt0 : w.heap.size < W0.heap.size := blk_lt (unhide D0).r
    go_region_with (first
      | (go_at_call_of 41 (Value.int IntKind.i64 3); refine (next_x b ao n cap a cd seed 3 _ (by omega) (by omega) (by omega) hn ?_).mono ?_; (first | exact (unhide D0).s.below ((Below.refl _ _).drew) | exact ((unhide D0).s.below ((Below.refl _ _).drew)).below (Joins.below_alloc1 _ _)); rintro e w1 ⟨rfl, hs1, hk1⟩; rw [unhide HQ1]; have D1 := hide (DrX.src (DrX.below (unhide D0) (by first | exact (Below.refl _ _).drew | exact fr ((Below.refl _ _).drew) (Joins.below_alloc1 _ _))) hlt hs1 hk1); have hb1 := hs1.lt; have r1 : w1.cell? ⟨w.heap.size, 0, none⟩ = some (.int .i64 0) := (by rw [Joins.cell_of_block (unhide D1).r]; rfl); have n1 : w1.heap.size ≠ w.heap.size := World.new_ne w1 ⟨w.heap.size, 0, none⟩ r1; have nb1 : w1.heap.size ≠ b := (by omega); have nb1p : w1.heap.size + 1 ≠ b := (by omega); (first | (have hX : Keep (fun k => k = b) (W0.alloc (blkO 0 0 0 0)).drew w1 := (by with_reducible exact hk1); have C1 := hide (blk_keep hX nb0 (new_top W0 (blkO 0 0 0 0))); clear hX) | skip); clear hs1 hk1)
      | (go_at_call_of 41 (Value.int IntKind.i64 2); refine (next_x b ao n cap (a + 1) cd (srcN cd n a seed) 2 _ (by omega) (by omega) (by omega) hn ?_).mono ?_; (first | exact (unhide D1).s | exact (unhide D1).s.below (Joins.below_alloc1 _ _) | exact (unhide D1).s.below (Joins.below_alloc2 _ _ _)); rintro e w2 ⟨rfl, hs2, hk2⟩; rw [unhide HQ2]; have D2 := hide (DrX.src (DrX.below (unhide D1) (by first | exact Below.refl _ _ | exact Joins.below_alloc1 _ _ | exact Joins.below_alloc2 _ _ _)) hlt hs2 hk2); have hb2 := hs2.lt; have r2 : w2.cell? ⟨w.heap.size, 0, none⟩ = some (.int .i64 0) := (by rw [Joins.cell_of_block (unhide D2).r]; rfl); have n2 : w2.heap.size ≠ w.heap.size := World.new_ne w2 ⟨w.heap.size, 0, none⟩ r2; have nb2 : w2.heap.size ≠ b := (by omega); have nb2p : w2.heap.size + 1 ≠ b := (by omega); (first | (have hX : Keep (fun k => k = b) w1 w2 := (by with_reducible exact hk2); (first | (have C2 : Hid (w2.heap[W0.heap.size]? = some (blkO 0 0 0 0)) := (by with_reducible exact hide (blk_keep hX nb0 (unhide C1))); obtain ⟨c20, c21, c22, c23, f20, f21, f22, f23⟩ := blk_cells (unhide C2); have lC2 : W0.heap.size < w2.heap.size := blk_lt (unhide C2)) | skip); skip) | (have hX : Keep (fun k => k = b) (w1.alloc (twoO 0 q1)) w2 := (by with_reducible exact hk2); have G2 := hide (blk_keep hX nb1 (new_top w1 _)); have g2 : w2.cell? ⟨w1.heap.size, 1, none⟩ = some (.int .i64 q1) := (by rw [Joins.cell_of_block (unhide G2)]; rfl); have lG2 : w1.heap.size < w2.heap.size := blk_lt (unhide G2); (first | (have C2 : Hid (w2.heap[W0.heap.size]? = some (blkO 0 0 0 0)) := (by with_reducible exact hide (blk_keep hX nb0 (new_at (unhide C1)))); obtain ⟨c20, c21, c22, c23, f20, f21, f22, f23⟩ := blk_cells (unhide C2); have lC2 : W0.heap.size < w2.heap.size := blk_lt (unhide C2)) | skip)) | (have hX : Keep (fun k => k = b) (w1.alloc (blkO 0 0 0 0)) w2 := (by with_reducible exact hk2); have C2 := hide (blk_keep hX nb1 (new_top w1 _)); obtain ⟨c20, c21, c22, c23, f20, f21, f22, f23⟩ := blk_cells (unhide C2); have lC2 : w1.heap.size < w2.heap.size := blk_lt (unhide C2); skip) | (have hX : Keep (fun k => k = b) ((w1.alloc (twoO 0 q1)).alloc (blkO 0 0 0 0)) w2 := (by with_reducible exact hk2); have G2 := hide (blk_keep hX nb1 (new_at (new_top w1 _))); have g2 : w2.cell? ⟨w1.heap.size, 1, none⟩ = some (.int .i64 q1) := (by rw [Joins.cell_of_block (unhide G2)]; rfl); have lG2 : w1.heap.size < w2.heap.size := blk_lt (unhide G2); have C2 := hide (blk_keep hX nb1p (new_two w1 _ _)); obtain ⟨c20, c21, c22, c23, f20, f21, f22, f23⟩ := blk_cells (unhide C2); have lC2 : w1.heap.size + 1 < w2.heap.size := blk_lt (unhide C2)) | (have hX : Keep (fun k => k = b) ((w1.alloc (blkO 0 0 0 0)).alloc (twoO 0 q1)) w2 := (by with_reducible exact hk2); have C2 := hide (blk_keep hX nb1 (new_at (new_top w1 _))); obtain ⟨c20, c21, c22, c23, f20, f21, f22, f23⟩ := blk_cells (unhide C2); have lC2 : w1.heap.size < w2.heap.size := blk_lt (unhide C2); have G2 := hide (blk_keep hX nb1p (new_two w1 _ _)); have g2 : w2.cell? ⟨w1.heap.size + 1, 1, none⟩ = some (.int .i64 q1) := (by rw [Joins.cell_of_block (unhide G2)]; rfl); have lG2 : w1.heap.size + 1 < w2.heap.size := blk_lt (unhide G2))); clear hs2 hk2 hX)
      | (go_at_call_of 41 (Value.int IntKind.i64 12); refine (next_x b ao n cap (a + 1 + 1) cd (srcN cd n (a + 1) (srcN cd n a seed)) 12 _ (by omega) (by omega) (by omega) hn ?_).mono ?_; (first | exact (unhide D2).s | exact (unhide D2).s.below (Joins.below_alloc1 _ _) | exact (unhide D2).s.below (Joins.below_alloc2 _ _ _)); rintro e w3 ⟨rfl, hs3, hk3⟩; rw [unhide HQ3]; have D3 := hide (DrX.src (DrX.below (unhide D2) (by first | exact Below.refl _ _ | exact Joins.below_alloc1 _ _ | exact Joins.below_alloc2 _ _ _)) hlt hs3 hk3); have hb3 := hs3.lt; have r3 : w3.cell? ⟨w.heap.size, 0, none⟩ = some (.int .i64 0) := (by rw [Joins.cell_of_block (unhide D3).r]; rfl); have n3 : w3.heap.size ≠ w.heap.size := World.new_ne w3 ⟨w.heap.size, 0, none⟩ r3; have nb3 : w3.heap.size ≠ b := (by omega); have nb3p : w3.heap.size + 1 ≠ b := (by omega); (first | (have hX : Keep (fun k => k = b) w2 w3 := (by with_reducible exact hk3); (first | (have C3 : Hid (w3.heap[W0.heap.size]? = some (blkO 0 0 0 0)) := (by with_reducible exact hide (blk_keep hX nb0 (unhide C2))); obtain ⟨c30, c31, c32, c33, f30, f31, f32, f33⟩ := blk_cells (unhide C3); have lC3 : W0.heap.size < w3.heap.size := blk_lt (unhide C3)) | (have C3 : Hid (w3.heap[w1.heap.size]? = some (blkO 0 0 0 0)) := (by with_reducible exact hide (blk_keep hX nb1 (unhide C2))); obtain ⟨c30, c31, c32, c33, f30, f31, f32, f33⟩ := blk_cells (unhide C3); have lC3 : w1.heap.size < w3.heap.size := blk_lt (unhide C3)) | (have C3 : Hid (w3.heap[w1.heap.size + 1]? = some (blkO 0 0 0 0)) := (by with_reducible exact hide (blk_keep hX nb1p (unhide C2))); obtain ⟨c30, c31, c32, c33, f30, f31, f32, f33⟩ := blk_cells (unhide C3); have lC3 : w1.heap.size + 1 < w3.heap.size := blk_lt (unhide C3)) | skip); (first | (have G3 : Hid (w3.heap[w1.heap.size]? = some (twoO 0 q1)) := (by with_reducible exact hide (blk_keep hX nb1 (unhide G2))); have g3 : w3.cell? ⟨w1.heap.size, 1, none⟩ = some (.int .i64 q1) := (by rw [Joins.cell_of_block (unhide G3)]; rfl); have lG3 : w1.heap.size < w3.heap.size := blk_lt (unhide G3)) | (have G3 : Hid (w3.heap[w1.heap.size + 1]? = some (twoO 0 q1)) := (by with_reducible exact hide (blk_keep hX nb1p (unhide G2))); have g3 : w3.cell? ⟨w1.heap.size + 1, 1, none⟩ = some (.int .i64 q1) := (by rw [Joins.cell_of_block (unhide G3)]; rfl); have lG3 : w1.heap.size + 1 < w3.heap.size := blk_lt (unhide G3)) | skip)) | (have hX : Keep (fun k => k = b) (w2.alloc (twoO 0 q1)) w3 := (by with_reducible exact hk3); have G3 := hide (blk_keep hX nb2 (new_top w2 _)); have g3 : w3.cell? ⟨w2.heap.size, 1, none⟩ = some (.int .i64 q1) := (by rw [Joins.cell_of_block (unhide G3)]; rfl); have lG3 : w2.heap.size < w3.heap.size := blk_lt (unhide G3); (first | (have C3 : Hid (w3.heap[W0.heap.size]? = some (blkO 0 0 0 0)) := (by with_reducible exact hide (blk_keep hX nb0 (new_at (unhide C2)))); obtain ⟨c30, c31, c32, c33, f30, f31, f32, f33⟩ := blk_cells (unhide C3); have lC3 : W0.heap.size < w3.heap.size := blk_lt (unhide C3)) | (have C3 : Hid (w3.heap[w1.heap.size]? = some (blkO 0 0 0 0)) := (by with_reducible exact hide (blk_keep hX nb1 (new_at (unhide C2)))); obtain ⟨c30, c31, c32, c33, f30, f31, f32, f33⟩ := blk_cells (unhide C3); have lC3 : w1.heap.size < w3.heap.size := blk_lt (unhide C3)) | (have C3 : Hid (w3.heap[w1.heap.size + 1]? = some (blkO 0 0 0 0)) := (by with_reducible exact hide (blk_keep hX nb1p (new_at (unhide C2)))); obtain ⟨c30, c31, c32, c33, f30, f31, f32, f33⟩ := blk_cells (unhide C3); have lC3 : w1.heap.size + 1 < w3.heap.size := blk_lt (unhide C3)) | skip)) | (have hX : Keep (fun k => k = b) (w2.alloc (blkO 0 0 0 0)) w3 := (by with_reducible exact hk3); have C3 := hide (blk_keep hX nb2 (new_top w2 _)); obtain ⟨c30, c31, c32, c33, f30, f31, f32, f33⟩ := blk_cells (unhide C3); have lC3 : w2.heap.size < w3.heap.size := blk_lt (unhide C3); (first | (have G3 : Hid (w3.heap[w1.heap.size]? = some (twoO 0 q1)) := (by with_reducible exact hide (blk_keep hX nb1 (new_at (unhide G2)))); have g3 : w3.cell? ⟨w1.heap.size, 1, none⟩ = some (.int .i64 q1) := (by rw [Joins.cell_of_block (unhide G3)]; rfl); have lG3 : w1.heap.size < w3.heap.size := blk_lt (unhide G3)) | (have G3 : Hid (w3.heap[w1.heap.size + 1]? = some (twoO 0 q1)) := (by with_reducible exact hide (blk_keep hX nb1p (new_at (unhide G2)))); have g3 : w3.cell? ⟨w1.heap.size + 1, 1, none⟩ = some (.int .i64 q1) := (by rw [Joins.cell_of_block (unhide G3)]; rfl); have lG3 : w1.heap.size + 1 < w3.heap.size := blk_lt (unhide G3)) | skip)) | (have hX : Keep (fun k => k = b) ((w2.alloc (twoO 0 q1)).alloc (blkO 0 0 0 0)) w3 := (by with_reducible exact hk3); have G3 := hide (blk_keep hX nb2 (new_at (new_top w2 _))); have g3 : w3.cell? ⟨w2.heap.size, 1, none⟩ = some (.int .i64 q1) := (by rw [Joins.cell_of_block (unhide G3)]; rfl); have lG3 : w2.heap.size < w3.heap.size := blk_lt (unhide G3); have C3 := hide (blk_keep hX nb2p (new_two w2 _ _)); obtain ⟨c30, c31, c32, c33, f30, f31, f32, f33⟩ := blk_cells (unhide C3); have lC3 : w2.heap.size + 1 < w3.heap.size := blk_lt (unhide C3)) | (have hX : Keep (fun k => k = b) ((w2.alloc (blkO 0 0 0 0)).alloc (twoO 0 q1)) w3 := (by with_reducible exact hk3); have C3 := hide (blk_keep hX nb2 (new_at (new_top w2 _))); obtain ⟨c30, c31, c32, c33, f30, f31, f32, f33⟩ := blk_cells (unhide C3); have lC3 : w2.heap.size < w3.heap.size := blk_lt (unhide C3); have G3 := hide (blk_keep hX nb2p (new_two w2 _ _)); have g3 : w3.cell? ⟨w2.heap.size + 1, 1, none⟩ = some (.int .i64 q1) := (by rw [Joins.cell_of_block (unhide G3)]; rfl); have lG3 : w2.heap.size + 1 < w3.heap.size := blk_lt (unhide G3))); clear hs3 hk3 hX))
    all_goals
      have gt1 : w.heap.size < w1.heap.size := blk_lt (unhide D1).r
      have gt2 : w.heap.size < w2.heap.size := blk_lt (unhide D2).r
      have S3 := (unhide D3).d (show a + 1 + 1 + 1 ≤ m + 3 by omega)
      go_wp2_with fail
      go_meet
      first
        | (have E9 := hide (BlkAt.top (v := q1) (mb := q3) (bl := 0) (i := 0) S3 hlt); with_reducible exact ⟨_, rfl, E9⟩)
        | (have E9 := hide (BlkAt.two (v := q1) (mb := q3) (bl := 0) (i := 0) S3 hlt (twoO 0 q1)); with_reducible exact ⟨_, rfl, E9⟩)
        | (have E9 := hide ((BlkAt.top (v := q1) (mb := q3) (bl := 0) (i := 0) S3 hlt).more (twoO 0 q1)); with_reducible exact ⟨_, rfl, E9⟩)
        | (have E9 := hide (BlkAt.set (v := q1) (mb := q3) (bl := 0) (i := 0) S3 (unhide HS) hlt (unhide C3) (by first | exact gt0 | exact gt1 | exact gt2 | omega)); with_reducible exact ⟨_, rfl, E9⟩)
        | (have E9 := hide ((BlkAt.set (v := q1) (mb := q3) (bl := 0) (i := 0) S3 (unhide HS) hlt (unhide C3) (by first | exact gt0 | exact gt1 | exact gt2 | omega)).more (twoO 0 q1)); with_reducible exact ⟨_, rfl, E9⟩)
  case rest =>
    obtain ⟨C, rfl, E0⟩ := hcut
    clear D0 HQ1 HQ2 HQ3
    obtain ⟨x0, x1, x2, x3, y0, y1, y2, y3⟩ := blk_cells (unhide E0).c
    go_wp2_with fail
    refine (next_k b ao n cap (m + 3) (q3 + 1) _ (by omega) (by omega) (by omega) hn (unhide E0).d.s).mono ?_
    rintro e w5 ⟨bl, rfl, bl0, bl1, hs5, hk5⟩
    have E1 := hide ((unhide E0).src hlt hs5 hk5)
    clear hs5 hk5 E0 x0 x1 x2 x3 y0 y1 y2 y3
    obtain ⟨x0, x1, x2, x3, y0, y1, y2, y3⟩ := blk_cells (unhide E1).c
    have E2 := hide ((unhide E1).bal (unhide HS) hlt bl)
    by_cases hbl : 0 < bl
    · go_wp2_with fail
      revert E2
      generalize w5.setCell ⟨C, 2, none⟩ (.int .i64 bl) = W6
      intro E2
      refine (next_k b ao n cap (m + 3 + 3) 9 _ (by omega) (by omega) (by omega) hn (unhide E2).d.s).mono ?_
      rintro e w7 ⟨ip, rfl, ip0, ip1, hs7, hk7⟩
      have E3 := hide ((unhide E2).src hlt hs7 hk7)
      clear hs7 hk7 E1 E2 x0 x1 x2 x3 y0 y1 y2 y3
      obtain ⟨x0, x1, x2, x3, y0, y1, y2, y3⟩ := blk_cells (unhide E3).c
      have E4 := hide ((unhide E3).inp (unhide HS) hlt ip)
      obtain ⟨c0, c1, c2, c3, f0, f1, f2, f3⟩ := blk_cells (unhide E3).d.r
      obtain ⟨d0, d1, d2, d3, g0, g1, g2, g3⟩ := blk_cells (unhide E4).d.r
      obtain ⟨u0, u1, u2, u3, v0, v1, v2, v3⟩ := blk_cells (unhide E4).c
      have hne : C ≠ w.heap.size := by have := (unhide E4).gt; omega
      have hne' := hne.symm
      have HE := hide (fun p q r t => DrS.end4 (unhide E4).d hlt (unhide HS) p q r t)
      go_wp2
      exact bodyPost_ret (v := blkV q1 q3 bl ip) (by simp [results, Try.results42, go_sem, *]) rfl ⟨q1, q3, bl, ip, rfl, by omega, by omega, by omega, by omega, by omega, (unhide HE _ _ _ _).1.more (by omega), (unhide HE _ _ _ _).2⟩
    · have hb0 : bl = 0 := by omega
      subst hb0
      obtain ⟨c0, c1, c2, c3, f0, f1, f2, f3⟩ := blk_cells (unhide E1).d.r
      have hne : C ≠ w.heap.size := by have := (unhide E2).gt; omega
      have hne' := hne.symm
      have HE := hide (fun p q r t => DrS.end4 (unhide E2).d hlt (unhide HS) p q r t)
      go_wp2
      exact bodyPost_ret (v := blkV q1 q3 0 0) (by simp [results, Try.results42, go_sem, *]) rfl ⟨q1, q3, 0, 0, rfl, by omega, by omega, by omega, by omega, fun _ => rfl, (unhide HE _ _ _ _).1.more (by omega), (unhide HE _ _ _ _).2⟩

end Go.Proofs.Ytdfinapjgffjiaa

/- Contract of the model's draw of a block. -/
namespace Go.Proofs.Ytdfinapjgffjiaa
open Go.RowKit
theorem block_k (b : Nat) (ao : Option Addr) (n cap m : Nat) (w : World) (hm : m ≤ 800000) (hn : n ≤ 1048576) (hs : SrcK w b ao n cap m) :
    Calls Try.prog 42 #[.pointer (some ⟨b, 0, none⟩)] w fun e w' => ∃ v mb bl i : Int, e = .returned (blkV v mb bl i) ∧ (0 ≤ v ∧ v ≤ 2) ∧ (0 ≤ mb ∧ mb ≤ 11) ∧ (0 ≤ bl ∧ bl ≤ mb) ∧ (0 ≤ i ∧ i ≤ 8) ∧ (bl = 0 → i = 0) ∧ SrcK w' b ao n cap (m + 15) ∧ Keep (fun j => j = b) w w' := by
  obtain ⟨cd, a, seed, ha, hx⟩ := hs.x
  have h2 := srcV_mod (cd := cd) (n := n) (a := a + 1) (seed := srcN cd n a seed) (k := 2) (by omega)
  by_cases e : srcV cd n (a + 1) (srcN cd n a seed) % 2 = 0
  · exact block_0 b ao n cap a cd seed m w ha hm hn hx _ _ rfl e rfl
  · exact block_1 b ao n cap a cd seed m w ha hm hn hx _ _ rfl (by omega) rfl
end Go.Proofs.Ytdfinapjgffjiaa

/- Contracts of the model's drawn ballots: px, PxOf, blocks, BlocksOf. -/
namespace Go.Proofs.Ytdfinapjgffjiaa
open Go.RowKit
set_option linter.unusedVariables false
set_option maxRecDepth 100000

set_option maxHeartbeats 6400000 in
theorem px_k (b : Nat) (ao : Option Addr) (n cap m : Nat) (w : World) (hm : m ≤ 700000) (hn : n ≤ 1048576) (hs : SrcK w b ao n cap m) :
    Calls Try.prog 21 #[.pointer (some ⟨b, 0, none⟩)] w fun e w' => ∃ p : Pxs, e = .returned (pV p) ∧ pxB p = true ∧ Keep (fun k => k = b) w w' := by
  have hbl := hs.lt
  have HSA := hide (hs.below (Joins.below_alloc1 w (.cells #[.int .i64 0, .int .i64 0, .int .i64 0, .int .i64 0, .int .i64 0, .int .i64 0, .int .i64 0, .int .i64 0] 24)))
  have HVA := hide (VarP.new0 w 24)
  have HKA : Hid (Keep (fun k => k = b) w (w.alloc (.cells #[.int .i64 0, .int .i64 0, .int .i64 0, .int .i64 0, .int .i64 0, .int .i64 0, .int .i64 0, .int .i64 0] 24))) := hide (Keep.of_below (Joins.below_alloc1 _ _))
  clear hs
  go_enter Try.func21, Try.ntmps21
  go_wp2_with fail
  revert HSA HVA HKA
  generalize w.alloc (.cells #[.int .i64 0, .int .i64 0, .int .i64 0, .int .i64 0, .int .i64 0, .int .i64 0, .int .i64 0, .int .i64 0] 24) = W0
  intro HS HV HK
  refine (next_k b ao n cap m 4 _ (by omega) (by omega) (by omega) hn (unhide HS)).mono ?_
  rintro e w1 ⟨h, rfl, hh0, hh1, hs, hk⟩
  replace HS := hide hs
  replace HV := hide ((unhide HV).keep hk (by show ¬ _ = _; omega))
  replace HK := hide ((unhide HK).trans hk)
  clear hs hk
  go_wp2_with fail
  refine (next_k b ao n cap _ 3 _ (by omega) (by omega) (by omega) hn (unhide HS)).mono ?_
  rintro e w2 ⟨v, rfl, hv0, hv1, hs, hk⟩
  replace HS := hide hs
  replace HV := hide ((unhide HV).keep hk (by show ¬ _ = _; omega))
  replace HK := hide ((unhide HK).trans hk)
  clear hs hk
  go_wp2_with fail
  refine (next_k b ao n cap _ 6 _ (by omega) (by omega) (by omega) hn (unhide HS)).mono ?_
  rintro e w3 ⟨f, rfl, hf0, hf1, hs, hk⟩
  replace HS := hide hs
  replace HV := hide ((unhide HV).keep hk (by show ¬ _ = _; omega))
  replace HK := hide ((unhide HK).trans hk)
  clear hs hk
  have wf : IntKind.i64.wrap (1 + f) = 1 + f := wrapI (by omega) (by omega)
  go_wp2_with fail
  refine (next_k b ao n cap _ 4 _ (by omega) (by omega) (by omega) hn (unhide HS)).mono ?_
  rintro e w4 ⟨t, rfl, ht0, ht1, hs, hk⟩
  replace HS := hide hs
  replace HV := hide ((unhide HV).keep hk (by show ¬ _ = _; omega))
  replace HK := hide ((unhide HK).trans hk)
  clear hs hk
  have wt : IntKind.i64.wrap (1 + t) = 1 + t := wrapI (by omega) (by omega)
  have wu : IntKind.i64.wrap (4 * (1 + t)) = 4 * (1 + t) := wrapI (by omega) (by omega)
  have wv : IntKind.i64.wrap (4 * (1 + t) + h) = 4 * (1 + t) + h := wrapI (by omega) (by omega)
  go_wp2_with fail
  refine (next_k b ao n cap _ 9 _ (by omega) (by omega) (by omega) hn (unhide HS)).mono ?_
  rintro e w5 ⟨x, rfl, hx0, hx1, hs, hk⟩
  replace HS := hide hs
  replace HV := hide ((unhide HV).keep hk (by show ¬ _ = _; omega))
  replace HK := hide ((unhide HK).trans hk)
  clear hs hk
  go_wp2_with fail
  refine (next_k b ao n cap _ 5 _ (by omega) (by omega) (by omega) hn (unhide HS)).mono ?_
  rintro e w6 ⟨y, rfl, hy0, hy1, hs, hk⟩
  replace HS := hide hs
  replace HV := hide ((unhide HV).keep hk (by show ¬ _ = _; omega))
  replace HK := hide ((unhide HK).trans hk)
  clear hs hk
  go_wp2_with fail
  refine (next_k b ao n cap _ 9 _ (by omega) (by omega) (by omega) hn (unhide HS)).mono ?_
  rintro e w7 ⟨z, rfl, hz0, hz1, hs, hk⟩
  replace HS := hide hs
  replace HV := hide ((unhide HV).keep hk (by show ¬ _ = _; omega))
  replace HK := hide ((unhide HK).trans hk)
  clear hs hk
  go_wp2_with fail
  refine (next_k b ao n cap _ 12 _ (by omega) (by omega) (by omega) hn (unhide HS)).mono ?_
  rintro e w8 ⟨u, rfl, hu0, hu1, hs, hk⟩
  replace HV := hide ((unhide HV).keep hk (by show ¬ _ = _; omega))
  replace HK := hide ((unhide HK).trans hk)
  clear hs hk HS
  obtain ⟨p, HPE⟩ : ∃ p : Pxs, Hid (p = ⟨h, v, 1 + f, 4 * (1 + t) + h, x, y, z, u⟩) := ⟨_, hide rfl⟩
  have HPB : Hid (pxB p = true) := hide (by rw [unhide HPE]; exact pxB_iff.2 ⟨by simp; omega, by simp; omega, by simp; omega, by simp; omega, by simp; omega, by simp; omega, by simp; omega, by simp; omega, by simp; omega⟩)
  have HV9 := hide ((unhide HV).below (Joins.below_alloc1 w8 (.cells #[.int .i64 h, .int .i64 v, .int .i64 (1 + f), .int .i64 (4 * (1 + t) + h), .int .i64 x, .int .i64 y, .int .i64 z, .int .i64 u] 24)))
  have HK9 : Hid (Keep (fun k => k = b) w (w8.alloc (.cells #[.int .i64 h, .int .i64 v, .int .i64 (1 + f), .int .i64 (4 * (1 + t) + h), .int .i64 x, .int .i64 y, .int .i64 z, .int .i64 u] 24))) := hide ((unhide HK).trans (Keep.of_below (Joins.below_alloc1 _ _)))
  have HN9 : Hid (VarP (w8.alloc (.cells #[.int .i64 h, .int .i64 v, .int .i64 (1 + f), .int .i64 (4 * (1 + t) + h), .int .i64 x, .int .i64 y, .int .i64 z, .int .i64 u] 24)) w8.heap.size 24 p) := hide (by rw [unhide HPE]; exact VarP.new w8 24 ⟨h, v, 1 + f, 4 * (1 + t) + h, x, y, z, u⟩)
  go_upto_region 3 with fail
  revert HV9 HK9 HN9
  generalize w8.alloc (.cells #[.int .i64 h, .int .i64 v, .int .i64 (1 + f), .int .i64 (4 * (1 + t) + h), .int .i64 x, .int .i64 y, .int .i64 z, .int .i64 u] 24) = W9
  intro HV9 HK9 HN9
  have HP := hide ((unhide HV9).put p)
  have HKP := hide (keep_new (unhide HK9) (keep8 (S := fun k => k = w.heap.size) (Keep.refl _ W9) rfl (.int .i64 p.host) (.int .i64 p.ver) (.int .i64 p.phase) (.int .i64 p.ballot) (.int .i64 p.value) (.int .i64 p.next) (.int .i64 p.best) (.int .i64 p.bestBal)) (fun k hk => .inl (by rw [hk]; exact Nat.le_refl _)))
  obtain ⟨c0, c1, c2, c3, c4, c5, c6, c7⟩ := (unhide HN9).cells
  obtain ⟨d0, d1, d2, d3, d4, d5, d6, d7⟩ := (unhide HV9).cells
  obtain ⟨f0, f1, f2, f3, f4, f5, f6, f7⟩ := (unhide HV9).free
  go_wp2
  clear c0 c1 c2 c3 c4 c5 c6 c7 d0 d1 d2 d3 d4 d5 d6 d7 f0 f1 f2 f3 f4 f5 f6 f7
  revert HP HKP
  generalize ((((((((W9.setCell ⟨w.heap.size, 0, none⟩ (.int .i64 p.host)).setCell ⟨w.heap.size, 1, none⟩ (.int .i64 p.ver)).setCell ⟨w.heap.size, 2, none⟩ (.int .i64 p.phase)).setCell ⟨w.heap.size, 3, none⟩ (.int .i64 p.ballot)).setCell ⟨w.heap.size, 4, none⟩ (.int .i64 p.value)).setCell ⟨w.heap.size, 5, none⟩ (.int .i64 p.next)).setCell ⟨w.heap.size, 6, none⟩ (.int .i64 p.best)).setCell ⟨w.heap.size, 7, none⟩ (.int .i64 p.bestBal)) = WZ
  intro HP HKP
  obtain ⟨d0, d1, d2, d3, d4, d5, d6, d7⟩ := (unhide HP).cells
  refine bodyPost_ret (v := pV p) (by simp [results, Try.results21, go_sem, d0, d1, d2, d3, d4, d5, d6, d7]) rfl ⟨p, rfl, unhide HPB, unhide HKP⟩

set_option maxHeartbeats 800000 in
theorem pxOf_any (ao : Option Addr) (n cap : Nat) (w : World) (hn : n ≤ 1048576) (hB : Bs w ao n) :
    Calls Try.prog 6 #[.slice ao n cap] w fun e w' => ∃ p : Pxs, e = .returned (pV p) ∧ pxB p = true ∧ Below w.heap.size w w' := by
  have HVA := hide (VarP.new0 w 24)
  have HKA := hide (Joins.below_alloc1 w (.cells #[.int .i64 0, .int .i64 0, .int .i64 0, .int .i64 0, .int .i64 0, .int .i64 0, .int .i64 0, .int .i64 0] 24))
  have HBS := hide (hB.below (unhide HKA))
  clear hB
  go_enter Try.func6, Try.ntmps6
  go_wp2_with fail
  have hW0 : (w.alloc (.cells #[.int .i64 0, .int .i64 0, .int .i64 0, .int .i64 0, .int .i64 0, .int .i64 0, .int .i64 0, .int .i64 0] 24)).heap.size = w.heap.size + 1 := by simp
  revert HBS HVA HKA hW0
  generalize w.alloc (.cells #[.int .i64 0, .int .i64 0, .int .i64 0, .int .i64 0, .int .i64 0, .int .i64 0, .int .i64 0, .int .i64 0] 24) = W0
  intro HVA HKA HBS hW0
  refine (source_any ao n cap _ hn (unhide HBS)).mono ?_
  rintro e w1 ⟨rfl, hs1, hb1, hz⟩
  have HV1 := hide ((unhide HVA).below hb1)
  have HB1 := hide (fr (unhide HKA) hb1)
  have HS1 := hide hs1
  have HW0 := hide hW0
  have HLT := hide (unhide HV1).lt
  clear hs1 hb1 hz hW0 HVA HKA HBS
  revert HS1 HW0
  generalize W0.heap.size = q
  intro HS1 HW0
  go_wp2_with fail
  refine (px_k q ao n cap 0 _ (by omega) hn (unhide HS1)).mono ?_
  rintro e w2 ⟨p, rfl, hp, hk⟩
  have HV2 := hide ((unhide HV1).keep hk (by show ¬ _ = _; have := unhide HW0; omega))
  have HB2 := hide ((unhide HB1).trans (hk.below (B := w.heap.size) (by have := unhide HLT; omega) (fun k hk => by have := unhide HW0; omega)))
  have HPB := hide hp
  clear hp hk HW0 HLT HS1 HB1 HV1
  have HP := hide ((unhide HV2).put p)
  have HBP := hide (below8 (unhide HB2) (Nat.le_refl _) (.int .i64 p.host) (.int .i64 p.ver) (.int .i64 p.phase) (.int .i64 p.ballot) (.int .i64 p.value) (.int .i64 p.next) (.int .i64 p.best) (.int .i64 p.bestBal))
  obtain ⟨d0, d1, d2, d3, d4, d5, d6, d7⟩ := (unhide HV2).cells
  obtain ⟨f0, f1, f2, f3, f4, f5, f6, f7⟩ := (unhide HV2).free
  go_wp2
  clear d0 d1 d2 d3 d4 d5 d6 d7 f0 f1 f2 f3 f4 f5 f6 f7
  revert HP HBP
  generalize ((((((((w2.setCell ⟨w.heap.size, 0, none⟩ (.int .i64 p.host)).setCell ⟨w.heap.size, 1, none⟩ (.int .i64 p.ver)).setCell ⟨w.heap.size, 2, none⟩ (.int .i64 p.phase)).setCell ⟨w.heap.size, 3, none⟩ (.int .i64 p.ballot)).setCell ⟨w.heap.size, 4, none⟩ (.int .i64 p.value)).setCell ⟨w.heap.size, 5, none⟩ (.int .i64 p.next)).setCell ⟨w.heap.size, 6, none⟩ (.int .i64 p.best)).setCell ⟨w.heap.size, 7, none⟩ (.int .i64 p.bestBal)) = WZ
  intro HP HBP
  obtain ⟨d0, d1, d2, d3, d4, d5, d6, d7⟩ := (unhide HP).cells
  refine bodyPost_ret (v := pV p) (by simp [results, Try.results6, go_sem, d0, d1, d2, d3, d4, d5, d6, d7]) rfl ⟨p, rfl, unhide HPB, unhide HBP⟩

theorem bks4 (w : World) (t : TypeId) (a b c d : Bk) : Bks (w.alloc (.cells #[.int .i64 a.ver, .int .i64 a.mbal, .int .i64 a.bal, .int .i64 a.inp, .int .i64 b.ver, .int .i64 b.mbal, .int .i64 b.bal, .int .i64 b.inp, .int .i64 c.ver, .int .i64 c.mbal, .int .i64 c.bal, .int .i64 c.inp, .int .i64 d.ver, .int .i64 d.mbal, .int .i64 d.bal, .int .i64 d.inp] t)) (some ⟨w.heap.size, 0, none⟩) [a, b, c, d] := by
  intro i hi
  have hi' : i < 4 := hi
  refine ⟨w.heap.size, 0, rfl, ?_⟩
  rcases (show i = 0 ∨ i = 1 ∨ i = 2 ∨ i = 3 by omega) with rfl | rfl | rfl | rfl <;> simp [go_sem]
/-- The drawn blocks are small and right. -/
def bkD (x : Bk) : Prop := (0 ≤ x.ver ∧ x.ver ≤ 2) ∧ (0 ≤ x.mbal ∧ x.mbal ≤ 11) ∧ (0 ≤ x.bal ∧ x.bal ≤ x.mbal) ∧ (0 ≤ x.inp ∧ x.inp ≤ 8) ∧ (x.bal = 0 → x.inp = 0)

set_option maxHeartbeats 800000 in
theorem blocks_k (b : Nat) (ao : Option Addr) (n cap m : Nat) (w : World) (hm : m ≤ 700000) (hn : n ≤ 1048576) (hs : SrcK w b ao n cap m) :
    Calls Try.prog 22 #[.pointer (some ⟨b, 0, none⟩)] w fun e w' => ∃ g x1 x2 x3 x4, e = .returned (.slice (some ⟨g, 0, none⟩) 4 4) ∧ Bks w' (some ⟨g, 0, none⟩) [x1, x2, x3, x4] ∧ (bkD x1 ∧ bkD x2 ∧ bkD x3 ∧ bkD x4) ∧ Keep (fun k => k = b) w w' := by
  have HS := hide hs
  clear hs
  go_enter Try.func22, Try.ntmps22
  go_wp2_with fail
  refine (block_k b ao n cap m _ (by omega) hn (unhide HS)).mono ?_
  rintro e w1 ⟨v1, m1, b1, i1, rfl, z1, z2, z3, z4, z5, hs, hk⟩
  have HD1 : Hid (bkD ⟨v1, m1, b1, i1⟩) := hide ⟨z1, z2, z3, z4, z5⟩
  have HS1 := hide hs
  have HK1 := hide hk
  clear hs hk z1 z2 z3 z4 z5 HS
  go_wp2_with fail
  refine (block_k b ao n cap (m + 15) _ (by omega) hn (unhide HS1)).mono ?_
  rintro e w2 ⟨v2, m2, b2, i2, rfl, z1, z2, z3, z4, z5, hs, hk⟩
  have HD2 : Hid (bkD ⟨v2, m2, b2, i2⟩) := hide ⟨z1, z2, z3, z4, z5⟩
  have HS2 := hide hs
  have HK2 := hide ((unhide HK1).trans hk)
  clear hs hk z1 z2 z3 z4 z5 HS1 HK1
  go_wp2_with fail
  refine (block_k b ao n cap (m + 15 + 15) _ (by omega) hn (unhide HS2)).mono ?_
  rintro e w3 ⟨v3, m3, b3, i3, rfl, z1, z2, z3, z4, z5, hs, hk⟩
  have HD3 : Hid (bkD ⟨v3, m3, b3, i3⟩) := hide ⟨z1, z2, z3, z4, z5⟩
  have HS3 := hide hs
  have HK3 := hide ((unhide HK2).trans hk)
  clear hs hk z1 z2 z3 z4 z5 HS2 HK2
  go_wp2_with fail
  refine (block_k b ao n cap (m + 15 + 15 + 15) _ (by omega) hn (unhide HS3)).mono ?_
  rintro e w4 ⟨v4, m4, b4, i4, rfl, z1, z2, z3, z4, z5, hs, hk⟩
  have HD4 : Hid (bkD ⟨v4, m4, b4, i4⟩) := hide ⟨z1, z2, z3, z4, z5⟩
  have HK4 := hide ((unhide HK3).trans hk)
  clear hs hk z1 z2 z3 z4 z5 HS3 HK3
  go_wp2
  go_ret
  exact ⟨w4.heap.size, ⟨v1, m1, b1, i1⟩, ⟨v2, m2, b2, i2⟩, ⟨v3, m3, b3, i3⟩, ⟨v4, m4, b4, i4⟩, rfl, bks4 w4 _ ⟨v1, m1, b1, i1⟩ ⟨v2, m2, b2, i2⟩ ⟨v3, m3, b3, i3⟩ ⟨v4, m4, b4, i4⟩, ⟨unhide HD1, unhide HD2, unhide HD3, unhide HD4⟩, (unhide HK4).trans (Keep.of_below (Joins.below_alloc1 _ _))⟩

theorem blocksOf_any (ao : Option Addr) (n cap : Nat) (w : World) (hn : n ≤ 1048576) (hB : Bs w ao n) :
    Calls Try.prog 7 #[.slice ao n cap] w fun e w' => ∃ g x1 x2 x3 x4, e = .returned (.slice (some ⟨g, 0, none⟩) 4 4) ∧ Bks w' (some ⟨g, 0, none⟩) [x1, x2, x3, x4] ∧ (bkD x1 ∧ bkD x2 ∧ bkD x3 ∧ bkD x4) ∧ Below w.heap.size w w' := by
  go_enter Try.func7, Try.ntmps7
  go_wp2_with fail
  refine (source_any ao n cap _ hn hB).mono ?_
  rintro e w1 ⟨rfl, hs1, hb1, hz⟩
  go_wp2_with fail
  refine (blocks_k _ ao n cap 0 _ (by omega) hn hs1).mono ?_
  rintro e w2 ⟨g, x1, x2, x3, x4, rfl, ho, ha, hk⟩
  have HO := hide ho
  have HA := hide ha
  have HB := hide (hb1.trans (hk.below (B := w.heap.size) (by omega) (fun k hk => by omega)))
  clear ho ha hb1 hk hs1 hz
  go_wp2
  go_ret
  exact ⟨g, x1, x2, x3, x4, rfl, unhide HO, unhide HA, unhide HB⟩
end Go.Proofs.Ytdfinapjgffjiaa

/- Plain: what FnBallot asks of a step and of the next ballot, at drawn ballots. -/
namespace Go.Proofs.Ytdfinapjgffjiaa
open Go.RowKit
set_option linter.unusedVariables false

theorem bkD_B {x : Bk} (h : bkD x) : bkB x = true := by
  obtain ⟨h1, h2, h3, h4, h5⟩ := h
  refine bkB_iff.2 ⟨by omega, by omega, h3, by omega, ?_⟩
  by_cases e : x.bal = 0
  · exact .inr (h5 e)
  · exact .inl (by omega)
theorem four_all {P : Bk → Prop} {a b c d : Bk} (h : P a ∧ P b ∧ P c ∧ P d) : ∀ i, i < 4 → P ([a, b, c, d].getD i bk0) := by
  obtain ⟨h1, h2, h3, h4⟩ := h
  intro i hi
  rcases (show i = 0 ∨ i = 1 ∨ i = 2 ∨ i = 3 by omega) with rfl | rfl | rfl | rfl <;> assumption
theorem bal_right {xs : List Bk} (hl : xs.length = 4) (hd : ∀ i, i < 4 → bkD (xs.getD i bk0)) : bksB xs = true :=
  bksB_true hl (fun j h => by
    have := bkD_B (hd j (by omega))
    have e : xs.getD j bk0 = xs[j] := by simp [h]
    rw [e] at this
    exact this)
/-- The next ballot of a right host at small blocks. -/
theorem bal_next {p : Pxs} {xs : List Bk} (hp : pxB p = true) (hl : xs.length = 4) (hd : ∀ i, i < 4 → bkD (xs.getD i bk0)) :
    nbC p.host p.ver xs = 0 ∧ nbN p.host p.ver xs = nxBal p.host p.ver xs ∧ (1 ≤ nxBal p.host p.ver xs ∧ nxBal p.host p.ver xs ≤ 1000000) ∧ nxBal p.host p.ver xs % 4 = p.host ∧
    ∀ i, i < 4 → p.ver ≤ (xs.getD i bk0).ver → (xs.getD i bk0).mbal < nxBal p.host p.ver xs := by
  obtain ⟨h1, h2, h3, h4, h5, h6, h7, h8, h9⟩ := pxB_iff.1 hp
  obtain ⟨h, hh⟩ := Int.eq_ofNat_of_zero_le h1.1
  have hh4 : h < 4 := by omega
  have hm : ∀ i, i < xs.length → (bkOf (xs.getD i bk0) p.ver).mbal ≤ 11 := by
    intro i hi
    have := hd i (by omega)
    unfold bkOf
    split
    · show (0 : Int) ≤ 11; omega
    · exact this.2.1.2
  have g1 := nxBal_le (bs := xs) hh4 p.ver 11 (by omega) hm
  have g2 := nxBal_mod xs hh4 p.ver
  have g3 := fun i hi => nxBal_gt (bs := xs) h i hi p.ver
  rw [← hh] at g1 g2 g3
  have g4 : 1 ≤ nxBal p.host p.ver xs := by
    have a := g3 0 (by omega)
    have : 0 ≤ (bkOf (xs.getD 0 bk0) p.ver).mbal := by
      have := hd 0 (by omega)
      unfold bkOf
      split
      · show (0 : Int) ≤ 0; omega
      · exact this.2.1.1
    omega
  obtain ⟨e1, e2⟩ := nb_ok (h := p.host) (v := p.ver) (xs := xs) (bfC_ok (by omega) (bal_right hl hd)) (by simp [inB]; omega) (by simp [inB]; omega) (by omega)
  refine ⟨e2, e1, ⟨g4, by omega⟩, g2, fun i hi hv => ?_⟩
  have := g3 i (by omega)
  unfold bkOf at this
  rw [if_neg (by omega)] at this
  exact this
/-- A step writes the host's own block alone, whose greatest ballot never falls. -/
theorem bal_own {p : Pxs} {xs : List Bk} (hp : pxB p = true) (hl : xs.length = 4) :
    (∀ i : Nat, i < 4 → (i : Int) ≠ p.host → (pxStepP p xs).2.getD i bk0 = xs.getD i bk0) ∧ ∀ i, i < 4 → ((pxStepP p xs).2.getD i bk0).ver = (xs.getD i bk0).ver → (xs.getD i bk0).mbal ≤ ((pxStepP p xs).2.getD i bk0).mbal := by
  obtain ⟨h1, h2, h3, h4, h5, h6, h7, h8, h9⟩ := pxB_iff.1 hp
  unfold pxStepP
  split
  · exact ⟨fun i hi _ => rfl, fun i hi _ => Int.le_refl _⟩
  · split
    · exact ⟨fun i hi _ => rfl, fun i hi _ => Int.le_refl _⟩
    · split
      · exact ⟨fun i hi _ => rfl, fun i hi _ => Int.le_refl _⟩
      · rename_i hno
        have hs : ∀ i, i < 4 → (xs.set p.host.toNat (pxW2 p (pxOwn p xs))).getD i bk0 = if i = p.host.toNat then pxW2 p (pxOwn p xs) else xs.getD i bk0 := by
          intro i hi
          rw [List.getD_eq_getElem?_getD, List.getD_eq_getElem?_getD, List.getElem?_set]
          by_cases e : p.host.toNat = i
          · rw [if_pos e, if_pos (by omega), if_pos e.symm]; rfl
          · rw [if_neg e, if_neg (fun h => e h.symm)]
        refine ⟨fun i hi hne => ?_, fun i hi => ?_⟩
        · show (xs.set p.host.toNat _).getD i bk0 = _
          rw [hs i hi, if_neg (by omega)]
        · show ((xs.set p.host.toNat _).getD i bk0).ver = _ → _ ≤ ((xs.set p.host.toNat _).getD i bk0).mbal
          rw [hs i hi]
          split
          · rename_i e
            intro hv
            have w1 : (pxW2 p (pxOwn p xs)).ver = p.ver ∧ (pxW2 p (pxOwn p xs)).mbal = p.ballot := by unfold pxW2; split <;> exact ⟨rfl, rfl⟩
            rw [w1.1] at hv
            rw [w1.2]
            have o : pxOwn p xs = xs.getD i bk0 := by unfold pxOwn bkOf; rw [← e, if_neg (by omega)]
            rw [o] at hno
            simp only [pxNo, not_or] at hno
            omega
          · intro _; exact Int.le_refl _
theorem bal_start {p : Pxs} {n : Int} (hp : pxB p = true) (hn : 1 ≤ n ∧ n ≤ 1000000) (hm : n % 4 = p.host) : psP p.host p.ver n p.value = ps0 p.host p.ver n p.value ∧ psC p.host p.ver n p.value = 0 := by
  obtain ⟨h1, h2, h3, h4, h5, h6, h7, h8, h9⟩ := pxB_iff.1 hp
  have hb : pxB (ps0 p.host p.ver n p.value) = true := pxB_iff.2 ⟨h1, h2, by simp [ps0], hn, hm, h6, by simp [ps0], by simp [ps0], by simp [ps0]⟩
  exact ⟨if_pos hb, if_pos hb⟩
end Go.Proofs.Ytdfinapjgffjiaa
