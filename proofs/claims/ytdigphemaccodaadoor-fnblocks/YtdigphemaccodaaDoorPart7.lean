import Derived.Test.YtdigphemaccodaaDoorRows
import Derived.Test.YtdigphemaccodaaDoorPart1
import Derived.Test.YtdigphemaccodaaDoorPart2
import Derived.Test.YtdigphemaccodaaDoorPart5
import Derived.Test.YtdigphemaccodaaDoorPart6
import Derived.WalkKit
import Derived.WalkSpells
import Derived.KernelRfl
import Derived.Deep.RegionWith
import Derived.Deep.CutRange
import Derived.BigQuiet
import Derived.Deep.QuietTactic
import Derived.Test.YtdigphemaccodaaDoorPart3
import Derived.Test.YtdigphemaccodaaDoorPart4

/- The model's draw of a block, where the second number drawn is 0. -/
namespace Go.Proofs.YtdigphemaccodaaDoor
open Go.RowKit
set_option linter.unusedVariables false
set_option maxRecDepth 100000

set_option maxHeartbeats 12800000 in
theorem block_0 (b : Nat) (ao : Option Addr) (n cap a : Nat) (cd : Nat → Int) (seed : Int) (m : Nat) (w : World) (ha : a ≤ m) (hm : m ≤ 800000) (hn : n ≤ 1048576) (hs : SrcX w b ao n cap cd a seed) (q1 q3 : Int) (hq1 : srcV cd n a seed % 3 = q1) (hq2 : srcV cd n (a + 1) (srcN cd n a seed) % 2 = 0) (hq3 : srcV cd n (a + 1 + 1) (srcN cd n (a + 1) (srcN cd n a seed)) % 12 = q3) :
    Calls Tryd.prog 11 #[.pointer (some ⟨b, 0, none⟩)] w fun e w' => ∃ v mb bl i : Int, e = .returned (blkV v mb bl i) ∧ (0 ≤ v ∧ v ≤ 2) ∧ (0 ≤ mb ∧ mb ≤ 11) ∧ (0 ≤ bl ∧ bl ≤ mb) ∧ (0 ≤ i ∧ i ≤ 8) ∧ (bl = 0 → i = 0) ∧ SrcK w' b ao n cap (m + 15) ∧ Keep (fun j => j = b) w w' := by
  have hlt := hs.lt
  have HS : Hid (∃ m0, SrcK w b ao n cap m0) := hide ⟨m, hs.k ha⟩
  have D0 : Hid (DrX w (w.alloc (.cells #[.int .i64 0, .int .i64 0, .int .i64 0, .int .i64 0] 24)) b ao n cap cd a seed (blkO 0 0 0 0)) := hide ⟨hs.below (Joins.below_alloc1 _ _), Keep.of_below (Joins.below_alloc1 _ _), heap_alloc_new w _⟩
  have HQ1 := hide hq1
  have HQ2 := hide hq2
  have q10 : 0 ≤ q1 ∧ q1 < 3 := by rw [← hq1]; exact srcV_mod (by omega)
  have q30 : 0 ≤ q3 ∧ q3 < 12 := by rw [← hq3]; exact srcV_mod (by omega)
  have HQ3 := hide hq3
  clear hs hq1 hq2 hq3
  go_enter Tryd.func11, Tryd.ntmps11
  go_upto_region 1 with fail
  revert D0
  generalize w.alloc (.cells #[.int .i64 0, .int .i64 0, .int .i64 0, .int .i64 0] 24) = W0
  intro D0
  go_cut [3] from 4 to 13 (fun c wx => ∃ C : Nat, c = .pointer (some ⟨C, 0, none⟩) ∧ Hid (BlkAt w wx b ao n cap (m + 3) C 0 q3 0 0))
  case first =>
    have r0 : W0.cell? ⟨w.heap.size, 0, none⟩ = some (.int .i64 0) := by rw [Joins.cell_of_block (unhide D0).r]; rfl
    have n0 : W0.heap.size ≠ w.heap.size := World.new_ne W0 ⟨w.heap.size, 0, none⟩ r0
    have hb0 := (unhide D0).s.lt
    have nb0 : W0.heap.size ≠ b := by omega
    have gt0 : w.heap.size < W0.heap.size := blk_lt (unhide D0).r
    go_region_with (first
      | (go_at_call_of 21 (Value.int IntKind.i64 3); refine (next_x b ao n cap a cd seed 3 _ (by omega) (by omega) (by omega) hn ?_).mono ?_; (first | exact (unhide D0).s.below ((Below.refl _ _).drew) | exact ((unhide D0).s.below ((Below.refl _ _).drew)).below (Joins.below_alloc1 _ _)); rintro e w1 ⟨rfl, hs1, hk1⟩; rw [unhide HQ1]; have D1 := hide (DrX.src (DrX.below (unhide D0) (by first | exact (Below.refl _ _).drew | exact fr ((Below.refl _ _).drew) (Joins.below_alloc1 _ _))) hlt hs1 hk1); have hb1 := hs1.lt; have r1 : w1.cell? ⟨w.heap.size, 0, none⟩ = some (.int .i64 0) := (by rw [Joins.cell_of_block (unhide D1).r]; rfl); have n1 : w1.heap.size ≠ w.heap.size := World.new_ne w1 ⟨w.heap.size, 0, none⟩ r1; have nb1 : w1.heap.size ≠ b := (by omega); have nb1p : w1.heap.size + 1 ≠ b := (by omega); (first | (have hX : Keep (fun k => k = b) (W0.alloc (blkO 0 0 0 0)).drew w1 := (by with_reducible exact hk1); have C1 := hide (blk_keep hX nb0 (new_top W0 (blkO 0 0 0 0))); clear hX) | skip); clear hs1 hk1)
      | (go_at_call_of 21 (Value.int IntKind.i64 2); refine (next_x b ao n cap (a + 1) cd (srcN cd n a seed) 2 _ (by omega) (by omega) (by omega) hn ?_).mono ?_; (first | exact (unhide D1).s | exact (unhide D1).s.below (Joins.below_alloc1 _ _) | exact (unhide D1).s.below (Joins.below_alloc2 _ _ _)); rintro e w2 ⟨rfl, hs2, hk2⟩; rw [unhide HQ2]; have D2 := hide (DrX.src (DrX.below (unhide D1) (by first | exact Below.refl _ _ | exact Joins.below_alloc1 _ _ | exact Joins.below_alloc2 _ _ _)) hlt hs2 hk2); have hb2 := hs2.lt; have r2 : w2.cell? ⟨w.heap.size, 0, none⟩ = some (.int .i64 0) := (by rw [Joins.cell_of_block (unhide D2).r]; rfl); have n2 : w2.heap.size ≠ w.heap.size := World.new_ne w2 ⟨w.heap.size, 0, none⟩ r2; have nb2 : w2.heap.size ≠ b := (by omega); have nb2p : w2.heap.size + 1 ≠ b := (by omega); (first | (have hX : Keep (fun k => k = b) w1 w2 := (by with_reducible exact hk2); (first | (have C2 : Hid (w2.heap[W0.heap.size]? = some (blkO 0 0 0 0)) := (by with_reducible exact hide (blk_keep hX nb0 (unhide C1))); obtain ⟨c20, c21, c22, c23, f20, f21, f22, f23⟩ := blk_cells (unhide C2); have lC2 : W0.heap.size < w2.heap.size := blk_lt (unhide C2)) | skip); skip) | (have hX : Keep (fun k => k = b) (w1.alloc (twoO 0 q1)) w2 := (by with_reducible exact hk2); have G2 := hide (blk_keep hX nb1 (new_top w1 _)); have g2 : w2.cell? ⟨w1.heap.size, 0, none⟩ = some (.int .i64 0) := (by rw [Joins.cell_of_block (unhide G2)]; rfl); have lG2 : w1.heap.size < w2.heap.size := blk_lt (unhide G2); (first | (have C2 : Hid (w2.heap[W0.heap.size]? = some (blkO 0 0 0 0)) := (by with_reducible exact hide (blk_keep hX nb0 (new_at (unhide C1)))); obtain ⟨c20, c21, c22, c23, f20, f21, f22, f23⟩ := blk_cells (unhide C2); have lC2 : W0.heap.size < w2.heap.size := blk_lt (unhide C2)) | skip)) | (have hX : Keep (fun k => k = b) (w1.alloc (blkO 0 0 0 0)) w2 := (by with_reducible exact hk2); have C2 := hide (blk_keep hX nb1 (new_top w1 _)); obtain ⟨c20, c21, c22, c23, f20, f21, f22, f23⟩ := blk_cells (unhide C2); have lC2 : w1.heap.size < w2.heap.size := blk_lt (unhide C2); skip) | (have hX : Keep (fun k => k = b) ((w1.alloc (twoO 0 q1)).alloc (blkO 0 0 0 0)) w2 := (by with_reducible exact hk2); have G2 := hide (blk_keep hX nb1 (new_at (new_top w1 _))); have g2 : w2.cell? ⟨w1.heap.size, 0, none⟩ = some (.int .i64 0) := (by rw [Joins.cell_of_block (unhide G2)]; rfl); have lG2 : w1.heap.size < w2.heap.size := blk_lt (unhide G2); have C2 := hide (blk_keep hX nb1p (new_two w1 _ _)); obtain ⟨c20, c21, c22, c23, f20, f21, f22, f23⟩ := blk_cells (unhide C2); have lC2 : w1.heap.size + 1 < w2.heap.size := blk_lt (unhide C2)) | (have hX : Keep (fun k => k = b) ((w1.alloc (blkO 0 0 0 0)).alloc (twoO 0 q1)) w2 := (by with_reducible exact hk2); have C2 := hide (blk_keep hX nb1 (new_at (new_top w1 _))); obtain ⟨c20, c21, c22, c23, f20, f21, f22, f23⟩ := blk_cells (unhide C2); have lC2 : w1.heap.size < w2.heap.size := blk_lt (unhide C2); have G2 := hide (blk_keep hX nb1p (new_two w1 _ _)); have g2 : w2.cell? ⟨w1.heap.size + 1, 0, none⟩ = some (.int .i64 0) := (by rw [Joins.cell_of_block (unhide G2)]; rfl); have lG2 : w1.heap.size + 1 < w2.heap.size := blk_lt (unhide G2))); clear hs2 hk2 hX)
      | (go_at_call_of 21 (Value.int IntKind.i64 12); refine (next_x b ao n cap (a + 1 + 1) cd (srcN cd n (a + 1) (srcN cd n a seed)) 12 _ (by omega) (by omega) (by omega) hn ?_).mono ?_; (first | exact (unhide D2).s | exact (unhide D2).s.below (Joins.below_alloc1 _ _) | exact (unhide D2).s.below (Joins.below_alloc2 _ _ _)); rintro e w3 ⟨rfl, hs3, hk3⟩; rw [unhide HQ3]; have D3 := hide (DrX.src (DrX.below (unhide D2) (by first | exact Below.refl _ _ | exact Joins.below_alloc1 _ _ | exact Joins.below_alloc2 _ _ _)) hlt hs3 hk3); have hb3 := hs3.lt; have r3 : w3.cell? ⟨w.heap.size, 0, none⟩ = some (.int .i64 0) := (by rw [Joins.cell_of_block (unhide D3).r]; rfl); have n3 : w3.heap.size ≠ w.heap.size := World.new_ne w3 ⟨w.heap.size, 0, none⟩ r3; have nb3 : w3.heap.size ≠ b := (by omega); have nb3p : w3.heap.size + 1 ≠ b := (by omega); (first | (have hX : Keep (fun k => k = b) w2 w3 := (by with_reducible exact hk3); (first | (have C3 : Hid (w3.heap[W0.heap.size]? = some (blkO 0 0 0 0)) := (by with_reducible exact hide (blk_keep hX nb0 (unhide C2))); obtain ⟨c30, c31, c32, c33, f30, f31, f32, f33⟩ := blk_cells (unhide C3); have lC3 : W0.heap.size < w3.heap.size := blk_lt (unhide C3)) | (have C3 : Hid (w3.heap[w1.heap.size]? = some (blkO 0 0 0 0)) := (by with_reducible exact hide (blk_keep hX nb1 (unhide C2))); obtain ⟨c30, c31, c32, c33, f30, f31, f32, f33⟩ := blk_cells (unhide C3); have lC3 : w1.heap.size < w3.heap.size := blk_lt (unhide C3)) | (have C3 : Hid (w3.heap[w1.heap.size + 1]? = some (blkO 0 0 0 0)) := (by with_reducible exact hide (blk_keep hX nb1p (unhide C2))); obtain ⟨c30, c31, c32, c33, f30, f31, f32, f33⟩ := blk_cells (unhide C3); have lC3 : w1.heap.size + 1 < w3.heap.size := blk_lt (unhide C3)) | skip); (first | (have G3 : Hid (w3.heap[w1.heap.size]? = some (twoO 0 q1)) := (by with_reducible exact hide (blk_keep hX nb1 (unhide G2))); have g3 : w3.cell? ⟨w1.heap.size, 0, none⟩ = some (.int .i64 0) := (by rw [Joins.cell_of_block (unhide G3)]; rfl); have lG3 : w1.heap.size < w3.heap.size := blk_lt (unhide G3)) | (have G3 : Hid (w3.heap[w1.heap.size + 1]? = some (twoO 0 q1)) := (by with_reducible exact hide (blk_keep hX nb1p (unhide G2))); have g3 : w3.cell? ⟨w1.heap.size + 1, 0, none⟩ = some (.int .i64 0) := (by rw [Joins.cell_of_block (unhide G3)]; rfl); have lG3 : w1.heap.size + 1 < w3.heap.size := blk_lt (unhide G3)) | skip)) | (have hX : Keep (fun k => k = b) (w2.alloc (twoO 0 q1)) w3 := (by with_reducible exact hk3); have G3 := hide (blk_keep hX nb2 (new_top w2 _)); have g3 : w3.cell? ⟨w2.heap.size, 0, none⟩ = some (.int .i64 0) := (by rw [Joins.cell_of_block (unhide G3)]; rfl); have lG3 : w2.heap.size < w3.heap.size := blk_lt (unhide G3); (first | (have C3 : Hid (w3.heap[W0.heap.size]? = some (blkO 0 0 0 0)) := (by with_reducible exact hide (blk_keep hX nb0 (new_at (unhide C2)))); obtain ⟨c30, c31, c32, c33, f30, f31, f32, f33⟩ := blk_cells (unhide C3); have lC3 : W0.heap.size < w3.heap.size := blk_lt (unhide C3)) | (have C3 : Hid (w3.heap[w1.heap.size]? = some (blkO 0 0 0 0)) := (by with_reducible exact hide (blk_keep hX nb1 (new_at (unhide C2)))); obtain ⟨c30, c31, c32, c33, f30, f31, f32, f33⟩ := blk_cells (unhide C3); have lC3 : w1.heap.size < w3.heap.size := blk_lt (unhide C3)) | (have C3 : Hid (w3.heap[w1.heap.size + 1]? = some (blkO 0 0 0 0)) := (by with_reducible exact hide (blk_keep hX nb1p (new_at (unhide C2)))); obtain ⟨c30, c31, c32, c33, f30, f31, f32, f33⟩ := blk_cells (unhide C3); have lC3 : w1.heap.size + 1 < w3.heap.size := blk_lt (unhide C3)) | skip)) | (have hX : Keep (fun k => k = b) (w2.alloc (blkO 0 0 0 0)) w3 := (by with_reducible exact hk3); have C3 := hide (blk_keep hX nb2 (new_top w2 _)); obtain ⟨c30, c31, c32, c33, f30, f31, f32, f33⟩ := blk_cells (unhide C3); have lC3 : w2.heap.size < w3.heap.size := blk_lt (unhide C3); (first | (have G3 : Hid (w3.heap[w1.heap.size]? = some (twoO 0 q1)) := (by with_reducible exact hide (blk_keep hX nb1 (new_at (unhide G2)))); have g3 : w3.cell? ⟨w1.heap.size, 0, none⟩ = some (.int .i64 0) := (by rw [Joins.cell_of_block (unhide G3)]; rfl); have lG3 : w1.heap.size < w3.heap.size := blk_lt (unhide G3)) | (have G3 : Hid (w3.heap[w1.heap.size + 1]? = some (twoO 0 q1)) := (by with_reducible exact hide (blk_keep hX nb1p (new_at (unhide G2)))); have g3 : w3.cell? ⟨w1.heap.size + 1, 0, none⟩ = some (.int .i64 0) := (by rw [Joins.cell_of_block (unhide G3)]; rfl); have lG3 : w1.heap.size + 1 < w3.heap.size := blk_lt (unhide G3)) | skip)) | (have hX : Keep (fun k => k = b) ((w2.alloc (twoO 0 q1)).alloc (blkO 0 0 0 0)) w3 := (by with_reducible exact hk3); have G3 := hide (blk_keep hX nb2 (new_at (new_top w2 _))); have g3 : w3.cell? ⟨w2.heap.size, 0, none⟩ = some (.int .i64 0) := (by rw [Joins.cell_of_block (unhide G3)]; rfl); have lG3 : w2.heap.size < w3.heap.size := blk_lt (unhide G3); have C3 := hide (blk_keep hX nb2p (new_two w2 _ _)); obtain ⟨c30, c31, c32, c33, f30, f31, f32, f33⟩ := blk_cells (unhide C3); have lC3 : w2.heap.size + 1 < w3.heap.size := blk_lt (unhide C3)) | (have hX : Keep (fun k => k = b) ((w2.alloc (blkO 0 0 0 0)).alloc (twoO 0 q1)) w3 := (by with_reducible exact hk3); have C3 := hide (blk_keep hX nb2 (new_at (new_top w2 _))); obtain ⟨c30, c31, c32, c33, f30, f31, f32, f33⟩ := blk_cells (unhide C3); have lC3 : w2.heap.size < w3.heap.size := blk_lt (unhide C3); have G3 := hide (blk_keep hX nb2p (new_two w2 _ _)); have g3 : w3.cell? ⟨w2.heap.size + 1, 0, none⟩ = some (.int .i64 0) := (by rw [Joins.cell_of_block (unhide G3)]; rfl); have lG3 : w2.heap.size + 1 < w3.heap.size := blk_lt (unhide G3))); clear hs3 hk3 hX))
    all_goals
      have gt1 : w.heap.size < w1.heap.size := blk_lt (unhide D1).r
      have gt2 : w.heap.size < w2.heap.size := blk_lt (unhide D2).r
      have S3 := (unhide D3).d (show a + 1 + 1 + 1 ≤ m + 3 by omega)
      go_wp2_with fail
      go_meet
      first
        | (have E9 := hide (BlkAt.top (v := 0) (mb := q3) (bl := 0) (i := 0) S3 hlt); with_reducible exact ⟨_, rfl, E9⟩)
        | (have E9 := hide (BlkAt.two (v := 0) (mb := q3) (bl := 0) (i := 0) S3 hlt (twoO 0 q1)); with_reducible exact ⟨_, rfl, E9⟩)
        | (have E9 := hide ((BlkAt.top (v := 0) (mb := q3) (bl := 0) (i := 0) S3 hlt).more (twoO 0 q1)); with_reducible exact ⟨_, rfl, E9⟩)
        | (have E9 := hide (BlkAt.set (v := 0) (mb := q3) (bl := 0) (i := 0) S3 (unhide HS) hlt (unhide C3) (by first | exact gt0 | exact gt1 | exact gt2 | omega)); with_reducible exact ⟨_, rfl, E9⟩)
        | (have E9 := hide ((BlkAt.set (v := 0) (mb := q3) (bl := 0) (i := 0) S3 (unhide HS) hlt (unhide C3) (by first | exact gt0 | exact gt1 | exact gt2 | omega)).more (twoO 0 q1)); with_reducible exact ⟨_, rfl, E9⟩)
  case rest =>
    obtain ⟨C, rfl, E0⟩ := hcut
    clear D0 HQ1 HQ2 HQ3
    obtain ⟨x0, x1, x2, x3, y0, y1, y2, y3⟩ := blk_cells (unhide E0).c
    go_wp2_with fail
    refine (next_k b ao n cap (m + 3) (q3 + 1) _ (by omega) (by omega) (by omega) hn (unhide E0).d.s).mono ?_
    rintro e w5 ⟨bl, rfl, bl0, bl1, hs5, hk5⟩
    have E1 := hide ((unhide E0).src hlt hs5 hk5)
    clear hs5 hk5 E0 x0 x1 x2 x3 y0 y1 y2 y3
    obtain ⟨x0, x1, x2, x3, y0, y1, y2, y3⟩ := blk_cells (unhide E1).c
    have E2 := hide ((unhide E1).bal (unhide HS) hlt bl)
    by_cases hbl : 0 < bl
    · go_wp2_with fail
      revert E2
      generalize w5.setCell ⟨C, 2, none⟩ (.int .i64 bl) = W6
      intro E2
      refine (next_k b ao n cap (m + 3 + 3) 9 _ (by omega) (by omega) (by omega) hn (unhide E2).d.s).mono ?_
      rintro e w7 ⟨ip, rfl, ip0, ip1, hs7, hk7⟩
      have E3 := hide ((unhide E2).src hlt hs7 hk7)
      clear hs7 hk7 E1 E2 x0 x1 x2 x3 y0 y1 y2 y3
      obtain ⟨x0, x1, x2, x3, y0, y1, y2, y3⟩ := blk_cells (unhide E3).c
      have E4 := hide ((unhide E3).inp (unhide HS) hlt ip)
      obtain ⟨c0, c1, c2, c3, f0, f1, f2, f3⟩ := blk_cells (unhide E3).d.r
      obtain ⟨d0, d1, d2, d3, g0, g1, g2, g3⟩ := blk_cells (unhide E4).d.r
      obtain ⟨u0, u1, u2, u3, v0, v1, v2, v3⟩ := blk_cells (unhide E4).c
      have hne : C ≠ w.heap.size := by have := (unhide E4).gt; omega
      have hne' := hne.symm
      have HE := hide (fun p q r t => DrS.end4 (unhide E4).d hlt (unhide HS) p q r t)
      go_wp2
      exact bodyPost_ret (v := blkV 0 q3 bl ip) (by simp [results, Tryd.results11, go_sem, *]) rfl ⟨0, q3, bl, ip, rfl, by omega, by omega, by omega, by omega, by omega, (unhide HE _ _ _ _).1.more (by omega), (unhide HE _ _ _ _).2⟩
    · have hb0 : bl = 0 := by omega
      subst hb0
      obtain ⟨c0, c1, c2, c3, f0, f1, f2, f3⟩ := blk_cells (unhide E1).d.r
      have hne : C ≠ w.heap.size := by have := (unhide E2).gt; omega
      have hne' := hne.symm
      have HE := hide (fun p q r t => DrS.end4 (unhide E2).d hlt (unhide HS) p q r t)
      go_wp2
      exact bodyPost_ret (v := blkV 0 q3 0 0) (by simp [results, Tryd.results11, go_sem, *]) rfl ⟨0, q3, 0, 0, rfl, by omega, by omega, by omega, by omega, fun _ => rfl, (unhide HE _ _ _ _).1.more (by omega), (unhide HE _ _ _ _).2⟩

end Go.Proofs.YtdigphemaccodaaDoor

/- The model's draw of a block, where the second number drawn is 1. -/
namespace Go.Proofs.YtdigphemaccodaaDoor
open Go.RowKit
set_option linter.unusedVariables false
set_option maxRecDepth 100000

set_option maxHeartbeats 12800000 in
theorem block_1 (b : Nat) (ao : Option Addr) (n cap a : Nat) (cd : Nat → Int) (seed : Int) (m : Nat) (w : World) (ha : a ≤ m) (hm : m ≤ 800000) (hn : n ≤ 1048576) (hs : SrcX w b ao n cap cd a seed) (q1 q3 : Int) (hq1 : srcV cd n a seed % 3 = q1) (hq2 : srcV cd n (a + 1) (srcN cd n a seed) % 2 = 1) (hq3 : srcV cd n (a + 1 + 1) (srcN cd n (a + 1) (srcN cd n a seed)) % 12 = q3) :
    Calls Tryd.prog 11 #[.pointer (some ⟨b, 0, none⟩)] w fun e w' => ∃ v mb bl i : Int, e = .returned (blkV v mb bl i) ∧ (0 ≤ v ∧ v ≤ 2) ∧ (0 ≤ mb ∧ mb ≤ 11) ∧ (0 ≤ bl ∧ bl ≤ mb) ∧ (0 ≤ i ∧ i ≤ 8) ∧ (bl = 0 → i = 0) ∧ SrcK w' b ao n cap (m + 15) ∧ Keep (fun j => j = b) w w' := by
  have hlt := hs.lt
  have HS : Hid (∃ m0, SrcK w b ao n cap m0) := hide ⟨m, hs.k ha⟩
  have D0 : Hid (DrX w (w.alloc (.cells #[.int .i64 0, .int .i64 0, .int .i64 0, .int .i64 0] 24)) b ao n cap cd a seed (blkO 0 0 0 0)) := hide ⟨hs.below (Joins.below_alloc1 _ _), Keep.of_below (Joins.below_alloc1 _ _), heap_alloc_new w _⟩
  have HQ1 := hide hq1
  have HQ2 := hide hq2
  have q10 : 0 ≤ q1 ∧ q1 < 3 := by rw [← hq1]; exact srcV_mod (by omega)
  have q30 : 0 ≤ q3 ∧ q3 < 12 := by rw [← hq3]; exact srcV_mod (by omega)
  have HQ3 := hide hq3
  clear hs hq1 hq2 hq3
  go_enter Tryd.func11, Tryd.ntmps11
  go_upto_region 1 with fail
  revert D0
  generalize w.alloc (.cells #[.int .i64 0, .int .i64 0, .int .i64 0, .int .i64 0] 24) = W0
  intro D0
  go_cut [3] from 4 to 13 (fun c wx => ∃ C : Nat, c = .pointer (some ⟨C, 0, none⟩) ∧ Hid (BlkAt w wx b ao n cap (m + 3) C q1 q3 0 0))
  case first =>
    have r0 : W0.cell? ⟨w.heap.size, 0, none⟩ = some (.int .i64 0) := by rw [Joins.cell_of_block (unhide D0).r]; rfl
    have n0 : W0.heap.size ≠ w.heap.size := World.new_ne W0 ⟨w.heap.size, 0, none⟩ r0
    have hb0 := (unhide D0).s.lt
    have nb0 : W0.heap.size ≠ b := by omega
    have gt0 : w.heap.size < W0.heap.size := blk_lt (unhide D0).r
    go_region_with (first
      | (go_at_call_of 21 (Value.int IntKind.i64 3); refine (next_x b ao n cap a cd seed 3 _ (by omega) (by omega) (by omega) hn ?_).mono ?_; (first | exact (unhide D0).s.below ((Below.refl _ _).drew) | exact ((unhide D0).s.below ((Below.refl _ _).drew)).below (Joins.below_alloc1 _ _)); rintro e w1 ⟨rfl, hs1, hk1⟩; rw [unhide HQ1]; have D1 := hide (DrX.src (DrX.below (unhide D0) (by first | exact (Below.refl _ _).drew | exact fr ((Below.refl _ _).drew) (Joins.below_alloc1 _ _))) hlt hs1 hk1); have hb1 := hs1.lt; have r1 : w1.cell? ⟨w.heap.size, 0, none⟩ = some (.int .i64 0) := (by rw [Joins.cell_of_block (unhide D1).r]; rfl); have n1 : w1.heap.size ≠ w.heap.size := World.new_ne w1 ⟨w.heap.size, 0, none⟩ r1; have nb1 : w1.heap.size ≠ b := (by omega); have nb1p : w1.heap.size + 1 ≠ b := (by omega); (first | (have hX : Keep (fun k => k = b) (W0.alloc (blkO 0 0 0 0)).drew w1 := (by with_reducible exact hk1); have C1 := hide (blk_keep hX nb0 (new_top W0 (blkO 0 0 0 0))); clear hX) | skip); clear hs1 hk1)
      | (go_at_call_of 21 (Value.int IntKind.i64 2); refine (next_x b ao n cap (a + 1) cd (srcN cd n a seed) 2 _ (by omega) (by omega) (by omega) hn ?_).mono ?_; (first | exact (unhide D1).s | exact (unhide D1).s.below (Joins.below_alloc1 _ _) | exact (unhide D1).s.below (Joins.below_alloc2 _ _ _)); rintro e w2 ⟨rfl, hs2, hk2⟩; rw [unhide HQ2]; have D2 := hide (DrX.src (DrX.below (unhide D1) (by first | exact Below.refl _ _ | exact Joins.below_alloc1 _ _ | exact Joins.below_alloc2 _ _ _)) hlt hs2 hk2); have hb2 := hs2.lt; have r2 : w2.cell? ⟨w.heap.size, 0, none⟩ = some (.int .i64 0) := (by rw [Joins.cell_of_block (unhide D2).r]; rfl); have n2 : w2.heap.size ≠ w.heap.size := World.new_ne w2 ⟨w.heap.size, 0, none⟩ r2; have nb2 : w2.heap.size ≠ b := (by omega); have nb2p : w2.heap.size + 1 ≠ b := (by omega); (first | (have hX : Keep (fun k => k = b) w1 w2 := (by with_reducible exact hk2); (first | (have C2 : Hid (w2.heap[W0.heap.size]? = some (blkO 0 0 0 0)) := (by with_reducible exact hide (blk_keep hX nb0 (unhide C1))); obtain ⟨c20, c21, c22, c23, f20, f21, f22, f23⟩ := blk_cells (unhide C2); have lC2 : W0.heap.size < w2.heap.size := blk_lt (unhide C2)) | skip); skip) | (have hX : Keep (fun k => k = b) (w1.alloc (twoO 0 q1)) w2 := (by with_reducible exact hk2); have G2 := hide (blk_keep hX nb1 (new_top w1 _)); have g2 : w2.cell? ⟨w1.heap.size, 1, none⟩ = some (.int .i64 q1) := (by rw [Joins.cell_of_block (unhide G2)]; rfl); have lG2 : w1.heap.size < w2.heap.size := blk_lt (unhide G2); (first | (have C2 : Hid (w2.heap[W0.heap.size]? = some (blkO 0 0 0 0)) := (by with_reducible exact hide (blk_keep hX nb0 (new_at (unhide C1)))); obtain ⟨c20, c21, c22, c23, f20, f21, f22, f23⟩ := blk_cells (unhide C2); have lC2 : W0.heap.size < w2.heap.size := blk_lt (unhide C2)) | skip)) | (have hX : Keep (fun k => k = b) (w1.alloc (blkO 0 0 0 0)) w2 := (by with_reducible exact hk2); have C2 := hide (blk_keep hX nb1 (new_top w1 _)); obtain ⟨c20, c21, c22, c23, f20, f21, f22, f23⟩ := blk_cells (unhide C2); have lC2 : w1.heap.size < w2.heap.size := blk_lt (unhide C2); skip) | (have hX : Keep (fun k => k = b) ((w1.alloc (twoO 0 q1)).alloc (blkO 0 0 0 0)) w2 := (by with_reducible exact hk2); have G2 := hide (blk_keep hX nb1 (new_at (new_top w1 _))); have g2 : w2.cell? ⟨w1.heap.size, 1, none⟩ = some (.int .i64 q1) := (by rw [Joins.cell_of_block (unhide G2)]; rfl); have lG2 : w1.heap.size < w2.heap.size := blk_lt (unhide G2); have C2 := hide (blk_keep hX nb1p (new_two w1 _ _)); obtain ⟨c20, c21, c22, c23, f20, f21, f22, f23⟩ := blk_cells (unhide C2); have lC2 : w1.heap.size + 1 < w2.heap.size := blk_lt (unhide C2)) | (have hX : Keep (fun k => k = b) ((w1.alloc (blkO 0 0 0 0)).alloc (twoO 0 q1)) w2 := (by with_reducible exact hk2); have C2 := hide (blk_keep hX nb1 (new_at (new_top w1 _))); obtain ⟨c20, c21, c22, c23, f20, f21, f22, f23⟩ := blk_cells (unhide C2); have lC2 : w1.heap.size < w2.heap.size := blk_lt (unhide C2); have G2 := hide (blk_keep hX nb1p (new_two w1 _ _)); have g2 : w2.cell? ⟨w1.heap.size + 1, 1, none⟩ = some (.int .i64 q1) := (by rw [Joins.cell_of_block (unhide G2)]; rfl); have lG2 : w1.heap.size + 1 < w2.heap.size := blk_lt (unhide G2))); clear hs2 hk2 hX)
      | (go_at_call_of 21 (Value.int IntKind.i64 12); refine (next_x b ao n cap (a + 1 + 1) cd (srcN cd n (a + 1) (srcN cd n a seed)) 12 _ (by omega) (by omega) (by omega) hn ?_).mono ?_; (first | exact (unhide D2).s | exact (unhide D2).s.below (Joins.below_alloc1 _ _) | exact (unhide D2).s.below (Joins.below_alloc2 _ _ _)); rintro e w3 ⟨rfl, hs3, hk3⟩; rw [unhide HQ3]; have D3 := hide (DrX.src (DrX.below (unhide D2) (by first | exact Below.refl _ _ | exact Joins.below_alloc1 _ _ | exact Joins.below_alloc2 _ _ _)) hlt hs3 hk3); have hb3 := hs3.lt; have r3 : w3.cell? ⟨w.heap.size, 0, none⟩ = some (.int .i64 0) := (by rw [Joins.cell_of_block (unhide D3).r]; rfl); have n3 : w3.heap.size ≠ w.heap.size := World.new_ne w3 ⟨w.heap.size, 0, none⟩ r3; have nb3 : w3.heap.size ≠ b := (by omega); have nb3p : w3.heap.size + 1 ≠ b := (by omega); (first | (have hX : Keep (fun k => k = b) w2 w3 := (by with_reducible exact hk3); (first | (have C3 : Hid (w3.heap[W0.heap.size]? = some (blkO 0 0 0 0)) := (by with_reducible exact hide (blk_keep hX nb0 (unhide C2))); obtain ⟨c30, c31, c32, c33, f30, f31, f32, f33⟩ := blk_cells (unhide C3); have lC3 : W0.heap.size < w3.heap.size := blk_lt (unhide C3)) | (have C3 : Hid (w3.heap[w1.heap.size]? = some (blkO 0 0 0 0)) := (by with_reducible exact hide (blk_keep hX nb1 (unhide C2))); obtain ⟨c30, c31, c32, c33, f30, f31, f32, f33⟩ := blk_cells (unhide C3); have lC3 : w1.heap.size < w3.heap.size := blk_lt (unhide C3)) | (have C3 : Hid (w3.heap[w1.heap.size + 1]? = some (blkO 0 0 0 0)) := (by with_reducible exact hide (blk_keep hX nb1p (unhide C2))); obtain ⟨c30, c31, c32, c33, f30, f31, f32, f33⟩ := blk_cells (unhide C3); have lC3 : w1.heap.size + 1 < w3.heap.size := blk_lt (unhide C3)) | skip); (first | (have G3 : Hid (w3.heap[w1.heap.size]? = some (twoO 0 q1)) := (by with_reducible exact hide (blk_keep hX nb1 (unhide G2))); have g3 : w3.cell? ⟨w1.heap.size, 1, none⟩ = some (.int .i64 q1) := (by rw [Joins.cell_of_block (unhide G3)]; rfl); have lG3 : w1.heap.size < w3.heap.size := blk_lt (unhide G3)) | (have G3 : Hid (w3.heap[w1.heap.size + 1]? = some (twoO 0 q1)) := (by with_reducible exact hide (blk_keep hX nb1p (unhide G2))); have g3 : w3.cell? ⟨w1.heap.size + 1, 1, none⟩ = some (.int .i64 q1) := (by rw [Joins.cell_of_block (unhide G3)]; rfl); have lG3 : w1.heap.size + 1 < w3.heap.size := blk_lt (unhide G3)) | skip)) | (have hX : Keep (fun k => k = b) (w2.alloc (twoO 0 q1)) w3 := (by with_reducible exact hk3); have G3 := hide (blk_keep hX nb2 (new_top w2 _)); have g3 : w3.cell? ⟨w2.heap.size, 1, none⟩ = some (.int .i64 q1) := (by rw [Joins.cell_of_block (unhide G3)]; rfl); have lG3 : w2.heap.size < w3.heap.size := blk_lt (unhide G3); (first | (have C3 : Hid (w3.heap[W0.heap.size]? = some (blkO 0 0 0 0)) := (by with_reducible exact hide (blk_keep hX nb0 (new_at (unhide C2)))); obtain ⟨c30, c31, c32, c33, f30, f31, f32, f33⟩ := blk_cells (unhide C3); have lC3 : W0.heap.size < w3.heap.size := blk_lt (unhide C3)) | (have C3 : Hid (w3.heap[w1.heap.size]? = some (blkO 0 0 0 0)) := (by with_reducible exact hide (blk_keep hX nb1 (new_at (unhide C2)))); obtain ⟨c30, c31, c32, c33, f30, f31, f32, f33⟩ := blk_cells (unhide C3); have lC3 : w1.heap.size < w3.heap.size := blk_lt (unhide C3)) | (have C3 : Hid (w3.heap[w1.heap.size + 1]? = some (blkO 0 0 0 0)) := (by with_reducible exact hide (blk_keep hX nb1p (new_at (unhide C2)))); obtain ⟨c30, c31, c32, c33, f30, f31, f32, f33⟩ := blk_cells (unhide C3); have lC3 : w1.heap.size + 1 < w3.heap.size := blk_lt (unhide C3)) | skip)) | (have hX : Keep (fun k => k = b) (w2.alloc (blkO 0 0 0 0)) w3 := (by with_reducible exact hk3); have C3 := hide (blk_keep hX nb2 (new_top w2 _)); obtain ⟨c30, c31, c32, c33, f30, f31, f32, f33⟩ := blk_cells (unhide C3); have lC3 : w2.heap.size < w3.heap.size := blk_lt (unhide C3); (first | (have G3 : Hid (w3.heap[w1.heap.size]? = some (twoO 0 q1)) := (by with_reducible exact hide (blk_keep hX nb1 (new_at (unhide G2)))); have g3 : w3.cell? ⟨w1.heap.size, 1, none⟩ = some (.int .i64 q1) := (by rw [Joins.cell_of_block (unhide G3)]; rfl); have lG3 : w1.heap.size < w3.heap.size := blk_lt (unhide G3)) | (have G3 : Hid (w3.heap[w1.heap.size + 1]? = some (twoO 0 q1)) := (by with_reducible exact hide (blk_keep hX nb1p (new_at (unhide G2)))); have g3 : w3.cell? ⟨w1.heap.size + 1, 1, none⟩ = some (.int .i64 q1) := (by rw [Joins.cell_of_block (unhide G3)]; rfl); have lG3 : w1.heap.size + 1 < w3.heap.size := blk_lt (unhide G3)) | skip)) | (have hX : Keep (fun k => k = b) ((w2.alloc (twoO 0 q1)).alloc (blkO 0 0 0 0)) w3 := (by with_reducible exact hk3); have G3 := hide (blk_keep hX nb2 (new_at (new_top w2 _))); have g3 : w3.cell? ⟨w2.heap.size, 1, none⟩ = some (.int .i64 q1) := (by rw [Joins.cell_of_block (unhide G3)]; rfl); have lG3 : w2.heap.size < w3.heap.size := blk_lt (unhide G3); have C3 := hide (blk_keep hX nb2p (new_two w2 _ _)); obtain ⟨c30, c31, c32, c33, f30, f31, f32, f33⟩ := blk_cells (unhide C3); have lC3 : w2.heap.size + 1 < w3.heap.size := blk_lt (unhide C3)) | (have hX : Keep (fun k => k = b) ((w2.alloc (blkO 0 0 0 0)).alloc (twoO 0 q1)) w3 := (by with_reducible exact hk3); have C3 := hide (blk_keep hX nb2 (new_at (new_top w2 _))); obtain ⟨c30, c31, c32, c33, f30, f31, f32, f33⟩ := blk_cells (unhide C3); have lC3 : w2.heap.size < w3.heap.size := blk_lt (unhide C3); have G3 := hide (blk_keep hX nb2p (new_two w2 _ _)); have g3 : w3.cell? ⟨w2.heap.size + 1, 1, none⟩ = some (.int .i64 q1) := (by rw [Joins.cell_of_block (unhide G3)]; rfl); have lG3 : w2.heap.size + 1 < w3.heap.size := blk_lt (unhide G3))); clear hs3 hk3 hX))
    all_goals
      have gt1 : w.heap.size < w1.heap.size := blk_lt (unhide D1).r
      have gt2 : w.heap.size < w2.heap.size := blk_lt (unhide D2).r
      have S3 := (unhide D3).d (show a + 1 + 1 + 1 ≤ m + 3 by omega)
      go_wp2_with fail
      go_meet
      first
        | (have E9 := hide (BlkAt.top (v := q1) (mb := q3) (bl := 0) (i := 0) S3 hlt); with_reducible exact ⟨_, rfl, E9⟩)
        | (have E9 := hide (BlkAt.two (v := q1) (mb := q3) (bl := 0) (i := 0) S3 hlt (twoO 0 q1)); with_reducible exact ⟨_, rfl, E9⟩)
        | (have E9 := hide ((BlkAt.top (v := q1) (mb := q3) (bl := 0) (i := 0) S3 hlt).more (twoO 0 q1)); with_reducible exact ⟨_, rfl, E9⟩)
        | (have E9 := hide (BlkAt.set (v := q1) (mb := q3) (bl := 0) (i := 0) S3 (unhide HS) hlt (unhide C3) (by first | exact gt0 | exact gt1 | exact gt2 | omega)); with_reducible exact ⟨_, rfl, E9⟩)
        | (have E9 := hide ((BlkAt.set (v := q1) (mb := q3) (bl := 0) (i := 0) S3 (unhide HS) hlt (unhide C3) (by first | exact gt0 | exact gt1 | exact gt2 | omega)).more (twoO 0 q1)); with_reducible exact ⟨_, rfl, E9⟩)
  case rest =>
    obtain ⟨C, rfl, E0⟩ := hcut
    clear D0 HQ1 HQ2 HQ3
    obtain ⟨x0, x1, x2, x3, y0, y1, y2, y3⟩ := blk_cells (unhide E0).c
    go_wp2_with fail
    refine (next_k b ao n cap (m + 3) (q3 + 1) _ (by omega) (by omega) (by omega) hn (unhide E0).d.s).mono ?_
    rintro e w5 ⟨bl, rfl, bl0, bl1, hs5, hk5⟩
    have E1 := hide ((unhide E0).src hlt hs5 hk5)
    clear hs5 hk5 E0 x0 x1 x2 x3 y0 y1 y2 y3
    obtain ⟨x0, x1, x2, x3, y0, y1, y2, y3⟩ := blk_cells (unhide E1).c
    have E2 := hide ((unhide E1).bal (unhide HS) hlt bl)
    by_cases hbl : 0 < bl
    · go_wp2_with fail
      revert E2
      generalize w5.setCell ⟨C, 2, none⟩ (.int .i64 bl) = W6
      intro E2
      refine (next_k b ao n cap (m + 3 + 3) 9 _ (by omega) (by omega) (by omega) hn (unhide E2).d.s).mono ?_
      rintro e w7 ⟨ip, rfl, ip0, ip1, hs7, hk7⟩
      have E3 := hide ((unhide E2).src hlt hs7 hk7)
      clear hs7 hk7 E1 E2 x0 x1 x2 x3 y0 y1 y2 y3
      obtain ⟨x0, x1, x2, x3, y0, y1, y2, y3⟩ := blk_cells (unhide E3).c
      have E4 := hide ((unhide E3).inp (unhide HS) hlt ip)
      obtain ⟨c0, c1, c2, c3, f0, f1, f2, f3⟩ := blk_cells (unhide E3).d.r
      obtain ⟨d0, d1, d2, d3, g0, g1, g2, g3⟩ := blk_cells (unhide E4).d.r
      obtain ⟨u0, u1, u2, u3, v0, v1, v2, v3⟩ := blk_cells (unhide E4).c
      have hne : C ≠ w.heap.size := by have := (unhide E4).gt; omega
      have hne' := hne.symm
      have HE := hide (fun p q r t => DrS.end4 (unhide E4).d hlt (unhide HS) p q r t)
      go_wp2
      exact bodyPost_ret (v := blkV q1 q3 bl ip) (by simp [results, Tryd.results11, go_sem, *]) rfl ⟨q1, q3, bl, ip, rfl, by omega, by omega, by omega, by omega, by omega, (unhide HE _ _ _ _).1.more (by omega), (unhide HE _ _ _ _).2⟩
    · have hb0 : bl = 0 := by omega
      subst hb0
      obtain ⟨c0, c1, c2, c3, f0, f1, f2, f3⟩ := blk_cells (unhide E1).d.r
      have hne : C ≠ w.heap.size := by have := (unhide E2).gt; omega
      have hne' := hne.symm
      have HE := hide (fun p q r t => DrS.end4 (unhide E2).d hlt (unhide HS) p q r t)
      go_wp2
      exact bodyPost_ret (v := blkV q1 q3 0 0) (by simp [results, Tryd.results11, go_sem, *]) rfl ⟨q1, q3, 0, 0, rfl, by omega, by omega, by omega, by omega, fun _ => rfl, (unhide HE _ _ _ _).1.more (by omega), (unhide HE _ _ _ _).2⟩

end Go.Proofs.YtdigphemaccodaaDoor

/- Contract of the model's draw of a block. -/
namespace Go.Proofs.YtdigphemaccodaaDoor
open Go.RowKit
theorem block_k (b : Nat) (ao : Option Addr) (n cap m : Nat) (w : World) (hm : m ≤ 800000) (hn : n ≤ 1048576) (hs : SrcK w b ao n cap m) :
    Calls Tryd.prog 11 #[.pointer (some ⟨b, 0, none⟩)] w fun e w' => ∃ v mb bl i : Int, e = .returned (blkV v mb bl i) ∧ (0 ≤ v ∧ v ≤ 2) ∧ (0 ≤ mb ∧ mb ≤ 11) ∧ (0 ≤ bl ∧ bl ≤ mb) ∧ (0 ≤ i ∧ i ≤ 8) ∧ (bl = 0 → i = 0) ∧ SrcK w' b ao n cap (m + 15) ∧ Keep (fun j => j = b) w w' := by
  obtain ⟨cd, a, seed, ha, hx⟩ := hs.x
  have h2 := srcV_mod (cd := cd) (n := n) (a := a + 1) (seed := srcN cd n a seed) (k := 2) (by omega)
  by_cases e : srcV cd n (a + 1) (srcN cd n a seed) % 2 = 0
  · exact block_0 b ao n cap a cd seed m w ha hm hn hx _ _ rfl e rfl
  · exact block_1 b ao n cap a cd seed m w ha hm hn hx _ _ rfl (by omega) rfl
end Go.Proofs.YtdigphemaccodaaDoor

/- Contract of laws.at: one of some choices. -/
namespace Go.Proofs.YtdigphemaccodaaDoor
open Go.RowKit
set_option linter.unusedVariables false
set_option maxRecDepth 100000

set_option maxHeartbeats 3200000 in
theorem at_any (ao : Option Addr) (n cap : Nat) (i k : Int) (w : World) (hn : n ≤ 1048576) (hi0 : 0 ≤ i) (hi1 : i ≤ 1000) (hk0 : 1 ≤ k) (hk1 : k ≤ 100000) (hB : Bs w ao n) :
    Calls Tryd.prog 9 #[.slice ao n cap, .int .i64 i, .int .i64 k] w fun e w' => ∃ r : Int, e = .returned (.int .i64 r) ∧ 0 ≤ r ∧ r < k ∧ Below w.heap.size w w' := by
  by_cases h1 : k ≤ 1
  · go_enter Tryd.func9, Tryd.ntmps9
    go_wp2
    go_ret
    exact ⟨0, rfl, by omega, by omega, Below.refl _ _⟩
  by_cases h0 : n = 0
  · have hb0 : ((n : Int) == 0) = true := by simp [h0]
    go_enter Tryd.func9, Tryd.ntmps9
    go_wp2
    go_ret
    have q0 := Int.emod_nonneg (i * 7) (show k ≠ 0 by omega)
    have q1 := Int.emod_lt_of_pos (i * 7) (show 0 < k by omega)
    exact ⟨i * 7 % k, rfl, q0, q1, Below.refl _ _⟩
  have hb0 : ((n : Int) == 0) = false := by simp [h0]
  have hnp : (0 : Int) < n := by omega
  have p0 := Int.emod_nonneg i (show (n : Int) ≠ 0 by omega)
  have p1 := Int.emod_lt_of_pos i hnp
  have p2 := Int.emod_nonneg (i + 1) (show (n : Int) ≠ 0 by omega)
  have p3 := Int.emod_lt_of_pos (i + 1) hnp
  obtain ⟨u, hu⟩ := Int.eq_ofNat_of_zero_le p0
  obtain ⟨v, hv⟩ := Int.eq_ofNat_of_zero_le p2
  have q0 : i / (n : Int) ≤ 1000 := Int.le_trans (Int.ediv_le_self _ hi0) hi1
  have q1 : 0 ≤ i / (n : Int) := Int.ediv_nonneg hi0 (by omega)
  obtain ⟨b, off, x, rfl, hcx, hx0, hx1⟩ := hB u (by omega)
  obtain ⟨b2, off2, y, he, hcy, hy0, hy1⟩ := hB v (by omega)
  simp only [Option.some.injEq, Addr.mk.injEq, and_true] at he
  obtain ⟨rfl, rfl⟩ := he
  have hn0 : ((n : Int) == 0) = false := hb0
  have hn1 : ¬ (n : Int) = 0 := by omega
  have hk2 : ¬ k = 0 := by omega
  have t1 : i.tmod (n : Int) = (u : Int) := by rw [Int.tmod_eq_emod_of_nonneg hi0]; exact hu
  have w1 : IntKind.i64.wrap (i + 1) = i + 1 := wrapI (by omega) (by omega)
  have t2 : (i + 1).tmod (n : Int) = (v : Int) := by rw [Int.tmod_eq_emod_of_nonneg (by omega)]; exact hv
  have w2 : IntKind.i64.wrap x = x := wrapI (by omega) (by omega)
  have w3 : IntKind.i64.wrap (x * 31) = x * 31 := wrapI (by omega) (by omega)
  have w4 : IntKind.i64.wrap y = y := wrapI (by omega) (by omega)
  have w5 : IntKind.i64.wrap (x * 31 + y) = x * 31 + y := wrapI (by omega) (by omega)
  have t3 : i.tdiv (n : Int) = i / (n : Int) := Int.tdiv_eq_ediv_of_nonneg hi0
  have w6 : IntKind.i64.wrap (i / (n : Int)) = i / (n : Int) := wrapI (by omega) (by omega)
  have w7 : IntKind.i64.wrap (x * 31 + y + i / (n : Int)) = x * 31 + y + i / (n : Int) := wrapI (by omega) (by omega)
  have t4 : (x * 31 + y + i / (n : Int)).tmod k = (x * 31 + y + i / (n : Int)) % k := Int.tmod_eq_emod_of_nonneg (by omega)
  have z0 := Int.emod_nonneg (x * 31 + y + i / (n : Int)) (show k ≠ 0 by omega)
  have z1 := Int.emod_lt_of_pos (x * 31 + y + i / (n : Int)) (show 0 < k by omega)
  go_enter Tryd.func9, Tryd.ntmps9
  go_wp2
  go_quiet (fail)
  go_wp2
  go_ret
  exact ⟨_, rfl, z0, z1, Joins.below_draws _ _ _⟩

end Go.Proofs.YtdigphemaccodaaDoor

/- The walk of laws.FnBlocks. -/
namespace Go.Proofs.YtdigphemaccodaaDoor
open Go.RowKit
set_option linter.unusedVariables false
set_option maxRecDepth 100000

theorem bk_all {x : Bk} (h : bkB x = true) : allB [x.ver, x.mbal, x.bal, x.inp] = true := by
  obtain ⟨h1, h2, h3, h4, _⟩ := bkB_iff.1 h
  simp [allB, numB, inB]; omega
theorem bd_enc {x : Bk} (h : bkB x = true) : bdB (encB x) = true ∧ bdK (encB x) = x := by
  have ho : openB (encB x) 5 = true := openB_rec.2 ⟨rec_seal (by omega) (bk_all h) (by simp), seal_kind (by omega) (by simp)⟩
  have hl : bdL (encB x) = [x.ver, x.mbal, x.bal, x.inp] := by
    rw [bdL, openL_yes ho, encB, body_seal, un_pack (bk_all h)]
  have hb : bdB (encB x) = true := by rw [bdB_at ho hl]; exact h
  exact ⟨hb, bd_yes hb hl⟩
theorem bc_enc {x : Bk} (h : bkB x = true) : bcK (encB x) = x ∧ bcC (encB x) = 0 := by
  obtain ⟨h1, h2⟩ := bd_enc h
  obtain ⟨h3, h4⟩ := bc_yes (t := encB x) (by rw [encB_size]; omega) h1
  exact ⟨h3.trans h2, h4⟩
theorem bc_cut (x : Bk) {q : Nat} (hq : q < 20) : bcC ((encB x).extract 0 q) = 3 := by
  have hc := opC_cut (k := 5) (xs := [x.ver, x.mbal, x.bal, x.inp]) (q := q) (by omega) (by simp) (by simpa using hq)
  have hs : ¬ 65536 < ((encB x).extract 0 q).size := by rw [ByteArray.size_extract, encB_size]; omega
  refine (bc_no hs (bdB_open ?_)).2
  rw [Bool.eq_false_iff]
  intro ho
  obtain ⟨h1, h2⟩ := openB_rec.1 ho
  have : opC ((encB x).extract 0 q) 5 = 0 := opC_ok hs (kindB_of (by omega)) (recB_true h1) h2
  rw [show (encB x).extract 0 q = (sealS 5 [x.ver, x.mbal, x.bal, x.inp]).extract 0 q from rfl] at this
  rw [this] at hc
  exact absurd hc (by decide)

set_option maxHeartbeats 1600000 in
theorem blockOf_any (so : Option Addr) (n cap : Nat) (w : World) (hn : n ≤ 1048576) (hB : Bs w so n) :
    Calls Tryd.prog 4 #[.slice so n cap] w fun e w' => ∃ x : Bk, e = .returned (bV x) ∧ bkB x = true ∧ Below w.heap.size w w' := by
  have HV := hide (VarB.new0 w 24)
  have HA := hide (Joins.below_alloc1 w (.cells #[.int .i64 0, .int .i64 0, .int .i64 0, .int .i64 0] 24))
  have HBS := hide (hB.below (unhide HA))
  clear hB
  go_enter Tryd.func4, Tryd.ntmps4
  go_wp2_with fail
  refine (source_any so n cap _ hn (unhide HBS)).mono ?_
  rintro e w1 ⟨rfl, hs1, hb1, hz⟩
  have HB1 := hide (fr (unhide HA) hb1)
  have HV1 := hide ((unhide HV).below hb1)
  simp only [World.size_alloc] at hs1
  have HS1 := hide hs1
  have hz1 : w1.heap.size = w.heap.size + 2 := by rw [hz]; simp
  clear hs1 hb1 hz
  go_wp2_with fail
  refine (block_k _ so n cap 0 _ (by omega) hn (unhide HS1)).mono ?_
  rintro e w2 ⟨v, m, b, i, rfl, h1, h2, h3, h4, h5, hs2, hk⟩
  have HX : Hid (bkB ⟨v, m, b, i⟩ = true) := hide (bkB_iff.2 ⟨⟨h1.1, by show v ≤ 1000000; omega⟩, ⟨h2.1, by show m ≤ 1000000; omega⟩, ⟨h3.1, h3.2⟩, ⟨h4.1, by show i ≤ 2147483647; omega⟩, by show 0 < b ∨ i = 0; by_cases hb : b = 0; exact .inr (h5 hb); exact .inl (by omega)⟩)
  have HV2 := hide ((unhide HV1).keep hk (by simp))
  have HW2 := hide ((unhide HB1).trans (hk.below (B := w.heap.size) (by omega) (fun k hk => by rw [hk]; simp)))
  clear hk hs2 h1 h2 h3 h4 h5
  obtain ⟨c0, c1, c2, c3⟩ := (unhide HV2).cells
  obtain ⟨z0, z1, z2, z3⟩ := (unhide HV2).free
  go_wp2
  exact bodyPost_ret (v := bV ⟨v, m, b, i⟩) (by simp [results, Tryd.results4, go_sem, c0, c1, c2, c3]) rfl ⟨⟨v, m, b, i⟩, rfl, unhide HX, below4 (unhide HW2) (Nat.le_refl _) 0 1 2 3 _ _ _ _⟩

set_option maxHeartbeats 3200000 in
theorem lawBlocks (ao : Option Addr) (ca n : Nat) (bo : Option Addr) (cb l : Nat) (w : World) (hn : n ≤ maxLen) (hB : Bs w ao n) (hl : l ≤ maxLen) (hC : Bs w bo l) (hE : ErrW w) :
    Calls Tryd.prog 3 #[.slice ao n ca, .slice bo l cb] w fun e w' => e = .returned (.bool true) ∧ Below w.heap.size w w' := by
  have HE := hide hE
  have HBS := hide hB
  have HCS := hide hC
  clear hE hB hC
  unfold maxLen at hn hl
  by_cases h : 1048576 < n
  · go_enter Tryd.func3, Tryd.ntmps3
    go_wp2
    go_ret
    exact ⟨rfl, Below.refl _ _⟩
  by_cases h2 : 1048576 < l
  · go_enter Tryd.func3, Tryd.ntmps3
    go_wp2
    go_ret
    exact ⟨rfl, Below.refl _ _⟩
  have hn' : n ≤ 1048576 := by omega
  have hl' : l ≤ 1048576 := by omega
  go_enter Tryd.func3, Tryd.ntmps3
  go_wp2_with fail
  refine (blockOf_any ao n ca _ hn' (unhide HBS)).mono ?_
  rintro e w1 ⟨x, rfl, hx, hb⟩
  have HX := hide hx
  have HB1 := hide (fr hb (Joins.below_alloc1 w1 (.cells #[.int .i64 x.ver, .int .i64 x.mbal, .int .i64 x.bal, .int .i64 x.inp] 24)))
  have HV1 := hide (VarB.new w1 24 x)
  clear hb hx
  go_upto_region 4 with fail
  revert HB1 HV1
  generalize w1.alloc (.cells #[.int .i64 x.ver, .int .i64 x.mbal, .int .i64 x.bal, .int .i64 x.inp] 24) = W1
  generalize w1.heap.size = a
  intro HB1 HV1
  have HR : Hid (ebR x = encB x) := hide (if_pos (unhide HX))
  have HCC : Hid (ebC x = 0) := hide (if_pos (unhide HX))
  obtain ⟨c0, c1, c2, c3⟩ := (unhide HV1).cells
  go_wp2_with fail
  refine (encodeBlock_impl x _).mono ?_
  rw [unhide HR, unhide HCC]
  rintro e w2 ⟨rfl, hb⟩
  have HB2 := hide (fr (unhide HB1) hb)
  have HV2 := hide ((unhide HV1).below hb)
  clear hb c0 c1 c2 c3 HB1 HV1
  obtain ⟨c0, c1, c2, c3⟩ := (unhide HV2).cells
  go_wp2_with fail
  refine (encodeBlock_spec x _).mono ?_
  rw [unhide HR, unhide HCC]
  rintro e w3 ⟨rfl, hb⟩
  have HB3 := hide (fr (unhide HB2) hb)
  have HV3 := hide ((unhide HV2).below hb)
  clear hb c0 c1 c2 c3 HB2 HV2
  have HSZ := hide (encB_size x)
  have HCUT := hide (fun q (hq : q < 20) => bc_cut x (q := q) hq)
  have HDE := hide (bc_enc (unhide HX))
  have HDD := hide (fun W hW => decodeBlock_impl (encB x) W hW)
  rw [(unhide HDE).1, (unhide HDE).2] at HDD
  have HDC := hide (fun (q : Nat) W hW => decodeBlock_impl ((encB x).extract 0 q) W hW)
  revert HSZ HCUT HDD HDC
  clear HDE HR HCC
  generalize encB x = T
  intro HSZ HCUT HDD HDC
  go_wp2_with fail
  refine (unhide HDD _ ((unhide HE).below (unhide HB3))).mono ?_
  rintro e w4 ⟨rfl, hb⟩
  have HB4 := hide (fr (fr (unhide HB3) hb) (Joins.below_alloc1 w4 (.cells #[.int .i64 x.ver, .int .i64 x.mbal, .int .i64 x.bal, .int .i64 x.inp] 24)))
  have HV4 := hide (((unhide HV3).below hb).below (Joins.below_alloc1 w4 (.cells #[.int .i64 x.ver, .int .i64 x.mbal, .int .i64 x.bal, .int .i64 x.inp] 24)))
  have HU4 := hide (VarB.new w4 24 x)
  clear hb HB3 HV3
  go_upto_region 7 with fail
  revert HB4 HV4 HU4
  generalize w4.alloc (.cells #[.int .i64 x.ver, .int .i64 x.mbal, .int .i64 x.bal, .int .i64 x.inp] 24) = W4
  generalize w4.heap.size = b
  intro HB4 HV4 HU4
  obtain ⟨c0, c1, c2, c3⟩ := (unhide HV4).cells
  obtain ⟨d0, d1, d2, d3⟩ := (unhide HU4).cells
  have hx := unhide HX
  have hsz := unhide HSZ
  go_wp2_with fail
  refine (blockOK_impl x _).mono ?_
  rw [hx]
  rintro e w5 ⟨rfl, hb⟩
  have HB5 := hide (fr (unhide HB4) hb)
  clear hb c0 c1 c2 c3 d0 d1 d2 d3 HB4 HV4 HU4
  go_wp2_with fail
  refine (at_any bo l cb 0 20 _ hl' (by omega) (by omega) (by omega) (by omega) ((unhide HCS).below (unhide HB5))).mono ?_
  rintro e w6 ⟨q, rfl, hq0, hq1, hb⟩
  have HB6 := hide (fr (unhide HB5) hb)
  clear hb HB5
  obtain ⟨qn, rfl⟩ := Int.eq_ofNat_of_zero_le hq0
  have HCQ := hide (unhide HCUT qn (by omega))
  go_wp2_with fail
  refine (unhide HDC qn _ ((unhide HE).below (unhide HB6))).mono ?_
  rw [unhide HCQ]
  rintro e w7 ⟨rfl, hb⟩
  have HB7 := hide (fr (fr (unhide HB6) hb) (Joins.below_alloc1 w7 (.cells #[.int .i64 (bcK (T.extract 0 qn)).ver, .int .i64 (bcK (T.extract 0 qn)).mbal, .int .i64 (bcK (T.extract 0 qn)).bal, .int .i64 (bcK (T.extract 0 qn)).inp] 24)))
  clear hb HB6
  go_wp2
  go_ret
  exact ⟨rfl, unhide HB7⟩

end Go.Proofs.YtdigphemaccodaaDoor
