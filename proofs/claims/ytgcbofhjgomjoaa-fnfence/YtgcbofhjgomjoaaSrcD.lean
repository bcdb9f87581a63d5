/- Contract of the model's drawn configurations: config, ConfigOf. -/
import Derived.Test.YtgcbofhjgomjoaaRows
import Derived.Test.YtgcbofhjgomjoaaGen
import Derived.Test.YtgcbofhjgomjoaaKeep
import Derived.Test.YtgcbofhjgomjoaaSrc
import Derived.Test.YtgcbofhjgomjoaaSrcG
import Derived.Test.YtgcbofhjgomjoaaClkB
import Derived.Test.YtgcbofhjgomjoaaClkF
import Derived.Test.YtgcbofhjgomjoaaClkI
import Derived.Test.YtgcbofhjgomjoaaClkC
import Derived.Test.YtgcbofhjgomjoaaClkH
import Derived.Test.YtgcbofhjgomjoaaClkG
import Derived.WalkKit
import Derived.WalkSpells
import Derived.Deep.RegionHeld3
namespace Go.Proofs.Ytgcbofhjgomjoaa
open Go.RowKit
set_option linter.unusedVariables false

theorem four_of {w : World} {k t : Nat} {f d l r : Int} (h : w.heap[k]? = some (.cells #[.int .i64 f, .int .i64 d, .int .i64 l, .int .i64 r] t (0, 0))) : Four w k f d l r :=
  ⟨by rw [Joins.cell_of_block h]; rfl, by rw [Joins.cell_of_block h]; rfl, by rw [Joins.cell_of_block h]; rfl, by rw [Joins.cell_of_block h]; rfl⟩
abbrev cfgO (f d l r : Int) : Obj := .cells #[.int .i64 f, .int .i64 d, .int .i64 l, .int .i64 r] 42 (0, 0)
theorem next_four (C : Nat) (f d l r : Int) (b : Nat) (ao : Option Addr) (n cap m : Nat) (k : Int) (w : World) (hk0 : 1 ≤ k) (hk1 : k ≤ 1000000) (hm : m ≤ 900000) (hn : n ≤ 1048576) (hs : SrcK w b ao n cap m) (hC : C ≠ b) (h : Four w C f d l r) :
    Calls Try.prog 59 #[.pointer (some ⟨b, 0, none⟩), .int .i64 k] w fun e w' => ∃ q : Int, e = .returned (.int .i64 q) ∧ 0 ≤ q ∧ q < k ∧ Four w' C f d l r ∧ Hid (SrcK w' b ao n cap (m + 3) ∧ Keep (fun k => k = b) w w') :=
  (next_k b ao n cap m k w hk0 hk1 hm hn hs).mono fun e w' ⟨q, h1, h2, h3, h4, h5⟩ => ⟨q, h1, h2, h3, ⟨keep_cell h5 hC h.1, keep_cell h5 hC h.2.1, keep_cell h5 hC h.2.2.1, keep_cell h5 hC h.2.2.2⟩, hide ⟨h4, h5⟩⟩

/-- The configuration's Dead, as it lies in its variable. -/
def deadAt (wr : World) (C : Nat) : Int := intOf ((wr.cell? ⟨C, 1, none⟩).getD undef)
theorem deadAt_of {wr : World} {C : Nat} {d : Int} (h : wr.cell? ⟨C, 1, none⟩ = some (.int .i64 d)) : deadAt wr C = d := by rw [deadAt, h]; rfl

theorem cfg_ret {fn : Func} {a : Act} {f d l r : Int} {b : Nat} {w w2 : World} (hk : Keep (fun k => k = b ∨ w.heap.size ≤ k) w w2) (h1 : 1 ≤ f) (h2 : f ≤ 40) (h3 : 2 ≤ d) (h4 : d ≤ 11300) (h5 : 0 ≤ l) (h6 : l ≤ 8) (h7 : 0 ≤ r) (h8 : r ≤ 500) (hd : a.defers = [])
    (hres : (results fn a.tmps).run Try.prog ((((w2.setCell ⟨w.heap.size, 0, none⟩ (.int .i64 f)).setCell ⟨w.heap.size, 1, none⟩ (.int .i64 d)).setCell ⟨w.heap.size, 2, none⟩ (.int .i64 l)).setCell ⟨w.heap.size, 3, none⟩ (.int .i64 r)) = .ok (cfgV f d l r) ((((w2.setCell ⟨w.heap.size, 0, none⟩ (.int .i64 f)).setCell ⟨w.heap.size, 1, none⟩ (.int .i64 d)).setCell ⟨w.heap.size, 2, none⟩ (.int .i64 l)).setCell ⟨w.heap.size, 3, none⟩ (.int .i64 r))) :
    bodyPost Try.prog fn (fun e w' => (∃ f d l r : Int, e = .returned (cfgV f d l r) ∧ 1 ≤ f ∧ f ≤ 40 ∧ 2 ≤ d ∧ d ≤ 11300 ∧ 0 ≤ l ∧ l ≤ 8 ∧ 0 ≤ r ∧ r ≤ 500) ∧ Keep (fun k => k = b) w w') .ret a ((((w2.setCell ⟨w.heap.size, 0, none⟩ (.int .i64 f)).setCell ⟨w.heap.size, 1, none⟩ (.int .i64 d)).setCell ⟨w.heap.size, 2, none⟩ (.int .i64 l)).setCell ⟨w.heap.size, 3, none⟩ (.int .i64 r)) :=
  bodyPost_ret hres hd ⟨⟨f, d, l, r, rfl, h1, h2, h3, h4, h5, h6, h7, h8⟩, keep_drop ((((hk.setCell (p := ⟨w.heap.size, 0, none⟩) (.inr (Nat.le_refl _)) _).setCell (p := ⟨w.heap.size, 1, none⟩) (.inr (Nat.le_refl _)) _).setCell (p := ⟨w.heap.size, 2, none⟩) (.inr (Nat.le_refl _)) _).setCell (p := ⟨w.heap.size, 3, none⟩) (.inr (Nat.le_refl _)) _)⟩

set_option maxHeartbeats 3200000 in
theorem config_k (b : Nat) (ao : Option Addr) (n cap m : Nat) (w : World) (hm : m ≤ 700000) (hn : n ≤ 1048576) (hs : SrcK w b ao n cap m) :
    Calls Try.prog 46 #[.pointer (some ⟨b, 0, none⟩)] w fun e w' => (∃ f d l r : Int, e = .returned (cfgV f d l r) ∧ 1 ≤ f ∧ f ≤ 40 ∧ 2 ≤ d ∧ d ≤ 11300 ∧ 0 ≤ l ∧ l ≤ 8 ∧ 0 ≤ r ∧ r ≤ 500) ∧ Keep (fun k => k = b) w w' := by
  have HS := hide hs
  have hlt := hs.lt
  clear hs
  have HK0 : Hid (Keep (fun k => k = b) w (w.alloc (cfgO 0 0 0 0))) := hide (Keep.of_below (Joins.below_alloc1 _ _))
  have HS0 := hide ((unhide HS).below (Joins.below_alloc1 w (cfgO 0 0 0 0)))
  have HR0 : Hid ((w.alloc (cfgO 0 0 0 0)).heap[w.heap.size]? = some (cfgO 0 0 0 0)) := hide (heap_alloc_new w _)
  go_enter Try.func46, Try.ntmps46
  go_wp2_with fail
  refine (next_k b ao n cap m 40 _ (by omega) (by omega) (by omega) hn (unhide HS0)).mono ?_
  rintro e w1 ⟨q1, rfl, q10, q11, hs1, hk1⟩
  have HS1 := hide hs1
  have HK1 := hide ((unhide HK0).trans hk1)
  have HR1 := hide (blk_keep hk1 (by omega) (unhide HR0))
  clear hs1 hk1
  go_wp2_with fail
  refine (next_k b ao n cap (m + 3) 9 _ (by omega) (by omega) (by omega) hn (unhide HS1)).mono ?_
  rintro e w2 ⟨q2, rfl, q20, q21, hs1, hk1⟩
  have HS2 := hide hs1
  have HK2 := hide ((unhide HK1).trans hk1)
  have HR2 := hide (blk_keep hk1 (by omega) (unhide HR1))
  clear hs1 hk1
  go_wp2_with fail
  refine (next_k b ao n cap (m + 3 + 3) 100 _ (by omega) (by omega) (by omega) hn (unhide HS2)).mono ?_
  rintro e w3 ⟨q3, rfl, q30, q31, hs1, hk1⟩
  have HS3 := hide (hs1.below (Joins.below_alloc1 _ (.cells #[.int .i64 0, .int .i64 q3, .int .i64 500] 3)))
  have HK3 := hide (((unhide HK2).trans hk1).trans (Keep.of_below (Joins.below_alloc1 _ (.cells #[.int .i64 0, .int .i64 q3, .int .i64 500] 3))))
  have HR3 := hide (blk_below (Joins.below_alloc1 _ (.cells #[.int .i64 0, .int .i64 q3, .int .i64 500] 3)) (blk_keep hk1 (by omega) (unhide HR2)))
  have hbl := hs1.lt
  clear hs1 hk1
  go_wp2_with fail
  refine (next_k b ao n cap (m + 3 + 3 + 3) 9 _ (by omega) (by omega) (by omega) hn (unhide HS3)).mono ?_
  rintro e w4 ⟨q4, rfl, q40, q41, hs1, hk1⟩
  have hcA := keep_cell (a := ⟨w3.heap.size, 0, none⟩) (v := .int .i64 0) hk1 (by simp; omega) (by simp [go_sem])
  have hcB := keep_cell (a := ⟨w3.heap.size, 1, none⟩) (v := .int .i64 q3) hk1 (by simp; omega) (by simp [go_sem])
  have hcC := keep_cell (a := ⟨w3.heap.size, 2, none⟩) (v := .int .i64 500) hk1 (by simp; omega) (by simp [go_sem])
  obtain ⟨j, r, hj, hj3, hcJ, hr0, hr1⟩ : ∃ (j : Nat) (r : Int), q4 / 4 = (j : Int) ∧ j < 3 ∧ w4.cell? ⟨w3.heap.size, j, none⟩ = some (.int .i64 r) ∧ 0 ≤ r ∧ r ≤ 500 := by
    have hq : q4 / 4 = 0 ∨ q4 / 4 = 1 ∨ q4 / 4 = 2 := by omega
    rcases hq with hq | hq | hq
    · exact ⟨0, 0, by omega, by omega, hcA, by omega, by omega⟩
    · exact ⟨1, q3, by omega, by omega, hcB, by omega, by omega⟩
    · exact ⟨2, 500, by omega, by omega, hcC, by omega, by omega⟩
  have HS4 := hide hs1
  have HK4 := hide ((unhide HK3).trans hk1)
  have HR4 := hide (blk_keep hk1 (by omega) (unhide HR3))
  clear hs1 hk1 hcA hcB hcC HS0 HS1 HS2 HS3 HK0 HK1 HK2 HK3 HR0 HR1 HR2 HR3
  have hji : (j : Int) < 3 := by omega
  obtain ⟨f, hf⟩ : ∃ f, 1 + q1 = f := ⟨_, rfl⟩
  have hf0 : 1 ≤ f := by omega
  have hf1 : f ≤ 40 := by omega
  go_wp2
  -- the configuration lies in a variable
  have HSa := hide ((unhide HS4).below (Joins.below_alloc1 w4 (cfgO f 0 q2 r)))
  have HKa := hide (((unhide HK4).mono (T := fun k => k = b ∨ w.heap.size ≤ k) (fun k h => .inl h)).trans (Keep.of_below (Joins.below_alloc1 w4 (cfgO f 0 q2 r))))
  have HRa := hide (blk_below (Joins.below_alloc1 w4 (cfgO f 0 q2 r)) (unhide HR4))
  have HCa : Hid ((w4.alloc (cfgO f 0 q2 r)).heap[w4.heap.size]? = some (cfgO f 0 q2 r)) := hide (heap_alloc_new w4 _)
  have hC0 : w.heap.size < w4.heap.size := blk_lt (unhide HR4)
  revert HSa HKa HRa HCa
  generalize w4.alloc (cfgO f 0 q2 r) = W0
  generalize w4.heap.size = C at *
  intro HSa HKa HRa HCa
  obtain ⟨k0, k1, k2, k3⟩ := four_of (unhide HCa)
  obtain ⟨ql0, ql1⟩ := latQ_le (x := f) hr0 hr1 (by omega) (by omega)
  have ql2 : latQ r f ≤ 1000 := by
    unfold latQ
    refine Int.le_of_lt_add_one (Int.ediv_lt_of_lt_mul (by omega) ?_)
    have : (1000 + 1) * 500 ≤ (1000 + 1) * (1000 - r) := Int.mul_le_mul_of_nonneg_left (by omega) (by omega)
    omega
  have ql3 : 2 ≤ latQ r f := by
    unfold latQ
    refine Int.le_ediv_of_mul_le (by omega) ?_
    omega
  have hwa : IntKind.i64.wrap (latQ r f + q2) = latQ r f + q2 := by rw [IntKind.wrap_i64]; omega
  have hCb : Hid (C ≠ b) := hide (by omega)
  go_region_held3 (fun w' => w'.cell? ⟨C, 0, none⟩ = some (.int .i64 f) ∧ w'.cell? ⟨C, 2, none⟩ = some (.int .i64 q2) ∧ w'.cell? ⟨C, 3, none⟩ = some (.int .i64 r)) (first | go_keep | (refine ⟨?_, ?_, ?_⟩ <;> simp [go_sem, *]))
    (first
      | (go_at_call 51; refine (lat_spec r f _ (by omega) (by omega) (by omega) (by omega)).mono ?_; rintro e wC ⟨rfl, rfl⟩)
      | (go_at_call 59; refine (next_four C f 0 q2 r b ao n cap (m + 3 + 3 + 3 + 3) 60 _ (by omega) (by omega) (by omega) hn ?_ (unhide hCb) ⟨?_, ?_, ?_, ?_⟩).mono ?_; exact (unhide HSa).below ((Below.refl _ _).drew); (simp [*]); (simp [*]); (simp [*]); (simp [*]); rintro e wN ⟨qd, rfl, qd0, qd1, ⟨n0, n1, n2, n3⟩, hN⟩; have hCN := hide (blk_keep (unhide hN).2 (by exact unhide hCb) (blk_below ((Below.refl _ _).drew) (unhide HCa))); have hfz := Joins.unfrozen_of_block (unhide hCN) 1; have hwb : IntKind.i64.wrap (latQ r f + q2 + qd) = latQ r f + q2 + qd := by (rw [IntKind.wrap_i64]; omega)))
  obtain ⟨d0, hd0⟩ : ∃ d0, latQ r f + q2 + qd = d0 := ⟨_, rfl⟩
  have d00 : 2 ≤ d0 := by omega
  have d01 : d0 ≤ 11300 := by omega
  rw [hd0]
  have HC1 : Hid ((wN.setCell ⟨C, 1, none⟩ (.int .i64 d0)).heap[C]? = some (cfgO f d0 q2 r)) := hide (set_block (i := 1) (unhide hCN) _)
  have HKN := hide ((unhide HKa).trans ((Keep.of_below ((Below.refl _ _).drew)).trans ((unhide hN).2.mono (fun k h => .inl h))))
  have HRN := hide (blk_keep (unhide hN).2 (by omega) (blk_below ((Below.refl _ _).drew) (unhide HRa)))
  have HR1 : Hid ((wN.setCell ⟨C, 1, none⟩ (.int .i64 d0)).heap[w.heap.size]? = some (cfgO 0 0 0 0)) := hide (by rw [Below.heap_setCell wN ⟨C, 1, none⟩ (.int .i64 d0) w.heap.size (fun e => by simp at e; omega)]; exact unhide HRN)
  have HK1 := hide ((unhide HKN).setCell (p := ⟨C, 1, none⟩) (.inr (Nat.le_of_lt hC0)) (.int .i64 d0))
  revert HC1 HR1 HK1
  generalize wN.setCell ⟨C, 1, none⟩ (.int .i64 d0) = W1
  intro HC1 HR1 HK1
  clear HSa HKa HRa HCa hN hCN HKN HRN hfz hwb n0 n1 n2 n3 k0 k1 k2 k3 hd0 hwa
  go_wp2
  go_loopw [] (fun wr => ∃ d : Int, 2 ≤ d ∧ d ≤ 11300 ∧ Hid (wr.heap[C]? = some (cfgO f d q2 r)) ∧ Hid (wr.heap[w.heap.size]? = some (cfgO 0 0 0 0)) ∧ Hid (Keep (fun k => k = b ∨ w.heap.size ≤ k) w wr)) (fun wr => (9000 - deadAt wr C).toNat)
  case atStart => exact ⟨d0, d00, d01, HC1, HR1, HK1⟩
  case round =>
    obtain ⟨d, dl, dh, HC, HR, HK⟩ := hrel
    have hdA : Hid (deadAt wr C = d) := hide (deadAt_of (four_of (unhide HC)).2.1)
    obtain ⟨k0, k1, k2, k3⟩ := four_of (unhide HC)
    have hbd : cfgB f d q2 r = true := cfgB_iff.2 ⟨⟨by omega, by omega⟩, ⟨by omega, by omega⟩, ⟨by omega, by omega⟩, by omega, by omega⟩
    go_wp2_with fail
    refine (configOK_spec_yes f d q2 r _ hbd).mono ?_
    rintro e w2 ⟨rfl, hb2⟩
    have HC2 := hide (blk_below hb2 (unhide HC))
    have HR2 := hide (blk_below hb2 (unhide HR))
    have HK2 := hide ((unhide HK).trans (Keep.of_below hb2))
    clear hb2 k0 k1 k2 k3
    obtain ⟨k0, k1, k2, k3⟩ := four_of (unhide HC2)
    by_cases hok : cokB f d q2 r = true
    · obtain ⟨y0, y1, y2, y3⟩ := four_of (unhide HR2)
      have z0 := Joins.unfrozen_of_block (unhide HR2) 0
      have z1 := Joins.unfrozen_of_block (unhide HR2) 1
      have z2 := Joins.unfrozen_of_block (unhide HR2) 2
      have z3 := Joins.unfrozen_of_block (unhide HR2) 3
      go_wp2
      exact cfg_ret (unhide HK2) (by omega) (by omega) (by omega) (by omega) (by omega) (by omega) (by omega) (by omega) rfl (by simp [results, Try.results46, go_sem, y0, y1, y2, y3])
    · rw [Bool.not_eq_true] at hok
      by_cases h9 : d < 9000
      · have hfz := Joins.unfrozen_of_block (unhide HC2) 1
        have HC3 : Hid ((w2.setCell ⟨C, 1, none⟩ (.int .i64 (d + (1 + d / 4)))).heap[C]? = some (cfgO f (d + (1 + d / 4)) q2 r)) := hide (set_block (i := 1) (unhide HC2) _)
        have HR3 : Hid ((w2.setCell ⟨C, 1, none⟩ (.int .i64 (d + (1 + d / 4)))).heap[w.heap.size]? = some (cfgO 0 0 0 0)) := hide (by rw [Below.heap_setCell w2 ⟨C, 1, none⟩ _ w.heap.size (fun e => by simp at e; omega)]; exact unhide HR2)
        have HK3 := hide ((unhide HK2).setCell (p := ⟨C, 1, none⟩) (.inr (Nat.le_of_lt hC0)) (.int .i64 (d + (1 + d / 4))))
        have hdB : Hid (deadAt (w2.setCell ⟨C, 1, none⟩ (.int .i64 (d + (1 + d / 4)))) C = d + (1 + d / 4)) := hide (deadAt_of (four_of (unhide HC3)).2.1)
        go_wp2
        go_roundw
        case rel => exact ⟨d + (1 + d / 4), by omega, by omega, HC3, HR3, HK3⟩
        case measure => rw [unhide hdA, unhide hdB]; omega
      · obtain ⟨y0, y1, y2, y3⟩ := four_of (unhide HR2)
        have z0 := Joins.unfrozen_of_block (unhide HR2) 0
        have z1 := Joins.unfrozen_of_block (unhide HR2) 1
        have z2 := Joins.unfrozen_of_block (unhide HR2) 2
        have z3 := Joins.unfrozen_of_block (unhide HR2) 3
        go_wp2
        exact cfg_ret (unhide HK2) (by omega) (by omega) (by omega) (by omega) (by omega) (by omega) (by omega) (by omega) rfl (by simp [results, Try.results46, go_sem, y0, y1, y2, y3])

set_option maxHeartbeats 1600000 in
theorem configOf_any (ao : Option Addr) (n cap : Nat) (w : World) (hn : n ≤ 1048576) (hB : Bs w ao n) :
    Calls Try.prog 20 #[.slice ao n cap] w fun e w' => (∃ f d l r : Int, e = .returned (cfgV f d l r) ∧ 1 ≤ f ∧ f ≤ 40 ∧ 2 ≤ d ∧ d ≤ 11300 ∧ 0 ≤ l ∧ l ≤ 8 ∧ 0 ≤ r ∧ r ≤ 500) ∧ Below w.heap.size w w' := by
  have HB0 := hide (hB.below (Joins.below_alloc1 w (cfgO 0 0 0 0)))
  have HW0 := hide (Joins.below_alloc1 w (cfgO 0 0 0 0))
  have HR0 : Hid ((w.alloc (cfgO 0 0 0 0)).heap[w.heap.size]? = some (cfgO 0 0 0 0)) := hide (heap_alloc_new w _)
  clear hB
  go_enter Try.func20, Try.ntmps20
  go_wp2_with fail
  refine (source_any ao n cap _ hn (unhide HB0)).mono ?_
  rintro e w1 ⟨rfl, hs1, hb1, hz⟩
  have HR1 := hide (blk_below hb1 (unhide HR0))
  have HW1 := hide (fr (unhide HW0) hb1)
  simp only [World.size_alloc] at hs1
  have hz1 : w1.heap.size = w.heap.size + 2 := by rw [hz]; simp
  clear hb1 hz
  go_wp2_with fail
  refine (config_k _ ao n cap 0 _ (by omega) hn hs1).mono ?_
  rintro e w2 ⟨⟨f, d, l, r, rfl, b1, b2, b3, b4, b5, b6, b7, b8⟩, hk⟩
  have HR2 := hide (blk_keep hk (by simp) (unhide HR1))
  have HW2 := hide ((unhide HW1).trans (hk.below (B := w.heap.size) (by omega) (fun k hk => by rw [hk]; simp)))
  clear hk hs1
  obtain ⟨y0, y1, y2, y3⟩ := four_of (unhide HR2)
  have z0 := Joins.unfrozen_of_block (unhide HR2) 0
  have z1 := Joins.unfrozen_of_block (unhide HR2) 1
  have z2 := Joins.unfrozen_of_block (unhide HR2) 2
  have z3 := Joins.unfrozen_of_block (unhide HR2) 3
  go_wp2
  exact bodyPost_ret (v := cfgV f d l r) (by simp [results, Try.results20, go_sem, y0, y1, y2, y3]) rfl ⟨⟨f, d, l, r, rfl, b1, b2, b3, b4, b5, b6, b7, b8⟩, ((((unhide HW2).setCell (p := ⟨w.heap.size, 0, none⟩) (Nat.le_refl _) _).setCell (p := ⟨w.heap.size, 1, none⟩) (Nat.le_refl _) _).setCell (p := ⟨w.heap.size, 2, none⟩) (Nat.le_refl _) _).setCell (p := ⟨w.heap.size, 3, none⟩) (Nat.le_refl _) _⟩

end Go.Proofs.Ytgcbofhjgomjoaa
