import Derived.Test.YtlhinknmbgijeabDoorRows
import Derived.Test.YtlhinknmbgijeabDoorLDeltaPart1
import Derived.Test.YtlhinknmbgijeabDoorLDeltaPart2
import Derived.WalkKit
import Derived.WalkSpells
import Derived.BigQuiet
import Derived.Deep.QuietTactic
import Derived.Deep.RegionWith
import Derived.Test.YtlhinknmbgijeabDoorLDeltaPart9
import Derived.Test.YtlhinknmbgijeabDoorLDeltaPart10
import Derived.KernelRfl
import Derived.Deep.CutRange

/- The model's source of choices, told outright: what byte and next answer, as functions of the code, the place and the seed. -/
namespace Go.Proofs.YtlhinknmbgijeabDoor
open Go.RowKit
set_option linter.unusedVariables false

/-- The byte that comes next, and the seed behind it. -/
def srcV (cd : Nat → Int) (n a : Nat) (seed : Int) : Int := if a < n then cd a else if 3000 < a + 1 then 0 else (seed * 1103515245 + 12345) % 2147483648 / 65536 % 256
def srcN (cd : Nat → Int) (n a : Nat) (seed : Int) : Int := if a < n then (seed * 31 + cd a + 7) % 2147483648 else if 3000 < a + 1 then seed else (seed * 1103515245 + 12345) % 2147483648
/-- A slice shows just these bytes. -/
def Bx (w : World) (ao : Option Addr) (n : Nat) (cd : Nat → Int) : Prop := ∀ i, i < n → ∃ b off, ao = some ⟨b, off, none⟩ ∧ w.cell? ⟨b, off + i, none⟩ = some (.int .u8 (cd i)) ∧ 0 ≤ cd i ∧ cd i ≤ 255
theorem Bx.below {w w' : World} {ao : Option Addr} {n : Nat} {cd : Nat → Int} (h : Bx w ao n cd) (hb : Below w.heap.size w w') : Bx w' ao n cd := fun i hi => by
  obtain ⟨b, off, e, hc, h0, h1⟩ := h i hi
  exact ⟨b, off, e, (hb.cell (p := ⟨b, off + i, none⟩) (World.block_lt_of_cell? _ _ hc)).trans hc, h0, h1⟩
theorem Bx.keep {w w' : World} {b : Nat} {ao : Option Addr} {n : Nat} {cd : Nat → Int} {v : Value} {x y : Int} (hB : Bx w ao n cd) (h : w.heap[b]? = some (.cells #[v, .int .i64 x, .int .i64 y] 87 (0, 0))) (hv : ∀ z, v ≠ .int .u8 z) (hk : Keep (fun k => k = b) w w') : Bx w' ao n cd := fun i hi => by
  obtain ⟨b', off, e, hc, h0, h1⟩ := hB i hi
  refine ⟨b', off, e, ?_, h0, h1⟩
  have hne : b' ≠ b := by
    rintro rfl
    rw [Joins.cell_of_block h] at hc
    match hoff : off + i, hc with
    | 0, hc => exact hv _ (by simpa using hc)
    | 1, hc => simp at hc
    | 2, hc => simp at hc
    | k + 3, hc => simp at hc
  have hl := World.block_lt_of_cell? _ _ hc
  rw [← hc]
  unfold World.cell?
  simp only [hk.block b' hl hne]
theorem Bs.told {w : World} {ao : Option Addr} {n : Nat} (h : Bs w ao n) : ∃ cd, Bx w ao n cd := by
  have h' : ∀ i, ∃ x : Int, i < n → ∃ b off, ao = some ⟨b, off, none⟩ ∧ w.cell? ⟨b, off + i, none⟩ = some (.int .u8 x) ∧ 0 ≤ x ∧ x ≤ 255 := by
    intro i
    by_cases hi : i < n
    · obtain ⟨b, off, x, e, hc, h0, h1⟩ := h i hi
      exact ⟨x, fun _ => ⟨b, off, e, hc, h0, h1⟩⟩
    · exact ⟨0, fun k => absurd k hi⟩
  exact ⟨fun i => (h' i).choose, fun i hi => (h' i).choose_spec hi⟩
theorem Bx.some {w : World} {ao : Option Addr} {n : Nat} {cd : Nat → Int} (h : Bx w ao n cd) : Bs w ao n := fun i hi => by
  obtain ⟨b, off, e, hc, h0, h1⟩ := h i hi
  exact ⟨b, off, _, e, hc, h0, h1⟩
structure SrcX (w : World) (b : Nat) (ao : Option Addr) (n cap : Nat) (cd : Nat → Int) (a : Nat) (seed : Int) : Prop where
  blk : w.heap[b]? = some (.cells #[.slice ao n cap, .int .i64 a, .int .i64 seed] 87 (0, 0))
  bytes : Bx w ao n cd
  s0 : 0 ≤ seed
  s1 : seed < 2147483648
theorem SrcX.below {w w' : World} {b : Nat} {ao : Option Addr} {n cap a : Nat} {cd : Nat → Int} {seed : Int} (h : SrcX w b ao n cap cd a seed) (hb : Below w.heap.size w w') : SrcX w' b ao n cap cd a seed :=
  ⟨by rw [hb.block b (Array.getElem?_eq_some_iff.1 h.blk).1]; exact h.blk, h.bytes.below hb, h.s0, h.s1⟩
theorem SrcX.k {w : World} {b : Nat} {ao : Option Addr} {n cap a m : Nat} {cd : Nat → Int} {seed : Int} (h : SrcX w b ao n cap cd a seed) (hm : a ≤ m) : SrcK w b ao n cap m :=
  ⟨⟨a, seed, by omega, by omega, h.s0, h.s1, h.blk⟩, h.bytes.some⟩
theorem SrcK.x {w : World} {b : Nat} {ao : Option Addr} {n cap m : Nat} (h : SrcK w b ao n cap m) : ∃ cd a seed, a ≤ m ∧ SrcX w b ao n cap cd a seed := by
  obtain ⟨⟨x, y, c0, c1, c2, c3, c4⟩, hB⟩ := h
  obtain ⟨a, rfl⟩ := Int.eq_ofNat_of_zero_le c0
  obtain ⟨cd, hx⟩ := hB.told
  exact ⟨cd, a, y, by omega, c4, hx, c2, c3⟩
theorem SrcX.lt {w : World} {b : Nat} {ao : Option Addr} {n cap a : Nat} {cd : Nat → Int} {seed : Int} (h : SrcX w b ao n cap cd a seed) : b < w.heap.size := (Array.getElem?_eq_some_iff.1 h.blk).1

set_option maxHeartbeats 6400000 in
theorem byteX_in (b : Nat) (ao : Option Addr) (n cap a : Nat) (cd : Nat → Int) (seed : Int) (w : World) (ha' : a ≤ 1000000) (hn : n ≤ 1048576) (hlt : a < n) (hs : SrcX w b ao n cap cd a seed) :
    Calls Tryd.prog 98 #[.pointer (some ⟨b, 0, none⟩)] w fun e w' => e = .returned (.int .i64 (cd a)) ∧ SrcX w' b ao n cap cd (a + 1) ((seed * 31 + cd a + 7) % 2147483648) ∧ Keep (fun k => k = b) w w' := by
  obtain ⟨hblk, hB, h0, h1⟩ := hs
  obtain ⟨hc0, hc1, hc2, hf1, hf2⟩ := src_cells hblk
  have HBL := hide (set_block (i := 1) hblk (.int .i64 ((a : Int) + 1)))
  have HK := hide (Keep.setCell (S := fun k => k = b) (Keep.refl _ w) (p := ⟨b, 1, none⟩) rfl (.int .i64 ((a : Int) + 1)))
  have HB := hide (hB.keep hblk (fun z h => by cases h) (unhide HK))
  have hle : (a : Int) + 1 ≤ n := by omega
  generalize hx : cd a = x
  have HX := hide hx
  clear hx
  go_enter Tryd.func98, Tryd.ntmps98
  go_wp2
  clear hc0 hc1 hc2 hf1 hf2 hblk hB
  revert HBL HK HB
  generalize w.setCell ⟨b, 1, none⟩ (.int .i64 ((a : Int) + 1)) = W1
  intro HBL HK HB
  obtain ⟨hc0, hc1, hc2, hf1, hf2⟩ := src_cells (unhide HBL)
  obtain ⟨b', off, rfl, hcx, hx0, hx1⟩ := unhide HB a hlt
  rw [unhide HX] at hcx hx0 hx1
  go_quiet (fail)
  have hw1 : IntKind.i64.wrap ((a : Int) + 1 - 1) = (a : Int) := by rw [wrapI (by omega) (by omega)]; omega
  have hw2 : IntKind.i64.wrap (seed * 31) = seed * 31 := wrapI (by omega) (by omega)
  have hw3 : IntKind.i64.wrap x = x := wrapI (by omega) (by omega)
  have hw4 : IntKind.i64.wrap (seed * 31 + x) = seed * 31 + x := wrapI (by omega) (by omega)
  have hw5 : IntKind.i64.wrap (seed * 31 + x + 7) = seed * 31 + x + 7 := wrapI (by omega) (by omega)
  go_wp2
  have hs0 : 0 ≤ (seed * 31 + x + 7) % 2147483648 := by omega
  have hs1 : (seed * 31 + x + 7) % 2147483648 < 2147483648 := by omega
  go_region
  clear hc0 hc1 hc2 hf1 hf2
  have HBL2 : Hid (((W1.drewN (nq + 1)).setCell ⟨b, 2, none⟩ (.int .i64 ((seed * 31 + x + 7) % 2147483648))).heap[b]? = some (.cells #[.slice (some ⟨b', off, none⟩) n cap, .int .i64 ((a : Int) + 1), .int .i64 ((seed * 31 + x + 7) % 2147483648)] 87 (0, 0))) := hide (set_block (w := W1.drewN (nq + 1)) (i := 2) (unhide HBL) _)
  have HK2 : Hid (Keep (fun k => k = b) W1 ((W1.drewN (nq + 1)).setCell ⟨b, 2, none⟩ (.int .i64 ((seed * 31 + x + 7) % 2147483648)))) := hide (Keep.setCell (S := fun k => k = b) ((Keep.refl _ W1).drewN _) (p := ⟨b, 2, none⟩) rfl _)
  have HB2 := hide ((unhide HB).keep (unhide HBL) (fun z h => by cases h) (unhide HK2))
  revert HBL2 HK2 HB2
  generalize (W1.drewN (nq + 1)).setCell ⟨b, 2, none⟩ (.int .i64 ((seed * 31 + x + 7) % 2147483648)) = W2
  intro HBL2 HK2 HB2
  have HKK := hide ((unhide HK).trans (unhide HK2))
  clear HBL HB HK HK2 hcx
  obtain ⟨hc0, hc1, hc2, hf1, hf2⟩ := src_cells (unhide HBL2)
  obtain ⟨b2, off2, he2, hcx, hy0, hy1⟩ := unhide HB2 a hlt
  simp only [Option.some.injEq, Addr.mk.injEq, and_true] at he2
  obtain ⟨rfl, rfl⟩ := he2
  rw [unhide HX] at hcx
  go_wp2
  go_quiet (fail)
  go_wp2
  go_ret
  exact ⟨rfl, ⟨unhide HBL2, unhide HB2, hs0, hs1⟩, (unhide HKK).drewN _⟩

set_option maxRecDepth 100000 in
set_option maxHeartbeats 6400000 in
theorem byteX_out (b : Nat) (ao : Option Addr) (n cap a : Nat) (cd : Nat → Int) (seed : Int) (w : World) (ha' : a ≤ 1000000) (hn : n ≤ 1048576) (hlt : ¬ a < n) (hs : SrcX w b ao n cap cd a seed) :
    Calls Tryd.prog 98 #[.pointer (some ⟨b, 0, none⟩)] w fun e w' => e = .returned (.int .i64 (if 3000 < a + 1 then 0 else (seed * 1103515245 + 12345) % 2147483648 / 65536 % 256)) ∧ SrcX w' b ao n cap cd (a + 1) (if 3000 < a + 1 then seed else (seed * 1103515245 + 12345) % 2147483648) ∧ Keep (fun k => k = b) w w' := by
  obtain ⟨hblk, hB, h0, h1⟩ := hs
  obtain ⟨hc0, hc1, hc2, hf1, hf2⟩ := src_cells hblk
  have HBL := hide (set_block (i := 1) hblk (.int .i64 ((a : Int) + 1)))
  have HK := hide (Keep.setCell (S := fun k => k = b) (Keep.refl _ w) (p := ⟨b, 1, none⟩) rfl (.int .i64 ((a : Int) + 1)))
  have HB0 := hide hB
  have HB := hide (hB.keep hblk (fun z h => by cases h) (unhide HK))
  have HBK := hide hblk
  clear hB
  have hle : ¬ (a : Int) + 1 ≤ n := by omega
  have hw2 : IntKind.i64.wrap (seed * 1103515245) = seed * 1103515245 := wrapI (by omega) (by omega)
  have hw4 : IntKind.i64.wrap (seed * 1103515245 + 12345) = seed * 1103515245 + 12345 := wrapI (by omega) (by omega)
  have hs0 : 0 ≤ (seed * 1103515245 + 12345) % 2147483648 := by omega
  have hs1 : (seed * 1103515245 + 12345) % 2147483648 < 2147483648 := by omega
  by_cases h3 : 3000 < a + 1
  · rw [if_pos h3, if_pos h3]
    have h3i : (3000 : Int) < (a : Int) + 1 := by omega
    go_enter Tryd.func98, Tryd.ntmps98
    go_wp2
    clear hc0 hc1 hc2 hf1 hf2 hblk
    revert HBL HK HB
    generalize w.setCell ⟨b, 1, none⟩ (.int .i64 ((a : Int) + 1)) = W1
    intro HBL HK HB
    obtain ⟨hc0, hc1, hc2, hf1, hf2⟩ := src_cells (unhide HBL)
    go_quiet (fail)
    go_wp2
    go_ret
    exact ⟨rfl, ⟨unhide HBL, unhide HB, h0, h1⟩, (unhide HK).drewN _⟩
  · rw [if_neg h3, if_neg h3]
    have h3i : ¬ (3000 : Int) < (a : Int) + 1 := by omega
    go_enter Tryd.func98, Tryd.ntmps98
    go_wp2
    clear hc0 hc1 hc2 hf1 hf2 hblk
    revert HBL HK HB
    generalize w.setCell ⟨b, 1, none⟩ (.int .i64 ((a : Int) + 1)) = W1
    intro HBL HK HB
    obtain ⟨hc0, hc1, hc2, hf1, hf2⟩ := src_cells (unhide HBL)
    go_quiet (fail)
    have HS2 := hide (set_block (w := W1.drewN nq) (i := 2) (unhide HBL) (.int .i64 ((seed * 1103515245 + 12345) % 2147483648)))
    have HK2 := hide (Keep.setCell (S := fun k => k = b) ((unhide HK).drewN nq) (p := ⟨b, 2, none⟩) rfl (.int .i64 ((seed * 1103515245 + 12345) % 2147483648)))
    have HB2 := hide ((unhide HB0).keep (unhide HBK) (fun z h => by cases h) (unhide HK2))
    go_wp2
    go_ret
    exact ⟨rfl, ⟨unhide HS2, unhide HB2, hs0, hs1⟩, unhide HK2⟩

theorem byte_x (b : Nat) (ao : Option Addr) (n cap a : Nat) (cd : Nat → Int) (seed : Int) (w : World) (ha' : a ≤ 1000000) (hn : n ≤ 1048576) (hs : SrcX w b ao n cap cd a seed) :
    Calls Tryd.prog 98 #[.pointer (some ⟨b, 0, none⟩)] w fun e w' => e = .returned (.int .i64 (srcV cd n a seed)) ∧ SrcX w' b ao n cap cd (a + 1) (srcN cd n a seed) ∧ Keep (fun k => k = b) w w' := by
  by_cases hlt : a < n
  · rw [srcV, srcN, if_pos hlt, if_pos hlt]; exact byteX_in b ao n cap a cd seed w ha' hn hlt hs
  · rw [srcV, srcN, if_neg hlt, if_neg hlt]; exact byteX_out b ao n cap a cd seed w ha' hn hlt hs

set_option maxHeartbeats 1600000 in
/-- next of at most 256. -/
theorem next_x (b : Nat) (ao : Option Addr) (n cap a : Nat) (cd : Nat → Int) (seed k : Int) (w : World) (hk0 : 2 ≤ k) (hk1 : k ≤ 256) (ha' : a ≤ 1000000) (hn : n ≤ 1048576) (hs : SrcX w b ao n cap cd a seed) :
    Calls Tryd.prog 82 #[.pointer (some ⟨b, 0, none⟩), .int .i64 k] w fun e w' => e = .returned (.int .i64 (srcV cd n a seed % k)) ∧ SrcX w' b ao n cap cd (a + 1) (srcN cd n a seed) ∧ Keep (fun k => k = b) w w' := by
  have HS := hide hs
  have hv : Hid (0 ≤ srcV cd n a seed) := hide (by
    unfold srcV
    by_cases hlt : a < n
    · rw [if_pos hlt]; obtain ⟨_, _, _, _, h0, _⟩ := hs.bytes a hlt; exact h0
    · rw [if_neg hlt]; split <;> omega)
  clear hs
  have h1 : ¬ k ≤ 1 := by omega
  have hv0 := unhide hv
  obtain ⟨r, HR⟩ : ∃ r, Hid (srcV cd n a seed = r) := ⟨_, hide rfl⟩
  rw [unhide HR] at hv0 ⊢
  go_enter Tryd.func82, Tryd.ntmps82
  go_wp2_with fail
  refine (byte_x b ao n cap a cd seed _ ha' hn (unhide HS)).mono ?_
  rintro e w1 ⟨rfl, hs1, hk⟩
  have HS1 := hide hs1
  have HK1 := hide hk
  clear hs1 hk
  rw [unhide HR]
  go_wp2
  go_ret
  exact ⟨rfl, unhide HS1, unhide HK1⟩
theorem srcV_mod {cd : Nat → Int} {n a : Nat} {seed k : Int} (hk : 0 < k) : 0 ≤ srcV cd n a seed % k ∧ srcV cd n a seed % k < k := ⟨Int.emod_nonneg _ (by omega), Int.emod_lt_of_pos _ hk⟩

end Go.Proofs.YtlhinknmbgijeabDoor

/- The model's draw of a block: its words, and what follows its first statement. -/
namespace Go.Proofs.YtlhinknmbgijeabDoor
open Go.RowKit
set_option linter.unusedVariables false
set_option maxRecDepth 100000

abbrev blkV (v m b i : Int) : Value := .agg #[.int .i64 v, .int .i64 m, .int .i64 b, .int .i64 i]
abbrev blkO (v m b i : Int) : Obj := .cells #[.int .i64 v, .int .i64 m, .int .i64 b, .int .i64 i] 42 (0, 0)
abbrev twoO (x y : Int) : Obj := .cells #[.int .i64 x, .int .i64 y] 3 (0, 0)

theorem DrS.below {w W W' : World} {b : Nat} {ao : Option Addr} {n cap m : Nat} {o : Obj} (h : DrS w W b ao n cap m o) (hb : Below W.heap.size W W') : DrS w W' b ao n cap m o :=
  ⟨h.s.below hb, h.k.trans (Keep.of_below hb), blk_below hb h.r⟩
theorem cell_two {w : World} {k j : Nat} {x y : Int} (h : w.heap[k]? = some (twoO x y)) (hj : j < 2) : w.cell? ⟨k, j, none⟩ = some (.int .i64 (if j = 0 then x else y)) := by
  rw [Joins.cell_of_block h]
  rcases (show j = 0 ∨ j = 1 by omega) with rfl | rfl <;> rfl

/-- The same, the source told outright. -/
structure DrX (w W : World) (b : Nat) (ao : Option Addr) (n cap : Nat) (cd : Nat → Int) (a : Nat) (seed : Int) (o : Obj) : Prop where
  s : SrcX W b ao n cap cd a seed
  k : Keep (fun k => k = b) w W
  r : W.heap[w.heap.size]? = some o
theorem DrX.below {w W W' : World} {b : Nat} {ao : Option Addr} {n cap a : Nat} {cd : Nat → Int} {seed : Int} {o : Obj} (h : DrX w W b ao n cap cd a seed o) (hb : Below W.heap.size W W') : DrX w W' b ao n cap cd a seed o :=
  ⟨h.s.below hb, h.k.trans (Keep.of_below hb), blk_below hb h.r⟩
theorem DrX.src {w W W' : World} {b : Nat} {ao : Option Addr} {n cap a a' : Nat} {cd : Nat → Int} {seed seed' : Int} {o : Obj} (h : DrX w W b ao n cap cd a seed o) (hb : b < w.heap.size) (hs : SrcX W' b ao n cap cd a' seed') (hk : Keep (fun k => k = b) W W') : DrX w W' b ao n cap cd a' seed' o :=
  ⟨hs, h.k.trans hk, blk_keep hk (by omega) h.r⟩
abbrev Blk8 (w : World) (k : Nat) (v m b i : Int) : Prop := w.cell? ⟨k, 0, none⟩ = some (.int .i64 v) ∧ w.cell? ⟨k, 1, none⟩ = some (.int .i64 m) ∧ w.cell? ⟨k, 2, none⟩ = some (.int .i64 b) ∧ w.cell? ⟨k, 3, none⟩ = some (.int .i64 i) ∧ w.frozen? ⟨k, 0, none⟩ = false ∧ w.frozen? ⟨k, 1, none⟩ = false ∧ w.frozen? ⟨k, 2, none⟩ = false ∧ w.frozen? ⟨k, 3, none⟩ = false
theorem blk_cells {w : World} {k : Nat} {v m b i : Int} (h : w.heap[k]? = some (blkO v m b i)) : Blk8 w k v m b i :=
  ⟨by rw [Joins.cell_of_block h]; rfl, by rw [Joins.cell_of_block h]; rfl, by rw [Joins.cell_of_block h]; rfl, by rw [Joins.cell_of_block h]; rfl, Joins.unfrozen_of_block h 0, Joins.unfrozen_of_block h 1, Joins.unfrozen_of_block h 2, Joins.unfrozen_of_block h 3⟩
theorem new_at {w : World} {k : Nat} {o o' : Obj} (h : w.heap[k]? = some o) : (w.alloc o').heap[k]? = some o := blk_below (Joins.below_alloc1 w o') h
theorem new_top (w : World) (o : Obj) : (w.alloc o).heap[w.heap.size]? = some o := heap_alloc_new w o
theorem new_two (w : World) (o o' : Obj) : ((w.alloc o').alloc o).heap[w.heap.size + 1]? = some o := by
  have := heap_alloc_new (w.alloc o') o
  simp only [World.size_alloc] at this
  exact this

/-- The block lies in a variable; the source, the answer's variable. -/
structure BlkAt (w W : World) (b : Nat) (ao : Option Addr) (n cap m C : Nat) (v mb bl i : Int) : Prop where
  d : DrS w W b ao n cap m (blkO 0 0 0 0)
  c : W.heap[C]? = some (blkO v mb bl i)
  gt : w.heap.size < C
  ne : C ≠ b
theorem BlkAt.below {w W W' : World} {b n cap m C : Nat} {ao : Option Addr} {v mb bl i : Int} (h : BlkAt w W b ao n cap m C v mb bl i) (hb : Below W.heap.size W W') : BlkAt w W' b ao n cap m C v mb bl i := ⟨h.d.below hb, blk_below hb h.c, h.gt, h.ne⟩
theorem BlkAt.more {w W : World} {b n cap m C : Nat} {ao : Option Addr} {v mb bl i : Int} (h : BlkAt w W b ao n cap m C v mb bl i) (o : Obj) : BlkAt w (W.alloc o) b ao n cap m C v mb bl i := h.below (Joins.below_alloc1 _ _)
theorem DrX.d {w W : World} {b n cap a m : Nat} {ao : Option Addr} {cd : Nat → Int} {seed : Int} {o : Obj} (h : DrX w W b ao n cap cd a seed o) (hm : a ≤ m) : DrS w W b ao n cap m o := ⟨h.s.k hm, h.k, h.r⟩
theorem BlkAt.top {w W : World} {b n cap m : Nat} {ao : Option Addr} {v mb bl i : Int} (h : DrS w W b ao n cap m (blkO 0 0 0 0)) (hb : b < w.heap.size) : BlkAt w (W.alloc (blkO v mb bl i)) b ao n cap m W.heap.size v mb bl i :=
  have hg : w.heap.size < W.heap.size := blk_lt h.r
  ⟨h.below (Joins.below_alloc1 _ _), new_top _ _, hg, by omega⟩
theorem BlkAt.two {w W : World} {b n cap m : Nat} {ao : Option Addr} {v mb bl i : Int} (h : DrS w W b ao n cap m (blkO 0 0 0 0)) (hb : b < w.heap.size) (o : Obj) : BlkAt w ((W.alloc o).alloc (blkO v mb bl i)) b ao n cap m (W.heap.size + 1) v mb bl i := by
  have := BlkAt.top (v := v) (mb := mb) (bl := bl) (i := i) (h.below (Joins.below_alloc1 W o)) hb
  simp only [World.size_alloc] at this
  exact this
theorem DrS.set {w W : World} {b n cap m C : Nat} {ao : Option Addr} {o : Obj} (h : DrS w W b ao n cap m o) (h0 : ∃ m0, SrcK w b ao n cap m0) (hb : b < w.heap.size) (hC : w.heap.size < C) (j : Nat) (x : Value) : DrS w (W.setCell ⟨C, j, none⟩ x) b ao n cap m o := by
  obtain ⟨m0, h0⟩ := h0
  have hk : Keep (fun k => k = C) W (W.setCell ⟨C, j, none⟩ x) := (Keep.refl (fun k => k = C) W).setCell (p := ⟨C, j, none⟩) rfl _
  have hw := keep_new h.k hk (fun k e => .inl (by omega))
  exact ⟨h0.other h.s hw hk (by omega), hw, blk_keep hk (by omega) h.r⟩
theorem BlkAt.set {w W : World} {b n cap m C : Nat} {ao : Option Addr} {v mb bl i : Int} (h : DrS w W b ao n cap m (blkO 0 0 0 0)) (h0 : ∃ m0, SrcK w b ao n cap m0) (hb : b < w.heap.size) (hc : W.heap[C]? = some (blkO 0 0 0 0)) (hC : w.heap.size < C) :
    BlkAt w ((((W.setCell ⟨C, 0, none⟩ (.int .i64 v)).setCell ⟨C, 1, none⟩ (.int .i64 mb)).setCell ⟨C, 2, none⟩ (.int .i64 bl)).setCell ⟨C, 3, none⟩ (.int .i64 i)) b ao n cap m C v mb bl i :=
  ⟨(((h.set h0 hb hC 0 _).set h0 hb hC 1 _).set h0 hb hC 2 _).set h0 hb hC 3 _, set_block (i := 3) (set_block (i := 2) (set_block (i := 1) (set_block (i := 0) hc _) _) _) _, hC, by omega⟩
theorem BlkAt.src {w W W' : World} {b n cap m m' C : Nat} {ao : Option Addr} {v mb bl i : Int} (h : BlkAt w W b ao n cap m C v mb bl i) (hb : b < w.heap.size) (hs : SrcK W' b ao n cap m') (hk : Keep (fun k => k = b) W W') : BlkAt w W' b ao n cap m' C v mb bl i :=
  ⟨h.d.src hb hs hk, blk_keep hk h.ne h.c, h.gt, h.ne⟩
theorem BlkAt.bal {w W : World} {b n cap m C : Nat} {ao : Option Addr} {v mb bl i : Int} (h : BlkAt w W b ao n cap m C v mb bl i) (h0 : ∃ m0, SrcK w b ao n cap m0) (hb : b < w.heap.size) (x : Int) : BlkAt w (W.setCell ⟨C, 2, none⟩ (.int .i64 x)) b ao n cap m C v mb x i :=
  ⟨h.d.set h0 hb h.gt 2 _, set_block (i := 2) h.c _, h.gt, h.ne⟩
theorem BlkAt.inp {w W : World} {b n cap m C : Nat} {ao : Option Addr} {v mb bl i : Int} (h : BlkAt w W b ao n cap m C v mb bl i) (h0 : ∃ m0, SrcK w b ao n cap m0) (hb : b < w.heap.size) (x : Int) : BlkAt w (W.setCell ⟨C, 3, none⟩ (.int .i64 x)) b ao n cap m C v mb bl x :=
  ⟨h.d.set h0 hb h.gt 3 _, set_block (i := 3) h.c _, h.gt, h.ne⟩
/-- The answer is stored: four numbers. -/
theorem DrS.end4 {w W : World} {b : Nat} {ao : Option Addr} {n cap m : Nat} {o : Obj} (h : DrS w W b ao n cap m o) (hb : b < w.heap.size) (hm0 : ∃ m0, SrcK w b ao n cap m0) (u v x y : Value) :
    SrcK ((((W.setCell ⟨w.heap.size, 0, none⟩ u).setCell ⟨w.heap.size, 1, none⟩ v).setCell ⟨w.heap.size, 2, none⟩ x).setCell ⟨w.heap.size, 3, none⟩ y) b ao n cap m ∧ Keep (fun k => k = b) w ((((W.setCell ⟨w.heap.size, 0, none⟩ u).setCell ⟨w.heap.size, 1, none⟩ v).setCell ⟨w.heap.size, 2, none⟩ x).setCell ⟨w.heap.size, 3, none⟩ y) := by
  obtain ⟨m0, h1⟩ := hm0
  have hk : Keep (fun k => k = w.heap.size) W ((((W.setCell ⟨w.heap.size, 0, none⟩ u).setCell ⟨w.heap.size, 1, none⟩ v).setCell ⟨w.heap.size, 2, none⟩ x).setCell ⟨w.heap.size, 3, none⟩ y) := ((((Keep.refl (fun k => k = w.heap.size) W).setCell (p := ⟨w.heap.size, 0, none⟩) rfl _).setCell (p := ⟨w.heap.size, 1, none⟩) rfl _).setCell (p := ⟨w.heap.size, 2, none⟩) rfl _).setCell (p := ⟨w.heap.size, 3, none⟩) rfl _
  have hw := keep_new h.k hk (fun k e => .inl (by omega))
  exact ⟨h1.other h.s hw hk (by omega), hw⟩

end Go.Proofs.YtlhinknmbgijeabDoor

/- The model's draw of a block, where the second number drawn is 0. -/
namespace Go.Proofs.YtlhinknmbgijeabDoor
open Go.RowKit
set_option linter.unusedVariables false
set_option maxRecDepth 100000

set_option maxHeartbeats 12800000 in
theorem block_0 (b : Nat) (ao : Option Addr) (n cap a : Nat) (cd : Nat → Int) (seed : Int) (m : Nat) (w : World) (ha : a ≤ m) (hm : m ≤ 800000) (hn : n ≤ 1048576) (hs : SrcX w b ao n cap cd a seed) (q1 q3 : Int) (hq1 : srcV cd n a seed % 3 = q1) (hq2 : srcV cd n (a + 1) (srcN cd n a seed) % 2 = 0) (hq3 : srcV cd n (a + 1 + 1) (srcN cd n (a + 1) (srcN cd n a seed)) % 12 = q3) :
    Calls Tryd.prog 46 #[.pointer (some ⟨b, 0, none⟩)] w fun e w' => ∃ v mb bl i : Int, e = .returned (blkV v mb bl i) ∧ (0 ≤ v ∧ v ≤ 2) ∧ (0 ≤ mb ∧ mb ≤ 11) ∧ (0 ≤ bl ∧ bl ≤ mb) ∧ (0 ≤ i ∧ i ≤ 8) ∧ (bl = 0 → i = 0) ∧ SrcK w' b ao n cap (m + 15) ∧ Keep (fun j => j = b) w w' := by
  have hlt := hs.lt
  have HS : Hid (∃ m0, SrcK w b ao n cap m0) := hide ⟨m, hs.k ha⟩
  have D0 : Hid (DrX w (w.alloc (.cells #[.int .i64 0, .int .i64 0, .int .i64 0, .int .i64 0] 42)) b ao n cap cd a seed (blkO 0 0 0 0)) := hide ⟨hs.below (Joins.below_alloc1 _ _), Keep.of_below (Joins.below_alloc1 _ _), heap_alloc_new w _⟩
  have HQ1 := hide hq1
  have HQ2 := hide hq2
  have q10 : 0 ≤ q1 ∧ q1 < 3 := by rw [← hq1]; exact srcV_mod (by omega)
  have q30 : 0 ≤ q3 ∧ q3 < 12 := by rw [← hq3]; exact srcV_mod (by omega)
  have HQ3 := hide hq3
  clear hs hq1 hq2 hq3
  go_enter Tryd.func46, Tryd.ntmps46
  go_upto_region 1 with fail
  revert D0
  generalize w.alloc (.cells #[.int .i64 0, .int .i64 0, .int .i64 0, .int .i64 0] 42) = W0
  intro D0
  go_cut [3] from 4 to 13 (fun c wx => ∃ C : Nat, c = .pointer (some ⟨C, 0, none⟩) ∧ Hid (BlkAt w wx b ao n cap (m + 3) C 0 q3 0 0))
  case first =>
    have r0 : W0.cell? ⟨w.heap.size, 0, none⟩ = some (.int .i64 0) := by rw [Joins.cell_of_block (unhide D0).r]; rfl
    have n0 : W0.heap.size ≠ w.heap.size := World.new_ne W0 ⟨w.heap.size, 0, none⟩ r0
    have hb0 := (unhide D0).s.lt
    have nb0 : W0.heap.size ≠ b := by omega
    have gt0 : w.heap.size < W0.heap.size := blk_lt (unhide D0).r
    go_region_with (first
      | (go_at_call_of 82 (Value.int IntKind.i64 3); refine (next_x b ao n cap a cd seed 3 _ (by omega) (by omega) (by omega) hn ?_).mono ?_; (first | exact (unhide D0).s.below ((Below.refl _ _).drew) | exact ((unhide D0).s.below ((Below.refl _ _).drew)).below (Joins.below_alloc1 _ _)); rintro e w1 ⟨rfl, hs1, hk1⟩; rw [unhide HQ1]; have D1 := hide (DrX.src (DrX.below (unhide D0) (by first | exact (Below.refl _ _).drew | exact fr ((Below.refl _ _).drew) (Joins.below_alloc1 _ _))) hlt hs1 hk1); have hb1 := hs1.lt; have r1 : w1.cell? ⟨w.heap.size, 0, none⟩ = some (.int .i64 0) := (by rw [Joins.cell_of_block (unhide D1).r]; rfl); have n1 : w1.heap.size ≠ w.heap.size := World.new_ne w1 ⟨w.heap.size, 0, none⟩ r1; have nb1 : w1.heap.size ≠ b := (by omega); have nb1p : w1.heap.size + 1 ≠ b := (by omega); (first | (have hX : Keep (fun k => k = b) (W0.alloc (blkO 0 0 0 0)).drew w1 := (by with_reducible exact hk1); have C1 := hide (blk_keep hX nb0 (new_top W0 (blkO 0 0 0 0))); clear hX) | skip); clear hs1 hk1)
      | (go_at_call_of 82 (Value.int IntKind.i64 2); refine (next_x b ao n cap (a + 1) cd (srcN cd n a seed) 2 _ (by omega) (by omega) (by omega) hn ?_).mono ?_; (first | exact (unhide D1).s | exact (unhide D1).s.below (Joins.below_alloc1 _ _) | exact (unhide D1).s.below (Joins.below_alloc2 _ _ _)); rintro e w2 ⟨rfl, hs2, hk2⟩; rw [unhide HQ2]; have D2 := hide (DrX.src (DrX.below (unhide D1) (by first | exact Below.refl _ _ | exact Joins.below_alloc1 _ _ | exact Joins.below_alloc2 _ _ _)) hlt hs2 hk2); have hb2 := hs2.lt; have r2 : w2.cell? ⟨w.heap.size, 0, none⟩ = some (.int .i64 0) := (by rw [Joins.cell_of_block (unhide D2).r]; rfl); have n2 : w2.heap.size ≠ w.heap.size := World.new_ne w2 ⟨w.heap.size, 0, none⟩ r2; have nb2 : w2.heap.size ≠ b := (by omega); have nb2p : w2.heap.size + 1 ≠ b := (by omega); (first | (have hX : Keep (fun k => k = b) w1 w2 := (by with_reducible exact hk2); (first | (have C2 : Hid (w2.heap[W0.heap.size]? = some (blkO 0 0 0 0)) := (by with_reducible exact hide (blk_keep hX nb0 (unhide C1))); obtain ⟨c20, c21, c22, c23, f20, f21, f22, f23⟩ := blk_cells (unhide C2); have lC2 : W0.heap.size < w2.heap.size := blk_lt (unhide C2)) | skip); skip) | (have hX : Keep (fun k => k = b) (w1.alloc (twoO 0 q1)) w2 := (by with_reducible exact hk2); have G2 := hide (blk_keep hX nb1 (new_top w1 _)); have g2 : w2.cell? ⟨w1.heap.size, 0, none⟩ = some (.int .i64 0) := (by rw [Joins.cell_of_block (unhide G2)]; rfl); have lG2 : w1.heap.size < w2.heap.size := blk_lt (unhide G2); (first | (have C2 : Hid (w2.heap[W0.heap.size]? = some (blkO 0 0 0 0)) := (by with_reducible exact hide (blk_keep hX nb0 (new_at (unhide C1)))); obtain ⟨c20, c21, c22, c23, f20, f21, f22, f23⟩ := blk_cells (unhide C2); have lC2 : W0.heap.size < w2.heap.size := blk_lt (unhide C2)) | skip)) | (have hX : Keep (fun k => k = b) (w1.alloc (blkO 0 0 0 0)) w2 := (by with_reducible exact hk2); have C2 := hide (blk_keep hX nb1 (new_top w1 _)); obtain ⟨c20, c21, c22, c23, f20, f21, f22, f23⟩ := blk_cells (unhide C2); have lC2 : w1.heap.size < w2.heap.size := blk_lt (unhide C2); skip) | (have hX : Keep (fun k => k = b) ((w1.alloc (twoO 0 q1)).alloc (blkO 0 0 0 0)) w2 := (by with_reducible exact hk2); have G2 := hide (blk_keep hX nb1 (new_at (new_top w1 _))); have g2 : w2.cell? ⟨w1.heap.size, 0, none⟩ = some (.int .i64 0) := (by rw [Joins.cell_of_block (unhide G2)]; rfl); have lG2 : w1.heap.size < w2.heap.size := blk_lt (unhide G2); have C2 := hide (blk_keep hX nb1p (new_two w1 _ _)); obtain ⟨c20, c21, c22, c23, f20, f21, f22, f23⟩ := blk_cells (unhide C2); have lC2 : w1.heap.size + 1 < w2.heap.size := blk_lt (unhide C2)) | (have hX : Keep (fun k => k = b) ((w1.alloc (blkO 0 0 0 0)).alloc (twoO 0 q1)) w2 := (by with_reducible exact hk2); have C2 := hide (blk_keep hX nb1 (new_at (new_top w1 _))); obtain ⟨c20, c21, c22, c23, f20, f21, f22, f23⟩ := blk_cells (unhide C2); have lC2 : w1.heap.size < w2.heap.size := blk_lt (unhide C2); have G2 := hide (blk_keep hX nb1p (new_two w1 _ _)); have g2 : w2.cell? ⟨w1.heap.size + 1, 0, none⟩ = some (.int .i64 0) := (by rw [Joins.cell_of_block (unhide G2)]; rfl); have lG2 : w1.heap.size + 1 < w2.heap.size := blk_lt (unhide G2))); clear hs2 hk2 hX)
      | (go_at_call_of 82 (Value.int IntKind.i64 12); refine (next_x b ao n cap (a + 1 + 1) cd (srcN cd n (a + 1) (srcN cd n a seed)) 12 _ (by omega) (by omega) (by omega) hn ?_).mono ?_; (first | exact (unhide D2).s | exact (unhide D2).s.below (Joins.below_alloc1 _ _) | exact (unhide D2).s.below (Joins.below_alloc2 _ _ _)); rintro e w3 ⟨rfl, hs3, hk3⟩; rw [unhide HQ3]; have D3 := hide (DrX.src (DrX.below (unhide D2) (by first | exact Below.refl _ _ | exact Joins.below_alloc1 _ _ | exact Joins.below_alloc2 _ _ _)) hlt hs3 hk3); have hb3 := hs3.lt; have r3 : w3.cell? ⟨w.heap.size, 0, none⟩ = some (.int .i64 0) := (by rw [Joins.cell_of_block (unhide D3).r]; rfl); have n3 : w3.heap.size ≠ w.heap.size := World.new_ne w3 ⟨w.heap.size, 0, none⟩ r3; have nb3 : w3.heap.size ≠ b := (by omega); have nb3p : w3.heap.size + 1 ≠ b := (by omega); (first | (have hX : Keep (fun k => k = b) w2 w3 := (by with_reducible exact hk3); (first | (have C3 : Hid (w3.heap[W0.heap.size]? = some (blkO 0 0 0 0)) := (by with_reducible exact hide (blk_keep hX nb0 (unhide C2))); obtain ⟨c30, c31, c32, c33, f30, f31, f32, f33⟩ := blk_cells (unhide C3); have lC3 : W0.heap.size < w3.heap.size := blk_lt (unhide C3)) | (have C3 : Hid (w3.heap[w1.heap.size]? = some (blkO 0 0 0 0)) := (by with_reducible exact hide (blk_keep hX nb1 (unhide C2))); obtain ⟨c30, c31, c32, c33, f30, f31, f32, f33⟩ := blk_cells (unhide C3); have lC3 : w1.heap.size < w3.heap.size := blk_lt (unhide C3)) | (have C3 : Hid (w3.heap[w1.heap.size + 1]? = some (blkO 0 0 0 0)) := (by with_reducible exact hide (blk_keep hX nb1p (unhide C2))); obtain ⟨c30, c31, c32, c33, f30, f31, f32, f33⟩ := blk_cells (unhide C3); have lC3 : w1.heap.size + 1 < w3.heap.size := blk_lt (unhide C3)) | skip); (first | (have G3 : Hid (w3.heap[w1.heap.size]? = some (twoO 0 q1)) := (by with_reducible exact hide (blk_keep hX nb1 (unhide G2))); have g3 : w3.cell? ⟨w1.heap.size, 0, none⟩ = some (.int .i64 0) := (by rw [Joins.cell_of_block (unhide G3)]; rfl); have lG3 : w1.heap.size < w3.heap.size := blk_lt (unhide G3)) | (have G3 : Hid (w3.heap[w1.heap.size + 1]? = some (twoO 0 q1)) := (by with_reducible exact hide (blk_keep hX nb1p (unhide G2))); have g3 : w3.cell? ⟨w1.heap.size + 1, 0, none⟩ = some (.int .i64 0) := (by rw [Joins.cell_of_block (unhide G3)]; rfl); have lG3 : w1.heap.size + 1 < w3.heap.size := blk_lt (unhide G3)) | skip)) | (have hX : Keep (fun k => k = b) (w2.alloc (twoO 0 q1)) w3 := (by with_reducible exact hk3); have G3 := hide (blk_keep hX nb2 (new_top w2 _)); have g3 : w3.cell? ⟨w2.heap.size, 0, none⟩ = some (.int .i64 0) := (by rw [Joins.cell_of_block (unhide G3)]; rfl); have lG3 : w2.heap.size < w3.heap.size := blk_lt (unhide G3); (first | (have C3 : Hid (w3.heap[W0.heap.size]? = some (blkO 0 0 0 0)) := (by with_reducible exact hide (blk_keep hX nb0 (new_at (unhide C2)))); obtain ⟨c30, c31, c32, c33, f30, f31, f32, f33⟩ := blk_cells (unhide C3); have lC3 : W0.heap.size < w3.heap.size := blk_lt (unhide C3)) | (have C3 : Hid (w3.heap[w1.heap.size]? = some (blkO 0 0 0 0)) := (by with_reducible exact hide (blk_keep hX nb1 (new_at (unhide C2)))); obtain ⟨c30, c31, c32, c33, f30, f31, f32, f33⟩ := blk_cells (unhide C3); have lC3 : w1.heap.size < w3.heap.size := blk_lt (unhide C3)) | (have C3 : Hid (w3.heap[w1.heap.size + 1]? = some (blkO 0 0 0 0)) := (by with_reducible exact hide (blk_keep hX nb1p (new_at (unhide C2)))); obtain ⟨c30, c31, c32, c33, f30, f31, f32, f33⟩ := blk_cells (unhide C3); have lC3 : w1.heap.size + 1 < w3.heap.size := blk_lt (unhide C3)) | skip)) | (have hX : Keep (fun k => k = b) (w2.alloc (blkO 0 0 0 0)) w3 := (by with_reducible exact hk3); have C3 := hide (blk_keep hX nb2 (new_top w2 _)); obtain ⟨c30, c31, c32, c33, f30, f31, f32, f33⟩ := blk_cells (unhide C3); have lC3 : w2.heap.size < w3.heap.size := blk_lt (unhide C3); (first | (have G3 : Hid (w3.heap[w1.heap.size]? = some (twoO 0 q1)) := (by with_reducible exact hide (blk_keep hX nb1 (new_at (unhide G2)))); have g3 : w3.cell? ⟨w1.heap.size, 0, none⟩ = some (.int .i64 0) := (by rw [Joins.cell_of_block (unhide G3)]; rfl); have lG3 : w1.heap.size < w3.heap.size := blk_lt (unhide G3)) | (have G3 : Hid (w3.heap[w1.heap.size + 1]? = some (twoO 0 q1)) := (by with_reducible exact hide (blk_keep hX nb1p (new_at (unhide G2)))); have g3 : w3.cell? ⟨w1.heap.size + 1, 0, none⟩ = some (.int .i64 0) := (by rw [Joins.cell_of_block (unhide G3)]; rfl); have lG3 : w1.heap.size + 1 < w3.heap.size := blk_lt (unhide G3)) | skip)) | (have hX : Keep (fun k => k = b) ((w2.alloc (twoO 0 q1)).alloc (blkO 0 0 0 0)) w3 := (by with_reducible exact hk3); have G3 := hide (blk_keep hX nb2 (new_at (new_top w2 _))); have g3 : w3.cell? ⟨w2.heap.size, 0, none⟩ = some (.int .i64 0) := (by rw [Joins.cell_of_block (unhide G3)]; rfl); have lG3 : w2.heap.size < w3.heap.size := blk_lt (unhide G3); have C3 := hide (blk_keep hX nb2p (new_two w2 _ _)); obtain ⟨c30, c31, c32, c33, f30, f31, f32, f33⟩ := blk_cells (unhide C3); have lC3 : w2.heap.size + 1 < w3.heap.size := blk_lt (unhide C3)) | (have hX : Keep (fun k => k = b) ((w2.alloc (blkO 0 0 0 0)).alloc (twoO 0 q1)) w3 := (by with_reducible exact hk3); have C3 := hide (blk_keep hX nb2 (new_at (new_top w2 _))); obtain ⟨c30, c31, c32, c33, f30, f31, f32, f33⟩ := blk_cells (unhide C3); have lC3 : w2.heap.size < w3.heap.size := blk_lt (unhide C3); have G3 := hide (blk_keep hX nb2p (new_two w2 _ _)); have g3 : w3.cell? ⟨w2.heap.size + 1, 0, none⟩ = some (.int .i64 0) := (by rw [Joins.cell_of_block (unhide G3)]; rfl); have lG3 : w2.heap.size + 1 < w3.heap.size := blk_lt (unhide G3))); clear hs3 hk3 hX))
    all_goals
      have gt1 : w.heap.size < w1.heap.size := blk_lt (unhide D1).r
      have gt2 : w.heap.size < w2.heap.size := blk_lt (unhide D2).r
      have S3 := (unhide D3).d (show a + 1 + 1 + 1 ≤ m + 3 by omega)
      go_wp2_with fail
      go_meet
      first
        | (have E9 := hide (BlkAt.top (v := 0) (mb := q3) (bl := 0) (i := 0) S3 hlt); with_reducible exact ⟨_, rfl, E9⟩)
        | (have E9 := hide (BlkAt.two (v := 0) (mb := q3) (bl := 0) (i := 0) S3 hlt (twoO 0 q1)); with_reducible exact ⟨_, rfl, E9⟩)
        | (have E9 := hide ((BlkAt.top (v := 0) (mb := q3) (bl := 0) (i := 0) S3 hlt).more (twoO 0 q1)); with_reducible exact ⟨_, rfl, E9⟩)
        | (have E9 := hide (BlkAt.set (v := 0) (mb := q3) (bl := 0) (i := 0) S3 (unhide HS) hlt (unhide C3) (by first | exact gt0 | exact gt1 | exact gt2 | omega)); with_reducible exact ⟨_, rfl, E9⟩)
        | (have E9 := hide ((BlkAt.set (v := 0) (mb := q3) (bl := 0) (i := 0) S3 (unhide HS) hlt (unhide C3) (by first | exact gt0 | exact gt1 | exact gt2 | omega)).more (twoO 0 q1)); with_reducible exact ⟨_, rfl, E9⟩)
  case rest =>
    obtain ⟨C, rfl, E0⟩ := hcut
    clear D0 HQ1 HQ2 HQ3
    obtain ⟨x0, x1, x2, x3, y0, y1, y2, y3⟩ := blk_cells (unhide E0).c
    go_wp2_with fail
    refine (next_k b ao n cap (m + 3) (q3 + 1) _ (by omega) (by omega) (by omega) hn (unhide E0).d.s).mono ?_
    rintro e w5 ⟨bl, rfl, bl0, bl1, hs5, hk5⟩
    have E1 := hide ((unhide E0).src hlt hs5 hk5)
    clear hs5 hk5 E0 x0 x1 x2 x3 y0 y1 y2 y3
    obtain ⟨x0, x1, x2, x3, y0, y1, y2, y3⟩ := blk_cells (unhide E1).c
    have E2 := hide ((unhide E1).bal (unhide HS) hlt bl)
    by_cases hbl : 0 < bl
    · go_wp2_with fail
      revert E2
      generalize w5.setCell ⟨C, 2, none⟩ (.int .i64 bl) = W6
      intro E2
      refine (next_k b ao n cap (m + 3 + 3) 9 _ (by omega) (by omega) (by omega) hn (unhide E2).d.s).mono ?_
      rintro e w7 ⟨ip, rfl, ip0, ip1, hs7, hk7⟩
      have E3 := hide ((unhide E2).src hlt hs7 hk7)
      clear hs7 hk7 E1 E2 x0 x1 x2 x3 y0 y1 y2 y3
      obtain ⟨x0, x1, x2, x3, y0, y1, y2, y3⟩ := blk_cells (unhide E3).c
      have E4 := hide ((unhide E3).inp (unhide HS) hlt ip)
      obtain ⟨c0, c1, c2, c3, f0, f1, f2, f3⟩ := blk_cells (unhide E3).d.r
      obtain ⟨d0, d1, d2, d3, g0, g1, g2, g3⟩ := blk_cells (unhide E4).d.r
      obtain ⟨u0, u1, u2, u3, v0, v1, v2, v3⟩ := blk_cells (unhide E4).c
      have hne : C ≠ w.heap.size := by have := (unhide E4).gt; omega
      have hne' := hne.symm
      have HE := hide (fun p q r t => DrS.end4 (unhide E4).d hlt (unhide HS) p q r t)
      go_wp2
      exact bodyPost_ret (v := blkV 0 q3 bl ip) (by simp [results, Tryd.results46, go_sem, *]) rfl ⟨0, q3, bl, ip, rfl, by omega, by omega, by omega, by omega, by omega, (unhide HE _ _ _ _).1.more (by omega), (unhide HE _ _ _ _).2⟩
    · have hb0 : bl = 0 := by omega
      subst hb0
      obtain ⟨c0, c1, c2, c3, f0, f1, f2, f3⟩ := blk_cells (unhide E1).d.r
      have hne : C ≠ w.heap.size := by have := (unhide E2).gt; omega
      have hne' := hne.symm
      have HE := hide (fun p q r t => DrS.end4 (unhide E2).d hlt (unhide HS) p q r t)
      go_wp2
      exact bodyPost_ret (v := blkV 0 q3 0 0) (by simp [results, Tryd.results46, go_sem, *]) rfl ⟨0, q3, 0, 0, rfl, by omega, by omega, by omega, by omega, fun _ => rfl, (unhide HE _ _ _ _).1.more (by omega), (unhide HE _ _ _ _).2⟩

end Go.Proofs.YtlhinknmbgijeabDoor

/- The model's draw of a block, where the second number drawn is 1. -/
namespace Go.Proofs.YtlhinknmbgijeabDoor
open Go.RowKit
set_option linter.unusedVariables false
set_option maxRecDepth 100000

set_option maxHeartbeats 12800000 in
theorem block_1 (b : Nat) (ao : Option Addr) (n cap a : Nat) (cd : Nat → Int) (seed : Int) (m : Nat) (w : World) (ha : a ≤ m) (hm : m ≤ 800000) (hn : n ≤ 1048576) (hs : SrcX w b ao n cap cd a seed) (q1 q3 : Int) (hq1 : srcV cd n a seed % 3 = q1) (hq2 : srcV cd n (a + 1) (srcN cd n a seed) % 2 = 1) (hq3 : srcV cd n (a + 1 + 1) (srcN cd n (a + 1) (srcN cd n a seed)) % 12 = q3) :
    Calls Tryd.prog 46 #[.pointer (some ⟨b, 0, none⟩)] w fun e w' => ∃ v mb bl i : Int, e = .returned (blkV v mb bl i) ∧ (0 ≤ v ∧ v ≤ 2) ∧ (0 ≤ mb ∧ mb ≤ 11) ∧ (0 ≤ bl ∧ bl ≤ mb) ∧ (0 ≤ i ∧ i ≤ 8) ∧ (bl = 0 → i = 0) ∧ SrcK w' b ao n cap (m + 15) ∧ Keep (fun j => j = b) w w' := by
  have hlt := hs.lt
  have HS : Hid (∃ m0, SrcK w b ao n cap m0) := hide ⟨m, hs.k ha⟩
  have D0 : Hid (DrX w (w.alloc (.cells #[.int .i64 0, .int .i64 0, .int .i64 0, .int .i64 0] 42)) b ao n cap cd a seed (blkO 0 0 0 0)) := hide ⟨hs.below (Joins.below_alloc1 _ _), Keep.of_below (Joins.below_alloc1 _ _), heap_alloc_new w _⟩
  have HQ1 := hide hq1
  have HQ2 := hide hq2
  have q10 : 0 ≤ q1 ∧ q1 < 3 := by rw [← hq1]; exact srcV_mod (by omega)
  have q30 : 0 ≤ q3 ∧ q3 < 12 := by rw [← hq3]; exact srcV_mod (by omega)
  have HQ3 := hide hq3
  clear hs hq1 hq2 hq3
  go_enter Tryd.func46, Tryd.ntmps46
  go_upto_region 1 with fail
  revert D0
  generalize w.alloc (.cells #[.int .i64 0, .int .i64 0, .int .i64 0, .int .i64 0] 42) = W0
  intro D0
  go_cut [3] from 4 to 13 (fun c wx => ∃ C : Nat, c = .pointer (some ⟨C, 0, none⟩) ∧ Hid (BlkAt w wx b ao n cap (m + 3) C q1 q3 0 0))
  case first =>
    have r0 : W0.cell? ⟨w.heap.size, 0, none⟩ = some (.int .i64 0) := by rw [Joins.cell_of_block (unhide D0).r]; rfl
    have n0 : W0.heap.size ≠ w.heap.size := World.new_ne W0 ⟨w.heap.size, 0, none⟩ r0
    have hb0 := (unhide D0).s.lt
    have nb0 : W0.heap.size ≠ b := by omega
    have gt0 : w.heap.size < W0.heap.size := blk_lt (unhide D0).r
    go_region_with (first
      | (go_at_call_of 82 (Value.int IntKind.i64 3); refine (next_x b ao n cap a cd seed 3 _ (by omega) (by omega) (by omega) hn ?_).mono ?_; (first | exact (unhide D0).s.below ((Below.refl _ _).drew) | exact ((unhide D0).s.below ((Below.refl _ _).drew)).below (Joins.below_alloc1 _ _)); rintro e w1 ⟨rfl, hs1, hk1⟩; rw [unhide HQ1]; have D1 := hide (DrX.src (DrX.below (unhide D0) (by first | exact (Below.refl _ _).drew | exact fr ((Below.refl _ _).drew) (Joins.below_alloc1 _ _))) hlt hs1 hk1); have hb1 := hs1.lt; have r1 : w1.cell? ⟨w.heap.size, 0, none⟩ = some (.int .i64 0) := (by rw [Joins.cell_of_block (unhide D1).r]; rfl); have n1 : w1.heap.size ≠ w.heap.size := World.new_ne w1 ⟨w.heap.size, 0, none⟩ r1; have nb1 : w1.heap.size ≠ b := (by omega); have nb1p : w1.heap.size + 1 ≠ b := (by omega); (first | (have hX : Keep (fun k => k = b) (W0.alloc (blkO 0 0 0 0)).drew w1 := (by with_reducible exact hk1); have C1 := hide (blk_keep hX nb0 (new_top W0 (blkO 0 0 0 0))); clear hX) | skip); clear hs1 hk1)
      | (go_at_call_of 82 (Value.int IntKind.i64 2); refine (next_x b ao n cap (a + 1) cd (srcN cd n a seed) 2 _ (by omega) (by omega) (by omega) hn ?_).mono ?_; (first | exact (unhide D1).s | exact (unhide D1).s.below (Joins.below_alloc1 _ _) | exact (unhide D1).s.below (Joins.below_alloc2 _ _ _)); rintro e w2 ⟨rfl, hs2, hk2⟩; rw [unhide HQ2]; have D2 := hide (DrX.src (DrX.below (unhide D1) (by first | exact Below.refl _ _ | exact Joins.below_alloc1 _ _ | exact Joins.below_alloc2 _ _ _)) hlt hs2 hk2); have hb2 := hs2.lt; have r2 : w2.cell? ⟨w.heap.size, 0, none⟩ = some (.int .i64 0) := (by rw [Joins.cell_of_block (unhide D2).r]; rfl); have n2 : w2.heap.size ≠ w.heap.size := World.new_ne w2 ⟨w.heap.size, 0, none⟩ r2; have nb2 : w2.heap.size ≠ b := (by omega); have nb2p : w2.heap.size + 1 ≠ b := (by omega); (first | (have hX : Keep (fun k => k = b) w1 w2 := (by with_reducible exact hk2); (first | (have C2 : Hid (w2.heap[W0.heap.size]? = some (blkO 0 0 0 0)) := (by with_reducible exact hide (blk_keep hX nb0 (unhide C1))); obtain ⟨c20, c21, c22, c23, f20, f21, f22, f23⟩ := blk_cells (unhide C2); have lC2 : W0.heap.size < w2.heap.size := blk_lt (unhide C2)) | skip); skip) | (have hX : Keep (fun k => k = b) (w1.alloc (twoO 0 q1)) w2 := (by with_reducible exact hk2); have G2 := hide (blk_keep hX nb1 (new_top w1 _)); have g2 : w2.cell? ⟨w1.heap.size, 1, none⟩ = some (.int .i64 q1) := (by rw [Joins.cell_of_block (unhide G2)]; rfl); have lG2 : w1.heap.size < w2.heap.size := blk_lt (unhide G2); (first | (have C2 : Hid (w2.heap[W0.heap.size]? = some (blkO 0 0 0 0)) := (by with_reducible exact hide (blk_keep hX nb0 (new_at (unhide C1)))); obtain ⟨c20, c21, c22, c23, f20, f21, f22, f23⟩ := blk_cells (unhide C2); have lC2 : W0.heap.size < w2.heap.size := blk_lt (unhide C2)) | skip)) | (have hX : Keep (fun k => k = b) (w1.alloc (blkO 0 0 0 0)) w2 := (by with_reducible exact hk2); have C2 := hide (blk_keep hX nb1 (new_top w1 _)); obtain ⟨c20, c21, c22, c23, f20, f21, f22, f23⟩ := blk_cells (unhide C2); have lC2 : w1.heap.size < w2.heap.size := blk_lt (unhide C2); skip) | (have hX : Keep (fun k => k = b) ((w1.alloc (twoO 0 q1)).alloc (blkO 0 0 0 0)) w2 := (by with_reducible exact hk2); have G2 := hide (blk_keep hX nb1 (new_at (new_top w1 _))); have g2 : w2.cell? ⟨w1.heap.size, 1, none⟩ = some (.int .i64 q1) := (by rw [Joins.cell_of_block (unhide G2)]; rfl); have lG2 : w1.heap.size < w2.heap.size := blk_lt (unhide G2); have C2 := hide (blk_keep hX nb1p (new_two w1 _ _)); obtain ⟨c20, c21, c22, c23, f20, f21, f22, f23⟩ := blk_cells (unhide C2); have lC2 : w1.heap.size + 1 < w2.heap.size := blk_lt (unhide C2)) | (have hX : Keep (fun k => k = b) ((w1.alloc (blkO 0 0 0 0)).alloc (twoO 0 q1)) w2 := (by with_reducible exact hk2); have C2 := hide (blk_keep hX nb1 (new_at (new_top w1 _))); obtain ⟨c20, c21, c22, c23, f20, f21, f22, f23⟩ := blk_cells (unhide C2); have lC2 : w1.heap.size < w2.heap.size := blk_lt (unhide C2); have G2 := hide (blk_keep hX nb1p (new_two w1 _ _)); have g2 : w2.cell? ⟨w1.heap.size + 1, 1, none⟩ = some (.int .i64 q1) := (by rw [Joins.cell_of_block (unhide G2)]; rfl); have lG2 : w1.heap.size + 1 < w2.heap.size := blk_lt (unhide G2))); clear hs2 hk2 hX)
      | (go_at_call_of 82 (Value.int IntKind.i64 12); refine (next_x b ao n cap (a + 1 + 1) cd (srcN cd n (a + 1) (srcN cd n a seed)) 12 _ (by omega) (by omega) (by omega) hn ?_).mono ?_; (first | exact (unhide D2).s | exact (unhide D2).s.below (Joins.below_alloc1 _ _) | exact (unhide D2).s.below (Joins.below_alloc2 _ _ _)); rintro e w3 ⟨rfl, hs3, hk3⟩; rw [unhide HQ3]; have D3 := hide (DrX.src (DrX.below (unhide D2) (by first | exact Below.refl _ _ | exact Joins.below_alloc1 _ _ | exact Joins.below_alloc2 _ _ _)) hlt hs3 hk3); have hb3 := hs3.lt; have r3 : w3.cell? ⟨w.heap.size, 0, none⟩ = some (.int .i64 0) := (by rw [Joins.cell_of_block (unhide D3).r]; rfl); have n3 : w3.heap.size ≠ w.heap.size := World.new_ne w3 ⟨w.heap.size, 0, none⟩ r3; have nb3 : w3.heap.size ≠ b := (by omega); have nb3p : w3.heap.size + 1 ≠ b := (by omega); (first | (have hX : Keep (fun k => k = b) w2 w3 := (by with_reducible exact hk3); (first | (have C3 : Hid (w3.heap[W0.heap.size]? = some (blkO 0 0 0 0)) := (by with_reducible exact hide (blk_keep hX nb0 (unhide C2))); obtain ⟨c30, c31, c32, c33, f30, f31, f32, f33⟩ := blk_cells (unhide C3); have lC3 : W0.heap.size < w3.heap.size := blk_lt (unhide C3)) | (have C3 : Hid (w3.heap[w1.heap.size]? = some (blkO 0 0 0 0)) := (by with_reducible exact hide (blk_keep hX nb1 (unhide C2))); obtain ⟨c30, c31, c32, c33, f30, f31, f32, f33⟩ := blk_cells (unhide C3); have lC3 : w1.heap.size < w3.heap.size := blk_lt (unhide C3)) | (have C3 : Hid (w3.heap[w1.heap.size + 1]? = some (blkO 0 0 0 0)) := (by with_reducible exact hide (blk_keep hX nb1p (unhide C2))); obtain ⟨c30, c31, c32, c33, f30, f31, f32, f33⟩ := blk_cells (unhide C3); have lC3 : w1.heap.size + 1 < w3.heap.size := blk_lt (unhide C3)) | skip); (first | (have G3 : Hid (w3.heap[w1.heap.size]? = some (twoO 0 q1)) := (by with_reducible exact hide (blk_keep hX nb1 (unhide G2))); have g3 : w3.cell? ⟨w1.heap.size, 1, none⟩ = some (.int .i64 q1) := (by rw [Joins.cell_of_block (unhide G3)]; rfl); have lG3 : w1.heap.size < w3.heap.size := blk_lt (unhide G3)) | (have G3 : Hid (w3.heap[w1.heap.size + 1]? = some (twoO 0 q1)) := (by with_reducible exact hide (blk_keep hX nb1p (unhide G2))); have g3 : w3.cell? ⟨w1.heap.size + 1, 1, none⟩ = some (.int .i64 q1) := (by rw [Joins.cell_of_block (unhide G3)]; rfl); have lG3 : w1.heap.size + 1 < w3.heap.size := blk_lt (unhide G3)) | skip)) | (have hX : Keep (fun k => k = b) (w2.alloc (twoO 0 q1)) w3 := (by with_reducible exact hk3); have G3 := hide (blk_keep hX nb2 (new_top w2 _)); have g3 : w3.cell? ⟨w2.heap.size, 1, none⟩ = some (.int .i64 q1) := (by rw [Joins.cell_of_block (unhide G3)]; rfl); have lG3 : w2.heap.size < w3.heap.size := blk_lt (unhide G3); (first | (have C3 : Hid (w3.heap[W0.heap.size]? = some (blkO 0 0 0 0)) := (by with_reducible exact hide (blk_keep hX nb0 (new_at (unhide C2)))); obtain ⟨c30, c31, c32, c33, f30, f31, f32, f33⟩ := blk_cells (unhide C3); have lC3 : W0.heap.size < w3.heap.size := blk_lt (unhide C3)) | (have C3 : Hid (w3.heap[w1.heap.size]? = some (blkO 0 0 0 0)) := (by with_reducible exact hide (blk_keep hX nb1 (new_at (unhide C2)))); obtain ⟨c30, c31, c32, c33, f30, f31, f32, f33⟩ := blk_cells (unhide C3); have lC3 : w1.heap.size < w3.heap.size := blk_lt (unhide C3)) | (have C3 : Hid (w3.heap[w1.heap.size + 1]? = some (blkO 0 0 0 0)) := (by with_reducible exact hide (blk_keep hX nb1p (new_at (unhide C2)))); obtain ⟨c30, c31, c32, c33, f30, f31, f32, f33⟩ := blk_cells (unhide C3); have lC3 : w1.heap.size + 1 < w3.heap.size := blk_lt (unhide C3)) | skip)) | (have hX : Keep (fun k => k = b) (w2.alloc (blkO 0 0 0 0)) w3 := (by with_reducible exact hk3); have C3 := hide (blk_keep hX nb2 (new_top w2 _)); obtain ⟨c30, c31, c32, c33, f30, f31, f32, f33⟩ := blk_cells (unhide C3); have lC3 : w2.heap.size < w3.heap.size := blk_lt (unhide C3); (first | (have G3 : Hid (w3.heap[w1.heap.size]? = some (twoO 0 q1)) := (by with_reducible exact hide (blk_keep hX nb1 (new_at (unhide G2)))); have g3 : w3.cell? ⟨w1.heap.size, 1, none⟩ = some (.int .i64 q1) := (by rw [Joins.cell_of_block (unhide G3)]; rfl); have lG3 : w1.heap.size < w3.heap.size := blk_lt (unhide G3)) | (have G3 : Hid (w3.heap[w1.heap.size + 1]? = some (twoO 0 q1)) := (by with_reducible exact hide (blk_keep hX nb1p (new_at (unhide G2)))); have g3 : w3.cell? ⟨w1.heap.size + 1, 1, none⟩ = some (.int .i64 q1) := (by rw [Joins.cell_of_block (unhide G3)]; rfl); have lG3 : w1.heap.size + 1 < w3.heap.size := blk_lt (unhide G3)) | skip)) | (have hX : Keep (fun k => k = b) ((w2.alloc (twoO 0 q1)).alloc (blkO 0 0 0 0)) w3 := (by with_reducible exact hk3); have G3 := hide (blk_keep hX nb2 (new_at (new_top w2 _))); have g3 : w3.cell? ⟨w2.heap.size, 1, none⟩ = some (.int .i64 q1) := (by rw [Joins.cell_of_block (unhide G3)]; rfl); have lG3 : w2.heap.size < w3.heap.size := blk_lt (unhide G3); have C3 := hide (blk_keep hX nb2p (new_two w2 _ _)); obtain ⟨c30, c31, c32, c33, f30, f31, f32, f33⟩ := blk_cells (unhide C3); have lC3 : w2.heap.size + 1 < w3.heap.size := blk_lt (unhide C3)) | (have hX : Keep (fun k => k = b) ((w2.alloc (blkO 0 0 0 0)).alloc (twoO 0 q1)) w3 := (by with_reducible exact hk3); have C3 := hide (blk_keep hX nb2 (new_at (new_top w2 _))); obtain ⟨c30, c31, c32, c33, f30, f31, f32, f33⟩ := blk_cells (unhide C3); have lC3 : w2.heap.size < w3.heap.size := blk_lt (unhide C3); have G3 := hide (blk_keep hX nb2p (new_two w2 _ _)); have g3 : w3.cell? ⟨w2.heap.size + 1, 1, none⟩ = some (.int .i64 q1) := (by rw [Joins.cell_of_block (unhide G3)]; rfl); have lG3 : w2.heap.size + 1 < w3.heap.size := blk_lt (unhide G3))); clear hs3 hk3 hX))
    all_goals
      have gt1 : w.heap.size < w1.heap.size := blk_lt (unhide D1).r
      have gt2 : w.heap.size < w2.heap.size := blk_lt (unhide D2).r
      have S3 := (unhide D3).d (show a + 1 + 1 + 1 ≤ m + 3 by omega)
      go_wp2_with fail
      go_meet
      first
        | (have E9 := hide (BlkAt.top (v := q1) (mb := q3) (bl := 0) (i := 0) S3 hlt); with_reducible exact ⟨_, rfl, E9⟩)
        | (have E9 := hide (BlkAt.two (v := q1) (mb := q3) (bl := 0) (i := 0) S3 hlt (twoO 0 q1)); with_reducible exact ⟨_, rfl, E9⟩)
        | (have E9 := hide ((BlkAt.top (v := q1) (mb := q3) (bl := 0) (i := 0) S3 hlt).more (twoO 0 q1)); with_reducible exact ⟨_, rfl, E9⟩)
        | (have E9 := hide (BlkAt.set (v := q1) (mb := q3) (bl := 0) (i := 0) S3 (unhide HS) hlt (unhide C3) (by first | exact gt0 | exact gt1 | exact gt2 | omega)); with_reducible exact ⟨_, rfl, E9⟩)
        | (have E9 := hide ((BlkAt.set (v := q1) (mb := q3) (bl := 0) (i := 0) S3 (unhide HS) hlt (unhide C3) (by first | exact gt0 | exact gt1 | exact gt2 | omega)).more (twoO 0 q1)); with_reducible exact ⟨_, rfl, E9⟩)
  case rest =>
    obtain ⟨C, rfl, E0⟩ := hcut
    clear D0 HQ1 HQ2 HQ3
    obtain ⟨x0, x1, x2, x3, y0, y1, y2, y3⟩ := blk_cells (unhide E0).c
    go_wp2_with fail
    refine (next_k b ao n cap (m + 3) (q3 + 1) _ (by omega) (by omega) (by omega) hn (unhide E0).d.s).mono ?_
    rintro e w5 ⟨bl, rfl, bl0, bl1, hs5, hk5⟩
    have E1 := hide ((unhide E0).src hlt hs5 hk5)
    clear hs5 hk5 E0 x0 x1 x2 x3 y0 y1 y2 y3
    obtain ⟨x0, x1, x2, x3, y0, y1, y2, y3⟩ := blk_cells (unhide E1).c
    have E2 := hide ((unhide E1).bal (unhide HS) hlt bl)
    by_cases hbl : 0 < bl
    · go_wp2_with fail
      revert E2
      generalize w5.setCell ⟨C, 2, none⟩ (.int .i64 bl) = W6
      intro E2
      refine (next_k b ao n cap (m + 3 + 3) 9 _ (by omega) (by omega) (by omega) hn (unhide E2).d.s).mono ?_
      rintro e w7 ⟨ip, rfl, ip0, ip1, hs7, hk7⟩
      have E3 := hide ((unhide E2).src hlt hs7 hk7)
      clear hs7 hk7 E1 E2 x0 x1 x2 x3 y0 y1 y2 y3
      obtain ⟨x0, x1, x2, x3, y0, y1, y2, y3⟩ := blk_cells (unhide E3).c
      have E4 := hide ((unhide E3).inp (unhide HS) hlt ip)
      obtain ⟨c0, c1, c2, c3, f0, f1, f2, f3⟩ := blk_cells (unhide E3).d.r
      obtain ⟨d0, d1, d2, d3, g0, g1, g2, g3⟩ := blk_cells (unhide E4).d.r
      obtain ⟨u0, u1, u2, u3, v0, v1, v2, v3⟩ := blk_cells (unhide E4).c
      have hne : C ≠ w.heap.size := by have := (unhide E4).gt; omega
      have hne' := hne.symm
      have HE := hide (fun p q r t => DrS.end4 (unhide E4).d hlt (unhide HS) p q r t)
      go_wp2
      exact bodyPost_ret (v := blkV q1 q3 bl ip) (by simp [results, Tryd.results46, go_sem, *]) rfl ⟨q1, q3, bl, ip, rfl, by omega, by omega, by omega, by omega, by omega, (unhide HE _ _ _ _).1.more (by omega), (unhide HE _ _ _ _).2⟩
    · have hb0 : bl = 0 := by omega
      subst hb0
      obtain ⟨c0, c1, c2, c3, f0, f1, f2, f3⟩ := blk_cells (unhide E1).d.r
      have hne : C ≠ w.heap.size := by have := (unhide E2).gt; omega
      have hne' := hne.symm
      have HE := hide (fun p q r t => DrS.end4 (unhide E2).d hlt (unhide HS) p q r t)
      go_wp2
      exact bodyPost_ret (v := blkV q1 q3 0 0) (by simp [results, Tryd.results46, go_sem, *]) rfl ⟨q1, q3, 0, 0, rfl, by omega, by omega, by omega, by omega, fun _ => rfl, (unhide HE _ _ _ _).1.more (by omega), (unhide HE _ _ _ _).2⟩

end Go.Proofs.YtlhinknmbgijeabDoor

/- Contract of the model's draw of a block. -/
namespace Go.Proofs.YtlhinknmbgijeabDoor
open Go.RowKit
theorem block_k (b : Nat) (ao : Option Addr) (n cap m : Nat) (w : World) (hm : m ≤ 800000) (hn : n ≤ 1048576) (hs : SrcK w b ao n cap m) :
    Calls Tryd.prog 46 #[.pointer (some ⟨b, 0, none⟩)] w fun e w' => ∃ v mb bl i : Int, e = .returned (blkV v mb bl i) ∧ (0 ≤ v ∧ v ≤ 2) ∧ (0 ≤ mb ∧ mb ≤ 11) ∧ (0 ≤ bl ∧ bl ≤ mb) ∧ (0 ≤ i ∧ i ≤ 8) ∧ (bl = 0 → i = 0) ∧ SrcK w' b ao n cap (m + 15) ∧ Keep (fun j => j = b) w w' := by
  obtain ⟨cd, a, seed, ha, hx⟩ := hs.x
  have h2 := srcV_mod (cd := cd) (n := n) (a := a + 1) (seed := srcN cd n a seed) (k := 2) (by omega)
  by_cases e : srcV cd n (a + 1) (srcN cd n a seed) % 2 = 0
  · exact block_0 b ao n cap a cd seed m w ha hm hn hx _ _ rfl e rfl
  · exact block_1 b ao n cap a cd seed m w ha hm hn hx _ _ rfl (by omega) rfl
end Go.Proofs.YtlhinknmbgijeabDoor
