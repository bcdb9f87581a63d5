/- What a law over two codes keeps; the clocks' calls where all is in bounds. -/
import Derived.Test.YtgcbofhjgomjoaaRows
import Derived.Test.YtgcbofhjgomjoaaGen
import Derived.Test.YtgcbofhjgomjoaaKeep
import Derived.Test.YtgcbofhjgomjoaaSrc
import Derived.Test.YtgcbofhjgomjoaaSrcG
import Derived.Test.YtgcbofhjgomjoaaAtN
import Derived.Test.YtgcbofhjgomjoaaSrcC
import Derived.Test.YtgcbofhjgomjoaaSrcD
import Derived.Test.YtgcbofhjgomjoaaClkB
import Derived.Test.YtgcbofhjgomjoaaClkF
import Derived.Test.YtgcbofhjgomjoaaClkI
import Derived.Test.YtgcbofhjgomjoaaClkL
import Derived.Test.YtgcbofhjgomjoaaClkC
import Derived.Test.YtgcbofhjgomjoaaClkD
import Derived.Test.YtgcbofhjgomjoaaClkT
import Derived.Test.YtgcbofhjgomjoaaClkQ
import Derived.WalkKit
import Derived.WalkSpells
import Derived.Deep.RegionHeld3
namespace Go.Proofs.Ytgcbofhjgomjoaa
open Go.RowKit
set_option linter.unusedVariables false

abbrev clkO (o r : Int) : Obj := .cells #[.int .i64 o, .int .i64 r] 46 (0, 0)
theorem two_of {w : World} {k t : Nat} {o r : Int} (h : w.heap[k]? = some (.cells #[.int .i64 o, .int .i64 r] t (0, 0))) : w.cell? ⟨k, 0, none⟩ = some (.int .i64 o) ∧ w.cell? ⟨k, 1, none⟩ = some (.int .i64 r) :=
  ⟨by rw [Joins.cell_of_block h]; rfl, by rw [Joins.cell_of_block h]; rfl⟩
/-- A law's world: its two codes, its variables. -/
structure St (w W : World) (ao bo : Option Addr) (n1 n2 : Nat) (L : List (Nat × Obj)) : Prop where
  below : Below w.heap.size w W
  b1 : Bs W ao n1
  b2 : Bs W bo n2
  blk : ∀ p ∈ L, W.heap[p.1]? = some p.2
theorem St.next {w W W' : World} {ao bo : Option Addr} {n1 n2 : Nat} {L : List (Nat × Obj)} (h : St w W ao bo n1 n2 L) (hb : Below W.heap.size W W') : St w W' ao bo n1 n2 L :=
  ⟨fr h.below hb, h.b1.below hb, h.b2.below hb, fun p hp => blk_below hb (h.blk p hp)⟩
theorem St.new {w W : World} {ao bo : Option Addr} {n1 n2 : Nat} {L : List (Nat × Obj)} (h : St w W ao bo n1 n2 L) (o : Obj) : St w (W.alloc o) ao bo n1 n2 ((W.heap.size, o) :: L) := by
  have hb := Joins.below_alloc1 W o
  refine ⟨fr h.below hb, h.b1.below hb, h.b2.below hb, fun p hp => ?_⟩
  rcases List.mem_cons.1 hp with rfl | hp
  · exact heap_alloc_new W o
  · exact blk_below hb (h.blk p hp)

theorem latest_in (f d l r x : Int) (w : World) (hb : cfgB f d l r = true) (hx : betw x 1 100000 = true) : Calls Try.prog 28 #[cfgV f d l r, .int .i64 x] w fun e w' => e = .returned (.tuple #[.int .i64 (latQ r x), .int .i64 0]) ∧ Below w.heap.size w w' :=
  (latest_impl f d l r x w).mono fun e w' ⟨h1, h2⟩ => ⟨h1.trans (ret2 (by rw [latR, truC_ok hb hx, if_pos rfl]) (truC_ok hb hx)), h2⟩
theorem earliest_in (f d l r x : Int) (w : World) (hb : cfgB f d l r = true) (hx : betw x 1 100000 = true) : Calls Try.prog 29 #[cfgV f d l r, .int .i64 x] w fun e w' => e = .returned (.tuple #[.int .i64 (earQ r x), .int .i64 0]) ∧ Below w.heap.size w w' :=
  (earliest_impl f d l r x w).mono fun e w' ⟨h1, h2⟩ => ⟨h1.trans (ret2 (by rw [earR, truC_ok hb hx, if_pos rfl]) (truC_ok hb hx)), h2⟩
theorem local_in (o r t : Int) (w : World) (ho0 : 0 ≤ o) (ho : o ≤ 1000000) (ht0 : 0 ≤ t) (ht : t ≤ 1000000) (hr0 : -500 ≤ r) (hr : r ≤ 500) : Calls Try.prog 24 #[clkV o r, .int .i64 t] w fun e w' => e = .returned (.tuple #[.int .i64 (locQ o r t), .int .i64 0]) ∧ Below w.heap.size w w' := by
  have h : (betw o 0 1000000 && betw t 0 1000000 && betw r (-500) 500) = true := by rw [betw_yes ho0 ho, betw_yes ht0 ht, betw_yes hr0 hr]; rfl
  exact (local_impl o r t w).mono fun e w' ⟨h1, h2⟩ => ⟨h1.trans (ret2 (by rw [locR, h]; rfl) (by rw [locC, h]; rfl)), h2⟩
theorem fence_in (f d l r x : Int) (w : World) (hb : cfgB f d l r = true) (hx : betw x 0 10000000 = true) : Calls Try.prog 25 #[cfgV f d l r, .int .i64 x] w fun e w' => e = .returned (.tuple #[.int .i64 (x + f), .int .i64 0]) ∧ Below w.heap.size w w' :=
  (fence_impl f d l r x w).mono fun e w' ⟨h1, h2⟩ => ⟨h1.trans (ret2 (by rw [fenR, fenC_ok hb hx, if_pos rfl]) (fenC_ok hb hx)), h2⟩
theorem dead_in (f d l r s n : Int) (w : World) (hb : cfgB f d l r = true) (hs : betw s 0 10000000 = true) (hn : betw n s 10000000 = true) : Calls Try.prog 26 #[cfgV f d l r, .int .i64 s, .int .i64 n] w fun e w' => e = .returned (.tuple #[.bool (decide (d ≤ n - s)), .int .i64 0]) ∧ Below w.heap.size w w' :=
  (dead_impl f d l r s n w).mono fun e w' ⟨h1, h2⟩ => ⟨h1.trans (ret2D (by rw [deaR, deaC_ok hb hs hn, if_pos rfl]) (deaC_ok hb hs hn)), h2⟩
theorem deadS_in (f d l r s n : Int) (w : World) (hb : cfgB f d l r = true) (hs : betw s 0 10000000 = true) (hn : betw n s 10000000 = true) : Calls Try.prog 27 #[cfgV f d l r, .int .i64 s, .int .i64 n] w fun e w' => e = .returned (.tuple #[.bool (decide (d ≤ n - s)), .int .i64 0]) ∧ Below w.heap.size w w' :=
  (dead_spec f d l r s n w).mono fun e w' ⟨h1, h2⟩ => ⟨h1.trans (ret2D (by rw [deaR, deaC_ok hb hs hn, if_pos rfl]) (deaC_ok hb hs hn)), h2⟩

end Go.Proofs.Ytgcbofhjgomjoaa
