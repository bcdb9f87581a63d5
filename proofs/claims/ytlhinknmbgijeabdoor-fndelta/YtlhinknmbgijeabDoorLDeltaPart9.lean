import Derived.Test.YtlhinknmbgijeabDoorRows
import Derived.Test.YtlhinknmbgijeabDoorLDeltaPart1
import Derived.Test.YtlhinknmbgijeabDoorLDeltaPart3
import Derived.Test.YtlhinknmbgijeabDoorLDeltaPart7
import Derived.Test.YtlhinknmbgijeabDoorLDeltaPart5
import Derived.WalkKit
import Derived.WalkSpells
import Derived.KernelRfl
import Derived.Deep.RegionHeld3
import Derived.Test.YtlhinknmbgijeabDoorLDeltaPart8
import Derived.Test.YtlhinknmbgijeabDoorLDeltaPart2
import Derived.Test.YtlhinknmbgijeabDoorLDeltaPart4

/- Contract of spec.RenewDelta. -/
namespace Go.Proofs.YtlhinknmbgijeabDoor
open Go.RowKit
set_option linter.unusedVariables false
set_option maxRecDepth 100000

theorem tn_new (w : World) (ao bo : Option Addr) (ca cb : Nat) (ss : List ByteArray) (xs : List Wr) (h g s : Int) (h1 : Ss w ao ss) (h2 : Ios w bo xs) :
    TkS w ((((w.alloc (.cells #[.slice ao ss.length ca, .slice bo xs.length cb] 26)).alloc (.cells #[.int .i64 h, .int .i64 g, .int .i64 s] 30)).alloc (.cells #[.slice none 0 0, .slice none 0 0] 26)).alloc (.cells #[.int .i64 0, .int .i64 0, .int .i64 0] 30)) w.heap.size (w.heap.size + 1 + 1) (w.heap.size + 1 + 1 + 1) ao ca bo cb ss xs ∧ VarT ((((w.alloc (.cells #[.slice ao ss.length ca, .slice bo xs.length cb] 26)).alloc (.cells #[.int .i64 h, .int .i64 g, .int .i64 s] 30)).alloc (.cells #[.slice none 0 0, .slice none 0 0] 26)).alloc (.cells #[.int .i64 0, .int .i64 0, .int .i64 0] 30)) (w.heap.size + 1) 30 h g s := by
  have b1 := Joins.below_alloc1 w (.cells #[.slice ao ss.length ca, .slice bo xs.length cb] 26)
  have b2 := Joins.below_alloc1 (w.alloc (.cells #[.slice ao ss.length ca, .slice bo xs.length cb] 26)) (.cells #[.int .i64 h, .int .i64 g, .int .i64 s] 30)
  have b3 := Joins.below_alloc1 ((w.alloc (.cells #[.slice ao ss.length ca, .slice bo xs.length cb] 26)).alloc (.cells #[.int .i64 h, .int .i64 g, .int .i64 s] 30)) (.cells #[.slice none 0 0, .slice none 0 0] 26)
  have b4 := Joins.below_alloc1 (((w.alloc (.cells #[.slice ao ss.length ca, .slice bo xs.length cb] 26)).alloc (.cells #[.int .i64 h, .int .i64 g, .int .i64 s] 30)).alloc (.cells #[.slice none 0 0, .slice none 0 0] 26)) (.cells #[.int .i64 0, .int .i64 0, .int .i64 0] 30)
  have hA := fr (fr (fr b1 b2) b3) b4
  refine ⟨⟨hA, (VarD.new w _ _).below (fr (fr b2 b3) b4), ?_, ?_, h1.below hA, h2.below hA⟩, ?_⟩
  · have := (VarD.new ((w.alloc (.cells #[.slice ao ss.length ca, .slice bo xs.length cb] 26)).alloc (.cells #[.int .i64 h, .int .i64 g, .int .i64 s] 30)) (.slice none 0 0) (.slice none 0 0)).below b4
    simp only [World.size_alloc] at this
    exact this
  · have := VarT.new (((w.alloc (.cells #[.slice ao ss.length ca, .slice bo xs.length cb] 26)).alloc (.cells #[.int .i64 h, .int .i64 g, .int .i64 s] 30)).alloc (.cells #[.slice none 0 0, .slice none 0 0] 26)) 30 0 0 0
    simp only [World.size_alloc] at this
    exact this
  · have := (VarT.new (w.alloc (.cells #[.slice ao ss.length ca, .slice bo xs.length cb] 26)) 30 h g s).below (fr b3 b4)
    simp only [World.size_alloc] at this
    exact this

theorem TkS.setX {w W : World} {B0 B1 B2 : Nat} {ao : Option Addr} {ca : Nat} {bo : Option Addr} {cb : Nat} {ss : List ByteArray} {xs : List Wr} (h : TkS w W B0 B1 B2 ao ca bo cb ss xs) (h1 : Ss w ao ss) (h2 : Ios w bo xs) {p : Addr} (hp : w.heap.size ≤ p.block) (n0 : B0 ≠ p.block) (n1 : B1 ≠ p.block) (n2 : B2 ≠ p.block) (v : Value) : TkS w (W.setCell p v) B0 B1 B2 ao ca bo cb ss xs := by
  have hk : Keep (· = p.block) W (W.setCell p v) := (Keep.refl (· = p.block) W).setCell (p := p) rfl v
  have hb := h.below.setCell hp v
  exact ⟨hb, h.d.keep hk n0, h.r.keep hk n1, h.t.keep hk n2, h1.below hb, h2.below hb⟩
theorem three_below {W W' : World} {b : Nat} {x y z : Value} (h : W.cell? ⟨b, 0, none⟩ = some x ∧ W.cell? ⟨b, 1, none⟩ = some y ∧ W.cell? ⟨b, 2, none⟩ = some z) (hb : Below W.heap.size W W') : W'.cell? ⟨b, 0, none⟩ = some x ∧ W'.cell? ⟨b, 1, none⟩ = some y ∧ W'.cell? ⟨b, 2, none⟩ = some z :=
  ⟨(hb.cell (p := ⟨b, 0, none⟩) (World.block_lt_of_cell? _ _ h.1)).trans h.1, (hb.cell (p := ⟨b, 1, none⟩) (World.block_lt_of_cell? _ _ h.2.1)).trans h.2.1, (hb.cell (p := ⟨b, 2, none⟩) (World.block_lt_of_cell? _ _ h.2.2)).trans h.2.2⟩

/-- What RenewDelta answers. -/
def rnC (ss : List ByteArray) (xs : List Wr) (h g s now : Int) : Int := if dltB h g s = true then (if roomC ss xs h now = 0 then (if redG ss xs h h = g ∧ redS ss xs h h = s then (if now < s then 17 else 0) else 13) else roomC ss xs h now) else 1
def rnS (ss : List ByteArray) (xs : List Wr) (h g s now : Int) : List ByteArray := if dltB h g s = true ∧ roomC ss xs h now = 0 then (if rnC ss xs h g s now = 0 then pS ss xs h g now else ss) else []
def rnX (ss : List ByteArray) (xs : List Wr) (h g s now : Int) : List Wr := if dltB h g s = true ∧ roomC ss xs h now = 0 then (if rnC ss xs h g s now = 0 then pX xs h g now else xs) else []
def rnH (ss : List ByteArray) (xs : List Wr) (h g s now : Int) : Int := if rnC ss xs h g s now = 0 then h else 0
def rnG (ss : List ByteArray) (xs : List Wr) (h g s now : Int) : Int := if rnC ss xs h g s now = 0 then g else 0
def rnT (ss : List ByteArray) (xs : List Wr) (h g s now : Int) : Int := if rnC ss xs h g s now = 0 then now else 0
theorem rn_no {ss : List ByteArray} {xs : List Wr} {h g s now c : Int} (e : rnC ss xs h g s now = c) (hc : c ≠ 0) (hn : ¬ (dltB h g s = true ∧ roomC ss xs h now = 0)) : rnS ss xs h g s now = [] ∧ rnX ss xs h g s now = [] ∧ (rnH ss xs h g s now = 0 ∧ rnG ss xs h g s now = 0 ∧ rnT ss xs h g s now = 0) ∧ rnC ss xs h g s now = c :=
  ⟨if_neg hn, if_neg hn, ⟨if_neg (by rw [e]; exact hc), if_neg (by rw [e]; exact hc), if_neg (by rw [e]; exact hc)⟩, e⟩
theorem rn_as {ss : List ByteArray} {xs : List Wr} {h g s now c : Int} (e : rnC ss xs h g s now = c) (hc : c ≠ 0) (hn : dltB h g s = true ∧ roomC ss xs h now = 0) : rnS ss xs h g s now = ss ∧ rnX ss xs h g s now = xs ∧ (rnH ss xs h g s now = 0 ∧ rnG ss xs h g s now = 0 ∧ rnT ss xs h g s now = 0) ∧ rnC ss xs h g s now = c := by
  have e' : ¬ rnC ss xs h g s now = 0 := by rw [e]; exact hc
  exact ⟨(if_pos hn).trans (if_neg e'), (if_pos hn).trans (if_neg e'), ⟨if_neg e', if_neg e', if_neg e'⟩, e⟩
theorem rn_ok {ss : List ByteArray} {xs : List Wr} {h g s now : Int} (e : rnC ss xs h g s now = 0) (hn : dltB h g s = true ∧ roomC ss xs h now = 0) : rnS ss xs h g s now = pS ss xs h g now ∧ rnX ss xs h g s now = pX xs h g now ∧ (rnH ss xs h g s now = h ∧ rnG ss xs h g s now = g ∧ rnT ss xs h g s now = now) ∧ rnC ss xs h g s now = 0 :=
  ⟨(if_pos hn).trans (if_pos e), (if_pos hn).trans (if_pos e), ⟨if_pos e, if_pos e, if_pos e⟩, e⟩

end Go.Proofs.YtlhinknmbgijeabDoor

/- Contract of the program's RenewDelta at right arguments: renewed, stale, out of order. -/
namespace Go.Proofs.YtlhinknmbgijeabDoor
open Go.RowKit
set_option linter.unusedVariables false
set_option maxRecDepth 100000

theorem own_yes (ao bo : Option Addr) (ca cb : Nat) (ss : List ByteArray) (xs : List Wr) (h G T : Int) (w : World) (hb : redB ss xs h h = true) (hG : redG ss xs h h = G) (hT : redS ss xs h h = T) (hd : diskB ss xs = true) (h0 : 0 ≤ h) (h3 : h ≤ 3) (h1 : Ss w ao ss) (h2 : Ios w bo xs) (hE : ErrW w) :
    Calls Tryd.prog 34 #[.agg #[.slice ao ss.length ca, .slice bo xs.length cb], .int .i64 h] w fun e w' => e = .returned (dltV h G T) ∧ Below w.heap.size w w' := by
  have k := ownDelta_any ao bo ca cb ss xs h G T w hG hT hd h0 h3 h1 h2 hE
  rw [if_pos hb] at k
  exact k

set_option maxHeartbeats 3200000 in
theorem renewI_not (ao bo : Option Addr) (ca cb : Nat) (ss : List ByteArray) (xs : List Wr) (h g s now G T c : Int) (w : World) (h1 : Ss w ao ss) (h2 : Ios w bo xs) (hd : dltB h g s = true) (hr : roomC ss xs h now = 0) (hB : redB ss xs h h = true) (hG : redG ss xs h h = G) (hT : redS ss xs h h = T) (hc : (c = 13 ∧ G ≠ g) ∨ (c = 17 ∧ G = g ∧ T = s ∧ now < s)) (hE : ErrW w) :
    Calls Tryd.prog 10 #[.agg #[.slice ao ss.length ca, .slice bo xs.length cb], dltV h g s, .int .i64 now] w fun e w' => ∃ po pa qo qa, e = .returned (.tuple #[.agg #[.slice po ss.length pa, .slice qo xs.length qa], dltV h g s, .int .i64 c]) ∧ OwnD w' w.heap.size po ss.length pa qo xs.length qa ss xs ∧ Below w.heap.size w w' := by
  have HS := hide (tn_new w ao bo ca cb ss xs h g s h1 h2)
  have HE := hide hE
  have hb : (roomC ss xs h now != 0) = false := by simp [hr]
  obtain ⟨e0, en, el⟩ := room_eq hr
  obtain ⟨ed, eh0, eh3⟩ := hostC_eq e0
  obtain ⟨l1, l2⟩ := diskB_len ed
  have HL : Hid (ss.length ≤ maxLen) := hide (by unfold maxLen; omega)
  have HM : Hid (xs.length ≤ maxLen) := hide (by unfold maxLen; omega)
  have HL' : Hid (ss.length ≤ 1048576) := hide (by omega)
  have HM' : Hid (xs.length ≤ 1048576) := hide (by omega)
  have HR0 := hide (fun w => own_yes ao bo ca cb ss xs h G T w hB hG hT ed eh0 eh3)
  have HDD := hide hd
  have m1 : w.heap.size + 1 + 1 ≠ w.heap.size := by omega
  have m2 : w.heap.size + 1 + 1 + 1 ≠ w.heap.size := by omega
  have m3 : w.heap.size + 1 + 1 ≠ w.heap.size + 1 := by omega
  have m4 : w.heap.size + 1 + 1 + 1 ≠ w.heap.size + 1 := by omega
  have m5 : w.heap.size + 1 + 1 + 1 ≠ w.heap.size + 1 + 1 := by omega
  clear h1 h2 hr e0 en el ed l1 l2 hE hd hB hG hT
  rcases hc with ⟨rfl, hq⟩ | ⟨rfl, rfl, rfl, hq⟩
  · have hqb : (G == g) = false := by simp only [beq_eq_false_iff_ne, ne_eq]; exact hq
    clear hq
    go_enter Tryd.func10, Tryd.ntmps10
    go_wp2_with fail
    refine (deltaOK_impl h g s _).mono ?_
    rintro e w1 ⟨rfl, hb1⟩
    rw [unhide HDD]
    have HS1 := hide ((unhide HS).1.next hb1)
    have HX1 := hide ((unhide HS).2.below hb1)
    obtain ⟨d0, d1⟩ := (unhide HS1).d.cells
    obtain ⟨x0, x1, x2⟩ := (unhide HX1).cells
    clear hb1
    go_wp2_with fail
    refine (hourFault_any _ _ _ _ ss xs h now _ (unhide HL) (unhide HM) (unhide HS1).s (unhide HS1).i).mono ?_
    rintro e w2 ⟨rfl, hb2⟩
    have HS2 := hide ((unhide HS1).next hb2)
    have HX2 := hide ((unhide HX1).below hb2)
    clear hb2 d0 d1 x0 x1 x2
    obtain ⟨d0, d1⟩ := (unhide HS2).d.cells
    obtain ⟨x0, x1, x2⟩ := (unhide HX2).cells
    go_wp2_with fail
    go_region_held3 (fun w' => w'.cell? ⟨w.heap.size, 0, none⟩ = some (.slice ao ss.length ca) ∧ w'.cell? ⟨w.heap.size, 1, none⟩ = some (.slice bo xs.length cb) ∧ w'.cell? ⟨w.heap.size + 1, 0, none⟩ = some (.int .i64 h) ∧ w'.cell? ⟨w.heap.size + 1, 1, none⟩ = some (.int .i64 g) ∧ w'.cell? ⟨w.heap.size + 1, 2, none⟩ = some (.int .i64 s)) (go_keep)
      (first
        | (go_at_call 34; refine (unhide HR0 _ ((unhide HS2).s.below (Below.refl _ w2).drew) ((unhide HS2).i.below (Below.refl _ w2).drew) (((unhide HE).below (unhide HS2).below).below (Below.refl _ w2).drew)).mono ?_; rintro e wA ⟨rfl, hbA⟩; have HBA := hide (fr (Below.refl _ w2).drew hbA); obtain ⟨a0, a1⟩ := ((unhide HS2).d.below (unhide HBA)).cells; obtain ⟨a2, a3, a4⟩ := ((unhide HX2).below (unhide HBA)).cells; clear hbA))
    have HSA := hide ((unhide HS2).next (unhide HBA))
    have HXA := hide ((unhide HX2).below (unhide HBA))
    clear d0 d1 x0 x1 x2
    go_wp2_with fail
    go_region_held3 (fun w' => w'.cell? ⟨w.heap.size, 0, none⟩ = some (.slice ao ss.length ca) ∧ w'.cell? ⟨w.heap.size, 1, none⟩ = some (.slice bo xs.length cb) ∧ w'.cell? ⟨w.heap.size + 1, 0, none⟩ = some (.int .i64 h) ∧ w'.cell? ⟨w.heap.size + 1, 1, none⟩ = some (.int .i64 g) ∧ w'.cell? ⟨w.heap.size + 1, 2, none⟩ = some (.int .i64 s)) (go_keep)
      (first
        | (go_at_call 35; refine (copyDisk_any _ _ _ _ ss xs _ (unhide HL') (unhide HM') ((unhide HSA).s.below (Below.refl _ wA).drew) ((unhide HSA).i.below (Below.refl _ wA).drew)).mono ?_; rintro e w3 ⟨po, pa, qo, qa, rfl, ho, hb3⟩; have HB3 := hide (fr (Below.refl _ wA).drew hb3); have HS4 := hide ((unhide HSA).next (unhide HB3)); have HO := hide ho; obtain ⟨b0, b1⟩ := (unhide HS4).d.cells; obtain ⟨b2, b3, b4⟩ := ((unhide HXA).below (unhide HB3)).cells; obtain ⟨r0, r1⟩ := (unhide HS4).r.cells; have r2 := (unhide HS4).r.free 0; have r3 := (unhide HS4).r.free 1; obtain ⟨t0, t1, t2⟩ := (unhide HS4).t.cells; obtain ⟨t3, t4, t5⟩ := (unhide HS4).t.free; clear ho hb3))
    have z : w.heap.size + 1 + 1 + 1 < wA.heap.size := (unhide HSA).t.lt
    have HEE := hide (fun a b x y t => And.intro ((own5 (unhide HO) (B1 := w.heap.size + 1 + 1) (B2 := w.heap.size + 1 + 1 + 1) (show w.heap.size + 1 + 1 < wA.heap.size by omega) z a b x y t).base (B' := w.heap.size) (show w.heap.size ≤ wA.heap.size by omega)) (below5 (unhide HS4).below (B1 := w.heap.size + 1 + 1) (B2 := w.heap.size + 1 + 1 + 1) (by omega) (by omega) a b x y t))
    clear z
    go_wp2
    exact bodyPost_ret (v := .tuple #[.agg #[.slice po ss.length pa, .slice qo xs.length qa], dltV h g s, .int .i64 13]) (by simp [results, Tryd.results10, go_sem, r0, r1, t0, t1, t2]) rfl ⟨po, pa, qo, qa, rfl, (unhide HEE _ _ _ _ _).1, (unhide HEE _ _ _ _ _).2⟩
  · go_enter Tryd.func10, Tryd.ntmps10
    go_wp2_with fail
    refine (deltaOK_impl h G T _).mono ?_
    rintro e w1 ⟨rfl, hb1⟩
    rw [unhide HDD]
    have HS1 := hide ((unhide HS).1.next hb1)
    have HX1 := hide ((unhide HS).2.below hb1)
    obtain ⟨d0, d1⟩ := (unhide HS1).d.cells
    obtain ⟨x0, x1, x2⟩ := (unhide HX1).cells
    clear hb1
    go_wp2_with fail
    refine (hourFault_any _ _ _ _ ss xs h now _ (unhide HL) (unhide HM) (unhide HS1).s (unhide HS1).i).mono ?_
    rintro e w2 ⟨rfl, hb2⟩
    have HS2 := hide ((unhide HS1).next hb2)
    have HX2 := hide ((unhide HX1).below hb2)
    clear hb2 d0 d1 x0 x1 x2
    obtain ⟨d0, d1⟩ := (unhide HS2).d.cells
    obtain ⟨x0, x1, x2⟩ := (unhide HX2).cells
    go_wp2_with fail
    go_region_held3 (fun w' => w'.cell? ⟨w.heap.size, 0, none⟩ = some (.slice ao ss.length ca) ∧ w'.cell? ⟨w.heap.size, 1, none⟩ = some (.slice bo xs.length cb) ∧ w'.cell? ⟨w.heap.size + 1, 0, none⟩ = some (.int .i64 h) ∧ w'.cell? ⟨w.heap.size + 1, 1, none⟩ = some (.int .i64 G) ∧ w'.cell? ⟨w.heap.size + 1, 2, none⟩ = some (.int .i64 T)) (go_keep)
      (first
        | (go_at_call 34; refine (unhide HR0 _ ((unhide HS2).s.below (Below.refl _ w2).drew) ((unhide HS2).i.below (Below.refl _ w2).drew) (((unhide HE).below (unhide HS2).below).below (Below.refl _ w2).drew)).mono ?_; rintro e wA ⟨rfl, hbA⟩; have HBA := hide (fr (Below.refl _ w2).drew hbA); obtain ⟨a0, a1⟩ := ((unhide HS2).d.below (unhide HBA)).cells; obtain ⟨a2, a3, a4⟩ := ((unhide HX2).below (unhide HBA)).cells; clear hbA))
    have HSA := hide ((unhide HS2).next (unhide HBA))
    have HXA := hide ((unhide HX2).below (unhide HBA))
    clear d0 d1 x0 x1 x2
    go_wp2_with fail
    go_region_held3 (fun w' => w'.cell? ⟨w.heap.size, 0, none⟩ = some (.slice ao ss.length ca) ∧ w'.cell? ⟨w.heap.size, 1, none⟩ = some (.slice bo xs.length cb) ∧ w'.cell? ⟨w.heap.size + 1, 0, none⟩ = some (.int .i64 h) ∧ w'.cell? ⟨w.heap.size + 1, 1, none⟩ = some (.int .i64 G) ∧ w'.cell? ⟨w.heap.size + 1, 2, none⟩ = some (.int .i64 T)) (go_keep)
      (first
        | (go_at_call 35; refine (copyDisk_any _ _ _ _ ss xs _ (unhide HL') (unhide HM') ((unhide HSA).s.below (Below.refl _ wA).drew) ((unhide HSA).i.below (Below.refl _ wA).drew)).mono ?_; rintro e w3 ⟨po, pa, qo, qa, rfl, ho, hb3⟩; have HB3 := hide (fr (Below.refl _ wA).drew hb3); have HS4 := hide ((unhide HSA).next (unhide HB3)); have HO := hide ho; obtain ⟨b0, b1⟩ := (unhide HS4).d.cells; obtain ⟨b2, b3, b4⟩ := ((unhide HXA).below (unhide HB3)).cells; obtain ⟨r0, r1⟩ := (unhide HS4).r.cells; have r2 := (unhide HS4).r.free 0; have r3 := (unhide HS4).r.free 1; obtain ⟨t0, t1, t2⟩ := (unhide HS4).t.cells; obtain ⟨t3, t4, t5⟩ := (unhide HS4).t.free; clear ho hb3))
    have z : w.heap.size + 1 + 1 + 1 < wA.heap.size := (unhide HSA).t.lt
    have HEE := hide (fun a b x y t => And.intro ((own5 (unhide HO) (B1 := w.heap.size + 1 + 1) (B2 := w.heap.size + 1 + 1 + 1) (show w.heap.size + 1 + 1 < wA.heap.size by omega) z a b x y t).base (B' := w.heap.size) (show w.heap.size ≤ wA.heap.size by omega)) (below5 (unhide HS4).below (B1 := w.heap.size + 1 + 1) (B2 := w.heap.size + 1 + 1 + 1) (by omega) (by omega) a b x y t))
    clear z
    go_wp2
    exact bodyPost_ret (v := .tuple #[.agg #[.slice po ss.length pa, .slice qo xs.length qa], dltV h G T, .int .i64 17]) (by simp [results, Tryd.results10, go_sem, r0, r1, t0, t1, t2]) rfl ⟨po, pa, qo, qa, rfl, (unhide HEE _ _ _ _ _).1, (unhide HEE _ _ _ _ _).2⟩

set_option maxHeartbeats 3200000 in
theorem renewI_ok (ao bo : Option Addr) (ca cb : Nat) (ss : List ByteArray) (xs : List Wr) (h now G T : Int) (S : List ByteArray) (X : List Wr) (w : World) (h1 : Ss w ao ss) (h2 : Ios w bo xs) (hd : dltB h G T = true) (hr : roomC ss xs h now = 0) (hB : redB ss xs h h = true) (hG : redG ss xs h h = G) (hT : redS ss xs h h = T) (hq : ¬ now < T) (hS : pS ss xs h G now = S) (hX : pX xs h G now = X) (hE : ErrW w) :
    Calls Tryd.prog 10 #[.agg #[.slice ao ss.length ca, .slice bo xs.length cb], dltV h G T, .int .i64 now] w fun e w' => ∃ po pa qo qa, e = .returned (.tuple #[.agg #[.slice po S.length pa, .slice qo X.length qa], dltV h G now, .int .i64 0]) ∧ OwnD w' w.heap.size po S.length pa qo X.length qa S X ∧ Below w.heap.size w w' := by
  have HS := hide (tn_new w ao bo ca cb ss xs h G T h1 h2)
  have HE := hide hE
  have hb : (roomC ss xs h now != 0) = false := by simp [hr]
  obtain ⟨e0, en, el⟩ := room_eq hr
  obtain ⟨ed, eh0, eh3⟩ := hostC_eq e0
  obtain ⟨l1, l2⟩ := diskB_len ed
  have HL : Hid (ss.length ≤ maxLen) := hide (by unfold maxLen; omega)
  have HM : Hid (xs.length ≤ maxLen) := hide (by unfold maxLen; omega)
  have HR0 := hide (fun w => own_yes ao bo ca cb ss xs h G T w hB hG hT ed eh0 eh3)
  have HDD := hide hd
  have HDN : Hid (dltB h G now = true) := hide (dltB_iff.2 ⟨(dltB_iff.1 hd).1, (dltB_iff.1 hd).2.1, en⟩)
  have HD := hide ed
  have HXL := hide el
  have HSS := hide hS
  have HXX := hide hX
  have m1 : w.heap.size + 1 + 1 ≠ w.heap.size := by omega
  have m2 : w.heap.size + 1 + 1 + 1 ≠ w.heap.size := by omega
  have m3 : w.heap.size + 1 + 1 ≠ w.heap.size + 1 := by omega
  have m4 : w.heap.size + 1 + 1 + 1 ≠ w.heap.size + 1 := by omega
  have m5 : w.heap.size + 1 + 1 + 1 ≠ w.heap.size + 1 + 1 := by omega
  clear h1 h2 hr e0 en el ed l1 l2 hE hd hB hG hT hS hX
  go_enter Tryd.func10, Tryd.ntmps10
  go_wp2_with fail
  refine (deltaOK_impl h G T _).mono ?_
  rintro e w1 ⟨rfl, hb1⟩
  rw [unhide HDD]
  have HS1 := hide ((unhide HS).1.next hb1)
  have HX1 := hide ((unhide HS).2.below hb1)
  obtain ⟨d0, d1⟩ := (unhide HS1).d.cells
  obtain ⟨x0, x1, x2⟩ := (unhide HX1).cells
  clear hb1
  go_wp2_with fail
  refine (hourFault_any _ _ _ _ ss xs h now _ (unhide HL) (unhide HM) (unhide HS1).s (unhide HS1).i).mono ?_
  rintro e w2 ⟨rfl, hb2⟩
  have HS2 := hide ((unhide HS1).next hb2)
  have HX2 := hide ((unhide HX1).below hb2)
  clear hb2 d0 d1 x0 x1 x2
  obtain ⟨d0, d1⟩ := (unhide HS2).d.cells
  obtain ⟨x0, x1, x2⟩ := (unhide HX2).cells
  go_wp2_with fail
  go_region_held3 (fun w' => w'.cell? ⟨w.heap.size, 0, none⟩ = some (.slice ao ss.length ca) ∧ w'.cell? ⟨w.heap.size, 1, none⟩ = some (.slice bo xs.length cb) ∧ w'.cell? ⟨w.heap.size + 1, 0, none⟩ = some (.int .i64 h) ∧ w'.cell? ⟨w.heap.size + 1, 1, none⟩ = some (.int .i64 G) ∧ w'.cell? ⟨w.heap.size + 1, 2, none⟩ = some (.int .i64 T)) (go_keep)
    (first
      | (go_at_call 34; refine (unhide HR0 _ ((unhide HS2).s.below (Below.refl _ w2).drew) ((unhide HS2).i.below (Below.refl _ w2).drew) (((unhide HE).below (unhide HS2).below).below (Below.refl _ w2).drew)).mono ?_; rintro e wA ⟨rfl, hbA⟩; have HBA := hide (fr (Below.refl _ w2).drew hbA); obtain ⟨a0, a1⟩ := ((unhide HS2).d.below (unhide HBA)).cells; obtain ⟨a2, a3, a4⟩ := ((unhide HX2).below (unhide HBA)).cells; clear hbA))
  have HSA := hide ((unhide HS2).next (unhide HBA))
  have HXA := hide ((unhide HX2).below (unhide HBA))
  clear d0 d1 x0 x1 x2
  go_wp2_with fail
  go_region_held3 (fun w' => w'.cell? ⟨w.heap.size, 0, none⟩ = some (.slice ao ss.length ca) ∧ w'.cell? ⟨w.heap.size, 1, none⟩ = some (.slice bo xs.length cb) ∧ w'.cell? ⟨w.heap.size + 1, 0, none⟩ = some (.int .i64 h) ∧ w'.cell? ⟨w.heap.size + 1, 1, none⟩ = some (.int .i64 G) ∧ w'.cell? ⟨w.heap.size + 1, 2, none⟩ = some (.int .i64 T)) (go_keep)
    (first
      | (go_at_call 37; refine (stampedD h G T now _).mono ?_; rintro e wS ⟨rfl, hbS⟩; have HBS := hide (fr (Below.refl _ wA).drew hbS); obtain ⟨s0, s1⟩ := ((unhide HSA).d.below (unhide HBS)).cells; obtain ⟨s2, s3, s4⟩ := ((unhide HXA).below (unhide HBS)).cells; clear hbS)
      | (go_at_call 36; refine (writtenTo_ok _ _ _ _ ss xs h G now S X _ (unhide HSS) (unhide HXX) (unhide HD) (unhide HXL) (unhide HDN) ((unhide HSA).s.below (unhide HBS)) ((unhide HSA).i.below (unhide HBS))).mono ?_; rintro e w3 ⟨po, pa, qo, qa, rfl, ho, hb3⟩; have HB3 := hide (fr (unhide HBS) hb3); have HS4 := hide ((unhide HSA).next (unhide HB3)); have HO := hide (ho.base (B' := wA.heap.size) (unhide HBS).size); obtain ⟨b0, b1⟩ := (unhide HS4).d.cells; obtain ⟨b2, b3, b4⟩ := ((unhide HXA).below (unhide HB3)).cells; obtain ⟨r0, r1⟩ := (unhide HS4).r.cells; have r2 := (unhide HS4).r.free 0; have r3 := (unhide HS4).r.free 1; obtain ⟨t0, t1, t2⟩ := (unhide HS4).t.cells; obtain ⟨t3, t4, t5⟩ := (unhide HS4).t.free; clear ho hb3))
  have z : w.heap.size + 1 + 1 + 1 < wA.heap.size := (unhide HSA).t.lt
  have HEE := hide (fun a b x y t => And.intro ((own5 (unhide HO) (B1 := w.heap.size + 1 + 1) (B2 := w.heap.size + 1 + 1 + 1) (show w.heap.size + 1 + 1 < wA.heap.size by omega) z a b x y t).base (B' := w.heap.size) (show w.heap.size ≤ wA.heap.size by omega)) (below5 (unhide HS4).below (B1 := w.heap.size + 1 + 1) (B2 := w.heap.size + 1 + 1 + 1) (by omega) (by omega) a b x y t))
  clear z
  go_wp2
  exact bodyPost_ret (v := .tuple #[.agg #[.slice po S.length pa, .slice qo X.length qa], dltV h G now, .int .i64 0]) (by simp [results, Tryd.results10, go_sem, r0, r1, t0, t1, t2]) rfl ⟨po, pa, qo, qa, rfl, (unhide HEE _ _ _ _ _).1, (unhide HEE _ _ _ _ _).2⟩

end Go.Proofs.YtlhinknmbgijeabDoor

/- Calls of the program's generations at right disks without writes that wait; a law's world of generations and disks. -/
namespace Go.Proofs.YtlhinknmbgijeabDoor
open Go.RowKit
set_option linter.unusedVariables false
set_option maxRecDepth 100000

theorem Ios.nil (w : World) (bo : Option Addr) : Ios w bo [] := fun i hi => absurd hi (Nat.not_lt_zero _)
theorem room_nil {ss : List ByteArray} {h now : Int} (hd : diskB ss [] = true) (h0 : 0 ≤ h) (h3 : h ≤ 3) (n0 : 0 ≤ now) (n1 : now ≤ 10000000) : roomC ss [] h now = 0 :=
  room_ok (codes_right (a := 0) hd h0 h3 (by omega) (by omega)).1 (by simp [inB]; omega) (by simp)

theorem take_nil (ao bo : Option Addr) (ca cb : Nat) (ss : List ByteArray) (h now G : Int) (S : List ByteArray) (w : World) (h1 : Ss w ao ss) (hd : diskB ss [] = true) (h0 : 0 ≤ h) (h3 : h ≤ 3) (n0 : 0 ≤ now) (n1 : now ≤ 10000000) (hG : redG ss [] h h = G) (hg : G ≤ 999999) (hS : pS ss [] h (G + 1) now = S) (hE : ErrW w) :
    Calls Tryd.prog 9 #[.agg #[.slice ao ss.length ca, .slice bo 0 cb], .int .i64 h, .int .i64 now] w fun e w' => ∃ po pa qo qa, e = .returned (.tuple #[.agg #[.slice po S.length pa, .slice qo 0 qa], dltV h (G + 1) now, .int .i64 0]) ∧ Ss w' po S ∧ Below w.heap.size w w' := by
  have hr := room_nil hd h0 h3 n0 n1
  have hgi := red_in ss [] h h
  rw [hG] at hgi
  have hx : dltB h (G + 1) now = true := dltB_iff.2 ⟨⟨h0, h3⟩, by omega, n0, n1⟩
  refine (takeI_ok ao bo ca cb ss [] h now G S [] w h1 (Ios.nil w bo) hr hG (by omega) hS (pX_nil h (G + 1) now) hE).mono ?_
  rintro e w' ⟨po, pa, qo, qa, he, ho, hb⟩
  exact ⟨po, pa, qo, qa, he, ho.ss (by rw [← hS]; exact (right_sz (right_nil hd hx)).2.1), hb⟩
theorem renew_nil (ao bo : Option Addr) (ca cb : Nat) (ss : List ByteArray) (h now G T : Int) (S : List ByteArray) (w : World) (h1 : Ss w ao ss) (hd : diskB ss [] = true) (hx : dltB h G T = true) (n0 : 0 ≤ now) (n1 : now ≤ 10000000) (hB : redB ss [] h h = true) (hG : redG ss [] h h = G) (hT : redS ss [] h h = T) (hq : ¬ now < T) (hS : pS ss [] h G now = S) (hE : ErrW w) :
    Calls Tryd.prog 10 #[.agg #[.slice ao ss.length ca, .slice bo 0 cb], dltV h G T, .int .i64 now] w fun e w' => ∃ po pa qo qa, e = .returned (.tuple #[.agg #[.slice po S.length pa, .slice qo 0 qa], dltV h G now, .int .i64 0]) ∧ Ss w' po S ∧ Below w.heap.size w w' := by
  obtain ⟨⟨h0, h3⟩, hg, _⟩ := dltB_iff.1 hx
  have hr := room_nil hd h0 h3 n0 n1
  refine (renewI_ok ao bo ca cb ss [] h now G T S [] w h1 (Ios.nil w bo) hx hr hB hG hT hq hS (pX_nil h G now) hE).mono ?_
  rintro e w' ⟨po, pa, qo, qa, he, ho, hb⟩
  exact ⟨po, pa, qo, qa, he, ho.ss (by rw [← hS]; exact (right_sz (right_nil hd (dltB_iff.2 ⟨⟨h0, h3⟩, hg, n0, n1⟩))).2.1), hb⟩
theorem renew_not (ao bo : Option Addr) (ca cb : Nat) (ss : List ByteArray) (h g s now G T c : Int) (w : World) (h1 : Ss w ao ss) (hd : diskB ss [] = true) (hx : dltB h g s = true) (n0 : 0 ≤ now) (n1 : now ≤ 10000000) (hB : redB ss [] h h = true) (hG : redG ss [] h h = G) (hT : redS ss [] h h = T) (hc : (c = 13 ∧ G ≠ g) ∨ (c = 17 ∧ G = g ∧ T = s ∧ now < s)) (hE : ErrW w) :
    Calls Tryd.prog 10 #[.agg #[.slice ao ss.length ca, .slice bo 0 cb], dltV h g s, .int .i64 now] w fun e w' => ∃ po pa qo qa, e = .returned (.tuple #[.agg #[.slice po ss.length pa, .slice qo 0 qa], dltV h g s, .int .i64 c]) ∧ Ss w' po ss ∧ Below w.heap.size w w' := by
  obtain ⟨⟨h0, h3⟩, hg, _⟩ := dltB_iff.1 hx
  refine (renewI_not ao bo ca cb ss [] h g s now G T c w h1 (Ios.nil w bo) hx (room_nil hd h0 h3 n0 n1) hB hG hT hc hE).mono ?_
  rintro e w' ⟨po, pa, qo, qa, he, ho, hb⟩
  exact ⟨po, pa, qo, qa, he, ho.ss (right_sz hd).2.1, hb⟩
theorem read_nil' (ao bo : Option Addr) (ca cb : Nat) (ss : List ByteArray) (h o RH RG RT RC : Int) (w : World) (h1 : Ss w ao ss) (hd : diskB ss [] = true) (he : rdH ss [] h o = RH ∧ rdG ss [] h o = RG ∧ rdT ss [] h o = RT ∧ rdC ss [] h o = RC) (hE : ErrW w) :
    Calls Tryd.prog 8 #[.agg #[.slice ao ss.length ca, .slice bo 0 cb], .int .i64 h, .int .i64 o] w fun e w' => e = .returned (.tuple #[dltV RH RG RT, .int .i64 RC]) ∧ Below w.heap.size w w' := by
  obtain ⟨rfl, rfl, rfl, rfl⟩ := he
  exact readDelta_impl ao bo ca cb ss [] h o w (right_sz hd).1.1 (by simp) h1 (Ios.nil w bo) hE
/-- What a host reads of another one's, as ReadDelta answers it. -/
theorem read_old {ss : List ByteArray} {h : Int} (hd : diskB ss [] = true) (h0 : 0 ≤ h) (h3 : h ≤ 3) : rdG ss [] h h = redG ss [] h h ∧ (rdC ss [] h h = 0 ∨ rdC ss [] h h = 5) := by
  have e0 := (codes_right (xs := []) (a := 0) hd h0 h3 (by omega) (by omega)).1
  have e1 : inB h 0 3 = true := by simp [inB]; omega
  cases e2 : redB ss [] h h with
  | true =>
    have k := rdC_yes e0 e1 e2
    exact ⟨(rd_yes k).2.1, .inl k⟩
  | false =>
    have k := rdC_none e0 e1 e2
    exact ⟨by rw [(rd_no k (by decide)).2.1, (red_no e2).1], .inr k⟩
theorem read_new {ss : List ByteArray} {h g s o : Int} (hl : ss.length = 64) (hd : diskB (pS ss [] h g s) [] = true) (hx : dltB h g s = true) (h0 : 0 ≤ o) (h3 : o ≤ 3) : rdH (pS ss [] h g s) [] o h = h ∧ rdG (pS ss [] h g s) [] o h = g ∧ rdT (pS ss [] h g s) [] o h = s ∧ rdC (pS ss [] h g s) [] o h = 0 := by
  obtain ⟨⟨k0, k3⟩, _⟩ := dltB_iff.1 hx
  obtain ⟨r1, r2, r3⟩ := red_put o hl hx
  have e0 := (codes_right (h := o) (xs := []) (a := 0) hd h0 h3 (by omega) (by omega)).1
  obtain ⟨y1, y2, y3, y4⟩ := rd_yes (rdC_yes e0 (show inB h 0 3 = true by simp [inB]; omega) r1)
  exact ⟨y1, y2.trans r2, y3.trans r3, y4⟩

/-- The law's world: generations and disks in variables. -/
structure Dl (w W : World) (T : List (Nat × Int × Int × Int)) (D : List (Nat × List ByteArray)) : Prop where
  below : Below w.heap.size w W
  t : ∀ p ∈ T, VarT W p.1 30 p.2.1 p.2.2.1 p.2.2.2
  d : ∀ p ∈ D, ∃ ao ca bo cb, VarD W p.1 (.slice ao p.2.length ca) (.slice bo 0 cb) ∧ Ss W ao p.2
  e : ErrW W
theorem Dl.next {w W W' : World} {T : List (Nat × Int × Int × Int)} {D : List (Nat × List ByteArray)} (h : Dl w W T D) (hb : Below W.heap.size W W') : Dl w W' T D :=
  ⟨fr h.below hb, fun p hp => (h.t p hp).below hb, fun p hp => by obtain ⟨ao, ca, bo, cb, h1, h2⟩ := h.d p hp; exact ⟨ao, ca, bo, cb, h1.below hb, h2.below hb⟩, h.e.below hb⟩
theorem Dl.addT {w W : World} {T : List (Nat × Int × Int × Int)} {D : List (Nat × List ByteArray)} (h : Dl w W T D) (x y z : Int) : Dl w (W.alloc (.cells #[.int .i64 x, .int .i64 y, .int .i64 z] 30)) ((W.heap.size, x, y, z) :: T) D := by
  have k := h.next (Joins.below_alloc1 W (.cells #[.int .i64 x, .int .i64 y, .int .i64 z] 30))
  refine ⟨k.below, fun p hp => ?_, k.d, k.e⟩
  rcases List.mem_cons.1 hp with rfl | hp
  · exact VarT.new W _ x y z
  · exact k.t p hp
theorem Dl.addD {w W : World} {T : List (Nat × Int × Int × Int)} {D : List (Nat × List ByteArray)} {ss : List ByteArray} {po : Option Addr} (h : Dl w W T D) (hs : Ss W po ss) (pa : Nat) (qo : Option Addr) (qa : Nat) : Dl w (W.alloc (.cells #[.slice po ss.length pa, .slice qo 0 qa] 26)) T ((W.heap.size, ss) :: D) := by
  have hb := Joins.below_alloc1 W (.cells #[.slice po ss.length pa, .slice qo 0 qa] 26)
  have k := h.next hb
  refine ⟨k.below, k.t, fun p hp => ?_, k.e⟩
  rcases List.mem_cons.1 hp with rfl | hp
  · exact ⟨po, pa, qo, qa, VarD.new W _ _, hs.below hb⟩
  · exact k.d p hp
theorem Dl.add2 {w W : World} {T : List (Nat × Int × Int × Int)} {D : List (Nat × List ByteArray)} {ss : List ByteArray} {po : Option Addr} (h : Dl w W T D) (hs : Ss W po ss) (pa : Nat) (qo : Option Addr) (qa : Nat) (x y z : Int) : Dl w ((W.alloc (.cells #[.slice po ss.length pa, .slice qo 0 qa] 26)).alloc (.cells #[.int .i64 x, .int .i64 y, .int .i64 z] 30)) ((W.heap.size + 1, x, y, z) :: T) ((W.heap.size, ss) :: D) := by
  have k := (h.addD hs pa qo qa).addT x y z
  simp only [World.size_alloc] at k
  exact k

end Go.Proofs.YtlhinknmbgijeabDoor

/- Contract of spec.l01New. -/
namespace Go.Proofs.YtlhinknmbgijeabDoor
open Go.RowKit
set_option linter.unusedVariables false
set_option maxRecDepth 100000

def noSs : List ByteArray := List.replicate 64 ⟨#[]⟩
theorem noSs_cells : (madeCells #[Value.string ⟨#[]⟩] 64).toList = strV noSs := by rw [toList_madeCells_one]; simp [strV, noSs]
theorem noSs_len : noSs.length = 64 := by simp [noSs]
theorem info9' : (Tryd.prog.info? 9).map (fun i => (i.zero, i.size, i.bytes)) = some (some (.string ⟨#[]⟩), 1, 16) := by kernel_rfl

theorem noSs_own {w : World} {B g : Nat} (h : w.ownsRow B 9 1 (.slice (some ⟨g, 0, none⟩) 64 64) 64 (madeCells #[Value.string ⟨#[]⟩] 64).toList) : w.ownsRow B 9 1 (.slice (some ⟨g, 0, none⟩) 64 64) 64 (strV noSs) := by
  rw [noSs_cells] at h; exact h

set_option maxHeartbeats 1600000 in
theorem l01New_any (w : World) : Calls Tryd.prog 28 #[] w fun e w' => ∃ g k, e = .returned (.agg #[.slice (some ⟨g, 0, none⟩) 64 64, .slice (some ⟨k, 0, none⟩) 0 0]) ∧ OwnD w' w.heap.size (some ⟨g, 0, none⟩) 64 64 (some ⟨k, 0, none⟩) 0 0 noSs [] ∧ Below w.heap.size w w' := by
  obtain ⟨i0, hi, hz0, hz1, hz2⟩ := info_parts info9'
  go_enter Tryd.func28, Tryd.ntmps28
  go_wp2_with (first | (at_make; refine wpList_make_full _ rfl _ _ 23 rfl (w.heap.size + 1) 9 i0 _ 1 Tryd.underlying23 hi hz0 hz1 _ _ _ _ 64 rfl rfl rfl rfl ?c1 ?c2 ?c3 ?_))
  case c1 => rw [hz2]; omega
  case c2 => unfold maxLen; omega
  case c3 => simp
  intro w1 hown hgrow
  have hB : Below (w.heap.size + 1) (w.alloc (.cells #[.slice none 0 0, .slice none 0 0] 26)) w1 := (Below.refl _ _).grown hgrow (by simp) (fun _ h => by cases h)
  have hsz : w.heap.size < w1.heap.size := by have := hB.size; simp at this; omega
  have hc0 : w1.cell? ⟨w.heap.size, 0, none⟩ = some (.slice none 0 0) := (hB.cell (by simp)).trans (by simp [go_sem])
  have hc1 : w1.cell? ⟨w.heap.size, 1, none⟩ = some (.slice none 0 0) := (hB.cell (by simp)).trans (by simp [go_sem])
  have hf0 : w1.frozen? ⟨w.heap.size, 0, none⟩ = false := (hB.frozen (by simp)).trans (by simp [go_sem])
  have hf1 : w1.frozen? ⟨w.heap.size, 1, none⟩ = false := (hB.frozen (by simp)).trans (by simp [go_sem])
  have HO := hide (noSs_own hown)
  have HB := hide ((Joins.below_alloc1 w (.cells #[.slice none 0 0, .slice none 0 0] 26)).trans (hB.mono (by omega)))
  clear hown hgrow hB
  have HO2 := hide (own_below (own_base (ownsRow_setCell_below (ownsRow_setCell_below (unhide HO) (a := ⟨w.heap.size, 0, none⟩) (by simp) (.slice (some ⟨w.heap.size + 1, 0, none⟩) 64 64)) (a := ⟨w.heap.size, 1, none⟩) (by simp) (.slice (some ⟨w1.heap.size, 0, none⟩) 0 0)) (B' := w.heap.size) (by omega)) (Joins.below_alloc1 _ (.cells #[] 94)))
  have HB2 := hide ((((unhide HB).setCell (p := ⟨w.heap.size, 0, none⟩) (Nat.le_refl _) (.slice (some ⟨w.heap.size + 1, 0, none⟩) 64 64)).setCell (p := ⟨w.heap.size, 1, none⟩) (Nat.le_refl _) (.slice (some ⟨w1.heap.size, 0, none⟩) 0 0)).alloc (by simp; omega) (.cells #[] 94))
  go_wp2
  exact bodyPost_ret (v := .agg #[.slice (some ⟨w.heap.size + 1, 0, none⟩) 64 64, .slice (some ⟨w1.heap.size, 0, none⟩) 0 0]) (by simp [results, Tryd.results28, go_sem, hc0, hc1, hsz]) rfl ⟨_, _, rfl, ⟨OwnR.of (unhide HO2) (fun h => by cases h), .inl ⟨rfl, rfl, _, rfl⟩⟩, unhide HB2⟩

end Go.Proofs.YtlhinknmbgijeabDoor

/- What stays beside a source of choices; contract of spec.l00Source. -/
namespace Go.Proofs.YtlhinknmbgijeabDoor
open Go.RowKit
set_option linter.unusedVariables false
set_option maxRecDepth 100000

theorem keep_cell {S : Nat → Prop} {w w' : World} {a : Addr} {v : Value} (hk : Keep S w w') (ha : ¬ S a.block) (h : w.cell? a = some v) : w'.cell? a = some v := by
  have hl := World.block_lt_of_cell? _ _ h
  rw [← h]
  unfold World.cell?
  simp only [hk.block a.block hl ha]
theorem keep_new {w w1 w2 : World} {b : Nat} {S : Nat → Prop} (h : Keep (fun k => k = b) w w1) (hk : Keep S w1 w2) (hs : ∀ k, S k → w.heap.size ≤ k ∨ k = b) : Keep (fun k => k = b) w w2 :=
  ⟨hk.os.trans h.os, hk.tape.trans h.tape, hk.output.trans h.output, Nat.le_trans h.size hk.size, fun k hl hn => (hk.block k (Nat.lt_of_lt_of_le hl h.size) (fun hS => by
    rcases hs k hS with h1 | h1
    · omega
    · exact hn h1)).trans (h.block k hl hn)⟩
theorem SrcK.other {w w1 w2 : World} {b : Nat} {ao : Option Addr} {n cap m m0 : Nat} {S : Nat → Prop} (h0 : SrcK w b ao n cap m0) (h : SrcK w1 b ao n cap m) (hw : Keep (fun k => k = b) w w2) (hk : Keep S w1 w2) (hs : ¬ S b) : SrcK w2 b ao n cap m := by
  obtain ⟨x0, y0, _, _, _, _, hblk0⟩ := h0.src
  obtain ⟨x, y, c0, c1, c2, c3, c4⟩ := h.src
  refine ⟨⟨x, y, c0, c1, c2, c3, ?_⟩, h0.bytes.keep hblk0 (fun z h => by cases h) hw⟩
  rw [hk.block b (Array.getElem?_eq_some_iff.1 c4).1 hs]; exact c4

theorem source_any (ao : Option Addr) (n cap : Nat) (w : World) (hn : n ≤ 1048576) (hB : Bs w ao n) :
    Calls Tryd.prog 25 #[.slice ao n cap] w fun e w' => e = .returned (.pointer (some ⟨w.heap.size, 0, none⟩)) ∧ SrcK w' w.heap.size ao n cap 0 ∧ Below w.heap.size w w' ∧ w'.heap.size = w.heap.size + 1 := by
  go_enter Tryd.func25, Tryd.ntmps25
  go_wp2
  go_ret
  exact ⟨rfl, ⟨⟨0, (n : Int) % 1000, by omega, by omega, by omega, by omega, heap_alloc_new w _⟩, hB.below (Joins.below_alloc1 _ _)⟩, Joins.below_alloc1 _ _, by simp⟩

theorem keep_drop {w w' : World} {b : Nat} (h : Keep (fun k => k = b ∨ w.heap.size ≤ k) w w') : Keep (fun k => k = b) w w' :=
  ⟨h.os, h.tape, h.output, h.size, fun k hl hn => h.block k hl (fun e => by
    rcases e with e | e
    · exact hn e
    · omega)⟩
theorem blk_keep {S : Nat → Prop} {w w' : World} {k : Nat} {o : Obj} (hk : Keep S w w') (hs : ¬ S k) (h : w.heap[k]? = some o) : w'.heap[k]? = some o := by
  rw [hk.block k (Array.getElem?_eq_some_iff.1 h).1 hs]; exact h
theorem blk_below {w w' : World} {k : Nat} {o : Obj} (hk : Below w.heap.size w w') (h : w.heap[k]? = some o) : w'.heap[k]? = some o := by
  rw [hk.block k (Array.getElem?_eq_some_iff.1 h).1]; exact h
theorem blk_lt {w : World} {k : Nat} {o : Obj} (h : w.heap[k]? = some o) : k < w.heap.size := (Array.getElem?_eq_some_iff.1 h).1

end Go.Proofs.YtlhinknmbgijeabDoor

/- What a drawn disk keeps in its variable beside a source of choices. -/
namespace Go.Proofs.YtlhinknmbgijeabDoor
open Go.RowKit
set_option linter.unusedVariables false

def noStr (c : Array Value) : Prop := ∀ (i : Nat) (s : ByteArray), c[i]? ≠ some (Value.string s)
theorem cell_ne {w : World} {k t b' off : Nat} {c : Array Value} {s : ByteArray} (hx : w.heap[k]? = some (.cells c t (0, 0))) (hc : noStr c) (h : w.cell? ⟨b', off, none⟩ = some (.string s)) : b' ≠ k := by
  rintro rfl
  rw [Joins.cell_of_block hx] at h
  exact hc off s h
theorem Ss.keepX {w w' : World} {ao : Option Addr} {ss : List ByteArray} {k t : Nat} {c : Array Value} (h : Ss w ao ss) (hx : w.heap[k]? = some (.cells c t (0, 0))) (hc : noStr c) (hk : Keep (fun j => j = k) w w') : Ss w' ao ss := fun i hi => by
  obtain ⟨b, off, e, h0, hz⟩ := h i hi
  exact ⟨b, off, e, keep_cell hk (cell_ne hx hc h0) h0, hz⟩
theorem Ios.keepX {w w' : World} {ao : Option Addr} {xs : List Wr} {k t : Nat} {c : Array Value} (h : Ios w ao xs) (hx : w.heap[k]? = some (.cells c t (0, 0))) (hc : noStr c) (hk : Keep (fun j => j = k) w w') : Ios w' ao xs := fun i hi => by
  obtain ⟨b, off, e, h0, h1, h2, hz⟩ := h i hi
  have hb := cell_ne hx hc h2
  exact ⟨b, off, e, keep_cell hk hb h0, keep_cell hk hb h1, keep_cell hk hb h2, hz⟩
theorem noStr_src (v : Value) (x y : Int) (hv : ∀ s, v ≠ .string s) : noStr #[v, .int .i64 x, .int .i64 y] := by
  intro i s
  match i with
  | 0 => simpa using hv s
  | 1 => simp
  | 2 => simp
  | k + 3 => simp
theorem noStr_var (a b : Option Addr) (n m c d : Nat) : noStr #[.slice a n c, .slice b m d] := by
  intro i s
  match i with
  | 0 => simp
  | 1 => simp
  | k + 2 => simp

/-- A disk in a variable. -/
structure DV (w : World) (C : Nat) (ao : Option Addr) (ca : Nat) (bo : Option Addr) (cb : Nat) (ss : List ByteArray) (xs : List Wr) : Prop where
  var : VarD w C (.slice ao ss.length ca) (.slice bo xs.length cb)
  s : Ss w ao ss
  i : Ios w bo xs
theorem DV.below {w w' : World} {C ca cb : Nat} {ao bo : Option Addr} {ss : List ByteArray} {xs : List Wr} (h : DV w C ao ca bo cb ss xs) (hb : Below w.heap.size w w') : DV w' C ao ca bo cb ss xs := ⟨h.var.below hb, h.s.below hb, h.i.below hb⟩
theorem DV.src {w w' : World} {C ca cb b n cap m : Nat} {ao bo so : Option Addr} {ss : List ByteArray} {xs : List Wr} (h : DV w C ao ca bo cb ss xs) (hs : SrcK w b so n cap m) (hC : C ≠ b) (hk : Keep (fun j => j = b) w w') : DV w' C ao ca bo cb ss xs := by
  obtain ⟨x, y, _, _, _, _, hblk⟩ := hs.src
  have hn := noStr_src (.slice so n cap) x y (fun s e => by cases e)
  exact ⟨h.var.keep hk hC, h.s.keepX hblk hn hk, h.i.keepX hblk hn hk⟩
/-- Stored anew. -/
theorem DV.store {w : World} {C n1 m1 ca cb c1 d1 : Nat} {ao bo a1 b1 : Option Addr} {ss : List ByteArray} {xs : List Wr} (hv : VarD w C (.slice a1 n1 c1) (.slice b1 m1 d1)) (hs : Ss w ao ss) (hi : Ios w bo xs) :
    DV ((w.setCell ⟨C, 0, none⟩ (.slice ao ss.length ca)).setCell ⟨C, 1, none⟩ (.slice bo xs.length cb)) C ao ca bo cb ss xs ∧ Keep (fun j => j = C) w ((w.setCell ⟨C, 0, none⟩ (.slice ao ss.length ca)).setCell ⟨C, 1, none⟩ (.slice bo xs.length cb)) := by
  have hk : Keep (fun j => j = C) w ((w.setCell ⟨C, 0, none⟩ (.slice ao ss.length ca)).setCell ⟨C, 1, none⟩ (.slice bo xs.length cb)) := ((Keep.refl (fun j => j = C) w).setCell (p := ⟨C, 0, none⟩) rfl _).setCell (p := ⟨C, 1, none⟩) rfl _
  exact ⟨⟨(hv.set0 _).set1 _, hs.keepX hv (noStr_var _ _ _ _ _ _) hk, hi.keepX hv (noStr_var _ _ _ _ _ _) hk⟩, hk⟩

/-- The loop's world: the disk's variable, the answer's, the source. -/
structure DkSt (w W : World) (b : Nat) (so : Option Addr) (n cap m C : Nat) (ao : Option Addr) (ca : Nat) (bo : Option Addr) (cb : Nat) (ss : List ByteArray) (xs : List Wr) : Prop where
  dv : DV W C ao ca bo cb ss xs
  r : VarD W w.heap.size (.slice none 0 0) (.slice none 0 0)
  k : Keep (fun k => k = b ∨ w.heap.size ≤ k) w W
  s : SrcK W b so n cap m
  c : w.heap.size < C
theorem DkSt.below {w W W' : World} {b n cap m C ca cb : Nat} {so ao bo : Option Addr} {ss : List ByteArray} {xs : List Wr} (h : DkSt w W b so n cap m C ao ca bo cb ss xs) (hb : Below W.heap.size W W') : DkSt w W' b so n cap m C ao ca bo cb ss xs :=
  ⟨h.dv.below hb, h.r.below hb, h.k.trans (Keep.of_below hb), h.s.below hb, h.c⟩
theorem DkSt.src {w W W' : World} {b n cap m m' C ca cb : Nat} {so ao bo : Option Addr} {ss : List ByteArray} {xs : List Wr} (h : DkSt w W b so n cap m C ao ca bo cb ss xs) (hb : b < w.heap.size) (hs : SrcK W' b so n cap m') (hk : Keep (fun j => j = b) W W') : DkSt w W' b so n cap m' C ao ca bo cb ss xs :=
  ⟨h.dv.src h.s (by have := h.c; omega) hk, h.r.keep hk (by omega), h.k.trans (hk.mono (fun k h => .inl h)), hs, h.c⟩
theorem DkSt.more {w W : World} {b n cap m m' C ca cb : Nat} {so ao bo : Option Addr} {ss : List ByteArray} {xs : List Wr} (h : DkSt w W b so n cap m C ao ca bo cb ss xs) (hm : m ≤ m') : DkSt w W b so n cap m' C ao ca bo cb ss xs := ⟨h.dv, h.r, h.k, h.s.more hm, h.c⟩
/-- The variable is stored anew. -/
theorem DkSt.store {w W : World} {b n cap m m0 C ca cb ca' cb' : Nat} {so ao bo ao' bo' : Option Addr} {ss ss' : List ByteArray} {xs xs' : List Wr} (h : DkSt w W b so n cap m C ao ca bo cb ss xs) (h0 : SrcK w b so n cap m0) (hs : Ss W ao' ss') (hi : Ios W bo' xs') :
    DkSt w ((W.setCell ⟨C, 0, none⟩ (.slice ao' ss'.length ca')).setCell ⟨C, 1, none⟩ (.slice bo' xs'.length cb')) b so n cap m C ao' ca' bo' cb' ss' xs' := by
  obtain ⟨hd, hk⟩ := DV.store (ca := ca') (cb := cb') h.dv.var hs hi
  have hb := h0.lt
  have hK := h.k.trans (hk.mono (fun k e => .inr (by have := h.c; omega)))
  exact ⟨hd, h.r.keep hk (by have := h.c; omega), hK, h0.other h.s (keep_drop hK) hk (by have := h.c; omega), h.c⟩

end Go.Proofs.YtlhinknmbgijeabDoor

/- Contracts of the model's drawn texts: some, TextOf. -/
namespace Go.Proofs.YtlhinknmbgijeabDoor
open Go.RowKit
set_option linter.unusedVariables false
set_option maxRecDepth 100000

theorem infoU : (Tryd.prog.info? 5).map (fun i => (i.zero, i.size, i.bytes)) = some (some (.int .u8 0), 1, 1) := by kernel_rfl
theorem keep_newT {w w1 w2 : World} {b : Nat} {S : Nat → Prop} (h : Keep (fun k => k = b) w w1) (hk : Keep S w1 w2) (hs : ∀ k, S k → w.heap.size ≤ k ∨ k = b) : Keep (fun k => k = b) w w2 :=
  ⟨hk.os.trans h.os, hk.tape.trans h.tape, hk.output.trans h.output, Nat.le_trans h.size hk.size, fun k hl hn => (hk.block k (Nat.lt_of_lt_of_le hl h.size) (fun hS => by
    rcases hs k hS with h1 | h1
    · omega
    · exact hn h1)).trans (h.block k hl hn)⟩
theorem SrcK.otherT {w w1 w2 : World} {b : Nat} {ao : Option Addr} {n cap m m0 : Nat} {S : Nat → Prop} (h0 : SrcK w b ao n cap m0) (h : SrcK w1 b ao n cap m) (hw : Keep (fun k => k = b) w w2) (hk : Keep S w1 w2) (hs : ¬ S b) : SrcK w2 b ao n cap m := by
  obtain ⟨x0, y0, _, _, _, _, hblk0⟩ := h0.src
  obtain ⟨x, y, c0, c1, c2, c3, c4⟩ := h.src
  refine ⟨⟨x, y, c0, c1, c2, c3, ?_⟩, h0.bytes.keep hblk0 (fun z h => by cases h) hw⟩
  rw [hk.block b (Array.getElem?_eq_some_iff.1 c4).1 hs]; exact c4

set_option maxHeartbeats 3200000 in
theorem some_k (b : Nat) (ao : Option Addr) (n cap m k : Nat) (w : World) (hk : k ≤ 100) (hm : m ≤ 700000) (hn : n ≤ 1048576) (hs : SrcK w b ao n cap m) :
    Calls Tryd.prog 99 #[.pointer (some ⟨b, 0, none⟩), .int .i64 k] w fun e w' => ∃ t : ByteArray, e = .returned (.string t) ∧ t.size = k ∧ SrcK w' b ao n cap (m + 3 * k) ∧ Keep (fun j => j = b) w w' := by
  have hbl := hs.lt
  have HS0 := hide hs
  clear hs
  obtain ⟨j0, hj, hy0, hy1, hy2⟩ := info_parts infoU
  have HSA := hide ((unhide HS0).below (Joins.below_alloc1 w (.cells #[] 5)))
  have HKA : Hid (Keep (fun j => j = b) w (w.alloc (.cells #[] 5))) := hide (Keep.of_below (Joins.below_alloc1 _ _))
  go_enter Tryd.func99, Tryd.ntmps99
  go_wp2
  go_loopw [5, 6] (fun o i wr => ∃ (j : Nat) (ns : List Int) (qo : Option Addr) (qa : Nat), j ≤ k ∧ ns.length = j ∧ i = .int .i64 j ∧ o = .slice qo j qa ∧ Hid (OwnR wr w.heap.size 5 1 (.slice qo j qa) j (byteV ns)) ∧ Hid (Keep (fun x => x = b) w wr) ∧ Hid (SrcK wr b ao n cap (m + 3 * j))) (fun _ i _ => k - (intOf i).toNat)
  case atStart => exact ⟨0, [], _, _, Nat.zero_le _, rfl, rfl, rfl, hide (.inl ⟨rfl, rfl, _, rfl⟩), HKA, HSA⟩
  case round =>
    obtain ⟨j, ns, qo, qa, hjk, hns, rfl, rfl, HO, HK, HS⟩ := hrel
    by_cases hlt : j < k
    · go_wp2_with fail
      refine (next_k b ao n cap _ 26 _ (by omega) (by omega) (by omega) hn (unhide HS)).mono ?_
      rintro e w2 ⟨r, rfl, hr0, hr1, hs2, hk2⟩
      have HO2 := hide ((unhide HO).keep hk2 (fun g hg e => by have := ((unhide HO).ge g hg).1; omega))
      have HK2 := hide ((unhide HK).trans hk2)
      have HS2 := hide hs2
      clear hs2 hk2
      have HOA := hide ((unhide HO2).below (Joins.below_alloc1 _ (.cells #[.int .u8 (97 + r)] 5)))
      have HKB := hide ((unhide HK2).trans (Keep.of_below (Joins.below_alloc1 _ (.cells #[.int .u8 (97 + r)] 5))))
      have HSB := hide ((unhide HS2).below (Joins.below_alloc1 _ (.cells #[.int .u8 (97 + r)] 5)))
      have HSZ := hide (unhide HK2).size
      go_wp2_with (at_builtin; refine wpList_append_one rfl _ _ 22 rfl w.heap.size 5 j0 (.int .u8 0) 1 1 Tryd.underlying22 hj hy0 hy1 hy2 rfl (by omega) qo j qa (byteV ns) rfl (unhide HOA) (by have := unhide HSZ; simp; omega) ⟨w2.heap.size, 0, none⟩ _ [.int .u8 (97 + r)] rfl rfl (byte_news w2 _ _) (byte_one _) (by unfold maxLen; omega) (by omega) ?_; intro g2 cap2 wA hoA hkA; have HSF := hide (And.intro hoA (keep_newT (unhide HKB) hkA (fun k hk => .inl ((unhide HOA).ge k hk).1))); have HSC := hide ((unhide HS0).otherT (unhide HSB) (unhide HSF).2 hkA (fun hk => by have := ((unhide HOA).ge _ hk).1; omega)); clear hoA hkA)
      go_roundw
      case rel => exact ⟨j + 1, ns ++ [97 + r], some ⟨g2, 0, none⟩, cap2, by omega, by simp [hns], by go_num, rfl, hide (.inr ⟨by omega, by rw [byteV_snoc]; exact (unhide HSF).1⟩), hide (unhide HSF).2, hide ((unhide HSC).more (by omega))⟩
      case measure => simp [intOf]; omega
    · have hcv := convert_own (P := Tryd.prog) Tryd.underlying22 Tryd.underlying5 Tryd.underlying9 (unhide HO)
      have HJK : Hid (j = k) := hide (by omega)
      have hlt' : ¬ (j : Int) < (k : Int) := by omega
      go_wp2
      go_ret
      exact ⟨strOfNums ns, rfl, by rw [strOfNums_size, hns]; exact unhide HJK, (unhide HS).more (by omega), unhide HK⟩

end Go.Proofs.YtlhinknmbgijeabDoor
