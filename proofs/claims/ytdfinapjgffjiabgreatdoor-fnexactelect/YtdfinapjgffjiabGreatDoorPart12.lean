import Derived.Test.YtdfinapjgffjiabGreatDoorRows
import Derived.Test.YtdfinapjgffjiabGreatDoorPart1
import Derived.Test.YtdfinapjgffjiabGreatDoorPart8
import Derived.Test.YtdfinapjgffjiabGreatDoorPart9
import Derived.Test.YtdfinapjgffjiabGreatDoorPart11
import Derived.WalkKit
import Derived.WalkSpells
import Derived.KernelRfl
import Derived.BigQuiet
import Derived.Deep.QuietTactic
import Derived.Deep.RegionWith
import Derived.Deep.RegionHeld3
import Derived.Deep.CutRange
import Derived.Test.YtdfinapjgffjiabGreatDoorPart4
import Derived.Deep.RegionLawGrows

/- Contract of spec's l05Read. -/
namespace Go.Proofs.YtdfinapjgffjiabGreatDoor
open Go.RowKit
set_option linter.unusedVariables false
set_option maxRecDepth 100000

/-- A ballot in a variable, an answer's variable behind it. -/
structure PxAt (w W : World) (x : Nat) (p : Pxs) : Prop where
  v : VarP W x 52 p
  r : VarP W (x + 1) 52 p00
  k : Below w.heap.size w W
  ge : w.heap.size ≤ x
theorem PxAt.below {w W W' : World} {x : Nat} {p : Pxs} (h : PxAt w W x p) (hb : Below W.heap.size W W') : PxAt w W' x p := ⟨h.v.below hb, h.r.below hb, fr h.k hb, h.ge⟩
theorem PxAt.set {w W : World} {x : Nat} {p : Pxs} (h : PxAt w W x p) (i : Nat) (u : Value) (q : Pxs) (hv : VarP (W.setCell ⟨x, i, none⟩ u) x 52 q) : PxAt w (W.setCell ⟨x, i, none⟩ u) x q :=
  ⟨hv, h.r.keep ((Keep.refl (fun k => k = x) W).setCell (p := ⟨x, i, none⟩) rfl u) (by show ¬ x + 1 = x; omega), h.k.setCell (p := ⟨x, i, none⟩) h.ge u, h.ge⟩

def pxRd1 (p : Pxs) (bs : List Bk) : Pxs :=
  if p.next < 4 then
    (if p.ver < (bkOf (bs.getD p.next.toNat bk0) p.ver).ver ∨ p.ballot < (bkOf (bs.getD p.next.toNat bk0) p.ver).mbal then { p with phase := 6 } else pxEnd (pxLook p (bkOf (bs.getD p.next.toNat bk0) p.ver)))
  else pxEnd p
theorem pxRd_eq (p : Pxs) (bs : List Bk) : pxRd p bs = pxRd1 { p with next := skip p p.next } bs := rfl

set_option maxHeartbeats 6400000 in
theorem l05Read_any (p : Pxs) (ao : Option Addr) (n cap : Nat) (bs : List Bk) (w : World) (hn : bs.length = n) (h4 : n = 4) (hh : 0 ≤ p.host ∧ p.host ≤ 3) (hx : 0 ≤ p.next ∧ p.next ≤ 4) (hr : Bks w ao bs) :
    Calls Tryz.prog 74 #[pV p, .slice ao n cap] w fun e w' => e = .returned (pV (pxRd p bs)) ∧ Below w.heap.size w w' := by
  have H0 : Hid (PxAt w ((w.alloc (.cells #[.int .i64 p.host, .int .i64 p.ver, .int .i64 p.phase, .int .i64 p.ballot, .int .i64 p.value, .int .i64 p.next, .int .i64 p.best, .int .i64 p.bestBal] 52)).alloc (.cells #[.int .i64 0, .int .i64 0, .int .i64 0, .int .i64 0, .int .i64 0, .int .i64 0, .int .i64 0, .int .i64 0] 52)) w.heap.size p) :=
    hide ⟨(VarP.new w _ p).below (Joins.below_alloc1 _ _), by
      have := VarP.new0 (w.alloc (.cells #[.int .i64 p.host, .int .i64 p.ver, .int .i64 p.phase, .int .i64 p.ballot, .int .i64 p.value, .int .i64 p.next, .int .i64 p.best, .int .i64 p.bestBal] 52)) 52
      simp only [World.size_alloc] at this
      exact this, Joins.below_alloc2 _ _ _, Nat.le_refl _⟩
  have HR := hide hr
  clear hr
  go_enter Tryz.func74, Tryz.ntmps74
  go_upto_region 1 with fail
  revert H0
  generalize (w.alloc (.cells #[.int .i64 p.host, .int .i64 p.ver, .int .i64 p.phase, .int .i64 p.ballot, .int .i64 p.value, .int .i64 p.next, .int .i64 p.best, .int .i64 p.bestBal] 52)).alloc (.cells #[.int .i64 0, .int .i64 0, .int .i64 0, .int .i64 0, .int .i64 0, .int .i64 0, .int .i64 0, .int .i64 0] 52) = W0
  intro H0
  have wr1 : IntKind.i64.wrap (p.next + 1) = p.next + 1 := by rw [IntKind.wrap_i64]; omega
  obtain ⟨c0, c1, c2, c3, c4, c5, c6, c7⟩ := (unhide H0).v.cells
  obtain ⟨f0, f1, f2, f3, f4, f5, f6, f7⟩ := (unhide H0).v.free
  go_upto_if 10 with fail
  go_cut [] from 6 to 14 (fun wx => Hid (PxAt w wx w.heap.size { p with next := skip p p.next }))
  case first =>
    by_cases e : p.next = p.host
    · have es : Hid (skip p p.next = p.next + 1) := hide (if_pos e)
      have e' : (p.next == p.host) = true := by simp [e]
      have E9 := hide ((unhide H0).set 5 (.int .i64 (p.next + 1)) { p with next := p.next + 1 } ((unhide H0).v.set5 _))
      clear e
      go_wp2_with fail
      go_meet
      rw [unhide es]
      exact E9
    · have es : Hid (skip p p.next = p.next) := hide (if_neg e)
      have e' : (p.next == p.host) = false := by simp [e]
      clear e
      go_wp2_with fail
      go_meet
      rw [unhide es]
      exact H0
  case rest =>
    clear c0 c1 c2 c3 c4 c5 c6 c7 f0 f1 f2 f3 f4 f5 f6 f7 H0 wr1
    have hp0 : 0 ≤ skip p p.next ∧ skip p p.next ≤ 4 := by unfold skip; split <;> omega
    have hd : Hid (pxRd p bs = pxRd1 { p with next := skip p p.next } bs) := hide rfl
    revert hcut hd hp0
    have hh1 : 0 ≤ ({ p with next := skip p p.next } : Pxs).host ∧ ({ p with next := skip p p.next } : Pxs).host ≤ 3 := hh
    revert hh1
    rw [show skip p p.next = ({ p with next := skip p p.next } : Pxs).next from rfl]
    generalize ({ p with next := skip p p.next } : Pxs) = q
    intro hh1 hcut hp0 hd
    subst h4
    rename World => W1
    obtain ⟨c0, c1, c2, c3, c4, c5, c6, c7⟩ := (unhide hcut).v.cells
    obtain ⟨f0, f1, f2, f3, f4, f5, f6, f7⟩ := (unhide hcut).v.free
    obtain ⟨r0, r1, r2, r3, r4, r5, r6, r7⟩ := (unhide hcut).r.cells
    obtain ⟨s0, s1, s2, s3, s4, s5, s6, s7⟩ := (unhide hcut).r.free
    have HC := hcut
    clear hcut hh hx
    go_upto_if 17 with fail
    go_cut [] from 15 to 68 (fun wx => ∃ z : Pxs, Hid (PxAt w wx w.heap.size z) ∧ Hid (pxRd p bs = pxEnd z))
    case first =>
      by_cases h4 : q.next < 4
      · have hd1 : Hid (pxRd p bs = (if q.ver < (bkOf (bs.getD q.next.toNat bk0) q.ver).ver ∨ q.ballot < (bkOf (bs.getD q.next.toNat bk0) q.ver).mbal then { q with phase := 6 } else pxEnd (pxLook q (bkOf (bs.getD q.next.toNat bk0) q.ver)))) := hide ((unhide hd).trans (if_pos h4))
        clear hd
        obtain ⟨k, hk⟩ : ∃ k : Nat, q.next = k := ⟨q.next.toNat, by omega⟩
        have hkl : k < bs.length := by omega
        rw [show q.next.toNat = k by omega] at hd1
        obtain ⟨b, off, rfl, hb, g0, g1, g2, g3⟩ := ((unhide HR).below (unhide HC).k).get k hkl
        revert hd1 g0 g1 g2 g3
        generalize bs.getD k bk0 = y
        intro hd1 g0 g1 g2 g3
        have hk4 : k < 4 := by omega
        have hk5 : (k : Int) < 4 := by omega
        have hk6 : (0 : Int) ≤ (k : Int) := by omega
        have hbn : b ≠ W1.heap.size := by omega
        have hxn : w.heap.size ≠ W1.heap.size := by have := (unhide HC).v.lt; omega
        have hxn1 : w.heap.size + 1 ≠ W1.heap.size := by have := (unhide HC).r.lt; omega
        have hxl : w.heap.size < W1.heap.size := (unhide HC).v.lt
        have hxl1 : w.heap.size + 1 < W1.heap.size := (unhide HC).r.lt
        have hbn' : W1.heap.size ≠ b := by omega
        have hxn' : W1.heap.size ≠ w.heap.size := by omega
        have hxn1' : W1.heap.size ≠ w.heap.size + 1 := by omega
        rw [hk] at c5
        go_upto_region 4 with fail
        go_cut [5] from 15 to 25 (fun c wx => ∃ C : Nat, c = .pointer (some ⟨C, 0, none⟩) ∧ Hid (Got W1 wx C 80 (bkOf y q.ver)))
        case first =>
          go_region_held3 (fun w' => w'.cell? ⟨w.heap.size, 5, none⟩ = some (.int .i64 (k : Int)) ∧ w'.cell? ⟨w.heap.size, 1, none⟩ = some (.int .i64 q.ver) ∧ w'.cell? ⟨b, off + k * 4, none⟩ = some (.int .i64 y.ver) ∧ w'.cell? ⟨b, off + k * 4 + 1, none⟩ = some (.int .i64 y.mbal) ∧ w'.cell? ⟨b, off + k * 4 + 2, none⟩ = some (.int .i64 y.bal) ∧ w'.cell? ⟨b, off + k * 4 + 3, none⟩ = some (.int .i64 y.inp)) (go_keep)
            ((go_at_call 73; refine (l05Of_any y q.ver _).mono ?_; rintro e w2 ⟨rfl, hb2⟩; (first | (have hv2 : VarB w2 W1.heap.size 80 bk0 := (by exact ((VarB.new0 W1 _).below ((Below.refl _ _).drew)).below hb2); obtain ⟨x0, x1, x2, x3⟩ := hv2.cells; obtain ⟨y0, y1, y2, y3⟩ := hv2.free; have HB2 : Hid (Below W1.heap.size W1 w2) := (by exact hide (fr (Joins.below_alloc1 W1 _).drew hb2)); have HV2 := hide hv2; clear hv2 hb2) | (have HB2 : Hid (Below W1.heap.size W1 w2) := (by exact hide (fr ((Below.refl _ W1).drew) hb2)); clear hb2)); have m0 := ((unhide HB2).cell (p := ⟨w.heap.size, 5, none⟩) hxl).trans c5; have m1 := ((unhide HB2).cell (p := ⟨w.heap.size, 1, none⟩) hxl).trans c1; have m2 := ((unhide HB2).cell (p := ⟨b, off + k * 4, none⟩) hb).trans g0; have m3 := ((unhide HB2).cell (p := ⟨b, off + k * 4 + 1, none⟩) hb).trans g1; have m4 := ((unhide HB2).cell (p := ⟨b, off + k * 4 + 2, none⟩) hb).trans g2; have m5 := ((unhide HB2).cell (p := ⟨b, off + k * 4 + 3, none⟩) hb).trans g3))
          all_goals
            go_wp2_with fail
            go_meet
            first
              | exact ⟨_, rfl, hide (Got.set bk0 (unhide HB2) (unhide HV2) (Nat.le_refl _))⟩
              | exact ⟨_, rfl, hide (Got.top _ _ (unhide HB2))⟩
        case rest =>
          obtain ⟨C, rfl, HG⟩ := hcut
          have HC2 := hide ((unhide HC).below (unhide HG).k)
          have hCl : C ≠ w.heap.size := by have := (unhide HC).v.lt; have := (unhide HG).gt; omega
          have hCr : C ≠ w.heap.size + 1 := by have := (unhide HC).r.lt; have := (unhide HG).gt; omega
          have hCl' : w.heap.size ≠ C := fun e => hCl e.symm
          have hCr' : w.heap.size + 1 ≠ C := fun e => hCr e.symm
          clear c0 c1 c2 c3 c4 c5 c6 c7 f0 f1 f2 f3 f4 f5 f6 f7 r0 r1 r2 r3 r4 r5 r6 r7 s0 s1 s2 s3 s4 s5 s6 s7 g0 g1 g2 g3 hb hbn hbn' hxn hxn1 hxn' hxn1' hxl hxl1 hk hk4 hk5 hk6 hkl HR
          obtain ⟨c0, c1, c2, c3, c4, c5, c6, c7⟩ := (unhide HC2).v.cells
          obtain ⟨f0, f1, f2, f3, f4, f5, f6, f7⟩ := (unhide HC2).v.free
          obtain ⟨r0, r1, r2, r3, r4, r5, r6, r7⟩ := (unhide HC2).r.cells
          obtain ⟨s0, s1, s2, s3, s4, s5, s6, s7⟩ := (unhide HC2).r.free
          obtain ⟨v0, v1, v2, v3⟩ := (unhide HG).v.cells
          revert hd1 v0 v1 v2 v3 HG
          generalize bkOf y q.ver = z
          intro hd1 HG v0 v1 v2 v3
          by_cases ha : q.ver < z.ver ∨ q.ballot < z.mbal
          · have HE : Hid (pxRd p bs = { q with phase := 6 }) := hide ((unhide hd1).trans (if_pos ha))
            have HK := hide (fun u u0 u1 u2 u3 u4 u5 u6 u7 => below8 ((unhide HC2).k.setCell (p := ⟨w.heap.size, 2, none⟩) (Nat.le_refl _) u) (show w.heap.size ≤ w.heap.size + 1 by omega) u0 u1 u2 u3 u4 u5 u6 u7)
            rcases Classical.em (q.ver < z.ver) with h1 | h1
            · go_wp2
              exact bodyPost_ret (v := pV { q with phase := 6 }) (by simp [results, Tryz.results74, go_sem, r0, r1, r2, r3, r4, r5, r6, r7]) rfl ⟨by rw [unhide HE], unhide HK _ _ _ _ _ _ _ _ _⟩
            · have h2 : q.ballot < z.mbal := by rcases ha with h | h; exact absurd h h1; exact h
              go_wp2
              exact bodyPost_ret (v := pV { q with phase := 6 }) (by simp [results, Tryz.results74, go_sem, r0, r1, r2, r3, r4, r5, r6, r7]) rfl ⟨by rw [unhide HE], unhide HK _ _ _ _ _ _ _ _ _⟩
          · have HE : Hid (pxRd p bs = pxEnd (pxLook q z)) := hide ((unhide hd1).trans (if_neg ha))
            have ha1 : ¬ q.ver < z.ver := fun h => ha (.inl h)
            have ha2 : ¬ q.ballot < z.mbal := fun h => ha (.inr h)
            clear ha hd1
            have wr1 : IntKind.i64.wrap (q.next + 1) = q.next + 1 := by rw [IntKind.wrap_i64]; omega
            have wr2 : IntKind.i64.wrap (q.next + 1 + 1) = q.next + 1 + 1 := by rw [IntKind.wrap_i64]; omega
            by_cases hq2 : q.phase = 2
            · by_cases hbb : q.bestBal < z.bal
              · by_cases hs1 : q.next + 1 = q.host
                · have hs2 : (q.next + 1 == q.host) = true := by simp [hs1]
                  have EL : Hid (pxLook q z = { q with best := z.inp, bestBal := z.bal, next := q.next + 1 + 1 }) := hide (by simp [pxLook, skip, hs1, hq2, hbb])
                  have E9 := hide ((((((((unhide HC2).set 6 (.int .i64 (z.inp)) _ ((unhide HC2).v.set6 _))).set 7 (.int .i64 (z.bal)) _ ((((unhide HC2).set 6 (.int .i64 (z.inp)) _ ((unhide HC2).v.set6 _))).v.set7 _))).set 5 (.int .i64 (q.next + 1)) _ ((((((unhide HC2).set 6 (.int .i64 (z.inp)) _ ((unhide HC2).v.set6 _))).set 7 (.int .i64 (z.bal)) _ ((((unhide HC2).set 6 (.int .i64 (z.inp)) _ ((unhide HC2).v.set6 _))).v.set7 _))).v.set5 _))).set 5 (.int .i64 (q.next + 1 + 1)) _ ((((((((unhide HC2).set 6 (.int .i64 (z.inp)) _ ((unhide HC2).v.set6 _))).set 7 (.int .i64 (z.bal)) _ ((((unhide HC2).set 6 (.int .i64 (z.inp)) _ ((unhide HC2).v.set6 _))).v.set7 _))).set 5 (.int .i64 (q.next + 1)) _ ((((((unhide HC2).set 6 (.int .i64 (z.inp)) _ ((unhide HC2).v.set6 _))).set 7 (.int .i64 (z.bal)) _ ((((unhide HC2).set 6 (.int .i64 (z.inp)) _ ((unhide HC2).v.set6 _))).v.set7 _))).v.set5 _))).v.set5 _))
                  clear hs1
                  go_wp2_with fail
                  go_meet
                  exact ⟨_, E9, hide (by rw [unhide HE, unhide EL])⟩
                · have hs2 : (q.next + 1 == q.host) = false := by simp [hs1]
                  have EL : Hid (pxLook q z = { q with best := z.inp, bestBal := z.bal, next := q.next + 1 }) := hide (by simp [pxLook, skip, hs1, hq2, hbb])
                  have E9 := hide ((((((unhide HC2).set 6 (.int .i64 (z.inp)) _ ((unhide HC2).v.set6 _))).set 7 (.int .i64 (z.bal)) _ ((((unhide HC2).set 6 (.int .i64 (z.inp)) _ ((unhide HC2).v.set6 _))).v.set7 _))).set 5 (.int .i64 (q.next + 1)) _ ((((((unhide HC2).set 6 (.int .i64 (z.inp)) _ ((unhide HC2).v.set6 _))).set 7 (.int .i64 (z.bal)) _ ((((unhide HC2).set 6 (.int .i64 (z.inp)) _ ((unhide HC2).v.set6 _))).v.set7 _))).v.set5 _))
                  clear hs1
                  go_wp2_with fail
                  go_meet
                  exact ⟨_, E9, hide (by rw [unhide HE, unhide EL])⟩
              · by_cases hs1 : q.next + 1 = q.host
                · have hs2 : (q.next + 1 == q.host) = true := by simp [hs1]
                  have EL : Hid (pxLook q z = { q with next := q.next + 1 + 1 }) := hide (by simp [pxLook, skip, hs1, hbb])
                  have E9 := hide ((((unhide HC2).set 5 (.int .i64 (q.next + 1)) _ ((unhide HC2).v.set5 _))).set 5 (.int .i64 (q.next + 1 + 1)) _ ((((unhide HC2).set 5 (.int .i64 (q.next + 1)) _ ((unhide HC2).v.set5 _))).v.set5 _))
                  clear hs1
                  go_wp2_with fail
                  go_meet
                  exact ⟨_, E9, hide (by rw [unhide HE, unhide EL])⟩
                · have hs2 : (q.next + 1 == q.host) = false := by simp [hs1]
                  have EL : Hid (pxLook q z = { q with next := q.next + 1 }) := hide (by simp [pxLook, skip, hs1, hbb])
                  have E9 := hide ((unhide HC2).set 5 (.int .i64 (q.next + 1)) _ ((unhide HC2).v.set5 _))
                  clear hs1
                  go_wp2_with fail
                  go_meet
                  exact ⟨_, E9, hide (by rw [unhide HE, unhide EL])⟩
            · by_cases hs1 : q.next + 1 = q.host
              · have hs2 : (q.next + 1 == q.host) = true := by simp [hs1]
                have EL : Hid (pxLook q z = { q with next := q.next + 1 + 1 }) := hide (by simp [pxLook, skip, hs1, hq2])
                have E9 := hide ((((unhide HC2).set 5 (.int .i64 (q.next + 1)) _ ((unhide HC2).v.set5 _))).set 5 (.int .i64 (q.next + 1 + 1)) _ ((((unhide HC2).set 5 (.int .i64 (q.next + 1)) _ ((unhide HC2).v.set5 _))).v.set5 _))
                clear hs1
                go_wp2_with fail
                go_meet
                exact ⟨_, E9, hide (by rw [unhide HE, unhide EL])⟩
              · have hs2 : (q.next + 1 == q.host) = false := by simp [hs1]
                have EL : Hid (pxLook q z = { q with next := q.next + 1 }) := hide (by simp [pxLook, skip, hs1, hq2])
                have E9 := hide ((unhide HC2).set 5 (.int .i64 (q.next + 1)) _ ((unhide HC2).v.set5 _))
                clear hs1
                go_wp2_with fail
                go_meet
                exact ⟨_, E9, hide (by rw [unhide HE, unhide EL])⟩
      · have hd1 : Hid (pxRd p bs = pxEnd q) := hide ((unhide hd).trans (if_neg h4))
        clear hd
        go_wp2_with fail
        go_meet
        exact ⟨q, HC, hd1⟩
    case rest =>
      obtain ⟨z, HZ, HE⟩ := hcut
      clear c0 c1 c2 c3 c4 c5 c6 c7 f0 f1 f2 f3 f4 f5 f6 f7 r0 r1 r2 r3 r4 r5 r6 r7 s0 s1 s2 s3 s4 s5 s6 s7 HC hd HR hp0 hh1
      obtain ⟨c0, c1, c2, c3, c4, c5, c6, c7⟩ := (unhide HZ).v.cells
      obtain ⟨f0, f1, f2, f3, f4, f5, f6, f7⟩ := (unhide HZ).v.free
      obtain ⟨r0, r1, r2, r3, r4, r5, r6, r7⟩ := (unhide HZ).r.cells
      obtain ⟨s0, s1, s2, s3, s4, s5, s6, s7⟩ := (unhide HZ).r.free
      have hne : w.heap.size ≠ w.heap.size + 1 := by omega
      have hne' : w.heap.size + 1 ≠ w.heap.size := by omega
      have HK0 := hide (fun u0 u1 u2 u3 u4 u5 u6 u7 => below8 (unhide HZ).k (show w.heap.size ≤ w.heap.size + 1 by omega) u0 u1 u2 u3 u4 u5 u6 u7)
      have HK1 := hide (fun u u0 u1 u2 u3 u4 u5 u6 u7 => below8 ((unhide HZ).k.setCell (p := ⟨w.heap.size, 2, none⟩) (Nat.le_refl _) u) (show w.heap.size ≤ w.heap.size + 1 by omega) u0 u1 u2 u3 u4 u5 u6 u7)
      have HK2 := hide (fun u v u0 u1 u2 u3 u4 u5 u6 u7 => below8 (((unhide HZ).k.setCell (p := ⟨w.heap.size, 2, none⟩) (Nat.le_refl _) u).setCell (p := ⟨w.heap.size, 4, none⟩) (Nat.le_refl _) v) (show w.heap.size ≤ w.heap.size + 1 by omega) u0 u1 u2 u3 u4 u5 u6 u7)
      by_cases h4 : z.next < 4
      · have EE : Hid (pxRd p bs = z) := hide ((unhide HE).trans (pxEnd_lt h4))
        go_wp2
        exact bodyPost_ret (v := pV z) (by simp [results, Tryz.results74, go_sem, r0, r1, r2, r3, r4, r5, r6, r7]) rfl ⟨by rw [unhide EE], unhide HK0 _ _ _ _ _ _ _ _⟩
      · by_cases hq4 : z.phase = 4
        · have EE : Hid (pxRd p bs = { z with phase := 5 }) := hide ((unhide HE).trans (pxEnd_4 h4 hq4))
          go_wp2
          exact bodyPost_ret (v := pV { z with phase := 5 }) (by simp [results, Tryz.results74, go_sem, r0, r1, r2, r3, r4, r5, r6, r7]) rfl ⟨by rw [unhide EE], unhide HK1 _ _ _ _ _ _ _ _ _⟩
        · by_cases hbb : 0 < z.bestBal
          · have EE : Hid (pxRd p bs = { z with phase := 3, value := z.best }) := hide ((unhide HE).trans (by unfold pxEnd; rw [if_neg h4, if_neg hq4, if_pos hbb]))
            go_wp2
            exact bodyPost_ret (v := pV { z with phase := 3, value := z.best }) (by simp [results, Tryz.results74, go_sem, r0, r1, r2, r3, r4, r5, r6, r7]) rfl ⟨by rw [unhide EE], unhide HK2 _ _ _ _ _ _ _ _ _ _⟩
          · have EE : Hid (pxRd p bs = { z with phase := 3 }) := hide ((unhide HE).trans (by unfold pxEnd; rw [if_neg h4, if_neg hq4, if_neg hbb]))
            go_wp2
            exact bodyPost_ret (v := pV { z with phase := 3 }) (by simp [results, Tryz.results74, go_sem, r0, r1, r2, r3, r4, r5, r6, r7]) rfl ⟨by rw [unhide EE], unhide HK1 _ _ _ _ _ _ _ _ _⟩

end Go.Proofs.YtdfinapjgffjiabGreatDoor

/- A law on append: a row behind an empty one, at a step that does not draw. -/
namespace Go.Proofs.YtdfinapjgffjiabGreatDoor
open Go.RowKit
set_option linter.unusedVariables false
section
variable {P : Program}
theorem wpList_append_fresh {w : World} {ops : Array Oper} {rest : List Oper} {o : Oper} {a : Act} {Q : Exit → Act → World → Prop} (hgd : o.guard = none) (s x : Operand) (t : TypeId)
    (ho : o.op = .call { callee := .builtin .append, args := #[s, x], argTypes := #[t, t] })
    (e : TypeId) (i : TypeInfo) (z : Value) (size bytes : Nat) (ht : P.underlying t = some (.slice e)) (hi : P.info? e = some i) (hz : i.zero = some z)
    (hsize : i.size = size) (hby : i.bytes = bytes) (hzs : z.cells.size = size) (hsz : 0 < size)
    (hs0 : isFresh (a.eval s) = true) (so : Option Addr) (m c : Nat) (news : List Value) (hx : a.eval x = .slice so m c) (hn : news.length = m * size)
    (hc : 0 < m → ∃ ad, so = some ad ∧ ∀ j u, news[j]? = some u → w.cell? (ad.add j) = some u) (b1 : m ≤ maxLen) (b2 : m * bytes ≤ 140737488355328)
    (hK : ∀ ao cap w', OwnR w' w.heap.size e size (.slice ao m cap) m news → w.grownBy w' none → wpList P ops Q rest (a.put o.dst (.slice ao m cap)) w') : wpList P ops Q (o :: rest) a w := by
  refine wpList_plain hgd fun K hK' => ?_
  obtain ⟨d, hs⟩ := isFresh_form hs0
  obtain ⟨ao, cap, w', hrun, r1, r2⟩ := run_append_fresh (P := P) w t o.type e i z size bytes ht hi hz hsize hby hzs hsz d so m c news hn hc b1 b2
  unfold Oper.wp
  simp [execOp, ho, resolve, invoke, builtin, hs, hx, hrun, Result.andThen]
  exact hK' _ _ (hK _ _ _ r1 r2)
end
end Go.Proofs.YtdfinapjgffjiabGreatDoor

/- Contract of spec's l05Step. -/
namespace Go.Proofs.YtdfinapjgffjiabGreatDoor
open Go.RowKit
set_option linter.unusedVariables false
set_option maxRecDepth 100000

theorem infoK : (Tryz.prog.info? 80).map (fun i => (i.zero, i.size, i.bytes)) = some (some (.agg #[.int .i64 0, .int .i64 0, .int .i64 0, .int .i64 0]), 4, 32) := by kernel_rfl

/-- The new row, a ballot's variable, the answer's. -/
structure StAt (w W : World) (x : Nat) (p : Pxs) (qo : Option Addr) (qa : Nat) (bs : List Bk) : Prop where
  a : PxAt w W x p
  o : OwnR W (x + 2) 80 4 (.slice qo 4 qa) 4 (bksV bs)
theorem StAt.below {w W W' : World} {x : Nat} {p : Pxs} {qo : Option Addr} {qa : Nat} {bs : List Bk} (h : StAt w W x p qo qa bs) (hb : Below W.heap.size W W') : StAt w W' x p qo qa bs := ⟨h.a.below hb, h.o.below hb⟩
/-- The answer is stored. -/
theorem StAt.out {w W : World} {x : Nat} {p : Pxs} {qo : Option Addr} {qa : Nat} {bs : List Bk} (h : StAt w W x p qo qa bs) (u0 u1 u2 u3 u4 u5 u6 u7 : Value) :
    OwnR ((((((((W.setCell ⟨x + 1, 0, none⟩ u0).setCell ⟨x + 1, 1, none⟩ u1).setCell ⟨x + 1, 2, none⟩ u2).setCell ⟨x + 1, 3, none⟩ u3).setCell ⟨x + 1, 4, none⟩ u4).setCell ⟨x + 1, 5, none⟩ u5).setCell ⟨x + 1, 6, none⟩ u6).setCell ⟨x + 1, 7, none⟩ u7) w.heap.size 80 4 (.slice qo 4 qa) 4 (bksV bs) ∧
    Below w.heap.size w ((((((((W.setCell ⟨x + 1, 0, none⟩ u0).setCell ⟨x + 1, 1, none⟩ u1).setCell ⟨x + 1, 2, none⟩ u2).setCell ⟨x + 1, 3, none⟩ u3).setCell ⟨x + 1, 4, none⟩ u4).setCell ⟨x + 1, 5, none⟩ u5).setCell ⟨x + 1, 6, none⟩ u6).setCell ⟨x + 1, 7, none⟩ u7) := by
  have hg := h.a.ge
  refine ⟨?_, below8 h.a.k (by omega) _ _ _ _ _ _ _ _⟩
  exact OwnR.base ((((((((h.o.setCell (a := ⟨x + 1, 0, none⟩) (by simp) u0).setCell (a := ⟨x + 1, 1, none⟩) (by simp) u1).setCell (a := ⟨x + 1, 2, none⟩) (by simp) u2).setCell (a := ⟨x + 1, 3, none⟩) (by simp) u3).setCell (a := ⟨x + 1, 4, none⟩) (by simp) u4).setCell (a := ⟨x + 1, 5, none⟩) (by simp) u5).setCell (a := ⟨x + 1, 6, none⟩) (by simp) u6).setCell (a := ⟨x + 1, 7, none⟩) (by simp) u7) (by omega)
theorem StAt.ph {w W : World} {x : Nat} {p : Pxs} {qo : Option Addr} {qa : Nat} {bs : List Bk} (h : StAt w W x p qo qa bs) (n : Int) : StAt w (W.setCell ⟨x, 2, none⟩ (.int .i64 n)) x { p with phase := n } qo qa bs :=
  ⟨h.a.set 2 _ _ (h.a.v.set2 n), h.o.setCell (a := ⟨x, 2, none⟩) (by simp) _⟩
theorem StAt.bks {w W : World} {x : Nat} {p : Pxs} {qo : Option Addr} {qa : Nat} {bs : List Bk} (h : StAt w W x p qo qa bs) (h4 : bs.length = 4) : Bks W qo bs := by
  exact ownBks (B := x + 2) (e := 80) (cap := qa) (by rw [h4]; exact h.o)
/-- A block is stored into the row. -/
theorem own_put {w : World} {B t n cap g : Nat} {bs : List Bk} (h : w.ownsRow B t 4 (.slice (some ⟨g, 0, none⟩) n cap) n (bksV bs)) {k : Nat} (hk : k < bs.length) (y : Bk) :
    ((((w.setCell ⟨g, k * 4, none⟩ (.int .i64 y.ver)).setCell ⟨g, k * 4 + 1, none⟩ (.int .i64 y.mbal)).setCell ⟨g, k * 4 + 2, none⟩ (.int .i64 y.bal)).setCell ⟨g, k * 4 + 3, none⟩ (.int .i64 y.inp)).ownsRow B t 4 (.slice (some ⟨g, 0, none⟩) n cap) n (bksV (bs.set k y)) := by
  rw [← bksV_set hk y]
  have h3 := stored3 h (k * 4) (k * 4 + 1) (k * 4 + 2) (.int .i64 y.ver) (.int .i64 y.mbal) (.int .i64 y.bal)
  exact (h3.stored (k * 4 + 3) (.int .i64 y.inp)).1

theorem StAt.put {w W : World} {x : Nat} {p : Pxs} {g qa : Nat} {bs : List Bk} (h : StAt w W x p (some ⟨g, 0, none⟩) qa bs) {k : Nat} (hk : k < bs.length) (y : Bk) :
    StAt w ((((W.setCell ⟨g, k * 4, none⟩ (.int .i64 y.ver)).setCell ⟨g, k * 4 + 1, none⟩ (.int .i64 y.mbal)).setCell ⟨g, k * 4 + 2, none⟩ (.int .i64 y.bal)).setCell ⟨g, k * 4 + 3, none⟩ (.int .i64 y.inp)) x p (some ⟨g, 0, none⟩) qa (bs.set k y) := by
  have hg := (h.o.ge g (own_of (by omega) rfl)).1
  have hx := h.a.ge
  have kk : Keep (fun j => j = g) W ((((W.setCell ⟨g, k * 4, none⟩ (.int .i64 y.ver)).setCell ⟨g, k * 4 + 1, none⟩ (.int .i64 y.mbal)).setCell ⟨g, k * 4 + 2, none⟩ (.int .i64 y.bal)).setCell ⟨g, k * 4 + 3, none⟩ (.int .i64 y.inp)) :=
    ((((Keep.refl (fun j => j = g) W).setCell (p := ⟨g, k * 4, none⟩) rfl _).setCell (p := ⟨g, k * 4 + 1, none⟩) rfl _).setCell (p := ⟨g, k * 4 + 2, none⟩) rfl _).setCell (p := ⟨g, k * 4 + 3, none⟩) rfl _
  refine ⟨⟨h.a.v.keep kk (by show ¬ x = g; omega), h.a.r.keep kk (by show ¬ x + 1 = g; omega), ?_, h.a.ge⟩, ?_⟩
  · exact below4 h.a.k (by omega) _ _ _ _ _ _ _ _
  · rcases h.o with ⟨h0, _, _⟩ | ⟨h0, ho⟩
    · omega
    · exact .inr ⟨h0, own_put ho hk y⟩
theorem StAt.at {w W : World} {x : Nat} {p : Pxs} {qo : Option Addr} {qa : Nat} {bs : List Bk} (h : StAt w W x p qo qa bs) : ∃ g, qo = some ⟨g, 0, none⟩ ∧ x + 2 ≤ g ∧ g < W.heap.size := by
  rcases h.o with ⟨h0, _, _⟩ | ⟨h0, ho⟩
  · omega
  · obtain ⟨g, cap, cur, e, hB, hg⟩ := own_form h0 ho
    simp only [Value.slice.injEq, true_and] at e
    exact ⟨g, e.1, hB, (Array.getElem?_eq_some_iff.1 hg).1⟩

theorem row_free {W : World} {B t n cap g : Nat} {xs : List Value} (h : OwnR W B t 4 (.slice (some ⟨g, 0, none⟩) (n + 1) cap) (n + 1) xs) : (∀ i, W.frozen? ⟨g, i, none⟩ = false) ∧ True ∧ True ∧ True := by
  rcases h with ⟨h0, _, _⟩ | ⟨h0, ho⟩
  · omega
  · obtain ⟨g', cap', cur, e, hB, hg⟩ := own_form h0 ho
    simp only [Value.slice.injEq, Option.some.injEq, Addr.mk.injEq, and_true] at e
    obtain ⟨rfl, _⟩ := e
    exact ⟨fun i => Joins.unfrozen_of_block hg i, trivial, trivial, trivial⟩
theorem step_fin {w W' : World} {p p' : Pxs} {bs bs' : List Bk} {c : Int} {qo : Option Addr} {qa : Nat} (hE : pxStepP p bs = (p', bs')) (hC : stEnd p = c) (hO : OwnR W' w.heap.size 80 4 (.slice qo 4 qa) 4 (bksV bs') ∧ Below w.heap.size w W') :
    ∃ qo' qa', Ending.returned (.tuple #[pV p', .slice qo 4 qa, .int .i64 c]) = .returned (.tuple #[pV (pxStepP p bs).1, .slice qo' 4 qa', .int .i64 (stEnd p)]) ∧ OwnR W' w.heap.size 80 4 (.slice qo' 4 qa') 4 (bksV (pxStepP p bs).2) ∧ Below w.heap.size w W' :=
  ⟨qo, qa, by rw [hE, hC], by rw [hE]; exact hO.1, hO.2⟩

set_option maxHeartbeats 6400000 in
theorem l05Step_any (p : Pxs) (ao : Option Addr) (n cap : Nat) (bs : List Bk) (w : World) (hn : bs.length = n) (h4 : n = 4) (hh : 0 ≤ p.host ∧ p.host ≤ 3) (hx : 0 ≤ p.next ∧ p.next ≤ 4) (hr : Bks w ao bs) :
    Calls Tryz.prog 46 #[pV p, .slice ao n cap] w fun e w' => ∃ qo qa, e = .returned (.tuple #[pV (pxStepP p bs).1, .slice qo 4 qa, .int .i64 (stEnd p)]) ∧ OwnR w' w.heap.size 80 4 (.slice qo 4 qa) 4 (bksV (pxStepP p bs).2) ∧ Below w.heap.size w w' := by
  have H0 : Hid (PxAt w ((w.alloc (.cells #[.int .i64 p.host, .int .i64 p.ver, .int .i64 p.phase, .int .i64 p.ballot, .int .i64 p.value, .int .i64 p.next, .int .i64 p.best, .int .i64 p.bestBal] 52)).alloc (.cells #[.int .i64 0, .int .i64 0, .int .i64 0, .int .i64 0, .int .i64 0, .int .i64 0, .int .i64 0, .int .i64 0] 52)) w.heap.size p) :=
    hide ⟨(VarP.new w _ p).below (Joins.below_alloc1 _ _), by
      have := VarP.new0 (w.alloc (.cells #[.int .i64 p.host, .int .i64 p.ver, .int .i64 p.phase, .int .i64 p.ballot, .int .i64 p.value, .int .i64 p.next, .int .i64 p.best, .int .i64 p.bestBal] 52)) 52
      simp only [World.size_alloc] at this
      exact this, Joins.below_alloc2 _ _ _, Nat.le_refl _⟩
  have HR := hide hr
  clear hr
  subst h4
  have HN := hide hn
  clear hn
  obtain ⟨i0, hi, hz0, hz1, hz2⟩ := info_parts infoK
  go_enter Tryz.func46, Tryz.ntmps46
  go_upto_region 1 with fail
  have hs0 : Hid (((w.alloc (.cells #[.int .i64 p.host, .int .i64 p.ver, .int .i64 p.phase, .int .i64 p.ballot, .int .i64 p.value, .int .i64 p.next, .int .i64 p.best, .int .i64 p.bestBal] 52)).alloc (.cells #[.int .i64 0, .int .i64 0, .int .i64 0, .int .i64 0, .int .i64 0, .int .i64 0, .int .i64 0, .int .i64 0] 52)).heap.size = w.heap.size + 2) := hide (by simp)
  revert H0 hs0
  generalize (w.alloc (.cells #[.int .i64 p.host, .int .i64 p.ver, .int .i64 p.phase, .int .i64 p.ballot, .int .i64 p.value, .int .i64 p.next, .int .i64 p.best, .int .i64 p.bestBal] 52)).alloc (.cells #[.int .i64 0, .int .i64 0, .int .i64 0, .int .i64 0, .int .i64 0, .int .i64 0, .int .i64 0, .int .i64 0] 52) = W0
  intro H0 hs0
  go_upto_region 2 with (at_builtin; refine wpList_append_fresh rfl _ _ 53 rfl 80 i0 (.agg #[.int .i64 0, .int .i64 0, .int .i64 0, .int .i64 0]) 4 32 Tryz.underlying53 hi hz0 hz1 hz2 rfl (by omega) rfl ao 4 cap (bksV bs) rfl (by rw [bksV_length, unhide HN]) (fun _ => Bks.src ((unhide HR).below (by repeat (first | exact (unhide H0).k | refine belowAl ?_ _))) (by rw [unhide HN]; omega)) (by unfold maxLen; omega) (by omega) ?_; intro qo qa W1 ho hg)
  have E1 : Hid (StAt w W1 w.heap.size p qo qa bs) := hide ⟨(unhide H0).below (belowGr (belowAl (Below.refl _ _) _) hg), ho.base (by have := unhide hs0; simp; omega)⟩
  clear ho hg H0 hs0 HR
  obtain ⟨g, rfl, hg2, hgl⟩ := (unhide E1).at
  obtain ⟨c0, c1, c2, c3, c4, c5, c6, c7⟩ := (unhide E1).a.v.cells
  obtain ⟨f0, f1, f2, f3, f4, f5, f6, f7⟩ := (unhide E1).a.v.free
  obtain ⟨r0, r1, r2, r3, r4, r5, r6, r7⟩ := (unhide E1).a.r.cells
  obtain ⟨s0, s1, s2, s3, s4, s5, s6, s7⟩ := (unhide E1).a.r.free
  by_cases h56 : p.phase = 5 ∨ p.phase = 6
  · have HE : Hid (pxStepP p bs = (p, bs) ∧ stEnd p = 15) := hide ⟨pxStepP_end bs h56, if_pos h56⟩
    have HO := hide (fun u0 u1 u2 u3 u4 u5 u6 u7 => (unhide E1).out u0 u1 u2 u3 u4 u5 u6 u7)
    rcases h56 with h5 | h6
    · have b5 : (p.phase == 5) = true := by simp [h5]
      clear h5
      go_wp2
      exact bodyPost_ret (v := .tuple #[pV p, .slice (some ⟨g, 0, none⟩) 4 qa, .int .i64 15]) (by simp [results, Tryz.results46, go_sem, r0, r1, r2, r3, r4, r5, r6, r7]) rfl (step_fin (unhide HE).1 (unhide HE).2 (unhide HO _ _ _ _ _ _ _ _))
    · have b5 : (p.phase == 5) = false := by simp [h6]
      have b6 : (p.phase == 6) = true := by simp [h6]
      clear h6
      go_wp2
      exact bodyPost_ret (v := .tuple #[pV p, .slice (some ⟨g, 0, none⟩) 4 qa, .int .i64 15]) (by simp [results, Tryz.results46, go_sem, r0, r1, r2, r3, r4, r5, r6, r7]) rfl (step_fin (unhide HE).1 (unhide HE).2 (unhide HO _ _ _ _ _ _ _ _))
  have HE0 : Hid (stEnd p = 0) := hide (if_neg h56)
  have n5 : (p.phase == 5) = false := by simp; exact fun h => h56 (.inl h)
  have n6 : (p.phase == 6) = false := by simp; exact fun h => h56 (.inr h)
  by_cases h24 : p.phase = 2 ∨ p.phase = 4
  · have HE : Hid (pxStepP p bs = (pxRd p bs, bs)) := hide (pxStepP_rd bs h24)
    clear h56
    have HB := hide ((unhide E1).bks (unhide HN))
    rcases h24 with h2 | h4
    · have b2 : (p.phase == 2) = true := by simp [h2]
      clear h2
      go_wp2_with fail
      refine (l05Read_any p (some ⟨g, 0, none⟩) 4 qa bs _ (unhide HN) rfl hh hx (unhide HB)).mono ?_
      rintro e W2 ⟨rfl, hb⟩
      have E2 := hide ((unhide E1).below hb)
      clear hb c0 c1 c2 c3 c4 c5 c6 c7 f0 f1 f2 f3 f4 f5 f6 f7 r0 r1 r2 r3 r4 r5 r6 r7 s0 s1 s2 s3 s4 s5 s6 s7
      obtain ⟨r0, r1, r2, r3, r4, r5, r6, r7⟩ := (unhide E2).a.r.cells
      obtain ⟨s0, s1, s2, s3, s4, s5, s6, s7⟩ := (unhide E2).a.r.free
      have HO := hide (fun u0 u1 u2 u3 u4 u5 u6 u7 => (unhide E2).out u0 u1 u2 u3 u4 u5 u6 u7)
      go_wp2
      exact bodyPost_ret (v := .tuple #[pV (pxRd p bs), .slice (some ⟨g, 0, none⟩) 4 qa, .int .i64 0]) (by simp [results, Tryz.results46, go_sem, r0, r1, r2, r3, r4, r5, r6, r7]) rfl (step_fin (unhide HE) (unhide HE0) (unhide HO _ _ _ _ _ _ _ _))
    · have b2 : (p.phase == 2) = false := by simp [h4]
      have b4 : (p.phase == 4) = true := by simp [h4]
      clear h4
      go_wp2_with fail
      refine (l05Read_any p (some ⟨g, 0, none⟩) 4 qa bs _ (unhide HN) rfl hh hx (unhide HB)).mono ?_
      rintro e W2 ⟨rfl, hb⟩
      have E2 := hide ((unhide E1).below hb)
      clear hb c0 c1 c2 c3 c4 c5 c6 c7 f0 f1 f2 f3 f4 f5 f6 f7 r0 r1 r2 r3 r4 r5 r6 r7 s0 s1 s2 s3 s4 s5 s6 s7
      obtain ⟨r0, r1, r2, r3, r4, r5, r6, r7⟩ := (unhide E2).a.r.cells
      obtain ⟨s0, s1, s2, s3, s4, s5, s6, s7⟩ := (unhide E2).a.r.free
      have HO := hide (fun u0 u1 u2 u3 u4 u5 u6 u7 => (unhide E2).out u0 u1 u2 u3 u4 u5 u6 u7)
      go_wp2
      exact bodyPost_ret (v := .tuple #[pV (pxRd p bs), .slice (some ⟨g, 0, none⟩) 4 qa, .int .i64 0]) (by simp [results, Tryz.results46, go_sem, r0, r1, r2, r3, r4, r5, r6, r7]) rfl (step_fin (unhide HE) (unhide HE0) (unhide HO _ _ _ _ _ _ _ _))
  have n2 : (p.phase == 2) = false := by simp; exact fun h => h24 (.inl h)
  have n4 : (p.phase == 4) = false := by simp; exact fun h => h24 (.inr h)
  have HE : Hid (pxStepP p bs = (if pxNo p (pxOwn p bs) then ({ p with phase := 6 }, bs) else (pxW1 p (pxOwn p bs), bs.set p.host.toNat (pxW2 p (pxOwn p bs))))) := hide (by unfold pxStepP; rw [if_neg h56, if_neg h24])
  clear h56 h24
  obtain ⟨k, hk⟩ : ∃ k : Nat, p.host = k := ⟨p.host.toNat, by omega⟩
  have hk4 : k < 4 := by omega
  have hk5 : (k : Int) < 4 := by omega
  have hk6 : (0 : Int) ≤ (k : Int) := by omega
  have hkl : k < bs.length := by have := unhide HN; omega
  rw [show p.host.toNat = k by omega] at HE
  have HOW : Hid (pxOwn p bs = bkOf (bs.getD k bk0) p.ver) := hide (by unfold pxOwn; rw [show p.host.toNat = k by omega])
  obtain ⟨b', off', eb, _, g0, g1, g2, g3⟩ := ((unhide E1).bks (unhide HN)).get k hkl
  simp only [Option.some.injEq, Addr.mk.injEq, and_true] at eb
  obtain ⟨rfl, rfl⟩ := eb
  simp only [Nat.zero_add] at g0 g1 g2 g3
  rw [hk] at c0
  revert HOW g0 g1 g2 g3
  generalize bs.getD k bk0 = y
  intro HOW g0 g1 g2 g3
  have hxl : w.heap.size < W1.heap.size := (unhide E1).a.v.lt
  have hxl1 : w.heap.size + 1 < W1.heap.size := (unhide E1).a.r.lt
  have hxn : w.heap.size ≠ W1.heap.size := by omega
  have hxn' : W1.heap.size ≠ w.heap.size := by omega
  have hgn : g ≠ W1.heap.size := by omega
  have hgn' : W1.heap.size ≠ g := by omega
  clear hkl
  go_upto_region 9 with fail
  go_cut [8] from 14 to 35 (fun c wx => ∃ C : Nat, c = .pointer (some ⟨C, 0, none⟩) ∧ Hid (Got W1 wx C 80 (bkOf y p.ver)))
  case first =>
    go_region_held3 (fun w' => w'.cell? ⟨w.heap.size, 0, none⟩ = some (.int .i64 (k : Int)) ∧ w'.cell? ⟨w.heap.size, 1, none⟩ = some (.int .i64 p.ver) ∧ w'.cell? ⟨g, k * 4, none⟩ = some (.int .i64 y.ver) ∧ w'.cell? ⟨g, k * 4 + 1, none⟩ = some (.int .i64 y.mbal) ∧ w'.cell? ⟨g, k * 4 + 2, none⟩ = some (.int .i64 y.bal) ∧ w'.cell? ⟨g, k * 4 + 3, none⟩ = some (.int .i64 y.inp)) (go_keep)
      ((go_at_call 73; refine (l05Of_any y p.ver _).mono ?_; rintro e w2 ⟨rfl, hb2⟩; (first | (have hv2 : VarB w2 W1.heap.size 80 bk0 := (by exact ((VarB.new0 W1 _).below ((Below.refl _ _).drew)).below hb2); obtain ⟨x0, x1, x2, x3⟩ := hv2.cells; obtain ⟨y0, y1, y2, y3⟩ := hv2.free; have HB2 : Hid (Below W1.heap.size W1 w2) := (by exact hide (fr (Joins.below_alloc1 W1 _).drew hb2)); have HV2 := hide hv2; clear hv2 hb2) | (have HB2 : Hid (Below W1.heap.size W1 w2) := (by exact hide (fr ((Below.refl _ W1).drew) hb2)); clear hb2)); have m0 := ((unhide HB2).cell (p := ⟨w.heap.size, 0, none⟩) hxl).trans c0; have m1 := ((unhide HB2).cell (p := ⟨w.heap.size, 1, none⟩) hxl).trans c1; have m2 := ((unhide HB2).cell (p := ⟨g, k * 4, none⟩) hgl).trans g0; have m3 := ((unhide HB2).cell (p := ⟨g, k * 4 + 1, none⟩) hgl).trans g1; have m4 := ((unhide HB2).cell (p := ⟨g, k * 4 + 2, none⟩) hgl).trans g2; have m5 := ((unhide HB2).cell (p := ⟨g, k * 4 + 3, none⟩) hgl).trans g3))
    all_goals
      go_wp2_with fail
      go_meet
      first
        | exact ⟨_, rfl, hide (Got.set bk0 (unhide HB2) (unhide HV2) (Nat.le_refl _))⟩
        | exact ⟨_, rfl, hide (Got.top _ _ (unhide HB2))⟩
  case rest =>
    obtain ⟨C, rfl, HG⟩ := hcut
    rename World => W2
    have E2 := hide ((unhide E1).below (unhide HG).k)
    have hCg : W1.heap.size ≤ C := (unhide HG).gt
    have hC0 : C ≠ w.heap.size := by omega
    have hC0' : w.heap.size ≠ C := by omega
    have hC1 : C ≠ w.heap.size + 1 := by omega
    have hC1' : w.heap.size + 1 ≠ C := by omega
    clear c0 c1 c2 c3 c4 c5 c6 c7 f0 f1 f2 f3 f4 f5 f6 f7 r0 r1 r2 r3 r4 r5 r6 r7 s0 s1 s2 s3 s4 s5 s6 s7 g0 g1 g2 g3 hxn hxn' hgn hgn' hk4
    obtain ⟨c0, c1, c2, c3, c4, c5, c6, c7⟩ := (unhide E2).a.v.cells
    obtain ⟨f0, f1, f2, f3, f4, f5, f6, f7⟩ := (unhide E2).a.v.free
    obtain ⟨r0, r1, r2, r3, r4, r5, r6, r7⟩ := (unhide E2).a.r.cells
    obtain ⟨s0, s1, s2, s3, s4, s5, s6, s7⟩ := (unhide E2).a.r.free
    obtain ⟨v0, v1, v2, v3⟩ := (unhide HG).v.cells
    rw [unhide HOW] at HE
    have HG2 := HG
    revert HE v0 v1 v2 v3 HG2
    clear HG HOW
    generalize bkOf y p.ver = z
    intro HE v0 v1 v2 v3 HG2
    have HK := hide hk
    by_cases ha : pxNo p z
    · have HEE : Hid (pxStepP p bs = ({ p with phase := 6 }, bs)) := hide ((unhide HE).trans (if_pos ha))
      have HO := hide (fun u0 u1 u2 u3 u4 u5 u6 u7 => ((unhide E2).ph 6).out u0 u1 u2 u3 u4 u5 u6 u7)
      clear hk
      by_cases q1 : p.ver < z.ver
      · clear ha
        go_wp2
        exact bodyPost_ret (v := .tuple #[pV { p with phase := 6 }, .slice (some ⟨g, 0, none⟩) 4 qa, .int .i64 0]) (by simp [results, Tryz.results46, go_sem, r0, r1, r2, r3, r4, r5, r6, r7]) rfl (step_fin (unhide HEE) (unhide HE0) (unhide HO _ _ _ _ _ _ _ _))
      by_cases q2 : p.ballot < z.mbal
      · clear ha
        go_wp2
        exact bodyPost_ret (v := .tuple #[pV { p with phase := 6 }, .slice (some ⟨g, 0, none⟩) 4 qa, .int .i64 0]) (by simp [results, Tryz.results46, go_sem, r0, r1, r2, r3, r4, r5, r6, r7]) rfl (step_fin (unhide HEE) (unhide HE0) (unhide HO _ _ _ _ _ _ _ _))
      by_cases q3 : p.phase = 1
      · have q4 : z.mbal = p.ballot := by
          rcases ha with h | h | h | h
          · exact absurd h q1
          · exact absurd h q2
          · exact h.2
          · rw [q3] at h; exact absurd h.1 (by decide)
        have q4b : (z.mbal == p.ballot) = true := by simp [q4]
        have q3b : (p.phase == 1) = true := by simp [q3]
        clear ha q4 q3
        go_wp2
        exact bodyPost_ret (v := .tuple #[pV { p with phase := 6 }, .slice (some ⟨g, 0, none⟩) 4 qa, .int .i64 0]) (by simp [results, Tryz.results46, go_sem, r0, r1, r2, r3, r4, r5, r6, r7]) rfl (step_fin (unhide HEE) (unhide HE0) (unhide HO _ _ _ _ _ _ _ _))
      · have q5 : p.phase = 3 ∧ z.mbal ≠ p.ballot := by
          rcases ha with h | h | h | h
          · exact absurd h q1
          · exact absurd h q2
          · exact absurd h.1 q3
          · exact h
        obtain ⟨q5, q6⟩ := q5
        have q6b : (z.mbal == p.ballot) = false := by simp [q6]
        have q6c : (z.mbal != p.ballot) = true := by simp [q6]
        have q3b : (p.phase == 1) = false := by simp [q3]
        have q5b : (p.phase == 3) = true := by simp [q5]
        clear ha q6 q3 q5
        go_wp2
        exact bodyPost_ret (v := .tuple #[pV { p with phase := 6 }, .slice (some ⟨g, 0, none⟩) 4 qa, .int .i64 0]) (by simp [results, Tryz.results46, go_sem, r0, r1, r2, r3, r4, r5, r6, r7]) rfl (step_fin (unhide HEE) (unhide HE0) (unhide HO _ _ _ _ _ _ _ _))
    · have HEE : Hid (pxStepP p bs = (pxW1 p z, bs.set k (pxW2 p z))) := hide ((unhide HE).trans (if_neg ha))
      clear HE hk
      have q1 : ¬ p.ver < z.ver := fun h => ha (.inl h)
      have q2 : ¬ p.ballot < z.mbal := fun h => ha (.inr (.inl h))
      have q3 : ¬ (p.phase = 1 ∧ z.mbal = p.ballot) := fun h => ha (.inr (.inr (.inl h)))
      have q4 : ¬ (p.phase = 3 ∧ z.mbal ≠ p.ballot) := fun h => ha (.inr (.inr (.inr h)))
      clear ha
      by_cases t1 : p.phase = 1
      · have u1 : (p.phase == 1) = true := by simp [t1]
        have u2 : (z.mbal == p.ballot) = false := by simp; exact fun h => q3 ⟨t1, h⟩
        have u3 : (p.phase == 3) = false := by simp [t1]
        clear q3 q4 t1
        go_wp2_with fail
        refine (l05Write_any p z _).mono ?_
        rintro e W3 ⟨rfl, hb⟩
        have E3 := hide ((unhide E2).below hb)
        have HB3 := hide hb
        clear hb c0 c1 c2 c3 c4 c5 c6 c7 f0 f1 f2 f3 f4 f5 f6 f7 r0 r1 r2 r3 r4 r5 r6 r7 s0 s1 s2 s3 s4 s5 s6 s7 v0 v1 v2 v3
        generalize pxW1 p z = P1 at *
        generalize pxW2 p z = B1 at *
        have E4 := hide ((unhide E3).below (Joins.below_alloc2 W3 (.cells #[.int .i64 P1.host, .int .i64 P1.ver, .int .i64 P1.phase, .int .i64 P1.ballot, .int .i64 P1.value, .int .i64 P1.next, .int .i64 P1.best, .int .i64 P1.bestBal] 52) (.cells #[.int .i64 B1.ver, .int .i64 B1.mbal, .int .i64 B1.bal, .int .i64 B1.inp] 80)))
        have VP : Hid (VarP ((W3.alloc (.cells #[.int .i64 P1.host, .int .i64 P1.ver, .int .i64 P1.phase, .int .i64 P1.ballot, .int .i64 P1.value, .int .i64 P1.next, .int .i64 P1.best, .int .i64 P1.bestBal] 52)).alloc (.cells #[.int .i64 B1.ver, .int .i64 B1.mbal, .int .i64 B1.bal, .int .i64 B1.inp] 80)) W3.heap.size 52 P1) := hide ((VarP.new W3 _ P1).below (Joins.below_alloc1 _ _))
        have VB : Hid (VarB ((W3.alloc (.cells #[.int .i64 P1.host, .int .i64 P1.ver, .int .i64 P1.phase, .int .i64 P1.ballot, .int .i64 P1.value, .int .i64 P1.next, .int .i64 P1.best, .int .i64 P1.bestBal] 52)).alloc (.cells #[.int .i64 B1.ver, .int .i64 B1.mbal, .int .i64 B1.bal, .int .i64 B1.inp] 80)) (W3.heap.size + 1) 80 B1) := hide (by
          have := VarB.new (W3.alloc (.cells #[.int .i64 P1.host, .int .i64 P1.ver, .int .i64 P1.phase, .int .i64 P1.ballot, .int .i64 P1.value, .int .i64 P1.next, .int .i64 P1.best, .int .i64 P1.bestBal] 52)) 80 B1
          simp only [World.size_alloc] at this
          exact this)
        go_upto_region 14 with fail
        revert E4 VP VB
        generalize (W3.alloc (.cells #[.int .i64 P1.host, .int .i64 P1.ver, .int .i64 P1.phase, .int .i64 P1.ballot, .int .i64 P1.value, .int .i64 P1.next, .int .i64 P1.best, .int .i64 P1.bestBal] 52)).alloc (.cells #[.int .i64 B1.ver, .int .i64 B1.mbal, .int .i64 B1.bal, .int .i64 B1.inp] 80) = W4
        have hD : W1.heap.size ≤ W3.heap.size := Nat.le_trans (unhide HG2).k.size (unhide HB3).size
        revert hD
        generalize W3.heap.size = D
        intro hD E4 VP VB
        have hg4 := (unhide E4).o.ge g (own_of (by omega) rfl)
        obtain ⟨c0, c1, c2, c3, c4, c5, c6, c7⟩ := (unhide E4).a.v.cells
        rw [unhide HK] at c0
        obtain ⟨x0, x1, x2, x3⟩ := (unhide VB).cells
        obtain ⟨y0, y1, y2, y3, y4, y5, y6, y7⟩ := (unhide VP).cells
        obtain ⟨b', off', eb, _, g0, g1, g2, g3⟩ := ((unhide E4).bks (unhide HN)).get k (by have := unhide HN; omega)
        simp only [Option.some.injEq, Addr.mk.injEq, and_true] at eb
        obtain ⟨rfl, rfl⟩ := eb
        simp only [Nat.zero_add] at g0 g1 g2 g3
        obtain ⟨z0, z1, z2, z3⟩ := row_free (unhide E4).o
        have E5 := hide ((unhide E4).put (k := k) (by have := unhide HN; omega) B1)
        obtain ⟨r0, r1, r2, r3, r4, r5, r6, r7⟩ := (unhide E5).a.r.cells
        obtain ⟨s0, s1, s2, s3, s4, s5, s6, s7⟩ := (unhide E5).a.r.free
        have nD : D ≠ g := by omega
        have nD' : g ≠ D := by omega
        go_upto_region 15 with fail
        have VP5 := hide ((unhide VP).keep (((((Keep.refl (fun j => j = g) W4).setCell (p := ⟨g, k * 4, none⟩) rfl (.int .i64 B1.ver)).setCell (p := ⟨g, k * 4 + 1, none⟩) rfl (.int .i64 B1.mbal)).setCell (p := ⟨g, k * 4 + 2, none⟩) rfl (.int .i64 B1.bal)).setCell (p := ⟨g, k * 4 + 3, none⟩) rfl (.int .i64 B1.inp)) (show ¬ D = g from nD))
        clear c0 c1 c2 c3 c4 c5 c6 c7 x0 x1 x2 x3 y0 y1 y2 y3 y4 y5 y6 y7 g0 g1 g2 g3 z0 z1 z2 z3 r0 r1 r2 r3 r4 r5 r6 r7 s0 s1 s2 s3 s4 s5 s6 s7
        revert E5 VP5
        generalize (((W4.setCell ⟨g, k * 4, none⟩ (.int .i64 B1.ver)).setCell ⟨g, k * 4 + 1, none⟩ (.int .i64 B1.mbal)).setCell ⟨g, k * 4 + 2, none⟩ (.int .i64 B1.bal)).setCell ⟨g, k * 4 + 3, none⟩ (.int .i64 B1.inp) = W5
        intro E5 VP5
        obtain ⟨r0, r1, r2, r3, r4, r5, r6, r7⟩ := (unhide E5).a.r.cells
        obtain ⟨s0, s1, s2, s3, s4, s5, s6, s7⟩ := (unhide E5).a.r.free
        obtain ⟨y0, y1, y2, y3, y4, y5, y6, y7⟩ := (unhide VP5).cells
        have HO := hide (fun u0 u1 u2 u3 u4 u5 u6 u7 => (unhide E5).out u0 u1 u2 u3 u4 u5 u6 u7)
        go_wp2
        exact bodyPost_ret (v := .tuple #[pV P1, .slice (some ⟨g, 0, none⟩) 4 qa, .int .i64 0]) (by simp [results, Tryz.results46, go_sem, r0, r1, r2, r3, r4, r5, r6, r7]) rfl (step_fin (unhide HEE) (unhide HE0) (unhide HO _ _ _ _ _ _ _ _))
      · by_cases t3 : p.phase = 3
        · have u1 : (p.phase == 1) = false := by simp [t1]
          have u2 : (z.mbal == p.ballot) = true := by simp; exact Decidable.not_not.1 (fun h => q4 ⟨t3, h⟩)
          have u2' : (z.mbal != p.ballot) = false := by simp; exact Decidable.not_not.1 (fun h => q4 ⟨t3, h⟩)
          have u3 : (p.phase == 3) = true := by simp [t3]
          clear q3 q4 t1 t3
          go_wp2_with fail
          refine (l05Write_any p z _).mono ?_
          rintro e W3 ⟨rfl, hb⟩
          have E3 := hide ((unhide E2).below hb)
          have HB3 := hide hb
          clear hb c0 c1 c2 c3 c4 c5 c6 c7 f0 f1 f2 f3 f4 f5 f6 f7 r0 r1 r2 r3 r4 r5 r6 r7 s0 s1 s2 s3 s4 s5 s6 s7 v0 v1 v2 v3
          generalize pxW1 p z = P1 at *
          generalize pxW2 p z = B1 at *
          have E4 := hide ((unhide E3).below (Joins.below_alloc2 W3 (.cells #[.int .i64 P1.host, .int .i64 P1.ver, .int .i64 P1.phase, .int .i64 P1.ballot, .int .i64 P1.value, .int .i64 P1.next, .int .i64 P1.best, .int .i64 P1.bestBal] 52) (.cells #[.int .i64 B1.ver, .int .i64 B1.mbal, .int .i64 B1.bal, .int .i64 B1.inp] 80)))
          have VP : Hid (VarP ((W3.alloc (.cells #[.int .i64 P1.host, .int .i64 P1.ver, .int .i64 P1.phase, .int .i64 P1.ballot, .int .i64 P1.value, .int .i64 P1.next, .int .i64 P1.best, .int .i64 P1.bestBal] 52)).alloc (.cells #[.int .i64 B1.ver, .int .i64 B1.mbal, .int .i64 B1.bal, .int .i64 B1.inp] 80)) W3.heap.size 52 P1) := hide ((VarP.new W3 _ P1).below (Joins.below_alloc1 _ _))
          have VB : Hid (VarB ((W3.alloc (.cells #[.int .i64 P1.host, .int .i64 P1.ver, .int .i64 P1.phase, .int .i64 P1.ballot, .int .i64 P1.value, .int .i64 P1.next, .int .i64 P1.best, .int .i64 P1.bestBal] 52)).alloc (.cells #[.int .i64 B1.ver, .int .i64 B1.mbal, .int .i64 B1.bal, .int .i64 B1.inp] 80)) (W3.heap.size + 1) 80 B1) := hide (by
            have := VarB.new (W3.alloc (.cells #[.int .i64 P1.host, .int .i64 P1.ver, .int .i64 P1.phase, .int .i64 P1.ballot, .int .i64 P1.value, .int .i64 P1.next, .int .i64 P1.best, .int .i64 P1.bestBal] 52)) 80 B1
            simp only [World.size_alloc] at this
            exact this)
          go_upto_region 14 with fail
          revert E4 VP VB
          generalize (W3.alloc (.cells #[.int .i64 P1.host, .int .i64 P1.ver, .int .i64 P1.phase, .int .i64 P1.ballot, .int .i64 P1.value, .int .i64 P1.next, .int .i64 P1.best, .int .i64 P1.bestBal] 52)).alloc (.cells #[.int .i64 B1.ver, .int .i64 B1.mbal, .int .i64 B1.bal, .int .i64 B1.inp] 80) = W4
          have hD : W1.heap.size ≤ W3.heap.size := Nat.le_trans (unhide HG2).k.size (unhide HB3).size
          revert hD
          generalize W3.heap.size = D
          intro hD E4 VP VB
          have hg4 := (unhide E4).o.ge g (own_of (by omega) rfl)
          obtain ⟨c0, c1, c2, c3, c4, c5, c6, c7⟩ := (unhide E4).a.v.cells
          rw [unhide HK] at c0
          obtain ⟨x0, x1, x2, x3⟩ := (unhide VB).cells
          obtain ⟨y0, y1, y2, y3, y4, y5, y6, y7⟩ := (unhide VP).cells
          obtain ⟨b', off', eb, _, g0, g1, g2, g3⟩ := ((unhide E4).bks (unhide HN)).get k (by have := unhide HN; omega)
          simp only [Option.some.injEq, Addr.mk.injEq, and_true] at eb
          obtain ⟨rfl, rfl⟩ := eb
          simp only [Nat.zero_add] at g0 g1 g2 g3
          obtain ⟨z0, z1, z2, z3⟩ := row_free (unhide E4).o
          have E5 := hide ((unhide E4).put (k := k) (by have := unhide HN; omega) B1)
          obtain ⟨r0, r1, r2, r3, r4, r5, r6, r7⟩ := (unhide E5).a.r.cells
          obtain ⟨s0, s1, s2, s3, s4, s5, s6, s7⟩ := (unhide E5).a.r.free
          have nD : D ≠ g := by omega
          have nD' : g ≠ D := by omega
          go_upto_region 15 with fail
          have VP5 := hide ((unhide VP).keep (((((Keep.refl (fun j => j = g) W4).setCell (p := ⟨g, k * 4, none⟩) rfl (.int .i64 B1.ver)).setCell (p := ⟨g, k * 4 + 1, none⟩) rfl (.int .i64 B1.mbal)).setCell (p := ⟨g, k * 4 + 2, none⟩) rfl (.int .i64 B1.bal)).setCell (p := ⟨g, k * 4 + 3, none⟩) rfl (.int .i64 B1.inp)) (show ¬ D = g from nD))
          clear c0 c1 c2 c3 c4 c5 c6 c7 x0 x1 x2 x3 y0 y1 y2 y3 y4 y5 y6 y7 g0 g1 g2 g3 z0 z1 z2 z3 r0 r1 r2 r3 r4 r5 r6 r7 s0 s1 s2 s3 s4 s5 s6 s7
          revert E5 VP5
          generalize (((W4.setCell ⟨g, k * 4, none⟩ (.int .i64 B1.ver)).setCell ⟨g, k * 4 + 1, none⟩ (.int .i64 B1.mbal)).setCell ⟨g, k * 4 + 2, none⟩ (.int .i64 B1.bal)).setCell ⟨g, k * 4 + 3, none⟩ (.int .i64 B1.inp) = W5
          intro E5 VP5
          obtain ⟨r0, r1, r2, r3, r4, r5, r6, r7⟩ := (unhide E5).a.r.cells
          obtain ⟨s0, s1, s2, s3, s4, s5, s6, s7⟩ := (unhide E5).a.r.free
          obtain ⟨y0, y1, y2, y3, y4, y5, y6, y7⟩ := (unhide VP5).cells
          have HO := hide (fun u0 u1 u2 u3 u4 u5 u6 u7 => (unhide E5).out u0 u1 u2 u3 u4 u5 u6 u7)
          go_wp2
          exact bodyPost_ret (v := .tuple #[pV P1, .slice (some ⟨g, 0, none⟩) 4 qa, .int .i64 0]) (by simp [results, Tryz.results46, go_sem, r0, r1, r2, r3, r4, r5, r6, r7]) rfl (step_fin (unhide HEE) (unhide HE0) (unhide HO _ _ _ _ _ _ _ _))
        · have u1 : (p.phase == 1) = false := by simp [t1]
          have u3 : (p.phase == 3) = false := by simp [t3]
          clear q3 q4 t1 t3
          go_wp2_with fail
          refine (l05Write_any p z _).mono ?_
          rintro e W3 ⟨rfl, hb⟩
          have E3 := hide ((unhide E2).below hb)
          have HB3 := hide hb
          clear hb c0 c1 c2 c3 c4 c5 c6 c7 f0 f1 f2 f3 f4 f5 f6 f7 r0 r1 r2 r3 r4 r5 r6 r7 s0 s1 s2 s3 s4 s5 s6 s7 v0 v1 v2 v3
          generalize pxW1 p z = P1 at *
          generalize pxW2 p z = B1 at *
          have E4 := hide ((unhide E3).below (Joins.below_alloc2 W3 (.cells #[.int .i64 P1.host, .int .i64 P1.ver, .int .i64 P1.phase, .int .i64 P1.ballot, .int .i64 P1.value, .int .i64 P1.next, .int .i64 P1.best, .int .i64 P1.bestBal] 52) (.cells #[.int .i64 B1.ver, .int .i64 B1.mbal, .int .i64 B1.bal, .int .i64 B1.inp] 80)))
          have VP : Hid (VarP ((W3.alloc (.cells #[.int .i64 P1.host, .int .i64 P1.ver, .int .i64 P1.phase, .int .i64 P1.ballot, .int .i64 P1.value, .int .i64 P1.next, .int .i64 P1.best, .int .i64 P1.bestBal] 52)).alloc (.cells #[.int .i64 B1.ver, .int .i64 B1.mbal, .int .i64 B1.bal, .int .i64 B1.inp] 80)) W3.heap.size 52 P1) := hide ((VarP.new W3 _ P1).below (Joins.below_alloc1 _ _))
          have VB : Hid (VarB ((W3.alloc (.cells #[.int .i64 P1.host, .int .i64 P1.ver, .int .i64 P1.phase, .int .i64 P1.ballot, .int .i64 P1.value, .int .i64 P1.next, .int .i64 P1.best, .int .i64 P1.bestBal] 52)).alloc (.cells #[.int .i64 B1.ver, .int .i64 B1.mbal, .int .i64 B1.bal, .int .i64 B1.inp] 80)) (W3.heap.size + 1) 80 B1) := hide (by
            have := VarB.new (W3.alloc (.cells #[.int .i64 P1.host, .int .i64 P1.ver, .int .i64 P1.phase, .int .i64 P1.ballot, .int .i64 P1.value, .int .i64 P1.next, .int .i64 P1.best, .int .i64 P1.bestBal] 52)) 80 B1
            simp only [World.size_alloc] at this
            exact this)
          go_upto_region 14 with fail
          revert E4 VP VB
          generalize (W3.alloc (.cells #[.int .i64 P1.host, .int .i64 P1.ver, .int .i64 P1.phase, .int .i64 P1.ballot, .int .i64 P1.value, .int .i64 P1.next, .int .i64 P1.best, .int .i64 P1.bestBal] 52)).alloc (.cells #[.int .i64 B1.ver, .int .i64 B1.mbal, .int .i64 B1.bal, .int .i64 B1.inp] 80) = W4
          have hD : W1.heap.size ≤ W3.heap.size := Nat.le_trans (unhide HG2).k.size (unhide HB3).size
          revert hD
          generalize W3.heap.size = D
          intro hD E4 VP VB
          have hg4 := (unhide E4).o.ge g (own_of (by omega) rfl)
          obtain ⟨c0, c1, c2, c3, c4, c5, c6, c7⟩ := (unhide E4).a.v.cells
          rw [unhide HK] at c0
          obtain ⟨x0, x1, x2, x3⟩ := (unhide VB).cells
          obtain ⟨y0, y1, y2, y3, y4, y5, y6, y7⟩ := (unhide VP).cells
          obtain ⟨b', off', eb, _, g0, g1, g2, g3⟩ := ((unhide E4).bks (unhide HN)).get k (by have := unhide HN; omega)
          simp only [Option.some.injEq, Addr.mk.injEq, and_true] at eb
          obtain ⟨rfl, rfl⟩ := eb
          simp only [Nat.zero_add] at g0 g1 g2 g3
          obtain ⟨z0, z1, z2, z3⟩ := row_free (unhide E4).o
          have E5 := hide ((unhide E4).put (k := k) (by have := unhide HN; omega) B1)
          obtain ⟨r0, r1, r2, r3, r4, r5, r6, r7⟩ := (unhide E5).a.r.cells
          obtain ⟨s0, s1, s2, s3, s4, s5, s6, s7⟩ := (unhide E5).a.r.free
          have nD : D ≠ g := by omega
          have nD' : g ≠ D := by omega
          go_upto_region 15 with fail
          have VP5 := hide ((unhide VP).keep (((((Keep.refl (fun j => j = g) W4).setCell (p := ⟨g, k * 4, none⟩) rfl (.int .i64 B1.ver)).setCell (p := ⟨g, k * 4 + 1, none⟩) rfl (.int .i64 B1.mbal)).setCell (p := ⟨g, k * 4 + 2, none⟩) rfl (.int .i64 B1.bal)).setCell (p := ⟨g, k * 4 + 3, none⟩) rfl (.int .i64 B1.inp)) (show ¬ D = g from nD))
          clear c0 c1 c2 c3 c4 c5 c6 c7 x0 x1 x2 x3 y0 y1 y2 y3 y4 y5 y6 y7 g0 g1 g2 g3 z0 z1 z2 z3 r0 r1 r2 r3 r4 r5 r6 r7 s0 s1 s2 s3 s4 s5 s6 s7
          revert E5 VP5
          generalize (((W4.setCell ⟨g, k * 4, none⟩ (.int .i64 B1.ver)).setCell ⟨g, k * 4 + 1, none⟩ (.int .i64 B1.mbal)).setCell ⟨g, k * 4 + 2, none⟩ (.int .i64 B1.bal)).setCell ⟨g, k * 4 + 3, none⟩ (.int .i64 B1.inp) = W5
          intro E5 VP5
          obtain ⟨r0, r1, r2, r3, r4, r5, r6, r7⟩ := (unhide E5).a.r.cells
          obtain ⟨s0, s1, s2, s3, s4, s5, s6, s7⟩ := (unhide E5).a.r.free
          obtain ⟨y0, y1, y2, y3, y4, y5, y6, y7⟩ := (unhide VP5).cells
          have HO := hide (fun u0 u1 u2 u3 u4 u5 u6 u7 => (unhide E5).out u0 u1 u2 u3 u4 u5 u6 u7)
          go_wp2
          exact bodyPost_ret (v := .tuple #[pV P1, .slice (some ⟨g, 0, none⟩) 4 qa, .int .i64 0]) (by simp [results, Tryz.results46, go_sem, r0, r1, r2, r3, r4, r5, r6, r7]) rfl (step_fin (unhide HEE) (unhide HE0) (unhide HO _ _ _ _ _ _ _ _))

end Go.Proofs.YtdfinapjgffjiabGreatDoor
