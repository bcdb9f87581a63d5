import Derived.Test.YtefnapcegeojoaaGreatDoorRows
import Derived.Test.YtefnapcegeojoaaGreatDoorLElectPart1
import Derived.Test.YtefnapcegeojoaaGreatDoorLElectPart2
import Derived.Test.YtefnapcegeojoaaGreatDoorLElectPart4
import Derived.Test.YtefnapcegeojoaaGreatDoorLElectPart7
import Derived.Test.YtefnapcegeojoaaGreatDoorLElectPart10
import Derived.Test.YtefnapcegeojoaaGreatDoorLElectPart9
import Derived.Test.YtefnapcegeojoaaGreatDoorLElectPart8
import Derived.WalkKit
import Derived.WalkSpells
import Derived.KernelRfl
import Derived.Deep.MidRow
import Derived.WalkMore
import Derived.Deep.RegionWith
import Derived.Deep.RegionHeld3
import Derived.Deep.CutRange
import Derived.Test.YtefnapcegeojoaaGreatDoorLElectPart3
import Derived.Test.YtefnapcegeojoaaGreatDoorLElectPart6
import Derived.Lib.SmallJoins

namespace Go.Proofs.YtefnapcegeojoaaGreatDoor
open Go.RowKit
set_option linter.unusedVariables false
set_option maxRecDepth 100000

theorem infoL : (Tryz.prog.info? 96).map (fun i => (i.zero, i.size, i.bytes)) = some (some (.agg #[.int .i64 0, .int .i64 0, .int .i64 0, .int .i64 0]), 4, 32) := by kernel_rfl
theorem made4 : (madeCells #[Value.int .i64 0, Value.int .i64 0, Value.int .i64 0, Value.int .i64 0] 16).toList = bksV [bk0, bk0, bk0, bk0] := by
  first
    | rfl
    | (simp [madeCells, bksV, bk0]; rfl)
theorem bksOf_at (ss : List ByteArray) (xs : List Wr) (h : Int) {k : Nat} (hk : k < 4) : (bksOf ss xs h).getD k bk0 = bdK (readV ss xs h (1 + (k : Int))) := by
  rcases (show k = 0 ∨ k = 1 ∨ k = 2 ∨ k = 3 by omega) with rfl | rfl | rfl | rfl <;> rfl
theorem list4 {l m : List Bk} (hl : l.length = 4) (hm : m.length = 4) (h : ∀ j, j < 4 → l.getD j bk0 = m.getD j bk0) : l = m := by
  apply List.ext_getElem (hl.trans hm.symm)
  intro i h1 h2
  have := h i (by omega)
  simpa [h1, h2] using this
theorem bcK_right {T : ByteArray} (h : T.size ≤ 80) : bcK T = bdK T := if_neg (by omega)
structure SeI (w wr : World) (D : Nat) (dv dx : Value) (g : Nat) (l : List Bk) : Prop where
  below : Below w.heap.size w wr
  d : VarD wr D dv dx
  o : wr.ownsRow (D + 1) 96 4 (.slice (some ⟨g, 0, none⟩) 4 4) 4 (bksV l)
  n : l.length = 4
  g : D + 1 ≤ g
theorem SeI.next {w wr w' : World} {D : Nat} {dv dx : Value} {g : Nat} {l : List Bk} (k : SeI w wr D dv dx g l) (hb : Below wr.heap.size wr w') : SeI w w' D dv dx g l := ⟨fr k.below hb, k.d.below hb, own_below k.o hb, k.n, k.g⟩
theorem SeI.put {w wr : World} {D : Nat} {dv dx : Value} {g : Nat} {l : List Bk} (h : SeI w wr D dv dx g l) (hw : w.heap.size ≤ D) {k : Nat} (hk : k < 4) (y : Bk) :
    SeI w ((((wr.setCell ⟨g, k * 4, none⟩ (.int .i64 y.ver)).setCell ⟨g, k * 4 + 1, none⟩ (.int .i64 y.mbal)).setCell ⟨g, k * 4 + 2, none⟩ (.int .i64 y.bal)).setCell ⟨g, k * 4 + 3, none⟩ (.int .i64 y.inp)) D dv dx g (l.set k y) := by
  have hgw : w.heap.size ≤ g := by have := h.g; omega
  have hk' : Keep (fun j => j = g) wr ((((wr.setCell ⟨g, k * 4, none⟩ (.int .i64 y.ver)).setCell ⟨g, k * 4 + 1, none⟩ (.int .i64 y.mbal)).setCell ⟨g, k * 4 + 2, none⟩ (.int .i64 y.bal)).setCell ⟨g, k * 4 + 3, none⟩ (.int .i64 y.inp)) :=
    ((((Keep.refl (fun j => j = g) wr).setCell (p := ⟨g, k * 4, none⟩) rfl _).setCell (p := ⟨g, k * 4 + 1, none⟩) rfl _).setCell (p := ⟨g, k * 4 + 2, none⟩) rfl _).setCell (p := ⟨g, k * 4 + 3, none⟩) rfl _
  exact ⟨below4 h.below hgw _ _ _ _ _ _ _ _, h.d.keep hk' (by have := h.g; omega), own_put h.o (by rw [h.n]; exact hk) y, by simp [h.n], h.g⟩

set_option maxHeartbeats 3200000 in
theorem blocksSeen_any (ao bo : Option Addr) (ca cb : Nat) (ss : List ByteArray) (xs : List Wr) (h : Int) (w : World) (hd : diskB ss xs = true) (h1 : Ss w ao ss) (h2 : Ios w bo xs) (hE : ErrW w) :
    Calls Tryz.prog 76 #[.agg #[.slice ao ss.length ca, .slice bo xs.length cb], .int .i64 h] w fun e w' => ∃ g, e = .returned (.slice (some ⟨g, 0, none⟩) 4 4) ∧ OwnR w' w.heap.size 96 4 (.slice (some ⟨g, 0, none⟩) 4 4) 4 (bksV (bksOf ss xs h)) ∧ Below w.heap.size w w' := by
  have H1 := hide h1
  have H2 := hide h2
  have HE := hide hE
  have HD := hide hd
  have HA := hide (Joins.below_alloc1 w (.cells #[.slice ao ss.length ca, .slice bo xs.length cb] 26))
  have HV := hide (VarD.new w (.slice ao ss.length ca) (.slice bo xs.length cb))
  clear h1 h2 hE hd
  obtain ⟨i0, hi, hz0, hz1, hz2⟩ := info_parts infoL
  go_enter Tryz.func76, Tryz.ntmps76
  go_wp2_with (first | (at_make; refine wpList_make_full _ rfl _ _ 64 rfl (w.heap.size + 1) 96 i0 _ 4 Tryz.underlying64 hi hz0 hz1 _ _ _ _ 4 rfl rfl rfl rfl ?c1 ?c2 ?c3 ?_))
  case c1 => rw [hz2]; omega
  case c2 => unfold maxLen; omega
  case c3 => simp
  intro w1 hown hgrow
  replace hown : w1.ownsRow (w.heap.size + 1) 96 4 (.slice (some ⟨w.heap.size + 1, 0, none⟩) 4 4) 4 (bksV [bk0, bk0, bk0, bk0]) := by rw [show bksV [bk0, bk0, bk0, bk0] = (madeCells #[Value.int .i64 0, Value.int .i64 0, Value.int .i64 0, Value.int .i64 0] 16).toList from made4.symm]; simpa using hown
  have hB : Below (w.alloc (.cells #[.slice ao ss.length ca, .slice bo xs.length cb] 26)).heap.size (w.alloc (.cells #[.slice ao ss.length ca, .slice bo xs.length cb] 26)) w1 := (Below.refl _ _).grown hgrow (Nat.le_refl _) (fun _ h => by cases h)
  have E1 : Hid (SeI w w1 w.heap.size (.slice ao ss.length ca) (.slice bo xs.length cb) (w.heap.size + 1) [bk0, bk0, bk0, bk0]) := hide ⟨fr (unhide HA) hB, (unhide HV).below hB, hown, rfl, Nat.le_refl _⟩
  clear hown hB hgrow HA HV
  revert E1
  generalize hG : w.heap.size + 1 = G
  replace hG := hide hG
  intro E1
  go_wp2
  go_loopw [6, 10] (fun _ i wr => ∃ (k : Nat) (l : List Bk), k ≤ 4 ∧ i = .int .i64 k ∧ Hid (SeI w wr w.heap.size (.slice ao ss.length ca) (.slice bo xs.length cb) G l) ∧ Hid (∀ j, j < k → l.getD j bk0 = (bksOf ss xs h).getD j bk0)) (fun _ i _ => 4 - (intOf i).toNat)
  case atStart => exact ⟨0, _, Nat.zero_le _, rfl, E1, hide (fun j hj => absurd hj (Nat.not_lt_zero _))⟩
  case round =>
    obtain ⟨k, l, hk, rfl, ER, HP⟩ := hrel
    by_cases hlt : k < 4
    · have hki : (k : Int) < 4 := by omega
      obtain ⟨T, HT⟩ : ∃ T, Hid (readV ss xs h (1 + (k : Int)) = T) := ⟨_, hide rfl⟩
      have HTZ : Hid (T.size ≤ 80) := hide (by rw [← unhide HT]; exact readV_size (unhide HD) h _)
      obtain ⟨d0, d1⟩ := (unhide ER).d.cells
      have wr1 : IntKind.i64.wrap (1 + (k : Int)) = 1 + (k : Int) := by rw [IntKind.wrap_i64]; omega
      go_wp2_with fail
      refine (seenAt ao bo ca cb ss xs h (1 + (k : Int)) T _ (unhide HD) (by omega) (by omega) (unhide HT) ((unhide H1).below (unhide ER).below) ((unhide H2).below (unhide ER).below)).mono ?_
      rintro e w2 ⟨rfl, hb2⟩
      have E2 := hide ((unhide ER).next hb2)
      clear hb2 d0 d1
      go_wp2_with fail
      refine (decodeBlock_impl T _ ((unhide HE).below (unhide E2).below)).mono ?_
      rintro e w3 ⟨rfl, hb3⟩
      rw [bcK_right (unhide HTZ)]
      have E3 := hide ((unhide E2).next hb3)
      have HB : Hid (bdK T = (bksOf ss xs h).getD k bk0) := hide (by rw [bksOf_at ss xs h hlt, unhide HT])
      clear hb3
      revert HB
      generalize bdK T = y
      intro HB
      have E4 := hide ((unhide E3).put (Nat.le_refl _) hlt y)
      have hkl : k < l.length := by rw [(unhide E3).n]; exact hlt
      obtain ⟨b', off', eb, _, g0, g1, g2, g3⟩ := (ownBks (B := w.heap.size + 1) (e := 96) (cap := 4) (xs := l) (by rw [(unhide E3).n]; exact .inr ⟨by omega, (unhide E3).o⟩)).get k hkl
      simp only [Option.some.injEq, Addr.mk.injEq, and_true] at eb
      obtain ⟨rfl, rfl⟩ := eb
      simp only [Nat.zero_add] at g0 g1 g2 g3
      have fz := (row_free (n := 3) (.inr ⟨by omega, (unhide E3).o⟩)).1
      have hnn : l.length = 4 := (unhide E3).n
      have HPP : Hid (∀ j, j < k + 1 → (l.set k y).getD j bk0 = (bksOf ss xs h).getD j bk0) := hide (fun j hj => by
        by_cases e : j = k
        · subst e; rw [← unhide HB]; simp [hkl]
        · rw [← unhide HP j (by omega)]; simp [Ne.symm e])
      clear hkl hnn
      have f0 := fz (k * 4)
      have f1 := fz (k * 4 + 1)
      have f2 := fz (k * 4 + 2)
      have f3 := fz (k * 4 + 3)
      clear fz
      go_wp2
      go_roundw
      case rel => exact ⟨k + 1, l.set k y, by omega, by go_num, E4, HPP⟩
      case measure => simp [intOf]; omega
    · have hk4 : k = 4 := by omega
      have HL : Hid (l = bksOf ss xs h) := hide (list4 (unhide ER).n rfl (fun j hj => unhide HP j (by omega)))
      have hki : ¬ (k : Int) < 4 := by omega
      clear hk4
      go_wp2
      go_ret
      refine ⟨_, rfl, ?_, (unhide ER).below⟩
      rw [← unhide HL]
      exact .inr ⟨by omega, own_base (unhide ER).o (Nat.le_succ _)⟩
end Go.Proofs.YtefnapcegeojoaaGreatDoor

namespace Go.Proofs.YtefnapcegeojoaaGreatDoor
open Go.RowKit
set_option linter.unusedVariables false
set_option maxRecDepth 100000

abbrev set14 (w : World) (x : Nat) (q : Pxs) (b s d : Value) (L : Ld) : World := ((((((set8 w x q).setCell ⟨x, 8, none⟩ b).setCell ⟨x, 9, none⟩ s).setCell ⟨x, 10, none⟩ d).setCell ⟨x, 11, none⟩ (.int .i64 L.ver)).setCell ⟨x, 12, none⟩ (.int .i64 L.own)).setCell ⟨x, 13, none⟩ (.int .i64 L.gen)
theorem keep14 (W : World) (x : Nat) (q : Pxs) (b s d : Value) (L : Ld) : Keep (fun j => j = x) W (set14 W x q b s d L) :=
  (((keep_set8 W x q).trans (keep_row _ x b)).trans (keep_disk _ x s d)).trans (keep_lead _ x _ _ _)
structure OpI (w W : World) (D : Nat) (dv dx : Value) : Prop where
  below : Below w.heap.size w W
  d : VarD W D dv dx
  r : VarS W (D + 1) p00 (.slice none 0 0) (.slice none 0 0) (.slice none 0 0) ld0
  k : w.heap.size ≤ D
theorem OpI.next {w W W' : World} {D : Nat} {dv dx : Value} (h : OpI w W D dv dx) (hb : Below W.heap.size W W') : OpI w W' D dv dx := ⟨fr h.below hb, h.d.below hb, h.r.below hb, h.k⟩
theorem OpI.last {w W : World} {D n m ca cb ba : Nat} {dv dx : Value} {bo ao qo : Option Addr} {bs : List Bk} {ss : List ByteArray} {xs : List Wr} (h : OpI w W D dv dx) (ho : OwnR W w.heap.size 96 4 (.slice bo 4 ba) 4 (bksV bs)) (hd : OwnD W w.heap.size ao n ca qo m cb ss xs) (q : Pxs) (b s d : Value) (L : Ld) :
    OwnR (set14 W (D + 1) q b s d L) w.heap.size 96 4 (.slice bo 4 ba) 4 (bksV bs) ∧ OwnD (set14 W (D + 1) q b s d L) w.heap.size ao n ca qo m cb ss xs ∧ Below w.heap.size w (set14 W (D + 1) q b s d L) :=
  have hk := keep14 W (D + 1) q b s d L
  ⟨rowX h.r ho hk, diskX h.r hd hk, h.below.trans (hk.below (B := w.heap.size) h.below.size (fun j e => by have e' : j = D + 1 := e; have := h.k; omega))⟩

set_option maxHeartbeats 1600000 in
theorem openStore_any (ao bo : Option Addr) (ca cb : Nat) (ss : List ByteArray) (xs : List Wr) (h : Int) (L : Ld) (w : World) (hL : ldOf ss xs h = L) (hd : diskB ss xs = true) (h1 : Ss w ao ss) (h2 : Ios w bo xs) (hE : ErrW w) :
    Calls Tryz.prog 36 #[.agg #[.slice ao ss.length ca, .slice bo xs.length cb], .int .i64 h] w fun e w' => ∃ g po pa ro ra, e = .returned (.agg #[.int .i64 h, .int .i64 0, .int .i64 0, .int .i64 0, .int .i64 0, .int .i64 0, .int .i64 0, .int .i64 0, .slice (some ⟨g, 0, none⟩) 4 4, .slice po ss.length pa, .slice ro xs.length ra, .int .i64 L.ver, .int .i64 L.own, .int .i64 L.gen]) ∧ OwnR w' w.heap.size 96 4 (.slice (some ⟨g, 0, none⟩) 4 4) 4 (bksV (bksOf ss xs h)) ∧ OwnD w' w.heap.size po ss.length pa ro xs.length ra ss xs ∧ Below w.heap.size w w' := by
  obtain ⟨l1, l2⟩ := diskB_len hd
  have HC1 := hide (fun W (hW : Below w.heap.size w W) => blocksSeen_any ao bo ca cb ss xs h W hd (h1.below hW) (h2.below hW) (hE.below hW))
  have HC2 := hide (fun W (hW : Below w.heap.size w W) => copyDisk_any ao bo ca cb ss xs W (by omega) (by omega) (h1.below hW) (h2.below hW))
  have HC3 := hide (fun W (hW : Below w.heap.size w W) => leaderSeen_any ao bo ca cb ss xs h L W hL hd (h1.below hW) (h2.below hW) (hE.below hW))
  have HA := hide (Joins.below_alloc2 w (.cells #[.slice ao ss.length ca, .slice bo xs.length cb] 26) (.cells #[.int .i64 0, .int .i64 0, .int .i64 0, .int .i64 0, .int .i64 0, .int .i64 0, .int .i64 0, .int .i64 0, .slice none 0 0, .slice none 0 0, .slice none 0 0, .int .i64 0, .int .i64 0, .int .i64 0] 68))
  have HS : Hid (OpI w ((w.alloc (.cells #[.slice ao ss.length ca, .slice bo xs.length cb] 26)).alloc (.cells #[.int .i64 0, .int .i64 0, .int .i64 0, .int .i64 0, .int .i64 0, .int .i64 0, .int .i64 0, .int .i64 0, .slice none 0 0, .slice none 0 0, .slice none 0 0, .int .i64 0, .int .i64 0, .int .i64 0] 68)) w.heap.size (.slice ao ss.length ca) (.slice bo xs.length cb)) :=
    hide ⟨unhide HA, (VarD.new w _ _).below (Joins.below_alloc1 _ _), by
      have := VarS.new (w.alloc (.cells #[.slice ao ss.length ca, .slice bo xs.length cb] 26)) p00 (.slice none 0 0) (.slice none 0 0) (.slice none 0 0) ld0
      simp only [World.size_alloc] at this
      exact this, Nat.le_refl _⟩
  clear hd h1 h2 hE hL l1 l2
  go_enter Tryz.func36, Tryz.ntmps36
  go_upto_region 1 with fail
  revert HS
  clear HA
  generalize (w.alloc (.cells #[.slice ao ss.length ca, .slice bo xs.length cb] 26)).alloc (.cells #[.int .i64 0, .int .i64 0, .int .i64 0, .int .i64 0, .int .i64 0, .int .i64 0, .int .i64 0, .int .i64 0, .slice none 0 0, .slice none 0 0, .slice none 0 0, .int .i64 0, .int .i64 0, .int .i64 0] 68) = W0
  intro HS
  obtain ⟨d0, d1⟩ := (unhide HS).d.cells
  replace HS := hide ((unhide HS).next (Below.refl _ W0).drew)
  go_region_held3 (fun w' => w'.cell? ⟨w.heap.size, 0, none⟩ = some (.slice ao ss.length ca) ∧ w'.cell? ⟨w.heap.size, 1, none⟩ = some (.slice bo xs.length cb)) (go_keep) (first
    | (go_at_call 76; refine (unhide HC1 _ (by exact (unhide HS).below)).mono ?_; rintro e wA ⟨g, rfl, ho, hb⟩; (try replace HO1 := hide ((unhide HO1).below hb)); (try replace HO2 := hide ((unhide HO2).below hb)); have HO1 := hide (ho.base (B' := w.heap.size) (unhide HS).below.size); replace HS := hide ((unhide HS).next hb); clear ho; clear hb; (try clear d0 d1); (first | (have u1 := HO1; have u2 := HO2; have u3 := HO3; clear u1 u2 u3; obtain ⟨r0, r1, r2, r3, r4, r5, r6, r7⟩ := (unhide HS).r.px; obtain ⟨r8, r9, r10, r11, r12, r13⟩ := (unhide HS).r.rest; have f0 := (unhide HS).r.free 0; have f1 := (unhide HS).r.free 1; have f2 := (unhide HS).r.free 2; have f3 := (unhide HS).r.free 3; have f4 := (unhide HS).r.free 4; have f5 := (unhide HS).r.free 5; have f6 := (unhide HS).r.free 6; have f7 := (unhide HS).r.free 7; have f8 := (unhide HS).r.free 8; have f9 := (unhide HS).r.free 9; have f10 := (unhide HS).r.free 10; have f11 := (unhide HS).r.free 11; have f12 := (unhide HS).r.free 12; have f13 := (unhide HS).r.free 13) | skip); obtain ⟨d0, d1⟩ := (unhide HS).d.cells)
    | (go_at_call 77; refine (unhide HC2 _ (by exact (unhide HS).below)).mono ?_; rintro e wA ⟨po, pa, ro, ra, rfl, ho, hb⟩; (try replace HO1 := hide ((unhide HO1).below hb)); (try replace HO2 := hide ((unhide HO2).below hb)); have HO2 := hide (ho.base (B' := w.heap.size) (unhide HS).below.size); replace HS := hide ((unhide HS).next hb); clear ho; clear hb; (try clear d0 d1); (first | (have u1 := HO1; have u2 := HO2; have u3 := HO3; clear u1 u2 u3; obtain ⟨r0, r1, r2, r3, r4, r5, r6, r7⟩ := (unhide HS).r.px; obtain ⟨r8, r9, r10, r11, r12, r13⟩ := (unhide HS).r.rest; have f0 := (unhide HS).r.free 0; have f1 := (unhide HS).r.free 1; have f2 := (unhide HS).r.free 2; have f3 := (unhide HS).r.free 3; have f4 := (unhide HS).r.free 4; have f5 := (unhide HS).r.free 5; have f6 := (unhide HS).r.free 6; have f7 := (unhide HS).r.free 7; have f8 := (unhide HS).r.free 8; have f9 := (unhide HS).r.free 9; have f10 := (unhide HS).r.free 10; have f11 := (unhide HS).r.free 11; have f12 := (unhide HS).r.free 12; have f13 := (unhide HS).r.free 13) | skip); obtain ⟨d0, d1⟩ := (unhide HS).d.cells)
    | (go_at_call 33; refine (unhide HC3 _ (by exact (unhide HS).below)).mono ?_; rintro e wA ⟨rfl, hb⟩; (try replace HO1 := hide ((unhide HO1).below hb)); (try replace HO2 := hide ((unhide HO2).below hb)); have HO3 : Hid True := hide trivial; replace HS := hide ((unhide HS).next hb); clear hb; (try clear d0 d1); (first | (have u1 := HO1; have u2 := HO2; have u3 := HO3; clear u1 u2 u3; obtain ⟨r0, r1, r2, r3, r4, r5, r6, r7⟩ := (unhide HS).r.px; obtain ⟨r8, r9, r10, r11, r12, r13⟩ := (unhide HS).r.rest; have f0 := (unhide HS).r.free 0; have f1 := (unhide HS).r.free 1; have f2 := (unhide HS).r.free 2; have f3 := (unhide HS).r.free 3; have f4 := (unhide HS).r.free 4; have f5 := (unhide HS).r.free 5; have f6 := (unhide HS).r.free 6; have f7 := (unhide HS).r.free 7; have f8 := (unhide HS).r.free 8; have f9 := (unhide HS).r.free 9; have f10 := (unhide HS).r.free 10; have f11 := (unhide HS).r.free 11; have f12 := (unhide HS).r.free 12; have f13 := (unhide HS).r.free 13) | skip); obtain ⟨d0, d1⟩ := (unhide HS).d.cells))
  all_goals
    have HF := hide (OpI.last (unhide HS) (unhide HO1) (unhide HO2) ⟨h, 0, 0, 0, 0, 0, 0, 0⟩ (.slice (some ⟨g, 0, none⟩) 4 4) (.slice po ss.length pa) (.slice ro xs.length ra) L)
    go_wp2
    exact bodyPost_ret (v := .agg #[.int .i64 h, .int .i64 0, .int .i64 0, .int .i64 0, .int .i64 0, .int .i64 0, .int .i64 0, .int .i64 0, .slice (some ⟨g, 0, none⟩) 4 4, .slice po ss.length pa, .slice ro xs.length ra, .int .i64 L.ver, .int .i64 L.own, .int .i64 L.gen]) (by simp [results, Tryz.results36, go_sem, r0, r1, r2, r3, r4, r5, r6, r7, r8, r9, r10, r11, r12, r13]) rfl ⟨g, po, pa, ro, ra, rfl, (unhide HF).1, (unhide HF).2.1, (unhide HF).2.2⟩

end Go.Proofs.YtefnapcegeojoaaGreatDoor

namespace Go.Proofs.YtefnapcegeojoaaGreatDoor
open Go.RowKit
set_option linter.unusedVariables false
set_option maxRecDepth 100000

set_option maxHeartbeats 1600000 in
theorem numbersB (x : Bk) (w : World) : Calls Tryz.prog 141 #[bV x] w fun e w' => ∃ ao, e = .returned (.slice ao 4 4) ∧ Is w' ao [x.ver, x.mbal, x.bal, x.inp] ∧ Below w.heap.size w w' := by
  go_enter Tryz.func141, Tryz.ntmps141
  go_wp2
  go_ret
  exact ⟨_, rfl, is4 _ _ _ _ _ _ _ (by simp), Joins.below_alloc2 _ _ _⟩

set_option maxHeartbeats 1600000 in
theorem encodeBlock_impl (x : Bk) (w : World) : Calls Tryz.prog 118 #[bV x] w fun e w' => e = .returned (.tuple #[.string (ebR x), .int .i64 (ebC x)]) ∧ Below w.heap.size w w' := by
  have HA := hide (Joins.below_alloc1 w (.cells #[.int .i64 x.ver, .int .i64 x.mbal, .int .i64 x.bal, .int .i64 x.inp] 96))
  have HV := hide (VarB.new w 96 x)
  go_enter Tryz.func118, Tryz.ntmps118
  go_wp2_with fail
  refine (blockOK_impl x _).mono ?_
  rintro e w1 ⟨rfl, hb⟩
  have HB := hide (fr (unhide HA) hb)
  obtain ⟨hc0, hc1, hc2, hc3⟩ := ((unhide HV).below hb).cells
  clear hb
  by_cases hd : bkB x = true
  · have HE : Hid (ebR x = encB x ∧ ebC x = 0) := hide ⟨if_pos hd, if_pos hd⟩
    have HD := hide (b4_seal hd)
    go_wp2_with fail
    refine (numbersB x _).mono ?_
    rintro e w2 ⟨ao, rfl, hi, hb⟩
    have HB2 := hide (fr (unhide HB) hb)
    have HI := hide hi
    clear hb hi hc0 hc1 hc2 hc3
    go_wp2_with fail
    refine (sealRecord_impl 5 ao 4 [x.ver, x.mbal, x.bal, x.inp] _ (by simp) (unhide HI)).mono ?_
    rintro e w3 ⟨rfl, hb⟩
    have HB3 := hide (fr (unhide HB2) hb)
    clear hb
    rw [(unhide HD).1, (unhide HD).2]
    go_wp2
    go_ret2
    exact ⟨ret_se (unhide HE).1.symm (unhide HE).2.symm, unhide HB3⟩
  · have HE : Hid (ebR x = ⟨#[]⟩ ∧ ebC x = 1) := hide ⟨if_neg hd, if_neg hd⟩
    rw [Bool.not_eq_true] at hd
    go_wp2
    go_ret2
    exact ⟨ret_se (unhide HE).1.symm (unhide HE).2.symm, unhide HB⟩

end Go.Proofs.YtefnapcegeojoaaGreatDoor

namespace Go.Proofs.YtefnapcegeojoaaGreatDoor
open Go.RowKit
set_option linter.unusedVariables false
set_option maxRecDepth 100000

set_option maxHeartbeats 1600000 in
theorem put_any (B x : Nat) (s : Est) (L : Ld) (bo ao qo : Option Addr) (ba ca cb : Nat) (a : Int) (t : ByteArray) (S : List ByteArray) (X : List Wr) (w : World) (hS : wS s.ss s.xs s.p.host a t = S) (hX : wX s.xs s.p.host a t = X) (hd : diskB s.ss s.xs = true) (hl : s.xs.length < 200) (ht : t.size ≤ 80) (hh : 0 ≤ s.p.host ∧ s.p.host ≤ 3) (a0 : 0 ≤ a) (a1 : a ≤ 63) (hs : Sto w B x s L bo ba ao ca qo cb) :
    Calls Tryz.prog 119 #[.pointer (some ⟨x, 0, none⟩), .int .i64 a, .string t] w fun e w' => e = .returned (.tuple #[]) ∧ StoE w' B x ⟨S, X, s.p, s.bs⟩ L ∧ Keep (fun j => j = x) w w' := by
  obtain ⟨_, z1, z2⟩ := right_sz hd
  have HC : Hid (∀ W, Below w.heap.size w W → Calls Tryz.prog 142 #[.agg #[.slice ao s.ss.length ca, .slice qo s.xs.length cb], .int .i64 s.p.host, .int .i64 a, .string t] W fun e w' => ∃ po pa ro ra, e = .returned (.tuple #[.agg #[.slice po S.length pa, .slice ro X.length ra], .int .i64 0]) ∧ OwnD w' W.heap.size po S.length pa ro X.length ra S X ∧ Below W.heap.size W w') :=
    hide (fun W hW => writeSure_ok ao qo ca cb s.ss s.xs s.p.host a t S X W hS hX hd hl ht hh.1 hh.2 a0 a1 ((hs.below hW).d.ss z1) ((hs.below hW).d.ios z2))
  have HS := hide hs
  obtain ⟨c0, _⟩ := hs.v.px
  obtain ⟨_, c9, c10, _⟩ := hs.v.rest
  clear hS hX hd hl ht hs z1 z2 hh
  go_enter Tryz.func119, Tryz.ntmps119
  go_wp2
  go_region_with (go_at_call 142; refine (unhide HC _ (Below.refl _ w).drew).mono ?_; rintro e wA ⟨po, pa, ro, ra, rfl, hoA, hbA⟩; have HBA := hide (fr (Below.refl _ w).drew hbA); have HOA := hide hoA; have HSA := hide ((unhide HS).below (unhide HBA)); obtain ⟨_, d9, d10, _⟩ := (unhide HSA).v.rest; have f9 := (unhide HSA).v.free 9; have f10 := (unhide HSA).v.free 10; clear hoA hbA)
  all_goals
    have HW := hide (Sto.write (unhide HS) (unhide HBA) (by exact unhide HOA))
    go_wp2
    go_end0
    exact ⟨rfl, ⟨_, _, _, _, _, _, (unhide HW).1⟩, (unhide HW).2⟩

set_option maxHeartbeats 1600000 in
theorem putBlock_any (B x : Nat) (s : Est) (L : Ld) (bo ao qo : Option Addr) (ba ca cb : Nat) (S : List ByteArray) (X : List Wr) (w : World) (hS : wS s.ss s.xs s.p.host (1 + s.p.host) (encB (ownK s.p s.bs)) = S) (hX : wX s.xs s.p.host (1 + s.p.host) (encB (ownK s.p s.bs)) = X) (hd : diskB s.ss s.xs = true) (hl : s.xs.length < 200) (hp : pxB s.p = true) (hb : bksB s.bs = true) (hs : Sto w B x s L bo ba ao ca qo cb) :
    Calls Tryz.prog 82 #[.pointer (some ⟨x, 0, none⟩)] w fun e w' => e = .returned (.tuple #[]) ∧ StoE w' B x ⟨S, X, s.p, s.bs⟩ L ∧ Keep (fun j => j = x) w w' := by
  obtain ⟨hh, _⟩ := px_parts hp
  have hr := own_right hp hb
  have h4 := (bksB_parts hb).1
  obtain ⟨y, hy⟩ : ∃ y, ownK s.p s.bs = y := ⟨_, rfl⟩
  rw [hy] at hS hX hr
  have HY := hide hy
  have HO := hide (fun W hW => own_any B x s L bo ao qo ba ca cb W h4 hh hW)
  rw [hy] at HO
  have HE : Hid (ebR y = encB y) := hide (if_pos hr)
  have HP := hide (fun W hW => put_any B x s L bo ao qo ba ca cb (1 + s.p.host) (encB y) S X W hS hX hd hl (by rw [encB_size]; decide) hh (by omega) (by omega) hW)
  have HS := hide hs
  have wr1 : IntKind.i64.wrap (1 + s.p.host) = 1 + s.p.host := by rw [IntKind.wrap_i64]; omega
  clear hS hX hd hl hp hb hs hh hr h4 hy
  go_enter Tryz.func82, Tryz.ntmps82
  go_wp2_with fail
  refine (unhide HO _ (unhide HS)).mono ?_
  rintro e w1 ⟨rfl, hb1⟩
  have HB1 := hide hb1
  clear hb1
  go_wp2_with fail
  refine (encodeBlock_impl y _).mono ?_
  rintro e w2 ⟨rfl, hb2⟩
  rw [unhide HE]
  have HB2 := hide (fr (unhide HB1) hb2)
  have HS2 := hide ((unhide HS).below (unhide HB2))
  obtain ⟨c0, _⟩ := (unhide HS2).v.px
  clear hb2
  go_wp2_with fail
  refine (unhide HP _ (unhide HS2)).mono ?_
  rintro e w3 ⟨rfl, hst, hk⟩
  have HST := hide hst
  have HK := hide ((Keep.of_below (unhide HB2)).trans hk)
  clear hst hk c0
  go_wp2
  go_end0
  exact ⟨rfl, unhide HST, unhide HK⟩

set_option maxHeartbeats 1600000 in
theorem putLeader_any (B x : Nat) (s : Est) (L M : Ld) (bo ao qo : Option Addr) (ba ca cb : Nat) (S : List ByteArray) (X : List Wr) (w : World) (hS : wS s.ss s.xs s.p.host 0 (encL M) = S) (hX : wX s.xs s.p.host 0 (encL M) = X) (hd : diskB s.ss s.xs = true) (hl : s.xs.length < 200) (hh : 0 ≤ s.p.host ∧ s.p.host ≤ 3) (hM : ldB M = true) (hs : Sto w B x s L bo ba ao ca qo cb) :
    Calls Tryz.prog 84 #[.pointer (some ⟨x, 0, none⟩), lV M] w fun e w' => e = .returned (.tuple #[]) ∧ StoE w' B x ⟨S, X, s.p, s.bs⟩ M ∧ Keep (fun j => j = x) w w' := by
  have HE : Hid (elR M = encL M) := hide (if_pos hM)
  have HP := hide (fun W hW => put_any B x s L bo ao qo ba ca cb 0 (encL M) S X W hS hX hd hl (by rw [encL_size]; decide) hh (by omega) (by omega) hW)
  have HA := hide (Joins.below_alloc1 w (.cells #[.int .i64 M.ver, .int .i64 M.own, .int .i64 M.gen] 30))
  have HS := hide (hs.below (unhide HA))
  have HV := hide (VarT.new w 30 M.ver M.own M.gen)
  have hlt := hs.v.lt
  have HN : Hid (¬ w.heap.size = x) := hide (by omega)
  clear hS hX hd hl hh hM hs hlt
  go_enter Tryz.func84, Tryz.ntmps84
  go_wp2_with fail
  refine (encodeLeader_impl M _).mono ?_
  rintro e w2 ⟨rfl, hb2⟩
  rw [unhide HE]
  have HB2 := hide (fr (unhide HA) hb2)
  have HS2 := hide ((unhide HS).below hb2)
  have HV2 := hide ((unhide HV).below hb2)
  clear hb2
  go_wp2_with fail
  refine (unhide HP _ (unhide HS2)).mono ?_
  rintro e w3 ⟨rfl, hst, hk⟩
  obtain ⟨bo', ba', ao', ca', qo', cb', hst⟩ := hst
  have HV3 := hide ((unhide HV2).keep hk (unhide HN))
  have HK := hide ((Keep.of_below (unhide HB2)).trans hk)
  have HL := hide (hst.leader M)
  have HST := hide hst
  obtain ⟨_, _, _, d11, d12, d13⟩ := hst.v.rest
  have f11 := hst.v.free 11
  have f12 := hst.v.free 12
  have f13 := hst.v.free 13
  obtain ⟨t0, t1, t2⟩ := (unhide HV3).cells
  clear hst hk
  go_wp2
  go_end0
  exact ⟨rfl, ⟨_, _, _, _, _, _, unhide HL⟩, (unhide HK).trans (keep_lead w3 x _ _ _)⟩

end Go.Proofs.YtefnapcegeojoaaGreatDoor

namespace Go.Proofs.YtefnapcegeojoaaGreatDoor
open Go.RowKit
set_option linter.unusedVariables false
set_option maxRecDepth 100000

set_option maxHeartbeats 1600000 in
theorem blockOK_spec (x : Bk) (w : World) : Calls Tryz.prog 143 #[bV x] w fun e w' => e = .returned (.bool (bkB x)) ∧ Below w.heap.size w w' := by
  go_enter Tryz.func143, Tryz.ntmps143
  go_wp2_with fail
  refine (l01In_num x.ver 0 1000000 _).mono ?_
  rintro e w1 ⟨rfl, rfl⟩
  by_cases h1 : inB x.ver 0 1000000 = false
  · have hr := hide (bkB_1 h1)
    go_wp2
    go_ret
    rw [unhide hr]
    exact ⟨rfl, Joins.below_alloc1 _ _⟩
  rw [Bool.not_eq_false] at h1
  go_wp2_with fail
  refine (l01In_num x.mbal 0 1000000 _).mono ?_
  rintro e w1 ⟨rfl, rfl⟩
  by_cases h2 : inB x.mbal 0 1000000 = false
  · have hr := hide (bkB_2 h2)
    go_wp2
    go_ret
    rw [unhide hr]
    exact ⟨rfl, Joins.below_alloc1 _ _⟩
  rw [Bool.not_eq_false] at h2
  go_wp2_with fail
  refine (l01In_num x.bal 0 x.mbal _).mono ?_
  rintro e w1 ⟨rfl, rfl⟩
  by_cases h3 : inB x.bal 0 x.mbal = false
  · have hr := hide (bkB_3 h3)
    go_wp2
    go_ret
    rw [unhide hr]
    exact ⟨rfl, Joins.below_alloc1 _ _⟩
  rw [Bool.not_eq_false] at h3
  go_wp2_with fail
  refine (l01In_num x.inp 0 2147483647 _).mono ?_
  rintro e w1 ⟨rfl, rfl⟩
  by_cases h4 : inB x.inp 0 2147483647 = false
  · have hr := hide (bkB_4 h4)
    go_wp2
    go_ret
    rw [unhide hr]
    exact ⟨rfl, Joins.below_alloc1 _ _⟩
  rw [Bool.not_eq_false] at h4
  have hr := hide (bkB_5 h1 h2 h3 h4)
  clear h1 h2 h3
  by_cases h5 : 0 < x.bal
  · have hv : Hid (bkB x = true) := hide (by rw [unhide hr]; simp [h5])
    go_wp2
    go_ret
    rw [unhide hv]
    exact ⟨rfl, Joins.below_alloc1 _ _⟩
  · have hv : Hid (bkB x = decide (x.inp = 0)) := hide (by rw [unhide hr]; simp [h5])
    go_wp2
    go_ret
    rw [unhide hv]
    exact ⟨ret_bool (by rw [Bool.eq_iff_iff]; simp <;> omega), Joins.below_alloc1 _ _⟩

set_option maxHeartbeats 1600000 in
theorem l05Encode_bk (x : Bk) (w : World) (hd : bkB x = true) : Calls Tryz.prog 68 #[bV x] w fun e w' => e = .returned (.string (encB x)) ∧ Below w.heap.size w w' := by
  have HD := hide (b4_nums hd)
  clear hd
  go_enter Tryz.func68, Tryz.ntmps68
  go_wp2_with fail
  refine (l02Seal_any 5 _ 4 [x.ver, x.mbal, x.bal, x.inp] _ (by decide) (by simp) (unhide HD) (is4 _ _ _ _ _ _ _ (by simp))).mono ?_
  rintro e w1 ⟨rfl, hb⟩
  have HB := hide hb
  clear hb
  go_wp2
  go_ret
  exact ⟨rfl, fr (Joins.below_alloc2 _ _ _) (unhide HB)⟩

set_option maxHeartbeats 1600000 in
theorem l05Decode_any (t : ByteArray) (w : World) (hs : t.size ≤ 65536) : Calls Tryz.prog 120 #[.string t] w fun e w' => e = .returned (.tuple #[bV (bdK t), .bool (bdB t)]) ∧ Below w.heap.size w w' := by
  have HA := hide (Joins.below_alloc1 w (.cells #[.int .i64 0, .int .i64 0, .int .i64 0, .int .i64 0] 96))
  have HV := hide (VarB.new0 w 96)
  go_enter Tryz.func120, Tryz.ntmps120
  go_wp2_with fail
  refine (l02Open_any t 5 _ hs).mono ?_
  rintro e w1 ⟨v, rfl, ⟨qo, qa, rfl, ho⟩, hb⟩
  have HB := hide (fr (unhide HA) hb)
  have HB1 := hide hb
  have HO := hide ho
  obtain ⟨hc0, hc1, hc2, hc3⟩ := ((unhide HV).below hb).cells
  obtain ⟨hf0, hf1, hf2, hf3⟩ := ((unhide HV).below hb).free
  have HR := hide (fun u v x y => below4 (unhide HB) (Nat.le_refl _) 0 1 2 3 u v x y)
  clear hb ho
  by_cases hb : openB t 5 = false
  · have HE := hide (bdB_open hb)
    go_wp2
    refine bodyPost_ret (v := .tuple #[bV bk0, .bool false]) (by simp [results, Tryz.results120, go_sem, hc0, hc1, hc2, hc3, bk0]) rfl ⟨?_, unhide HR _ _ _ _⟩
    exact ret_bb (bd_no (unhide HE)).symm (unhide HE).symm
  rw [Bool.not_eq_false] at hb
  by_cases h3 : (openL t 5).length = 4
  · obtain ⟨a, b, c, d, hl⟩ := fourK h3
    have HL := hide hl
    have hI := ownRN (unhide HO)
    rw [hl] at hI
    obtain ⟨g, off, rfl, hi0⟩ := hI 0 (by simp)
    obtain ⟨g', off', he, hi1⟩ := hI 1 (by simp)
    cases he
    obtain ⟨g', off', he, hi2⟩ := hI 2 (by simp)
    cases he
    obtain ⟨g', off', he, hi3⟩ := hI 3 (by simp)
    cases he
    simp only [List.getElem_cons_zero, List.getElem_cons_succ, Nat.add_zero] at hi0 hi1 hi2 hi3
    have hg := World.block_lt_of_cell? _ _ hi0
    clear hI
    go_wp2_with fail
    have HA2 := hide (Joins.below_alloc1 w1 (.cells #[.int .i64 a, .int .i64 b, .int .i64 c, .int .i64 d] 96)).drew
    have HV2 := hide (((unhide HV).below (unhide HB1)).below (unhide HA2))
    have HV3 : Hid (VarB (w1.alloc (.cells #[.int .i64 a, .int .i64 b, .int .i64 c, .int .i64 d] 96)).drew w1.heap.size 96 ⟨a, b, c, d⟩) := hide ((VarB.new w1 96 ⟨a, b, c, d⟩).below (Below.refl _ _).drew)
    have HB2 := hide (fr (unhide HB) (unhide HA2))
    clear hc0 hc1 hc2 hc3 hf0 hf1 hf2 hf3 HR
    go_region
    go_wp2_with fail
    refine (blockOK_spec ⟨a, b, c, d⟩ _).mono ?_
    rintro e w2 ⟨rfl, hb2⟩
    have HB3 := hide (fr (unhide HB2) hb2)
    obtain ⟨hc0, hc1, hc2, hc3⟩ := ((unhide HV2).below hb2).cells
    obtain ⟨hf0, hf1, hf2, hf3⟩ := ((unhide HV2).below hb2).free
    obtain ⟨hx0, hx1, hx2, hx3⟩ := ((unhide HV3).below hb2).cells
    have HR := hide (fun u v x y => below4 (unhide HB3) (Nat.le_refl _) 0 1 2 3 u v x y)
    have HE := hide (bdB_at hb (unhide HL))
    clear hb2 hi0 hi1 hi2 hi3
    by_cases hd : bkB ⟨a, b, c, d⟩ = true
    · go_wp2
      refine bodyPost_ret (v := .tuple #[bV ⟨a, b, c, d⟩, .bool true]) (by simp [results, Tryz.results120, go_sem, hc0, hc1, hc2, hc3]) rfl ⟨?_, unhide HR _ _ _ _⟩
      exact ret_bb (bd_yes (by rw [unhide HE]; exact hd) (unhide HL)).symm (by rw [unhide HE]; exact hd.symm)
    · rw [Bool.not_eq_true] at hd
      go_wp2
      refine bodyPost_ret (v := .tuple #[bV bk0, .bool false]) (by simp [results, Tryz.results120, go_sem, hc0, hc1, hc2, hc3, bk0]) rfl ⟨?_, unhide HR _ _ _ _⟩
      exact ret_bb (bd_no (by rw [unhide HE]; exact hd)).symm (by rw [unhide HE]; exact hd.symm)
  · have HE := hide (bdB_len h3)
    go_wp2
    refine bodyPost_ret (v := .tuple #[bV bk0, .bool false]) (by simp [results, Tryz.results120, go_sem, hc0, hc1, hc2, hc3, bk0]) rfl ⟨?_, unhide HR _ _ _ _⟩
    exact ret_bb (bd_no (unhide HE)).symm (unhide HE).symm

end Go.Proofs.YtefnapcegeojoaaGreatDoor

namespace Go.Proofs.YtefnapcegeojoaaGreatDoor
open Go.RowKit
set_option linter.unusedVariables false
set_option maxRecDepth 100000

theorem fieldB1 (x : Bk) (W : World) : (Instr.field 96 (bV x) 1).run Tryz.prog W = .ok (.int .i64 x.mbal) W := by kernel_rfl

end Go.Proofs.YtefnapcegeojoaaGreatDoor

namespace Go.Proofs.YtefnapcegeojoaaGreatDoor
open Go.RowKit
set_option linter.unusedVariables false
set_option maxRecDepth 100000

theorem max_le {n m : Int} (h : m ≤ n) : max n m = n := by omega
theorem max_gt {n m : Int} (h : ¬ m ≤ n) : max n m = m := by omega

set_option maxHeartbeats 1600000 in
theorem l05Next_any (h v : Int) (ao : Option Addr) (n cap : Nat) (xs : List Bk) (w : World) (hn : xs.length = n) (hl : n ≤ 1048576) (hh : 0 ≤ h ∧ h ≤ 3) (hm : ∀ i (hi : i < xs.length), xs[i].mbal ≤ 1000000000) (hc : Bks w ao xs) :
    Calls Tryz.prog 87 #[.int .i64 h, .int .i64 v, .slice ao n cap] w fun e w' => e = .returned (.int .i64 (nxBal h v xs)) ∧ Below w.heap.size w w' := by
  have HC := hide hc
  have HM := hide hm
  clear hc hm
  subst hn
  go_enter Tryz.func87, Tryz.ntmps87
  go_wp2
  go_loopw [7, 8] (fun c i wr => ∃ k : Nat, ∃ n : Int, k ≤ xs.length ∧ i = .int .i64 k ∧ c = .int .i64 n ∧ (0 ≤ n ∧ n ≤ 1000000000) ∧ Hid (nxMax v (xs.drop k) n = nxMax v xs 0) ∧ Hid (Below w.heap.size w wr)) (fun _ i _ => xs.length - (intOf i).toNat)
  case atStart => exact ⟨0, 0, Nat.zero_le _, rfl, rfl, by omega, hide rfl, hide (Below.refl _ _)⟩
  case round =>
    obtain ⟨k, n, hk, rfl, rfl, hn, HA, HB⟩ := hrel
    by_cases hlt : k < xs.length
    · obtain ⟨b, off, rfl, c0, c1, c2, c3⟩ := (unhide HC).below (unhide HB) k hlt
      have hf := fieldB1 (bkOf xs[k] v)
      have HN := hide ((nxMax_drop (v := v) hlt n).symm.trans (unhide HA))
      have hmb := bkOf_mbal xs[k] v
      have hm1 := unhide HM k hlt
      go_wp2_with fail
      refine (l05Of_any xs[k] v _).mono ?_
      rintro e w1 ⟨rfl, hb⟩
      have HB1 := hide (fr (unhide HB) hb)
      clear hb
      by_cases hx : (bkOf xs[k] v).mbal ≤ n
      · have HX : Hid (nxMax v (xs.drop (k + 1)) n = nxMax v xs 0) := hide (by rw [← unhide HN, max_le hx])
        go_wp2_with fail
        go_roundw
        case rel => exact ⟨k + 1, n, by omega, by go_num, by first | rfl | (rw [max_le hx]), hn, HX, HB1⟩
        case measure => simp [intOf]; omega
      · have HX : Hid (nxMax v (xs.drop (k + 1)) (bkOf xs[k] v).mbal = nxMax v xs 0) := hide (by rw [← unhide HN, max_gt hx])
        go_wp2_with fail
        go_roundw
        case rel => exact ⟨k + 1, (bkOf xs[k] v).mbal, by omega, by go_num, by first | rfl | (rw [max_gt hx]), by omega, HX, HB1⟩
        case measure => simp [intOf]; omega
    · have HF : Hid (nxBal h v xs = (Int.tdiv n 4 + 1) * 4 + h) := hide (by rw [nxBal, ← unhide HA, nxMax_done hlt])
      have hq : 0 ≤ Int.tdiv n 4 ∧ Int.tdiv n 4 ≤ 1000000000 := by rw [Int.tdiv_eq_ediv_of_nonneg hn.1]; omega
      have w1 : IntKind.i64.wrap (Int.tdiv n 4 + 1) = Int.tdiv n 4 + 1 := by rw [IntKind.wrap_i64]; omega
      have w2 : IntKind.i64.wrap ((Int.tdiv n 4 + 1) * 4) = (Int.tdiv n 4 + 1) * 4 := by rw [IntKind.wrap_i64]; omega
      have w3 : IntKind.i64.wrap ((Int.tdiv n 4 + 1) * 4 + h) = (Int.tdiv n 4 + 1) * 4 + h := by rw [IntKind.wrap_i64]; omega
      go_wp2
      go_ret
      exact ⟨ret_int (unhide HF).symm, unhide HB⟩

set_option maxHeartbeats 1600000 in
theorem asOf_any (x : Bk) (v : Int) (w : World) : Calls Tryz.prog 149 #[bV x, .int .i64 v] w fun e w' => e = .returned (bV (bkOf x v)) ∧ Below w.heap.size w w' := by
  by_cases h : x.ver < v
  · rw [show bkOf x v = ⟨v, 0, 0, 0⟩ from if_pos h]
    go_enter Tryz.func149, Tryz.ntmps149
    go_wp2
    exact bodyPost_ret (v := bV ⟨v, 0, 0, 0⟩) (by simp [results, Tryz.results149, go_sem]) rfl ⟨rfl, Joins.below_alloc2 _ _ _⟩
  · rw [show bkOf x v = x from if_neg h]
    go_enter Tryz.func149, Tryz.ntmps149
    go_wp2
    exact bodyPost_ret (v := bV x) (by simp [results, Tryz.results149, go_sem]) rfl ⟨rfl, Joins.below_alloc2 _ _ _⟩

set_option maxHeartbeats 1600000 in
theorem blocksFault_any (ao : Option Addr) (cap : Nat) (xs : List Bk) (w : World) (hl : xs.length ≤ 1048576) (hc : Bks w ao xs) :
    Calls Tryz.prog 135 #[.slice ao xs.length cap] w fun e w' => e = .returned (.int .i64 (bfC xs)) ∧ Below w.heap.size w w' := by
  have HC := hide hc
  clear hc
  by_cases h1 : 4096 < xs.length
  · have HE := hide (bfC_long h1)
    go_enter Tryz.func135, Tryz.ntmps135
    go_wp2
    go_ret
    exact ⟨ret_int (unhide HE).symm, Below.refl _ _⟩
  by_cases h4 : ¬ xs.length = 4
  · have HE := hide (bfC_bad h1 (bksB_false_len h4))
    have hb : ((xs.length : Int) != 4) = true := by simp; omega
    go_enter Tryz.func135, Tryz.ntmps135
    go_wp2
    go_ret
    exact ⟨ret_int (unhide HE).symm, Below.refl _ _⟩
  rw [Decidable.not_not] at h4
  have hb : ((xs.length : Int) != 4) = false := by simp; omega
  have H4 := hide h4
  clear h4
  go_enter Tryz.func135, Tryz.ntmps135
  go_wp2
  go_loopw [4, 13] (fun _ i wr => ∃ k : Nat, k ≤ xs.length ∧ i = .int .i64 k ∧ Hid (∀ j (h : j < xs.length), j < k → bkB xs[j] = true) ∧ Hid (Below w.heap.size w wr)) (fun _ i _ => xs.length - (intOf i).toNat)
  case atStart => exact ⟨0, Nat.zero_le _, rfl, hide (fun j _ h => by omega), hide (Below.refl _ _)⟩
  case round =>
    obtain ⟨k, hk, rfl, HA, HB⟩ := hrel
    by_cases hlt : k < xs.length
    · obtain ⟨b, off, rfl, c0, c1, c2, c3⟩ := (unhide HC).below (unhide HB) k hlt
      by_cases hn : bkB xs[k] = true
      · have HN := hide (all_succ (p := bkB) hlt (unhide HA) hn)
        go_wp2_with fail
        refine (blockOK_impl xs[k] _).mono ?_
        rintro e w1 ⟨rfl, hb⟩
        have HB1 := hide (fr (fr (unhide HB) (Joins.below_alloc1 _ _)) hb)
        clear hb
        go_wp2_with fail
        go_roundw
        case rel => exact ⟨k + 1, by omega, by go_num, HN, HB1⟩
        case measure => simp [intOf]; omega
      · have hn' : bkB xs[k] = false := by simpa using hn
        have HF := hide (bfC_bad h1 (bksB_false_at hlt hn'))
        clear hn
        go_wp2_with fail
        refine (blockOK_impl xs[k] _).mono ?_
        rintro e w1 ⟨rfl, hb⟩
        have HB1 := hide (fr (fr (unhide HB) (Joins.below_alloc1 _ _)) hb)
        clear hb
        go_wp2
        go_ret
        exact ⟨ret_int (unhide HF).symm, unhide HB1⟩
    · have HF := hide (bfC_ok h1 (bksB_true (unhide H4) (fun j h => unhide HA j h (by omega))))
      go_wp2
      go_ret
      exact ⟨ret_int (unhide HF).symm, unhide HB⟩

set_option maxHeartbeats 1600000 in
theorem greatestBegun_any (v : Int) (ao : Option Addr) (n cap : Nat) (xs : List Bk) (w : World) (hn : xs.length = n) (hl : n ≤ 1048576) (hm : ∀ i (hi : i < xs.length), xs[i].mbal ≤ 1000000000) (hc : Bks w ao xs) :
    Calls Tryz.prog 136 #[.slice ao n cap, .int .i64 v] w fun e w' => e = .returned (.int .i64 (nxMax v xs 0)) ∧ (0 ≤ nxMax v xs 0 ∧ nxMax v xs 0 ≤ 1000000000) ∧ Below w.heap.size w w' := by
  have HC := hide hc
  have HM := hide hm
  clear hc hm
  subst hn
  go_enter Tryz.func136, Tryz.ntmps136
  go_wp2
  go_loopw [5, 7, 10] (fun c _ i wr => ∃ k : Nat, ∃ n : Int, k ≤ xs.length ∧ i = .int .i64 k ∧ c = .int .i64 n ∧ (0 ≤ n ∧ n ≤ 1000000000) ∧ Hid (nxMax v (xs.drop k) n = nxMax v xs 0) ∧ Hid (Below w.heap.size w wr)) (fun _ _ i _ => xs.length - (intOf i).toNat)
  case atStart => exact ⟨0, 0, Nat.zero_le _, rfl, rfl, by omega, hide rfl, hide (Below.refl _ _)⟩
  case round =>
    obtain ⟨k, n, hk, rfl, rfl, hn, HA, HB⟩ := hrel
    by_cases hlt : k < xs.length
    · obtain ⟨b, off, rfl, c0, c1, c2, c3⟩ := (unhide HC).below (unhide HB) k hlt
      have hf := fieldB1 (bkOf xs[k] v)
      have HN := hide ((nxMax_drop (v := v) hlt n).symm.trans (unhide HA))
      have hmb := bkOf_mbal xs[k] v
      have hm1 := unhide HM k hlt
      go_wp2_with fail
      refine (asOf_any xs[k] v _).mono ?_
      rintro e w1 ⟨rfl, hb⟩
      have HB1 := hide (fr (fr (unhide HB) (Joins.below_alloc1 _ _)) hb)
      clear hb
      by_cases hx : (bkOf xs[k] v).mbal ≤ n
      · have HX : Hid (nxMax v (xs.drop (k + 1)) n = nxMax v xs 0) := hide (by rw [← unhide HN, max_le hx])
        go_wp2_with fail
        go_roundw
        case rel => exact ⟨k + 1, n, by omega, by go_num, by first | rfl | (rw [max_le hx]), hn, HX, HB1⟩
        case measure => simp [intOf]; omega
      · have HX : Hid (nxMax v (xs.drop (k + 1)) (bkOf xs[k] v).mbal = nxMax v xs 0) := hide (by rw [← unhide HN, max_gt hx])
        go_wp2_with fail
        go_roundw
        case rel => exact ⟨k + 1, (bkOf xs[k] v).mbal, by omega, by go_num, by first | rfl | (rw [max_gt hx]), by omega, HX, HB1⟩
        case measure => simp [intOf]; omega
    · have HF : Hid (nxMax v xs 0 = n) := hide (by rw [← unhide HA, nxMax_done hlt])
      go_wp2
      go_ret
      rw [unhide HF]
      exact ⟨rfl, hn, unhide HB⟩

theorem bks_mbal {xs : List Bk} (h : bksB xs = true) : ∀ i (hi : i < xs.length), xs[i].mbal ≤ 1000000000 := fun i hi => by
  have := (bksB_parts h).2 i hi
  have e : xs.getD i bk0 = xs[i] := by simp [hi]
  rw [e] at this
  have := (bkB_iff.1 this).2.1
  omega
theorem ret_ii {a b c d : Int} (h : a = b) (k : c = d) : Ending.returned (.tuple #[.int .i64 a, .int .i64 c]) = .returned (.tuple #[.int .i64 b, .int .i64 d]) := by rw [h, k]

set_option maxHeartbeats 3200000 in
theorem nextBallot_impl (h v : Int) (ao : Option Addr) (cap : Nat) (xs : List Bk) (w : World) (hl : xs.length ≤ 1048576) (hc : Bks w ao xs) :
    Calls Tryz.prog 114 #[.int .i64 h, .int .i64 v, .slice ao xs.length cap] w fun e w' => e = .returned (.tuple #[.int .i64 (nbN h v xs), .int .i64 (nbC h v xs)]) ∧ Below w.heap.size w w' := by
  have HC := hide hc
  clear hc
  go_enter Tryz.func114, Tryz.ntmps114
  go_wp2_with fail
  refine (blocksFault_any ao cap xs _ hl (unhide HC)).mono ?_
  rintro e w1 ⟨rfl, hb⟩
  have HB := hide hb
  clear hb
  by_cases h0 : ¬ bfC xs = 0
  · have HE := hide (nb_fault (h := h) (v := v) h0)
    have hb : (bfC xs != 0) = true := by simp [h0]
    go_wp2
    go_ret2
    exact ⟨ret_ii (unhide HE).1.symm (unhide HE).2.symm, unhide HB⟩
  rw [Decidable.not_not] at h0
  have hb : (bfC xs != 0) = false := by simp [h0]
  have H0 := hide h0
  clear h0
  go_wp2_with fail
  refine (hostOK_any h _).mono ?_
  rintro e w2 ⟨rfl, rfl⟩
  by_cases h1 : inB h 0 3 = false
  · have HE := hide (nb_range (h := h) (v := v) (unhide H0) (by rw [h1]; rfl))
    go_wp2
    go_ret2
    exact ⟨ret_ii (unhide HE).1.symm (unhide HE).2.symm, unhide HB⟩
  rw [Bool.not_eq_false] at h1
  go_wp2_with fail
  refine (verOK_any v _).mono ?_
  rintro e w2 ⟨rfl, rfl⟩
  by_cases h2 : inB v 0 1000000 = false
  · have HE := hide (nb_range (h := h) (v := v) (unhide H0) (by rw [h1, h2]; rfl))
    go_wp2
    go_ret2
    exact ⟨ret_ii (unhide HE).1.symm (unhide HE).2.symm, unhide HB⟩
  rw [Bool.not_eq_false] at h2
  go_wp2_with fail
  refine (greatestBegun_any v ao xs.length cap xs _ rfl hl (bks_mbal (bfC_zero (unhide H0))) ((unhide HC).below (unhide HB))).mono ?_
  rintro e w3 ⟨rfl, hn, hb3⟩
  have HB3 := hide (fr (unhide HB) hb3)
  clear hb3
  have HX : Hid (nxBal h v xs = (Int.tdiv (nxMax v xs 0) 4 + 1) * 4 + h) := hide rfl
  have hh : 0 ≤ h ∧ h ≤ 3 := by simpa [inB] using h1
  have HM := hide (fun e => nb_many (h := h) (v := v) (unhide H0) h1 h2 e)
  have HO := hide (fun e => nb_ok (h := h) (v := v) (unhide H0) h1 h2 e)
  revert HX hn
  generalize nxMax v xs 0 = n
  intro hn HX
  have hq : 0 ≤ Int.tdiv n 4 ∧ Int.tdiv n 4 ≤ 1000000000 := by rw [Int.tdiv_eq_ediv_of_nonneg hn.1]; omega
  have w1 : IntKind.i64.wrap (Int.tdiv n 4 + 1) = Int.tdiv n 4 + 1 := by rw [IntKind.wrap_i64]; omega
  have w2 : IntKind.i64.wrap ((Int.tdiv n 4 + 1) * 4) = (Int.tdiv n 4 + 1) * 4 := by rw [IntKind.wrap_i64]; omega
  have w3 : IntKind.i64.wrap ((Int.tdiv n 4 + 1) * 4 + h) = (Int.tdiv n 4 + 1) * 4 + h := by rw [IntKind.wrap_i64]; omega
  by_cases hm : 1000000 < (Int.tdiv n 4 + 1) * 4 + h
  · have HE := hide (unhide HM (by rw [unhide HX]; exact hm))
    go_wp2
    go_ret2
    exact ⟨ret_ii (unhide HE).1.symm (unhide HE).2.symm, unhide HB3⟩
  · have HE := hide (unhide HO (by rw [unhide HX]; exact hm))
    go_wp2
    go_ret2
    exact ⟨ret_ii ((unhide HX).symm.trans (unhide HE).1.symm) (unhide HE).2.symm, unhide HB3⟩

end Go.Proofs.YtefnapcegeojoaaGreatDoor

namespace Go.Proofs.YtefnapcegeojoaaGreatDoor
open Go.RowKit
set_option linter.unusedVariables false
set_option maxRecDepth 100000

set_option maxHeartbeats 3200000 in
theorem ballotOK_any (b h : Int) (w : World) : Calls Tryz.prog 150 #[.int .i64 b, .int .i64 h] w fun e w' => e = .returned (.bool (baB b h)) ∧ w' = w := by
  go_enter Tryz.func150, Tryz.ntmps150
  go_wp2_with fail
  refine (within_in b 1 1000000 _).mono ?_
  rintro e w1 ⟨rfl, rfl⟩
  by_cases h1 : inB b 1 1000000 = false
  · have hr : Hid (baB b h = false) := hide (by simp [baB, h1])
    go_wp2
    go_ret
    rw [unhide hr]
    exact ⟨rfl, rfl⟩
  rw [Bool.not_eq_false] at h1
  have hm := ball_mod h1
  have hr : Hid (baB b h = decide (b % 4 = h)) := hide (by simp [baB, h1])
  go_wp2
  go_ret
  rw [unhide hr]
  exact ⟨ret_bool (by rw [Bool.eq_iff_iff]; simp), rfl⟩

set_option maxHeartbeats 3200000 in
theorem pxOK_impl (p : Pxs) (w : World) : Calls Tryz.prog 137 #[pV p] w fun e w' => e = .returned (.bool (pxB p)) ∧ Below w.heap.size w w' := by
  go_enter Tryz.func137, Tryz.ntmps137
  go_wp2_with fail
  refine (hostOK_any p.host _).mono ?_
  rintro e w1 ⟨rfl, rfl⟩
  by_cases h1 : inB p.host 0 3 = false
  · have hr := hide (pxB_1 h1)
    go_wp2
    go_ret
    rw [unhide hr]
    exact ⟨rfl, Joins.below_alloc1 _ _⟩
  rw [Bool.not_eq_false] at h1
  go_wp2_with fail
  refine (verOK_any p.ver _).mono ?_
  rintro e w1 ⟨rfl, rfl⟩
  by_cases h2 : inB p.ver 0 1000000 = false
  · have hr := hide (pxB_2 h2)
    go_wp2
    go_ret
    rw [unhide hr]
    exact ⟨rfl, Joins.below_alloc1 _ _⟩
  rw [Bool.not_eq_false] at h2
  go_wp2_with fail
  refine (within_in p.phase 1 6 _).mono ?_
  rintro e w1 ⟨rfl, rfl⟩
  by_cases h3 : inB p.phase 1 6 = false
  · have hr := hide (pxB_3 h3)
    go_wp2
    go_ret
    rw [unhide hr]
    exact ⟨rfl, Joins.below_alloc1 _ _⟩
  rw [Bool.not_eq_false] at h3
  go_wp2_with fail
  refine (ballotOK_any p.ballot p.host _).mono ?_
  rintro e w1 ⟨rfl, rfl⟩
  by_cases h4 : baB p.ballot p.host = false
  · have hr := hide (pxB_ba h4)
    go_wp2
    go_ret
    rw [unhide hr]
    exact ⟨rfl, Joins.below_alloc1 _ _⟩
  rw [Bool.not_eq_false] at h4
  go_wp2_with fail
  refine (isNumber_any p.value _).mono ?_
  rintro e w1 ⟨rfl, rfl⟩
  by_cases h6 : numB p.value = false
  · have hr := hide (pxB_6 h6)
    go_wp2
    go_ret
    rw [unhide hr]
    exact ⟨rfl, Joins.below_alloc1 _ _⟩
  rw [Bool.not_eq_false] at h6
  go_wp2_with fail
  refine (within_in p.next 0 4 _).mono ?_
  rintro e w1 ⟨rfl, rfl⟩
  by_cases h7 : inB p.next 0 4 = false
  · have hr := hide (pxB_7 h7)
    go_wp2
    go_ret
    rw [unhide hr]
    exact ⟨rfl, Joins.below_alloc1 _ _⟩
  rw [Bool.not_eq_false] at h7
  go_wp2_with fail
  refine (isNumber_any p.best _).mono ?_
  rintro e w1 ⟨rfl, rfl⟩
  by_cases h8 : numB p.best = false
  · have hr := hide (pxB_8 h8)
    go_wp2
    go_ret
    rw [unhide hr]
    exact ⟨rfl, Joins.below_alloc1 _ _⟩
  rw [Bool.not_eq_false] at h8
  have hr := hide (pxB_9b h1 h2 h3 h4 h6 h7 h8)
  go_wp2_with fail
  refine (within_in p.bestBal 0 1000000 _).mono ?_
  rintro e w1 ⟨rfl, rfl⟩
  go_wp2
  go_ret
  rw [unhide hr]
  exact ⟨rfl, Joins.below_alloc1 _ _⟩

set_option maxHeartbeats 3200000 in
theorem pxStart_impl (h v b x : Int) (w : World) : Calls Tryz.prog 115 #[.int .i64 h, .int .i64 v, .int .i64 b, .int .i64 x] w fun e w' => e = .returned (.tuple #[pV (psP h v b x), .int .i64 (psC h v b x)]) ∧ Below w.heap.size w w' := by
  have HV := hide (VarP.new0 w 63)
  have HV2 : Hid (VarP ((w.alloc (.cells #[.int .i64 0, .int .i64 0, .int .i64 0, .int .i64 0, .int .i64 0, .int .i64 0, .int .i64 0, .int .i64 0] 63)).alloc (.cells #[.int .i64 h, .int .i64 v, .int .i64 1, .int .i64 b, .int .i64 x, .int .i64 0, .int .i64 0, .int .i64 0] 63)) (w.heap.size + 1) 63 (ps0 h v b x)) := hide (by
    have := VarP.new (w.alloc (.cells #[.int .i64 0, .int .i64 0, .int .i64 0, .int .i64 0, .int .i64 0, .int .i64 0, .int .i64 0, .int .i64 0] 63)) 63 (ps0 h v b x)
    simp only [World.size_alloc] at this
    exact this)
  have HB := hide (Joins.below_alloc2 w (.cells #[.int .i64 0, .int .i64 0, .int .i64 0, .int .i64 0, .int .i64 0, .int .i64 0, .int .i64 0, .int .i64 0] 63) (.cells #[.int .i64 h, .int .i64 v, .int .i64 1, .int .i64 b, .int .i64 x, .int .i64 0, .int .i64 0, .int .i64 0] 63))
  go_enter Tryz.func115, Tryz.ntmps115
  go_wp2_with fail
  refine (pxOK_impl (ps0 h v b x) _).mono ?_
  rintro e w1 ⟨rfl, hb⟩
  obtain ⟨c0, c1, c2, c3, c4, c5, c6, c7⟩ := ((unhide HV2).below hb).cells
  obtain ⟨d0, d1, d2, d3, d4, d5, d6, d7⟩ := (((unhide HV).below (Joins.below_alloc1 _ _)).below hb).cells
  obtain ⟨f0, f1, f2, f3, f4, f5, f6, f7⟩ := (((unhide HV).below (Joins.below_alloc1 _ _)).below hb).free
  have HB1 := hide (fun u0 u1 u2 u3 u4 u5 u6 u7 => below8 (fr (unhide HB) hb) (Nat.le_refl _) u0 u1 u2 u3 u4 u5 u6 u7)
  clear hb
  by_cases hd : pxB (ps0 h v b x) = true
  · have HE : Hid (psP h v b x = ps0 h v b x ∧ psC h v b x = 0) := hide ⟨if_pos hd, if_pos hd⟩
    go_wp2
    refine bodyPost_ret (v := .tuple #[pV (ps0 h v b x), .int .i64 0]) (by simp [results, Tryz.results115, go_sem, d0, d1, d2, d3, d4, d5, d6, d7, ps0]) rfl ⟨?_, unhide HB1 _ _ _ _ _ _ _ _⟩
    exact ret_pi (unhide HE).1.symm (unhide HE).2.symm
  · have HE : Hid (psP h v b x = p00 ∧ psC h v b x = 4) := hide ⟨if_neg hd, if_neg hd⟩
    rw [Bool.not_eq_true] at hd
    go_wp2
    refine bodyPost_ret (v := .tuple #[pV p00, .int .i64 4]) (by simp [results, Tryz.results115, go_sem, d0, d1, d2, d3, d4, d5, d6, d7, p00]) rfl ⟨?_, unhide HB1 _ _ _ _ _ _ _ _⟩
    exact ret_pi (unhide HE).1.symm (unhide HE).2.symm

end Go.Proofs.YtefnapcegeojoaaGreatDoor

namespace Go.Proofs.YtefnapcegeojoaaGreatDoor
open Go.RowKit
set_option linter.unusedVariables false
set_option maxRecDepth 100000

end Go.Proofs.YtefnapcegeojoaaGreatDoor

namespace Go.Proofs.YtefnapcegeojoaaGreatDoor
open Go.RowKit
set_option linter.unusedVariables false
set_option maxRecDepth 100000

def ahB (b : Bk) (p : Pxs) : Bool := decide (p.ver < b.ver) || decide (p.ballot < b.mbal)
def hdP (p : Pxs) (b : Bk) : Pxs := if p.bestBal < b.bal then { p with best := b.inp, bestBal := b.bal } else p
def chP (p : Pxs) : Pxs := if 0 < p.bestBal then { p with phase := 3, value := p.best } else { p with phase := 3 }

set_option maxHeartbeats 1600000 in
theorem isAhead_any (b : Bk) (p : Pxs) (w : World) : Calls Tryz.prog 162 #[bV b, pV p] w fun e w' => e = .returned (.bool (ahB b p)) ∧ Below w.heap.size w w' := by
  by_cases h1 : p.ver < b.ver
  · have HE : Hid (ahB b p = true) := hide (by simp [ahB, h1])
    go_enter Tryz.func162, Tryz.ntmps162
    go_wp2
    go_ret
    exact ⟨ret_bool (unhide HE).symm, Joins.below_alloc2 _ _ _⟩
  · have HE : Hid (ahB b p = decide (p.ballot < b.mbal)) := hide (by simp [ahB, h1])
    go_enter Tryz.func162, Tryz.ntmps162
    go_wp2
    go_ret
    exact ⟨ret_bool (by rw [unhide HE]), Joins.below_alloc2 _ _ _⟩

set_option maxHeartbeats 1600000 in
theorem turned_any (p : Pxs) (n : Int) (w : World) : Calls Tryz.prog 163 #[pV p, .int .i64 n] w fun e w' => e = .returned (pV { p with phase := n }) ∧ Below w.heap.size w w' := by
  go_enter Tryz.func163, Tryz.ntmps163
  go_wp2
  exact bodyPost_ret (v := pV { p with phase := n }) (by simp [results, Tryz.results163, go_sem]) rfl ⟨rfl, Joins.below_alloc2 _ _ _⟩

set_option maxHeartbeats 1600000 in
theorem pastOwn_any (p : Pxs) (w : World) (hx : 0 ≤ p.next ∧ p.next ≤ 4) : Calls Tryz.prog 165 #[pV p] w fun e w' => e = .returned (pV { p with next := skip p p.next }) ∧ Below w.heap.size w w' := by
  have wr1 : IntKind.i64.wrap (p.next + 1) = p.next + 1 := by rw [IntKind.wrap_i64]; omega
  by_cases h : p.next = p.host
  · have e' : (p.next == p.host) = true := by simp [h]
    rw [show skip p p.next = p.next + 1 from if_pos h]
    clear h
    go_enter Tryz.func165, Tryz.ntmps165
    go_wp2
    exact bodyPost_ret (v := pV { p with next := p.next + 1 }) (by simp [results, Tryz.results165, go_sem]) rfl ⟨rfl, Joins.below_alloc2 _ _ _⟩
  · have e' : (p.next == p.host) = false := by simp [h]
    rw [show skip p p.next = p.next from if_neg h]
    clear h
    go_enter Tryz.func165, Tryz.ntmps165
    go_wp2
    exact bodyPost_ret (v := pV p) (by simp [results, Tryz.results165, go_sem]) rfl ⟨rfl, Joins.below_alloc2 _ _ _⟩

set_option maxHeartbeats 1600000 in
theorem heedAccepted_any (p : Pxs) (b : Bk) (w : World) : Calls Tryz.prog 153 #[pV p, bV b] w fun e w' => e = .returned (pV (hdP p b)) ∧ Below w.heap.size w w' := by
  by_cases h : p.bestBal < b.bal
  · rw [show hdP p b = { p with best := b.inp, bestBal := b.bal } from if_pos h]
    go_enter Tryz.func153, Tryz.ntmps153
    go_wp2
    go_region
    go_wp2
    exact bodyPost_ret (v := pV { p with best := b.inp, bestBal := b.bal }) (by simp [results, Tryz.results153, go_sem]) rfl ⟨rfl, by first | exact fr (Joins.below_alloc2 _ _ _) (Joins.below_alloc1 _ _) | exact (fr (Joins.below_alloc2 _ _ _) (Joins.below_alloc1 _ _)).drew⟩
  · rw [show hdP p b = p from if_neg h]
    go_enter Tryz.func153, Tryz.ntmps153
    go_wp2
    exact bodyPost_ret (v := pV p) (by simp [results, Tryz.results153, go_sem]) rfl ⟨rfl, fr (Joins.below_alloc2 _ _ _) (Joins.below_alloc1 _ _)⟩

set_option maxHeartbeats 1600000 in
theorem heedNothing_any (p : Pxs) (b : Bk) (w : World) : Calls Tryz.prog 156 #[pV p, bV b] w fun e w' => e = .returned (pV p) ∧ Below w.heap.size w w' := by
  go_enter Tryz.func156, Tryz.ntmps156
  go_wp2
  exact bodyPost_ret (v := pV p) (by simp [results, Tryz.results156, go_sem]) rfl ⟨rfl, by first | exact fr (Joins.below_alloc2 _ _ _) (Joins.below_alloc1 _ _) | exact Joins.below_alloc2 _ _ _⟩

set_option maxHeartbeats 1600000 in
theorem decideValue_any (p : Pxs) (w : World) : Calls Tryz.prog 157 #[pV p] w fun e w' => e = .returned (pV { p with phase := 5 }) ∧ Below w.heap.size w w' := by
  have HV : Hid (VarP ((w.alloc (.cells #[.int .i64 p.host, .int .i64 p.ver, .int .i64 p.phase, .int .i64 p.ballot, .int .i64 p.value, .int .i64 p.next, .int .i64 p.best, .int .i64 p.bestBal] 63)).alloc (.cells #[.int .i64 0, .int .i64 0, .int .i64 0, .int .i64 0, .int .i64 0, .int .i64 0, .int .i64 0, .int .i64 0] 63)) (w.heap.size + 1) 63 p00) := hide (by
    have := VarP.new0 (w.alloc (.cells #[.int .i64 p.host, .int .i64 p.ver, .int .i64 p.phase, .int .i64 p.ballot, .int .i64 p.value, .int .i64 p.next, .int .i64 p.best, .int .i64 p.bestBal] 63)) 63
    simp only [World.size_alloc] at this
    exact this)
  go_enter Tryz.func157, Tryz.ntmps157
  go_wp2_with fail
  refine (turned_any p 5 _).mono ?_
  rintro e w1 ⟨rfl, hb⟩
  obtain ⟨d0, d1, d2, d3, d4, d5, d6, d7⟩ := ((unhide HV).below hb).cells
  obtain ⟨f0, f1, f2, f3, f4, f5, f6, f7⟩ := ((unhide HV).below hb).free
  have HB1 := hide (fun u0 u1 u2 u3 u4 u5 u6 u7 => below8 (fr (Joins.below_alloc2 w _ _) hb) (show w.heap.size ≤ w.heap.size + 1 by omega) u0 u1 u2 u3 u4 u5 u6 u7)
  clear hb
  go_wp2
  exact bodyPost_ret (v := pV { p with phase := 5 }) (by simp [results, Tryz.results157, go_sem, d0, d1, d2, d3, d4, d5, d6, d7]) rfl ⟨rfl, unhide HB1 _ _ _ _ _ _ _ _⟩

set_option maxHeartbeats 1600000 in
theorem chooseValue_any (p : Pxs) (w : World) : Calls Tryz.prog 154 #[pV p] w fun e w' => e = .returned (pV (chP p)) ∧ Below w.heap.size w w' := by
  have key : ∀ q : Pxs, Hid (VarP ((w.alloc (.cells #[.int .i64 q.host, .int .i64 q.ver, .int .i64 q.phase, .int .i64 q.ballot, .int .i64 q.value, .int .i64 q.next, .int .i64 q.best, .int .i64 q.bestBal] 63)).alloc (.cells #[.int .i64 0, .int .i64 0, .int .i64 0, .int .i64 0, .int .i64 0, .int .i64 0, .int .i64 0, .int .i64 0] 63)) (w.heap.size + 1) 63 p00) := fun q => hide (by
    have := VarP.new0 (w.alloc (.cells #[.int .i64 q.host, .int .i64 q.ver, .int .i64 q.phase, .int .i64 q.ballot, .int .i64 q.value, .int .i64 q.next, .int .i64 q.best, .int .i64 q.bestBal] 63)) 63
    simp only [World.size_alloc] at this
    exact this)
  have KEY := hide key
  clear key
  by_cases h : 0 < p.bestBal
  · rw [show chP p = { p with phase := 3, value := p.best } from if_pos h]
    go_enter Tryz.func154, Tryz.ntmps154
    go_wp2_with fail
    refine (turned_any { p with value := p.best } 3 _).mono ?_
    rintro e w1 ⟨rfl, hb⟩
    obtain ⟨d0, d1, d2, d3, d4, d5, d6, d7⟩ := ((unhide (unhide KEY { p with value := p.best })).below hb).cells
    obtain ⟨f0, f1, f2, f3, f4, f5, f6, f7⟩ := ((unhide (unhide KEY { p with value := p.best })).below hb).free
    have HB1 := hide (fun u0 u1 u2 u3 u4 u5 u6 u7 => below8 (fr (Joins.below_alloc2 w _ _) hb) (show w.heap.size ≤ w.heap.size + 1 by omega) u0 u1 u2 u3 u4 u5 u6 u7)
    clear hb
    go_wp2
    exact bodyPost_ret (v := pV { p with phase := 3, value := p.best }) (by simp [results, Tryz.results154, go_sem, d0, d1, d2, d3, d4, d5, d6, d7]) rfl ⟨rfl, unhide HB1 _ _ _ _ _ _ _ _⟩
  · rw [show chP p = { p with phase := 3 } from if_neg h]
    go_enter Tryz.func154, Tryz.ntmps154
    go_wp2_with fail
    refine (turned_any p 3 _).mono ?_
    rintro e w1 ⟨rfl, hb⟩
    obtain ⟨d0, d1, d2, d3, d4, d5, d6, d7⟩ := ((unhide (unhide KEY p)).below hb).cells
    obtain ⟨f0, f1, f2, f3, f4, f5, f6, f7⟩ := ((unhide (unhide KEY p)).below hb).free
    have HB1 := hide (fun u0 u1 u2 u3 u4 u5 u6 u7 => below8 (fr (Joins.below_alloc2 w _ _) hb) (show w.heap.size ≤ w.heap.size + 1 by omega) u0 u1 u2 u3 u4 u5 u6 u7)
    clear hb
    go_wp2
    exact bodyPost_ret (v := pV { p with phase := 3 }) (by simp [results, Tryz.results154, go_sem, d0, d1, d2, d3, d4, d5, d6, d7]) rfl ⟨rfl, unhide HB1 _ _ _ _ _ _ _ _⟩

end Go.Proofs.YtefnapcegeojoaaGreatDoor

namespace Go.Proofs.YtefnapcegeojoaaGreatDoor
open Go.RowKit
set_option linter.unusedVariables false
set_option maxRecDepth 100000

theorem row_put {w : World} {B t n cap g : Nat} {bs : List Bk} (h : w.ownsRow B t 4 (.slice (some ⟨g, 0, none⟩) n cap) n (bksV bs)) {k : Nat} (hk : k < bs.length) (y : Bk) :
    ((((w.setCell ⟨g, k * 4, none⟩ (.int .i64 y.ver)).setCell ⟨g, k * 4 + 1, none⟩ (.int .i64 y.mbal)).setCell ⟨g, k * 4 + 2, none⟩ (.int .i64 y.bal)).setCell ⟨g, k * 4 + 3, none⟩ (.int .i64 y.inp)).ownsRow B t 4 (.slice (some ⟨g, 0, none⟩) n cap) n (bksV (bs.set k y)) := by
  rw [← bksV_set hk y]
  have h3 := stored3 h (k * 4) (k * 4 + 1) (k * 4 + 2) (.int .i64 y.ver) (.int .i64 y.mbal) (.int .i64 y.bal)
  exact (h3.stored (k * 4 + 3) (.int .i64 y.inp)).1
theorem row_block {w : World} {B t n cap g : Nat} {xs : List Value} (h : w.ownsRow B t 4 (.slice (some ⟨g, 0, none⟩) (n + 1) cap) (n + 1) xs) : g < w.heap.size ∧ ∀ i, w.frozen? ⟨g, i, none⟩ = false := by
  obtain ⟨g', cap', cur, e, hB, hg⟩ := own_form (by omega) h
  simp only [Value.slice.injEq, Option.some.injEq, Addr.mk.injEq, and_true] at e
  obtain ⟨rfl, _⟩ := e
  exact ⟨(Array.getElem?_eq_some_iff.1 hg).1, fun i => Joins.unfrozen_of_block hg i⟩
theorem row_keep {S : Nat → Prop} {w w' : World} {B t n cap g : Nat} {xs : List Value} (h : w.ownsRow B t 4 (.slice (some ⟨g, 0, none⟩) (n + 1) cap) (n + 1) xs) (hk : Keep S w w') (hs : ¬ S g) : w'.ownsRow B t 4 (.slice (some ⟨g, 0, none⟩) (n + 1) cap) (n + 1) xs := by
  have := OwnR.keep (.inr ⟨by omega, h⟩ : OwnR w B t 4 (.slice (some ⟨g, 0, none⟩) (n + 1) cap) (n + 1) xs) hk (fun j hj => by cases own_elim hj; exact hs)
  rcases this with ⟨h0, _⟩ | ⟨_, h⟩
  · omega
  · exact h

structure BgAt (w W : World) (p : Pxs) (B g qa : Nat) (bs : List Bk) : Prop where
  v : VarP W w.heap.size 63 p
  r : VarP W (w.heap.size + 1) 63 p00
  o : W.ownsRow B 96 4 (.slice (some ⟨g, 0, none⟩) 4 qa) 4 (bksV bs)
  k : Keep (fun j => j = g) w W
  hg : g < w.heap.size
theorem BgAt.start {w : World} (p : Pxs) {B g qa : Nat} {bs : List Bk} (ho : w.ownsRow B 96 4 (.slice (some ⟨g, 0, none⟩) 4 qa) 4 (bksV bs)) :
    BgAt w ((w.alloc (.cells #[.int .i64 p.host, .int .i64 p.ver, .int .i64 p.phase, .int .i64 p.ballot, .int .i64 p.value, .int .i64 p.next, .int .i64 p.best, .int .i64 p.bestBal] 63)).alloc (.cells #[.int .i64 0, .int .i64 0, .int .i64 0, .int .i64 0, .int .i64 0, .int .i64 0, .int .i64 0, .int .i64 0] 63)) p B g qa bs := by
  refine ⟨(VarP.new w _ p).below (Joins.below_alloc1 _ _), ?_, own_below ho (Joins.below_alloc2 _ _ _), Keep.of_below (Joins.below_alloc2 _ _ _), (row_block ho).1⟩
  have := VarP.new0 (w.alloc (.cells #[.int .i64 p.host, .int .i64 p.ver, .int .i64 p.phase, .int .i64 p.ballot, .int .i64 p.value, .int .i64 p.next, .int .i64 p.best, .int .i64 p.bestBal] 63)) 63
  simp only [World.size_alloc] at this
  exact this
theorem BgAt.below {w W W' : World} {p : Pxs} {B g qa : Nat} {bs : List Bk} (h : BgAt w W p B g qa bs) (hb : Below W.heap.size W W') : BgAt w W' p B g qa bs := ⟨h.v.below hb, h.r.below hb, own_below h.o hb, h.k.trans (Keep.of_below hb), h.hg⟩
theorem BgAt.bks {w W : World} {p : Pxs} {B g qa : Nat} {bs : List Bk} (h : BgAt w W p B g qa bs) (h4 : bs.length = 4) : Bks W (some ⟨g, 0, none⟩) bs :=
  ownBks (B := B) (e := 96) (cap := qa) (by rw [h4]; exact .inr ⟨by omega, h.o⟩)
theorem BgAt.set {w W : World} {p : Pxs} {B g qa : Nat} {bs : List Bk} (h : BgAt w W p B g qa bs) (i : Nat) (u : Value) (q : Pxs) (hv : VarP (W.setCell ⟨w.heap.size, i, none⟩ u) w.heap.size 63 q) : BgAt w (W.setCell ⟨w.heap.size, i, none⟩ u) q B g qa bs := by
  have hk : Keep (fun j => j = w.heap.size) W (W.setCell ⟨w.heap.size, i, none⟩ u) := (Keep.refl (fun j => j = w.heap.size) W).setCell (p := ⟨w.heap.size, i, none⟩) rfl u
  have := h.hg
  exact ⟨hv, h.r.keep hk (by show ¬ w.heap.size + 1 = w.heap.size; omega), row_keep h.o hk (by show ¬ g = w.heap.size; omega), keepN h.k hk (fun j hj => .inr (by omega)), h.hg⟩
theorem BgAt.bg3 {w W : World} {p : Pxs} {B g qa : Nat} {bs : List Bk} (h : BgAt w W p B g qa bs) (a b c : Int) : BgAt w (((W.setCell ⟨w.heap.size, 6, none⟩ (.int .i64 a)).setCell ⟨w.heap.size, 7, none⟩ (.int .i64 b)).setCell ⟨w.heap.size, 5, none⟩ (.int .i64 c)).drew { p with best := a, bestBal := b, next := c } B g qa bs := by
  have h1 := h.set 6 (.int .i64 a) _ (h.v.set6 a)
  have h2 := h1.set 7 (.int .i64 b) _ (h1.v.set7 b)
  exact (h2.set 5 (.int .i64 c) _ (h2.v.set5 c)).below ((Below.refl _ _).drew)
theorem BgAt.put {w W : World} {p : Pxs} {B g qa : Nat} {bs : List Bk} (h : BgAt w W p B g qa bs) {k : Nat} (hk : k < bs.length) (y : Bk) :
    BgAt w ((((W.setCell ⟨g, k * 4, none⟩ (.int .i64 y.ver)).setCell ⟨g, k * 4 + 1, none⟩ (.int .i64 y.mbal)).setCell ⟨g, k * 4 + 2, none⟩ (.int .i64 y.bal)).setCell ⟨g, k * 4 + 3, none⟩ (.int .i64 y.inp)) p B g qa (bs.set k y) := by
  have hg := h.hg
  have kk : Keep (fun j => j = g) W ((((W.setCell ⟨g, k * 4, none⟩ (.int .i64 y.ver)).setCell ⟨g, k * 4 + 1, none⟩ (.int .i64 y.mbal)).setCell ⟨g, k * 4 + 2, none⟩ (.int .i64 y.bal)).setCell ⟨g, k * 4 + 3, none⟩ (.int .i64 y.inp)) :=
    ((((Keep.refl (fun j => j = g) W).setCell (p := ⟨g, k * 4, none⟩) rfl _).setCell (p := ⟨g, k * 4 + 1, none⟩) rfl _).setCell (p := ⟨g, k * 4 + 2, none⟩) rfl _).setCell (p := ⟨g, k * 4 + 3, none⟩) rfl _
  exact ⟨h.v.keep kk (by show ¬ w.heap.size = g; omega), h.r.keep kk (by show ¬ w.heap.size + 1 = g; omega), row_put h.o hk y, h.k.trans kk, h.hg⟩
theorem BgAt.out {w W : World} {p : Pxs} {B g qa : Nat} {bs : List Bk} (h : BgAt w W p B g qa bs) (u0 u1 u2 u3 u4 u5 u6 u7 : Value) :
    ((((((((W.setCell ⟨w.heap.size + 1, 0, none⟩ u0).setCell ⟨w.heap.size + 1, 1, none⟩ u1).setCell ⟨w.heap.size + 1, 2, none⟩ u2).setCell ⟨w.heap.size + 1, 3, none⟩ u3).setCell ⟨w.heap.size + 1, 4, none⟩ u4).setCell ⟨w.heap.size + 1, 5, none⟩ u5).setCell ⟨w.heap.size + 1, 6, none⟩ u6).setCell ⟨w.heap.size + 1, 7, none⟩ u7).ownsRow B 96 4 (.slice (some ⟨g, 0, none⟩) 4 qa) 4 (bksV bs) ∧
    Keep (fun j => j = g) w ((((((((W.setCell ⟨w.heap.size + 1, 0, none⟩ u0).setCell ⟨w.heap.size + 1, 1, none⟩ u1).setCell ⟨w.heap.size + 1, 2, none⟩ u2).setCell ⟨w.heap.size + 1, 3, none⟩ u3).setCell ⟨w.heap.size + 1, 4, none⟩ u4).setCell ⟨w.heap.size + 1, 5, none⟩ u5).setCell ⟨w.heap.size + 1, 6, none⟩ u6).setCell ⟨w.heap.size + 1, 7, none⟩ u7) := by
  have hk := keep8 (Keep.refl (fun j => j = w.heap.size + 1) W) (g := w.heap.size + 1) rfl u0 u1 u2 u3 u4 u5 u6 u7
  have := h.hg
  exact ⟨row_keep h.o hk (by show ¬ g = w.heap.size + 1; omega), keepN h.k hk (fun j hj => .inr (by omega))⟩
structure BkAt (w W : World) (p : Pxs) (B g qa : Nat) (bs : List Bk) (C : Nat) (z : Bk) : Prop where
  a : BgAt w W p B g qa bs
  b : VarB W C 96 z
  gt : w.heap.size + 2 ≤ C
theorem BgAt.got {w W W' : World} {p : Pxs} {B g qa C : Nat} {bs : List Bk} {z : Bk} (h : BgAt w W p B g qa bs) (hg : Got W W' C 96 z) : BkAt w W' p B g qa bs C z :=
  ⟨h.below hg.k, hg.v, by have := h.r.lt; have := hg.gt; omega⟩
theorem BkAt.below {w W W' : World} {p : Pxs} {B g qa C : Nat} {bs : List Bk} {z : Bk} (h : BkAt w W p B g qa bs C z) (hb : Below W.heap.size W W') : BkAt w W' p B g qa bs C z := ⟨h.a.below hb, h.b.below hb, h.gt⟩
theorem BkAt.mb {w W : World} {p : Pxs} {B g qa C : Nat} {bs : List Bk} {z : Bk} (h : BkAt w W p B g qa bs C z) (n : Int) : BkAt w (W.setCell ⟨C, 1, none⟩ (.int .i64 n)) p B g qa bs C { z with mbal := n } := by
  have hk : Keep (fun j => j = C) W (W.setCell ⟨C, 1, none⟩ (.int .i64 n)) := (Keep.refl (fun j => j = C) W).setCell (p := ⟨C, 1, none⟩) rfl _
  have h1 := h.a.hg
  have h2 := h.gt
  exact ⟨⟨h.a.v.keep hk (by show ¬ w.heap.size = C; omega), h.a.r.keep hk (by show ¬ w.heap.size + 1 = C; omega), row_keep h.a.o hk (by show ¬ g = C; omega), keepN h.a.k hk (fun j hj => .inr (by omega)), h1⟩, set_heap (i := 1) h.b _, h2⟩
theorem BkAt.put {w W : World} {p : Pxs} {B g qa C : Nat} {bs : List Bk} {z : Bk} (h : BkAt w W p B g qa bs C z) {k : Nat} (hk : k < bs.length) (y : Bk) :
    BkAt w ((((W.setCell ⟨g, k * 4, none⟩ (.int .i64 y.ver)).setCell ⟨g, k * 4 + 1, none⟩ (.int .i64 y.mbal)).setCell ⟨g, k * 4 + 2, none⟩ (.int .i64 y.bal)).setCell ⟨g, k * 4 + 3, none⟩ (.int .i64 y.inp)) p B g qa (bs.set k y) C z := by
  have h1 := h.a.hg
  have h2 := h.gt
  have kk : Keep (fun j => j = g) W ((((W.setCell ⟨g, k * 4, none⟩ (.int .i64 y.ver)).setCell ⟨g, k * 4 + 1, none⟩ (.int .i64 y.mbal)).setCell ⟨g, k * 4 + 2, none⟩ (.int .i64 y.bal)).setCell ⟨g, k * 4 + 3, none⟩ (.int .i64 y.inp)) :=
    ((((Keep.refl (fun j => j = g) W).setCell (p := ⟨g, k * 4, none⟩) rfl _).setCell (p := ⟨g, k * 4 + 1, none⟩) rfl _).setCell (p := ⟨g, k * 4 + 2, none⟩) rfl _).setCell (p := ⟨g, k * 4 + 3, none⟩) rfl _
  exact ⟨h.a.put hk y, h.b.keep kk (by show ¬ C = g; omega), h2⟩
theorem bg_fin {w W' : World} {p p' : Pxs} {bs bs' : List Bk} {B g qa : Nat} (hE : pxStepP p bs = (p', bs')) (hO : W'.ownsRow B 96 4 (.slice (some ⟨g, 0, none⟩) 4 qa) 4 (bksV bs') ∧ Keep (fun j => j = g) w W') :
    Ending.returned (pV p') = .returned (pV (pxStepP p bs).1) ∧ W'.ownsRow B 96 4 (.slice (some ⟨g, 0, none⟩) 4 qa) 4 (bksV (pxStepP p bs).2) ∧ Keep (fun j => j = g) w W' :=
  ⟨by rw [hE], by rw [hE]; exact hO.1, hO.2⟩
theorem ah_no {p : Pxs} {z : Bk} (h1 : p.phase = 1) (ha : ahB z p = true ∨ z.mbal = p.ballot) : pxNo p z := by
  rcases ha with h | h
  · simp only [ahB, Bool.or_eq_true, decide_eq_true_eq] at h
    rcases h with h | h
    · exact .inl h
    · exact .inr (.inl h)
  · exact .inr (.inr (.inl ⟨h1, h⟩))
theorem ah_yes1 {p : Pxs} {z : Bk} (h1 : p.phase = 1) (ha : ¬ (ahB z p = true ∨ z.mbal = p.ballot)) : ¬ pxNo p z := by
  rintro (h | h | h | h)
  · exact ha (.inl (by simp [ahB, h]))
  · exact ha (.inl (by simp [ahB, h]))
  · exact ha (.inr h.2)
  · rw [h1] at h; exact absurd h.1 (by decide)
theorem ah_no3 {p : Pxs} {z : Bk} (h1 : p.phase = 3) (ha : ahB z p = true ∨ z.mbal ≠ p.ballot) : pxNo p z := by
  rcases ha with h | h
  · simp only [ahB, Bool.or_eq_true, decide_eq_true_eq] at h
    rcases h with h | h
    · exact .inl h
    · exact .inr (.inl h)
  · exact .inr (.inr (.inr ⟨h1, h⟩))
theorem ah_yes3 {p : Pxs} {z : Bk} (h1 : p.phase = 3) (ha : ¬ (ahB z p = true ∨ z.mbal ≠ p.ballot)) : ¬ pxNo p z := by
  rintro (h | h | h | h)
  · exact ha (.inl (by simp [ahB, h]))
  · exact ha (.inl (by simp [ahB, h]))
  · rw [h1] at h; exact absurd h.1 (by decide)
  · exact ha (.inr h.2)
theorem own_ver {p : Pxs} {bs : List Bk} {z : Bk} (hz : pxOwn p bs = z) (ha : ahB z p = false) : z.ver = p.ver := by
  have h1 : ¬ p.ver < z.ver := by intro h; simp [ahB, h] at ha
  have h2 : p.ver ≤ z.ver := by
    rw [← hz]; unfold pxOwn bkOf; split
    · exact Int.le_refl _
    · omega
  omega
end Go.Proofs.YtefnapcegeojoaaGreatDoor
