import Derived.Test.YtjmianalknnekabGreatDoorRows
import Derived.Test.YtjmianalknnekabGreatDoorPart1
import Derived.Test.YtjmianalknnekabGreatDoorPart4
import Derived.Test.YtjmianalknnekabGreatDoorPart2
import Derived.Test.YtjmianalknnekabGreatDoorPart12
import Derived.Test.YtjmianalknnekabGreatDoorPart15
import Derived.Test.YtjmianalknnekabGreatDoorPart16
import Derived.Test.YtjmianalknnekabGreatDoorPart13
import Derived.Test.YtjmianalknnekabGreatDoorPart14
import Derived.WalkKit
import Derived.WalkSpells
import Derived.KernelRfl
import Derived.Deep.RegionWith
import Derived.Deep.RegionHeld3
import Derived.Deep.MidRow
import Derived.Deep.CutRange
import Derived.Test.YtjmianalknnekabGreatDoorPart3
import Derived.Test.YtjmianalknnekabGreatDoorPart10
import Derived.Lib.SmallJoins
import Derived.Test.YtjmianalknnekabGreatDoorPart6
import Derived.Test.YtjmianalknnekabGreatDoorPart5
import Derived.Test.YtjmianalknnekabGreatDoorPart9

/- Contract of the program's openLeaderStore. -/
namespace Go.Proofs.YtjmianalknnekabGreatDoor
open Go.RowKit
set_option linter.unusedVariables false
set_option maxRecDepth 100000

abbrev set14 (w : World) (x : Nat) (q : Pxs) (b s d : Value) (L : Ld) : World := ((((((set8 w x q).setCell ⟨x, 8, none⟩ b).setCell ⟨x, 9, none⟩ s).setCell ⟨x, 10, none⟩ d).setCell ⟨x, 11, none⟩ (.int .i64 L.ver)).setCell ⟨x, 12, none⟩ (.int .i64 L.own)).setCell ⟨x, 13, none⟩ (.int .i64 L.gen)
theorem keep14 (W : World) (x : Nat) (q : Pxs) (b s d : Value) (L : Ld) : Keep (fun j => j = x) W (set14 W x q b s d L) :=
  (((keep_set8 W x q).trans (keep_row _ x b)).trans (keep_disk _ x s d)).trans (keep_lead _ x _ _ _)
/-- The call's own variables: the disk, the answer. -/
structure OpI (w W : World) (D : Nat) (dv dx : Value) : Prop where
  below : Below w.heap.size w W
  d : VarD W D dv dx
  r : VarS W (D + 1) p00 (.slice none 0 0) (.slice none 0 0) (.slice none 0 0) ld0
  k : w.heap.size ≤ D
theorem OpI.next {w W W' : World} {D : Nat} {dv dx : Value} (h : OpI w W D dv dx) (hb : Below W.heap.size W W') : OpI w W' D dv dx := ⟨fr h.below hb, h.d.below hb, h.r.below hb, h.k⟩
theorem OpI.last {w W : World} {D n m ca cb ba : Nat} {dv dx : Value} {bo ao qo : Option Addr} {bs : List Bk} {ss : List ByteArray} {xs : List Wr} (h : OpI w W D dv dx) (ho : OwnR W w.heap.size 91 4 (.slice bo 4 ba) 4 (bksV bs)) (hd : OwnD W w.heap.size ao n ca qo m cb ss xs) (q : Pxs) (b s d : Value) (L : Ld) :
    OwnR (set14 W (D + 1) q b s d L) w.heap.size 91 4 (.slice bo 4 ba) 4 (bksV bs) ∧ OwnD (set14 W (D + 1) q b s d L) w.heap.size ao n ca qo m cb ss xs ∧ Below w.heap.size w (set14 W (D + 1) q b s d L) :=
  have hk := keep14 W (D + 1) q b s d L
  ⟨rowX h.r ho hk, diskX h.r hd hk, h.below.trans (hk.below (B := w.heap.size) h.below.size (fun j e => by have e' : j = D + 1 := e; have := h.k; omega))⟩

set_option maxHeartbeats 1600000 in
theorem openStore_any (ao bo : Option Addr) (ca cb : Nat) (ss : List ByteArray) (xs : List Wr) (h : Int) (L : Ld) (w : World) (hL : ldOf ss xs h = L) (hd : diskB ss xs = true) (h1 : Ss w ao ss) (h2 : Ios w bo xs) (hE : ErrW w) :
    Calls Tryz.prog 26 #[.agg #[.slice ao ss.length ca, .slice bo xs.length cb], .int .i64 h] w fun e w' => ∃ g po pa ro ra, e = .returned (.agg #[.int .i64 h, .int .i64 0, .int .i64 0, .int .i64 0, .int .i64 0, .int .i64 0, .int .i64 0, .int .i64 0, .slice (some ⟨g, 0, none⟩) 4 4, .slice po ss.length pa, .slice ro xs.length ra, .int .i64 L.ver, .int .i64 L.own, .int .i64 L.gen]) ∧ OwnR w' w.heap.size 91 4 (.slice (some ⟨g, 0, none⟩) 4 4) 4 (bksV (bksOf ss xs h)) ∧ OwnD w' w.heap.size po ss.length pa ro xs.length ra ss xs ∧ Below w.heap.size w w' := by
  obtain ⟨l1, l2⟩ := diskB_len hd
  have HC1 := hide (fun W (hW : Below w.heap.size w W) => blocksSeen_any ao bo ca cb ss xs h W hd (h1.below hW) (h2.below hW) (hE.below hW))
  have HC2 := hide (fun W (hW : Below w.heap.size w W) => copyDisk_any ao bo ca cb ss xs W (by omega) (by omega) (h1.below hW) (h2.below hW))
  have HC3 := hide (fun W (hW : Below w.heap.size w W) => leaderSeen_any ao bo ca cb ss xs h L W hL hd (h1.below hW) (h2.below hW) (hE.below hW))
  have HA := hide (Joins.below_alloc2 w (.cells #[.slice ao ss.length ca, .slice bo xs.length cb] 31) (.cells #[.int .i64 0, .int .i64 0, .int .i64 0, .int .i64 0, .int .i64 0, .int .i64 0, .int .i64 0, .int .i64 0, .slice none 0 0, .slice none 0 0, .slice none 0 0, .int .i64 0, .int .i64 0, .int .i64 0] 59))
  have HS : Hid (OpI w ((w.alloc (.cells #[.slice ao ss.length ca, .slice bo xs.length cb] 31)).alloc (.cells #[.int .i64 0, .int .i64 0, .int .i64 0, .int .i64 0, .int .i64 0, .int .i64 0, .int .i64 0, .int .i64 0, .slice none 0 0, .slice none 0 0, .slice none 0 0, .int .i64 0, .int .i64 0, .int .i64 0] 59)) w.heap.size (.slice ao ss.length ca) (.slice bo xs.length cb)) :=
    hide ⟨unhide HA, (VarD.new w _ _).below (Joins.below_alloc1 _ _), by
      have := VarS.new (w.alloc (.cells #[.slice ao ss.length ca, .slice bo xs.length cb] 31)) p00 (.slice none 0 0) (.slice none 0 0) (.slice none 0 0) ld0
      simp only [World.size_alloc] at this
      exact this, Nat.le_refl _⟩
  clear hd h1 h2 hE hL l1 l2
  go_enter Tryz.func26, Tryz.ntmps26
  go_upto_region 1 with fail
  revert HS
  clear HA
  generalize (w.alloc (.cells #[.slice ao ss.length ca, .slice bo xs.length cb] 31)).alloc (.cells #[.int .i64 0, .int .i64 0, .int .i64 0, .int .i64 0, .int .i64 0, .int .i64 0, .int .i64 0, .int .i64 0, .slice none 0 0, .slice none 0 0, .slice none 0 0, .int .i64 0, .int .i64 0, .int .i64 0] 59) = W0
  intro HS
  obtain ⟨d0, d1⟩ := (unhide HS).d.cells
  replace HS := hide ((unhide HS).next (Below.refl _ W0).drew)
  go_region_held3 (fun w' => w'.cell? ⟨w.heap.size, 0, none⟩ = some (.slice ao ss.length ca) ∧ w'.cell? ⟨w.heap.size, 1, none⟩ = some (.slice bo xs.length cb)) (go_keep) (first
    | (go_at_call 47; refine (unhide HC1 _ (by exact (unhide HS).below)).mono ?_; rintro e wA ⟨g, rfl, ho, hb⟩; (try replace HO1 := hide ((unhide HO1).below hb)); (try replace HO2 := hide ((unhide HO2).below hb)); have HO1 := hide (ho.base (B' := w.heap.size) (unhide HS).below.size); replace HS := hide ((unhide HS).next hb); clear ho; clear hb; (try clear d0 d1); (first | (have u1 := HO1; have u2 := HO2; have u3 := HO3; clear u1 u2 u3; obtain ⟨r0, r1, r2, r3, r4, r5, r6, r7⟩ := (unhide HS).r.px; obtain ⟨r8, r9, r10, r11, r12, r13⟩ := (unhide HS).r.rest; have f0 := (unhide HS).r.free 0; have f1 := (unhide HS).r.free 1; have f2 := (unhide HS).r.free 2; have f3 := (unhide HS).r.free 3; have f4 := (unhide HS).r.free 4; have f5 := (unhide HS).r.free 5; have f6 := (unhide HS).r.free 6; have f7 := (unhide HS).r.free 7; have f8 := (unhide HS).r.free 8; have f9 := (unhide HS).r.free 9; have f10 := (unhide HS).r.free 10; have f11 := (unhide HS).r.free 11; have f12 := (unhide HS).r.free 12; have f13 := (unhide HS).r.free 13) | skip); obtain ⟨d0, d1⟩ := (unhide HS).d.cells)
    | (go_at_call 48; refine (unhide HC2 _ (by exact (unhide HS).below)).mono ?_; rintro e wA ⟨po, pa, ro, ra, rfl, ho, hb⟩; (try replace HO1 := hide ((unhide HO1).below hb)); (try replace HO2 := hide ((unhide HO2).below hb)); have HO2 := hide (ho.base (B' := w.heap.size) (unhide HS).below.size); replace HS := hide ((unhide HS).next hb); clear ho; clear hb; (try clear d0 d1); (first | (have u1 := HO1; have u2 := HO2; have u3 := HO3; clear u1 u2 u3; obtain ⟨r0, r1, r2, r3, r4, r5, r6, r7⟩ := (unhide HS).r.px; obtain ⟨r8, r9, r10, r11, r12, r13⟩ := (unhide HS).r.rest; have f0 := (unhide HS).r.free 0; have f1 := (unhide HS).r.free 1; have f2 := (unhide HS).r.free 2; have f3 := (unhide HS).r.free 3; have f4 := (unhide HS).r.free 4; have f5 := (unhide HS).r.free 5; have f6 := (unhide HS).r.free 6; have f7 := (unhide HS).r.free 7; have f8 := (unhide HS).r.free 8; have f9 := (unhide HS).r.free 9; have f10 := (unhide HS).r.free 10; have f11 := (unhide HS).r.free 11; have f12 := (unhide HS).r.free 12; have f13 := (unhide HS).r.free 13) | skip); obtain ⟨d0, d1⟩ := (unhide HS).d.cells)
    | (go_at_call 49; refine (unhide HC3 _ (by exact (unhide HS).below)).mono ?_; rintro e wA ⟨rfl, hb⟩; (try replace HO1 := hide ((unhide HO1).below hb)); (try replace HO2 := hide ((unhide HO2).below hb)); have HO3 : Hid True := hide trivial; replace HS := hide ((unhide HS).next hb); clear hb; (try clear d0 d1); (first | (have u1 := HO1; have u2 := HO2; have u3 := HO3; clear u1 u2 u3; obtain ⟨r0, r1, r2, r3, r4, r5, r6, r7⟩ := (unhide HS).r.px; obtain ⟨r8, r9, r10, r11, r12, r13⟩ := (unhide HS).r.rest; have f0 := (unhide HS).r.free 0; have f1 := (unhide HS).r.free 1; have f2 := (unhide HS).r.free 2; have f3 := (unhide HS).r.free 3; have f4 := (unhide HS).r.free 4; have f5 := (unhide HS).r.free 5; have f6 := (unhide HS).r.free 6; have f7 := (unhide HS).r.free 7; have f8 := (unhide HS).r.free 8; have f9 := (unhide HS).r.free 9; have f10 := (unhide HS).r.free 10; have f11 := (unhide HS).r.free 11; have f12 := (unhide HS).r.free 12; have f13 := (unhide HS).r.free 13) | skip); obtain ⟨d0, d1⟩ := (unhide HS).d.cells))
  all_goals
    have HF := hide (OpI.last (unhide HS) (unhide HO1) (unhide HO2) ⟨h, 0, 0, 0, 0, 0, 0, 0⟩ (.slice (some ⟨g, 0, none⟩) 4 4) (.slice po ss.length pa) (.slice ro xs.length ra) L)
    go_wp2
    exact bodyPost_ret (v := .agg #[.int .i64 h, .int .i64 0, .int .i64 0, .int .i64 0, .int .i64 0, .int .i64 0, .int .i64 0, .int .i64 0, .slice (some ⟨g, 0, none⟩) 4 4, .slice po ss.length pa, .slice ro xs.length ra, .int .i64 L.ver, .int .i64 L.own, .int .i64 L.gen]) (by simp [results, Tryz.results26, go_sem, r0, r1, r2, r3, r4, r5, r6, r7, r8, r9, r10, r11, r12, r13]) rfl ⟨g, po, pa, ro, ra, rfl, (unhide HF).1, (unhide HF).2.1, (unhide HF).2.2⟩

end Go.Proofs.YtjmianalknnekabGreatDoor

/- Contracts of the program's blocks: numbers, EncodeBlock. -/
namespace Go.Proofs.YtjmianalknnekabGreatDoor
open Go.RowKit
set_option linter.unusedVariables false
set_option maxRecDepth 100000

end Go.Proofs.YtjmianalknnekabGreatDoor

/- Contracts of the methods of the program's store that write the disk: put, putBlock, putLeader. -/
namespace Go.Proofs.YtjmianalknnekabGreatDoor
open Go.RowKit
set_option linter.unusedVariables false
set_option maxRecDepth 100000

set_option maxHeartbeats 1600000 in
theorem put_any (B x : Nat) (s : Est) (L : Ld) (bo ao qo : Option Addr) (ba ca cb : Nat) (a : Int) (t : ByteArray) (S : List ByteArray) (X : List Wr) (w : World) (hS : wS s.ss s.xs s.p.host a t = S) (hX : wX s.xs s.p.host a t = X) (hd : diskB s.ss s.xs = true) (hl : s.xs.length < 200) (ht : t.size ≤ 80) (hh : 0 ≤ s.p.host ∧ s.p.host ≤ 3) (a0 : 0 ≤ a) (a1 : a ≤ 63) (hs : Sto w B x s L bo ba ao ca qo cb) :
    Calls Tryz.prog 67 #[.pointer (some ⟨x, 0, none⟩), .int .i64 a, .string t] w fun e w' => e = .returned (.tuple #[]) ∧ StoE w' B x ⟨S, X, s.p, s.bs⟩ L ∧ Keep (fun j => j = x) w w' := by
  obtain ⟨_, z1, z2⟩ := right_sz hd
  have HC : Hid (∀ W, Below w.heap.size w W → Calls Tryz.prog 79 #[.agg #[.slice ao s.ss.length ca, .slice qo s.xs.length cb], .int .i64 s.p.host, .int .i64 a, .string t] W fun e w' => ∃ po pa ro ra, e = .returned (.tuple #[.agg #[.slice po S.length pa, .slice ro X.length ra], .int .i64 0]) ∧ OwnD w' W.heap.size po S.length pa ro X.length ra S X ∧ Below W.heap.size W w') :=
    hide (fun W hW => writeSure_ok ao qo ca cb s.ss s.xs s.p.host a t S X W hS hX hd hl ht hh.1 hh.2 a0 a1 ((hs.below hW).d.ss z1) ((hs.below hW).d.ios z2))
  have HS := hide hs
  obtain ⟨c0, _⟩ := hs.v.px
  obtain ⟨_, c9, c10, _⟩ := hs.v.rest
  clear hS hX hd hl ht hs z1 z2 hh
  go_enter Tryz.func67, Tryz.ntmps67
  go_wp2
  go_region_with (go_at_call 79; refine (unhide HC _ (Below.refl _ w).drew).mono ?_; rintro e wA ⟨po, pa, ro, ra, rfl, hoA, hbA⟩; have HBA := hide (fr (Below.refl _ w).drew hbA); have HOA := hide hoA; have HSA := hide ((unhide HS).below (unhide HBA)); obtain ⟨_, d9, d10, _⟩ := (unhide HSA).v.rest; have f9 := (unhide HSA).v.free 9; have f10 := (unhide HSA).v.free 10; clear hoA hbA)
  all_goals
    have HW := hide (Sto.write (unhide HS) (unhide HBA) (by exact unhide HOA))
    go_wp2
    go_end0
    exact ⟨rfl, ⟨_, _, _, _, _, _, (unhide HW).1⟩, (unhide HW).2⟩

set_option maxHeartbeats 1600000 in
theorem putLeader_any (B x : Nat) (s : Est) (L M : Ld) (bo ao qo : Option Addr) (ba ca cb : Nat) (S : List ByteArray) (X : List Wr) (w : World) (hS : wS s.ss s.xs s.p.host 0 (encL M) = S) (hX : wX s.xs s.p.host 0 (encL M) = X) (hd : diskB s.ss s.xs = true) (hl : s.xs.length < 200) (hh : 0 ≤ s.p.host ∧ s.p.host ≤ 3) (hM : ldB M = true) (hs : Sto w B x s L bo ba ao ca qo cb) :
    Calls Tryz.prog 50 #[.pointer (some ⟨x, 0, none⟩), lV M] w fun e w' => e = .returned (.tuple #[]) ∧ StoE w' B x ⟨S, X, s.p, s.bs⟩ M ∧ Keep (fun j => j = x) w w' := by
  have HE : Hid (elR M = encL M) := hide (if_pos hM)
  have HP := hide (fun W hW => put_any B x s L bo ao qo ba ca cb 0 (encL M) S X W hS hX hd hl (by rw [encL_size]; decide) hh (by omega) (by omega) hW)
  have HA := hide (Joins.below_alloc1 w (.cells #[.int .i64 M.ver, .int .i64 M.own, .int .i64 M.gen] 32))
  have HS := hide (hs.below (unhide HA))
  have HV := hide (VarT.new w 32 M.ver M.own M.gen)
  have hlt := hs.v.lt
  have HN : Hid (¬ w.heap.size = x) := hide (by omega)
  clear hS hX hd hl hh hM hs hlt
  go_enter Tryz.func50, Tryz.ntmps50
  go_wp2_with fail
  refine (encodeLeader_impl M _).mono ?_
  rintro e w2 ⟨rfl, hb2⟩
  rw [unhide HE]
  have HB2 := hide (fr (unhide HA) hb2)
  have HS2 := hide ((unhide HS).below hb2)
  have HV2 := hide ((unhide HV).below hb2)
  clear hb2
  go_wp2_with fail
  refine (unhide HP _ (unhide HS2)).mono ?_
  rintro e w3 ⟨rfl, hst, hk⟩
  obtain ⟨bo', ba', ao', ca', qo', cb', hst⟩ := hst
  have HV3 := hide ((unhide HV2).keep hk (unhide HN))
  have HK := hide ((Keep.of_below (unhide HB2)).trans hk)
  have HL := hide (hst.leader M)
  have HST := hide hst
  obtain ⟨_, _, _, d11, d12, d13⟩ := hst.v.rest
  have f11 := hst.v.free 11
  have f12 := hst.v.free 12
  have f13 := hst.v.free 13
  obtain ⟨t0, t1, t2⟩ := (unhide HV3).cells
  clear hst hk
  go_wp2
  go_end0
  exact ⟨rfl, ⟨_, _, _, _, _, _, unhide HL⟩, (unhide HK).trans (keep_lead w3 x _ _ _)⟩

end Go.Proofs.YtjmianalknnekabGreatDoor

/- Contract of the method release of the program's store. -/
namespace Go.Proofs.YtjmianalknnekabGreatDoor
open Go.RowKit
set_option linter.unusedVariables false
set_option maxRecDepth 100000

def rlDo (s : Est) (L X : Ld) : Est × Ld × Int :=
  if sameL L X = true then
    (if X.own = s.p.host then
      (if X.ver = 1000000 then (s, L, 6) else (⟨wS s.ss s.xs s.p.host 0 (encL (ldN (X.ver + 1))), wX s.xs s.p.host 0 (encL (ldN (X.ver + 1))), s.p, s.bs⟩, ldN (X.ver + 1), 0))
    else (s, L, 9))
  else (s, L, 13)
theorem lead_cases (a b : Ld) : ((a.ver == b.ver) = false ∧ sameL a b = false) ∨ ((a.ver == b.ver) = true ∧ (a.own == b.own) = false ∧ sameL a b = false) ∨ ((a.ver == b.ver) = true ∧ (a.own == b.own) = true ∧ (a.gen == b.gen) = false ∧ sameL a b = false) ∨ ((a.ver == b.ver) = true ∧ (a.own == b.own) = true ∧ (a.gen == b.gen) = true ∧ sameL a b = true) := by
  by_cases h1 : a.ver = b.ver <;> by_cases h2 : a.own = b.own <;> by_cases h3 : a.gen = b.gen <;> simp [sameL, h1, h2, h3]

set_option maxHeartbeats 1600000 in
theorem release_any (B x : Nat) (s : Est) (L X : Ld) (bo ao qo : Option Addr) (ba ca cb : Nat) (w : World) (hd : diskB s.ss s.xs = true) (hl : s.xs.length < 200) (hh : 0 ≤ s.p.host ∧ s.p.host ≤ 3) (hX : ldB X = true) (hs : Sto w B x s L bo ba ao ca qo cb) :
    Calls Tryz.prog 27 #[.pointer (some ⟨x, 0, none⟩), lV X] w fun e w' => e = .returned (.int .i64 (rlDo s L X).2.2) ∧ StoE w' B x (rlDo s L X).1 (rlDo s L X).2.1 ∧ Keep (fun j => j = x) w w' := by
  have hv := (ldB_lo hX).1
  have HA := hide (Joins.below_alloc1 w (.cells #[.int .i64 X.ver, .int .i64 X.own, .int .i64 X.gen] 32))
  have HS := hide (hs.below (unhide HA))
  have HV := hide (VarT.new w 32 X.ver X.own X.gen)
  have HP := hide (fun W hW hM => putLeader_any B x s L (ldN (X.ver + 1)) bo ao qo ba ca cb _ _ W rfl rfl hd hl hh hM hW)
  have HK := hide (Keep.of_below (S := fun j => j = x) (unhide HA))
  obtain ⟨r, HR⟩ : ∃ r, Hid (rlDo s L X = r) := ⟨_, hide rfl⟩
  rw [unhide HR]
  rcases lead_cases L X with ⟨b1, hr⟩ | ⟨b1, b2, hr⟩ | ⟨b1, b2, b3, hr⟩ | ⟨b1, b2, b3, hr⟩
  case inr.inr.inr =>
    by_cases ho : X.own = s.p.host
    · have bo1 : (X.own != s.p.host) = false := by simp [ho]
      by_cases hm : X.ver = 1000000
      · have bm : (X.ver == 1000000) = true := by simp [hm]
        have HE : Hid (r = (s, L, 6)) := hide (by rw [← unhide HR, rlDo, if_pos hr, if_pos ho, if_pos hm])
        clear hs hd hl hh hX hr ho hm
        go_enter Tryz.func27, Tryz.ntmps27
        go_upto_region 1 with fail
        revert HA HS HV HK
        generalize w.alloc (.cells #[.int .i64 X.ver, .int .i64 X.own, .int .i64 X.gen] 32) = W0
        generalize w.heap.size = C
        intro HA HS HV HK
        obtain ⟨c0, _⟩ := (unhide HS).v.px
        obtain ⟨_, _, _, c11, c12, c13⟩ := (unhide HS).v.rest
        obtain ⟨t0, t1, t2⟩ := (unhide HV).cells
        have HF := hide ((unhide HS).below ((Below.refl _ W0).drew).drew)
        have HG := hide ((unhide HK).trans (Keep.of_below ((Below.refl _ W0).drew).drew))
        go_region
        go_wp2
        go_region
        go_wp2
        go_ret
        rw [unhide HE]
        exact ⟨rfl, ⟨_, _, _, _, _, _, unhide HF⟩, unhide HG⟩
      · have bm : (X.ver == 1000000) = false := by simp [hm]
        have wr1 : IntKind.i64.wrap (X.ver + 1) = X.ver + 1 := by rw [IntKind.wrap_i64]; omega
        have HE : Hid (r = (⟨wS s.ss s.xs s.p.host 0 (encL (ldN (X.ver + 1))), wX s.xs s.p.host 0 (encL (ldN (X.ver + 1))), s.p, s.bs⟩, ldN (X.ver + 1), 0)) := hide (by rw [← unhide HR, rlDo, if_pos hr, if_pos ho, if_neg hm])
        have HM : Hid (ldB (ldN (X.ver + 1)) = true) := hide (ldB_N _ (by omega) (by omega))
        clear hs hd hl hh hX hr ho hm hv
        go_enter Tryz.func27, Tryz.ntmps27
        go_upto_region 1 with fail
        revert HA HS HV HK
        generalize w.alloc (.cells #[.int .i64 X.ver, .int .i64 X.own, .int .i64 X.gen] 32) = W0
        generalize w.heap.size = C
        intro HA HS HV HK
        obtain ⟨c0, _⟩ := (unhide HS).v.px
        obtain ⟨_, _, _, c11, c12, c13⟩ := (unhide HS).v.rest
        obtain ⟨t0, t1, t2⟩ := (unhide HV).cells
        have HF := hide ((unhide HS).below ((Below.refl _ W0).drew).drew)
        have HG := hide ((unhide HK).trans (Keep.of_below ((Below.refl _ W0).drew).drew))
        go_region
        go_wp2
        go_region
        go_wp2_with fail
        refine (nobodySince_any (X.ver + 1) _).mono ?_
        rintro e w2 ⟨rfl, hb2⟩
        have HS2 := hide ((unhide HF).below hb2)
        have HG2 := hide ((unhide HG).trans (Keep.of_below hb2))
        clear hb2 c0 c11 c12 c13 t0 t1 t2
        go_wp2_with fail
        refine (unhide HP _ (unhide HS2) (unhide HM)).mono ?_
        rintro e w3 ⟨rfl, hst, hk⟩
        have HST := hide hst
        have HG3 := hide ((unhide HG2).trans hk)
        clear hst hk
        go_wp2
        go_ret
        rw [unhide HE]
        exact ⟨rfl, unhide HST, unhide HG3⟩
    · have bo1 : (X.own != s.p.host) = true := by simp [ho]
      have HE : Hid (r = (s, L, 9)) := hide (by rw [← unhide HR, rlDo, if_pos hr, if_neg ho])
      clear hs hd hl hh hX hr ho
      go_enter Tryz.func27, Tryz.ntmps27
      go_upto_region 1 with fail
      revert HA HS HV HK
      generalize w.alloc (.cells #[.int .i64 X.ver, .int .i64 X.own, .int .i64 X.gen] 32) = W0
      generalize w.heap.size = C
      intro HA HS HV HK
      obtain ⟨c0, _⟩ := (unhide HS).v.px
      obtain ⟨_, _, _, c11, c12, c13⟩ := (unhide HS).v.rest
      obtain ⟨t0, t1, t2⟩ := (unhide HV).cells
      have HF := hide ((unhide HS).below ((Below.refl _ W0).drew).drew)
      have HG := hide ((unhide HK).trans (Keep.of_below ((Below.refl _ W0).drew).drew))
      go_region
      go_wp2
      go_region
      go_wp2
      go_ret
      rw [unhide HE]
      exact ⟨rfl, ⟨_, _, _, _, _, _, unhide HF⟩, unhide HG⟩
  all_goals
    have HE : Hid (r = (s, L, 13)) := hide (by rw [← unhide HR, rlDo, if_neg (by simp [hr])])
    clear hs hd hl hh hX hr
    go_enter Tryz.func27, Tryz.ntmps27
    go_upto_region 1 with fail
    revert HA HS HV HK
    generalize w.alloc (.cells #[.int .i64 X.ver, .int .i64 X.own, .int .i64 X.gen] 32) = W0
    generalize w.heap.size = C
    intro HA HS HV HK
    obtain ⟨c0, _⟩ := (unhide HS).v.px
    obtain ⟨_, _, _, c11, c12, c13⟩ := (unhide HS).v.rest
    obtain ⟨t0, t1, t2⟩ := (unhide HV).cells
    have HF := hide ((unhide HS).below (Below.refl _ W0).drew)
    have HG := hide ((unhide HK).trans (Keep.of_below (Below.refl _ W0).drew))
    go_region
    go_wp2
    go_ret
    rw [unhide HE]
    exact ⟨rfl, ⟨_, _, _, _, _, _, unhide HF⟩, unhide HG⟩

end Go.Proofs.YtjmianalknnekabGreatDoor

/- Contract of the program's Release. -/
namespace Go.Proofs.YtjmianalknnekabGreatDoor
open Go.RowKit
set_option linter.unusedVariables false
set_option maxRecDepth 100000

/-- A call's world that has a disk in a variable and answers a disk and a leader. -/
structure TlS (w W : World) (B0 B1 B2 : Nat) (dv dx : Value) : Prop where
  below : Below w.heap.size w W
  d : VarD W B0 dv dx
  r : VarD W B1 (.slice none 0 0) (.slice none 0 0)
  t : VarT W B2 32 0 0 0
theorem TlS.next {w W W' : World} {B0 B1 B2 : Nat} {dv dx : Value} (h : TlS w W B0 B1 B2 dv dx) (hb : Below W.heap.size W W') : TlS w W' B0 B1 B2 dv dx := ⟨fr h.below hb, h.d.below hb, h.r.below hb, h.t.below hb⟩
theorem TlS.keep {w W W' : World} {B0 B1 B2 x : Nat} {dv dx : Value} (h : TlS w W B0 B1 B2 dv dx) (hk : Keep (fun j => j = x) W W') (hw : w.heap.size ≤ x) (h0 : B0 < x) (h1 : B1 < x) (h2 : B2 < x) : TlS w W' B0 B1 B2 dv dx :=
  ⟨h.below.trans (hk.below (B := w.heap.size) h.below.size (fun j e => by have e' : j = x := e; omega)), h.d.keep hk (by omega), h.r.keep hk (by omega), h.t.keep hk (by omega)⟩
/-- The answer: a disk that is owned, a leader, a code. -/
def Told (w W : World) (R : Ans) (e : Ending) : Prop := ∃ po pa qo qa, e = .returned (.tuple #[.agg #[.slice po R.ss.length pa, .slice qo R.xs.length qa], lV R.l, .int .i64 R.c]) ∧ OwnD W w.heap.size po R.ss.length pa qo R.xs.length qa R.ss R.xs ∧ Below w.heap.size w W
theorem told_zero {w W : World} {R : Ans} {c : Int} (hR : R = ⟨[], [], ld0, c⟩) (hb : Below w.heap.size w W) : Told w W R (.returned (.tuple #[.agg #[.slice none 0 0, .slice none 0 0], lV ld0, .int .i64 c])) := by
  subst hR
  exact ⟨none, 0, none, 0, rfl, zeroD_own, hb⟩
theorem told_end {w W : World} {R : Ans} {s : Est} {L : Ld} {c : Int} {po qo : Option Addr} {pa qa : Nat} (hR : R = ⟨s.ss, s.xs, L, c⟩) (ho : OwnD W w.heap.size po s.ss.length pa qo s.xs.length qa s.ss s.xs) (hb : Below w.heap.size w W) : Told w W R (.returned (.tuple #[.agg #[.slice po s.ss.length pa, .slice qo s.xs.length qa], lV L, .int .i64 c])) := by
  subst hR
  exact ⟨po, pa, qo, qa, rfl, ho, hb⟩
/-- The answer's variables are stored. -/
theorem TlS.out {w W : World} {B0 B1 B2 n m ca cb : Nat} {dv dx : Value} {ao bo : Option Addr} {ss : List ByteArray} {xs : List Wr} (h : TlS w W B0 B1 B2 dv dx) (hd : OwnD W w.heap.size ao n ca bo m cb ss xs) (h1 : w.heap.size ≤ B1) (h2 : w.heap.size ≤ B2) (a b x y z : Value) :
    OwnD (set5 W B1 B2 a b x y z) w.heap.size ao n ca bo m cb ss xs ∧ Below w.heap.size w (set5 W B1 B2 a b x y z) := by
  have hk1 : Keep (fun j => j = B1) W ((W.setCell ⟨B1, 0, none⟩ a).setCell ⟨B1, 1, none⟩ b) := ((Keep.refl (fun j => j = B1) W).setCell (p := ⟨B1, 0, none⟩) rfl a).setCell (p := ⟨B1, 1, none⟩) rfl b
  have hd1 : OwnD ((W.setCell ⟨B1, 0, none⟩ a).setCell ⟨B1, 1, none⟩ b) w.heap.size ao n ca bo m cb ss xs := hd.keep hk1 (fun g hg e => by have e' : g = B1 := e; subst e'; exact hd.other h.r (by decide) (by decide) hg)
  have hk2 : Keep (fun j => j = B2) ((W.setCell ⟨B1, 0, none⟩ a).setCell ⟨B1, 1, none⟩ b) (set5 W B1 B2 a b x y z) := (((Keep.refl (fun j => j = B2) _).setCell (p := ⟨B2, 0, none⟩) rfl x).setCell (p := ⟨B2, 1, none⟩) rfl y).setCell (p := ⟨B2, 2, none⟩) rfl z
  refine ⟨hd1.keep hk2 (fun g hg e => ?_), below5 h.below h1 h2 a b x y z⟩
  have e' : g = B2 := e
  subst e'
  exact hd.other h.t (by decide) (by decide) hg
theorem TlS.out2 {w W : World} {B0 B1 B2 n m ca cb : Nat} {dv dx : Value} {ao bo : Option Addr} {ss : List ByteArray} {xs : List Wr} (h : TlS w W B0 B1 B2 dv dx) (hd : OwnD W w.heap.size ao n ca bo m cb ss xs) (h1 : w.heap.size ≤ B1) (h2 : w.heap.size ≤ B2) (a b x y z : Value) :
    OwnD (((((W.setCell ⟨B2, 0, none⟩ x).setCell ⟨B2, 1, none⟩ y).setCell ⟨B2, 2, none⟩ z).setCell ⟨B1, 0, none⟩ a).setCell ⟨B1, 1, none⟩ b) w.heap.size ao n ca bo m cb ss xs ∧ Below w.heap.size w (((((W.setCell ⟨B2, 0, none⟩ x).setCell ⟨B2, 1, none⟩ y).setCell ⟨B2, 2, none⟩ z).setCell ⟨B1, 0, none⟩ a).setCell ⟨B1, 1, none⟩ b) := by
  have hk2 : Keep (fun j => j = B2) W (((W.setCell ⟨B2, 0, none⟩ x).setCell ⟨B2, 1, none⟩ y).setCell ⟨B2, 2, none⟩ z) := (((Keep.refl (fun j => j = B2) _).setCell (p := ⟨B2, 0, none⟩) rfl x).setCell (p := ⟨B2, 1, none⟩) rfl y).setCell (p := ⟨B2, 2, none⟩) rfl z
  have hd1 := hd.keep hk2 (fun g hg e => by have e' : g = B2 := e; subst e'; exact hd.other h.t (by decide) (by decide) hg)
  have hk1 : Keep (fun j => j = B1) (((W.setCell ⟨B2, 0, none⟩ x).setCell ⟨B2, 1, none⟩ y).setCell ⟨B2, 2, none⟩ z) (((((W.setCell ⟨B2, 0, none⟩ x).setCell ⟨B2, 1, none⟩ y).setCell ⟨B2, 2, none⟩ z).setCell ⟨B1, 0, none⟩ a).setCell ⟨B1, 1, none⟩ b) := ((Keep.refl (fun j => j = B1) _).setCell (p := ⟨B1, 0, none⟩) rfl a).setCell (p := ⟨B1, 1, none⟩) rfl b
  refine ⟨hd1.keep hk1 (fun g hg e => ?_), ((((h.below.setCell (p := ⟨B2, 0, none⟩) h2 x).setCell (p := ⟨B2, 1, none⟩) h2 y).setCell (p := ⟨B2, 2, none⟩) h2 z).setCell (p := ⟨B1, 0, none⟩) h1 a).setCell (p := ⟨B1, 1, none⟩) h1 b⟩
  have e' : g = B1 := e
  subst e'
  exact hd.other h.r (by decide) (by decide) hg
/-- Its start, with a leader as an argument. -/
theorem tl_new4 (w : World) (ao bo : Option Addr) (ca cb n m : Nat) (X : Ld) :
    TlS w ((((w.alloc (.cells #[.slice ao n ca, .slice bo m cb] 31)).alloc (.cells #[.int .i64 X.ver, .int .i64 X.own, .int .i64 X.gen] 32)).alloc (.cells #[.slice none 0 0, .slice none 0 0] 31)).alloc (.cells #[.int .i64 0, .int .i64 0, .int .i64 0] 32)) w.heap.size (w.heap.size + 1 + 1) (w.heap.size + 1 + 1 + 1) (.slice ao n ca) (.slice bo m cb) ∧
    VarT ((((w.alloc (.cells #[.slice ao n ca, .slice bo m cb] 31)).alloc (.cells #[.int .i64 X.ver, .int .i64 X.own, .int .i64 X.gen] 32)).alloc (.cells #[.slice none 0 0, .slice none 0 0] 31)).alloc (.cells #[.int .i64 0, .int .i64 0, .int .i64 0] 32)) (w.heap.size + 1) 32 X.ver X.own X.gen := by
  have b1 := Joins.below_alloc1 w (.cells #[.slice ao n ca, .slice bo m cb] 31)
  have b2 := Joins.below_alloc1 (w.alloc (.cells #[.slice ao n ca, .slice bo m cb] 31)) (.cells #[.int .i64 X.ver, .int .i64 X.own, .int .i64 X.gen] 32)
  have b3 := Joins.below_alloc1 ((w.alloc (.cells #[.slice ao n ca, .slice bo m cb] 31)).alloc (.cells #[.int .i64 X.ver, .int .i64 X.own, .int .i64 X.gen] 32)) (.cells #[.slice none 0 0, .slice none 0 0] 31)
  have b4 := Joins.below_alloc1 (((w.alloc (.cells #[.slice ao n ca, .slice bo m cb] 31)).alloc (.cells #[.int .i64 X.ver, .int .i64 X.own, .int .i64 X.gen] 32)).alloc (.cells #[.slice none 0 0, .slice none 0 0] 31)) (.cells #[.int .i64 0, .int .i64 0, .int .i64 0] 32)
  refine ⟨⟨fr (fr (fr b1 b2) b3) b4, (VarD.new w _ _).below (fr (fr b2 b3) b4), ?_, ?_⟩, ?_⟩
  · have := (VarD.new ((w.alloc (.cells #[.slice ao n ca, .slice bo m cb] 31)).alloc (.cells #[.int .i64 X.ver, .int .i64 X.own, .int .i64 X.gen] 32)) (.slice none 0 0) (.slice none 0 0)).below b4
    simp only [World.size_alloc] at this
    exact this
  · have := VarT.new (((w.alloc (.cells #[.slice ao n ca, .slice bo m cb] 31)).alloc (.cells #[.int .i64 X.ver, .int .i64 X.own, .int .i64 X.gen] 32)).alloc (.cells #[.slice none 0 0, .slice none 0 0] 31)) 32 0 0 0
    simp only [World.size_alloc] at this
    exact this
  · have := (VarT.new (w.alloc (.cells #[.slice ao n ca, .slice bo m cb] 31)) 32 X.ver X.own X.gen).below (fr b3 b4)
    simp only [World.size_alloc] at this
    exact this
theorem rs_bad {ss : List ByteArray} {xs : List Wr} {h : Int} {X : Ld} (e : leC ss xs h ≠ 0) : rsA ss xs h X = ⟨[], [], ld0, leC ss xs h⟩ := if_neg e
theorem rs_wrong {ss : List ByteArray} {xs : List Wr} {h : Int} {X : Ld} (e : leC ss xs h = 0) (e1 : ldB X = false) : rsA ss xs h X = ⟨[], [], ld0, 1⟩ := by rw [rsA, if_pos e, if_neg (by simp [e1])]
theorem rs_do {ss : List ByteArray} {xs : List Wr} {h : Int} {X : Ld} (s : Est) (hs1 : s.ss = ss) (hs2 : s.xs = xs) (hs3 : s.p.host = h) (e : leC ss xs h = 0) (e1 : ldB X = true) : rsA ss xs h X = ⟨(rlDo s (ldOf ss xs h) X).1.ss, (rlDo s (ldOf ss xs h) X).1.xs, (rlDo s (ldOf ss xs h) X).2.1, (rlDo s (ldOf ss xs h) X).2.2⟩ := by
  subst hs1 hs2 hs3
  rw [rsA, if_pos e, if_pos e1]
  unfold rlDo
  by_cases h1 : sameL (ldOf s.ss s.xs s.p.host) X = true
  · rw [if_pos h1, if_pos h1]
    have hx := sameL_iff.1 h1
    by_cases h2 : X.own = s.p.host
    · rw [if_pos h2, if_pos h2]
      by_cases h3 : X.ver = 1000000
      · rw [if_pos h3, if_pos h3]; simp only [hx]
      · rw [if_neg h3, if_neg h3]
    · rw [if_neg h2, if_neg h2]; simp only [hx]
  · rw [if_neg h1, if_neg h1]
theorem sto_new {W : World} {B : Nat} {h : Int} {L : Ld} {g : Nat} {po ro : Option Addr} {pa ra : Nat} {bs : List Bk} {ss : List ByteArray} {xs : List Wr} (ho : OwnR W B 91 4 (.slice (some ⟨g, 0, none⟩) 4 4) 4 (bksV bs)) (hd : OwnD W B po ss.length pa ro xs.length ra ss xs) (hB : B ≤ W.heap.size) :
    Sto (W.alloc (.cells #[.int .i64 h, .int .i64 0, .int .i64 0, .int .i64 0, .int .i64 0, .int .i64 0, .int .i64 0, .int .i64 0, .slice (some ⟨g, 0, none⟩) 4 4, .slice po ss.length pa, .slice ro xs.length ra, .int .i64 L.ver, .int .i64 L.own, .int .i64 L.gen] 59)) B W.heap.size ⟨ss, xs, ⟨h, 0, 0, 0, 0, 0, 0, 0⟩, bs⟩ L (some ⟨g, 0, none⟩) 4 po pa ro ra :=
  have hb := Joins.below_alloc1 W (.cells #[.int .i64 h, .int .i64 0, .int .i64 0, .int .i64 0, .int .i64 0, .int .i64 0, .int .i64 0, .int .i64 0, .slice (some ⟨g, 0, none⟩) 4 4, .slice po ss.length pa, .slice ro xs.length ra, .int .i64 L.ver, .int .i64 L.own, .int .i64 L.gen] 59)
  ⟨VarS.new W ⟨h, 0, 0, 0, 0, 0, 0, 0⟩ _ _ _ L, ho.below hb, hd.below hb, hB⟩

set_option maxHeartbeats 1600000 in
theorem release_impl (R : Ans) (ao bo : Option Addr) (ca cb : Nat) (ss : List ByteArray) (xs : List Wr) (h : Int) (X : Ld) (w : World) (hR : rsA ss xs h X = R) (hl : ss.length ≤ maxLen) (hm : xs.length ≤ maxLen) (h1 : Ss w ao ss) (h2 : Ios w bo xs) (hE : ErrW w) :
    Calls Tryz.prog 8 #[.agg #[.slice ao ss.length ca, .slice bo xs.length cb], .int .i64 h, lV X] w fun e w' => Told w w' R e := by
  have HN := hide (tl_new4 w ao bo ca cb ss.length xs.length X)
  have HL := hide hl
  have HM := hide hm
  have H1 := hide h1
  have H2 := hide h2
  have HE := hide hE
  have HRR := hide hR
  clear h1 h2 hl hm hE hR
  go_enter Tryz.func8, Tryz.ntmps8
  go_upto_region 1 with fail
  revert HN
  generalize ((((w.alloc (.cells #[.slice ao ss.length ca, .slice bo xs.length cb] 31)).alloc (.cells #[.int .i64 X.ver, .int .i64 X.own, .int .i64 X.gen] 32)).alloc (.cells #[.slice none 0 0, .slice none 0 0] 31)).alloc (.cells #[.int .i64 0, .int .i64 0, .int .i64 0] 32)) = W0
  intro HN
  have HO : Hid (w.heap.size ≤ w.heap.size + 1 + 1 ∧ w.heap.size ≤ w.heap.size + 1 + 1 + 1 ∧ w.heap.size + 1 + 1 ≠ w.heap.size + 1 + 1 + 1) := hide (by omega)
  generalize w.heap.size + 1 + 1 + 1 = B2 at *
  generalize w.heap.size + 1 + 1 = B1 at *
  generalize w.heap.size + 1 = BX at *
  have HT := hide (unhide HN).1
  have HX := hide (unhide HN).2
  clear HN
  obtain ⟨d0, d1⟩ := (unhide HT).d.cells
  go_wp2_with fail
  refine (roomFault_any _ _ _ _ ss xs h _ (unhide HL) (unhide HM) ((unhide H1).below (unhide HT).below) ((unhide H2).below (unhide HT).below)).mono ?_
  rintro e w1 ⟨rfl, hb1⟩
  have HT1 := hide ((unhide HT).next hb1)
  have HX1 := hide ((unhide HX).below hb1)
  clear hb1 d0 d1
  obtain ⟨c, HC⟩ : ∃ c, Hid (leC ss xs h = c) := ⟨_, hide rfl⟩
  rw [unhide HC]
  by_cases hc : c = 0
  · have hb : (c != 0) = false := by simp [hc]
    have HC0 : Hid (leC ss xs h = 0) := hide ((unhide HC).trans hc)
    clear hc
    obtain ⟨t0, t1, t2⟩ := (unhide HX1).cells
    go_wp2_with fail
    refine (leaderOK_impl X _).mono ?_
    rintro e w2 ⟨rfl, hb2⟩
    have HT2 := hide ((unhide HT1).next hb2)
    have HX2 := hide ((unhide HX1).below hb2)
    clear hb2 t0 t1 t2
    by_cases hx : ldB X = true
    · have HLX := hide hx
      obtain ⟨d0, d1⟩ := (unhide HT2).d.cells
      obtain ⟨L, HK⟩ : ∃ L, Hid (ldOf ss xs h = L) := ⟨_, hide rfl⟩
      have HD := hide (leC_eq (unhide HC0))
      go_wp2_with fail
      refine (openStore_any _ _ _ _ ss xs h L _ (unhide HK) (unhide HD).1 ((unhide H1).below (unhide HT2).below) ((unhide H2).below (unhide HT2).below) ((unhide HE).below (unhide HT2).below)).mono ?_
      rintro e w3 ⟨g, po, pa, ro, ra, rfl, hob, hod, hb3⟩
      have HT3 := hide ((unhide HT2).next hb3)
      have HX3 := hide ((unhide HX2).below hb3)
      have HZ : Hid (w.heap.size ≤ w3.heap.size ∧ BX < w3.heap.size ∧ B1 < w3.heap.size ∧ B2 < w3.heap.size ∧ w.heap.size < w3.heap.size) := hide ⟨(unhide HT3).below.size, (unhide HX3).lt, (unhide HT3).r.lt, (unhide HT3).t.lt, (unhide HT3).d.lt⟩
      have HS3 := hide (sto_new (h := h) (L := L) (hob.base (B' := w.heap.size) (unhide HT2).below.size) (hod.base (B' := w.heap.size) (unhide HT2).below.size) (unhide HZ).1)
      have HA3 := hide (Joins.below_alloc1 w3 (.cells #[.int .i64 h, .int .i64 0, .int .i64 0, .int .i64 0, .int .i64 0, .int .i64 0, .int .i64 0, .int .i64 0, .slice (some ⟨g, 0, none⟩) 4 4, .slice po ss.length pa, .slice ro xs.length ra, .int .i64 L.ver, .int .i64 L.own, .int .i64 L.gen] 59))
      have HT4 := hide ((unhide HT3).next (unhide HA3))
      have HX4 := hide ((unhide HX3).below (unhide HA3))
      clear hob hod hb3 d0 d1 hx
      go_upto_region 7 with fail
      revert HS3 HT4 HX4 HZ
      clear HA3 HT3 HX3
      generalize w3.alloc (.cells #[.int .i64 h, .int .i64 0, .int .i64 0, .int .i64 0, .int .i64 0, .int .i64 0, .int .i64 0, .int .i64 0, .slice (some ⟨g, 0, none⟩) 4 4, .slice po ss.length pa, .slice ro xs.length ra, .int .i64 L.ver, .int .i64 L.own, .int .i64 L.gen] 59) = W4
      generalize w3.heap.size = x
      intro HZ HS4 HT4 HX4
      obtain ⟨t0, t1, t2⟩ := (unhide HX4).cells
      have HDO : Hid (R = ⟨(rlDo ⟨ss, xs, ⟨h, 0, 0, 0, 0, 0, 0, 0⟩, bksOf ss xs h⟩ L X).1.ss, (rlDo ⟨ss, xs, ⟨h, 0, 0, 0, 0, 0, 0, 0⟩, bksOf ss xs h⟩ L X).1.xs, (rlDo ⟨ss, xs, ⟨h, 0, 0, 0, 0, 0, 0, 0⟩, bksOf ss xs h⟩ L X).2.1, (rlDo ⟨ss, xs, ⟨h, 0, 0, 0, 0, 0, 0, 0⟩, bksOf ss xs h⟩ L X).2.2⟩) := hide (by rw [← unhide HRR, ← unhide HK]; exact rs_do _ rfl rfl rfl (unhide HC0) (unhide HLX))
      go_wp2_with fail
      refine (release_any w.heap.size x ⟨ss, xs, ⟨h, 0, 0, 0, 0, 0, 0, 0⟩, bksOf ss xs h⟩ L X _ _ _ _ _ _ _ (unhide HD).1 (unhide HD).2.2 (unhide HD).2.1 (unhide HLX) (unhide HS4)).mono ?_
      rintro e w5 ⟨rfl, ⟨bo', ba', ao', ca', qo', cb', hst⟩, hk⟩
      revert HDO hst
      generalize (rlDo ⟨ss, xs, ⟨h, 0, 0, 0, 0, 0, 0, 0⟩, bksOf ss xs h⟩ L X).1 = s5
      generalize (rlDo ⟨ss, xs, ⟨h, 0, 0, 0, 0, 0, 0, 0⟩, bksOf ss xs h⟩ L X).2.1 = L5
      generalize (rlDo ⟨ss, xs, ⟨h, 0, 0, 0, 0, 0, 0, 0⟩, bksOf ss xs h⟩ L X).2.2 = c5
      intro HDO hst
      have HS5 := hide hst
      have HT5 := hide ((unhide HT4).keep hk (unhide HZ).1 (unhide HZ).2.2.2.2 (unhide HZ).2.2.1 (unhide HZ).2.2.2.1)
      have x1 : x ≠ B1 := by have := unhide HZ; omega
      have x1' : B1 ≠ x := by have := unhide HZ; omega
      have x2 : x ≠ B2 := by have := unhide HZ; omega
      have x2' : B2 ≠ x := by have := unhide HZ; omega
      have x3 : B1 ≠ B2 := (unhide HO).2.2
      have x3' : B2 ≠ B1 := Ne.symm (unhide HO).2.2
      clear hst hk t0 t1 t2
      obtain ⟨_, c9, c10, c11, c12, c13⟩ := (unhide HS5).v.rest
      obtain ⟨r0, r1⟩ := (unhide HT5).r.cells
      have r2 := (unhide HT5).r.free 0
      have r3 := (unhide HT5).r.free 1
      obtain ⟨t0, t1, t2⟩ := (unhide HT5).t.cells
      obtain ⟨t3, t4, t5⟩ := (unhide HT5).t.free
      have HF := hide (fun a b x y z => (unhide HT5).out (unhide HS5).d (unhide HO).1 (unhide HO).2.1 a b x y z)
      have HF2 := hide (fun a b x y z => (unhide HT5).out2 (unhide HS5).d (unhide HO).1 (unhide HO).2.1 a b x y z)
      go_wp2
      go_region
      all_goals
        go_wp2
        refine bodyPost_ret (v := .tuple #[.agg #[.slice ao' s5.ss.length ca', .slice qo' s5.xs.length cb'], lV L5, .int .i64 c5]) (by simp [results, Tryz.results8, go_sem, r0, r1, t0, t1, t2]) rfl ?_
        first
          | exact told_end (unhide HDO) ((unhide HF _ _ _ _ _).1.below (Below.refl _ _).drew) (unhide HF _ _ _ _ _).2.drew
          | exact told_end (unhide HDO) ((unhide HF2 _ _ _ _ _).1.below (Below.refl _ _).drew) (unhide HF2 _ _ _ _ _).2.drew
          | exact told_end (unhide HDO) (unhide HF _ _ _ _ _).1 (unhide HF _ _ _ _ _).2
          | exact told_end (unhide HDO) (unhide HF2 _ _ _ _ _).1 (unhide HF2 _ _ _ _ _).2
    · rw [Bool.not_eq_true] at hx
      have HQ : Hid (R = ⟨[], [], ld0, 1⟩) := hide (by rw [← unhide HRR]; exact rs_wrong (unhide HC0) hx)
      obtain ⟨r0, r1⟩ := (unhide HT2).r.cells
      have r2 := (unhide HT2).r.free 0
      have r3 := (unhide HT2).r.free 1
      obtain ⟨t0, t1, t2⟩ := (unhide HT2).t.cells
      obtain ⟨t3, t4, t5⟩ := (unhide HT2).t.free
      have x3 : B1 ≠ B2 := (unhide HO).2.2
      have x3' : B2 ≠ B1 := Ne.symm (unhide HO).2.2
      have HF := hide (fun a b x y z => below5 (unhide HT2).below (unhide HO).1 (unhide HO).2.1 a b x y z)
      go_wp2
      exact bodyPost_ret (v := .tuple #[.agg #[.slice none 0 0, .slice none 0 0], lV ld0, .int .i64 1]) (by simp [results, Tryz.results8, go_sem, r0, r1, t0, t1, t2, ld0]) rfl (told_zero (unhide HQ) (unhide HF _ _ _ _ _))
  · have hb : (c != 0) = true := by simp [hc]
    have HQ : Hid (R = ⟨[], [], ld0, c⟩) := hide (by rw [← unhide HRR, ← unhide HC]; exact rs_bad (by rw [unhide HC]; exact hc))
    clear hc
    obtain ⟨r0, r1⟩ := (unhide HT1).r.cells
    have r2 := (unhide HT1).r.free 0
    have r3 := (unhide HT1).r.free 1
    obtain ⟨t0, t1, t2⟩ := (unhide HT1).t.cells
    obtain ⟨t3, t4, t5⟩ := (unhide HT1).t.free
    have x3 : B1 ≠ B2 := (unhide HO).2.2
    have x3' : B2 ≠ B1 := Ne.symm (unhide HO).2.2
    have HF := hide (fun a b x y z => below5 (unhide HT1).below (unhide HO).1 (unhide HO).2.1 a b x y z)
    go_wp2
    exact bodyPost_ret (v := .tuple #[.agg #[.slice none 0 0, .slice none 0 0], lV ld0, .int .i64 c]) (by simp [results, Tryz.results8, go_sem, r0, r1, t0, t1, t2, ld0]) rfl (told_zero (unhide HQ) (unhide HF _ _ _ _ _))

end Go.Proofs.YtjmianalknnekabGreatDoor

/- Contracts of spec's blocks: BlockOK, l05Encode, EncodeBlock, l05Decode, DecodeBlock, l05Of. -/
namespace Go.Proofs.YtjmianalknnekabGreatDoor
open Go.RowKit
set_option linter.unusedVariables false
set_option maxRecDepth 100000

end Go.Proofs.YtjmianalknnekabGreatDoor
