import Derived.Test.YtboolfckaagfoabRows
import Derived.Test.YtboolfckaagfoabPart1
import Derived.Test.YtboolfckaagfoabPart2
import Derived.Test.YtboolfckaagfoabPart4
import Derived.Test.YtboolfckaagfoabPart5
import Derived.Test.YtboolfckaagfoabPart6
import Derived.Test.YtboolfckaagfoabPart8
import Derived.Test.YtboolfckaagfoabPart10
import Derived.Test.YtboolfckaagfoabPart11
import Derived.WalkKit
import Derived.WalkSpells
import Derived.KernelRfl
import Derived.Lib.SmallJoins
import Derived.Deep.RegionWith
import Derived.Deep.RegionHeld3
import Derived.ProofKit
import Derived.OpenShut
import Derived.ShutString
import Derived.SliceStrings

/- The walk of laws.FnExactMovesDo. -/
namespace Go.Proofs.Ytboolfckaagfoab
open Go.RowKit
set_option linter.unusedVariables false
set_option maxRecDepth 100000

theorem ownD_ofM {w : World} {B g k : Nat} {ss : List ByteArray} {xs : List Wr} (h1 : w.ownsRow B 9 1 (.slice (some ⟨g, 0, none⟩) ss.length ss.length) ss.length (strV ss)) (h2 : w.ownsRow B 68 3 (.slice (some ⟨k, 0, none⟩) xs.length xs.length) xs.length (ioV xs)) :
    OwnD w B (some ⟨g, 0, none⟩) ss.length ss.length (some ⟨k, 0, none⟩) xs.length xs.length ss xs :=
  ⟨OwnR.of h1 (fun h0 => ⟨_, by rw [h0]⟩), OwnR.of h2 (fun h0 => ⟨_, by rw [h0]⟩)⟩
theorem dMs : (31 : Nat) ≠ 9 := by decide
theorem dMi : (31 : Nat) ≠ 68 := by decide
theorem dMm : (31 : Nat) ≠ 49 := by decide
theorem sMm : (9 : Nat) ≠ 49 := by decide
theorem iMm : (68 : Nat) ≠ 49 := by decide
theorem own_apartM {w : World} {B B' n ca m cb k size : Nat} {e : TypeId} {ao bo : Option Addr} {v : Value} {ss : List ByteArray} {xs : List Wr} {vs : List Value} (h : OwnD w B ao n ca bo m cb ss xs) (h' : OwnR w B' e size v k vs) (e1 : (9 : Nat) ≠ e) (e2 : (68 : Nat) ≠ e) : ∀ g, Own v g → ¬ OwnB ao n ca bo m cb g := by
  rintro g hg (hk | hk)
  · exact own_apart h.s h' e1 g hk hg
  · exact own_apart h.i h' e2 g hk hg
theorem eqSameM (ao bo co do_ : Option Addr) (ca cb cc cd : Nat) (ss : List ByteArray) (xs : List Wr) (w : World) (hl : ss.length ≤ maxLen) (hm : xs.length ≤ maxLen) (h1 : Ss w ao ss) (h2 : Ios w bo xs) (h3 : Ss w co ss) (h4 : Ios w do_ xs) :
    Calls Try.prog 10 #[.agg #[.slice ao ss.length ca, .slice bo xs.length cb], .agg #[.slice co ss.length cc, .slice do_ xs.length cd]] w fun e w' => e = .returned (.bool true) ∧ Below w.heap.size w w' := by
  have h := eqDisk_any ao bo co do_ ca cb cc cd ss ss xs xs w hl hm h1 h2 h3 h4
  rw [eqB_self] at h
  exact h
theorem ansMS {RS : List ByteArray} {RX : List Wr} {RC : Int} (ao bo : Option Addr) (ca cb : Nat) (ss : List ByteArray) (xs : List Wr) (h : Int) (mo : Option Addr) (mc : Nat) (ms : List Wr) (w : World) (e : mdS ss xs h ms = RS ∧ mdX ss xs h ms = RX ∧ mdC ss xs h ms = RC) (hl : ss.length ≤ 1048576) (hm : xs.length ≤ 1048576) (hn : ms.length ≤ 1048576) (h1 : Ss w ao ss) (h2 : Ios w bo xs) (h3 : Ios w mo ms) :
    Calls Try.prog 6 #[.agg #[.slice ao ss.length ca, .slice bo xs.length cb], .int .i64 h, .slice mo ms.length mc] w fun e w' => ∃ po pa qo qa, e = .returned (.tuple #[.agg #[.slice po RS.length pa, .slice qo RX.length qa], .int .i64 RC]) ∧ OwnD w' w.heap.size po RS.length pa qo RX.length qa RS RX ∧ Below w.heap.size w w' := by
  obtain ⟨rfl, rfl, rfl⟩ := e
  exact movesDo_spec ao bo ca cb ss xs h mo mc ms w hl hm hn h1 h2 h3
theorem ansMI {RS : List ByteArray} {RX : List Wr} {RC : Int} (ao bo : Option Addr) (ca cb : Nat) (ss : List ByteArray) (xs : List Wr) (h : Int) (mo : Option Addr) (mc : Nat) (ms : List Wr) (w : World) (e : mdS ss xs h ms = RS ∧ mdX ss xs h ms = RX ∧ mdC ss xs h ms = RC) (hl : ss.length ≤ 1048576) (hm : xs.length ≤ 1048576) (hn : ms.length ≤ 1048576) (h1 : Ss w ao ss) (h2 : Ios w bo xs) (h3 : Ios w mo ms) :
    Calls Try.prog 9 #[.agg #[.slice ao ss.length ca, .slice bo xs.length cb], .int .i64 h, .slice mo ms.length mc] w fun e w' => ∃ po pa qo qa, e = .returned (.tuple #[.agg #[.slice po RS.length pa, .slice qo RX.length qa], .int .i64 RC]) ∧ OwnD w' w.heap.size po RS.length pa qo RX.length qa RS RX ∧ Below w.heap.size w w' := by
  obtain ⟨rfl, rfl, rfl⟩ := e
  exact movesDo_impl ao bo ca cb ss xs h mo mc ms w hl hm hn h1 h2 h3

set_option maxHeartbeats 6400000 in
theorem lawMovesDo (ao bo : Option Addr) (ca cb : Nat) (ss : List ByteArray) (xs : List Wr) (h : Int) (mo : Option Addr) (mc : Nat) (ms : List Wr) (w : World) (hl : ss.length ≤ maxLen) (hm : xs.length ≤ maxLen) (hc : Ss w ao ss) (hd : Ios w bo xs) (hn : ms.length ≤ maxLen) (hme : Ios w mo ms) :
    Calls Try.prog 3 #[.agg #[.slice ao ss.length ca, .slice bo xs.length cb], .int .i64 h, .slice mo ms.length mc] w fun e w' => e = .returned (.bool true) ∧ Below w.heap.size w w' := by
  have HA := hide (Joins.below_alloc1 w (.cells #[.slice ao ss.length ca, .slice bo xs.length cb] 25))
  have HC := hide (hc.below (unhide HA))
  have HD := hide (hd.below (unhide HA))
  have HE := hide (hme.below (unhide HA))
  have HL := hide hl
  have HM := hide hm
  have HN := hide hn
  have HZS := hide hc.sizes
  have HZX := hide hd.sizes
  have HZM := hide hme.sizes
  obtain ⟨RS, RX, RC, HANS⟩ : ∃ RS RX RC, Hid (mdS ss xs h ms = RS ∧ mdX ss xs h ms = RX ∧ mdC ss xs h ms = RC) := ⟨_, _, _, hide ⟨rfl, rfl, rfl⟩⟩
  have hmr := md_right (h := h) (ms := ms) (unhide HZS) (unhide HZX)
  rw [(unhide HANS).1, (unhide HANS).2.1] at hmr
  obtain ⟨hz1, hz2, hRS, hRX⟩ := hmr
  have HZ1 := hide hz1
  have HZ2 := hide hz2
  clear hc hd hl hm hn hme hz1 hz2
  have HCELL : Hid (∀ w', Below (w.alloc (.cells #[.slice ao ss.length ca, .slice bo xs.length cb] 25)).heap.size (w.alloc (.cells #[.slice ao ss.length ca, .slice bo xs.length cb] 25)) w' → w'.cell? ⟨w.heap.size, 0, none⟩ = some (.slice ao ss.length ca) ∧ w'.cell? ⟨w.heap.size, 1, none⟩ = some (.slice bo xs.length cb)) :=
    hide (fun w' h => ⟨(h.cell (by simp)).trans (by simp [go_sem]), (h.cell (by simp)).trans (by simp [go_sem])⟩)
  go_enter Try.func3, Try.ntmps3
  go_wp2_with fail
  refine (szDisk_any ao bo ca cb ss xs 1048576 _ (unhide HL) (unhide HM) (unhide HC) (unhide HD) (by omega) (by omega)).mono ?_
  rintro e w1 ⟨r, rfl, hr0, hr1, hr2, hb1⟩
  have HB1 := hide hb1
  clear hb1
  by_cases hr : r < 0
  · go_wp2
    go_ret
    exact ⟨rfl, fr (unhide HA) (unhide HB1)⟩
  have hq := hr2 (by omega)
  have hls : ss.length ≤ 1048576 := by omega
  have hlx : xs.length ≤ 1048576 := by omega
  have hRSl : RS.length ≤ 1048576 := by omega
  have hRXl : RX.length ≤ 1048576 := by omega
  clear hr2 hq hRS hRX
  revert HA HC HD HE HCELL HB1
  generalize (w.alloc (.cells #[.slice ao ss.length ca, .slice bo xs.length cb] 25)) = W0
  intro HA HC HD HE HCELL HB1
  go_wp2_with fail
  refine (szMoveS_any mo mc ms r _ (unhide HN) ((unhide HE).below (unhide HB1)) (by omega) (by omega)).mono ?_
  rintro e w1b ⟨r', rfl, hr0', hr1', hr2', hb⟩
  have HB1b := hide (fr (unhide HB1) hb)
  clear hb
  by_cases hr' : r' < 0
  · go_wp2
    go_ret
    exact ⟨rfl, fr (unhide HA) (unhide HB1b)⟩
  have hlm : ms.length ≤ 1048576 := by have := hr2' (by omega); omega
  clear hr2'
  obtain ⟨hc0, hc1⟩ := unhide HCELL _ (unhide HB1b)
  -- the model's answer
  go_wp2_with fail
  refine (toDisk_any ao bo ca cb ss xs _ hls hlx ((unhide HC).below (unhide HB1b)) ((unhide HD).below (unhide HB1b))).mono ?_
  rintro e w2 ⟨g, k, rfl, ho, hp, hb2⟩
  have HS2 := hide (ownS ho (unhide HZS))
  have HX2 := hide (ownI hp (unhide HZX))
  have HB2 := hide (fr (unhide HB1b) hb2)
  clear ho hp hb2 hc0 hc1
  go_wp2_with fail
  refine (toMoveS_any mo mc ms _ hlm ((unhide HE).below (unhide HB2))).mono ?_
  rintro e w3 ⟨gm, rfl, hom, hb3⟩
  have HM3 := hide (ownI hom (unhide HZM))
  have HS3 := hide ((unhide HS2).below hb3)
  have HX3 := hide ((unhide HX2).below hb3)
  have HB3 := hide (fr (unhide HB2) hb3)
  clear hom hb3
  go_wp2_with fail
  refine (ansMS _ _ _ _ ss xs h _ _ ms _ (unhide HANS) hls hlx hlm (unhide HS3) (unhide HX3) (unhide HM3)).mono ?_
  rintro e w4 ⟨wo, wa, vo, va, rfl, ho4, hb4⟩
  have HA4 := hide (Joins.below_alloc1 w4 (.cells #[.slice wo RS.length wa, .slice vo RX.length va] 31))
  have HY4 := hide (VarD.new w4 (.slice wo RS.length wa) (.slice vo RX.length va))
  have HW4 := hide (ho4.below (unhide HA4))
  have HB4 := hide (fr (fr (unhide HB3) hb4) (unhide HA4))
  clear ho4 hb4
  go_upto_region 9 with fail
  revert HA4 HY4 HW4 HB4
  generalize (w4.alloc (.cells #[.slice wo RS.length wa, .slice vo RX.length va] 31)) = T8
  intro HA4 HY4 HW4 HB4
  have HCW : Hid (∀ j, OwnB wo RS.length wa vo RX.length va j → j < T8.heap.size) := hide (fun j hj => ((unhide HW4).ge j hj).2)
  have HT8 := hide (unhide HB4).size
  obtain ⟨hc0, hc1⟩ := unhide HCELL _ (unhide HB4)
  generalize w4.heap.size = Y at *
  -- x0
  go_wp2_with fail
  refine (toDisk_any ao bo ca cb ss xs _ hls hlx ((unhide HC).below (unhide HB4)) ((unhide HD).below (unhide HB4))).mono ?_
  rintro e w5 ⟨g5, k5, rfl, ho, hp, hb⟩
  have HA5 := hide (Joins.below_alloc1 w5 (.cells #[.slice (some ⟨g5, 0, none⟩) ss.length ss.length, .slice (some ⟨k5, 0, none⟩) xs.length xs.length] 31))
  have HV5 := hide (VarD.new w5 (.slice (some ⟨g5, 0, none⟩) ss.length ss.length) (.slice (some ⟨k5, 0, none⟩) xs.length xs.length))
  have HO5 := hide ((ownD_ofM ho hp).below (unhide HA5))
  have HY5 := hide ((unhide HY4).below (fr hb (unhide HA5)))
  have HF5 := hide (fr hb (unhide HA5))
  have HW5 := hide ((unhide HW4).below (fr hb (unhide HA5)))
  have HB5 := hide (fr (fr (unhide HB4) hb) (unhide HA5))
  clear ho hp hb hc0 hc1
  go_upto_region 10 with fail
  revert HA5 HV5 HO5 HY5 HF5 HW5 HB5
  generalize (w5.alloc (.cells #[.slice (some ⟨g5, 0, none⟩) ss.length ss.length, .slice (some ⟨k5, 0, none⟩) xs.length xs.length] 31)) = T10
  intro HA5 HV5 HO5 HY5 HF5 HW5 HB5
  generalize w5.heap.size = X at *
  -- x2
  go_wp2_with fail
  refine (toMoveS_any mo mc ms _ hlm ((unhide HE).below (unhide HB5))).mono ?_
  rintro e w6 ⟨g6, rfl, hom, hb⟩
  have HX6 : Hid (OwnR w6 T10.heap.size 49 3 (.slice (some ⟨g6, 0, none⟩) ms.length ms.length) ms.length (ioV ms)) := hide (OwnR.of hom (fun h0 => ⟨_, by rw [h0]⟩))
  have HV6 := hide ((unhide HV5).below hb)
  have HO6 := hide ((unhide HO5).below hb)
  have HY6 := hide ((unhide HY5).below hb)
  have HW6 := hide ((unhide HW5).below hb)
  have HB6 := hide (fr (unhide HB5) hb)
  have HTT : Hid (T8.heap.size ≤ w6.heap.size) := hide (Nat.le_trans (unhide HF5).size hb.size)
  clear hom hb
  have HCX : Hid (∀ j, OwnB (some ⟨g5, 0, none⟩) ss.length ss.length (some ⟨k5, 0, none⟩) xs.length xs.length j → j < w6.heap.size) := hide (fun j hj => ((unhide HO6).ge j hj).2)
  have HT6 := hide (unhide HB6).size
  obtain ⟨hx0, hx1⟩ := (unhide HV6).cells
  -- the program's answer
  go_wp2_with fail
  refine (ansMI _ _ _ _ ss xs h _ _ ms _ (unhide HANS) hls hlx hlm ((unhide HO6).ss (unhide HZS)) ((unhide HO6).ios (unhide HZX)) (ownMv (unhide HX6) (unhide HZM))).mono ?_
  rintro e w7 ⟨po, pa, qo, qa, rfl, ho7, hb7⟩
  have HA7 := hide (Joins.below_alloc1 w7 (.cells #[.slice po RS.length pa, .slice qo RX.length qa] 31))
  have HG7 := hide (VarD.new w7 (.slice po RS.length pa) (.slice qo RX.length qa))
  have HH7 := hide (ho7.below (unhide HA7))
  have HF7 := hide (fr hb7 (unhide HA7))
  have HX7 := hide ((unhide HX6).below (unhide HF7))
  have HV7 := hide ((unhide HV6).below (unhide HF7))
  have HO7 := hide ((unhide HO6).below (unhide HF7))
  have HY7 := hide ((unhide HY6).below (unhide HF7))
  have HW7 := hide ((unhide HW6).below (unhide HF7))
  have HB7 := hide (fr (unhide HB6) (unhide HF7))
  clear ho7 hb7 hx0 hx1
  go_upto_region 12 with fail
  revert HA7 HG7 HH7 HF7 HX7 HV7 HO7 HY7 HW7 HB7
  generalize (w7.alloc (.cells #[.slice po RS.length pa, .slice qo RX.length qa] 31)) = T12
  intro HA7 HG7 HH7 HF7 HX7 HV7 HO7 HY7 HW7 HB7
  generalize w7.heap.size = G at *
  obtain ⟨hg0, hg1⟩ := (unhide HG7).cells
  obtain ⟨hy0, hy1⟩ := (unhide HY7).cells
  have hRSm : RS.length ≤ maxLen := by unfold maxLen; omega
  have hRXm : RX.length ≤ maxLen := by unfold maxLen; omega
  go_wp2_with fail
  refine (eqSameM _ _ _ _ _ _ _ _ RS RX _ hRSm hRXm ((unhide HH7).ss (unhide HZ1)) ((unhide HH7).ios (unhide HZ2)) ((unhide HW7).ss (unhide HZ1)) ((unhide HW7).ios (unhide HZ2))).mono ?_
  rintro e w8 ⟨rfl, hb⟩
  have HG8 := hide ((unhide HG7).below hb)
  have HH8 := hide ((unhide HH7).below hb)
  have HX8 := hide ((unhide HX7).below hb)
  have HV8 := hide ((unhide HV7).below hb)
  have HO8 := hide ((unhide HO7).below hb)
  have HY8 := hide ((unhide HY7).below hb)
  have HW8 := hide ((unhide HW7).below hb)
  have HB8 := hide (fr (unhide HB7) hb)
  clear hb hg0 hg1 hy0 hy1
  obtain ⟨hc0, hc1⟩ := unhide HCELL _ (unhide HB8)
  obtain ⟨hx0, hx1⟩ := (unhide HV8).cells
  have he := eqB_self ss xs
  go_wp2_with fail
  go_region_held3 (fun w' => w'.cell? ⟨w.heap.size, 0, none⟩ = some (.slice ao ss.length ca) ∧ w'.cell? ⟨w.heap.size, 1, none⟩ = some (.slice bo xs.length cb) ∧ w'.cell? ⟨X, 0, none⟩ = some (.slice (some ⟨g5, 0, none⟩) ss.length ss.length) ∧ w'.cell? ⟨X, 1, none⟩ = some (.slice (some ⟨k5, 0, none⟩) xs.length xs.length)) (go_keep)
    (first
      | (go_at_call 7; refine (toDisk_any ao bo ca cb ss xs _ hls hlx (by exact ((unhide HC).below (unhide HB8)).below (Below.refl _ _).drew) (by exact ((unhide HD).below (unhide HB8)).below (Below.refl _ _).drew)).mono ?_; rintro e w9 ⟨g9, k9, rfl, ho9, hp9, hb9⟩; have HBx := hide (fr (Below.refl _ w8).drew hb9); have HSx := hide (ownS ho9 (unhide HZS)); have HXx := hide (ownI hp9 (unhide HZX)); obtain ⟨y0, y1⟩ := ((unhide HV8).below (unhide HBx)).cells; obtain ⟨y2, y3⟩ := unhide HCELL _ (fr (unhide HB8) (unhide HBx)); clear ho9 hp9 hb9)
      | (go_at_call 10; refine (eqDisk_any _ _ _ _ _ _ _ _ ss ss xs xs _ (unhide HL) (unhide HM) (by exact ((unhide HO8).ss (unhide HZS)).below (unhide HBx)) (by exact ((unhide HO8).ios (unhide HZX)).below (unhide HBx)) (unhide HSx) (unhide HXx)).mono ?_; rintro e w10 ⟨rfl, hb10⟩; have HBy := hide (fr (unhide HBx) hb10); obtain ⟨z0, z1⟩ := ((unhide HV8).below (unhide HBy)).cells; obtain ⟨z2, z3⟩ := unhide HCELL _ (fr (unhide HB8) (unhide HBy)); clear hb10))
  have HG10 := hide ((unhide HG8).below (unhide HBy))
  have HH10 := hide ((unhide HH8).below (unhide HBy))
  have HX10 := hide ((unhide HX8).below (unhide HBy))
  have HV10 := hide ((unhide HV8).below (unhide HBy))
  have HO10 := hide ((unhide HO8).below (unhide HBy))
  have HY10 := hide ((unhide HY8).below (unhide HBy))
  have HW10 := hide ((unhide HW8).below (unhide HBy))
  have HB10 := hide (fr (unhide HB8) (unhide HBy))
  clear hc0 hc1 hx0 hx1 y0 y1 y2 y3 z0 z1 z2 z3 HBx HBy HSx HXx he
  -- the list is as it was
  go_wp2_with fail
  refine (toMoveS_any mo mc ms _ hlm ((unhide HE).below (unhide HB10))).mono ?_
  rintro e w11 ⟨g11, rfl, hom, hb⟩
  have HM11 := hide (ownI hom (unhide HZM))
  have HG11 := hide ((unhide HG10).below hb)
  have HH11 := hide ((unhide HH10).below hb)
  have HX11 := hide ((unhide HX10).below hb)
  have HV11 := hide ((unhide HV10).below hb)
  have HO11 := hide ((unhide HO10).below hb)
  have HY11 := hide ((unhide HY10).below hb)
  have HW11 := hide ((unhide HW10).below hb)
  have HB11 := hide (fr (unhide HB10) hb)
  clear hom hb
  have HEQ : Hid (eqWB ms ms = true) := hide (@decide_eq_true (ms = ms) (decWrs ms ms) rfl)
  go_wp2_with fail
  refine (eqMoveS_any _ _ _ _ ms ms _ (unhide HN) (ownMv (unhide HX11) (unhide HZM)) (unhide HM11)).mono ?_
  rintro e w12 ⟨rfl, hb⟩
  rw [unhide HEQ]
  have HG12 := hide ((unhide HG11).below hb)
  have HH12 := hide ((unhide HH11).below hb)
  have HX12 := hide ((unhide HX11).below hb)
  have HV12 := hide ((unhide HV11).below hb)
  have HO12 := hide ((unhide HO11).below hb)
  have HY12 := hide ((unhide HY11).below hb)
  have HW12 := hide ((unhide HW11).below hb)
  have HB12 := hide (fr (unhide HB11) hb)
  clear hb
  obtain ⟨hx0, hx1⟩ := (unhide HV12).cells
  -- the arguments are marked
  go_wp2_with fail
  refine (markDisk_one _ _ ss.length ss.length xs.length xs.length ss xs T8.heap.size _ (by omega) (by omega) (unhide HO12)).mono ?_
  rintro e w13 ⟨rfl, _, hk⟩
  have HG13 := hide ((unhide HG12).keep hk ((unhide HO12).other (unhide HG12) dMs dMi))
  have HY13 := hide ((unhide HY12).keep hk ((unhide HO12).other (unhide HY12) dMs dMi))
  have HH13 := hide ((unhide HH12).keep hk (fun j hj hx => by have h1 := unhide HCX j hx; have h2 := ((unhide HH12).ge j hj).1; omega))
  have HW13 := hide ((unhide HW12).keep hk (fun j hj hx => by have h1 := unhide HCW j hj; have h2 := ((unhide HO12).ge j hx).1; omega))
  have HX13 := hide ((unhide HX12).keep hk (fun j hj hx => own_apartM (unhide HO12) (unhide HX12) sMm iMm j hj hx))
  have HB13 := hide (belowKp (unhide HB12) hk (fun j hj => Nat.le_trans (unhide HT8) ((unhide HO12).ge j hj).1))
  clear hk hx0 hx1
  go_wp2_with fail
  refine (markMoveS_any _ ms.length (1 + ss.length + 3 * xs.length) (ioV ms) T10.heap.size _ (by omega) (by omega) (by omega) (unhide HX13)).mono ?_
  rintro e w14 ⟨rfl, _, hk⟩
  have HG14 := hide ((unhide HG13).keep hk ((unhide HX13).other (unhide HG13) dMm))
  have HY14 := hide ((unhide HY13).keep hk ((unhide HX13).other (unhide HY13) dMm))
  have HH14 := hide ((unhide HH13).keep hk (fun j hj hx => own_apartM (unhide HH13) (unhide HX13) sMm iMm j hx hj))
  have HW14 := hide ((unhide HW13).keep hk (fun j hj hx => own_apartM (unhide HW13) (unhide HX13) sMm iMm j hx hj))
  have HT10 : Hid (W0.heap.size ≤ T10.heap.size) := hide (unhide HB5).size
  have HB14 := hide (belowKp (unhide HB13) hk (fun j hj => Nat.le_trans (unhide HT10) ((unhide HX13).ge j hj).1))
  clear hk
  have hk1 : ¬ (((1 + ss.length + 3 * xs.length + 3 * ms.length : Nat) : Int) < 0) := by omega
  obtain ⟨hg0, hg1⟩ := (unhide HG14).cells
  obtain ⟨hy0, hy1⟩ := (unhide HY14).cells
  go_wp2_with fail
  refine (eqSameM _ _ _ _ _ _ _ _ RS RX _ hRSm hRXm ((unhide HH14).ss (unhide HZ1)) ((unhide HH14).ios (unhide HZ2)) ((unhide HW14).ss (unhide HZ1)) ((unhide HW14).ios (unhide HZ2))).mono ?_
  rintro e w15 ⟨rfl, hb⟩
  have HG15 := hide ((unhide HG14).below hb)
  have HH15 := hide ((unhide HH14).below hb)
  have HY15 := hide ((unhide HY14).below hb)
  have HW15 := hide ((unhide HW14).below hb)
  have HB15 := hide (fr (unhide HB14) hb)
  clear hb hg0 hg1 hy0 hy1
  obtain ⟨hg0, hg1⟩ := (unhide HG15).cells
  -- the answer is marked
  go_wp2_with fail
  refine (markDisk_one _ _ RS.length _ RX.length _ RS RX w6.heap.size _ (by omega) (by omega) (unhide HH15)).mono ?_
  rintro e w16 ⟨rfl, hoh, hk⟩
  have HH16 := hide hoh
  have HG16 := hide ((unhide HG15).keep hk ((unhide HH15).other (unhide HG15) dMs dMi))
  have HY16 := hide ((unhide HY15).keep hk ((unhide HH15).other (unhide HY15) dMs dMi))
  have HW16 := hide ((unhide HW15).keep hk (fun j hj hx => by have h1 := unhide HCW j hj; have h2 := ((unhide HH15).ge j hx).1; have h3 := unhide HTT; omega))
  have HB16 := hide (belowKp (unhide HB15) hk (fun j hj => Nat.le_trans (unhide HT6) ((unhide HH15).ge j hj).1))
  clear hoh hk hg0 hg1
  obtain ⟨hg0, hg1⟩ := (unhide HG16).cells
  go_wp2_with fail
  refine (heldDisk_one _ _ RS.length _ RX.length _ w6.heap.size _ (by omega) (by omega) (unhide HH16)).mono ?_
  rintro e w17 ⟨rfl, hb⟩
  have HH17 := hide ((unhide HH16).below hb)
  have HG17 := hide ((unhide HG16).below hb)
  have HY17 := hide ((unhide HY16).below hb)
  have HW17 := hide ((unhide HW16).below hb)
  have HB17 := hide (fr (unhide HB16) hb)
  clear hb hg0 hg1
  have hk3 : ¬ (((1 + RS.length + 3 * RX.length : Nat) : Int) < 0) := by omega
  obtain ⟨hc0, hc1⟩ := unhide HCELL _ (unhide HB17)
  -- the program again
  go_wp2_with fail
  refine (toDisk_any ao bo ca cb ss xs _ hls hlx ((unhide HC).below (unhide HB17)) ((unhide HD).below (unhide HB17))).mono ?_
  rintro e w18 ⟨g18, k18, rfl, ho, hp, hb⟩
  have HS18 := hide (ownS ho (unhide HZS))
  have HX18 := hide (ownI hp (unhide HZX))
  have HH18 := hide ((unhide HH17).below hb)
  have HG18 := hide ((unhide HG17).below hb)
  have HY18 := hide ((unhide HY17).below hb)
  have HW18 := hide ((unhide HW17).below hb)
  have HB18 := hide (fr (unhide HB17) hb)
  clear ho hp hb hc0 hc1
  go_wp2_with fail
  refine (toMoveS_any mo mc ms _ hlm ((unhide HE).below (unhide HB18))).mono ?_
  rintro e w19 ⟨g19, rfl, hom, hb⟩
  have HM19 := hide (ownI hom (unhide HZM))
  have HS19 := hide ((unhide HS18).below hb)
  have HX19 := hide ((unhide HX18).below hb)
  have HH19 := hide ((unhide HH18).below hb)
  have HG19 := hide ((unhide HG18).below hb)
  have HY19 := hide ((unhide HY18).below hb)
  have HW19 := hide ((unhide HW18).below hb)
  have HB19 := hide (fr (unhide HB18) hb)
  clear hom hb
  go_wp2_with fail
  refine (ansMI _ _ _ _ ss xs h _ _ ms _ (unhide HANS) hls hlx hlm (unhide HS19) (unhide HX19) (unhide HM19)).mono ?_
  rintro e w20 ⟨ro, ra, so, sa, rfl, ho20, hb20⟩
  have HA20 := hide (Joins.below_alloc1 w20 (.cells #[.slice ro RS.length ra, .slice so RX.length sa] 31))
  have HK20 := hide (VarD.new w20 (.slice ro RS.length ra) (.slice so RX.length sa))
  have HI20 := hide (ho20.below (unhide HA20))
  have HF20 := hide (fr hb20 (unhide HA20))
  have HH20 := hide ((unhide HH19).below (unhide HF20))
  have HG20 := hide ((unhide HG19).below (unhide HF20))
  have HY20 := hide ((unhide HY19).below (unhide HF20))
  have HW20 := hide ((unhide HW19).below (unhide HF20))
  have HB20 := hide (fr (unhide HB19) (unhide HF20))
  clear ho20 hb20
  go_upto_region 32 with fail
  revert HA20 HK20 HI20 HF20 HH20 HG20 HY20 HW20 HB20
  generalize (w20.alloc (.cells #[.slice ro RS.length ra, .slice so RX.length sa] 31)) = T17
  intro HA20 HK20 HI20 HF20 HH20 HG20 HY20 HW20 HB20
  generalize w20.heap.size = K at *
  obtain ⟨hk0, hk1'⟩ := (unhide HK20).cells
  obtain ⟨hy0, hy1⟩ := (unhide HY20).cells
  go_wp2_with fail
  refine (eqSameM _ _ _ _ _ _ _ _ RS RX _ hRSm hRXm ((unhide HI20).ss (unhide HZ1)) ((unhide HI20).ios (unhide HZ2)) ((unhide HW20).ss (unhide HZ1)) ((unhide HW20).ios (unhide HZ2))).mono ?_
  rintro e w21 ⟨rfl, hb⟩
  have HH21 := hide ((unhide HH20).below hb)
  have HG21 := hide ((unhide HG20).below hb)
  have HB21 := hide (fr (unhide HB20) hb)
  clear hb hk0 hk1' hy0 hy1
  obtain ⟨hg0, hg1⟩ := (unhide HG21).cells
  go_wp2_with fail
  refine (heldDisk_one _ _ RS.length _ RX.length _ w6.heap.size _ (by omega) (by omega) (unhide HH21)).mono ?_
  rintro e w22 ⟨rfl, hb⟩
  have HB22 := hide (fr (unhide HA) (fr (unhide HB21) hb))
  clear hb hg0 hg1
  go_wp2
  go_ret
  exact ⟨rfl, unhide HB22⟩

end Go.Proofs.Ytboolfckaagfoab

/- An update that came in, opened; a list of updates; a list of moves. -/
namespace Go.Proofs.Ytboolfckaagfoab
open Go.ChangeShapes Go.WideShapes Go.ChangeAt Go.RowKit Go.Deep
set_option linter.unusedVariables false
set_option maxRecDepth 100000
section
variable {H : Type} {enc : TypeId × Value → H} {P : Program} {w : World} {base : Nat} {spare : Nat → Bool} {held : Bool}
theorem cells2 {a : Addr} {cs : List Value} (h : w.cells? base a 2 = some cs) : ∃ c0 c1, cs = [c0, c1] ∧ w.cell? (a.add 0) = some c0 ∧ w.cell? (a.add 1) = some c1 := by
  unfold World.cells? at h
  split at h
  · simp only [List.range, List.range.loop, List.mapM_cons, List.mapM_nil, Option.bind_eq_bind, Option.pure_def, Option.bind_eq_some_iff, Option.some.injEq] at h
    obtain ⟨c0, h0, r0, ⟨c1, h1, r1, hr1, rfl⟩, rfl⟩ := h
    subst hr1
    exact ⟨c0, c1, rfl, h0, h1⟩
  · cases h
theorem open_Ups {t e ti ts : TypeId} {f0 f1 : Field} {fuel : Nat} {v : Value} {x : DataW H × List MemPlace} (ht : P.underlying t = some (.slice e)) (he : P.underlying e = some (.struct #[f0, f1]))
    (hi : P.underlying ti = some (.int .i64)) (hs : P.underlying ts = some .string) (e0 : f0.type = ti ∧ f0.offset = 0) (e1 : f1.type = ts ∧ f1.offset = 1)
    (ci : P.cellsOf ti = 1) (cs : P.cellsOf ts = 1) (ce : P.cellsOf e = 2)
    (h : DataW.trod enc P w base spare held fuel t [v] = some x) : ∃ ao cap xs, v = .slice ao xs.length cap ∧ xs.length ≤ maxLen ∧ Ups w ao xs := by
  rcases open_slice ht h with ⟨hcs, _⟩ | ⟨a, len, cap, m, n, D, Pl, hcs, _, hl, hmx, hm, _, hel⟩
  · simp only [List.cons.injEq, and_true] at hcs
    subst hcs
    exact ⟨none, 0, [], rfl, Nat.zero_le _, fun i hi => absurd hi (Nat.not_lt_zero _)⟩
  · simp only [List.cons.injEq, and_true] at hcs
    subst hcs
    have hlm : len ≤ m := by rw [hm]; split <;> omega
    have each : ∀ i, i < len → ∃ y : Up, w.cell? ((a.add (i * 2)).add 0) = some (.int .i64 y.at_) ∧ w.cell? ((a.add (i * 2)).add 1) = some (.string y.data) ∧ y.data.size ≤ maxLen := by
      intro i hi'
      obtain ⟨cs', hc, hd⟩ := hel i (by omega)
      rw [ce] at hc
      obtain ⟨c0, c1, rfl, k0, k1⟩ := cells2 hc
      obtain ⟨y0, y1, n', _, _, t0, t1⟩ := trod_struct2 he hd
      rw [e0.1, e0.2, ci] at t0
      rw [e1.1, e1.2, cs] at t1
      obtain ⟨z0, q0, _⟩ := DataW.trod_int hi t0
      obtain ⟨z1, q1, _, hz⟩ := DataW.trod_string hs t1
      simp at q0 q1
      subst q0 q1
      exact ⟨⟨z0, z1⟩, k0, k1, hz⟩
    haveI : Inhabited Up := ⟨up0⟩
    obtain ⟨f, hf⟩ := choose_lt (α := Up) each
    have htl : ((List.range len).map f).length = len := by simp
    refine ⟨some a, cap, (List.range len).map f, by rw [htl], by omega, fun i hi' => ?_⟩
    have hi2 : i < len := by omega
    have h0 : a.spot = none := by
      obtain ⟨g0, _⟩ := hf 0 (by omega)
      have := World.cell?_spot g0
      simpa [Addr.add] using this
    obtain ⟨g0, g1, gz⟩ := hf i hi2
    have hg : ((List.range len).map f)[i] = f i := by simp
    have hsp : (a.add (i * 2)).spot = none := by rw [add_form h0]
    rw [add_form hsp, add_form h0] at g0 g1
    refine ⟨a.block, a.off, ?_, ?_, ?_, ?_⟩
    · cases a; simp_all
    · rw [hg]; exact g0
    · rw [hg]; exact g1
    · rw [hg]; exact gz
end
theorem cMv : Try.prog.cellsOf 46 = 3 := by kernel_rfl
theorem open_moves {H : Type} {enc : TypeId × Value → H} {w : World} {base b0 : Nat} {r : Reach} {spare : Nat → Bool} {held : Bool} {v : Value} {d : DataW H} {p : List MemPlace}
    (hv : Value.okWide Try.prog w r b0 26 v) (h : DataW.Trod enc Try.prog w base spare held 26 v d p) : ∃ ao ca xs, v = .slice ao xs.length ca ∧ xs.length ≤ maxLen ∧ Ios w ao xs := by
  obtain ⟨a, l, c, rfl⟩ := okWide_slice Try.underlying26 hv
  obtain ⟨fuel, hf⟩ := h
  exact open_Ios Try.underlying26 Try.underlying46 Try.underlying3 Try.underlying9 ⟨rfl, rfl⟩ ⟨rfl, rfl⟩ ⟨rfl, rfl⟩ cInt cStr cMv (by simpa [Value.cells] using hf)
end Go.Proofs.Ytboolfckaagfoab
