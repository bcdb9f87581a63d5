import Derived.Test.YtbmkdbccdnbbjacRows
import Derived.Test.YtbmkdbccdnbbjacPart1
import Derived.Test.YtbmkdbccdnbbjacPart2
import Derived.Test.YtbmkdbccdnbbjacPart3
import Derived.WalkKit
import Derived.WalkSpells
import Derived.KernelRfl
import Derived.Lib.SmallJoins
import Derived.Deep.RegionHeld3
import Derived.Deep.RegionWith
import Derived.BigQuiet
import Derived.Deep.QuietTactic
import Derived.LoopN
import Derived.WalkLawsBesides
import Derived.Laws.StructEq
import Derived.Laws.CopyRow
import Derived.Laws.CopyOwn
import Derived.Deep.Quiet
import Derived.Maps.Own
import Derived.Maps.OwnOps
import Derived.Maps.OwnSet
import Derived.Maps.RangeWalk
import Derived.Maps.Views
import Derived.Lib.ConvBytes

namespace Go.Proofs.Ytbmkdbccdnbbjac
open Go.RowKit
set_option linter.unusedVariables false
set_option maxRecDepth 100000

structure LqJWorldOK (Wq : World) (AX AA : Value) (m : Wld) (d : Nat → Bool) (w : World) (s22 s23 s24 s25 s26 : Value) : Prop where
  bw : Below Wq.heap.size Wq w
  p2 : d 2 = true → ∃ a1 ts, s24 = wlV a1 m ∧ OwnWl w Wq.heap.size a1 m ts
  f0 : d 0 = true → s22 = AX
  f1 : d 1 = true → s23 = AA
  f3 : d 3 = true → s25 = .bool true
  f4 : d 4 = true → s26 = .bool false

theorem LqJWorldOK.s0 {Wq : World} {AX AA : Value} {m : Wld} {d : Nat → Bool} {w : World} {s22 s23 s24 s25 s26 v : Value} (I : LqJWorldOK Wq AX AA m d w s22 s23 s24 s25 s26) (hd : d 0 = false) (hv : v = AX) : LqJWorldOK Wq AX AA m (updD d 0) w v s23 s24 s25 s26 where
  bw := I.bw
  p2 := fun h => I.p2 (upd_ne (by decide) h)
  f0 := fun _ => hv
  f1 := fun h => I.f1 (upd_ne (by decide) h)
  f3 := fun h => I.f3 (upd_ne (by decide) h)
  f4 := fun h => I.f4 (upd_ne (by decide) h)

theorem LqJWorldOK.s1 {Wq : World} {AX AA : Value} {m : Wld} {d : Nat → Bool} {w : World} {s22 s23 s24 s25 s26 v : Value} (I : LqJWorldOK Wq AX AA m d w s22 s23 s24 s25 s26) (hd : d 1 = false) (hv : v = AA) : LqJWorldOK Wq AX AA m (updD d 1) w s22 v s24 s25 s26 where
  bw := I.bw
  p2 := fun h => I.p2 (upd_ne (by decide) h)
  f0 := fun h => I.f0 (upd_ne (by decide) h)
  f1 := fun _ => hv
  f3 := fun h => I.f3 (upd_ne (by decide) h)
  f4 := fun h => I.f4 (upd_ne (by decide) h)

theorem LqJWorldOK.s2 {Wq : World} {AX AA : Value} {m : Wld} {d : Nat → Bool} {w w2 : World} {s22 s23 s24 s25 s26 v : Value} (I : LqJWorldOK Wq AX AA m d w s22 s23 s24 s25 s26) (hd : d 2 = false) (hb : Below w.heap.size w w2) {a1 : Wl4} {ts : List Value} (hv : v = wlV a1 m) (ho : OwnWl w2 Wq.heap.size a1 m ts) : LqJWorldOK Wq AX AA m (updD d 2) w2 s22 s23 v s25 s26 where
  bw := fr I.bw hb
  p2 := fun _ => ⟨a1, ts, hv, ho⟩
  f0 := fun h => I.f0 (upd_ne (by decide) h)
  f1 := fun h => I.f1 (upd_ne (by decide) h)
  f3 := fun h => I.f3 (upd_ne (by decide) h)
  f4 := fun h => I.f4 (upd_ne (by decide) h)

theorem LqJWorldOK.s3 {Wq : World} {AX AA : Value} {m : Wld} {d : Nat → Bool} {w : World} {s22 s23 s24 s25 s26 v : Value} (I : LqJWorldOK Wq AX AA m d w s22 s23 s24 s25 s26) (hd : d 3 = false) (hv : v = .bool true) : LqJWorldOK Wq AX AA m (updD d 3) w s22 s23 s24 v s26 where
  bw := I.bw
  p2 := fun h => I.p2 (upd_ne (by decide) h)
  f0 := fun h => I.f0 (upd_ne (by decide) h)
  f1 := fun h => I.f1 (upd_ne (by decide) h)
  f3 := fun _ => hv
  f4 := fun h => I.f4 (upd_ne (by decide) h)

theorem LqJWorldOK.s4 {Wq : World} {AX AA : Value} {m : Wld} {d : Nat → Bool} {w : World} {s22 s23 s24 s25 s26 v : Value} (I : LqJWorldOK Wq AX AA m d w s22 s23 s24 s25 s26) (hd : d 4 = false) (hv : v = .bool false) : LqJWorldOK Wq AX AA m (updD d 4) w s22 s23 s24 s25 v where
  bw := I.bw
  p2 := fun h => I.p2 (upd_ne (by decide) h)
  f0 := fun h => I.f0 (upd_ne (by decide) h)
  f1 := fun h => I.f1 (upd_ne (by decide) h)
  f3 := fun h => I.f3 (upd_ne (by decide) h)
  f4 := fun _ => hv

theorem LqJWorldOK.grow {Wq : World} {AX AA : Value} {m : Wld} {d : Nat → Bool} {w w2 : World} {s22 s23 s24 s25 s26 : Value} (I : LqJWorldOK Wq AX AA m d w s22 s23 s24 s25 s26) (hb : Below w.heap.size w w2) : LqJWorldOK Wq AX AA m d w2 s22 s23 s24 s25 s26 := ⟨fr I.bw hb, fun h => (I.p2 h).imp fun a1 h1 => h1.imp fun ts h2 => ⟨h2.1, h2.2.below hb⟩, I.f0, I.f1, I.f3, I.f4⟩

abbrev lqFrWorldOK (t0 t1 t2 t3 t4 t5 t6 t7 t8 t9 t10 t11 t12 t13 t14 t15 t16 t17 t18 t19 t20 t21 s22 s23 s24 s25 s26  : Value) : Act := ⟨#[t0, t1, t2, t3, t4, t5, t6, t7, t8, t9, t10, t11, t12, t13, t14, t15, t16, t17, t18, t19, t20, t21, s22, s23, s24, s25, s26], []⟩
theorem lqFrWorldOK_region {P : Program} {id : Nat} {Q : Exit → Act → World → Prop} {l : List Oper} {t0 t1 t2 t3 t4 t5 t6 t7 t8 t9 t10 t11 t12 t13 t14 t15 t16 t17 t18 t19 t20 t21 s22 s23 s24 s25 s26  : Value} {W : World} (J : (Nat → Bool) → World → Value → Value → Value → Value → Value →  Prop) (hm : P.follows .mixedOrders = true) (hl : linB l = true)
    (hg : ∀ (i : Nat) (o : Oper), l[i]? = some o → o.guard = none) (h0 : J (fun _ => false) { W with drawn := W.drawn + 1 } s22 s23 s24 s25 s26)
    (hs : ∀ (d : Nat → Bool) (w : World) (i : Nat) (o : Oper) (r22 r23 r24 r25 r26 : Value), Closed l d → J d w r22 r23 r24 r25 r26 → l[i]? = some o → d i = false → (∀ e ∈ o.after, Region.binds .any e = true → d e.on = true) → ∀ K : Act → World → Prop, (∀ (w' : World) (q22 q23 q24 q25 q26 : Value), J (updD d i) w' q22 q23 q24 q25 q26 → K (lqFrWorldOK t0 t1 t2 t3 t4 t5 t6 t7 t8 t9 t10 t11 t12 t13 t14 t15 t16 t17 t18 t19 t20 t21 q22 q23 q24 q25 q26 ) w') → o.wp P (lqFrWorldOK t0 t1 t2 t3 t4 t5 t6 t7 t8 t9 t10 t11 t12 t13 t14 t15 t16 t17 t18 t19 t20 t21 r22 r23 r24 r25 r26 ) w K Q)
    (he : ∀ (d : Nat → Bool) (w : World) (r22 r23 r24 r25 r26 : Value), J d w r22 r23 r24 r25 r26 → (∀ i, i < l.length → d i = true) → Q .normal (lqFrWorldOK t0 t1 t2 t3 t4 t5 t6 t7 t8 t9 t10 t11 t12 t13 t14 t15 t16 t17 t18 t19 t20 t21 r22 r23 r24 r25 r26 ) w) : (Code.region id l.toArray true).wp P Q (lqFrWorldOK t0 t1 t2 t3 t4 t5 t6 t7 t8 t9 t10 t11 t12 t13 t14 t15 t16 t17 t18 t19 t20 t21 s22 s23 s24 s25 s26 ) W := by
  refine wp_region_inv2 (fun d f w => ∃ r22 r23 r24 r25 r26, f = lqFrWorldOK t0 t1 t2 t3 t4 t5 t6 t7 t8 t9 t10 t11 t12 t13 t14 t15 t16 t17 t18 t19 t20 t21 r22 r23 r24 r25 r26  ∧ J d w r22 r23 r24 r25 r26) hm hl hg ⟨s22, s23, s24, s25, s26, rfl, h0⟩ ?_ ?_
  · intro d f w i o hc hI ho hd hp K hK
    obtain ⟨r22, r23, r24, r25, r26, rfl, hJ⟩ := hI
    exact hs d w i o r22 r23 r24 r25 r26 hc hJ ho hd hp K (fun w' q22 q23 q24 q25 q26 hJ' => hK _ _ ⟨q22, q23, q24, q25, q26, rfl, hJ'⟩)
  · intro d f w hI hall
    obtain ⟨r22, r23, r24, r25, r26, rfl, hJ⟩ := hI
    exact he d w r22 r23 r24 r25 r26 hJ hall

set_option maxHeartbeats 12800000 in
theorem lawWoWorldOK (a : Wl4) (m : Wld)  (R : Bool) (w : World) (hL : WlL m) (hc : WlS w a m)
    (hspec : ∀ (b : Wl4) (W : World), WlS W b m → Calls Try.prog 18 #[wlV b m] W fun e w' => e = .returned (.bool R) ∧ Below W.heap.size W w')
    (himpl : ∀ (b : Wl4) (W : World), WlS W b m → Calls Try.prog 20 #[wlV b m] W fun e w' => e = .returned (.bool R) ∧ Below W.heap.size W w') :
    Calls Try.prog 4 #[wlV a m] w fun e w' => e = .returned (.bool true) ∧ Below w.heap.size w w' := by
  have HA := hide (Joins.below_alloc1 w (.cells (wlC a m) 53))
  have HV := hide (VarW.new w 53 a m)
  have HC := hide (hc.below (unhide HA))
  have HCW := hide hc
  have HL := hide hL
  have HZ := hide (WlZ.of hc)
  have HSP := hide hspec
  have HIM := hide himpl
  clear hc hL hspec himpl
  go_enter Try.func4, Try.ntmps4
  go_upto_region 2 with fail
  revert HC
  revert HV
  revert HA
  generalize (w.alloc _) = W0
  intro HA HV HC
  obtain ⟨c0, c1, c2, c3, c4, c5, c6, c7, c8, c9, c10, c11, c12, c13, c14⟩ := (unhide HV).cells
  go_wp2_with fail
  refine (szWorld_any a m 1048576 _ (unhide HL) (by omega) (by omega) (unhide HC)).mono ?_
  rintro e w1 ⟨r, rfl, hr0, hr1, hr2, hb⟩
  have HB1 := hide (fr (unhide HA) hb)
  have HC1 := hide ((unhide HC).below hb)
  have HV1 := hide ((unhide HV).below hb)
  clear hb c0 c1 c2 c3 c4 c5 c6 c7 c8 c9 c10 c11 c12 c13 c14 HA HV HC
  by_cases hneg : r < 0
  · go_wp2
    go_ret
    exact ⟨rfl, unhide HB1⟩
  have HSZ : Hid (WlBd m) := hide (hr2 (by omega))
  have HBD := HSZ
  clear hr2
  obtain ⟨c0, c1, c2, c3, c4, c5, c6, c7, c8, c9, c10, c11, c12, c13, c14⟩ := (unhide HV1).cells
  -- the model's answer
  go_wp2_with fail
  refine (toWorld_any a m _ (unhide HBD) (unhide HC1)).mono ?_
  rintro e w2 ⟨a2, ts2, rfl, ho2, hb2⟩
  have HB2 := hide (fr (unhide HB1) hb2)
  have HC2 := hide ((unhide HC1).below hb2)
  have HV2 := hide ((unhide HV1).below hb2)
  have HI2 := hide (ho2.shw (unhide HZ))
  clear hb2 ho2 c0 c1 c2 c3 c4 c5 c6 c7 c8 c9 c10 c11 c12 c13 c14 HB1 HC1 HV1
  go_wp2_with fail
  refine (unhide HSP a2 _ (unhide HI2)).mono ?_
  rintro e w3 ⟨rfl, hb3⟩
  have HB3 := hide (fr (unhide HB2) hb3)
  have HC3 := hide ((unhide HC2).below hb3)
  have HVA3 := hide ((unhide HV2).below hb3)
  clear hb3 HB2 HC2 HV2 HI2
  -- the argument's copy
  obtain ⟨c0, c1, c2, c3, c4, c5, c6, c7, c8, c9, c10, c11, c12, c13, c14⟩ := (unhide HVA3).cells
  go_wp2_with fail
  refine (toWorld_any a m _ (unhide HBD) (unhide HC3)).mono ?_
  rintro e w4 ⟨aX, tsX, rfl, hoX, hb4⟩
  have HNX4 := hide (LwW.new w4 aX m hoX hb4.size)
  have HB4 := hide (fr (fr (unhide HB3) hb4) (Joins.below_alloc1 w4 (.cells (wlC aX m) 62)))
  have HC4 := hide ((unhide HC3).below (fr hb4 (Joins.below_alloc1 w4 (.cells (wlC aX m) 62))))
  have HVA4 := hide ((unhide HVA3).below (fr hb4 (Joins.below_alloc1 w4 (.cells (wlC aX m) 62))))
  clear hoX hb4 c0 c1 c2 c3 c4 c5 c6 c7 c8 c9 c10 c11 c12 c13 c14 HB3 HC3 HVA3
  go_upto_region 7 with fail
  revert HVA4
  revert HC4
  revert HB4
  revert HNX4
  generalize (w4.alloc _) = W4
  generalize w4.heap.size = pX
  intro HNX4 HB4 HC4 HVA4
  -- the program's answer
  obtain ⟨c0, c1, c2, c3, c4, c5, c6, c7, c8, c9, c10, c11, c12, c13, c14⟩ := (unhide HNX4).v.cells
  go_wp2_with fail
  refine (unhide HIM aX _ ((unhide HNX4).o.shw (unhide HZ))).mono ?_
  rintro e w6 ⟨rfl, hb⟩
  have HNX6 := hide ((unhide HNX4).below hb)
  have HB6 := hide (fr (unhide HB4) hb)
  have HC6 := hide ((unhide HC4).below hb)
  have HVA6 := hide ((unhide HVA4).below hb)
  clear hb c0 c1 c2 c3 c4 c5 c6 c7 c8 c9 c10 c11 c12 c13 c14 HNX4 HB4 HC4 HVA4
  have bcc : (R != R) = false := by simp
  go_upto_region 10 with fail
  refine lqFrWorldOK_region (fun d wz r22 r23 r24 r25 r26 => LqJWorldOK w6 (wlV aX m) (wlV a m) m d wz r22 r23 r24 r25 r26) (by kernel_rfl) (by kernel_rfl) (noG_spec (by kernel_rfl)) ?h0 ?hs ?he
  case h0 => exact ⟨(Below.refl _ w6).drew, fun h => (by cases h), fun h => (by cases h), fun h => (by cases h), fun h => (by cases h), fun h => (by cases h)⟩
  case hs =>
    intro d wz i o r22 r23 r24 r25 r26 hc I ho hd hp K hK
    obtain ⟨k0, k1, k2, k3, k4, k5, k6, k7, k8, k9, k10, k11, k12, k13, k14⟩ := ((unhide HNX6).v.below I.bw).cells
    obtain ⟨l0, l1, l2, l3, l4, l5, l6, l7, l8, l9, l10, l11, l12, l13, l14⟩ := ((unhide HVA6).below I.bw).cells
    have hi : i < 5 := (List.getElem?_eq_some_iff.1 ho).1
    rcases (show i = 0 ∨ i = 1 ∨ i = 2 ∨ i = 3 ∨ i = 4 by omega) with rfl | rfl | rfl | rfl | rfl
    · cases ho
      unfold Oper.wp
      go_simp
      exact hK _ _ _ _ _ _ (I.s0 hd rfl)
    · cases ho
      unfold Oper.wp
      go_simp
      exact hK _ _ _ _ _ _ (I.s1 hd rfl)
    · cases ho
      have e1 := I.f1 (hp ⟨1, .data⟩ (by simp) rfl)
      subst e1
      unfold Oper.wp
      go_simp
      refine (toWorld_any a m _ (unhide HBD) ((unhide HC6).below I.bw)).mono ?_
      rintro e w2 ⟨a1, ts, rfl, ho1, hb1⟩
      exact hK _ _ _ _ _ _ (I.s2 hd hb1 rfl (ho1.base I.bw.size))
    · cases ho
      have e0 := I.f0 (hp ⟨0, .data⟩ (by simp) rfl)
      subst e0
      obtain ⟨a1, ts, e2, ho1⟩ := I.p2 (hp ⟨2, .data⟩ (by simp) rfl)
      subst e2
      unfold Oper.wp
      go_simp
      refine (eqWorld_same aX a1 m _ (unhide HBD) (((unhide HNX6).below I.bw).o.shw (unhide HZ)) (ho1.shw (unhide HZ))).mono ?_
      rintro e w2 ⟨rfl, hb1⟩
      exact hK _ _ _ _ _ _ ((I.grow hb1).s3 hd rfl)
    · cases ho
      have e3 := I.f3 (hp ⟨3, .data⟩ (by simp) rfl)
      subst e3
      unfold Oper.wp
      go_simp
      exact hK _ _ _ _ _ _ (I.s4 hd rfl)
  case he =>
    intro d w7 r22 r23 r24 r25 r26 I hall
    have e4 := I.f4 (hall 4 (by decide))
    subst e4
    have hb := I.bw
    have HB7 := hide (fr (unhide HB6) hb)
    clear hb I hall HNX6 HB6 HC6 HVA6
    go_wp2
    go_ret
    exact ⟨rfl, unhide HB7⟩

end Go.Proofs.Ytbmkdbccdnbbjac

namespace Go.Proofs.Ytbmkdbccdnbbjac
open Go.RowKit
set_option linter.unusedVariables false
set_option maxRecDepth 100000

theorem l01In_any (n low high : Int) (w : World) : Calls Try.prog 48 #[.int .i64 n, .int .i64 low, .int .i64 high] w fun e w' => e = .returned (.bool (inB n low high)) ∧ w' = w := by
  go_enter Try.func48, Try.ntmps48
  go_wp2
  all_goals
    go_ret
    exact ⟨ret_bool (by rw [Bool.eq_iff_iff]; simp [inB]; omega), rfl⟩

theorem hostOK_any (n : Int) (w : World) : Calls Try.prog 107 #[.int .i64 n] w fun e w' => e = .returned (.bool (inB n 0 3)) ∧ w' = w := by
  go_enter Try.func107, Try.ntmps107
  go_wp2
  all_goals
    go_ret
    exact ⟨ret_bool (by rw [Bool.eq_iff_iff]; simp [inB]; omega), rfl⟩

theorem placeOK_any (n : Int) (w : World) : Calls Try.prog 108 #[.int .i64 n] w fun e w' => e = .returned (.bool (inB n 0 63)) ∧ w' = w := by
  go_enter Try.func108, Try.ntmps108
  go_wp2
  all_goals
    go_ret
    exact ⟨ret_bool (by rw [Bool.eq_iff_iff]; simp [inB]; omega), rfl⟩

set_option maxHeartbeats 800000 in
theorem l01Io_any (x : Wr) (w : World) (hz : x.data.size ≤ maxLen) : Calls Try.prog 84 #[.agg #[.int .i64 x.host, .int .i64 x.at_, .string x.data]] w fun e w' => e = .returned (.bool (ioB x)) ∧ Below w.heap.size w w' := by
  unfold maxLen at hz
  have HE := hide (ioB_eq x)
  cases h0 : inB x.host 0 3
  · go_enter Try.func84, Try.ntmps84
    go_wp2_with (go_at_call 48; refine (l01In_any _ _ _ _).mono ?_; rintro e w' ⟨rfl, rfl⟩)
    go_ret
    exact ⟨ret_bool (by rw [unhide HE, h0]; rfl), (Below.refl _ _).alloc (Nat.le_refl _) _⟩
  · cases h1 : inB x.at_ 0 63
    · go_enter Try.func84, Try.ntmps84
      go_wp2_with (go_at_call 48; refine (l01In_any _ _ _ _).mono ?_; rintro e w' ⟨rfl, rfl⟩)
      go_ret
      exact ⟨ret_bool (by rw [unhide HE, h0, h1]; rfl), (Below.refl _ _).alloc (Nat.le_refl _) _⟩
    · go_enter Try.func84, Try.ntmps84
      go_wp2_with (go_at_call 48; refine (l01In_any _ _ _ _).mono ?_; rintro e w' ⟨rfl, rfl⟩)
      go_ret
      exact ⟨ret_bool (by rw [unhide HE, h0, h1, Bool.eq_iff_iff]; simp; omega), (Below.refl _ _).alloc (Nat.le_refl _) _⟩

set_option maxHeartbeats 800000 in
theorem sectorsOK_any (ao : Option Addr) (cap : Nat) (ss : List ByteArray) (w : World) (hl : ss.length ≤ maxLen) (hc : Ss w ao ss) :
    Calls Try.prog 91 #[.slice ao ss.length cap] w fun e w' => e = .returned (.bool (secB ss)) ∧ w' = w := by
  have HC := hide hc
  clear hc
  unfold maxLen at hl
  by_cases hle : ss.length = 64
  · have hb : ((ss.length : Int) != 64) = false := by simp; omega
    have HLE := hide hle
    clear hle
    go_enter Try.func91, Try.ntmps91
    go_wp2
    go_loop [4, 10] (fun _ i => ∃ k : Nat, k ≤ ss.length ∧ i = .int .i64 k ∧ Hid (∀ j (h : j < ss.length), j < k → decide (ss[j].size ≤ 80) = true)) (fun _ i => ss.length - (intOf i).toNat)
    case atStart => exact ⟨0, Nat.zero_le _, rfl, hide (fun j _ h => by omega)⟩
    case round =>
      obtain ⟨k, hk, rfl, HA⟩ := hrel
      by_cases hlt : k < ss.length
      · obtain ⟨b, off, rfl, hc, hz⟩ := unhide HC k hlt
        unfold maxLen at hz
        by_cases hs : 80 < ss[k].size
        · have H := hide (secB_false_at hlt hs)
          go_wp2
          go_ret
          exact ⟨ret_bool (unhide H).symm, rfl⟩
        · have HN := hide (all_succ (p := fun s : ByteArray => decide (s.size ≤ 80)) hlt (unhide HA) (by simp; omega))
          go_wp2
          go_round
          case rel => exact ⟨k + 1, by omega, by go_num, HN⟩
          case measure => simp [intOf]; omega
      · have H := hide (secB_true (unhide HLE) (fun j h => unhide HA j h (by omega)))
        go_wp2
        go_ret
        exact ⟨ret_bool (unhide H).symm, rfl⟩
  · have hb : ((ss.length : Int) != 64) = true := by simp; omega
    have H := hide (secB_false_len hle)
    clear hle
    go_enter Try.func91, Try.ntmps91
    go_wp2
    go_ret
    exact ⟨ret_bool (unhide H).symm, rfl⟩

set_option maxHeartbeats 1600000 in
theorem pendingOK_any (ao : Option Addr) (cap : Nat) (xs : List Wr) (w : World) (hl : xs.length ≤ maxLen) (hc : Ios w ao xs) :
    Calls Try.prog 92 #[.slice ao xs.length cap] w fun e w' => e = .returned (.bool (penB xs)) ∧ Below w.heap.size w w' := by
  have HC := hide hc
  clear hc
  unfold maxLen at hl
  by_cases hle : 200 < xs.length
  · have H := hide (penB_false_len (xs := xs) (by omega))
    go_enter Try.func92, Try.ntmps92
    go_wp2
    go_ret
    exact ⟨ret_bool (unhide H).symm, Below.refl _ _⟩
  go_enter Try.func92, Try.ntmps92
  go_wp2
  go_loopw [4, 10] (fun _ i wr => ∃ k : Nat, k ≤ xs.length ∧ i = .int .i64 k ∧ Hid (∀ j (h : j < xs.length), j < k → ioB xs[j] = true) ∧ Hid (Below w.heap.size w wr)) (fun _ i _ => xs.length - (intOf i).toNat)
  case atStart => exact ⟨0, Nat.zero_le _, rfl, hide (fun j _ h => by omega), hide (Below.refl _ _)⟩
  case round =>
    obtain ⟨k, hk, rfl, HA, HB⟩ := hrel
    by_cases hlt : k < xs.length
    · obtain ⟨b, off, rfl, hc0, hc1, hc2, hz⟩ := (unhide HC).below (unhide HB) k hlt
      unfold maxLen at hz
      have HE := hide (ioB_eq xs[k])
      have HBA := hide (fun o => (unhide HB).alloc (unhide HB).size o)
      cases h0 : inB xs[k].host 0 3
      · have H := hide (penB_false_at hlt (by rw [unhide HE, h0]; rfl))
        go_wp2_with (first | (go_at_call 107; refine (hostOK_any _ _).mono ?_; rintro e w' ⟨rfl, rfl⟩) | (go_at_call 108; refine (placeOK_any _ _).mono ?_; rintro e w' ⟨rfl, rfl⟩))
        go_ret
        exact ⟨ret_bool (unhide H).symm, unhide HBA _⟩
      · cases h1 : inB xs[k].at_ 0 63
        · have H := hide (penB_false_at hlt (by rw [unhide HE, h0, h1]; rfl))
          go_wp2_with (first | (go_at_call 107; refine (hostOK_any _ _).mono ?_; rintro e w' ⟨rfl, rfl⟩) | (go_at_call 108; refine (placeOK_any _ _).mono ?_; rintro e w' ⟨rfl, rfl⟩))
          go_ret
          exact ⟨ret_bool (unhide H).symm, unhide HBA _⟩
        · by_cases hs : 80 < xs[k].data.size
          · have H := hide (penB_false_at hlt (by rw [unhide HE, h0, h1]; simp; omega))
            go_wp2_with (first | (go_at_call 107; refine (hostOK_any _ _).mono ?_; rintro e w' ⟨rfl, rfl⟩) | (go_at_call 108; refine (placeOK_any _ _).mono ?_; rintro e w' ⟨rfl, rfl⟩))
            go_ret
            exact ⟨ret_bool (unhide H).symm, unhide HBA _⟩
          · have HN := hide (all_succ (p := ioB) hlt (unhide HA) (by rw [unhide HE, h0, h1]; simp; omega))
            go_wp2_with (first | (go_at_call 107; refine (hostOK_any _ _).mono ?_; rintro e w' ⟨rfl, rfl⟩) | (go_at_call 108; refine (placeOK_any _ _).mono ?_; rintro e w' ⟨rfl, rfl⟩))
            go_roundw
            case rel => exact ⟨k + 1, by omega, by go_num, HN, hide (unhide HBA _)⟩
            case measure => simp [intOf]; omega
    · have H := hide (penB_true (xs := xs) (by omega) (fun j h => unhide HA j h (by omega)))
      go_wp2
      go_ret
      exact ⟨ret_bool (unhide H).symm, unhide HB⟩

set_option maxHeartbeats 800000 in
theorem diskOK_impl (ao bo : Option Addr) (ca cb : Nat) (ss : List ByteArray) (xs : List Wr) (w : World) (hl : ss.length ≤ maxLen) (hm : xs.length ≤ maxLen) (h1 : Ss w ao ss) (h2 : Ios w bo xs) :
    Calls Try.prog 52 #[.agg #[.slice ao ss.length ca, .slice bo xs.length cb]] w fun e w' => e = .returned (.bool (diskB ss xs)) ∧ Below w.heap.size w w' := by
  have H1 := hide h1
  have H2 := hide h2
  have HL := hide hl
  have HM := hide hm
  clear h1 h2 hl hm
  have HA := hide (Joins.below_alloc1 w (.cells #[.slice ao ss.length ca, .slice bo xs.length cb] 58))
  cases h : secB ss
  · go_enter Try.func52, Try.ntmps52
    go_wp2_with fail
    refine (sectorsOK_any ao ca ss _ (unhide HL) ((unhide H1).below (unhide HA))).mono ?_
    rintro e w1 ⟨rfl, rfl⟩
    go_wp2
    go_ret
    exact ⟨ret_bool (by rw [diskB, h]; rfl), unhide HA⟩
  · go_enter Try.func52, Try.ntmps52
    go_wp2_with fail
    refine (sectorsOK_any ao ca ss _ (unhide HL) ((unhide H1).below (unhide HA))).mono ?_
    rintro e w1 ⟨rfl, rfl⟩
    go_wp2_with fail
    refine (pendingOK_any bo cb xs _ (unhide HM) ((unhide H2).below (unhide HA))).mono ?_
    rintro e w2 ⟨rfl, hb2⟩
    have HB := hide ((unhide HA).trans (hb2.mono (by simp)))
    clear hb2
    go_wp2
    go_ret
    exact ⟨ret_bool (by rw [diskB, h]; rfl), unhide HB⟩

set_option maxHeartbeats 1600000 in
theorem diskOK_spec (ao bo : Option Addr) (ca cb : Nat) (ss : List ByteArray) (xs : List Wr) (w : World) (hl : ss.length ≤ maxLen) (hm : xs.length ≤ maxLen) (h1 : Ss w ao ss) (h2 : Ios w bo xs) :
    Calls Try.prog 46 #[.agg #[.slice ao ss.length ca, .slice bo xs.length cb]] w fun e w' => e = .returned (.bool (diskB ss xs)) ∧ Below w.heap.size w w' := by
  have HA := hide (Joins.below_alloc1 w (.cells #[.slice ao ss.length ca, .slice bo xs.length cb] 58))
  have H1 := hide (h1.below (unhide HA))
  have H2 := hide h2
  clear h1 h2
  unfold maxLen at hl hm
  by_cases hle : ss.length = 64
  · have hb : ((ss.length : Int) != 64) = false := by simp; omega
    have HLE := hide hle
    clear hle
    by_cases hlx : 200 < xs.length
    · have H := hide (diskB_false2 ss (penB_false_len (xs := xs) (by omega)))
      go_enter Try.func46, Try.ntmps46
      go_wp2
      go_ret
      exact ⟨ret_bool (unhide H).symm, unhide HA⟩
    go_enter Try.func46, Try.ntmps46
    go_wp2
    go_loop [3] (fun i => ∃ k : Nat, k ≤ ss.length ∧ i = .int .i64 k ∧ Hid (∀ j (h : j < ss.length), j < k → decide (ss[j].size ≤ 80) = true)) (fun i => ss.length - (intOf i).toNat)
    case atStart => exact ⟨0, Nat.zero_le _, rfl, hide (fun j _ h => by omega)⟩
    case round =>
      obtain ⟨k, hk, rfl, HK⟩ := hrel
      by_cases hlt : k < ss.length
      · obtain ⟨b, off, rfl, hc, hz⟩ := unhide H1 k hlt
        unfold maxLen at hz
        by_cases hs : 80 < ss[k].size
        · have H := hide (diskB_false1 xs (secB_false_at hlt hs))
          go_wp2
          go_ret
          exact ⟨ret_bool (unhide H).symm, unhide HA⟩
        · have HN := hide (all_succ (p := fun s : ByteArray => decide (s.size ≤ 80)) hlt (unhide HK) (by simp; omega))
          go_wp2
          go_round
          case rel => exact ⟨k + 1, by omega, by go_num, HN⟩
          case measure => simp [intOf]; omega
      · have HSB := hide (secB_true (unhide HLE) (fun j h => unhide HK j h (by omega)))
        have HD := hide ((unhide H2).below (unhide HA))
        go_wp2
        go_loopw [4] (fun i wr => ∃ m : Nat, m ≤ xs.length ∧ i = .int .i64 m ∧ Hid (∀ j (h : j < xs.length), j < m → ioB xs[j] = true) ∧ Hid (Below (w.alloc (.cells #[.slice ao ss.length ca, .slice bo xs.length cb] 58)).heap.size (w.alloc (.cells #[.slice ao ss.length ca, .slice bo xs.length cb] 58)) wr)) (fun i _ => xs.length - (intOf i).toNat)
        case atStart => exact ⟨0, Nat.zero_le _, rfl, hide (fun j _ h => by omega), hide (Below.refl _ _)⟩
        case round =>
          obtain ⟨m, hm', rfl, HK', HB⟩ := hrel
          have hcell : wr.cell? ⟨w.heap.size, 1, none⟩ = some (.slice bo xs.length cb) := ((unhide HB).cell (by simp)).trans (by simp [go_sem])
          have HBB := hide ((unhide HA).trans ((unhide HB).mono (by simp)))
          by_cases hlt' : m < xs.length
          · obtain ⟨b, off, rfl, hc0, hc1, hc2, hz⟩ := (unhide HD).below (unhide HB) m hlt'
            have HZ := hide hz
            clear hz
            cases hio : ioB xs[m]
            · have H := hide (diskB_false2 ss (penB_false_at hlt' hio))
              go_wp2_with fail
              refine (l01Io_any xs[m] _ (unhide HZ)).mono ?_
              rintro e w2 ⟨rfl, hb2⟩
              have HB2 := hide ((unhide HBB).trans (hb2.mono (unhide HBB).size))
              clear hb2
              go_wp2
              go_ret
              exact ⟨ret_bool (unhide H).symm, unhide HB2⟩
            · have HN := hide (all_succ (p := ioB) hlt' (unhide HK') hio)
              go_wp2_with fail
              refine (l01Io_any xs[m] _ (unhide HZ)).mono ?_
              rintro e w2 ⟨rfl, hb2⟩
              have HB2 := hide ((unhide HB).trans (hb2.mono (unhide HB).size))
              clear hb2
              go_wp2
              go_roundw
              case rel => exact ⟨m + 1, by omega, by go_num, HN, HB2⟩
              case measure => simp [intOf]; omega
          · have H := hide (diskB_true (unhide HSB) (penB_true (xs := xs) (by omega) (fun j h => unhide HK' j h (by omega))))
            go_wp2
            go_ret
            exact ⟨ret_bool (unhide H).symm, unhide HBB⟩
  · have hb : ((ss.length : Int) != 64) = true := by simp; omega
    have H := hide (diskB_false1 xs (secB_false_len hle))
    clear hle
    go_enter Try.func46, Try.ntmps46
    go_wp2
    go_ret
    exact ⟨ret_bool (unhide H).symm, unhide HA⟩

end Go.Proofs.Ytbmkdbccdnbbjac

namespace Go.Proofs.Ytbmkdbccdnbbjac
open Go.RowKit
set_option linter.unusedVariables false
set_option maxRecDepth 100000

theorem lat_spec (r x : Int) (w : World) (hr0 : 0 ≤ r) (hr : r ≤ 500) (hx0 : 0 ≤ x) (hx : x ≤ 100000) :
    Calls Try.prog 86 #[.int .i64 r, .int .i64 x] w fun e w' => e = .returned (.int .i64 (latQ r x)) ∧ w' = w := by
  have t1 : ((x + 1) * 1000 + 999 - r).tdiv (1000 - r) = latQ r x := Int.tdiv_eq_ediv_of_nonneg (by omega)
  have hn : ¬ (1000 - r = 0) := by omega
  have hn' : ((1000 - r : Int) == 0) = false := by simp; omega
  have q0 : 0 ≤ latQ r x := Int.ediv_nonneg (by omega) (by omega)
  have q1 : latQ r x ≤ 200000000 := Int.le_trans (Int.ediv_le_self _ (by omega)) (by omega)
  have w5 : IntKind.i64.wrap (latQ r x) = latQ r x := by rw [IntKind.wrap_i64]; omega
  go_enter Try.func86, Try.ntmps86
  go_wp2
  go_ret
  exact ⟨rfl, rfl⟩
theorem ear_spec (r x : Int) (w : World) (hr0 : 0 ≤ r) (hr : r ≤ 500) (hx0 : 1 ≤ x) (hx : x ≤ 100000) :
    Calls Try.prog 87 #[.int .i64 r, .int .i64 x] w fun e w' => e = .returned (.int .i64 (earQ r x)) ∧ w' = w := by
  have t1 : ((x - 1) * 1000).tdiv (1000 + r) = earQ r x := Int.tdiv_eq_ediv_of_nonneg (by omega)
  have hn : ¬ (1000 + r = 0) := by omega
  have hn' : ((1000 + r : Int) == 0) = false := by simp; omega
  have q0 : 0 ≤ earQ r x := Int.ediv_nonneg (by omega) (by omega)
  have q1 : earQ r x ≤ 200000000 := Int.le_trans (Int.ediv_le_self _ (by omega)) (by omega)
  have w5 : IntKind.i64.wrap (earQ r x) = earQ r x := by rw [IntKind.wrap_i64]; omega
  go_enter Try.func87, Try.ntmps87
  go_wp2
  go_ret
  exact ⟨rfl, rfl⟩

end Go.Proofs.Ytbmkdbccdnbbjac

namespace Go.Proofs.Ytbmkdbccdnbbjac
open Go.RowKit
set_option linter.unusedVariables false
set_option maxRecDepth 100000

theorem bounds_four (b : Nat) (f d l r : Int) (w : World) (h : Four w b f d l r) :
    Calls Try.prog 85 #[cfgV f d l r] w fun e w' => e = .returned (.bool (cfgB f d l r)) ∧ Four w' b f d l r ∧ Hid (Below w.heap.size w w') :=
  (bounds_spec f d l r w).mono fun e w' ⟨h1, h2⟩ => ⟨h1, h.below h2, hidB h2⟩

set_option maxHeartbeats 1600000 in
theorem configOK_spec_yes (f d l r : Int) (w : World) (hb : cfgB f d l r = true) : Calls Try.prog 47 #[cfgV f d l r] w fun e w' => e = .returned (.bool (cokB f d l r)) ∧ Below w.heap.size w w' := by
  have f0 := fieldC0 f d l r
  have f1 := fieldC1 f d l r
  have f2 := fieldC2 f d l r
  have f3 := fieldC3 f d l r
  have HA : Hid (Below w.heap.size w (w.alloc (.cells #[.int .i64 f, .int .i64 d, .int .i64 l, .int .i64 r] 59))) := hidB (Joins.below_alloc1 w _)
  have HF : Hid (Four (w.alloc (.cells #[.int .i64 f, .int .i64 d, .int .i64 l, .int .i64 r] 59)) w.heap.size f d l r) := hidB ⟨by simp [go_sem], by simp [go_sem], by simp [go_sem], by simp [go_sem]⟩
  have hr := hidB (cok_yes hb)
  obtain ⟨⟨bf0, bf1⟩, ⟨bd0, bd1⟩, ⟨bl0, bl1⟩, br0, br1⟩ := cfgB_iff.1 hb
  obtain ⟨ql0, ql1⟩ := latQ_le (x := f) br0 br1 (by omega) (by omega)
  obtain ⟨qe0, qe1⟩ := earQ_le (x := d) br0 br1 (by omega) (by omega)
  have wr : IntKind.i64.wrap (latQ r f + l) = latQ r f + l := by rw [IntKind.wrap_i64]; omega
  go_enter Try.func47, Try.ntmps47
  go_wp2_with fail
  revert HA HF
  generalize w.alloc (.cells #[.int .i64 f, .int .i64 d, .int .i64 l, .int .i64 r] 59) = W0
  generalize hBe : w.heap.size = B
  intro HA HF
  replace hBe := hidB hBe
  obtain ⟨c0, c1, c2, c3⟩ := show Four _ _ _ _ _ _ from HF
  go_region_held3 (fun w' => w'.cell? ⟨B, 0, none⟩ = some (.int .i64 f) ∧ w'.cell? ⟨B, 1, none⟩ = some (.int .i64 d) ∧ w'.cell? ⟨B, 2, none⟩ = some (.int .i64 l) ∧ w'.cell? ⟨B, 3, none⟩ = some (.int .i64 r)) (go_keep)
    (first
      | (go_at_call 85; refine (bounds_four B f d l r _ ⟨?_, ?_, ?_, ?_⟩).mono ?_; (simp [*]); (simp [*]); (simp [*]); (simp [*]); rintro e wA ⟨rfl, ⟨hA0, hA2, hA3, hA4⟩, hA1⟩)
      | (go_at_call 86; refine (lat_spec r f _ (by omega) (by omega) (by omega) (by omega)).mono ?_; rintro e wC ⟨rfl, rfl⟩)
      | (go_at_call 87; refine (ear_spec r d _ (by omega) (by omega) (by omega) (by omega)).mono ?_; rintro e wD ⟨rfl, rfl⟩))
  have HW : Hid (Below w.heap.size w wD) := hidB (frB (frB (b := W0) (by rw [show w.heap.size = B from hBe]; exact HA) ((Below.refl _ W0).drew)) hA1)
  go_wp2
  go_ret
  rw [show cokB f d l r = decide (latQ r f + l < earQ r d) from hr]
  exact ⟨rfl, HW⟩

end Go.Proofs.Ytbmkdbccdnbbjac

namespace Go.Proofs.Ytbmkdbccdnbbjac
open Go.RowKit
set_option linter.unusedVariables false
set_option maxRecDepth 100000

structure ClsC (W0 : World) (B : Nat) (f d l r : Int) (w' : World) : Prop where
  four : Four w' B f d l r
  below : Below W0.heap.size W0 w'
theorem region_cls {P : Program} {C : World → Prop} {id : Nat} {Q : Exit → Act → World → Prop} {a : Act} {w : World} {l : List Oper} (hm : P.follows .mixedOrders = true) (hB : Region.lexB .any l.toArray = true) (hC : C w.drew)
    (h : wpQuiet P l.toArray C (fun a' => ∀ w', C w' → Q .normal a' w') l a) : (Code.region id l.toArray true).wp P Q a w :=
  wp_region_quiet (C := C) hm hB hC (by simpa using h)

set_option maxHeartbeats 800000 in
theorem configOK_spec_no (f d l r : Int) (w : World) (hb : cfgB f d l r = false) : Calls Try.prog 47 #[cfgV f d l r] w fun e w' => e = .returned (.bool (cokB f d l r)) ∧ Below w.heap.size w w' := by
  have HA : Hid (Below w.heap.size w (w.alloc (.cells #[.int .i64 f, .int .i64 d, .int .i64 l, .int .i64 r] 59))) := hidB (Joins.below_alloc1 w _)
  have HF : Hid (Four (w.alloc (.cells #[.int .i64 f, .int .i64 d, .int .i64 l, .int .i64 r] 59)) w.heap.size f d l r) := hidB ⟨by simp [go_sem], by simp [go_sem], by simp [go_sem], by simp [go_sem]⟩
  have hr := hidB (cok_no hb)
  go_enter Try.func47, Try.ntmps47
  go_wp2_with fail
  revert HA HF
  generalize w.alloc (.cells #[.int .i64 f, .int .i64 d, .int .i64 l, .int .i64 r] 59) = W0
  generalize hBe : w.heap.size = B
  intro HA HF
  replace hBe := hidB hBe
  obtain ⟨c0, c1, c2, c3⟩ := show Four _ _ _ _ _ _ from HF
  refine region_cls (C := ClsC W0 B f d l r) (by kernel_rfl) (by kernel_rfl) ⟨⟨c0, c1, c2, c3⟩, (Below.refl _ W0).drew⟩ ?_
  refine BigFrame.wpQuiet_want rfl (fun K hK => ?_)
  refine ⟨cfgV f d l r, fun w' hw => ?_, ?_⟩
  · obtain ⟨⟨k0, k1, k2, k3⟩, _⟩ := hw
    clear c0 c1 c2 c3 HA HF
    simp [Oper.quietAt, Oper.quietUpon, go_sem, k0, k1, k2, k3]
  refine hK _ ?_
  clear hK K
  simp [Act.put]
  refine BigFrame.wpQuiet_want rfl (fun K hK => ?_)
  refine ⟨.bool false, fun w' hw => ?_, ?_⟩
  · obtain ⟨hf, hw2⟩ := hw
    simp [Oper.quietAt, Oper.quietUpon, go_sem]
    refine (bounds_spec f d l r _).mono ?_
    rintro e w3 ⟨rfl, hb3⟩
    exact ⟨by rw [hb], ⟨hf.below hb3, frB hw2 hb3⟩⟩
  refine hK _ ?_
  clear hK K
  simp [Act.put]
  repeat (go_big_quiet_step (fail))
  refine BigFrame.wpQuiet_want rfl (fun K hK => ?_)
  refine ⟨.bool false, fun w' hw => ?_, ?_⟩
  · simp [Oper.quietAt, Oper.quietUpon, go_sem]
  refine hK _ ?_
  clear hK K
  simp [Act.put]
  repeat (go_big_quiet_step (fail))
  refine wpQuiet_nil ?_
  intro w2 hw
  have HW : Hid (Below w.heap.size w w2) := hidB (frB (b := W0) (by rw [show w.heap.size = B from hBe]; exact HA) hw.below)
  clear hw c0 c1 c2 c3
  go_wp2
  go_ret
  rw [show cokB f d l r = false from hr]
  exact ⟨rfl, HW⟩

theorem configOK_spec (f d l r : Int) (w : World) : Calls Try.prog 47 #[cfgV f d l r] w fun e w' => e = .returned (.bool (cokB f d l r)) ∧ Below w.heap.size w w' := by
  by_cases hb : cfgB f d l r = true
  · exact configOK_spec_yes f d l r w hb
  · rw [Bool.not_eq_true] at hb
    exact configOK_spec_no f d l r w hb

end Go.Proofs.Ytbmkdbccdnbbjac

namespace Go.Proofs.Ytbmkdbccdnbbjac
open Go.RowKit
set_option linter.unusedVariables false
set_option maxRecDepth 100000

theorem vl_no {xs : List Int} {k : Nat} (hk : k < xs.length) (h : numB xs[k] = false) : gvB xs = false := by rw [gvB, all_not (p := numB) hk h]; simp
theorem vl_all {xs : List Int} (h : ∀ j (hj : j < xs.length), numB xs[j] = true) : gvB xs = decide (xs.length ≤ 12) := by rw [gvB, all_of (p := numB) (fun i hi _ => h i hi)]; simp
theorem gs_vals {g : Gst} (h : gvB g.vals = false) : gsB g = false := by simp [gsB, h]
theorem gs_few {g : Gst} (h : ¬ g.shots.length ≤ 3) : gsB g = false := by simp [gsB, h]
theorem gs_shot {g : Gst} {k : Nat} (hk : k < g.shots.length) (h : (snmB g.shots[k].name && gvB g.shots[k].table) = false) : gsB g = false := by
  have e := all_not (p := fun s : Snp => snmB s.name && gvB s.table) hk h
  simp only [gsB, e, Bool.and_false, Bool.false_and]
theorem gs_twice {g : Gst} {i k : Nat} (hi : i < g.shots.length) (hk : k < i) (h : g.shots[i].name = g.shots[k].name) : gsB g = false := by
  have e : namesB g.shots = false := decide_eq_false (not_nodup (xs := g.shots.map (·.name)) (i := i) (k := k) (by simpa using hi) hk (by simpa using h))
  simp only [gsB, e, Bool.and_false]
theorem gs_yes {g : Gst} (h1 : gvB g.vals = true) (h3 : g.shots.length ≤ 3) (h5 : ∀ j (hj : j < g.shots.length), (snmB g.shots[j].name && gvB g.shots[j].table) = true) (h6 : (g.shots.map (·.name)).Nodup) : gsB g = true := by
  have e5 : g.shots.all (fun s => snmB s.name && gvB s.table) = true := all_of (p := fun s : Snp => snmB s.name && gvB s.table) (fun i hi _ => h5 i hi)
  have e6 : namesB g.shots = true := decide_eq_true h6
  simp only [gsB, h1, h3, e5, e6, decide_true, Bool.and_true]

set_option maxHeartbeats 800000 in
theorem l14Values_any (ao : Option Addr) (cap : Nat) (xs : List Int) (w : World) (hl : xs.length ≤ maxLen) (hc : Is w ao xs) :
    Calls Try.prog 61 #[.slice ao xs.length cap] w fun e w' => e = .returned (.bool (gvB xs)) ∧ w' = w := by
  have HC := hide hc
  clear hc
  unfold maxLen at hl
  go_enter Try.func61, Try.ntmps61
  go_wp2
  go_loop [3] (fun i => ∃ k : Nat, k ≤ xs.length ∧ i = .int .i64 k ∧ Hid (∀ j (h : j < xs.length), j < k → numB xs[j] = true)) (fun i => xs.length - (intOf i).toNat)
  case atStart => exact ⟨0, Nat.zero_le _, rfl, hide (fun j _ h => by omega)⟩
  case round =>
    obtain ⟨k, hk, rfl, HA⟩ := hrel
    by_cases hlt : k < xs.length
    · obtain ⟨b, off, rfl, hc⟩ := unhide HC k hlt
      cases hn : numB xs[k]
      · have HF := hide (vl_no hlt hn)
        go_wp2_with (go_at_call 65; refine (l02Int_any _ _).mono ?_; rintro e w' ⟨rfl, hw⟩; replace hw := hw.symm; subst hw; rw [hn])
        go_ret
        exact ⟨ret_bool (unhide HF).symm, rfl⟩
      · have HN := hide (all_succ hlt (unhide HA) hn)
        go_wp2_with (go_at_call 65; refine (l02Int_any _ _).mono ?_; rintro e w' ⟨rfl, hw⟩; replace hw := hw.symm; subst hw; rw [hn])
        go_round
        case rel => exact ⟨k + 1, by omega, by go_num, HN⟩
        case measure => simp [intOf]; omega
    · have HF := hide (vl_all (fun j h => unhide HA j h (by omega)))
      go_wp2
      go_ret
      exact ⟨ret_bool (by rw [unhide HF, Bool.eq_iff_iff]; simp; omega), rfl⟩

set_option maxHeartbeats 3200000 in
theorem guestOK_spec (a : Gs4) (g : Gst) (w : World) (hL : GsL g) (hc : GsS w a g) :
    Calls Try.prog 24 #[gsV a g] w fun e w' => e = .returned (.bool (gsB g)) ∧ Below w.heap.size w w' := by
  have HA := hide (Joins.below_alloc1 w (.cells #[.slice a.vo g.vals.length a.vc, .slice a.so g.shots.length a.sc] 32))
  have HV := hide (VarG.new w 32 (.slice a.vo g.vals.length a.vc) (.slice a.so g.shots.length a.sc))
  have HC := hide (hc.below (unhide HA))
  have HL := hide hL
  clear hc hL
  have hs64 : g.shots.length ≤ 9223372036854775807 := (unhide HL).s
  cases h1 : gvB g.vals
  · have HF := hide (gs_vals h1)
    go_enter Try.func24, Try.ntmps24
    go_upto_region 1 with fail
    revert HA HV HC
    generalize (w.alloc _) = W0
    intro HA HV HC
    obtain ⟨c0, c1⟩ := (unhide HV).cells
    go_wp2_with (go_at_call 61; refine (l14Values_any _ _ g.vals _ (unhide HL).v (unhide HC).v).mono ?_; rintro e w' ⟨rfl, hw⟩; replace hw := hw.symm; subst hw; rw [h1])
    go_ret
    exact ⟨ret_bool (unhide HF).symm, unhide HA⟩
  by_cases h3 : g.shots.length ≤ 3
  rotate_left
  · have HF := hide (gs_few h3)
    have h3i : (3 : Int) < (g.shots.length : Int) := by omega
    go_enter Try.func24, Try.ntmps24
    go_upto_region 1 with fail
    revert HA HV HC
    generalize (w.alloc _) = W0
    intro HA HV HC
    obtain ⟨c0, c1⟩ := (unhide HV).cells
    go_wp2_with (go_at_call 61; refine (l14Values_any _ _ g.vals _ (unhide HL).v (unhide HC).v).mono ?_; rintro e w' ⟨rfl, hw⟩; replace hw := hw.symm; subst hw; rw [h1])
    go_ret
    exact ⟨ret_bool (unhide HF).symm, unhide HA⟩
  have h3i : ¬ (3 : Int) < (g.shots.length : Int) := by omega
  have HYES := hide (fun h5 h6 => gs_yes (g := g) h1 h3 h5 h6)
  go_enter Try.func24, Try.ntmps24
  go_upto_region 1 with fail
  revert HA HV HC
  generalize (w.alloc _) = W0
  intro HA HV HC
  obtain ⟨c0, c1⟩ := (unhide HV).cells
  go_wp2_with (go_at_call 61; refine (l14Values_any _ _ g.vals _ (unhide HL).v (unhide HC).v).mono ?_; rintro e w' ⟨rfl, hw⟩; replace hw := hw.symm; subst hw; rw [h1])
  clear c0 c1 h1
  go_loopw [3] (fun i wr => ∃ k : Nat, k ≤ g.shots.length ∧ i = .int .i64 k ∧ Hid (∀ j (hj : j < g.shots.length), j < k → (snmB g.shots[j].name && gvB g.shots[j].table) = true) ∧ Hid (((g.shots.map (·.name)).take k).Nodup) ∧ Hid (Below W0.heap.size W0 wr)) (fun i _ => g.shots.length - (intOf i).toNat)
  case atStart => exact ⟨0, Nat.zero_le _, rfl, hide (fun j _ h => by omega), hide (by simp), hide (Below.refl _ _)⟩
  case round =>
    obtain ⟨i, hi, rfl, HS, HN, HB⟩ := hrel
    obtain ⟨c0, c1⟩ := ((unhide HV).below (unhide HB)).cells
    by_cases hlt : i < g.shots.length
    · obtain ⟨b, off, tq, tc, eb, hn0, ht0, hIs, hz, htl⟩ := ((unhide HC).s.below (unhide HB)) i hlt
      rw [eb] at c1
      have EB := hide eb
      clear eb
      have hlti : (i : Int) < (g.shots.length : Int) := by omega
      have HIS := hide hIs
      have HZ := hide hz
      have HTL := hide htl
      clear hIs hz htl
      by_cases hok : snmB g.shots[i].name = true
      rotate_left
      · have hok' : snmB g.shots[i].name = false := by simpa using hok
        have HF := hide (gs_shot hlt (by rw [hok']; rfl))
        clear hok
        go_wp2_with (go_at_call 62; refine (l10Name_any _ _ (unhide HZ)).mono ?_; rintro e w' ⟨rfl, hw⟩; replace hw := hw.symm; subst hw; rw [hok'])
        go_ret
        exact ⟨ret_bool (unhide HF).symm, fr (unhide HA) (unhide HB)⟩
      by_cases htb : gvB g.shots[i].table = true
      rotate_left
      · have htb' : gvB g.shots[i].table = false := by simpa using htb
        have HF := hide (gs_shot hlt (by rw [htb', Bool.and_false]))
        clear htb
        go_wp2_with (first | (go_at_call 62; refine (l10Name_any _ _ (unhide HZ)).mono ?_; rintro e w' ⟨rfl, hw⟩; replace hw := hw.symm; subst hw; rw [hok]) | (go_at_call 61; refine (l14Values_any _ _ g.shots[i].table _ (unhide HTL) (unhide HIS)).mono ?_; rintro e w' ⟨rfl, hw⟩; replace hw := hw.symm; subst hw; rw [htb']))
        go_ret
        exact ⟨ret_bool (unhide HF).symm, fr (unhide HA) (unhide HB)⟩
      have HS' := hide (all_succ (p := fun s : Snp => snmB s.name && gvB s.table) hlt (unhide HS) (by rw [hok, htb]; rfl))
      go_wp2_with (first | (go_at_call 62; refine (l10Name_any _ _ (unhide HZ)).mono ?_; rintro e w' ⟨rfl, hw⟩; replace hw := hw.symm; subst hw; rw [hok]) | (go_at_call 61; refine (l14Values_any _ _ g.shots[i].table _ (unhide HTL) (unhide HIS)).mono ?_; rintro e w' ⟨rfl, hw⟩; replace hw := hw.symm; subst hw; rw [htb]))
      clear c0 c1 hn0 ht0 hok htb HIS HTL HZ
      go_loopw [4] (fun k wq => ∃ j : Nat, j ≤ i ∧ k = .int .i64 j ∧ Hid (∀ p (hp : p < (g.shots.map (·.name)).length), p < j → (g.shots.map (·.name))[p] ≠ (g.shots.map (·.name))[i]'(by simpa using hlt)) ∧ Hid (Below W0.heap.size W0 wq)) (fun k _ => i - (intOf k).toNat)
      case atStart => exact ⟨0, Nat.zero_le _, rfl, hide (fun p _ h => by omega), HB⟩
      case round =>
        clear HB
        obtain ⟨j, hj, rfl, HP, HB⟩ := hrel
        obtain ⟨c0, c1⟩ := ((unhide HV).below (unhide HB)).cells
        by_cases hjl : j < i
        · have hjs : j < g.shots.length := by omega
          have hjsi : (j : Int) < (g.shots.length : Int) := by omega
          obtain ⟨b1, off1, tq1, tc1, e1, hn1, _, _, _, _⟩ := ((unhide HC).s.below (unhide HB)) i hlt
          obtain ⟨b2, off2, tq2, tc2, e2, hn2, _, _, _, _⟩ := ((unhide HC).s.below (unhide HB)) j hjs
          rw [unhide EB] at c1 e1 e2
          cases e1
          cases e2
          by_cases he : g.shots[j].name = g.shots[i].name
          · have HF := hide (gs_twice hlt hjl he.symm)
            have be : (g.shots[j].name.toList == g.shots[i].name.toList) = true := by simp [he]
            clear he
            go_wp2
            go_quiet (fail)
            go_wp2
            go_ret
            exact ⟨ret_bool (unhide HF).symm, fr (unhide HA) ((unhide HB).trans (Joins.below_draws _ _ _))⟩
          · have HP' : Hid (∀ p (hp : p < (g.shots.map (·.name)).length), p < j + 1 → (g.shots.map (·.name))[p] ≠ (g.shots.map (·.name))[i]'(by simpa using hlt)) := hide (fun p hp h => by
              by_cases e : p = j
              · subst e; simpa using he
              · exact unhide HP p hp (by omega))
            have be : (g.shots[j].name.toList == g.shots[i].name.toList) = false := str_beq_false he
            clear he
            go_wp2
            go_quiet (fail)
            go_wp2
            go_roundw
            case rel => exact ⟨j + 1, by omega, by go_num, HP', hide ((unhide HB).trans (Joins.below_draws _ _ _))⟩
            case measure => simp [intOf]; omega
        · have HN' := hide (nodup_snoc (xs := g.shots.map (·.name)) (k := i) (by simpa using hlt) (unhide HN) (fun p hp h => unhide HP p hp (by omega)))
          go_wp2
          go_roundw
          case rel => exact ⟨i + 1, by omega, by go_num, HS', HN', HB⟩
          case measure => simp [intOf]; omega
    · have HF := hide (unhide HYES (fun j h => unhide HS j h (by omega)) (by
        have := unhide HN
        rwa [List.take_of_length_le (by simp; omega)] at this))
      go_wp2
      go_ret
      exact ⟨ret_bool (unhide HF).symm, fr (unhide HA) (unhide HB)⟩

end Go.Proofs.Ytbmkdbccdnbbjac

namespace Go.Proofs.Ytbmkdbccdnbbjac
open Go.RowKit
set_option linter.unusedVariables false
set_option maxRecDepth 100000

theorem useB_1 {q : Rq} (h : q.k = 1 ∨ q.k = 3 ∨ q.k = 4) : useB q = (q.v == 0 && q.n.toList.isEmpty) := by unfold useB; rw [if_pos h]; rfl
theorem useB_2 {q : Rq} (h : q.k = 2) : useB q = q.n.toList.isEmpty := by unfold useB; rw [if_neg (by omega), if_pos h]; rfl
theorem useB_5 {q : Rq} (h : q.k = 5 ∨ q.k = 6 ∨ q.k = 7) : useB q = (q.g == 0 && q.v == 0) := by unfold useB; rw [if_neg (by omega), if_neg (by omega), if_neg (by omega)]
theorem useB_8 {q : Rq} (h : q.k = 8) : useB q = (q.g == 0 && q.v == 0 && q.n.toList.isEmpty) := by unfold useB; rw [if_neg (by omega), if_neg (by omega), if_pos h]; rfl
theorem rq_out {q : Rq} (h : betw q.k 1 8 = false) : rqB q = false := by rw [rqB, h]; rfl
theorem rq_long {q : Rq} (h : ¬ q.n.size ≤ 65536) : rqB q = false := by rw [rqB, decide_eq_false h]; simp
theorem rq_in {q : Rq} (h1 : 1 ≤ q.k ∧ q.k ≤ 8) (h : q.n.size ≤ 65536) : rqB q = useB q := by rw [rqB, decide_eq_true h, betw_iff.2 h1]; rfl

set_option maxHeartbeats 6400000 in
theorem reqOK_spec (q : Rq) (w : World) (hz : q.n.size ≤ maxLen) : Calls Try.prog 25 #[qV q] w fun e w' => e = .returned (.bool (rqB q)) ∧ Below w.heap.size w w' := by
  have HA := hide (Joins.below_alloc1 w (.cells #[.int .i64 q.k, .int .i64 q.g, .int .i64 q.v, .string q.n] 39))
  have HV := hide (VarM.new w 39 (.int .i64 q.k) (.int .i64 q.g) (.int .i64 q.v) (.string q.n))
  obtain ⟨R, HR⟩ : ∃ R, Hid (R = rqB q) := ⟨_, hide rfl⟩
  rw [← unhide HR]
  unfold maxLen at hz
  go_enter Try.func25, Try.ntmps25
  go_upto_region 1 with fail
  revert HA HV
  generalize (w.alloc _) = W0
  intro HA HV
  obtain ⟨c0, c1, c2, c3⟩ := (unhide HV).cells
  by_cases hin : 1 ≤ q.k ∧ q.k ≤ 8
  case neg =>
    have hb : betw q.k 1 8 = false := by
      cases hb : betw q.k 1 8 with
      | false => rfl
      | true => exact absurd (betw_iff.1 hb) hin
    have HX := hide ((unhide HR).trans (rq_out hb))
    clear HR hin
    go_wp2_with (go_at_call 48; refine (in_any _ _ _ _).mono ?_; rintro e w' ⟨rfl, hw⟩; replace hw := hw.symm; subst hw; rw [hb])
    go_ret
    exact ⟨ret_bool (unhide HX).symm, unhide HA⟩
  have hb : betw q.k 1 8 = true := betw_iff.2 hin
  by_cases hl : q.n.size ≤ 65536
  case neg =>
    have HX := hide ((unhide HR).trans (rq_long hl))
    have hl' : (65536 : Int) < (q.n.size : Int) := by omega
    clear HR hl hin
    go_wp2_with (go_at_call 48; refine (in_any _ _ _ _).mono ?_; rintro e w' ⟨rfl, hw⟩; replace hw := hw.symm; subst hw; rw [hb])
    go_ret
    exact ⟨ret_bool (unhide HX).symm, unhide HA⟩
  have HX := hide ((unhide HR).trans (rq_in hin hl))
  have hl' : ¬ (65536 : Int) < (q.n.size : Int) := by omega
  clear HR hl
  have hk : q.k = 1 ∨ q.k = 2 ∨ q.k = 3 ∨ q.k = 4 ∨ q.k = 5 ∨ q.k = 6 ∨ q.k = 7 ∨ q.k = 8 := by omega
  clear hin
  rcases hk with h | h | h | h | h | h | h | h
  · have HY := hide ((unhide HX).trans (useB_1 (.inl h)))
    rw [h] at c0 hb
    clear HX h
    cases ev : (q.v == 0)
    · skip
      cases en : (q.n.toList.isEmpty)
      · skip
        have HF := unhide HY
        rw [ev, en] at HF
        have HG := hide HF
        clear HF
        go_wp2_with (go_at_call 48; refine (in_any _ _ _ _).mono ?_; rintro e w' ⟨rfl, hw⟩; replace hw := hw.symm; subst hw; rw [hb])
        go_ret
        exact ⟨ret_bool (unhide HG).symm, unhide HA⟩
      · skip
        have HF := unhide HY
        rw [ev, en] at HF
        have HG := hide HF
        clear HF
        go_wp2_with (go_at_call 48; refine (in_any _ _ _ _).mono ?_; rintro e w' ⟨rfl, hw⟩; replace hw := hw.symm; subst hw; rw [hb])
        go_ret
        exact ⟨ret_bool (unhide HG).symm, unhide HA⟩
    · skip
      cases en : (q.n.toList.isEmpty)
      · skip
        have HF := unhide HY
        rw [ev, en] at HF
        have HG := hide HF
        clear HF
        go_wp2_with (go_at_call 48; refine (in_any _ _ _ _).mono ?_; rintro e w' ⟨rfl, hw⟩; replace hw := hw.symm; subst hw; rw [hb])
        go_ret
        exact ⟨ret_bool (unhide HG).symm, unhide HA⟩
      · skip
        have HF := unhide HY
        rw [ev, en] at HF
        have HG := hide HF
        clear HF
        go_wp2_with (go_at_call 48; refine (in_any _ _ _ _).mono ?_; rintro e w' ⟨rfl, hw⟩; replace hw := hw.symm; subst hw; rw [hb])
        go_ret
        exact ⟨ret_bool (unhide HG).symm, unhide HA⟩
  · have HY := hide ((unhide HX).trans (useB_2 h))
    rw [h] at c0 hb
    clear HX h
    cases en : (q.n.toList.isEmpty)
    · skip
      have HF := unhide HY
      rw [en] at HF
      have HG := hide HF
      clear HF
      go_wp2_with (go_at_call 48; refine (in_any _ _ _ _).mono ?_; rintro e w' ⟨rfl, hw⟩; replace hw := hw.symm; subst hw; rw [hb])
      go_ret
      exact ⟨ret_bool (unhide HG).symm, unhide HA⟩
    · skip
      have HF := unhide HY
      rw [en] at HF
      have HG := hide HF
      clear HF
      go_wp2_with (go_at_call 48; refine (in_any _ _ _ _).mono ?_; rintro e w' ⟨rfl, hw⟩; replace hw := hw.symm; subst hw; rw [hb])
      go_ret
      exact ⟨ret_bool (unhide HG).symm, unhide HA⟩
  · have HY := hide ((unhide HX).trans (useB_1 (.inr (.inl h))))
    rw [h] at c0 hb
    clear HX h
    cases ev : (q.v == 0)
    · skip
      cases en : (q.n.toList.isEmpty)
      · skip
        have HF := unhide HY
        rw [ev, en] at HF
        have HG := hide HF
        clear HF
        go_wp2_with (go_at_call 48; refine (in_any _ _ _ _).mono ?_; rintro e w' ⟨rfl, hw⟩; replace hw := hw.symm; subst hw; rw [hb])
        go_ret
        exact ⟨ret_bool (unhide HG).symm, unhide HA⟩
      · skip
        have HF := unhide HY
        rw [ev, en] at HF
        have HG := hide HF
        clear HF
        go_wp2_with (go_at_call 48; refine (in_any _ _ _ _).mono ?_; rintro e w' ⟨rfl, hw⟩; replace hw := hw.symm; subst hw; rw [hb])
        go_ret
        exact ⟨ret_bool (unhide HG).symm, unhide HA⟩
    · skip
      cases en : (q.n.toList.isEmpty)
      · skip
        have HF := unhide HY
        rw [ev, en] at HF
        have HG := hide HF
        clear HF
        go_wp2_with (go_at_call 48; refine (in_any _ _ _ _).mono ?_; rintro e w' ⟨rfl, hw⟩; replace hw := hw.symm; subst hw; rw [hb])
        go_ret
        exact ⟨ret_bool (unhide HG).symm, unhide HA⟩
      · skip
        have HF := unhide HY
        rw [ev, en] at HF
        have HG := hide HF
        clear HF
        go_wp2_with (go_at_call 48; refine (in_any _ _ _ _).mono ?_; rintro e w' ⟨rfl, hw⟩; replace hw := hw.symm; subst hw; rw [hb])
        go_ret
        exact ⟨ret_bool (unhide HG).symm, unhide HA⟩
  · have HY := hide ((unhide HX).trans (useB_1 (.inr (.inr h))))
    rw [h] at c0 hb
    clear HX h
    cases ev : (q.v == 0)
    · skip
      cases en : (q.n.toList.isEmpty)
      · skip
        have HF := unhide HY
        rw [ev, en] at HF
        have HG := hide HF
        clear HF
        go_wp2_with (go_at_call 48; refine (in_any _ _ _ _).mono ?_; rintro e w' ⟨rfl, hw⟩; replace hw := hw.symm; subst hw; rw [hb])
        go_ret
        exact ⟨ret_bool (unhide HG).symm, unhide HA⟩
      · skip
        have HF := unhide HY
        rw [ev, en] at HF
        have HG := hide HF
        clear HF
        go_wp2_with (go_at_call 48; refine (in_any _ _ _ _).mono ?_; rintro e w' ⟨rfl, hw⟩; replace hw := hw.symm; subst hw; rw [hb])
        go_ret
        exact ⟨ret_bool (unhide HG).symm, unhide HA⟩
    · skip
      cases en : (q.n.toList.isEmpty)
      · skip
        have HF := unhide HY
        rw [ev, en] at HF
        have HG := hide HF
        clear HF
        go_wp2_with (go_at_call 48; refine (in_any _ _ _ _).mono ?_; rintro e w' ⟨rfl, hw⟩; replace hw := hw.symm; subst hw; rw [hb])
        go_ret
        exact ⟨ret_bool (unhide HG).symm, unhide HA⟩
      · skip
        have HF := unhide HY
        rw [ev, en] at HF
        have HG := hide HF
        clear HF
        go_wp2_with (go_at_call 48; refine (in_any _ _ _ _).mono ?_; rintro e w' ⟨rfl, hw⟩; replace hw := hw.symm; subst hw; rw [hb])
        go_ret
        exact ⟨ret_bool (unhide HG).symm, unhide HA⟩
  · have HY := hide ((unhide HX).trans (useB_5 (.inl h)))
    rw [h] at c0 hb
    clear HX h
    cases eg : (q.g == 0)
    · skip
      cases ev : (q.v == 0)
      · skip
        have HF := unhide HY
        rw [eg, ev] at HF
        have HG := hide HF
        clear HF
        go_wp2_with (go_at_call 48; refine (in_any _ _ _ _).mono ?_; rintro e w' ⟨rfl, hw⟩; replace hw := hw.symm; subst hw; rw [hb])
        go_ret
        exact ⟨ret_bool (unhide HG).symm, unhide HA⟩
      · skip
        have HF := unhide HY
        rw [eg, ev] at HF
        have HG := hide HF
        clear HF
        go_wp2_with (go_at_call 48; refine (in_any _ _ _ _).mono ?_; rintro e w' ⟨rfl, hw⟩; replace hw := hw.symm; subst hw; rw [hb])
        go_ret
        exact ⟨ret_bool (unhide HG).symm, unhide HA⟩
    · skip
      cases ev : (q.v == 0)
      · skip
        have HF := unhide HY
        rw [eg, ev] at HF
        have HG := hide HF
        clear HF
        go_wp2_with (go_at_call 48; refine (in_any _ _ _ _).mono ?_; rintro e w' ⟨rfl, hw⟩; replace hw := hw.symm; subst hw; rw [hb])
        go_ret
        exact ⟨ret_bool (unhide HG).symm, unhide HA⟩
      · skip
        have HF := unhide HY
        rw [eg, ev] at HF
        have HG := hide HF
        clear HF
        go_wp2_with (go_at_call 48; refine (in_any _ _ _ _).mono ?_; rintro e w' ⟨rfl, hw⟩; replace hw := hw.symm; subst hw; rw [hb])
        go_ret
        exact ⟨ret_bool (unhide HG).symm, unhide HA⟩
  · have HY := hide ((unhide HX).trans (useB_5 (.inr (.inl h))))
    rw [h] at c0 hb
    clear HX h
    cases eg : (q.g == 0)
    · skip
      cases ev : (q.v == 0)
      · skip
        have HF := unhide HY
        rw [eg, ev] at HF
        have HG := hide HF
        clear HF
        go_wp2_with (go_at_call 48; refine (in_any _ _ _ _).mono ?_; rintro e w' ⟨rfl, hw⟩; replace hw := hw.symm; subst hw; rw [hb])
        go_ret
        exact ⟨ret_bool (unhide HG).symm, unhide HA⟩
      · skip
        have HF := unhide HY
        rw [eg, ev] at HF
        have HG := hide HF
        clear HF
        go_wp2_with (go_at_call 48; refine (in_any _ _ _ _).mono ?_; rintro e w' ⟨rfl, hw⟩; replace hw := hw.symm; subst hw; rw [hb])
        go_ret
        exact ⟨ret_bool (unhide HG).symm, unhide HA⟩
    · skip
      cases ev : (q.v == 0)
      · skip
        have HF := unhide HY
        rw [eg, ev] at HF
        have HG := hide HF
        clear HF
        go_wp2_with (go_at_call 48; refine (in_any _ _ _ _).mono ?_; rintro e w' ⟨rfl, hw⟩; replace hw := hw.symm; subst hw; rw [hb])
        go_ret
        exact ⟨ret_bool (unhide HG).symm, unhide HA⟩
      · skip
        have HF := unhide HY
        rw [eg, ev] at HF
        have HG := hide HF
        clear HF
        go_wp2_with (go_at_call 48; refine (in_any _ _ _ _).mono ?_; rintro e w' ⟨rfl, hw⟩; replace hw := hw.symm; subst hw; rw [hb])
        go_ret
        exact ⟨ret_bool (unhide HG).symm, unhide HA⟩
  · have HY := hide ((unhide HX).trans (useB_5 (.inr (.inr h))))
    rw [h] at c0 hb
    clear HX h
    cases eg : (q.g == 0)
    · skip
      cases ev : (q.v == 0)
      · skip
        have HF := unhide HY
        rw [eg, ev] at HF
        have HG := hide HF
        clear HF
        go_wp2_with (go_at_call 48; refine (in_any _ _ _ _).mono ?_; rintro e w' ⟨rfl, hw⟩; replace hw := hw.symm; subst hw; rw [hb])
        go_ret
        exact ⟨ret_bool (unhide HG).symm, unhide HA⟩
      · skip
        have HF := unhide HY
        rw [eg, ev] at HF
        have HG := hide HF
        clear HF
        go_wp2_with (go_at_call 48; refine (in_any _ _ _ _).mono ?_; rintro e w' ⟨rfl, hw⟩; replace hw := hw.symm; subst hw; rw [hb])
        go_ret
        exact ⟨ret_bool (unhide HG).symm, unhide HA⟩
    · skip
      cases ev : (q.v == 0)
      · skip
        have HF := unhide HY
        rw [eg, ev] at HF
        have HG := hide HF
        clear HF
        go_wp2_with (go_at_call 48; refine (in_any _ _ _ _).mono ?_; rintro e w' ⟨rfl, hw⟩; replace hw := hw.symm; subst hw; rw [hb])
        go_ret
        exact ⟨ret_bool (unhide HG).symm, unhide HA⟩
      · skip
        have HF := unhide HY
        rw [eg, ev] at HF
        have HG := hide HF
        clear HF
        go_wp2_with (go_at_call 48; refine (in_any _ _ _ _).mono ?_; rintro e w' ⟨rfl, hw⟩; replace hw := hw.symm; subst hw; rw [hb])
        go_ret
        exact ⟨ret_bool (unhide HG).symm, unhide HA⟩
  · have HY := hide ((unhide HX).trans (useB_8 h))
    rw [h] at c0 hb
    clear HX h
    cases eg : (q.g == 0)
    · skip
      cases ev : (q.v == 0)
      · skip
        cases en : (q.n.toList.isEmpty)
        · skip
          have HF := unhide HY
          rw [eg, ev, en] at HF
          have HG := hide HF
          clear HF
          go_wp2_with (go_at_call 48; refine (in_any _ _ _ _).mono ?_; rintro e w' ⟨rfl, hw⟩; replace hw := hw.symm; subst hw; rw [hb])
          go_ret
          exact ⟨ret_bool (unhide HG).symm, unhide HA⟩
        · skip
          have HF := unhide HY
          rw [eg, ev, en] at HF
          have HG := hide HF
          clear HF
          go_wp2_with (go_at_call 48; refine (in_any _ _ _ _).mono ?_; rintro e w' ⟨rfl, hw⟩; replace hw := hw.symm; subst hw; rw [hb])
          go_ret
          exact ⟨ret_bool (unhide HG).symm, unhide HA⟩
      · skip
        cases en : (q.n.toList.isEmpty)
        · skip
          have HF := unhide HY
          rw [eg, ev, en] at HF
          have HG := hide HF
          clear HF
          go_wp2_with (go_at_call 48; refine (in_any _ _ _ _).mono ?_; rintro e w' ⟨rfl, hw⟩; replace hw := hw.symm; subst hw; rw [hb])
          go_ret
          exact ⟨ret_bool (unhide HG).symm, unhide HA⟩
        · skip
          have HF := unhide HY
          rw [eg, ev, en] at HF
          have HG := hide HF
          clear HF
          go_wp2_with (go_at_call 48; refine (in_any _ _ _ _).mono ?_; rintro e w' ⟨rfl, hw⟩; replace hw := hw.symm; subst hw; rw [hb])
          go_ret
          exact ⟨ret_bool (unhide HG).symm, unhide HA⟩
    · skip
      cases ev : (q.v == 0)
      · skip
        cases en : (q.n.toList.isEmpty)
        · skip
          have HF := unhide HY
          rw [eg, ev, en] at HF
          have HG := hide HF
          clear HF
          go_wp2_with (go_at_call 48; refine (in_any _ _ _ _).mono ?_; rintro e w' ⟨rfl, hw⟩; replace hw := hw.symm; subst hw; rw [hb])
          go_ret
          exact ⟨ret_bool (unhide HG).symm, unhide HA⟩
        · skip
          have HF := unhide HY
          rw [eg, ev, en] at HF
          have HG := hide HF
          clear HF
          go_wp2_with (go_at_call 48; refine (in_any _ _ _ _).mono ?_; rintro e w' ⟨rfl, hw⟩; replace hw := hw.symm; subst hw; rw [hb])
          go_ret
          exact ⟨ret_bool (unhide HG).symm, unhide HA⟩
      · skip
        cases en : (q.n.toList.isEmpty)
        · skip
          have HF := unhide HY
          rw [eg, ev, en] at HF
          have HG := hide HF
          clear HF
          go_wp2_with (go_at_call 48; refine (in_any _ _ _ _).mono ?_; rintro e w' ⟨rfl, hw⟩; replace hw := hw.symm; subst hw; rw [hb])
          go_ret
          exact ⟨ret_bool (unhide HG).symm, unhide HA⟩
        · skip
          have HF := unhide HY
          rw [eg, ev, en] at HF
          have HG := hide HF
          clear HF
          go_wp2_with (go_at_call 48; refine (in_any _ _ _ _).mono ?_; rintro e w' ⟨rfl, hw⟩; replace hw := hw.symm; subst hw; rw [hb])
          go_ret
          exact ⟨ret_bool (unhide HG).symm, unhide HA⟩

end Go.Proofs.Ytbmkdbccdnbbjac

namespace Go.Proofs.Ytbmkdbccdnbbjac
open Go.RowKit
set_option linter.unusedVariables false
set_option maxRecDepth 100000

def usV (q : Rq) : Value :=
  if q.k = 1 then .iface 117 (.agg #[.int .i64 q.g])
  else if q.k = 2 then .iface 120 (.agg #[.int .i64 q.g, .int .i64 q.v])
  else if q.k = 3 then .iface 122 (.agg #[.int .i64 q.g])
  else if q.k = 4 then .iface 124 (.agg #[.int .i64 q.g])
  else if q.k = 5 then .iface 127 (.agg #[.string q.n])
  else if q.k = 6 then .iface 129 (.agg #[.string q.n])
  else if q.k = 7 then .iface 130 (.agg #[.string q.n])
  else .iface 133 (.agg #[])

theorem us_1 {q : Rq} (h : q.k = 1) : usV q = .iface 117 (.agg #[.int .i64 q.g]) := by
  unfold usV
  rw [if_pos h]
theorem pl_1 {q : Rq} (h : q.k = 1) : qV (plR q) = .agg #[.int .i64 1, .int .i64 q.g, .int .i64 0, .string ⟨#[]⟩] := by
  unfold plR
  rw [if_pos h]
theorem us_2 {q : Rq} (h : q.k = 2) : usV q = .iface 120 (.agg #[.int .i64 q.g, .int .i64 q.v]) := by
  unfold usV
  rw [if_neg (by omega), if_pos h]
theorem pl_2 {q : Rq} (h : q.k = 2) : qV (plR q) = .agg #[.int .i64 2, .int .i64 q.g, .int .i64 q.v, .string ⟨#[]⟩] := by
  unfold plR
  rw [if_neg (by omega), if_pos h]
theorem us_3 {q : Rq} (h : q.k = 3) : usV q = .iface 122 (.agg #[.int .i64 q.g]) := by
  unfold usV
  rw [if_neg (by omega), if_neg (by omega), if_pos h]
theorem pl_3 {q : Rq} (h : q.k = 3) : qV (plR q) = .agg #[.int .i64 3, .int .i64 q.g, .int .i64 0, .string ⟨#[]⟩] := by
  unfold plR
  rw [if_neg (by omega), if_neg (by omega), if_pos h]
theorem us_4 {q : Rq} (h : q.k = 4) : usV q = .iface 124 (.agg #[.int .i64 q.g]) := by
  unfold usV
  rw [if_neg (by omega), if_neg (by omega), if_neg (by omega), if_pos h]
theorem pl_4 {q : Rq} (h : q.k = 4) : qV (plR q) = .agg #[.int .i64 4, .int .i64 q.g, .int .i64 0, .string ⟨#[]⟩] := by
  unfold plR
  rw [if_neg (by omega), if_neg (by omega), if_neg (by omega), if_pos h]
theorem us_5 {q : Rq} (h : q.k = 5) : usV q = .iface 127 (.agg #[.string q.n]) := by
  unfold usV
  rw [if_neg (by omega), if_neg (by omega), if_neg (by omega), if_neg (by omega), if_pos h]
theorem pl_5 {q : Rq} (h : q.k = 5) : qV (plR q) = .agg #[.int .i64 5, .int .i64 0, .int .i64 0, .string q.n] := by
  unfold plR
  rw [if_neg (by omega), if_neg (by omega), if_neg (by omega), if_neg (by omega), if_pos h]
theorem us_6 {q : Rq} (h : q.k = 6) : usV q = .iface 129 (.agg #[.string q.n]) := by
  unfold usV
  rw [if_neg (by omega), if_neg (by omega), if_neg (by omega), if_neg (by omega), if_neg (by omega), if_pos h]
theorem pl_6 {q : Rq} (h : q.k = 6) : qV (plR q) = .agg #[.int .i64 6, .int .i64 0, .int .i64 0, .string q.n] := by
  unfold plR
  rw [if_neg (by omega), if_neg (by omega), if_neg (by omega), if_neg (by omega), if_neg (by omega), if_pos h]
theorem us_7 {q : Rq} (h : q.k = 7) : usV q = .iface 130 (.agg #[.string q.n]) := by
  unfold usV
  rw [if_neg (by omega), if_neg (by omega), if_neg (by omega), if_neg (by omega), if_neg (by omega), if_neg (by omega), if_pos h]
theorem pl_7 {q : Rq} (h : q.k = 7) : qV (plR q) = .agg #[.int .i64 7, .int .i64 0, .int .i64 0, .string q.n] := by
  unfold plR
  rw [if_neg (by omega), if_neg (by omega), if_neg (by omega), if_neg (by omega), if_neg (by omega), if_neg (by omega), if_pos h]
theorem us_8 {q : Rq} (h : ¬ q.k = 1 ∧ ¬ q.k = 2 ∧ ¬ q.k = 3 ∧ ¬ q.k = 4 ∧ ¬ q.k = 5 ∧ ¬ q.k = 6 ∧ ¬ q.k = 7) : usV q = .iface 133 (.agg #[]) := by
  unfold usV
  rw [if_neg (by omega), if_neg (by omega), if_neg (by omega), if_neg (by omega), if_neg (by omega), if_neg (by omega), if_neg (by omega)]
theorem pl_8 {q : Rq} (h : ¬ q.k = 1 ∧ ¬ q.k = 2 ∧ ¬ q.k = 3 ∧ ¬ q.k = 4 ∧ ¬ q.k = 5 ∧ ¬ q.k = 6 ∧ ¬ q.k = 7) : qV (plR q) = .agg #[.int .i64 8, .int .i64 0, .int .i64 0, .string ⟨#[]⟩] := by
  unfold plR
  rw [if_neg (by omega), if_neg (by omega), if_neg (by omega), if_neg (by omega), if_neg (by omega), if_neg (by omega), if_neg (by omega)]
theorem rq_8 (q : Rq) : q.k = 1 ∨ q.k = 2 ∨ q.k = 3 ∨ q.k = 4 ∨ q.k = 5 ∨ q.k = 6 ∨ q.k = 7 ∨ (¬ q.k = 1 ∧ ¬ q.k = 2 ∧ ¬ q.k = 3 ∧ ¬ q.k = 4 ∧ ¬ q.k = 5 ∧ ¬ q.k = 6 ∧ ¬ q.k = 7) := by omega
abbrev VarR (w : World) (x : Nat) (q : Rq) : Prop := VarM w x 39 (.int .i64 q.k) (.int .i64 q.g) (.int .i64 q.v) (.string q.n)

set_option maxHeartbeats 3200000 in
theorem useOf_any (q : Rq) (w : World) : Calls Try.prog 33 #[qV q] w fun e w' => e = .returned (usV q) ∧ Below w.heap.size w w' := by
  have HA := hide (Joins.below_alloc1 w (.cells #[.int .i64 q.k, .int .i64 q.g, .int .i64 q.v, .string q.n] 39))
  have HV := hide (VarM.new w 39 (.int .i64 q.k) (.int .i64 q.g) (.int .i64 q.v) (.string q.n))
  obtain ⟨R, HR⟩ : ∃ R, Hid (R = usV q) := ⟨_, hide rfl⟩
  rw [← unhide HR]
  go_enter Try.func33, Try.ntmps33
  go_upto_region 1 with fail
  revert HA HV
  generalize (w.alloc _) = W0
  intro HA HV
  obtain ⟨c0, c1, c2, c3⟩ := (unhide HV).cells
  rcases rq_8 q with h | h | h | h | h | h | h | h
  · have HX := hide ((unhide HR).trans (us_1 h))
    rw [h] at c0
    clear HR h
    go_wp2
    go_ret
    exact ⟨by rw [unhide HX]; rfl, unhide HA⟩
  · have HX := hide ((unhide HR).trans (us_2 h))
    rw [h] at c0
    clear HR h
    go_wp2
    go_ret
    exact ⟨by rw [unhide HX]; rfl, unhide HA⟩
  · have HX := hide ((unhide HR).trans (us_3 h))
    rw [h] at c0
    clear HR h
    go_wp2
    go_ret
    exact ⟨by rw [unhide HX]; rfl, unhide HA⟩
  · have HX := hide ((unhide HR).trans (us_4 h))
    rw [h] at c0
    clear HR h
    go_wp2
    go_ret
    exact ⟨by rw [unhide HX]; rfl, unhide HA⟩
  · have HX := hide ((unhide HR).trans (us_5 h))
    rw [h] at c0
    clear HR h
    go_wp2
    go_ret
    exact ⟨by rw [unhide HX]; rfl, unhide HA⟩
  · have HX := hide ((unhide HR).trans (us_6 h))
    rw [h] at c0
    clear HR h
    go_wp2
    go_ret
    exact ⟨by rw [unhide HX]; rfl, unhide HA⟩
  · have HX := hide ((unhide HR).trans (us_7 h))
    rw [h] at c0
    clear HR h
    go_wp2
    go_ret
    exact ⟨by rw [unhide HX]; rfl, unhide HA⟩
  · have HX := hide ((unhide HR).trans (us_8 h))
    have b1 : (q.k == 1) = false := by rw [beq_eq_false_iff_ne]; omega
    have b2 : (q.k == 2) = false := by rw [beq_eq_false_iff_ne]; omega
    have b3 : (q.k == 3) = false := by rw [beq_eq_false_iff_ne]; omega
    have b4 : (q.k == 4) = false := by rw [beq_eq_false_iff_ne]; omega
    have b5 : (q.k == 5) = false := by rw [beq_eq_false_iff_ne]; omega
    have b6 : (q.k == 6) = false := by rw [beq_eq_false_iff_ne]; omega
    have b7 : (q.k == 7) = false := by rw [beq_eq_false_iff_ne]; omega
    clear HR h
    go_wp2
    go_ret
    exact ⟨by rw [unhide HX]; rfl, unhide HA⟩

theorem as_1_1 (v : Value) (W : World) : (Instr.typeAssert (.iface 117 v) 20 117 true).run Try.prog W = .ok (.tuple #[v, .bool true]) W := by kernel_rfl
theorem as_2_1 (v : Value) (W : World) : (Instr.typeAssert (.iface 120 v) 20 117 true).run Try.prog W = .ok (.tuple #[.agg #[.int .i64 0], .bool false]) W := by kernel_rfl
theorem as_2_2 (v : Value) (W : World) : (Instr.typeAssert (.iface 120 v) 20 120 true).run Try.prog W = .ok (.tuple #[v, .bool true]) W := by kernel_rfl
theorem as_3_1 (v : Value) (W : World) : (Instr.typeAssert (.iface 122 v) 20 117 true).run Try.prog W = .ok (.tuple #[.agg #[.int .i64 0], .bool false]) W := by kernel_rfl
theorem as_3_2 (v : Value) (W : World) : (Instr.typeAssert (.iface 122 v) 20 120 true).run Try.prog W = .ok (.tuple #[.agg #[.int .i64 0, .int .i64 0], .bool false]) W := by kernel_rfl
theorem as_3_3 (v : Value) (W : World) : (Instr.typeAssert (.iface 122 v) 20 122 true).run Try.prog W = .ok (.tuple #[v, .bool true]) W := by kernel_rfl
theorem as_4_1 (v : Value) (W : World) : (Instr.typeAssert (.iface 124 v) 20 117 true).run Try.prog W = .ok (.tuple #[.agg #[.int .i64 0], .bool false]) W := by kernel_rfl
theorem as_4_2 (v : Value) (W : World) : (Instr.typeAssert (.iface 124 v) 20 120 true).run Try.prog W = .ok (.tuple #[.agg #[.int .i64 0, .int .i64 0], .bool false]) W := by kernel_rfl
theorem as_4_3 (v : Value) (W : World) : (Instr.typeAssert (.iface 124 v) 20 122 true).run Try.prog W = .ok (.tuple #[.agg #[.int .i64 0], .bool false]) W := by kernel_rfl
theorem as_4_4 (v : Value) (W : World) : (Instr.typeAssert (.iface 124 v) 20 124 true).run Try.prog W = .ok (.tuple #[v, .bool true]) W := by kernel_rfl
theorem as_5_1 (v : Value) (W : World) : (Instr.typeAssert (.iface 127 v) 20 117 true).run Try.prog W = .ok (.tuple #[.agg #[.int .i64 0], .bool false]) W := by kernel_rfl
theorem as_5_2 (v : Value) (W : World) : (Instr.typeAssert (.iface 127 v) 20 120 true).run Try.prog W = .ok (.tuple #[.agg #[.int .i64 0, .int .i64 0], .bool false]) W := by kernel_rfl
theorem as_5_3 (v : Value) (W : World) : (Instr.typeAssert (.iface 127 v) 20 122 true).run Try.prog W = .ok (.tuple #[.agg #[.int .i64 0], .bool false]) W := by kernel_rfl
theorem as_5_4 (v : Value) (W : World) : (Instr.typeAssert (.iface 127 v) 20 124 true).run Try.prog W = .ok (.tuple #[.agg #[.int .i64 0], .bool false]) W := by kernel_rfl
theorem as_5_5 (v : Value) (W : World) : (Instr.typeAssert (.iface 127 v) 20 127 true).run Try.prog W = .ok (.tuple #[v, .bool true]) W := by kernel_rfl
theorem as_6_1 (v : Value) (W : World) : (Instr.typeAssert (.iface 129 v) 20 117 true).run Try.prog W = .ok (.tuple #[.agg #[.int .i64 0], .bool false]) W := by kernel_rfl
theorem as_6_2 (v : Value) (W : World) : (Instr.typeAssert (.iface 129 v) 20 120 true).run Try.prog W = .ok (.tuple #[.agg #[.int .i64 0, .int .i64 0], .bool false]) W := by kernel_rfl
theorem as_6_3 (v : Value) (W : World) : (Instr.typeAssert (.iface 129 v) 20 122 true).run Try.prog W = .ok (.tuple #[.agg #[.int .i64 0], .bool false]) W := by kernel_rfl
theorem as_6_4 (v : Value) (W : World) : (Instr.typeAssert (.iface 129 v) 20 124 true).run Try.prog W = .ok (.tuple #[.agg #[.int .i64 0], .bool false]) W := by kernel_rfl
theorem as_6_5 (v : Value) (W : World) : (Instr.typeAssert (.iface 129 v) 20 127 true).run Try.prog W = .ok (.tuple #[.agg #[.string ⟨#[]⟩], .bool false]) W := by kernel_rfl
theorem as_6_6 (v : Value) (W : World) : (Instr.typeAssert (.iface 129 v) 20 129 true).run Try.prog W = .ok (.tuple #[v, .bool true]) W := by kernel_rfl
theorem as_7_1 (v : Value) (W : World) : (Instr.typeAssert (.iface 130 v) 20 117 true).run Try.prog W = .ok (.tuple #[.agg #[.int .i64 0], .bool false]) W := by kernel_rfl
theorem as_7_2 (v : Value) (W : World) : (Instr.typeAssert (.iface 130 v) 20 120 true).run Try.prog W = .ok (.tuple #[.agg #[.int .i64 0, .int .i64 0], .bool false]) W := by kernel_rfl
theorem as_7_3 (v : Value) (W : World) : (Instr.typeAssert (.iface 130 v) 20 122 true).run Try.prog W = .ok (.tuple #[.agg #[.int .i64 0], .bool false]) W := by kernel_rfl
theorem as_7_4 (v : Value) (W : World) : (Instr.typeAssert (.iface 130 v) 20 124 true).run Try.prog W = .ok (.tuple #[.agg #[.int .i64 0], .bool false]) W := by kernel_rfl
theorem as_7_5 (v : Value) (W : World) : (Instr.typeAssert (.iface 130 v) 20 127 true).run Try.prog W = .ok (.tuple #[.agg #[.string ⟨#[]⟩], .bool false]) W := by kernel_rfl
theorem as_7_6 (v : Value) (W : World) : (Instr.typeAssert (.iface 130 v) 20 129 true).run Try.prog W = .ok (.tuple #[.agg #[.string ⟨#[]⟩], .bool false]) W := by kernel_rfl
theorem as_7_7 (v : Value) (W : World) : (Instr.typeAssert (.iface 130 v) 20 130 true).run Try.prog W = .ok (.tuple #[v, .bool true]) W := by kernel_rfl
theorem as_8_1 (v : Value) (W : World) : (Instr.typeAssert (.iface 133 v) 20 117 true).run Try.prog W = .ok (.tuple #[.agg #[.int .i64 0], .bool false]) W := by kernel_rfl
theorem as_8_2 (v : Value) (W : World) : (Instr.typeAssert (.iface 133 v) 20 120 true).run Try.prog W = .ok (.tuple #[.agg #[.int .i64 0, .int .i64 0], .bool false]) W := by kernel_rfl
theorem as_8_3 (v : Value) (W : World) : (Instr.typeAssert (.iface 133 v) 20 122 true).run Try.prog W = .ok (.tuple #[.agg #[.int .i64 0], .bool false]) W := by kernel_rfl
theorem as_8_4 (v : Value) (W : World) : (Instr.typeAssert (.iface 133 v) 20 124 true).run Try.prog W = .ok (.tuple #[.agg #[.int .i64 0], .bool false]) W := by kernel_rfl
theorem as_8_5 (v : Value) (W : World) : (Instr.typeAssert (.iface 133 v) 20 127 true).run Try.prog W = .ok (.tuple #[.agg #[.string ⟨#[]⟩], .bool false]) W := by kernel_rfl
theorem as_8_6 (v : Value) (W : World) : (Instr.typeAssert (.iface 133 v) 20 129 true).run Try.prog W = .ok (.tuple #[.agg #[.string ⟨#[]⟩], .bool false]) W := by kernel_rfl
theorem as_8_7 (v : Value) (W : World) : (Instr.typeAssert (.iface 133 v) 20 130 true).run Try.prog W = .ok (.tuple #[.agg #[.string ⟨#[]⟩], .bool false]) W := by kernel_rfl
theorem res_q {fn : Func} {p : Tmp} {v0 v1 v2 v3 : Value} {x : Nat} {W : World} {tmps : Array Value} (h : fn.results = #[.cell p 39]) (hp : tmps.getD p undef = .pointer (some ⟨x, 0, none⟩)) (hv : W.heap[x]? = some (.cells #[v0, v1, v2, v3] 39 (0, 0))) :
    (results fn tmps).run Try.prog W = .ok (.agg #[v0, v1, v2, v3]) W := by
  obtain ⟨c0, c1, c2, c3⟩ := VarM.cells (t := 39) hv
  rw [Array.getD_eq_getD_getElem?] at hp
  simp [results, h, hp, go_sem, c0, c1, c2, c3]
theorem VarM.put4 {w W : World} {x t : Nat} {u0 u1 u2 u3 : Value} (h : VarM W x t u0 u1 u2 u3) (hb : Below w.heap.size w W) (hx : w.heap.size ≤ x) (v0 v1 v2 v3 : Value) :
    VarM ((((W.setCell ⟨x, 0, none⟩ v0).setCell ⟨x, 1, none⟩ v1).setCell ⟨x, 2, none⟩ v2).setCell ⟨x, 3, none⟩ v3) x t v0 v1 v2 v3 ∧ Below w.heap.size w ((((W.setCell ⟨x, 0, none⟩ v0).setCell ⟨x, 1, none⟩ v1).setCell ⟨x, 2, none⟩ v2).setCell ⟨x, 3, none⟩ v3) :=
  ⟨(((h.set0 _).set1 _).set2 _).set3 _, (((hb.setCell (p := ⟨x, 0, none⟩) hx _).setCell (p := ⟨x, 1, none⟩) hx _).setCell (p := ⟨x, 2, none⟩) hx _).setCell (p := ⟨x, 3, none⟩) hx _⟩

set_option maxHeartbeats 6400000 in
theorem plainReq_any (q : Rq) (w : World) : Calls Try.prog 70 #[usV q] w fun e w' => e = .returned (qV (plR q)) ∧ Below w.heap.size w w' := by
  have HA := hide (Joins.below_alloc1 w (.cells #[.int .i64 0, .int .i64 0, .int .i64 0, .string ⟨#[]⟩] 39))
  have HV := hide (VarM.new w 39 (.int .i64 0) (.int .i64 0) (.int .i64 0) (.string ⟨#[]⟩))
  obtain ⟨R, HR⟩ : ∃ R, Hid (R = qV (plR q)) := ⟨_, hide rfl⟩
  rw [← unhide HR]
  rcases rq_8 q with h | h | h | h | h | h | h | h
  · have HX := hide ((unhide HR).trans (pl_1 h))
    rw [us_1 h]
    clear HR h
    have a1 := as_1_1
    go_enter Try.func70, Try.ntmps70
    have HA2 := hide (fr (unhide HA) (Joins.below_alloc1 _ (.cells #[.int .i64 q.g] 117)))
    have HV2 := hide ((unhide HV).below (Joins.below_alloc1 _ (.cells #[.int .i64 q.g] 117)))
    have HC0 : Hid (((w.alloc (.cells #[.int .i64 0, .int .i64 0, .int .i64 0, .string ⟨#[]⟩] 39)).alloc (.cells #[.int .i64 q.g] 117)).cell? ⟨w.heap.size + 1, 0, none⟩ = some (.int .i64 q.g)) := hide (by simp)
    go_upto_region 4 with fail
    revert HC0
    revert HV2
    revert HA2
    generalize ((w.alloc _).alloc _) = W2
    intro HA2 HV2 HC0
    have k0 := unhide HC0
    have HP := hide ((unhide HV2).put4 (unhide HA2) (Nat.le_refl _) (.int .i64 1) (.int .i64 q.g) (.int .i64 0) (.string ⟨#[]⟩))
    obtain ⟨c0, c1, c2, c3⟩ := (unhide HV2).cells
    obtain ⟨f0, f1, f2, f3⟩ := (unhide HV2).free
    go_wp2
    refine bodyPost_ret (res_q Try.results70 rfl (unhide HP).1) rfl ⟨by rw [unhide HX], (unhide HP).2⟩
  · have HX := hide ((unhide HR).trans (pl_2 h))
    rw [us_2 h]
    clear HR h
    have a1 := as_2_1
    have a2 := as_2_2
    go_enter Try.func70, Try.ntmps70
    have HA2 := hide (fr (unhide HA) (Joins.below_alloc1 _ (.cells #[.int .i64 q.g, .int .i64 q.v] 120)))
    have HV2 := hide ((unhide HV).below (Joins.below_alloc1 _ (.cells #[.int .i64 q.g, .int .i64 q.v] 120)))
    have HC0 : Hid (((w.alloc (.cells #[.int .i64 0, .int .i64 0, .int .i64 0, .string ⟨#[]⟩] 39)).alloc (.cells #[.int .i64 q.g, .int .i64 q.v] 120)).cell? ⟨w.heap.size + 1, 0, none⟩ = some (.int .i64 q.g)) := hide (by simp)
    have HC1 : Hid (((w.alloc (.cells #[.int .i64 0, .int .i64 0, .int .i64 0, .string ⟨#[]⟩] 39)).alloc (.cells #[.int .i64 q.g, .int .i64 q.v] 120)).cell? ⟨w.heap.size + 1, 1, none⟩ = some (.int .i64 q.v)) := hide (by simp)
    go_upto_region 7 with fail
    revert HC0
    revert HC1
    revert HV2
    revert HA2
    generalize ((w.alloc _).alloc _) = W2
    intro HA2 HV2 HC1 HC0
    have k0 := unhide HC0
    have k1 := unhide HC1
    have HP := hide ((unhide HV2).put4 (unhide HA2) (Nat.le_refl _) (.int .i64 2) (.int .i64 q.g) (.int .i64 q.v) (.string ⟨#[]⟩))
    obtain ⟨c0, c1, c2, c3⟩ := (unhide HV2).cells
    obtain ⟨f0, f1, f2, f3⟩ := (unhide HV2).free
    go_wp2
    refine bodyPost_ret (res_q Try.results70 rfl (unhide HP).1) rfl ⟨by rw [unhide HX], (unhide HP).2⟩
  · have HX := hide ((unhide HR).trans (pl_3 h))
    rw [us_3 h]
    clear HR h
    have a1 := as_3_1
    have a2 := as_3_2
    have a3 := as_3_3
    go_enter Try.func70, Try.ntmps70
    have HA2 := hide (fr (unhide HA) (Joins.below_alloc1 _ (.cells #[.int .i64 q.g] 122)))
    have HV2 := hide ((unhide HV).below (Joins.below_alloc1 _ (.cells #[.int .i64 q.g] 122)))
    have HC0 : Hid (((w.alloc (.cells #[.int .i64 0, .int .i64 0, .int .i64 0, .string ⟨#[]⟩] 39)).alloc (.cells #[.int .i64 q.g] 122)).cell? ⟨w.heap.size + 1, 0, none⟩ = some (.int .i64 q.g)) := hide (by simp)
    go_upto_region 10 with fail
    revert HC0
    revert HV2
    revert HA2
    generalize ((w.alloc _).alloc _) = W2
    intro HA2 HV2 HC0
    have k0 := unhide HC0
    have HP := hide ((unhide HV2).put4 (unhide HA2) (Nat.le_refl _) (.int .i64 3) (.int .i64 q.g) (.int .i64 0) (.string ⟨#[]⟩))
    obtain ⟨c0, c1, c2, c3⟩ := (unhide HV2).cells
    obtain ⟨f0, f1, f2, f3⟩ := (unhide HV2).free
    go_wp2
    refine bodyPost_ret (res_q Try.results70 rfl (unhide HP).1) rfl ⟨by rw [unhide HX], (unhide HP).2⟩
  · have HX := hide ((unhide HR).trans (pl_4 h))
    rw [us_4 h]
    clear HR h
    have a1 := as_4_1
    have a2 := as_4_2
    have a3 := as_4_3
    have a4 := as_4_4
    go_enter Try.func70, Try.ntmps70
    have HA2 := hide (fr (unhide HA) (Joins.below_alloc1 _ (.cells #[.int .i64 q.g] 124)))
    have HV2 := hide ((unhide HV).below (Joins.below_alloc1 _ (.cells #[.int .i64 q.g] 124)))
    have HC0 : Hid (((w.alloc (.cells #[.int .i64 0, .int .i64 0, .int .i64 0, .string ⟨#[]⟩] 39)).alloc (.cells #[.int .i64 q.g] 124)).cell? ⟨w.heap.size + 1, 0, none⟩ = some (.int .i64 q.g)) := hide (by simp)
    go_upto_region 13 with fail
    revert HC0
    revert HV2
    revert HA2
    generalize ((w.alloc _).alloc _) = W2
    intro HA2 HV2 HC0
    have k0 := unhide HC0
    have HP := hide ((unhide HV2).put4 (unhide HA2) (Nat.le_refl _) (.int .i64 4) (.int .i64 q.g) (.int .i64 0) (.string ⟨#[]⟩))
    obtain ⟨c0, c1, c2, c3⟩ := (unhide HV2).cells
    obtain ⟨f0, f1, f2, f3⟩ := (unhide HV2).free
    go_wp2
    refine bodyPost_ret (res_q Try.results70 rfl (unhide HP).1) rfl ⟨by rw [unhide HX], (unhide HP).2⟩
  · have HX := hide ((unhide HR).trans (pl_5 h))
    rw [us_5 h]
    clear HR h
    have a1 := as_5_1
    have a2 := as_5_2
    have a3 := as_5_3
    have a4 := as_5_4
    have a5 := as_5_5
    go_enter Try.func70, Try.ntmps70
    have HA2 := hide (fr (unhide HA) (Joins.below_alloc1 _ (.cells #[.string q.n] 127)))
    have HV2 := hide ((unhide HV).below (Joins.below_alloc1 _ (.cells #[.string q.n] 127)))
    have HC0 : Hid (((w.alloc (.cells #[.int .i64 0, .int .i64 0, .int .i64 0, .string ⟨#[]⟩] 39)).alloc (.cells #[.string q.n] 127)).cell? ⟨w.heap.size + 1, 0, none⟩ = some (.string q.n)) := hide (by simp)
    go_upto_region 16 with fail
    revert HC0
    revert HV2
    revert HA2
    generalize ((w.alloc _).alloc _) = W2
    intro HA2 HV2 HC0
    have k0 := unhide HC0
    have HP := hide ((unhide HV2).put4 (unhide HA2) (Nat.le_refl _) (.int .i64 5) (.int .i64 0) (.int .i64 0) (.string q.n))
    obtain ⟨c0, c1, c2, c3⟩ := (unhide HV2).cells
    obtain ⟨f0, f1, f2, f3⟩ := (unhide HV2).free
    go_wp2
    refine bodyPost_ret (res_q Try.results70 rfl (unhide HP).1) rfl ⟨by rw [unhide HX], (unhide HP).2⟩
  · have HX := hide ((unhide HR).trans (pl_6 h))
    rw [us_6 h]
    clear HR h
    have a1 := as_6_1
    have a2 := as_6_2
    have a3 := as_6_3
    have a4 := as_6_4
    have a5 := as_6_5
    have a6 := as_6_6
    go_enter Try.func70, Try.ntmps70
    have HA2 := hide (fr (unhide HA) (Joins.below_alloc1 _ (.cells #[.string q.n] 129)))
    have HV2 := hide ((unhide HV).below (Joins.below_alloc1 _ (.cells #[.string q.n] 129)))
    have HC0 : Hid (((w.alloc (.cells #[.int .i64 0, .int .i64 0, .int .i64 0, .string ⟨#[]⟩] 39)).alloc (.cells #[.string q.n] 129)).cell? ⟨w.heap.size + 1, 0, none⟩ = some (.string q.n)) := hide (by simp)
    go_upto_region 19 with fail
    revert HC0
    revert HV2
    revert HA2
    generalize ((w.alloc _).alloc _) = W2
    intro HA2 HV2 HC0
    have k0 := unhide HC0
    have HP := hide ((unhide HV2).put4 (unhide HA2) (Nat.le_refl _) (.int .i64 6) (.int .i64 0) (.int .i64 0) (.string q.n))
    obtain ⟨c0, c1, c2, c3⟩ := (unhide HV2).cells
    obtain ⟨f0, f1, f2, f3⟩ := (unhide HV2).free
    go_wp2
    refine bodyPost_ret (res_q Try.results70 rfl (unhide HP).1) rfl ⟨by rw [unhide HX], (unhide HP).2⟩
  · have HX := hide ((unhide HR).trans (pl_7 h))
    rw [us_7 h]
    clear HR h
    have a1 := as_7_1
    have a2 := as_7_2
    have a3 := as_7_3
    have a4 := as_7_4
    have a5 := as_7_5
    have a6 := as_7_6
    have a7 := as_7_7
    go_enter Try.func70, Try.ntmps70
    have HA2 := hide (fr (unhide HA) (Joins.below_alloc1 _ (.cells #[.string q.n] 130)))
    have HV2 := hide ((unhide HV).below (Joins.below_alloc1 _ (.cells #[.string q.n] 130)))
    have HC0 : Hid (((w.alloc (.cells #[.int .i64 0, .int .i64 0, .int .i64 0, .string ⟨#[]⟩] 39)).alloc (.cells #[.string q.n] 130)).cell? ⟨w.heap.size + 1, 0, none⟩ = some (.string q.n)) := hide (by simp)
    go_upto_region 22 with fail
    revert HC0
    revert HV2
    revert HA2
    generalize ((w.alloc _).alloc _) = W2
    intro HA2 HV2 HC0
    have k0 := unhide HC0
    have HP := hide ((unhide HV2).put4 (unhide HA2) (Nat.le_refl _) (.int .i64 7) (.int .i64 0) (.int .i64 0) (.string q.n))
    obtain ⟨c0, c1, c2, c3⟩ := (unhide HV2).cells
    obtain ⟨f0, f1, f2, f3⟩ := (unhide HV2).free
    go_wp2
    refine bodyPost_ret (res_q Try.results70 rfl (unhide HP).1) rfl ⟨by rw [unhide HX], (unhide HP).2⟩
  · have HX := hide ((unhide HR).trans (pl_8 h))
    rw [us_8 h]
    clear HR h
    have a1 := as_8_1
    have a2 := as_8_2
    have a3 := as_8_3
    have a4 := as_8_4
    have a5 := as_8_5
    have a6 := as_8_6
    have a7 := as_8_7
    go_enter Try.func70, Try.ntmps70
    have HA2 := HA
    have HV2 := HV
    go_upto_region 23 with fail
    revert HV2
    revert HA2
    generalize (w.alloc _) = W2
    intro HA2 HV2
    have HP := hide ((unhide HV2).put4 (unhide HA2) (Nat.le_refl _) (.int .i64 8) (.int .i64 0) (.int .i64 0) (.string ⟨#[]⟩))
    obtain ⟨c0, c1, c2, c3⟩ := (unhide HV2).cells
    obtain ⟨f0, f1, f2, f3⟩ := (unhide HV2).free
    go_wp2
    refine bodyPost_ret (res_q Try.results70 rfl (unhide HP).1) rfl ⟨by rw [unhide HX], (unhide HP).2⟩

theorem eqR_run (a b : Rq) (W : World) : (binOp .eql 39 (qV a) (qV b)).run Try.prog W = .ok (.bool (eqR a b)) W := by
  have u1 := Try.underlying39
  have u2 := Try.underlying3
  have u3 := Try.underlying9
  rw [run_eql_struct, run_equalIn_struct W 9999 39 _ _ (by kernel_rfl) (by kernel_rfl)]
  cases h1 : a.k == b.k <;> cases h2 : a.g == b.g <;> cases h3 : a.v == b.v <;> cases h4 : a.n.toList == b.n.toList <;> simp [Op.eqFields, Program.fieldsOf, u1, u2, u3, part, sizeOf, typeInfo, go_sem, eqR, h1, h2, h3, h4]

end Go.Proofs.Ytbmkdbccdnbbjac

namespace Go.Proofs.Ytbmkdbccdnbbjac
open Go.RowKit
set_option linter.unusedVariables false
set_option maxRecDepth 100000

section
variable {P : Program}

end

end Go.Proofs.Ytbmkdbccdnbbjac

namespace Go.Proofs.Ytbmkdbccdnbbjac
open Go.RowKit
set_option linter.unusedVariables false

section
variable {P : Program} {ops : Array Oper}
end

end Go.Proofs.Ytbmkdbccdnbbjac

namespace Go.Proofs.Ytbmkdbccdnbbjac
open Go.RowKit
set_option linter.unusedVariables false
set_option maxRecDepth 100000

end Go.Proofs.Ytbmkdbccdnbbjac

namespace Go.Proofs.Ytbmkdbccdnbbjac
open Go.RowKit
set_option linter.unusedVariables false
set_option maxRecDepth 100000

end Go.Proofs.Ytbmkdbccdnbbjac

namespace Go.Proofs.Ytbmkdbccdnbbjac
open Go.RowKit
set_option linter.unusedVariables false
set_option maxRecDepth 100000

end Go.Proofs.Ytbmkdbccdnbbjac

namespace Go.Proofs.Ytbmkdbccdnbbjac
open Go.RowKit
set_option linter.unusedVariables false
set_option maxRecDepth 100000

end Go.Proofs.Ytbmkdbccdnbbjac

namespace Go.Proofs.Ytbmkdbccdnbbjac
open Go.RowKit Go.Maps
set_option linter.unusedVariables false
set_option maxRecDepth 100000

end Go.Proofs.Ytbmkdbccdnbbjac

namespace Go.Proofs.Ytbmkdbccdnbbjac
open Go.RowKit Go.Maps
set_option linter.unusedVariables false
set_option maxRecDepth 100000

end Go.Proofs.Ytbmkdbccdnbbjac

namespace Go.Proofs.Ytbmkdbccdnbbjac
open Go.RowKit
set_option linter.unusedVariables false
set_option maxRecDepth 100000

theorem below_bytes (w : World) (e : TypeId) (s : ByteArray) : Below w.heap.size w (Lib.bytesWorld w e s) :=
  ⟨rfl, rfl, rfl, by rw [Lib.bytesWorld_size]; omega, fun i hi => Lib.bytesWorld_at_old w e s i hi⟩

set_option maxHeartbeats 1600000 in
theorem snapNameOK_any (t : ByteArray) (w : World) (hz : t.size ≤ maxLen) :
    Calls Try.prog 99 #[.string t] w fun e w' => e = .returned (.bool (snmB t)) ∧ Below w.heap.size w w' := by
  unfold maxLen at hz
  cases hb : betw (t.size : Int) 1 6
  · have HF : Hid (snmB t = false) := hide (by rw [snmB, hb]; simp)
    go_enter Try.func99, Try.ntmps99
    go_wp2_with (go_at_call 54; refine (within_any _ _ _ _).mono ?_; rintro e w' ⟨rfl, hw⟩; replace hw := hw.symm; subst hw; rw [hb])
    go_ret
    exact ⟨ret_bool (unhide HF).symm, Below.refl _ _⟩
  have HBT := hide hb
  have h6 : t.size ≤ 6 := by have := betw_iff.1 hb; omega
  have hcv := fun (W : World) => Lib.run_convert_string_bytes (P := Try.prog) W 9 151 5 t Try.underlying9 Try.underlying151 Try.underlying5
  have HB := hide (below_bytes w 5 t)
  have HCL := hide (Lib.bytesWorld_cell w 5 t)
  go_enter Try.func99, Try.ntmps99
  go_wp2_with (go_at_call 54; refine (within_any _ _ _ _).mono ?_; rintro e w' ⟨rfl, hw⟩; replace hw := hw.symm; subst hw; rw [hb])
  revert HB HCL
  generalize Lib.bytesWorld w 5 t = w1
  generalize grownCap w t.size 0 5 = gc
  intro HB HCL
  clear hcv
  go_loop [12] (fun i => ∃ k : Nat, k ≤ t.size ∧ i = .int .i64 k ∧ Hid (∀ j (h : j < t.size), j < k → nm1 t[j] = true)) (fun i => t.size - (intOf i).toNat)
  case atStart => exact ⟨0, Nat.zero_le _, rfl, hide (fun j _ h => by omega)⟩
  case round =>
    obtain ⟨k, hk, rfl, HA⟩ := hrel
    by_cases hlt : k < t.size
    · have hck := unhide HCL k hlt
      have eck : (t.data.toList.getD k 0) = t[k] := by simp [List.getD, snm_get hlt]
      rw [eck] at hck
      clear eck
      by_cases hlo : 97 ≤ t[k].toNat
      · by_cases hhi : t[k].toNat ≤ 122
        · have HN : Hid (∀ j (h : j < t.size), j < k + 1 → nm1 t[j] = true) := hide (fun j h hj => by
            by_cases e : j = k
            · subst e; simp [nm1, hlo, hhi]
            · exact unhide HA j h (by omega))
          have h1 : ¬ ((t[k].toNat : Int) < 97) := by omega
          have h2 : ¬ (122 < (t[k].toNat : Int)) := by omega
          go_wp2
          go_round
          case rel => exact ⟨k + 1, by omega, by go_num, HN⟩
          case measure => simp [intOf]; omega
        · have HF := hide (snm_bad hlt (by simp [nm1]; omega))
          have h1 : ¬ ((t[k].toNat : Int) < 97) := by omega
          have h2 : (122 < (t[k].toNat : Int)) := by omega
          go_wp2
          go_ret
          exact ⟨ret_bool (unhide HF).symm, unhide HB⟩
      · have HF := hide (snm_bad hlt (by simp [nm1]; omega))
        have h1 : ((t[k].toNat : Int) < 97) := by omega
        go_wp2
        go_ret
        exact ⟨ret_bool (unhide HF).symm, unhide HB⟩
    · have HF := hide ((snm_all (fun j h => unhide HA j h (by omega))).trans (unhide HBT))
      go_wp2
      go_ret
      exact ⟨ret_bool (unhide HF).symm, unhide HB⟩

end Go.Proofs.Ytbmkdbccdnbbjac
