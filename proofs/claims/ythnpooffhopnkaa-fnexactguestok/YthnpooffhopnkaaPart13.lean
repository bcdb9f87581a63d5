import Derived.Test.YthnpooffhopnkaaRows
import Derived.Test.YthnpooffhopnkaaPart1
import Derived.Test.YthnpooffhopnkaaPart3
import Derived.Test.YthnpooffhopnkaaPart2
import Derived.Test.YthnpooffhopnkaaPart4
import Derived.Test.YthnpooffhopnkaaPart5
import Derived.Test.YthnpooffhopnkaaPart7
import Derived.Test.YthnpooffhopnkaaPart6
import Derived.Test.YthnpooffhopnkaaPart11
import Derived.Test.YthnpooffhopnkaaPart8
import Derived.Test.YthnpooffhopnkaaPart12
import Derived.WalkKit
import Derived.WalkSpells
import Derived.BigQuiet
import Derived.Deep.QuietTactic
import Derived.Deep.RegionWith
import Derived.Deep.RegionHeld3
import Derived.Test.YthnpooffhopnkaaPart9
import Derived.KernelRfl
import Derived.LoopN
import Derived.Laws.CopyRow
import Derived.Laws.CopyOwn

/- Contracts of the model's ReadCluster, WriteCluster. (Made ahead of stage 10.) -/
namespace Go.Proofs.Ythnpooffhopnkaa
open Go.RowKit
set_option linter.unusedVariables false
set_option maxRecDepth 100000

/-- What the calls answer. -/
def rcA (m : Img) (g : Int) : Int × Int := if imB m = true then (if betw g 0 ((m.table.length : Int) - 1) = true then (imVal m (m.table.getD g.toNat 0), 0) else (0, 4)) else (0, 1)
def wcA (m : Img) (g v : Int) : Img × Int := if imB m = true then (if betw g 0 ((m.table.length : Int) - 1) = true ∧ numB v = true then imWrite m g.toNat v else (m, 4)) else (im0, 1)
def zcA (m : Img) (g : Int) : Img × Int := if imB m = true then (if betw g 0 ((m.table.length : Int) - 1) = true then (imZero m g.toNat, 0) else (m, 4)) else (im0, 1)
def rsA' (m : Img) (n : Int) : Img × Int := if imB m = true then (if betw n 0 12 = true then (imResize m n.toNat, 0) else (m, 4)) else (im0, 1)
/-- The entry's variable, the result's beside it. -/
structure ImE (w W : World) (a : Im4) (m : Img) : Prop where
  v : VarM W w.heap.size 45 (.slice a.ro m.refs.length a.rc) (.slice a.tq m.table.length a.tc) (.slice a.so m.snaps.length a.sc) (.slice a.dq m.data.length a.dc)
  r : VarM W (w.heap.size + 1) 45 (.slice none 0 0) (.slice none 0 0) (.slice none 0 0) (.slice none 0 0)
  s : ImS W a m
  b : Below w.heap.size w W
theorem ImE.new (w : World) (a : Im4) (m : Img) (h : ImS w a m) : ImE w ((w.alloc (.cells #[.slice a.ro m.refs.length a.rc, .slice a.tq m.table.length a.tc, .slice a.so m.snaps.length a.sc, .slice a.dq m.data.length a.dc] 45)).alloc (.cells #[.slice none 0 0, .slice none 0 0, .slice none 0 0, .slice none 0 0] 45)) a m :=
  ⟨(VarM.new w _ _ _ _ _).below (Joins.below_alloc1 _ _), (VarM.new (w.alloc _) _ _ _ _ _).at (by simp), h.below (Joins.below_alloc2 _ _ _), Joins.below_alloc2 _ _ _⟩
theorem ImE.below {w W W' : World} {a : Im4} {m : Img} (h : ImE w W a m) (hb : Below W.heap.size W W') : ImE w W' a m := ⟨h.v.below hb, h.r.below hb, h.s.below hb, fr h.b hb⟩
/-- A result that is put. -/
theorem ImE.put {w W W' : World} {a : Im4} {m : Img} (h : ImE w W a m) (hb : Below W.heap.size W W') {a' : Im4} {m' : Img} {ts : List Value} (ho : OwnIm W' W.heap.size a' m' ts) :
    VarM (putI W' (w.heap.size + 1) a' m') (w.heap.size + 1) 45 (.slice a'.ro m'.refs.length a'.rc) (.slice a'.tq m'.table.length a'.tc) (.slice a'.so m'.snaps.length a'.sc) (.slice a'.dq m'.data.length a'.dc) ∧ OwnIm (putI W' (w.heap.size + 1) a' m') w.heap.size a' m' ts ∧ Below w.heap.size w (putI W' (w.heap.size + 1) a' m') := by
  obtain ⟨h1, h2, h3⟩ := ImSt.put (h.r.below hb) ho (fr h.b hb) (Nat.le_succ _) h.r.lt a' m'
  exact ⟨h1, h2.base h.b.size, h3⟩
/-- The empty image as a result. -/
theorem ImE.zero {w W : World} {a : Im4} {m : Img} (h : ImE w W a m) :
    VarM ((((W.setCell ⟨w.heap.size + 1, 0, none⟩ (.slice none 0 0)).setCell ⟨w.heap.size + 1, 1, none⟩ (.slice none 0 0)).setCell ⟨w.heap.size + 1, 2, none⟩ (.slice none 0 0)).setCell ⟨w.heap.size + 1, 3, none⟩ (.slice none 0 0)) (w.heap.size + 1) 45 (.slice none 0 0) (.slice none 0 0) (.slice none 0 0) (.slice none 0 0) ∧
    Below w.heap.size w ((((W.setCell ⟨w.heap.size + 1, 0, none⟩ (.slice none 0 0)).setCell ⟨w.heap.size + 1, 1, none⟩ (.slice none 0 0)).setCell ⟨w.heap.size + 1, 2, none⟩ (.slice none 0 0)).setCell ⟨w.heap.size + 1, 3, none⟩ (.slice none 0 0)) :=
  ⟨(((h.r.set0 _).set1 _).set2 _).set3 _, (((h.b.setCell (p := ⟨w.heap.size + 1, 0, none⟩) (Nat.le_succ _) _).setCell (p := ⟨w.heap.size + 1, 1, none⟩) (Nat.le_succ _) _).setCell (p := ⟨w.heap.size + 1, 2, none⟩) (Nat.le_succ _) _).setCell (p := ⟨w.heap.size + 1, 3, none⟩) (Nat.le_succ _) _⟩
/-- An answer: an image of its own and a code. -/
def AnsI (w w' : World) (e : Ending) (R : Img × Int) : Prop := ∃ a ts, e = .returned (.tuple #[imV a R.1, .int .i64 R.2]) ∧ OwnIm w' w.heap.size a R.1 ts ∧ Below w.heap.size w w'
theorem AnsI.of {w w' : World} {v : Value} {c : Int} {R : Img × Int} {a : Im4} {ts : List Value} (hv : v = imV a R.1) (hc : c = R.2) (ho : OwnIm w' w.heap.size a R.1 ts) (hb : Below w.heap.size w w') : AnsI w w' (.returned (.tuple #[v, .int .i64 c])) R := ⟨a, ts, by rw [hv, hc], ho, hb⟩
theorem AnsI.bad {w w' : World} (c : Int) (hb : Below w.heap.size w w') : AnsI w w' (.returned (.tuple #[.agg #[.slice none 0 0, .slice none 0 0, .slice none 0 0, .slice none 0 0], .int .i64 c])) (im0, c) := ⟨⟨none, 0, none, 0, none, 0, none, 0⟩, [], rfl, OwnIm.zero _ _, hb⟩

end Go.Proofs.Ythnpooffhopnkaa

/- The walk of laws.FnExactGuestOK, given what both functions answer. (Made ahead of stage 10; written by gens/lawim.py.) -/
namespace Go.Proofs.Ythnpooffhopnkaa
open Go.RowKit
set_option linter.unusedVariables false
set_option maxRecDepth 100000

structure LqJGuestOK (Wq : World) (AX AA : Value) (m : Gst) (d : Nat → Bool) (w : World) (s22 s23 s24 s25 s26 : Value) : Prop where
  bw : Below Wq.heap.size Wq w
  p2 : d 2 = true → ∃ a1 ts, s24 = gsV a1 m ∧ OwnGs w Wq.heap.size a1 m ts
  f0 : d 0 = true → s22 = AX
  f1 : d 1 = true → s23 = AA
  f3 : d 3 = true → s25 = .bool true
  f4 : d 4 = true → s26 = .bool false

theorem LqJGuestOK.s0 {Wq : World} {AX AA : Value} {m : Gst} {d : Nat → Bool} {w : World} {s22 s23 s24 s25 s26 v : Value} (I : LqJGuestOK Wq AX AA m d w s22 s23 s24 s25 s26) (hd : d 0 = false) (hv : v = AX) : LqJGuestOK Wq AX AA m (updD d 0) w v s23 s24 s25 s26 where
  bw := I.bw
  p2 := fun h => I.p2 (upd_ne (by decide) h)
  f0 := fun _ => hv
  f1 := fun h => I.f1 (upd_ne (by decide) h)
  f3 := fun h => I.f3 (upd_ne (by decide) h)
  f4 := fun h => I.f4 (upd_ne (by decide) h)

theorem LqJGuestOK.s1 {Wq : World} {AX AA : Value} {m : Gst} {d : Nat → Bool} {w : World} {s22 s23 s24 s25 s26 v : Value} (I : LqJGuestOK Wq AX AA m d w s22 s23 s24 s25 s26) (hd : d 1 = false) (hv : v = AA) : LqJGuestOK Wq AX AA m (updD d 1) w s22 v s24 s25 s26 where
  bw := I.bw
  p2 := fun h => I.p2 (upd_ne (by decide) h)
  f0 := fun h => I.f0 (upd_ne (by decide) h)
  f1 := fun _ => hv
  f3 := fun h => I.f3 (upd_ne (by decide) h)
  f4 := fun h => I.f4 (upd_ne (by decide) h)

theorem LqJGuestOK.s2 {Wq : World} {AX AA : Value} {m : Gst} {d : Nat → Bool} {w w2 : World} {s22 s23 s24 s25 s26 v : Value} (I : LqJGuestOK Wq AX AA m d w s22 s23 s24 s25 s26) (hd : d 2 = false) (hb : Below w.heap.size w w2) {a1 : Gs4} {ts : List Value} (hv : v = gsV a1 m) (ho : OwnGs w2 Wq.heap.size a1 m ts) : LqJGuestOK Wq AX AA m (updD d 2) w2 s22 s23 v s25 s26 where
  bw := fr I.bw hb
  p2 := fun _ => ⟨a1, ts, hv, ho⟩
  f0 := fun h => I.f0 (upd_ne (by decide) h)
  f1 := fun h => I.f1 (upd_ne (by decide) h)
  f3 := fun h => I.f3 (upd_ne (by decide) h)
  f4 := fun h => I.f4 (upd_ne (by decide) h)

theorem LqJGuestOK.s3 {Wq : World} {AX AA : Value} {m : Gst} {d : Nat → Bool} {w : World} {s22 s23 s24 s25 s26 v : Value} (I : LqJGuestOK Wq AX AA m d w s22 s23 s24 s25 s26) (hd : d 3 = false) (hv : v = .bool true) : LqJGuestOK Wq AX AA m (updD d 3) w s22 s23 s24 v s26 where
  bw := I.bw
  p2 := fun h => I.p2 (upd_ne (by decide) h)
  f0 := fun h => I.f0 (upd_ne (by decide) h)
  f1 := fun h => I.f1 (upd_ne (by decide) h)
  f3 := fun _ => hv
  f4 := fun h => I.f4 (upd_ne (by decide) h)

theorem LqJGuestOK.s4 {Wq : World} {AX AA : Value} {m : Gst} {d : Nat → Bool} {w : World} {s22 s23 s24 s25 s26 v : Value} (I : LqJGuestOK Wq AX AA m d w s22 s23 s24 s25 s26) (hd : d 4 = false) (hv : v = .bool false) : LqJGuestOK Wq AX AA m (updD d 4) w s22 s23 s24 s25 v where
  bw := I.bw
  p2 := fun h => I.p2 (upd_ne (by decide) h)
  f0 := fun h => I.f0 (upd_ne (by decide) h)
  f1 := fun h => I.f1 (upd_ne (by decide) h)
  f3 := fun h => I.f3 (upd_ne (by decide) h)
  f4 := fun _ => hv

theorem LqJGuestOK.grow {Wq : World} {AX AA : Value} {m : Gst} {d : Nat → Bool} {w w2 : World} {s22 s23 s24 s25 s26 : Value} (I : LqJGuestOK Wq AX AA m d w s22 s23 s24 s25 s26) (hb : Below w.heap.size w w2) : LqJGuestOK Wq AX AA m d w2 s22 s23 s24 s25 s26 := ⟨fr I.bw hb, fun h => (I.p2 h).imp fun a1 h1 => h1.imp fun ts h2 => ⟨h2.1, h2.2.below hb⟩, I.f0, I.f1, I.f3, I.f4⟩

/-- The frame of the law at its drawn statement. -/
abbrev lqFrGuestOK (t0 t1 t2 t3 t4 t5 t6 t7 t8 t9 t10 t11 t12 t13 t14 t15 t16 t17 t18 t19 t20 t21 s22 s23 s24 s25 s26  : Value) : Act := ⟨#[t0, t1, t2, t3, t4, t5, t6, t7, t8, t9, t10, t11, t12, t13, t14, t15, t16, t17, t18, t19, t20, t21, s22, s23, s24, s25, s26], []⟩
theorem lqFrGuestOK_region {P : Program} {id : Nat} {Q : Exit → Act → World → Prop} {l : List Oper} {t0 t1 t2 t3 t4 t5 t6 t7 t8 t9 t10 t11 t12 t13 t14 t15 t16 t17 t18 t19 t20 t21 s22 s23 s24 s25 s26  : Value} {W : World} (J : (Nat → Bool) → World → Value → Value → Value → Value → Value →  Prop) (hm : P.follows .mixedOrders = true) (hl : linB l = true)
    (hg : ∀ (i : Nat) (o : Oper), l[i]? = some o → o.guard = none) (h0 : J (fun _ => false) { W with drawn := W.drawn + 1 } s22 s23 s24 s25 s26)
    (hs : ∀ (d : Nat → Bool) (w : World) (i : Nat) (o : Oper) (r22 r23 r24 r25 r26 : Value), Closed l d → J d w r22 r23 r24 r25 r26 → l[i]? = some o → d i = false → (∀ e ∈ o.after, Region.binds .any e = true → d e.on = true) → ∀ K : Act → World → Prop, (∀ (w' : World) (q22 q23 q24 q25 q26 : Value), J (updD d i) w' q22 q23 q24 q25 q26 → K (lqFrGuestOK t0 t1 t2 t3 t4 t5 t6 t7 t8 t9 t10 t11 t12 t13 t14 t15 t16 t17 t18 t19 t20 t21 q22 q23 q24 q25 q26 ) w') → o.wp P (lqFrGuestOK t0 t1 t2 t3 t4 t5 t6 t7 t8 t9 t10 t11 t12 t13 t14 t15 t16 t17 t18 t19 t20 t21 r22 r23 r24 r25 r26 ) w K Q)
    (he : ∀ (d : Nat → Bool) (w : World) (r22 r23 r24 r25 r26 : Value), J d w r22 r23 r24 r25 r26 → (∀ i, i < l.length → d i = true) → Q .normal (lqFrGuestOK t0 t1 t2 t3 t4 t5 t6 t7 t8 t9 t10 t11 t12 t13 t14 t15 t16 t17 t18 t19 t20 t21 r22 r23 r24 r25 r26 ) w) : (Code.region id l.toArray true).wp P Q (lqFrGuestOK t0 t1 t2 t3 t4 t5 t6 t7 t8 t9 t10 t11 t12 t13 t14 t15 t16 t17 t18 t19 t20 t21 s22 s23 s24 s25 s26 ) W := by
  refine wp_region_inv2 (fun d f w => ∃ r22 r23 r24 r25 r26, f = lqFrGuestOK t0 t1 t2 t3 t4 t5 t6 t7 t8 t9 t10 t11 t12 t13 t14 t15 t16 t17 t18 t19 t20 t21 r22 r23 r24 r25 r26  ∧ J d w r22 r23 r24 r25 r26) hm hl hg ⟨s22, s23, s24, s25, s26, rfl, h0⟩ ?_ ?_
  · intro d f w i o hc hI ho hd hp K hK
    obtain ⟨r22, r23, r24, r25, r26, rfl, hJ⟩ := hI
    exact hs d w i o r22 r23 r24 r25 r26 hc hJ ho hd hp K (fun w' q22 q23 q24 q25 q26 hJ' => hK _ _ ⟨q22, q23, q24, q25, q26, rfl, hJ'⟩)
  · intro d f w hI hall
    obtain ⟨r22, r23, r24, r25, r26, rfl, hJ⟩ := hI
    exact he d w r22 r23 r24 r25 r26 hJ hall

set_option maxHeartbeats 3200000 in
theorem lawGsGuestOK (a : Gs4) (m : Gst)  (R : Bool) (w : World) (hL : GsL m) (hc : GsS w a m)
    (hz : ∀ s ∈ m.shots, s.name.size ≤ maxLen ∧ s.table.length ≤ maxLen)
    (hspec : ∀ (b : Gs4) (W : World), GsS W b m → Calls Try.prog 9 #[gsV b m] W fun e w' => e = .returned (.bool R) ∧ Below W.heap.size W w')
    (himpl : ∀ (b : Gs4) (W : World), GsS W b m → Calls Try.prog 11 #[gsV b m] W fun e w' => e = .returned (.bool R) ∧ Below W.heap.size W w') :
    Calls Try.prog 3 #[gsV a m] w fun e w' => e = .returned (.bool true) ∧ Below w.heap.size w w' := by
  have HA := hide (Joins.below_alloc1 w (.cells #[.slice a.vo m.vals.length a.vc, .slice a.so m.shots.length a.sc] 25))
  have HV := hide (VarG.new w 25 (.slice a.vo m.vals.length a.vc) (.slice a.so m.shots.length a.sc))
  have HC := hide (hc.below (unhide HA))
  have HCW := hide hc
  have HL := hide hL
  have HZ := hide hz
  have HSP := hide hspec
  have HIM := hide himpl
  clear hc hL hz hspec himpl
  go_enter Try.func3, Try.ntmps3
  go_upto_region 2 with fail
  revert HC
  revert HV
  revert HA
  generalize (w.alloc _) = W0
  intro HA HV HC
  obtain ⟨c0, c1⟩ := (unhide HV).cells
  go_wp2_with fail
  refine (szGuest_any a m 1048576 _ (unhide HL).v (unhide HL).s (by omega) (by omega) (unhide HC)).mono ?_
  rintro e w1 ⟨r, rfl, hr0, hr1, hr2, hb⟩
  have HB1 := hide (fr (unhide HA) hb)
  have HC1 := hide ((unhide HC).below hb)
  have HV1 := hide ((unhide HV).below hb)
  clear hb c0 c1 HA HV HC
  by_cases hneg : r < 0
  · go_wp2
    go_ret
    exact ⟨rfl, unhide HB1⟩
  have HSZ : Hid (gsSz m ≤ 1048576) := hide (by have := hr2 (by omega); omega)
  have HBD := hide (GsBd.of (unhide HSZ))
  clear hr2
  obtain ⟨c0, c1⟩ := (unhide HV1).cells
  -- the model's answer
  go_wp2_with fail
  refine (toGuest_B a m _ (unhide HBD) (unhide HC1)).mono ?_
  rintro e w2 ⟨a2, ts2, rfl, ho2, hb2⟩
  have HB2 := hide (fr (unhide HB1) hb2)
  have HC2 := hide ((unhide HC1).below hb2)
  have HV2 := hide ((unhide HV1).below hb2)
  have HI2 := hide (ho2.shows (unhide HZ))
  clear hb2 ho2 c0 c1 HB1 HC1 HV1
  go_wp2_with fail
  refine (unhide HSP a2 _ (unhide HI2)).mono ?_
  rintro e w3 ⟨rfl, hb3⟩
  have HB3 := hide (fr (unhide HB2) hb3)
  have HC3 := hide ((unhide HC2).below hb3)
  have HVA3 := hide ((unhide HV2).below hb3)
  clear hb3 HB2 HC2 HV2 HI2
  -- the argument's copy
  obtain ⟨c0, c1⟩ := (unhide HVA3).cells
  go_wp2_with fail
  refine (toGuest_B a m _ (unhide HBD) (unhide HC3)).mono ?_
  rintro e w4 ⟨aX, tsX, rfl, hoX, hb4⟩
  have HNX4 := hide (LwG.new w4 aX m hoX hb4.size)
  have HB4 := hide (fr (fr (unhide HB3) hb4) (Joins.below_alloc1 w4 (.cells #[.slice aX.vo m.vals.length aX.vc, .slice aX.so m.shots.length aX.sc] 30)))
  have HC4 := hide ((unhide HC3).below (fr hb4 (Joins.below_alloc1 w4 (.cells #[.slice aX.vo m.vals.length aX.vc, .slice aX.so m.shots.length aX.sc] 30))))
  have HVA4 := hide ((unhide HVA3).below (fr hb4 (Joins.below_alloc1 w4 (.cells #[.slice aX.vo m.vals.length aX.vc, .slice aX.so m.shots.length aX.sc] 30))))
  clear hoX hb4 c0 c1 HB3 HC3 HVA3
  go_upto_region 7 with fail
  revert HVA4
  revert HC4
  revert HB4
  revert HNX4
  generalize (w4.alloc _) = W4
  generalize w4.heap.size = pX
  intro HNX4 HB4 HC4 HVA4
  -- the program's answer
  obtain ⟨c0, c1⟩ := (unhide HNX4).v.cells
  go_wp2_with fail
  refine (unhide HIM aX _ ((unhide HNX4).o.shows (unhide HZ))).mono ?_
  rintro e w6 ⟨rfl, hb⟩
  have HNX6 := hide ((unhide HNX4).below hb)
  have HB6 := hide (fr (unhide HB4) hb)
  have HC6 := hide ((unhide HC4).below hb)
  have HVA6 := hide ((unhide HVA4).below hb)
  clear hb c0 c1 HNX4 HB4 HC4 HVA4
  have bcc : (R != R) = false := by simp
  go_upto_region 10 with fail
  refine lqFrGuestOK_region (fun d wz r22 r23 r24 r25 r26 => LqJGuestOK w6 (gsV aX m) (gsV a m) m d wz r22 r23 r24 r25 r26) (by kernel_rfl) (by kernel_rfl) (noG_spec (by kernel_rfl)) ?h0 ?hs ?he
  case h0 => exact ⟨(Below.refl _ w6).drew, fun h => (by cases h), fun h => (by cases h), fun h => (by cases h), fun h => (by cases h), fun h => (by cases h)⟩
  case hs =>
    intro d wz i o r22 r23 r24 r25 r26 hc I ho hd hp K hK
    obtain ⟨k0, k1⟩ := ((unhide HNX6).v.below I.bw).cells
    obtain ⟨l0, l1⟩ := ((unhide HVA6).below I.bw).cells
    have hi : i < 5 := (List.getElem?_eq_some_iff.1 ho).1
    rcases (show i = 0 ∨ i = 1 ∨ i = 2 ∨ i = 3 ∨ i = 4 by omega) with rfl | rfl | rfl | rfl | rfl
    · cases ho
      unfold Oper.wp
      go_simp
      exact hK _ _ _ _ _ _ (I.s0 hd rfl)
    · cases ho
      unfold Oper.wp
      go_simp
      exact hK _ _ _ _ _ _ (I.s1 hd rfl)
    · cases ho
      have e1 := I.f1 (hp ⟨1, .data⟩ (by simp) rfl)
      subst e1
      unfold Oper.wp
      go_simp
      refine (toGuest_B a m _ (unhide HBD) ((unhide HC6).below I.bw)).mono ?_
      rintro e w2 ⟨a1, ts, rfl, ho1, hb1⟩
      exact hK _ _ _ _ _ _ (I.s2 hd hb1 rfl (ho1.base I.bw.size))
    · cases ho
      have e0 := I.f0 (hp ⟨0, .data⟩ (by simp) rfl)
      subst e0
      obtain ⟨a1, ts, e2, ho1⟩ := I.p2 (hp ⟨2, .data⟩ (by simp) rfl)
      subst e2
      unfold Oper.wp
      go_simp
      refine (eqGuest_B aX a1 m _ (unhide HBD) (((unhide HNX6).below I.bw).o.shows (unhide HZ)) (ho1.shows (unhide HZ))).mono ?_
      rintro e w2 ⟨rfl, hb1⟩
      exact hK _ _ _ _ _ _ ((I.grow hb1).s3 hd rfl)
    · cases ho
      have e3 := I.f3 (hp ⟨3, .data⟩ (by simp) rfl)
      subst e3
      unfold Oper.wp
      go_simp
      exact hK _ _ _ _ _ _ (I.s4 hd rfl)
  case he =>
    intro d w7 r22 r23 r24 r25 r26 I hall
    have e4 := I.f4 (hall 4 (by decide))
    subst e4
    have hb := I.bw
    have HB7 := hide (fr (unhide HB6) hb)
    clear hb I hall HNX6 HB6 HC6 HVA6
    go_wp2
    go_ret
    exact ⟨rfl, unhide HB7⟩

end Go.Proofs.Ythnpooffhopnkaa

/- Contracts of the model's l14Values, GuestOK. -/
namespace Go.Proofs.Ythnpooffhopnkaa
open Go.RowKit
set_option linter.unusedVariables false
set_option maxRecDepth 100000

theorem vl_no {xs : List Int} {k : Nat} (hk : k < xs.length) (h : numB xs[k] = false) : vlB xs = false := by rw [vlB, all_not (p := numB) hk h]; simp
theorem vl_all {xs : List Int} (h : ∀ j (hj : j < xs.length), numB xs[j] = true) : vlB xs = decide (xs.length ≤ 12) := by rw [vlB, all_of (p := numB) (fun i hi _ => h i hi)]; simp
theorem gs_vals {g : Gst} (h : vlB g.vals = false) : gsB g = false := by simp [gsB, h]
theorem gs_few {g : Gst} (h : ¬ g.shots.length ≤ 3) : gsB g = false := by simp [gsB, h]
theorem gs_shot {g : Gst} {k : Nat} (hk : k < g.shots.length) (h : (snmB g.shots[k].name && vlB g.shots[k].table) = false) : gsB g = false := by
  have e := all_not (p := fun s : Snp => snmB s.name && vlB s.table) hk h
  simp only [gsB, e, Bool.and_false, Bool.false_and]
theorem gs_twice {g : Gst} {i k : Nat} (hi : i < g.shots.length) (hk : k < i) (h : g.shots[i].name = g.shots[k].name) : gsB g = false := by
  have e : namesB g.shots = false := decide_eq_false (not_nodup (xs := g.shots.map (·.name)) (i := i) (k := k) (by simpa using hi) hk (by simpa using h))
  simp only [gsB, e, Bool.and_false]
theorem gs_yes {g : Gst} (h1 : vlB g.vals = true) (h3 : g.shots.length ≤ 3) (h5 : ∀ j (hj : j < g.shots.length), (snmB g.shots[j].name && vlB g.shots[j].table) = true) (h6 : (g.shots.map (·.name)).Nodup) : gsB g = true := by
  have e5 : g.shots.all (fun s => snmB s.name && vlB s.table) = true := all_of (p := fun s : Snp => snmB s.name && vlB s.table) (fun i hi _ => h5 i hi)
  have e6 : namesB g.shots = true := decide_eq_true h6
  simp only [gsB, h1, h3, e5, e6, decide_true, Bool.and_true]

set_option maxHeartbeats 800000 in
theorem l14Values_any (ao : Option Addr) (cap : Nat) (xs : List Int) (w : World) (hl : xs.length ≤ maxLen) (hc : Is w ao xs) :
    Calls Try.prog 34 #[.slice ao xs.length cap] w fun e w' => e = .returned (.bool (vlB xs)) ∧ w' = w := by
  have HC := hide hc
  clear hc
  unfold maxLen at hl
  go_enter Try.func34, Try.ntmps34
  go_wp2
  go_loop [3] (fun i => ∃ k : Nat, k ≤ xs.length ∧ i = .int .i64 k ∧ Hid (∀ j (h : j < xs.length), j < k → numB xs[j] = true)) (fun i => xs.length - (intOf i).toNat)
  case atStart => exact ⟨0, Nat.zero_le _, rfl, hide (fun j _ h => by omega)⟩
  case round =>
    obtain ⟨k, hk, rfl, HA⟩ := hrel
    by_cases hlt : k < xs.length
    · obtain ⟨b, off, rfl, hc⟩ := unhide HC k hlt
      cases hn : numB xs[k]
      · have HF := hide (vl_no hlt hn)
        go_wp2_with (go_at_call 72; refine (l02Int_any _ _).mono ?_; rintro e w' ⟨rfl, hw⟩; replace hw := hw.symm; subst hw; rw [hn])
        go_ret
        exact ⟨ret_bool (unhide HF).symm, rfl⟩
      · have HN := hide (all_succ hlt (unhide HA) hn)
        go_wp2_with (go_at_call 72; refine (l02Int_any _ _).mono ?_; rintro e w' ⟨rfl, hw⟩; replace hw := hw.symm; subst hw; rw [hn])
        go_round
        case rel => exact ⟨k + 1, by omega, by go_num, HN⟩
        case measure => simp [intOf]; omega
    · have HF := hide (vl_all (fun j h => unhide HA j h (by omega)))
      go_wp2
      go_ret
      exact ⟨ret_bool (by rw [unhide HF, Bool.eq_iff_iff]; simp; omega), rfl⟩

set_option maxHeartbeats 3200000 in
theorem guestOK_spec (a : Gs4) (g : Gst) (w : World) (hL : GsL g) (hc : GsS w a g) :
    Calls Try.prog 9 #[gsV a g] w fun e w' => e = .returned (.bool (gsB g)) ∧ Below w.heap.size w w' := by
  have HA := hide (Joins.below_alloc1 w (.cells #[.slice a.vo g.vals.length a.vc, .slice a.so g.shots.length a.sc] 30))
  have HV := hide (VarG.new w 30 (.slice a.vo g.vals.length a.vc) (.slice a.so g.shots.length a.sc))
  have HC := hide (hc.below (unhide HA))
  have HL := hide hL
  clear hc hL
  have hs64 : g.shots.length ≤ 9223372036854775807 := (unhide HL).s
  cases h1 : vlB g.vals
  · have HF := hide (gs_vals h1)
    go_enter Try.func9, Try.ntmps9
    go_upto_region 1 with fail
    revert HA HV HC
    generalize (w.alloc _) = W0
    intro HA HV HC
    obtain ⟨c0, c1⟩ := (unhide HV).cells
    go_wp2_with (go_at_call 34; refine (l14Values_any _ _ g.vals _ (unhide HL).v (unhide HC).v).mono ?_; rintro e w' ⟨rfl, hw⟩; replace hw := hw.symm; subst hw; rw [h1])
    go_ret
    exact ⟨ret_bool (unhide HF).symm, unhide HA⟩
  by_cases h3 : g.shots.length ≤ 3
  rotate_left
  · have HF := hide (gs_few h3)
    have h3i : (3 : Int) < (g.shots.length : Int) := by omega
    go_enter Try.func9, Try.ntmps9
    go_upto_region 1 with fail
    revert HA HV HC
    generalize (w.alloc _) = W0
    intro HA HV HC
    obtain ⟨c0, c1⟩ := (unhide HV).cells
    go_wp2_with (go_at_call 34; refine (l14Values_any _ _ g.vals _ (unhide HL).v (unhide HC).v).mono ?_; rintro e w' ⟨rfl, hw⟩; replace hw := hw.symm; subst hw; rw [h1])
    go_ret
    exact ⟨ret_bool (unhide HF).symm, unhide HA⟩
  have h3i : ¬ (3 : Int) < (g.shots.length : Int) := by omega
  have HYES := hide (fun h5 h6 => gs_yes (g := g) h1 h3 h5 h6)
  go_enter Try.func9, Try.ntmps9
  go_upto_region 1 with fail
  revert HA HV HC
  generalize (w.alloc _) = W0
  intro HA HV HC
  obtain ⟨c0, c1⟩ := (unhide HV).cells
  go_wp2_with (go_at_call 34; refine (l14Values_any _ _ g.vals _ (unhide HL).v (unhide HC).v).mono ?_; rintro e w' ⟨rfl, hw⟩; replace hw := hw.symm; subst hw; rw [h1])
  clear c0 c1 h1
  go_loopw [3] (fun i wr => ∃ k : Nat, k ≤ g.shots.length ∧ i = .int .i64 k ∧ Hid (∀ j (hj : j < g.shots.length), j < k → (snmB g.shots[j].name && vlB g.shots[j].table) = true) ∧ Hid (((g.shots.map (·.name)).take k).Nodup) ∧ Hid (Below W0.heap.size W0 wr)) (fun i _ => g.shots.length - (intOf i).toNat)
  case atStart => exact ⟨0, Nat.zero_le _, rfl, hide (fun j _ h => by omega), hide (by simp), hide (Below.refl _ _)⟩
  case round =>
    obtain ⟨i, hi, rfl, HS, HN, HB⟩ := hrel
    obtain ⟨c0, c1⟩ := ((unhide HV).below (unhide HB)).cells
    by_cases hlt : i < g.shots.length
    · obtain ⟨b, off, tq, tc, eb, hn0, ht0, hIs, hz, htl⟩ := ((unhide HC).s.below (unhide HB)) i hlt
      rw [eb] at c1
      have EB := hide eb
      clear eb
      have hlti : (i : Int) < (g.shots.length : Int) := by omega
      have HIS := hide hIs
      have HZ := hide hz
      have HTL := hide htl
      clear hIs hz htl
      by_cases hok : snmB g.shots[i].name = true
      rotate_left
      · have hok' : snmB g.shots[i].name = false := by simpa using hok
        have HF := hide (gs_shot hlt (by rw [hok']; rfl))
        clear hok
        go_wp2_with (go_at_call 35; refine (l10Name_any _ _ (unhide HZ)).mono ?_; rintro e w' ⟨rfl, hw⟩; replace hw := hw.symm; subst hw; rw [hok'])
        go_ret
        exact ⟨ret_bool (unhide HF).symm, fr (unhide HA) (unhide HB)⟩
      by_cases htb : vlB g.shots[i].table = true
      rotate_left
      · have htb' : vlB g.shots[i].table = false := by simpa using htb
        have HF := hide (gs_shot hlt (by rw [htb', Bool.and_false]))
        clear htb
        go_wp2_with (first | (go_at_call 35; refine (l10Name_any _ _ (unhide HZ)).mono ?_; rintro e w' ⟨rfl, hw⟩; replace hw := hw.symm; subst hw; rw [hok]) | (go_at_call 34; refine (l14Values_any _ _ g.shots[i].table _ (unhide HTL) (unhide HIS)).mono ?_; rintro e w' ⟨rfl, hw⟩; replace hw := hw.symm; subst hw; rw [htb']))
        go_ret
        exact ⟨ret_bool (unhide HF).symm, fr (unhide HA) (unhide HB)⟩
      have HS' := hide (all_succ (p := fun s : Snp => snmB s.name && vlB s.table) hlt (unhide HS) (by rw [hok, htb]; rfl))
      go_wp2_with (first | (go_at_call 35; refine (l10Name_any _ _ (unhide HZ)).mono ?_; rintro e w' ⟨rfl, hw⟩; replace hw := hw.symm; subst hw; rw [hok]) | (go_at_call 34; refine (l14Values_any _ _ g.shots[i].table _ (unhide HTL) (unhide HIS)).mono ?_; rintro e w' ⟨rfl, hw⟩; replace hw := hw.symm; subst hw; rw [htb]))
      clear c0 c1 hn0 ht0 hok htb HIS HTL HZ
      go_loopw [4] (fun k wq => ∃ j : Nat, j ≤ i ∧ k = .int .i64 j ∧ Hid (∀ p (hp : p < (g.shots.map (·.name)).length), p < j → (g.shots.map (·.name))[p] ≠ (g.shots.map (·.name))[i]'(by simpa using hlt)) ∧ Hid (Below W0.heap.size W0 wq)) (fun k _ => i - (intOf k).toNat)
      case atStart => exact ⟨0, Nat.zero_le _, rfl, hide (fun p _ h => by omega), HB⟩
      case round =>
        clear HB
        obtain ⟨j, hj, rfl, HP, HB⟩ := hrel
        obtain ⟨c0, c1⟩ := ((unhide HV).below (unhide HB)).cells
        by_cases hjl : j < i
        · have hjs : j < g.shots.length := by omega
          have hjsi : (j : Int) < (g.shots.length : Int) := by omega
          obtain ⟨b1, off1, tq1, tc1, e1, hn1, _, _, _, _⟩ := ((unhide HC).s.below (unhide HB)) i hlt
          obtain ⟨b2, off2, tq2, tc2, e2, hn2, _, _, _, _⟩ := ((unhide HC).s.below (unhide HB)) j hjs
          rw [unhide EB] at c1 e1 e2
          cases e1
          cases e2
          by_cases he : g.shots[j].name = g.shots[i].name
          · have HF := hide (gs_twice hlt hjl he.symm)
            have be : (g.shots[j].name.toList == g.shots[i].name.toList) = true := by simp [he]
            clear he
            go_wp2
            go_quiet (fail)
            go_wp2
            go_ret
            exact ⟨ret_bool (unhide HF).symm, fr (unhide HA) ((unhide HB).trans (Joins.below_draws _ _ _))⟩
          · have HP' : Hid (∀ p (hp : p < (g.shots.map (·.name)).length), p < j + 1 → (g.shots.map (·.name))[p] ≠ (g.shots.map (·.name))[i]'(by simpa using hlt)) := hide (fun p hp h => by
              by_cases e : p = j
              · subst e; simpa using he
              · exact unhide HP p hp (by omega))
            have be : (g.shots[j].name.toList == g.shots[i].name.toList) = false := str_beq_false he
            clear he
            go_wp2
            go_quiet (fail)
            go_wp2
            go_roundw
            case rel => exact ⟨j + 1, by omega, by go_num, HP', hide ((unhide HB).trans (Joins.below_draws _ _ _))⟩
            case measure => simp [intOf]; omega
        · have HN' := hide (nodup_snoc (xs := g.shots.map (·.name)) (k := i) (by simpa using hlt) (unhide HN) (fun p hp h => unhide HP p hp (by omega)))
          go_wp2
          go_roundw
          case rel => exact ⟨i + 1, by omega, by go_num, HS', HN', HB⟩
          case measure => simp [intOf]; omega
    · have HF := hide (unhide HYES (fun j h => unhide HS j h (by omega)) (by
        have := unhide HN
        rwa [List.take_of_length_le (by simp; omega)] at this))
      go_wp2
      go_ret
      exact ⟨ret_bool (unhide HF).symm, fr (unhide HA) (unhide HB)⟩

end Go.Proofs.Ythnpooffhopnkaa

/- Contract of impl.areNumbers. -/
namespace Go.Proofs.Ythnpooffhopnkaa
open Go.RowKit
set_option linter.unusedVariables false
set_option maxRecDepth 100000

theorem nums_no {xs : List Int} {k : Nat} (hk : k < xs.length) (h : numB xs[k] = false) : xs.all numB = false := all_not (p := numB) hk h
theorem nums_all {xs : List Int} (h : ∀ j (hj : j < xs.length), numB xs[j] = true) : xs.all numB = true := all_of (p := numB) (fun i hi _ => h i hi)

set_option maxHeartbeats 800000 in
theorem areNumbers_any (ao : Option Addr) (cap : Nat) (xs : List Int) (w : World) (hl : xs.length ≤ maxLen) (hc : Is w ao xs) :
    Calls Try.prog 74 #[.slice ao xs.length cap] w fun e w' => e = .returned (.bool (xs.all numB)) ∧ w' = w := by
  have HC := hide hc
  clear hc
  unfold maxLen at hl
  obtain ⟨R, HR⟩ : ∃ R, Hid (R = xs.all numB) := ⟨_, hide rfl⟩
  rw [← unhide HR]
  go_enter Try.func74, Try.ntmps74
  go_wp2
  go_loop [7] (fun i => ∃ k : Nat, k ≤ xs.length ∧ i = .int .i64 k ∧ Hid (∀ j (h : j < xs.length), j < k → numB xs[j] = true)) (fun i => xs.length - (intOf i).toNat)
  case atStart => exact ⟨0, Nat.zero_le _, rfl, hide (fun j _ h => by omega)⟩
  case round =>
    obtain ⟨k, hk, rfl, HA⟩ := hrel
    by_cases hlt : k < xs.length
    · obtain ⟨b, off, rfl, hc⟩ := unhide HC k hlt
      cases hn : numB xs[k]
      · have HF := hide (nums_no hlt hn)
        go_wp2_with (go_at_call 103; refine (isNumber_any _ _).mono ?_; rintro e w' ⟨rfl, hw⟩; replace hw := hw.symm; subst hw; rw [hn])
        go_ret
        exact ⟨ret_bool (by rw [unhide HR, unhide HF]), rfl⟩
      · have HN := hide (all_succ hlt (unhide HA) hn)
        go_wp2_with (go_at_call 103; refine (isNumber_any _ _).mono ?_; rintro e w' ⟨rfl, hw⟩; replace hw := hw.symm; subst hw; rw [hn])
        go_round
        case rel => exact ⟨k + 1, by omega, by go_num, HN⟩
        case measure => simp [intOf]; omega
    · have HF := hide (nums_all (fun j h => unhide HA j h (by omega)))
      go_wp2
      go_ret
      exact ⟨ret_bool (by rw [unhide HR, unhide HF]), rfl⟩

end Go.Proofs.Ythnpooffhopnkaa

/- Contracts of copyList, at texts and at writes: what was there, in new memory. -/
namespace Go.Proofs.Ythnpooffhopnkaa
open Go.RowKit
set_option linter.unusedVariables false
set_option maxRecDepth 100000

section
variable {P : Program}

/-- 'copy(out, src)', both of n elements of some cells each. -/
theorem run_copy_whole (w : World) (dT sT ty elem : TypeId) (size g n dCap : Nat) (a : Addr) (sCap : Nat) (cur : Array Value) (t : TypeId) (cs : List Value)
    (hu : P.underlying dT = some (.slice elem)) (hs : (P.info? elem).map (·.size) = some size)
    (hg : w.heap[g]? = some (.cells cur t (0, 0))) (hl : n * size = cs.length)
    (hsrc : ∀ j v, cs[j]? = some v → w.cell? (a.add j) = some v) (hfit : cs.length ≤ cur.size) (h1 : ∀ v ∈ cs, v.oneCell' = true) :
    (Builtin.copy_ #[dT, sT] ty #[.slice (some ⟨g, 0, none⟩) n dCap, .slice (some a) n sCap]).run P w = .ok (goInt n) (w.setRow g (cs ++ cur.toList.drop cs.length).toArray) := by
  have hld := run_loadCells_list (P := P) w a cs hsrc
  have hst := run_storeCells_at P g 0 t cs 0 cur w hg (by simpa using hfit) h1
  cases hq : P.info? elem with
  | none => simp [hq] at hs
  | some i =>
    have hi : i.size = size := by simpa [hq] using hs
    simp [Builtin.copy_, run_underlying hu, Builtin.lenOf, Builtin.firstCells, sizeOf, typeInfo, hq, hi, hl, hld, hst]

theorem wpList_copy_whole {w : World} {ops : Array Oper} {rest : List Oper} {o : Oper} {a : Act} {Q : Exit → Act → World → Prop} (hgd : o.guard = none) (d s : Operand) (dT sT : TypeId)
    (ho : o.op = .call { callee := .builtin .copy, args := #[d, s], argTypes := #[dT, sT] }) (elem : TypeId) (size : Nat) (hu : P.underlying dT = some (.slice elem)) (hsz : (P.info? elem).map (·.size) = some size)
    (B g n : Nat) (ad : Addr) (sCap : Nat) (hd : a.eval d = .slice (some ⟨g, 0, none⟩) n n) (hs : a.eval s = .slice (some ad) n sCap)
    (xs : List Value) (hown : w.ownsRow B elem size (.slice (some ⟨g, 0, none⟩) n n) n xs) (cs : List Value) (hn : cs.length = n * size)
    (hsrc : ∀ j v, cs[j]? = some v → w.cell? (ad.add j) = some v) (h1 : ∀ v ∈ cs, v.oneCell' = true)
    (h : ∀ w', w'.ownsRow B elem size (.slice (some ⟨g, 0, none⟩) n n) n cs → w.grownBy w' (some g) → wpList P ops Q rest (a.put o.dst (goInt n)) w') : wpList P ops Q (o :: rest) a w := by
  refine wpList_plain hgd fun K hK => ?_
  rcases hown.2 with ⟨e, _⟩ | ⟨g', cap', cur, e, hB, hg, hnc, hcm, hcs, ht⟩
  · simp at e
  · simp only [Value.slice.injEq, Option.some.injEq, Addr.mk.injEq, and_true, true_and] at e
    obtain ⟨rfl, rfl⟩ := e
    have hrun := run_copy_whole (P := P) w dT sT o.type elem size g n n ad sCap cur elem cs hu hsz hg hn.symm hsrc (by omega) h1
    unfold Oper.wp
    simp [execOp, ho, resolve, invoke, builtin, hd, hs, hrun, Result.andThen]
    refine hK _ _ (h _ ⟨hn, .inr ⟨g, n, _, rfl, hB, setRow_heap w g _ _ elem _ hg, hnc, hcm, ?_, ?_⟩⟩ ⟨rfl, rfl, rfl, by simp, fun k _ hk => setRow_other w g k _ (fun e => hk (by simp [e]))⟩)
    · simp; omega
    · rw [← hn]; simp
end

theorem infoS : (Try.prog.info? 9).map (fun i => (i.zero, i.size, i.bytes)) = some (some (.string ⟨#[]⟩), 1, 16) := by kernel_rfl
theorem sizeS : (Try.prog.info? 9).map (·.size) = some 1 := by kernel_rfl
theorem strV_one (ss : List ByteArray) : ∀ v ∈ strV ss, v.oneCell' = true := by
  intro v hv
  simp only [strV, List.mem_map] at hv
  obtain ⟨s, _, rfl⟩ := hv
  rfl
theorem ioV_one (xs : List Wr) : ∀ v ∈ ioV xs, v.oneCell' = true := by
  intro v hv
  simp only [ioV, List.mem_flatMap] at hv
  obtain ⟨x, _, hv⟩ := hv
  simp at hv
  rcases hv with rfl | rfl | rfl <;> rfl
/-- A slice that is not empty has an address at which its cells lie. -/
theorem Ss.at {w : World} {ao : Option Addr} {ss : List ByteArray} (h : Ss w ao ss) (hp : 0 < ss.length) : ∃ b off, ao = some ⟨b, off, none⟩ ∧ ∀ j v, (strV ss)[j]? = some v → w.cell? (Addr.add ⟨b, off, none⟩ j) = some v := by
  obtain ⟨b, off, rfl, _⟩ := h 0 hp
  refine ⟨b, off, rfl, fun j v hv => ?_⟩
  have hj : j < ss.length := by have := (List.getElem?_eq_some_iff.1 hv).1; rwa [strV_length] at this
  obtain ⟨b', off', e, hc, _⟩ := h j hj
  simp only [Option.some.injEq, Addr.mk.injEq, and_true] at e
  obtain ⟨rfl, rfl⟩ := e
  rw [strV_get hj] at hv
  cases hv
  rw [show Addr.add ⟨b, off, none⟩ j = ⟨b, off + j, none⟩ from by unfold Addr.add; split <;> simp_all]
  exact hc
theorem ioV_at {xs : List Wr} {j : Nat} {v : Value} (h : (ioV xs)[j]? = some v) : ∃ i r, ∃ hi : i < xs.length, j = i * 3 + r ∧ ((r = 0 ∧ v = .int .i64 xs[i].host) ∨ (r = 1 ∧ v = .int .i64 xs[i].at_) ∨ (r = 2 ∧ v = .string xs[i].data)) := by
  have hj : j < xs.length * 3 := by have := (List.getElem?_eq_some_iff.1 h).1; rwa [ioV_length] at this
  have hi : j / 3 < xs.length := by omega
  obtain ⟨g0, g1, g2⟩ := ioV_get hi
  rcases (show j % 3 = 0 ∨ j % 3 = 1 ∨ j % 3 = 2 by omega) with e | e | e
  · rw [show j = j / 3 * 3 by omega, g0] at h; cases h
    exact ⟨j / 3, 0, hi, by omega, .inl ⟨rfl, rfl⟩⟩
  · rw [show j = j / 3 * 3 + 1 by omega, g1] at h; cases h
    exact ⟨j / 3, 1, hi, by omega, .inr (.inl ⟨rfl, rfl⟩)⟩
  · rw [show j = j / 3 * 3 + 2 by omega, g2] at h; cases h
    exact ⟨j / 3, 2, hi, by omega, .inr (.inr ⟨rfl, rfl⟩)⟩
theorem Ios.at {w : World} {ao : Option Addr} {xs : List Wr} (h : Ios w ao xs) (hp : 0 < xs.length) : ∃ b off, ao = some ⟨b, off, none⟩ ∧ ∀ j v, (ioV xs)[j]? = some v → w.cell? (Addr.add ⟨b, off, none⟩ j) = some v := by
  obtain ⟨b, off, rfl, _⟩ := h 0 hp
  refine ⟨b, off, rfl, fun j v hv => ?_⟩
  obtain ⟨i, r, hi, rfl, hr⟩ := ioV_at hv
  obtain ⟨b', off', e, h0, h1, h2, _⟩ := h i hi
  simp only [Option.some.injEq, Addr.mk.injEq, and_true] at e
  obtain ⟨rfl, rfl⟩ := e
  rw [show Addr.add ⟨b, off, none⟩ (i * 3 + r) = ⟨b, off + i * 3 + r, none⟩ from by unfold Addr.add; split <;> simp_all [Nat.add_assoc]]
  rcases hr with ⟨rfl, rfl⟩ | ⟨rfl, rfl⟩ | ⟨rfl, rfl⟩
  · exact h0
  · exact h1
  · exact h2

set_option maxHeartbeats 1600000 in
theorem copyS_any (ao : Option Addr) (cap : Nat) (ss : List ByteArray) (w : World) (hl : ss.length ≤ 1048576) (hc : Ss w ao ss) :
    Calls Try.prog 102 #[.slice ao ss.length cap] w fun e w' => ∃ bo cb, e = .returned (.slice bo ss.length cb) ∧ OwnR w' w.heap.size 9 1 (.slice bo ss.length cb) ss.length (strV ss) ∧ Below w.heap.size w w' := by
  by_cases h0 : ss.length = 0
  · have hb : ((ss.length : Int) == 0) = true := by simp [h0]
    have HE := hide h0
    clear h0 hc
    go_enter Try.func102, Try.ntmps102
    go_wp2
    go_ret
    rw [unhide HE]
    exact ⟨none, 0, rfl, .inl ⟨rfl, List.eq_nil_of_length_eq_zero (by rw [strV_length, unhide HE]), none, rfl⟩, Below.refl _ _⟩
  · have hb : ((ss.length : Int) == 0) = false := beq_eq_false_iff_ne.2 (by omega)
    obtain ⟨b, off, rfl, hcs⟩ := hc.at (by omega)
    have hbl : b < w.heap.size := by
      obtain ⟨b', off', e, hc', _⟩ := hc 0 (by omega)
      simp only [Option.some.injEq, Addr.mk.injEq, and_true] at e
      obtain ⟨rfl, rfl⟩ := e
      exact World.block_lt_of_cell? _ _ hc'
    have HCS := hide hcs
    have HP := hide h0
    clear hc hcs h0
    obtain ⟨i0, hi, hz0, hz1, hz2⟩ := info_parts infoS
    go_enter Try.func102, Try.ntmps102
    go_wp2_with (first | (at_make; refine wpList_make_full _ rfl _ _ 53 rfl w.heap.size 9 i0 _ 1 Try.underlying53 hi hz0 hz1 _ _ _ _ ss.length rfl rfl rfl rfl ?c1 ?c2 ?c3 ?_))
    case c1 => rw [hz2]; omega
    case c2 => unfold maxLen; omega
    case c3 => exact Nat.le_refl _
    intro w1 hown hgrow
    have hB : Below w.heap.size w w1 := (Below.refl _ _).grown hgrow (Nat.le_refl _) (fun _ h => by cases h)
    have HO := hide hown
    have HB := hide hB
    have HC1 : Hid (∀ j v, (strV ss)[j]? = some v → w1.cell? (Addr.add ⟨b, off, none⟩ j) = some v) := hide (fun j v hv => ((unhide HB).cell (by unfold Addr.add; split <;> exact hbl)).trans (unhide HCS j v hv))
    clear hown hgrow hB
    go_wp2_with (refine wpList_copy_whole rfl _ _ 53 53 rfl 9 1 Try.underlying53 sizeS w.heap.size w.heap.size ss.length ⟨b, off, none⟩ _ rfl rfl _ (unhide HO) (strV ss) (by rw [strV_length]; omega) (unhide HC1) (strV_one ss) ?_; intro w2 ho2 hg2)
    have HB2 := hide ((unhide HB).grown hg2 (unhide HB).size (fun k h => by cases h; exact Nat.le_refl _))
    have HO2 := hide ho2
    clear ho2 hg2
    go_ret
    exact ⟨_, _, rfl, OwnR.of (unhide HO2) (fun h => absurd h (unhide HP)), unhide HB2⟩

end Go.Proofs.Ythnpooffhopnkaa

/- Contracts of the model's l10Find, l10Raise, l10Text, l10Names, SnapNames. (Made ahead of stage 10.) -/
namespace Go.Proofs.Ythnpooffhopnkaa
open Go.RowKit
set_option linter.unusedVariables false
set_option maxRecDepth 100000

/-- Where a name stands. -/
def fdI (m : Img) (name : ByteArray) : Int := if imFind m name < m.snaps.length then (imFind m name : Int) else -1
theorem find_here {m : Img} {name : ByteArray} {k : Nat} (hk : k < m.snaps.length) (h0 : m.snaps[k].name = name) (h : ∀ j (hj : j < m.snaps.length), j < k → m.snaps[j].name ≠ name) : imFind m name = k := by
  unfold imFind
  rw [List.findIdx_eq hk]
  refine ⟨by simp [h0], fun j hj => ?_⟩
  have := h j (by omega) hj
  simp [this]
theorem find_none {m : Img} {name : ByteArray} (h : ∀ j (hj : j < m.snaps.length), m.snaps[j].name ≠ name) : ¬ imFind m name < m.snaps.length := by
  unfold imFind
  rw [List.findIdx_lt_length]
  rintro ⟨x, hx, h0⟩
  obtain ⟨j, hj, rfl⟩ := List.getElem_of_mem hx
  have := h j hj
  simp at h0
  exact this h0

/-- The code ahead of a name's call. -/
def tnF (m : Img) (name : ByteArray) : Int := if 65536 < name.size then 2 else if imB m = true then 0 else 1
theorem str_one (n : ByteArray) : ∀ u ∈ [Value.string n], u.oneCell' = true := by
  intro u hu
  simp at hu
  subst hu
  rfl
/-- The names of an image's snapshots. -/
def nmL (m : Img) : List ByteArray := m.snaps.map (·.name)
def snA (m : Img) : List ByteArray × Int := if imB m = true then (nmL m, 0) else ([], 1)
end Go.Proofs.Ythnpooffhopnkaa
