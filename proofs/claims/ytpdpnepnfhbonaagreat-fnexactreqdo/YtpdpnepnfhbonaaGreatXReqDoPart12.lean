import Derived.Test.YtpdpnepnfhbonaaGreatRows
import Derived.Test.YtpdpnepnfhbonaaGreatXReqDoPart6
import Derived.Test.YtpdpnepnfhbonaaGreatXReqDoPart5
import Derived.Test.YtpdpnepnfhbonaaGreatXReqDoPart4
import Derived.Test.YtpdpnepnfhbonaaGreatXReqDoPart11
import Derived.WalkKit
import Derived.WalkSpells
import Derived.KernelRfl
import Derived.LoopN
import Derived.Test.YtpdpnepnfhbonaaGreatXReqDoPart8
import Derived.Test.YtpdpnepnfhbonaaGreatXReqDoPart7
import Derived.Test.YtpdpnepnfhbonaaGreatXReqDoPart1
import Derived.Test.YtpdpnepnfhbonaaGreatXReqDoPart3
import Derived.Test.YtpdpnepnfhbonaaGreatXReqDoPart9
import Derived.Test.YtpdpnepnfhbonaaGreatXReqDoPart10

namespace Go.Proofs.YtpdpnepnfhbonaaGreat
open Go.RowKit
set_option linter.unusedVariables false
set_option maxRecDepth 100000

structure RzJ (w0 : World) (B : Nat) (b : Im4) (m0 mk mk' : Img) (ts : List Value) (k gt : Nat) (T : Int) (d : Nat → Bool) (w : World) (s16 s17 s18 s19 s20 s21 s22 : Value) : Prop where
  q0 : d 6 = false → ImQ w0 w B b m0 mk ts
  q6 : d 6 = true → ImQ w0 w B b m0 mk' ts
  v6 : d 6 = true → s22 = .agg #[.slice b.ro m0.refs.length b.rc, .slice (some ⟨gt, 0, none⟩) m0.table.length b.tc, .slice b.so m0.snaps.length b.sc, .slice b.dq m0.data.length b.dc]
  f0 : d 0 = true → s16 = .agg #[.slice b.ro m0.refs.length b.rc, .slice (some ⟨gt, 0, none⟩) m0.table.length b.tc, .slice b.so m0.snaps.length b.sc, .slice b.dq m0.data.length b.dc]
  f1 : d 1 = true → s17 = .pointer (some ⟨w0.heap.size, 1, none⟩)
  f2 : d 2 = true → s18 = .slice (some ⟨gt, 0, none⟩) m0.table.length b.tc
  f3 : d 3 = true → s19 = .int .i64 k
  f4 : d 4 = true → s20 = .pointer (some ⟨gt, k, none⟩)
  f5 : d 5 = true → s21 = .int .i64 T

theorem RzJ.s0 {w0 : World} {B : Nat} {b : Im4} {m0 mk mk' : Img} {ts : List Value} {k gt : Nat} {T : Int} {d : Nat → Bool} {w : World} {s16 s17 s18 s19 s20 s21 s22 v : Value} (I : RzJ w0 B b m0 mk mk' ts k gt T d w s16 s17 s18 s19 s20 s21 s22) (hd : d 0 = false) (hv : v = .agg #[.slice b.ro m0.refs.length b.rc, .slice (some ⟨gt, 0, none⟩) m0.table.length b.tc, .slice b.so m0.snaps.length b.sc, .slice b.dq m0.data.length b.dc]) : RzJ w0 B b m0 mk mk' ts k gt T (updD d 0) w v s17 s18 s19 s20 s21 s22 where
  q0 := fun h => I.q0 (upd_nf h)
  q6 := fun h => I.q6 (upd_ne (by decide) h)
  v6 := fun h => I.v6 (upd_ne (by decide) h)
  f0 := fun _ => hv
  f1 := fun h => I.f1 (upd_ne (by decide) h)
  f2 := fun h => I.f2 (upd_ne (by decide) h)
  f3 := fun h => I.f3 (upd_ne (by decide) h)
  f4 := fun h => I.f4 (upd_ne (by decide) h)
  f5 := fun h => I.f5 (upd_ne (by decide) h)

theorem RzJ.s1 {w0 : World} {B : Nat} {b : Im4} {m0 mk mk' : Img} {ts : List Value} {k gt : Nat} {T : Int} {d : Nat → Bool} {w : World} {s16 s17 s18 s19 s20 s21 s22 v : Value} (I : RzJ w0 B b m0 mk mk' ts k gt T d w s16 s17 s18 s19 s20 s21 s22) (hd : d 1 = false) (hv : v = .pointer (some ⟨w0.heap.size, 1, none⟩)) : RzJ w0 B b m0 mk mk' ts k gt T (updD d 1) w s16 v s18 s19 s20 s21 s22 where
  q0 := fun h => I.q0 (upd_nf h)
  q6 := fun h => I.q6 (upd_ne (by decide) h)
  v6 := fun h => I.v6 (upd_ne (by decide) h)
  f0 := fun h => I.f0 (upd_ne (by decide) h)
  f1 := fun _ => hv
  f2 := fun h => I.f2 (upd_ne (by decide) h)
  f3 := fun h => I.f3 (upd_ne (by decide) h)
  f4 := fun h => I.f4 (upd_ne (by decide) h)
  f5 := fun h => I.f5 (upd_ne (by decide) h)

theorem RzJ.s2 {w0 : World} {B : Nat} {b : Im4} {m0 mk mk' : Img} {ts : List Value} {k gt : Nat} {T : Int} {d : Nat → Bool} {w : World} {s16 s17 s18 s19 s20 s21 s22 v : Value} (I : RzJ w0 B b m0 mk mk' ts k gt T d w s16 s17 s18 s19 s20 s21 s22) (hd : d 2 = false) (hv : v = .slice (some ⟨gt, 0, none⟩) m0.table.length b.tc) : RzJ w0 B b m0 mk mk' ts k gt T (updD d 2) w s16 s17 v s19 s20 s21 s22 where
  q0 := fun h => I.q0 (upd_nf h)
  q6 := fun h => I.q6 (upd_ne (by decide) h)
  v6 := fun h => I.v6 (upd_ne (by decide) h)
  f0 := fun h => I.f0 (upd_ne (by decide) h)
  f1 := fun h => I.f1 (upd_ne (by decide) h)
  f2 := fun _ => hv
  f3 := fun h => I.f3 (upd_ne (by decide) h)
  f4 := fun h => I.f4 (upd_ne (by decide) h)
  f5 := fun h => I.f5 (upd_ne (by decide) h)

theorem RzJ.s3 {w0 : World} {B : Nat} {b : Im4} {m0 mk mk' : Img} {ts : List Value} {k gt : Nat} {T : Int} {d : Nat → Bool} {w : World} {s16 s17 s18 s19 s20 s21 s22 v : Value} (I : RzJ w0 B b m0 mk mk' ts k gt T d w s16 s17 s18 s19 s20 s21 s22) (hd : d 3 = false) (hv : v = .int .i64 k) : RzJ w0 B b m0 mk mk' ts k gt T (updD d 3) w s16 s17 s18 v s20 s21 s22 where
  q0 := fun h => I.q0 (upd_nf h)
  q6 := fun h => I.q6 (upd_ne (by decide) h)
  v6 := fun h => I.v6 (upd_ne (by decide) h)
  f0 := fun h => I.f0 (upd_ne (by decide) h)
  f1 := fun h => I.f1 (upd_ne (by decide) h)
  f2 := fun h => I.f2 (upd_ne (by decide) h)
  f3 := fun _ => hv
  f4 := fun h => I.f4 (upd_ne (by decide) h)
  f5 := fun h => I.f5 (upd_ne (by decide) h)

theorem RzJ.s4 {w0 : World} {B : Nat} {b : Im4} {m0 mk mk' : Img} {ts : List Value} {k gt : Nat} {T : Int} {d : Nat → Bool} {w : World} {s16 s17 s18 s19 s20 s21 s22 v : Value} (I : RzJ w0 B b m0 mk mk' ts k gt T d w s16 s17 s18 s19 s20 s21 s22) (hd : d 4 = false) (hv : v = .pointer (some ⟨gt, k, none⟩)) : RzJ w0 B b m0 mk mk' ts k gt T (updD d 4) w s16 s17 s18 s19 v s21 s22 where
  q0 := fun h => I.q0 (upd_nf h)
  q6 := fun h => I.q6 (upd_ne (by decide) h)
  v6 := fun h => I.v6 (upd_ne (by decide) h)
  f0 := fun h => I.f0 (upd_ne (by decide) h)
  f1 := fun h => I.f1 (upd_ne (by decide) h)
  f2 := fun h => I.f2 (upd_ne (by decide) h)
  f3 := fun h => I.f3 (upd_ne (by decide) h)
  f4 := fun _ => hv
  f5 := fun h => I.f5 (upd_ne (by decide) h)

theorem RzJ.s5 {w0 : World} {B : Nat} {b : Im4} {m0 mk mk' : Img} {ts : List Value} {k gt : Nat} {T : Int} {d : Nat → Bool} {w : World} {s16 s17 s18 s19 s20 s21 s22 v : Value} (I : RzJ w0 B b m0 mk mk' ts k gt T d w s16 s17 s18 s19 s20 s21 s22) (hd : d 5 = false) (hv : v = .int .i64 T) : RzJ w0 B b m0 mk mk' ts k gt T (updD d 5) w s16 s17 s18 s19 s20 v s22 where
  q0 := fun h => I.q0 (upd_nf h)
  q6 := fun h => I.q6 (upd_ne (by decide) h)
  v6 := fun h => I.v6 (upd_ne (by decide) h)
  f0 := fun h => I.f0 (upd_ne (by decide) h)
  f1 := fun h => I.f1 (upd_ne (by decide) h)
  f2 := fun h => I.f2 (upd_ne (by decide) h)
  f3 := fun h => I.f3 (upd_ne (by decide) h)
  f4 := fun h => I.f4 (upd_ne (by decide) h)
  f5 := fun _ => hv

theorem RzJ.s6 {w0 : World} {B : Nat} {b : Im4} {m0 mk mk' : Img} {ts : List Value} {k gt : Nat} {T : Int} {d : Nat → Bool} {w w2 : World} {s16 s17 s18 s19 s20 s21 s22 v : Value} (I : RzJ w0 B b m0 mk mk' ts k gt T d w s16 s17 s18 s19 s20 s21 s22) (hd : d 6 = false) (hv : v = .agg #[.slice b.ro m0.refs.length b.rc, .slice (some ⟨gt, 0, none⟩) m0.table.length b.tc, .slice b.so m0.snaps.length b.sc, .slice b.dq m0.data.length b.dc]) (hq : ImQ w0 w2 B b m0 mk' ts) : RzJ w0 B b m0 mk mk' ts k gt T (updD d 6) w2 s16 s17 s18 s19 s20 s21 v where
  q0 := fun h => no_d (k := 6) upd_at h
  q6 := fun _ => hq
  v6 := fun _ => hv
  f0 := fun h => I.f0 (upd_ne (by decide) h)
  f1 := fun h => I.f1 (upd_ne (by decide) h)
  f2 := fun h => I.f2 (upd_ne (by decide) h)
  f3 := fun h => I.f3 (upd_ne (by decide) h)
  f4 := fun h => I.f4 (upd_ne (by decide) h)
  f5 := fun h => I.f5 (upd_ne (by decide) h)

theorem RzJ.s7 {w0 : World} {B : Nat} {b : Im4} {m0 mk mk' : Img} {ts : List Value} {k gt : Nat} {T : Int} {d : Nat → Bool} {w w2 : World} {s16 s17 s18 s19 s20 s21 s22 v : Value} (I : RzJ w0 B b m0 mk mk' ts k gt T d w s16 s17 s18 s19 s20 s21 s22) (hd : d 7 = false) (p6 : d 6 = true) (hq : ImQ w0 w2 B b m0 mk' ts) : RzJ w0 B b m0 mk mk' ts k gt T (updD d 7) w2 s16 s17 s18 s19 s20 s21 s22 where
  q0 := fun h => no_d p6 (upd_nf h)
  q6 := fun _ => hq
  v6 := fun h => I.v6 p6
  f0 := fun h => I.f0 (upd_ne (by decide) h)
  f1 := fun h => I.f1 (upd_ne (by decide) h)
  f2 := fun h => I.f2 (upd_ne (by decide) h)
  f3 := fun h => I.f3 (upd_ne (by decide) h)
  f4 := fun h => I.f4 (upd_ne (by decide) h)
  f5 := fun h => I.f5 (upd_ne (by decide) h)

abbrev rzFr (t0 t1 t2 t3 t4 t5 t6 t7 t8 t9 t10 t11 t12 t13 t14 t15 s16 s17 s18 s19 s20 s21 s22 t23 t24 t25 t26 t27 t28 : Value) : Act := ⟨#[t0, t1, t2, t3, t4, t5, t6, t7, t8, t9, t10, t11, t12, t13, t14, t15, s16, s17, s18, s19, s20, s21, s22, t23, t24, t25, t26, t27, t28], []⟩
theorem rzFr_region {P : Program} {id : Nat} {Q : Exit → Act → World → Prop} {l : List Oper} {t0 t1 t2 t3 t4 t5 t6 t7 t8 t9 t10 t11 t12 t13 t14 t15 s16 s17 s18 s19 s20 s21 s22 t23 t24 t25 t26 t27 t28 : Value} {W : World} (J : (Nat → Bool) → World → Value → Value → Value → Value → Value → Value → Value →  Prop) (hm : P.follows .mixedOrders = true) (hl : linB l = true)
    (hg : ∀ (i : Nat) (o : Oper), l[i]? = some o → o.guard = none) (h0 : J (fun _ => false) { W with drawn := W.drawn + 1 } s16 s17 s18 s19 s20 s21 s22)
    (hs : ∀ (d : Nat → Bool) (w : World) (i : Nat) (o : Oper) (r16 r17 r18 r19 r20 r21 r22 : Value), Closed l d → J d w r16 r17 r18 r19 r20 r21 r22 → l[i]? = some o → d i = false → (∀ e ∈ o.after, Region.binds .any e = true → d e.on = true) → ∀ K : Act → World → Prop, (∀ (w' : World) (q16 q17 q18 q19 q20 q21 q22 : Value), J (updD d i) w' q16 q17 q18 q19 q20 q21 q22 → K (rzFr t0 t1 t2 t3 t4 t5 t6 t7 t8 t9 t10 t11 t12 t13 t14 t15 q16 q17 q18 q19 q20 q21 q22 t23 t24 t25 t26 t27 t28) w') → o.wp P (rzFr t0 t1 t2 t3 t4 t5 t6 t7 t8 t9 t10 t11 t12 t13 t14 t15 r16 r17 r18 r19 r20 r21 r22 t23 t24 t25 t26 t27 t28) w K Q)
    (he : ∀ (d : Nat → Bool) (w : World) (r16 r17 r18 r19 r20 r21 r22 : Value), J d w r16 r17 r18 r19 r20 r21 r22 → (∀ i, i < l.length → d i = true) → Q .normal (rzFr t0 t1 t2 t3 t4 t5 t6 t7 t8 t9 t10 t11 t12 t13 t14 t15 r16 r17 r18 r19 r20 r21 r22 t23 t24 t25 t26 t27 t28) w) : (Code.region id l.toArray true).wp P Q (rzFr t0 t1 t2 t3 t4 t5 t6 t7 t8 t9 t10 t11 t12 t13 t14 t15 s16 s17 s18 s19 s20 s21 s22 t23 t24 t25 t26 t27 t28) W := by
  refine wp_region_inv2 (fun d f w => ∃ r16 r17 r18 r19 r20 r21 r22, f = rzFr t0 t1 t2 t3 t4 t5 t6 t7 t8 t9 t10 t11 t12 t13 t14 t15 r16 r17 r18 r19 r20 r21 r22 t23 t24 t25 t26 t27 t28 ∧ J d w r16 r17 r18 r19 r20 r21 r22) hm hl hg ⟨s16, s17, s18, s19, s20, s21, s22, rfl, h0⟩ ?_ ?_
  · intro d f w i o hc hI ho hd hp K hK
    obtain ⟨r16, r17, r18, r19, r20, r21, r22, rfl, hJ⟩ := hI
    exact hs d w i o r16 r17 r18 r19 r20 r21 r22 hc hJ ho hd hp K (fun w' q16 q17 q18 q19 q20 q21 q22 hJ' => hK _ _ ⟨q16, q17, q18, q19, q20, q21, q22, rfl, hJ'⟩)
  · intro d f w hI hall
    obtain ⟨r16, r17, r18, r19, r20, r21, r22, rfl, hJ⟩ := hI
    exact he d w r16 r17 r18 r19 r20 r21 r22 hJ hall

def rzD (m : Img) (n k : Nat) : Img := imDrops m ((m.table.take k).drop n)
theorem rzD_start (m : Img) (n : Nat) : rzD m n n = m := by
  have : (m.table.take n).drop n = [] := List.drop_eq_nil_of_le (by rw [List.length_take]; omega)
  rw [rzD, this]; rfl
theorem rzD_succ {m : Img} {n k : Nat} (hn : n ≤ k) (hk : k < m.table.length) : rzD m n (k + 1) = imDrop (rzD m n k) m.table[k] := by
  unfold rzD
  rw [List.take_succ_eq_append_getElem hk, List.drop_append_of_le_length (by rw [List.length_take]; omega)]
  unfold imDrops
  rw [List.foldl_append]; rfl
theorem rzD_all (m : Img) {n k : Nat} (hk : m.table.length ≤ k) : rzD m n k = imDrops m (m.table.drop n) := by rw [rzD, List.take_of_length_le hk]
theorem imDrops_same (es : List Int) : ∀ m : Img, (imDrops m es).table = m.table ∧ (imDrops m es).snaps = m.snaps ∧ (imDrops m es).refs.length = m.refs.length ∧ (imDrops m es).data.length = m.data.length := by
  induction es with
  | nil => intro m; exact ⟨rfl, rfl, rfl, rfl⟩
  | cons e es ih =>
    intro m
    have h := ih (imDrop m e)
    have hd := imDrop_lens m e
    have ht := imDrop_table m e
    refine ⟨h.1.trans ht.1, h.2.1.trans ht.2, h.2.2.1.trans hd.1, h.2.2.2.trans hd.2.2.2⟩
def RvB (m : Img) (lo : Int) : Prop := ∀ c (h : c < m.refs.length), -lo ≤ m.refs[c] ∧ m.refs[c] ≤ 60
theorem RvB.drop {m : Img} {lo : Int} (h : RvB m lo) (hlo : 0 ≤ lo) (e : Int) : RvB (imDrop m e) (lo + 1) := by
  intro c hc
  unfold imDrop at hc ⊢
  by_cases h2 : e < 2
  · simp only [if_pos h2] at hc ⊢
    have := h c hc
    omega
  · simp only [if_neg h2, List.length_set] at hc ⊢
    rw [List.getElem_set]
    have := h c hc
    split
    · rename_i hcc
      have h3 : m.refs.getD (e - 2).toNat 0 = m.refs[c] := by rw [hcc]; simp [List.getD, hc]
      rw [h3]
      omega
    · omega
theorem ImQ.below {w W W' : World} {B : Nat} {a : Im4} {m0 m : Img} {ts : List Value} (h : ImQ w W B a m0 m ts) (hb : Below W.heap.size W W') : ImQ w W' B a m0 m ts := ⟨h.v.below hb, h.r.below hb, h.o.below hb, fr h.b hb, h.hB, h.e1, h.e2, h.e3, h.e4⟩
theorem OwnIm.newT {w w' : World} {B n qa : Nat} {a : Im4} {m : Img} {ts : List Value} {qo : Option Addr} {xs : List Int} (h : OwnIm w B a m ts) (hb : Below w.heap.size w w') (hn : OwnN w' w.heap.size (.slice qo n qa) xs) (hl : xs.length = n) (hB : B ≤ w.heap.size) : OwnIm w' B { a with tq := qo, tc := qa } { m with table := xs } ts := by
  refine ⟨h.len, h.s.below hb, ?_⟩
  have h' := h.rows.below hb
  have hap := h'.apart
  simp only [imRows] at h' hap ⊢
  rw [hl]
  have hold : ∀ r ∈ imRows a m ts, ∀ g, Own r.1 g → ¬ Own (.slice qo n qa) g := fun r hr g hg hx => by
    have h1 := ((h.rows.own r hr).ge g hg).2
    have h2 := (hn.ge g hx).1
    omega
  simp only [List.pairwise_cons] at hap
  refine ⟨fun r hr => ?_, ?_⟩
  · simp only [List.mem_cons] at hr
    rcases hr with rfl | rfl | rfl | hr
    · exact h'.own _ (by simp)
    · exact hn.base hB
    · exact h'.own (.slice a.dq m.data.length a.dc, m.data) (by simp)
    · exact h'.own r (by simp [hr])
  · simp only [List.pairwise_cons]
    refine ⟨fun r hr g hg => ?_, fun r hr g hg hx => ?_, hap.2.2.1, hap.2.2.2⟩
    · rcases List.mem_cons.1 hr with rfl | hr
      · exact hold (.slice a.ro m.refs.length a.rc, m.refs) (by simp [imRows]) g hg
      · exact hap.1 r (List.mem_cons_of_mem _ hr) g hg
    · refine hold r ?_ g hx hg
      simp only [imRows]
      exact List.mem_cons_of_mem _ (List.mem_cons_of_mem _ hr)

set_option maxHeartbeats 3200000 in
theorem l10Resize_R (a : Im4) (m : Img) (n : Nat) (R : Img) (w : World) (hR : R = imResize m n) (hM : ImM m) (hn : n ≤ 12) (hc : ImS w a m) :
    Calls Tryz.prog 112 #[imV a m, .int .i64 n] w fun e w' => ∃ a' ts, e = .returned (imV a' R) ∧ OwnIm w' w.heap.size a' R ts ∧ Below w.heap.size w w' := by
  have HE := hide (ImE.new w a m hc)
  have HM := hide hM
  have HR := hide hR
  have ht12 := hM.t
  clear hc hM hR
  go_enter Tryz.func112, Tryz.ntmps112
  go_upto_region 1 with fail
  revert HE
  generalize ((w.alloc _).alloc _) = W0
  intro HE
  obtain ⟨c0, c1, c2, c3⟩ := (unhide HE).v.cells
  go_wp2_with fail
  refine (l10Own_M a m _ (unhide HM) (unhide HE).s).mono ?_
  rintro e w1 ⟨b, ts, rfl, ho, hb⟩
  have HQ := hide (ImQ.put (w := w) ((unhide HE).v.below hb) ((unhide HE).r.below hb) (ho.base (B' := w.heap.size + 2) (by have := (unhide HE).r.lt; omega)) (fr (unhide HE).b hb) (Nat.le_refl _) (m0 := m) rfl rfl rfl rfl)
  unfold putI at HQ
  obtain ⟨x0, x1, x2, x3⟩ := ((unhide HE).v.below hb).cells
  obtain ⟨z0, z1, z2, z3⟩ := ((unhide HE).v.below hb).free
  clear c0 c1 c2 c3 ho hb HE
  go_upto_region 2 with fail
  clear x0 x1 x2 x3 z0 z1 z2 z3
  revert HQ
  generalize (((w1.setCell _ _).setCell _ _).setCell _ _).setCell _ _ = W1
  intro HQ
  go_wp2
  go_loopw [5] (fun i wr => ∃ k : Nat, n ≤ k ∧ k ≤ n + 12 ∧ i = .int .i64 k ∧ Hid (ImQ w wr (w.heap.size + 2) b m (rzD m n k) ts) ∧ Hid (RvB (rzD m n k) ((k : Int) - n))) (fun i _ => n + 13 - (intOf i).toNat)
  case atStart => exact ⟨n, Nat.le_refl _, by omega, rfl, by rw [rzD_start]; exact HQ, hide (by rw [rzD_start]; exact fun c h => by have := (unhide HM).rv c h; omega)⟩
  case round =>
    clear HQ
    obtain ⟨k, hk, hk2, rfl, HQ, HB⟩ := hrel
    obtain ⟨c0, c1, c2, c3⟩ := (unhide HQ).v.cells
    by_cases hlt : k < m.table.length
    · have hlti : (k : Int) < (m.table.length : Int) := by omega
      have HSU := hide (rzD_succ hk hlt)
      have HTE : Hid ((rzD m n k).table = m.table) := hide (imDrops_same _ m).1
      have HLS : Hid ((rzD m n k).refs.length = 24 ∧ (rzD m n k).data.length = 24) := hide ⟨(unhide HQ).e1.trans (unhide HM).r, (unhide HQ).e4.trans (unhide HM).d⟩
      have HTV := hide ((unhide HM).tv k hlt)
      have HBN : Hid (RvB (imDrop (rzD m n k) m.table[k]) (((k + 1 : Nat) : Int) - n)) := hide (by
        have := (unhide HB).drop (by omega) m.table[k]
        rwa [show (k : Int) - n + 1 = ((k + 1 : Nat) : Int) - n by omega] at this)
      obtain ⟨gt, et, _, _, _⟩ := (unhide HQ).setT (c := k) (by rw [unhide HTE]; exact hlt)
      have ET := hide et
      have HCT : Hid (∀ W, ImQ w W (w.heap.size + 2) b m (rzD m n k) ts → W.cell? ⟨gt, k, none⟩ = some (.int .i64 m.table[k])) := hide (fun W h => by
        obtain ⟨g2, e2, h2, _, _⟩ := h.setT (c := k) (by rw [unhide HTE]; exact hlt)
        rw [et] at e2
        cases e2
        rw [h2]
        simp only [unhide HTE])
      have HDROP : Hid (∀ W, ImQ w W (w.heap.size + 2) b m (rzD m n k) ts → Calls Tryz.prog 115 #[.agg #[.slice b.ro m.refs.length b.rc, .slice (some ⟨gt, 0, none⟩) m.table.length b.tc, .slice b.so m.snaps.length b.sc, .slice b.dq m.data.length b.dc], .int .i64 m.table[k]] W fun e w' => e = .returned (.agg #[.slice b.ro m.refs.length b.rc, .slice (some ⟨gt, 0, none⟩) m.table.length b.tc, .slice b.so m.snaps.length b.sc, .slice b.dq m.data.length b.dc]) ∧ ImQ w w' (w.heap.size + 2) b m (imDrop (rzD m n k) m.table[k]) ts) := hide (fun W h => by
        have hv : imV b (rzD m n k) = .agg #[.slice b.ro m.refs.length b.rc, .slice (some ⟨gt, 0, none⟩) m.table.length b.tc, .slice b.so m.snaps.length b.sc, .slice b.dq m.data.length b.dc] := by rw [← h.val, imV, et]
        rw [← hv]
        refine (l10Drop_M b (rzD m n k) ts (w.heap.size + 2) m.table[k] W (unhide HTV).1 (unhide HTV).2 (unhide HLS).1 (unhide HLS).2 (fun c hc => by have := unhide HB c hc; omega) h.o).mono ?_
        rintro e w2 ⟨rfl, ho2, hk2'⟩
        exact ⟨rfl, h.turn hk2' ho2 (imDrop_lens _ _).1 (imDrop_lens _ _).2.1 (imDrop_lens _ _).2.2.1 (imDrop_lens _ _).2.2.2⟩)
      clear et
      rw [← unhide HSU] at HBN HDROP
      generalize hDD : rzD m n (k + 1) = D' at *
      have HDD := hide hDD
      clear hDD
      generalize rzD m n k = D at *
      generalize m.table[k] = T at *
      go_upto_region 5 with fail
      clear c0 c1 c2 c3
      refine rzFr_region (fun d wz s16 s17 s18 s19 s20 s21 s22 => RzJ w (w.heap.size + 2) b m D D' ts k gt T d wz s16 s17 s18 s19 s20 s21 s22) (by kernel_rfl) (by kernel_rfl) (noG_spec (by kernel_rfl)) ?h0 ?hs ?he
      case h0 => exact ⟨fun _ => (unhide HQ).below (Below.refl _ wr).drew, fun h => (by cases h), fun h => (by cases h), fun h => (by cases h), fun h => (by cases h), fun h => (by cases h), fun h => (by cases h), fun h => (by cases h), fun h => (by cases h)⟩
      case hs =>
        intro d wz i o r16 r17 r18 r19 r20 r21 r22 hc I ho hd hp K hK
        have hi : i < 8 := (List.getElem?_eq_some_iff.1 ho).1
        rcases (show i = 0 ∨ i = 1 ∨ i = 2 ∨ i = 3 ∨ i = 4 ∨ i = 5 ∨ i = 6 ∨ i = 7 by omega) with rfl | rfl | rfl | rfl | rfl | rfl | rfl | rfl
        · cases ho
          have h6 := not_yet hc 9 (j := 6) (i := 0) (by kernel_rfl) hd
          have hq := I.q0 h6
          obtain ⟨k0, k1, k2, k3⟩ := hq.v.cells
          rw [unhide ET] at k1
          unfold Oper.wp
          go_simp
          exact hK _ _ _ _ _ _ _ _ (I.s0 hd rfl)
        · cases ho
          unfold Oper.wp
          go_simp
          exact hK _ _ _ _ _ _ _ _ (I.s1 hd rfl)
        · cases ho
          have h6 := not_yet hc 9 (j := 6) (i := 2) (by kernel_rfl) hd
          have p := hp ⟨1, .data⟩ (by simp) rfl
          have e1 := I.f1 p
          subst e1
          have hq := I.q0 h6
          obtain ⟨k0, k1, k2, k3⟩ := hq.v.cells
          rw [unhide ET] at k1
          unfold Oper.wp
          go_simp
          exact hK _ _ _ _ _ _ _ _ (I.s2 hd rfl)
        · cases ho
          unfold Oper.wp
          go_simp
          exact hK _ _ _ _ _ _ _ _ (I.s3 hd rfl)
        · cases ho
          have p := hp ⟨2, .data⟩ (by simp) rfl
          have e1 := I.f2 p
          subst e1
          have p2 := hp ⟨3, .data⟩ (by simp) rfl
          have e2 := I.f3 p2
          subst e2
          unfold Oper.wp
          go_simp
          exact hK _ _ _ _ _ _ _ _ (I.s4 hd (by first | rfl | simp))
        · cases ho
          have h6 := not_yet hc 9 (j := 6) (i := 5) (by kernel_rfl) hd
          have p := hp ⟨4, .data⟩ (by simp) rfl
          have e1 := I.f4 p
          subst e1
          have kc := unhide HCT wz (I.q0 h6)
          unfold Oper.wp
          go_simp
          exact hK _ _ _ _ _ _ _ _ (I.s5 hd rfl)
        · cases ho
          have p0 := hp ⟨0, .data⟩ (by simp) rfl
          have e1 := I.f0 p0
          subst e1
          have p5 := hp ⟨5, .data⟩ (by simp) rfl
          have e2 := I.f5 p5
          subst e2
          unfold Oper.wp
          go_simp
          refine (unhide HDROP wz (I.q0 hd)).mono ?_
          rintro e w2 ⟨rfl, hq2⟩
          exact hK _ _ _ _ _ _ _ _ (I.s6 hd rfl hq2)
        · cases ho
          have p6 := hp ⟨6, .data⟩ (by simp) rfl
          have e22 := I.v6 p6
          subst e22
          have hq := I.q6 p6
          have hag := hq.again
          unfold putI at hag
          rw [unhide ET] at hag
          obtain ⟨x0, x1, x2, x3⟩ := hq.v.cells
          obtain ⟨z0, z1, z2, z3⟩ := hq.v.free
          unfold Oper.wp
          go_simp
          exact hK _ _ _ _ _ _ _ _ (I.s7 (v := undef) hd p6 hag)
      case he =>
        intro d wz r16 r17 r18 r19 r20 r21 r22 I hall
        have HN := hide (I.q6 (hall 6 (by decide)))
        clear I hall
        go_wp2
        go_roundw
        case rel => exact ⟨k + 1, by omega, by omega, by go_num, by rw [unhide HDD]; exact HN, by rw [unhide HDD]; exact HBN⟩
        case measure => simp [intOf]; omega
    · have HD : Hid (rzD m n k = imDrops m (m.table.drop n)) := hide (rzD_all m (by omega))
      have HTE : Hid ((rzD m n k).table = m.table) := hide (imDrops_same _ m).1
      have HRE : Hid (R = { rzD m n k with table := rzTo (rzD m n k).table n }) := hide (by
        rw [unhide HTE, unhide HD]
        exact unhide HR)
      have HTI : Hid (Is wr b.tq (rzD m n k).table) := hide (ownRN ((unhide HQ).o.rows.own (.slice b.tq (rzD m n k).table.length b.tc, (rzD m n k).table) (by simp [imRows])).row)
      have HTL : Hid ((rzD m n k).table.length = m.table.length) := hide (unhide HQ).e2
      have HTC : Hid (Calls Tryz.prog 145 #[.slice b.tq m.table.length b.tc, .int .i64 n] wr fun e w' => ∃ v, e = .returned v ∧ OwnN w' wr.heap.size v (rzTo (rzD m n k).table n) ∧ Below wr.heap.size wr w') := hide (by
        rw [← unhide HTL]
        exact l09Resize_any b.tq b.tc (rzD m n k).table n wr (by omega) (by rw [unhide HTL]; omega) (unhide HTI))
      clear HD HR HTE HTI
      generalize rzD m n k = D at *
      go_wp2_with fail
      refine (unhide HTC).mono ?_
      rintro e w2 ⟨v, rfl, hov, hb2⟩
      have HLZ := hide (rzTo_len D.table n)
      obtain ⟨qo, qa, rfl, hor⟩ := hov
      rw [unhide HLZ] at hor ⊢
      have HQ2 := hide ((unhide HQ).below hb2)
      have HON := hide ((unhide HQ).o.newT hb2 (OwnN.mk' hor (unhide HLZ)) (unhide HLZ) (by have := (unhide HQ).r.lt; omega))
      clear hor hb2 c0 c1 c2 c3 HTC
      obtain ⟨c0, c1, c2, c3⟩ := (unhide HQ2).v.cells
      obtain ⟨z0, z1, z2, z3⟩ := (unhide HQ2).v.free
      have HQ3 : Hid (ImQ w (w2.setCell ⟨w.heap.size, 1, none⟩ (.slice qo n qa)) (w.heap.size + 2) { b with tq := qo, tc := qa } { m with table := rzTo D.table n } { D with table := rzTo D.table n } ts) := hide
        ⟨by simp only [unhide HLZ]; exact (unhide HQ2).v.set1 _, (unhide HQ2).r.other (p := ⟨w.heap.size, 1, none⟩) (by simp) _, (unhide HON).setCell (p := ⟨w.heap.size, 1, none⟩) (by simp) _, (unhide HQ2).b.setCell (p := ⟨w.heap.size, 1, none⟩) (Nat.le_refl _) _, (unhide HQ2).hB, (unhide HQ2).e1, rfl, (unhide HQ2).e3, (unhide HQ2).e4⟩
      clear HQ HQ2 HON
      go_upto_region 7 with fail
      clear c0 c1 c2 c3 z0 z1 z2 z3
      revert HQ3
      generalize (w2.setCell _ _) = W3
      intro HQ3
      have HF := hide (unhide HQ3).fin
      obtain ⟨c0, c1, c2, c3⟩ := (unhide HQ3).v.cells
      obtain ⟨r0, r1, r2, r3⟩ := (unhide HQ3).r.cells
      obtain ⟨z0, z1, z2, z3⟩ := (unhide HQ3).r.free
      go_wp2
      refine bodyPost_ret (res_im Tryz.results112 rfl (unhide HF).1) rfl ?_
      rw [unhide HRE]
      first | exact ⟨_, ts, by rw [← (unhide HQ3).val], (unhide HF).2.1, (unhide HF).2.2⟩ | exact ⟨_, by rw [← (unhide HQ3).val], ⟨ts, (unhide HF).2.1⟩, (unhide HF).2.2⟩

set_option maxHeartbeats 1600000 in
theorem resizeImage_spec (a : Im4) (m : Img) (g : Int) (w : World) (hL : ImL m) (hc : ImS w a m) :
    Calls Tryz.prog 75 #[imV a m, .int .i64 g] w fun e w' => AnsI w w' e (rsA' m g) := by
  have HE := hide (ImE.new w a m hc)
  have HL := hide hL
  have ht64 : m.table.length ≤ 9223372036854775807 := hL.t
  obtain ⟨R, HR⟩ : ∃ R, Hid (R = rsA' m g) := ⟨_, rfl⟩
  rw [← unhide HR]
  clear hc hL
  go_enter Tryz.func75, Tryz.ntmps75
  go_upto_region 1 with fail
  revert HE
  generalize ((w.alloc _).alloc _) = W0
  intro HE
  obtain ⟨c0, c1, c2, c3⟩ := (unhide HE).v.cells
  go_wp2_with fail
  refine (imageOK_spec a m _ (unhide HL) (unhide HE).s).mono ?_
  rintro e w1 ⟨rfl, hb⟩
  have HE1 := hide ((unhide HE).below hb)
  clear hb c0 c1 c2 c3 HE
  obtain ⟨c0, c1, c2, c3⟩ := (unhide HE1).v.cells
  obtain ⟨r0, r1, r2, r3⟩ := (unhide HE1).r.cells
  obtain ⟨z0, z1, z2, z3⟩ := (unhide HE1).r.free
  cases him : imB m
  · have HX : Hid (R = (im0, 1)) := hide (by rw [unhide HR, rsA', him]; rfl)
    have HZ := hide (unhide HE1).zero
    go_wp2
    refine bodyPost_ret (res_ic Tryz.results75 rfl rfl (unhide HZ).1) rfl ?_
    rw [unhide HX]
    exact AnsI.bad 1 (unhide HZ).2
  have HM := hide (imB_iff.1 him).M
  cases hg : betw g 0 12
  · have HX : Hid (R = (m, 4)) := hide (by rw [unhide HR, rsA', if_pos him, hg]; rfl)
    clear him HR
    go_wp2_with (first | (go_at_call 71; refine (in_any _ _ _ _).mono ?_; rintro e w' ⟨rfl, hw⟩; replace hw := hw.symm; subst hw; rw [hg]) | fail)
    refine (l10Own_M a m _ (unhide HM) (unhide HE1).s).mono ?_
    rintro e w2 ⟨b, ts, rfl, ho, hb⟩
    have HP := hide ((unhide HE1).put hb ho)
    have HE2 := hide ((unhide HE1).below hb)
    clear ho hb c0 c1 c2 c3 r0 r1 r2 r3 z0 z1 z2 z3
    obtain ⟨r0, r1, r2, r3⟩ := (unhide HE2).r.cells
    obtain ⟨z0, z1, z2, z3⟩ := (unhide HE2).r.free
    go_wp2
    refine bodyPost_ret (res_ic Tryz.results75 rfl rfl (unhide HP).1) rfl ?_
    rw [unhide HX]
    exact AnsI.of (R := (m, 4)) rfl rfl (unhide HP).2.1 (unhide HP).2.2
  · have HX : Hid (R = (imResize m g.toNat, 0)) := hide (by rw [unhide HR, rsA', if_pos him, if_pos hg])
    obtain ⟨l0, l1⟩ := betw_iff.1 hg
    obtain ⟨q, rfl⟩ := Int.eq_ofNat_of_zero_le l0
    rw [Int.toNat_natCast] at HX
    have hq : q ≤ 12 := by omega
    obtain ⟨R1, HR1⟩ : ∃ R1, Hid (R1 = imResize m q) := ⟨_, rfl⟩
    rw [← unhide HR1] at HX
    clear him l0 l1 HR
    go_wp2_with (go_at_call 71; refine (in_any _ _ _ _).mono ?_; rintro e w' ⟨rfl, hw⟩; replace hw := hw.symm; subst hw; rw [hg])
    refine (l10Resize_R a m q R1 _ (unhide HR1) (unhide HM) hq (unhide HE1).s).mono ?_
    rintro e w2 ⟨b, ts, rfl, ho, hb⟩
    have HP := hide ((unhide HE1).put hb ho)
    have HE2 := hide ((unhide HE1).below hb)
    clear ho hb c0 c1 c2 c3 r0 r1 r2 r3 z0 z1 z2 z3 HR1
    obtain ⟨r0, r1, r2, r3⟩ := (unhide HE2).r.cells
    obtain ⟨z0, z1, z2, z3⟩ := (unhide HE2).r.free
    go_wp2
    refine bodyPost_ret (res_ic Tryz.results75 rfl rfl (unhide HP).1) rfl ?_
    rw [unhide HX]
    exact AnsI.of (R := (R1, 0)) rfl rfl (unhide HP).2.1 (unhide HP).2.2

end Go.Proofs.YtpdpnepnfhbonaaGreat

namespace Go.Proofs.YtpdpnepnfhbonaaGreat
open Go.RowKit
set_option linter.unusedVariables false
set_option maxRecDepth 100000

theorem OwnIm.addS {w w3 w4 : World} {B g2 cap2 : Nat} {a : Im4} {m : Img} {ts : List Value} {name : ByteArray} {t : Value} {tbl : List Int} (h : OwnIm w B a m ts) (hB : B ≤ w.heap.size) (hb : Below w.heap.size w w3) (ht : OwnN w3 w.heap.size t tbl)
    (ho : w4.ownsRow B 83 2 (.slice (some ⟨g2, 0, none⟩) (m.snaps.length + 1) cap2) (m.snaps.length + 1) (snC m.snaps ts ++ [.string name, t])) (hk : Keep (Own (.slice a.so m.snaps.length a.sc)) w3 w4) :
    OwnIm w4 B { a with so := some ⟨g2, 0, none⟩, sc := cap2 } { m with snaps := m.snaps ++ [⟨name, tbl⟩] } (ts ++ [t]) := by
  have hs := h.s.below hb
  have hr := h.rows.below hb
  refine ⟨by simp [h.len], ?_, ?_⟩
  · rw [snC_snoc _ _ _ _ h.len]
    simp only [List.length_append, List.length_singleton]
    exact .inr ⟨by omega, ho⟩
  · have h1 := hr.keep hk (fun r hr' g hg hS => own_apartS (hr.own r hr').row hs (by decide) g hg hS)
    have ht4 : OwnN w4 w.heap.size t tbl := ht.keep hk (fun g hg hS => own_apartS ht.row hs (by decide) g hg hS)
    have e : imRows { a with so := some ⟨g2, 0, none⟩, sc := cap2 } { m with snaps := m.snaps ++ [⟨name, tbl⟩] } (ts ++ [t]) = imRows a m ts ++ [(t, tbl)] := by
      simp only [imRows, List.map_append, List.map_cons, List.map_nil]
      rw [List.zip_append (by rw [List.length_map, h.len])]
      rfl
    rw [e]
    exact h1.add (fun r hr' g hg => ((h.rows.own r hr').ge g hg).2) ht4 hB

theorem create_name {m : Img} {name : ByteArray} (h : snmB name = false) : imCreate m name = (m, 12) := by rw [imCreate, h]; rfl
theorem create_twice {m : Img} {name : ByteArray} (h : snmB name = true) (hf : imFind m name < m.snaps.length) : imCreate m name = (m, 8) := by rw [imCreate, if_pos h, if_pos hf]
theorem create_many {m : Img} {name : ByteArray} (h : snmB name = true) (hf : ¬ imFind m name < m.snaps.length) (h3 : m.snaps.length = 3) : imCreate m name = (m, 6) := by rw [imCreate, if_pos h, if_neg hf, if_pos h3]
theorem create_done {m : Img} {name : ByteArray} (h : snmB name = true) (hf : ¬ imFind m name < m.snaps.length) (h3 : ¬ m.snaps.length = 3) : imCreate m name = ({ imRaise m m.table with snaps := m.snaps ++ [⟨name, m.table⟩] }, 0) := by rw [imCreate, if_pos h, if_neg hf, if_neg h3]

set_option maxHeartbeats 3200000 in
theorem l10Create_R (a : Im4) (m : Img) (name : ByteArray) (R : Img × Int) (w : World) (hR : R = imCreate m name) (hM : ImM m) (htb : tbB m.table = true) (hz : name.size ≤ maxLen) (hc : ImS w a m) :
    Calls Tryz.prog 76 #[imV a m, .string name] w fun e w' => AnsI w w' e R := by
  have HE := hide (ImE.new w a m hc)
  have HM := hide hM
  have HR := hide hR
  have HTB := hide htb
  have HZ := hide hz
  clear hc hM hR htb hz
  obtain ⟨j0, hj0, hy0, hy1, hy2⟩ := info_parts infoSn
  obtain ⟨i0, hi0, hz0, hz1, hz2⟩ := info_parts infoIn
  go_enter Tryz.func76, Tryz.ntmps76
  go_upto_region 1 with fail
  revert HE
  generalize ((w.alloc _).alloc _) = W0
  intro HE
  obtain ⟨c0, c1, c2, c3⟩ := (unhide HE).v.cells
  go_wp2_with fail
  refine (l10Own_F a m _ (unhide HM) (unhide HE).s).mono ?_
  rintro e w1 ⟨b, ts, rfl, ⟨ho, hc0⟩, hb⟩
  have HC0 := hide hc0
  clear hc0
  have HQ := hide (ImQ.put (w := w) ((unhide HE).v.below hb) ((unhide HE).r.below hb) (ho.base (B' := w.heap.size + 2) (by have := (unhide HE).r.lt; omega)) (fr (unhide HE).b hb) (Nat.le_refl _) (m0 := m) rfl rfl rfl rfl)
  unfold putI at HQ
  obtain ⟨x0, x1, x2, x3⟩ := ((unhide HE).v.below hb).cells
  obtain ⟨z0, z1, z2, z3⟩ := ((unhide HE).v.below hb).free
  clear c0 c1 c2 c3 ho hb HE
  go_upto_region 2 with fail
  clear x0 x1 x2 x3 z0 z1 z2 z3
  revert HQ
  generalize (((w1.setCell _ _).setCell _ _).setCell _ _).setCell _ _ = W1
  intro HQ
  have HS : Hid (ImS W1 b m) := hide ((unhide HQ).o.shows (unhide HM).zs)
  go_wp2_with fail
  refine (l10Name_any name _ (unhide HZ)).mono ?_
  rintro e w' ⟨rfl, hw⟩
  replace hw := hw.symm
  subst hw
  obtain ⟨c0, c1, c2, c3⟩ := (unhide HQ).v.cells
  obtain ⟨r0, r1, r2, r3⟩ := (unhide HQ).r.cells
  obtain ⟨z0, z1, z2, z3⟩ := (unhide HQ).r.free
  cases hn : snmB name
  · have HX : Hid (R = (m, 12)) := hide ((unhide HR).trans (create_name hn))
    have HF := hide (unhide HQ).fin
    go_wp2
    refine bodyPost_ret (res_ic Tryz.results76 rfl rfl (unhide HF).1) rfl ?_
    rw [unhide HX]
    exact AnsI.of (R := (m, 12)) rfl rfl (unhide HF).2.1 (unhide HF).2.2
  go_wp2_with fail
  refine (l10Find_any b m name _ (by have := (unhide HM).s; omega) (unhide HS).s).mono ?_
  rintro e w2 ⟨rfl, hb2⟩
  have HQ2 := hide ((unhide HQ).below hb2)
  clear hb2 c0 c1 c2 c3 r0 r1 r2 r3 z0 z1 z2 z3 HQ HS
  obtain ⟨c0, c1, c2, c3⟩ := (unhide HQ2).v.cells
  obtain ⟨r0, r1, r2, r3⟩ := (unhide HQ2).r.cells
  obtain ⟨z0, z1, z2, z3⟩ := (unhide HQ2).r.free
  by_cases hf : imFind m name < m.snaps.length
  · have HX : Hid (R = (m, 8)) := hide ((unhide HR).trans (create_twice hn hf))
    have HF := hide (unhide HQ2).fin
    rw [show fdI m name = (imFind m name : Int) from if_pos hf]
    generalize imFind m name = q at *
    clear hf hn
    go_wp2
    refine bodyPost_ret (res_ic Tryz.results76 rfl rfl (unhide HF).1) rfl ?_
    rw [unhide HX]
    exact AnsI.of (R := (m, 8)) rfl rfl (unhide HF).2.1 (unhide HF).2.2
  rw [show fdI m name = -1 from if_neg hf]
  have HSL := hide (unhide HM).s
  by_cases h3 : m.snaps.length = 3
  · have HX : Hid (R = (m, 6)) := hide ((unhide HR).trans (create_many hn hf h3))
    have HF := hide (unhide HQ2).fin
    have b3 : ((m.snaps.length : Int) == 3) = true := by rw [h3]; rfl
    clear hf hn h3
    go_wp2
    refine bodyPost_ret (res_ic Tryz.results76 rfl rfl (unhide HF).1) rfl ?_
    rw [unhide HX]
    exact AnsI.of (R := (m, 6)) rfl rfl (unhide HF).2.1 (unhide HF).2.2
  have HX : Hid (R = ({ imRaise m m.table with snaps := m.snaps ++ [⟨name, m.table⟩] }, 0)) := hide ((unhide HR).trans (create_done hn hf h3))
  have b3 : ((m.snaps.length : Int) == 3) = false := by rw [beq_eq_false_iff_ne]; omega
  clear hf hn h3
  go_wp2_with fail
  refine (l10Raise_any b m ts (w.heap.size + 2) b.tq b.tc m.table _ (unhide HM).r (fun c hc => by have := (unhide HM).rv c hc; omega) (unhide HTB) (ownRN ((unhide HQ2).o.rows.own (.slice b.tq m.table.length b.tc, m.table) (by simp [imRows])).row) (unhide HQ2).o).mono ?_
  rintro e w3 ⟨rfl, ho3, hk3⟩
  have HQ3 := hide ((unhide HQ2).turn hk3 ho3 (cnt1T_len m.table m.refs) rfl rfl rfl)
  have HQ4 := hide (unhide HQ3).again
  unfold putI at HQ4
  clear ho3 hk3 c0 c1 c2 c3 r0 r1 r2 r3 z0 z1 z2 z3 HQ2 b3
  obtain ⟨c0, c1, c2, c3⟩ := (unhide HQ3).v.cells
  obtain ⟨z0, z1, z2, z3⟩ := (unhide HQ3).v.free
  go_upto_region 9 with fail
  clear c0 c1 c2 c3 z0 z1 z2 z3 HQ3
  revert HQ4
  generalize (((w3.setCell _ _).setCell _ _).setCell _ _).setCell _ _ = W4
  intro HQ4
  have HT : Hid (Is W4 b.tq m.table) := hide (ownRN ((unhide HQ4).o.rows.own (.slice b.tq m.table.length b.tc, m.table) (by simp [imRows, imRaise])).row)
  have HTL := hide (unhide HM).t
  have hS0 : VarM W4.drew w.heap.size 32 (.slice b.ro m.refs.length b.rc) (.slice b.tq m.table.length b.tc) (.slice b.so m.snaps.length b.sc) (.slice b.dq m.data.length b.dc) := (unhide HQ4).v.below (Below.refl _ _).drew
  refine wp_region_ord (fun w' => VarM w' w.heap.size 32 (.slice b.ro m.refs.length b.rc) (.slice b.tq m.table.length b.tc) (.slice b.so m.snaps.length b.sc) (.slice b.dq m.data.length b.dc)) [0, 1, 2, 4, 5, 10, 3, 6, 7, 8, 9] [(0, 0), (1, 0), (2, 0), (4, 0), (5, 0), (3, 2), (6, 2), (7, 0), (8, 2), (9, 2), (10, 0), (11, 3)] (by kernel_rfl) (by kernel_rfl) rfl (by kernel_rfl) ?_
  refine ord_read (.pointer (some ⟨w.heap.size, 2, none⟩)) rfl rfl hS0 (fun W hW => by go_simp) ?_
  refine ord_read (.slice b.so m.snaps.length b.sc) rfl rfl hS0 (fun W hW => by obtain ⟨k0, k1, k2, k3⟩ := hW.cells; go_simp) ?_
  refine ord_read (.string name) rfl rfl hS0 (fun W hW => by go_simp) ?_
  refine ord_read (.pointer (some ⟨w.heap.size, 1, none⟩)) rfl rfl hS0 (fun W hW => by go_simp) ?_
  refine ord_read (.slice b.tq m.table.length b.tc) rfl rfl hS0 (fun W hW => by obtain ⟨k0, k1, k2, k3⟩ := hW.cells; go_simp) ?_
  refine ord_held rfl rfl ?_
  intro K hK
  unfold Oper.wp
  go_simp
  have hb5 : Below W4.heap.size W4 (W4.drew.alloc (.cells #[] 3)) := fr (Below.refl _ _).drew (Joins.below_alloc1 _ _)
  refine hK _ _ (hS0.below (Joins.below_alloc1 _ _)) ?_
  clear hK K
  refine ord_held rfl rfl ?_
  intro K hK
  refine wp_append_fresh rfl (.tmp 32) (.tmp 34) 22 rfl 3 i0 (.int .i64 0) 1 8 Tryz.underlying22 hi0 hz0 hz1 hz2 rfl (by omega) rfl b.tq m.table.length b.tc (intV m.table) rfl (by rw [intV_length]; omega) (Is.srcI ((unhide HT).below hb5)) (by have := unhide HTL; unfold maxLen; omega) (by have := unhide HTL; omega) ?_
  intro ao cap w6 ho6 hg6
  have hb6 : Below W4.heap.size W4 w6 := belowGr hb5 hg6
  have hS6 := (unhide HQ4).v.below hb6
  have HOT : Hid (OwnN w6 W4.heap.size (.slice ao m.table.length cap) m.table) := hide (OwnN.mk' (ho6.base (by simp)) rfl)
  refine hK _ _ hS6 ?_
  clear hK K ho6 hg6 hb5 hS0
  refine ord_read (.agg #[.string name, .slice ao m.table.length cap]) rfl rfl hS6 (fun W hW => by go_simp) ?_
  refine ord_held rfl rfl ?_
  intro K hK
  unfold Oper.wp
  go_simp
  refine hK _ _ (hS6.below (Joins.below_alloc1 _ _)) ?_
  clear hK K
  have hb7 : Below W4.heap.size W4 (w6.alloc (.cells #[.string name, .slice ao m.table.length cap] 83)) := fr hb6 (Joins.below_alloc1 _ _)
  have HOT7 := hide ((unhide HOT).below (Joins.below_alloc1 w6 (.cells #[.string name, .slice ao m.table.length cap] 83)))
  have hnew : (w6.alloc (.cells #[.string name, .slice ao m.table.length cap] 83)).heap[w6.heap.size]? = some (.cells #[.string name, .slice ao m.table.length cap] 83 (0, 0)) := heap_alloc_new _ _
  generalize (w6.alloc (.cells #[.string name, .slice ao m.table.length cap] 83)) = W7 at *
  have HQ7 := hide ((unhide HQ4).below hb7)
  refine ord_held rfl rfl ?_
  intro K hK
  refine wp_append_one rfl (.tmp 30) (.tmp 37) 30 rfl (w.heap.size + 2) 83 j0 (.agg #[.string ⟨#[]⟩, .slice none 0 0]) 2 40 Tryz.underlying30 hj0 hy0 hy1 hy2 rfl (by omega) b.so m.snaps.length b.sc (snC m.snaps ts) rfl ((unhide HQ7).o.s.toR (unhide HC0)) (by have := (unhide HQ7).r.lt; omega) ⟨w6.heap.size, 0, none⟩ 1 [.string name, .slice ao m.table.length cap] rfl rfl (snap_news hnew) (snap_one _ _ _ _) (by have := unhide HSL; unfold maxLen; omega) (by have := unhide HSL; omega) ?_
  intro g2 cap2 w8 ho8 hk8
  have hv8 : VarM w8 w.heap.size 32 (.slice b.ro m.refs.length b.rc) (.slice b.tq m.table.length b.tc) (.slice b.so m.snaps.length b.sc) (.slice b.dq m.data.length b.dc) := (hk8.block _ (unhide HQ7).v.lt ((unhide HQ7).o.s.other (unhide HQ7).v (by decide))).trans (unhide HQ7).v
  have hr8 : VarM w8 (w.heap.size + 1) 32 (.slice none 0 0) (.slice none 0 0) (.slice none 0 0) (.slice none 0 0) := (hk8.block _ (unhide HQ7).r.lt ((unhide HQ7).o.s.other (unhide HQ7).r (by decide))).trans (unhide HQ7).r
  have HO8 := hide (OwnIm.addS (unhide HQ4).o (by have := (unhide HQ4).r.lt; omega) hb7 (unhide HOT7) ho8 hk8)
  have HB8 : Hid (Below w.heap.size w w8) := hide ((unhide HQ7).b.trans (hk8.below (unhide HQ7).b.size (fun g hg => by have := ((unhide HQ7).o.s.ge g hg).1; omega)))
  refine hK _ _ hv8 ?_
  clear hK K ho8 hk8 hnew
  refine ord_read (.pointer (some ⟨w.heap.size, 2, none⟩)) rfl rfl hv8 (fun W hW => by go_simp) ?_
  obtain ⟨c0, c1, c2, c3⟩ := hv8.cells
  obtain ⟨z0, z1, z2, z3⟩ := hv8.free
  refine ord_alone rfl rfl ?_
  intro K hK
  unfold Oper.wp
  go_simp
  refine hK _ _ ?_
  clear hK K
  refine ord_done ?_
  have HQ9 : Hid (ImQ w (w8.setCell ⟨w.heap.size, 2, none⟩ (.slice (some ⟨g2, 0, none⟩) (m.snaps.length + 1) cap2)) (w.heap.size + 2) { b with so := some ⟨g2, 0, none⟩, sc := cap2 } { m with snaps := m.snaps ++ [⟨name, m.table⟩] } { imRaise m m.table with snaps := m.snaps ++ [⟨name, m.table⟩] } (ts ++ [.slice ao m.table.length cap])) := hide
    ⟨by simp only [List.length_append, List.length_singleton]; exact hv8.set2 _, hr8.other (p := ⟨w.heap.size, 2, none⟩) (by simp) _, (unhide HO8).setCell (p := ⟨w.heap.size, 2, none⟩) (by simp) _, (unhide HB8).setCell (p := ⟨w.heap.size, 2, none⟩) (Nat.le_refl _) _, Nat.le_refl _, cnt1T_len m.table m.refs, rfl, rfl, rfl⟩
  clear c0 c1 c2 c3 z0 z1 z2 z3 hv8 hr8 HO8 HB8 HQ7 HQ4 HOT7 HOT HT
  revert HQ9
  generalize (w8.setCell _ _) = W9
  intro HQ9
  have hF := (unhide HQ9).fin
  simp only [putI, List.length_append, List.length_singleton] at hF
  have HF := hide hF
  clear hF
  have HVL := hide (unhide HQ9).val
  obtain ⟨c0, c1, c2, c3⟩ := (unhide HQ9).v.cells
  obtain ⟨r0, r1, r2, r3⟩ := (unhide HQ9).r.cells
  obtain ⟨z0, z1, z2, z3⟩ := (unhide HQ9).r.free
  go_wp2
  refine bodyPost_ret (res_ic Tryz.results76 rfl rfl (unhide HF).1) rfl ?_
  rw [unhide HX]
  exact AnsI.of (R := ({ imRaise m m.table with snaps := m.snaps ++ [⟨name, m.table⟩] }, 0)) (by rw [← unhide HVL]; simp [imV]) rfl (unhide HF).2.1 (unhide HF).2.2

end Go.Proofs.YtpdpnepnfhbonaaGreat

namespace Go.Proofs.YtpdpnepnfhbonaaGreat
open Go.RowKit
set_option linter.unusedVariables false
set_option maxRecDepth 100000

theorem once_cN {t : List Int} (h : tbB t = true) : (clA t).Nodup ↔ ∀ i, i < 24 → cN t i ≤ 1 := by
  constructor
  · intro hn i hi
    rw [← clA_count]
    by_cases hm : (i : Int) ∈ clA t
    · have := (nodup_count _).1 hn _ hm; omega
    · rw [List.count_eq_zero_of_not_mem hm]; omega
  · intro hc
    refine (nodup_count _).2 fun x hx => ?_
    obtain ⟨c0, c1⟩ := cl_mem h x hx
    obtain ⟨q, rfl⟩ := Int.eq_ofNat_of_zero_le c0
    have := hc q (by omega)
    rw [← clA_count] at this
    omega
structure PreR (m : Img) : Prop where
  few : m.snaps.length ≤ 3
  len : m.data.length = 24
  t : ∀ t ∈ imTabs m, tbB t = true
  once : ∀ t ∈ imTabs m, ∀ i, i < 24 → cN t i ≤ 1
  nm : ∀ s ∈ m.snaps, snmB s.name = true
  names : (m.snaps.map (·.name)).Nodup
  nums : ∀ n ∈ m.data, numB n = true
theorem sN_le {i : Nat} (hi : i < 24) : ∀ ts : List (List Int), (∀ t ∈ ts, ∀ i, i < 24 → cN t i ≤ 1) → sN ts i ≤ ts.length := by
  intro ts
  induction ts with
  | nil => intro _; exact Int.le_refl _
  | cons t ts ih =>
    intro h
    have h1 := h t (by simp) i hi
    have h2 := ih (fun x hx => h x (by simp [hx]))
    rw [sN_cons, List.length_cons]
    omega
theorem ctB_mk {xs : List Int} (hl : xs.length = 24) (h : ∀ i, i < 24 → 0 ≤ xs.getD i 0 ∧ xs.getD i 0 ≤ 15) : ctB xs = true := by
  unfold ctB
  simp only [Bool.and_eq_true, decide_eq_true_eq, List.all_eq_true]
  refine ⟨hl, fun x hx => ?_⟩
  obtain ⟨j, hj, rfl⟩ := List.mem_iff_getElem.1 hx
  have := h j (by omega)
  rw [show xs.getD j 0 = xs[j] by simp [List.getD, hj]] at this
  exact betw_iff.2 this
theorem PreR.fit {m : Img} (h : PreR m) : ImR (imFit m) := by
  have hlen : (imTabs m).length ≤ 4 := by rw [imTabs_len]; have := h.few; omega
  have hg : ∀ i, i < 24 → (imFit m).refs.getD i 0 = sN (imTabs m) i := fun i hi => cnt_get h.t hi
  refine ⟨ctB_mk (imCnt_len m) (fun i hi => ?_), h.t _ (by simp [imTabs, imFit]), h.few, by simp [imFit], fun s hs => ⟨h.nm s hs, h.t _ (by unfold imTabs; exact List.mem_cons_of_mem _ (List.mem_map.2 ⟨s, hs, rfl⟩))⟩, h.names, fun n hn => ?_, fun t ht => (once_cN (h.t t ht)).2 (h.once t ht), rfl, fun i hi hz => ?_⟩
  · have h1 := sN_le hi _ h.once
    have h2 := sN_nn (imTabs m) i
    rw [hg i hi]
    omega
  · unfold imFit at hn
    simp only at hn
    obtain ⟨i, hi, rfl⟩ := List.mem_map.1 hn
    have hi' := List.mem_range.1 hi
    split
    · rfl
    · rw [show m.data.getD i 0 = m.data[i]'(by rw [h.len]; exact hi') by simp [List.getD, h.len, hi']]
      exact h.nums _ (List.getElem_mem _)
  · unfold imFit
    simp only
    rw [range_getD hi]
    have hz' : (imCnt m).getD i 0 = 0 := hz
    rw [if_pos hz']
theorem ImR.pre {m : Img} (h : ImR m) : PreR m := ⟨h.few, h.len, h.tabs, fun t ht => (once_cN (h.tabs t ht)).1 (h.once t ht), fun s hs => (h.snaps s hs).1, h.names, h.nums⟩
theorem PreR.withT {m : Img} (h : PreR m) {t d : List Int} (ht : tbB t = true) (ho : ∀ i, i < 24 → cN t i ≤ 1) (hd : d.length = 24) (hn : ∀ n ∈ d, numB n = true) : PreR { m with table := t, data := d } := by
  have hm : ∀ x ∈ imTabs { m with table := t, data := d }, x = t ∨ x ∈ imTabs m := fun x hx => by
    have hx' : x ∈ t :: m.snaps.map (·.table) := hx
    rw [List.mem_cons] at hx'
    rcases hx' with rfl | hx'
    · exact .inl rfl
    · exact .inr (by unfold imTabs; exact List.mem_cons_of_mem _ hx')
  refine ⟨h.few, hd, fun x hx => ?_, fun x hx => ?_, h.nm, h.names, hn⟩
  · rcases hm x hx with rfl | h1
    · exact ht
    · exact h.t x h1
  · rcases hm x hx with rfl | h1
    · exact ho
    · exact h.once x h1
theorem nums_set {d : List Int} (h : ∀ n ∈ d, numB n = true) (c : Nat) {v : Int} (hv : numB v = true) : ∀ n ∈ d.set c v, numB n = true := fun n hn => by
  rcases List.mem_or_eq_of_mem_set hn with h1 | rfl
  · exact h n h1
  · exact hv
theorem ImR.cN_le {m : Img} (h : ImR m) : ∀ i, i < 24 → cN m.table i ≤ 1 := h.pre.once _ (by simp [imTabs])
theorem ImR.zero {m : Img} (h : ImR m) {g : Nat} (hg : g < m.table.length) : ImR (imZero m g) := by
  rw [← fit_zero h hg]
  refine (h.pre.withT (d := m.data) (tbB_set h.table g (by omega) (by omega)) (fun i hi => ?_) h.len h.nums).fit
  have := h.cN_le i hi
  rw [cN_set hg, if_neg (show ¬ (1 : Int) = (i : Int) + 2 by omega)]
  split <;> omega
theorem ImR.resize {m : Img} (h : ImR m) {n : Nat} (hn : n ≤ 12) : ImR (imResize m n) := by
  rw [← fit_resize h hn]
  refine (h.pre.withT (d := m.data) (tbB_rz h.table hn) (fun i hi => ?_) h.len h.nums).fit
  have h1 := h.cN_le i hi
  have e2 : cN m.table i = cN (m.table.take n) i + cN (m.table.drop n) i := by rw [← cN_append, List.take_append_drop]
  have := cN_nn (m.table.drop n) i
  rw [cN_rz]; omega
theorem ImR.write {m : Img} (h : ImR m) {g : Nat} (hg : g < m.table.length) {v : Int} (hv : numB v = true) : ImR (imWrite m g v).1 := by
  have hb := tbB_at h.table g hg
  by_cases h1 : 2 ≤ m.table[g] ∧ m.refs.getD (m.table[g] - 2).toNat 0 = 1
  · have hc : m.table[g] = (((m.table[g] - 2).toNat : Nat) : Int) + 2 := by omega
    have hr : (m.table[g] - 2).toNat < m.refs.length := by rw [h.rl]; omega
    have h1' : m.refs[(m.table[g] - 2).toNat] = 1 := by have := h1.2; simpa [List.getD, hr] using this
    rw [imWrite_in hg hc hr h1']
    rw [← fit_in h v hg hc h1.2]
    have hset : m.table.set g (2 + ((m.table[g] - 2).toNat : Int)) = m.table := by
      rw [show (2 : Int) + ((m.table[g] - 2).toNat : Int) = m.table[g] by omega]
      exact List.set_getElem_self hg
    rw [hset]
    exact (h.pre.withT h.table h.cN_le (by simp [h.len]) (nums_set h.nums _ hv)).fit
  · rw [imWrite_out hg h1]
    by_cases h2 : frN m.refs < m.refs.length
    · rw [if_pos h2]
      have hc24 : frN m.refs < 24 := by rw [h.rl] at h2; exact h2
      have h0 := free_spec h2
      rw [← fit_out h v hg hc24 h0]
      refine (h.pre.withT (tbB_set h.table g (by omega) (by omega)) (fun i hi => ?_) (by simp [h.len]) (nums_set h.nums _ hv)).fit
      have h3 := h.cN_le i hi
      rw [cN_set hg]
      by_cases hci : frN m.refs = i
      · have h4 : cN m.table i ≤ 0 := by
          have := h.cntA hi
          have := sN_nn (m.snaps.map (·.table)) i
          rw [sN_tabs] at *
          rw [hci] at h0
          omega
        have := cN_nn m.table i
        split <;> split <;> omega
      · rw [if_neg (show ¬ (2 : Int) + (frN m.refs : Int) = (i : Int) + 2 by omega)]
        split <;> omega
    · rw [if_neg h2]; exact h

theorem sN_append (s t : List (List Int)) (i : Nat) : sN (s ++ t) i = sN s i + sN t i := by unfold sN; rw [List.map_append, List.sum_append]
theorem raise_get {m : Img} {t : List Int} (hr : m.refs.length = 24) (ht : tbB t = true) {i : Nat} (hi : i < 24) : (imRaise m t).refs.getD i 0 = m.refs.getD i 0 + cN t i := by
  rw [← clA_count]
  exact fold_incr_get i hi _ (cl_mem ht) _ hr
theorem raise_len (m : Img) (t : List Int) : (imRaise m t).refs.length = m.refs.length := cnt1T_len t m.refs
theorem fit_create {m : Img} (h : ImR m) (name : ByteArray) : imFit { m with snaps := m.snaps ++ [⟨name, m.table⟩] } = { imRaise m m.table with snaps := m.snaps ++ [⟨name, m.table⟩] } := by
  have hcs : ∀ i, sN (imTabs { m with snaps := m.snaps ++ [⟨name, m.table⟩] }) i = sN (imTabs m) i + cN m.table i := fun i => by
    have e : sN (imTabs { m with snaps := m.snaps ++ [⟨name, m.table⟩] }) i = cN m.table i + sN (List.map (fun s : Snp => s.table) (m.snaps ++ [⟨name, m.table⟩])) i := rfl
    have e2 : sN [m.table] i = cN m.table i := by rw [sN_cons]; simp [sN]
    rw [e, List.map_append, sN_append, sN_tabs]
    show _ + (_ + sN [m.table] i) = _
    rw [e2]; omega
  have ht : ∀ t ∈ imTabs { m with snaps := m.snaps ++ [⟨name, m.table⟩] }, tbB t = true := fun t ht => by
    have ht' : t ∈ m.table :: List.map (fun s : Snp => s.table) (m.snaps ++ [⟨name, m.table⟩]) := ht
    simp only [List.map_append, List.mem_cons, List.mem_append, List.map_cons, List.map_nil, List.not_mem_nil, or_false] at ht'
    rcases ht' with rfl | ht' | rfl
    · exact h.table
    · exact h.tabs t (by unfold imTabs; exact List.mem_cons_of_mem _ ht')
    · exact h.table
  refine fit_eq (n := { imRaise m m.table with snaps := m.snaps ++ [⟨name, m.table⟩] }) ht (by show (imRaise m m.table).refs.length = 24; rw [raise_len]; exact h.rl) h.len rfl rfl (fun i hi => ?_) (fun i hi => ?_)
  · show (imRaise m m.table).refs.getD i 0 = _
    rw [raise_get h.rl h.table hi, hcs, h.cntA hi]
  · show m.data.getD i 0 = if _ then 0 else m.data.getD i 0
    rw [hcs, ← h.cntA hi]
    have h1 := cN_nn m.table i
    have h2 := sN_nn (imTabs m) i
    rw [← h.cntA hi] at h2
    by_cases hz : m.refs.getD i 0 + cN m.table i = 0
    · rw [if_pos hz, h.clear i hi (by omega)]
    · rw [if_neg hz]
theorem sN_erase {ts : List (List Int)} (i : Nat) : ∀ {k : Nat} (hk : k < ts.length), sN (ts.eraseIdx k) i = sN ts i - cN ts[k] i := by
  induction ts with
  | nil => intro k hk; simp at hk
  | cons t ts ih =>
    intro k hk
    cases k with
    | zero => simp only [List.eraseIdx_cons_zero, List.getElem_cons_zero, sN_cons]; omega
    | succ k =>
      have := ih (k := k) (by simpa using hk)
      simp only [List.eraseIdx_cons_succ, List.getElem_cons_succ, sN_cons, this]; omega
theorem cN_le_sN {ts : List (List Int)} (i : Nat) {k : Nat} (hk : k < ts.length) : cN ts[k] i ≤ sN ts i := by
  have h1 := sN_erase (ts := ts) i hk
  have h2 := sN_nn (ts.eraseIdx k) i
  omega
theorem map_eraseA {α : Type} (f : Snp → α) : ∀ (ss : List Snp) (k : Nat), (ss.eraseIdx k).map f = (ss.map f).eraseIdx k
  | [], k => by simp
  | s :: ss, 0 => rfl
  | s :: ss, k + 1 => by simp only [List.eraseIdx_cons_succ, List.map_cons, map_eraseA f ss k]
theorem map_erase {k : Nat} (ss : List Snp) : (ss.eraseIdx k).map (·.table) = (ss.map (·.table)).eraseIdx k := map_eraseA _ ss k
theorem fit_delete {m : Img} (h : ImR m) {k : Nat} (hk : k < m.snaps.length) : imFit { m with snaps := m.snaps.eraseIdx k } = { imDrops m m.snaps[k].table with snaps := m.snaps.eraseIdx k } := by
  have hk' : k < (m.snaps.map (·.table)).length := by simpa using hk
  have ek : (m.snaps.map (·.table))[k] = m.snaps[k].table := by simp
  have hcs : ∀ i, sN (imTabs { m with snaps := m.snaps.eraseIdx k }) i = sN (imTabs m) i - cN m.snaps[k].table i := fun i => by
    have e : sN (imTabs { m with snaps := m.snaps.eraseIdx k }) i = cN m.table i + sN ((m.snaps.eraseIdx k).map (·.table)) i := rfl
    rw [e, map_erase, sN_erase i hk', ek, sN_tabs]; omega
  have ht : ∀ t ∈ imTabs { m with snaps := m.snaps.eraseIdx k }, tbB t = true := fun t ht => by
    have ht' : t ∈ m.table :: (m.snaps.eraseIdx k).map (·.table) := ht
    rw [List.mem_cons, map_erase] at ht'
    rcases ht' with rfl | ht'
    · exact h.table
    · exact h.tabs t (by unfold imTabs; exact List.mem_cons_of_mem _ (List.mem_of_mem_eraseIdx ht'))
  obtain ⟨l1, l2, l3, l4⟩ := drops_lens m m.snaps[k].table
  have hle : ∀ i, i < 24 → cN m.snaps[k].table i ≤ m.refs.getD i 0 := fun i hi => by
    have h1 := cN_le_sN i hk'
    have h2 := cN_nn m.table i
    rw [ek] at h1
    rw [h.cntA hi, sN_tabs]; omega
  refine fit_eq (n := { imDrops m m.snaps[k].table with snaps := m.snaps.eraseIdx k }) ht (l1.trans h.rl) (l2.trans h.len) l3.symm rfl (fun i hi => ?_) (fun i hi => ?_)
  · show (imDrops m _).refs.getD i 0 = _
    rw [(drops_get hi _ m h.rl h.len).1, hcs, h.cntA hi]
  · show (imDrops m _).data.getD i 0 = _
    rw [drops_fit h _ hi (hle i hi), hcs, h.cntA hi]
theorem fit_revert {m : Img} (h : ImR m) {k : Nat} (hk : k < m.snaps.length) : imFit { m with table := m.snaps[k].table } = { imDrops (imRaise m m.snaps[k].table) m.table with table := m.snaps[k].table } := by
  have hk' : k < (m.snaps.map (·.table)).length := by simpa using hk
  have ek : (m.snaps.map (·.table))[k] = m.snaps[k].table := by simp
  have htk : tbB m.snaps[k].table = true := (h.snaps _ (List.getElem_mem hk)).2
  have hcs : ∀ i, sN (imTabs { m with table := m.snaps[k].table }) i = cN m.snaps[k].table i + sN (m.snaps.map (·.table)) i := fun i => rfl
  obtain ⟨l1, l2, l3, l4⟩ := drops_lens (imRaise m m.snaps[k].table) m.table
  have hrl : (imRaise m m.snaps[k].table).refs.length = 24 := (raise_len _ _).trans h.rl
  refine fit_eq (n := { imDrops (imRaise m m.snaps[k].table) m.table with table := m.snaps[k].table }) (tabs_with h htk m.data) (l1.trans hrl) (l2.trans h.len) rfl l4.symm (fun i hi => ?_) (fun i hi => ?_)
  · show (imDrops (imRaise m m.snaps[k].table) m.table).refs.getD i 0 = _
    rw [(drops_get hi _ _ hrl h.len).1, raise_get h.rl htk hi, hcs, h.cntA hi, sN_tabs]; omega
  · show (imDrops (imRaise m m.snaps[k].table) m.table).data.getD i 0 = if _ then 0 else m.data.getD i 0
    have h1 := cN_le_sN i hk'
    rw [ek] at h1
    have h2 := cN_nn m.snaps[k].table i
    have h3 := cN_nn m.table i
    have h4 := h.cntA hi
    rw [sN_tabs] at h4
    rw [(drops_get hi _ _ hrl h.len).2, raise_get h.rl htk hi, hcs]
    have ed : (imRaise m m.snaps[k].table).data.getD i 0 = m.data.getD i 0 := rfl
    rw [ed]
    by_cases hz : cN m.snaps[k].table i + sN (m.snaps.map (·.table)) i = 0
    · rw [if_pos hz]
      by_cases hr : m.refs.getD i 0 = 0
      · rw [if_neg (by omega), h.clear i hi hr]
      · rw [if_pos (by omega)]
    · rw [if_neg hz, if_neg (by omega)]
theorem ImR.create {m : Img} (h : ImR m) (name : ByteArray) : ImR (imCreate m name).1 := by
  unfold imCreate
  split
  · rename_i hn
    split
    · exact h
    · rename_i hf
      split
      · exact h
      · rename_i h3
        show ImR { imRaise m m.table with snaps := m.snaps ++ [⟨name, m.table⟩] }
        rw [← fit_create h name]
        refine PreR.fit ⟨?_, h.len, fun t ht => ?_, fun t ht => ?_, fun s hs => ?_, ?_, h.nums⟩
        · have := h.few
          simp only [List.length_append, List.length_singleton]; omega
        · have ht' : t ∈ m.table :: List.map (fun s : Snp => s.table) (m.snaps ++ [⟨name, m.table⟩]) := ht
          simp only [List.map_append, List.mem_cons, List.mem_append, List.map_cons, List.map_nil, List.not_mem_nil, or_false] at ht'
          rcases ht' with rfl | ht' | rfl
          · exact h.table
          · exact h.tabs t (by unfold imTabs; exact List.mem_cons_of_mem _ ht')
          · exact h.table
        · have ht' : t ∈ m.table :: List.map (fun s : Snp => s.table) (m.snaps ++ [⟨name, m.table⟩]) := ht
          simp only [List.map_append, List.mem_cons, List.mem_append, List.map_cons, List.map_nil, List.not_mem_nil, or_false] at ht'
          rcases ht' with rfl | ht' | rfl
          · exact h.cN_le
          · exact h.pre.once t (by unfold imTabs; exact List.mem_cons_of_mem _ ht')
          · exact h.cN_le
        · simp only [List.mem_append, List.mem_singleton] at hs
          rcases hs with hs | rfl
          · exact (h.snaps s hs).1
          · exact hn
        · rw [List.map_append, List.nodup_append]
          refine ⟨h.names, by simp, ?_⟩
          intro a ha b hb
          simp only [List.map_cons, List.map_nil, List.mem_singleton] at hb
          subst hb
          rintro rfl
          obtain ⟨s, hs, e⟩ := List.mem_map.1 ha
          apply hf
          unfold imFind
          rw [List.findIdx_lt_length]
          exact ⟨s, hs, by simp [e]⟩
  · exact h
theorem ImR.delete {m : Img} (h : ImR m) (name : ByteArray) : ImR (imDelete m name).1 := by
  unfold imDelete
  split
  · rename_i hf
    have e : (m.snaps[imFind m name]?).elim [] (·.table) = m.snaps[imFind m name].table := by rw [List.getElem?_eq_getElem hf]; rfl
    rw [e]
    show ImR { imDrops m m.snaps[imFind m name].table with snaps := m.snaps.eraseIdx (imFind m name) }
    rw [← fit_delete h hf]
    refine PreR.fit ⟨?_, h.len, fun t ht => ?_, fun t ht => ?_, fun s hs => (h.snaps s (List.mem_of_mem_eraseIdx hs)).1, ?_, h.nums⟩
    · have := h.few
      simp only [List.length_eraseIdx]; split <;> omega
    · have ht' : t ∈ m.table :: (m.snaps.eraseIdx (imFind m name)).map (·.table) := ht
      rw [List.mem_cons, map_erase] at ht'
      rcases ht' with rfl | ht'
      · exact h.table
      · exact h.tabs t (by unfold imTabs; exact List.mem_cons_of_mem _ (List.mem_of_mem_eraseIdx ht'))
    · have ht' : t ∈ m.table :: (m.snaps.eraseIdx (imFind m name)).map (·.table) := ht
      rw [List.mem_cons, map_erase] at ht'
      rcases ht' with rfl | ht'
      · exact h.cN_le
      · exact h.pre.once t (by unfold imTabs; exact List.mem_cons_of_mem _ (List.mem_of_mem_eraseIdx ht'))
    · show ((m.snaps.eraseIdx (imFind m name)).map (·.name)).Nodup
      rw [map_eraseA]
      exact h.names.sublist (List.eraseIdx_sublist _ _)
  · exact h
theorem ImR.revert {m : Img} (h : ImR m) (name : ByteArray) : ImR (imRevert m name).1 := by
  unfold imRevert
  split
  · rename_i hf
    have e : (m.snaps[imFind m name]?).elim [] (·.table) = m.snaps[imFind m name].table := by rw [List.getElem?_eq_getElem hf]; rfl
    rw [e]
    show ImR { imDrops (imRaise m m.snaps[imFind m name].table) m.table with table := m.snaps[imFind m name].table }
    rw [← fit_revert h hf]
    have htk := (h.snaps _ (List.getElem_mem hf)).2
    exact (h.pre.withT (d := m.data) htk (h.pre.once _ (by unfold imTabs; exact List.mem_cons_of_mem _ (List.mem_map.2 ⟨_, List.getElem_mem hf, rfl⟩))) h.len h.nums).fit
  · exact h
end Go.Proofs.YtpdpnepnfhbonaaGreat

namespace Go.Proofs.YtpdpnepnfhbonaaGreat
open Go.RowKit
set_option linter.unusedVariables false
set_option maxRecDepth 100000

theorem VarT1.new (w : World) (s : ByteArray) : VarT1 (w.alloc (.cells #[.string s] 9)) w.heap.size s := by unfold VarT1; rw [Joins.cell_of_block (heap_alloc_new w _)]; rfl
theorem VarT1.below {w w' : World} {x : Nat} {s : ByteArray} (h : VarT1 w x s) (hb : Below w.heap.size w w') : VarT1 w' x s := (hb.cell (World.block_lt_of_cell? _ _ h)).trans h
theorem VarT1.lt {w : World} {x : Nat} {s : ByteArray} (h : VarT1 w x s) : x < w.heap.size := World.block_lt_of_cell? _ _ h

set_option maxHeartbeats 1600000 in
theorem changeSnaps_any (a : Im4) (m : Img) (name : ByteArray) (F : FuncId) (caps : Array Value) (m1 : Img) (c : Int) (w : World) (hL : ImL m) (hz : name.size ≤ 65536) (hc : ImS w a m)
    (hcf : ∀ (args : Array Value) (W : World), (callFunc F args).run Tryz.prog W = .ok (.enter F args) W)
    (hch : imB m = true → FitR m1 ∧ ∀ (W : World) (p B : Nat) (a1 : Im4) (ts1 : List Value), Below w.heap.size w W → w.heap.size ≤ B → B ≤ W.heap.size → Hld W p B a1 m ts1 → (m.snaps.length = 0 → a1.sc = 0) → Calls Tryz.prog F (#[.pointer (some ⟨p, 0, none⟩)] ++ caps) W fun e W' => Chg W W' p B e c m1) :
    Calls Tryz.prog 127 #[imV a m, .string name, .func (.func F) #[] caps] w fun e w' => AnsI w w' e (if imB m = true then (imFit m1, c) else (im0, 1)) := by
  have HE := hide (ImE.new w a m hc)
  have HL := hide hL
  have HCH := hide hch
  obtain ⟨R, HR⟩ : ∃ R, Hid (R = if imB m = true then (imFit m1, c) else (im0, 1)) := ⟨_, hide rfl⟩
  rw [← unhide HR]
  clear hc hL hch
  go_enter Tryz.func127, Tryz.ntmps127
  go_upto_region 1 with fail
  revert HE
  generalize ((w.alloc _).alloc _) = W0
  intro HE
  obtain ⟨c0, c1, c2, c3⟩ := (unhide HE).v.cells
  go_wp2_with fail
  refine (changeImage_any a m F caps m1 c _ (unhide HL) (unhide HE).s hcf (fun him => ⟨(unhide HCH him).1, fun W p B a1 ts1 h1 h2 h3 h4 h5 => (unhide HCH him).2 W p B a1 ts1 (fr (unhide HE).b h1) (Nat.le_trans (unhide HE).b.size h2) h3 h4 h5⟩)).mono ?_
  intro e w2 hans
  rw [← unhide HR] at hans
  obtain ⟨b, ts, rfl, ho, hb⟩ := hans
  have HP := hide ((unhide HE).put hb ho)
  have HE2 := hide ((unhide HE).below hb)
  clear ho hb c0 c1 c2 c3
  obtain ⟨r0, r1, r2, r3⟩ := (unhide HE2).r.cells
  obtain ⟨z0, z1, z2, z3⟩ := (unhide HE2).r.free
  go_wp2
  refine bodyPost_ret (res_ic Tryz.results127 rfl rfl (unhide HP).1) rfl ?_
  exact AnsI.of rfl rfl (unhide HP).2.1 (unhide HP).2.2

end Go.Proofs.YtpdpnepnfhbonaaGreat

namespace Go.Proofs.YtpdpnepnfhbonaaGreat
open Go.RowKit
set_option linter.unusedVariables false
set_option maxRecDepth 100000

theorem keep_cell {S : Nat → Prop} {w w' : World} {a : Addr} {v : Value} (hk : Keep S w w') (ha : ¬ S a.block) (h : w.cell? a = some v) : w'.cell? a = some v := by
  have hl := World.block_lt_of_cell? _ _ h
  rw [← h]
  unfold World.cell?
  simp only [hk.block a.block hl ha]
end Go.Proofs.YtpdpnepnfhbonaaGreat
