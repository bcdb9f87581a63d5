import Derived.Test.YtjjkppknojecjaaGreatRows
import Derived.Test.YtjjkppknojecjaaGreatXPlainWorldPart1
import Derived.Test.YtjjkppknojecjaaGreatXPlainWorldPart3
import Derived.Test.YtjjkppknojecjaaGreatXPlainWorldPart2
import Derived.Test.YtjjkppknojecjaaGreatXPlainWorldPart4
import Derived.Test.YtjjkppknojecjaaGreatXPlainWorldPart5
import Derived.WalkKit
import Derived.WalkSpells
import Derived.BigQuiet
import Derived.Deep.QuietTactic
import Derived.Deep.RegionWith
import Derived.Test.YtjjkppknojecjaaGreatXPlainWorldPart10
import Derived.Test.YtjjkppknojecjaaGreatXPlainWorldPart6
import Derived.KernelRfl
import Derived.Test.YtjjkppknojecjaaGreatXPlainWorldPart12

namespace Go.Proofs.YtjjkppknojecjaaGreat
open Go.RowKit
set_option linter.unusedVariables false
set_option maxRecDepth 100000

def mkWl (k : Nat) (m : Wld) : Wld := { m with ss := mkS k m.ss.length, xs := mkI (k + m.ss.length) m.xs.length, hs := mkHs (k + m.ss.length + 3 * m.xs.length) m.hs.length, g := mkGs (k + m.ss.length + 3 * m.xs.length + m.hs.length * 3) m.g }
def wlK (m : Wld) : Nat := m.ss.length + 3 * m.xs.length + m.hs.length * 3 + gsK m.g

set_option maxHeartbeats 6400000 in
theorem markWorld_any (a : Wl4) (m : Wld) (ts : List Value) (k B : Nat) (w : World) (hL : WlBd m) (hk0 : 0 < k) (hk1 : k ≤ 4194304) (ho : OwnWl w B a m ts) :
    Calls Tryz.prog 9 #[wlV a m, .int .i64 k] w fun e w' => e = .returned (.int .i64 ((k + wlK m : Nat) : Int)) ∧ OwnWl w' B a (mkWl k m) ts ∧ Keep (WlB a m ts) w w' := by
  have HA := hide (Joins.below_alloc1 w (.cells (wlC a m) 37))
  have HV := hide (VarW.new w 37 a m)
  have HO := hide (ho.below (unhide HA))
  have HL := hide hL
  have HK0 : Hid (Keep (WlB a m ts) w (w.alloc (.cells (wlC a m) 37))) := hide (Keep.of_below (unhide HA))
  clear ho hL
  go_enter Tryz.func9, Tryz.ntmps9
  go_upto_region 1 with fail
  revert HA HV HO HK0
  generalize (w.alloc _) = W0
  intro HA HV HO HK0
  obtain ⟨c0, c1, _, _, _, _, _, _, _, _, _, _, _, _, _⟩ := (unhide HV).cells
  go_wp2_with fail
  refine (markDisk_any a.ao a.bo m.ss.length a.ca m.xs.length a.cb k m.ss m.xs B _ (by have := (unhide HL).s; omega) (by have := (unhide HL).i; omega) hk0 (by omega) (unhide HO).d).mono ?_
  rintro e w1 ⟨rfl, ho1, hk⟩
  have HV1 := hide ((unhide HV).keep hk (fun h => (unhide HO).otherV (unhide HV) (by decide) (by decide) (by decide) (by decide) (by decide) (.inl h)))
  have HH1 := hide (OwnR.keep (unhide HO).h hk (unhide HO).dh)
  have HG1 := hide ((unhide HO).g.keep hk (unhide HO).dg)
  have HD1 := hide ho1
  have HK1 := hide ((unhide HK0).trans (hk.mono (T := WlB a m ts) (fun j h => .inl h)))
  clear ho1 hk HV HK0 HA c0 c1
  obtain ⟨_, _, _, _, _, _, c6, _, _, _, _, _, _, _, _⟩ := (unhide HV1).cells
  obtain ⟨k1, hk1', hk10, hk11⟩ : ∃ k1 : Nat, k1 = k + m.ss.length + 3 * m.xs.length ∧ 0 < k1 ∧ k1 ≤ 8388608 := ⟨_, rfl, by omega, by have := (unhide HL).s; have := (unhide HL).i; omega⟩
  rw [← hk1']
  have HQ1 := hide hk1'
  clear hk1'
  go_wp2_with fail
  refine (markHostS_any (.slice a.ho m.hs.length a.hc) m.hs.length k1 _ B _ (by have := (unhide HL).h; omega) hk10 (by omega) (unhide HH1)).mono ?_
  rintro e w2 ⟨rfl, ho2, hk⟩
  have HV2 := hide ((unhide HV1).keep hk (fun h => OwnR.other (unhide HH1) (unhide HV1) (by decide) h))
  have HD2 := hide ((unhide HD1).keep hk (fun x hx hh => by
    obtain ⟨c, t, f, e, ht⟩ := (unhide HD1).type hx
    exact OwnR.other (unhide HH1) e (by rcases ht with rfl | rfl <;> decide) hh))
  have HG2 := hide ((unhide HG1).keep hk (fun x hx hh => by
    obtain ⟨c, f, e⟩ := OwnR.type (unhide HH1) hh
    exact (unhide HG1).otherV e (by decide) (by decide) hx))
  have HH2 := hide ho2
  have HK2 := hide ((unhide HK1).trans (hk.mono (T := WlB a m ts) (fun j h => .inr (.inl h))))
  clear ho2 hk HV1 HD1 HG1 HH1 HK1 c6
  obtain ⟨_, _, _, _, _, _, _, _, c8, c9, _, _, _, _, _⟩ := (unhide HV2).cells
  obtain ⟨k2, hk2', hk20, hk21⟩ : ∃ k2 : Nat, k2 = k1 + m.hs.length * 3 ∧ 0 < k2 ∧ k2 ≤ 16777216 := ⟨_, rfl, by omega, by have := (unhide HL).h; omega⟩
  rw [← hk2']
  have HQ2 := hide hk2'
  clear hk2'
  go_wp2_with fail
  refine (markGuest_any a.ga m.g ts k2 B _ (unhide HL).g.v (unhide HL).g.s (fun s hs => ((unhide HL).g.st s hs).1) (unhide HL).g.k hk20 hk21 (unhide HG2)).mono ?_
  rintro e w3 ⟨rfl, ho3, hk⟩
  have HD3 := hide ((unhide HD2).keep hk (fun x hx hh => by
    obtain ⟨c, t, f, e, ht⟩ := (unhide HD2).type hx
    exact (unhide HG2).otherV e (by rcases ht with rfl | rfl <;> decide) (by rcases ht with rfl | rfl <;> decide) hh))
  have HH3 := hide (OwnR.keep (unhide HH2) hk (fun x hx hh => by
    obtain ⟨c, f, e⟩ := OwnR.type (unhide HH2) hx
    exact (unhide HG2).otherV e (by decide) (by decide) hh))
  have HG3 := hide ho3
  have HK3 := hide ((unhide HK2).trans (hk.mono (T := WlB a m ts) (fun j h => .inr (.inr h))))
  have hk1' := unhide HQ1
  have hk2' := unhide HQ2
  have HE : Hid (k2 + gsK m.g = k + wlK m) := hide (by unfold wlK; omega)
  have HM : Hid (OwnWl w3 B a (mkWl k m) ts) := hide (by
    subst hk2' hk1'
    refine ⟨?_, ?_, ?_⟩
    · simp only [mkWl, mkS_length, mkI_length]; exact unhide HD3
    · simp only [mkWl, mkHs_length]; exact unhide HH3
    · simp only [mkWl]; exact unhide HG3)
  clear ho3 hk HV2 HD2 HG2 HH2 HK2 c8 c9
  go_wp2
  go_ret
  exact ⟨ret_int (by unfold wlK; push_cast; omega), unhide HM, unhide HK3⟩

set_option maxHeartbeats 6400000 in
theorem heldWorld_any (a : Wl4) (m : Wld) (ts : List Value) (k B : Nat) (w : World) (hL : WlBd m) (hk0 : 0 < k) (hk1 : k ≤ 4194304) (ho : OwnWl w B a (mkWl k m) ts) :
    Calls Tryz.prog 10 #[wlV a m, .int .i64 k] w fun e w' => e = .returned (.int .i64 ((k + wlK m : Nat) : Int)) ∧ Below w.heap.size w w' := by
  have HA := hide (Joins.below_alloc1 w (.cells (wlC a m) 37))
  have HV := hide (VarW.new w 37 a m)
  have HO := hide (ho.below (unhide HA))
  have HL := hide hL
  clear ho hL
  go_enter Tryz.func10, Tryz.ntmps10
  go_upto_region 1 with fail
  revert HA HV HO
  generalize (w.alloc _) = W0
  intro HA HV HO
  obtain ⟨c0, c1, _, _, _, _, _, _, _, _, _, _, _, _, _⟩ := (unhide HV).cells
  have HOD : Hid (OwnD _ B a.ao m.ss.length a.ca a.bo m.xs.length a.cb (mkS k m.ss.length) (mkI (k + m.ss.length) m.xs.length)) := hide (by have h := (unhide HO).d; simp only [mkWl, mkS_length, mkI_length] at h; exact h)
  go_wp2_with fail
  refine (heldDisk_any a.ao a.bo m.ss.length a.ca m.xs.length a.cb k B _ (by have := (unhide HL).s; omega) (by have := (unhide HL).i; omega) hk0 (by omega) (unhide HOD)).mono ?_
  rintro e w1 ⟨rfl, hb⟩
  have HV1 := hide ((unhide HV).below hb)
  have HO1 := hide ((unhide HO).below hb)
  have HB1 := hide (fr (unhide HA) hb)
  clear hb HV HO HA HOD c0 c1
  obtain ⟨_, _, _, _, _, _, c6, _, _, _, _, _, _, _, _⟩ := (unhide HV1).cells
  obtain ⟨k1, hk1', hk10, hk11⟩ : ∃ k1 : Nat, k1 = k + m.ss.length + 3 * m.xs.length ∧ 0 < k1 ∧ k1 ≤ 8388608 := ⟨_, rfl, by omega, by have := (unhide HL).s; have := (unhide HL).i; omega⟩
  rw [← hk1']
  have HQ1 := hide hk1'
  clear hk1'
  have HOH : Hid (OwnR w1 B 84 3 (.slice a.ho m.hs.length a.hc) m.hs.length (hssV (mkHs k1 m.hs.length))) := hide (by have h := (unhide HO1).h; simp only [mkWl, mkHs_length] at h; rw [unhide HQ1]; exact h)
  go_wp2_with fail
  refine (heldHostS_any (.slice a.ho m.hs.length a.hc) m.hs.length k1 B _ (by have := (unhide HL).h; omega) hk10 (by omega) (unhide HOH)).mono ?_
  rintro e w2 ⟨rfl, hb⟩
  have HV2 := hide ((unhide HV1).below hb)
  have HO2 := hide ((unhide HO1).below hb)
  have HB2 := hide (fr (unhide HB1) hb)
  clear hb HV1 HO1 HB1 HOH c6
  obtain ⟨_, _, _, _, _, _, _, _, c8, c9, _, _, _, _, _⟩ := (unhide HV2).cells
  obtain ⟨k2, hk2', hk20, hk21⟩ : ∃ k2 : Nat, k2 = k1 + m.hs.length * 3 ∧ 0 < k2 ∧ k2 ≤ 16777216 := ⟨_, rfl, by omega, by have := (unhide HL).h; omega⟩
  rw [← hk2']
  have HQ2 := hide hk2'
  clear hk2'
  have HOG : Hid (OwnGs w2 B a.ga (mkGs k2 m.g) ts) := hide (by have h := (unhide HO2).g; simp only [mkWl] at h; rw [unhide HQ2, unhide HQ1]; exact h)
  go_wp2_with fail
  refine (heldGuest_any a.ga m.g ts k2 B _ (unhide HL).g.v (unhide HL).g.s (fun s hs => ((unhide HL).g.st s hs).1) (unhide HL).g.k hk20 hk21 (unhide HOG)).mono ?_
  rintro e w3 ⟨rfl, hb⟩
  have HB3 := hide (fr (unhide HB2) hb)
  have hk1' := unhide HQ1
  have hk2' := unhide HQ2
  have HE : Hid (k2 + gsK m.g = k + wlK m) := hide (by unfold wlK; omega)
  clear hb HV2 HO2 HB2 HOG c8 c9
  go_wp2
  go_ret
  exact ⟨ret_int (by unfold wlK; push_cast; omega), unhide HB3⟩

end Go.Proofs.YtjjkppknojecjaaGreat

namespace Go.Proofs.YtjjkppknojecjaaGreat
open Go.RowKit
set_option linter.unusedVariables false
set_option maxRecDepth 100000

theorem markWorld_B (a : Wl4) (m : Wld) (ts : List Value) (B : Nat) (w : World) (h : WlBd m) (ho : OwnWl w B a m ts) :
    Calls Tryz.prog 9 #[wlV a m, .int .i64 1] w fun e w' => e = .returned (.int .i64 ((1 + wlK m : Nat) : Int)) ∧ OwnWl w' B a (mkWl 1 m) ts ∧ Keep (WlB a m ts) w w' :=
  markWorld_any a m ts 1 B w h (by omega) (by omega) ho
theorem heldWorld_B (a : Wl4) (m : Wld) (ts : List Value) (B : Nat) (w : World) (h : WlBd m) (ho : OwnWl w B a (mkWl 1 m) ts) :
    Calls Tryz.prog 10 #[wlV a m, .int .i64 1] w fun e w' => e = .returned (.int .i64 ((1 + wlK m : Nat) : Int)) ∧ Below w.heap.size w w' :=
  heldWorld_any a m ts 1 B w h (by omega) (by omega) ho
theorem OwnWl.noVar {w : World} {B x : Nat} {a b : Wl4} {m n : Wld} {ts : List Value} (h : OwnWl w B a m ts) (hv : VarW w x 37 b n) : ¬ WlB a m ts x := h.otherV hv (by decide) (by decide) (by decide) (by decide) (by decide)
theorem LwW.keepW {W W' : World} {p n B : Nat} {a b : Wl4} {g g' : Wld} {ts us : List Value} (h : LwW W p n a g ts) (h2 : OwnWl W B b g' us) (hk : Keep (WlB b g' us) W W') (hs : ∀ x, WlB a g ts x → ¬ WlB b g' us x) : LwW W' p n a g ts :=
  ⟨h.v.keep hk (h2.noVar h.v), h.o.keep hk hs, Nat.le_trans h.n hk.size⟩
theorem VarCg.keepW {W W' : World} {x B : Nat} {b : Wl4} {g' : Wld} {us : List Value} {f d l r : Int} (h : VarCg W x 23 f d l r) (h2 : OwnWl W B b g' us) (hk : Keep (WlB b g' us) W W') : VarCg W' x 23 f d l r :=
  h.keep hk (h2.otherV h (by decide) (by decide) (by decide) (by decide) (by decide))

end Go.Proofs.YtjjkppknojecjaaGreat

namespace Go.Proofs.YtjjkppknojecjaaGreat
open Go.RowKit
set_option linter.unusedVariables false
set_option maxRecDepth 100000

set_option maxHeartbeats 6400000 in
theorem lawWoPlainWorld (R : Wld) (w : World) (hRD : WlBd R) (hRS : WlZ R)
    (hspec : ∀ W : World, Calls Tryz.prog 11 #[] W fun e w' => ∃ a ts, e = .returned (wlV a R) ∧ OwnWl w' W.heap.size a R ts ∧ Below W.heap.size W w')
    (himpl : ∀ W : World, Calls Tryz.prog 12 #[] W fun e w' => ∃ a ts, e = .returned (wlV a R) ∧ OwnWl w' W.heap.size a R ts ∧ Below W.heap.size W w') :
    Calls Tryz.prog 4 #[] w fun e w' => e = .returned (.bool true) ∧ Below w.heap.size w w' := by
  have HRD := hide hRD
  have HRS := hide hRS
  have HIM := hide himpl
  have HSP := hide hspec
  clear himpl hspec hRD hRS
  go_enter Tryz.func4, Tryz.ntmps4
  have HB1 : Hid (Below w.heap.size w w) := hide (Below.refl _ _)
  go_wp2_with fail
  refine (unhide HSP _).mono ?_
  rintro e w3 ⟨aW, tsW, rfl, hoW, hb3⟩
  have HBa := hide (Joins.below_alloc1 w3 (.cells (wlC aW R) 37))
  have HNW := hide (LwW.new w3 aW R hoW hb3.size)
  have HB3 := hide (fr (fr (unhide HB1) hb3) (unhide HBa))
  clear hoW hb3 HB1 HBa
  go_upto_region 2 with fail
  revert HB3
  revert HNW
  generalize (w3.alloc _) = W3
  generalize w3.heap.size = pW
  intro HNW HB3 
  as_aux_lemma =>
    have HNW4 := HNW
    have HB4 := HB3
    have HWX : Hid (∀ g, WlB aW R tsW g → g < W3.heap.size) := hide (fun g hg => ((unhide HNW).o.ge g hg).2)
    have HSL : Hid (w.heap.size ≤ W3.heap.size) := hide (unhide HB3).size
    clear HNW HB3
    go_wp2_with fail
    refine (unhide HIM _).mono ?_
    rintro e w5 ⟨aG, tsG, rfl, hoG, hb5⟩
    have HB5' := hide (fr hb5 (Joins.below_alloc1 w5 (.cells (wlC aG R) 37)))
    have HNW5 := hide ((unhide HNW4).below (unhide HB5'))
    have HNG5 := hide (LwW.new w5 aG R hoG hb5.size)
    have HB5 := hide (fr (unhide HB4) (unhide HB5'))
    clear hoG hb5 HNW4 HB4 HB5' 
    go_upto_region 3 with fail
    revert HB5
    revert HNG5
    revert HNW5
    generalize (w5.alloc _) = W5
    generalize w5.heap.size = pG
    intro HNW5 HNG5 HB5 
    as_aux_lemma =>
      obtain ⟨c0, c1, c2, c3, c4, c5, c6, c7, c8, c9, c10, c11, c12, c13, c14⟩ := (unhide HNG5).v.cells
      obtain ⟨d0, d1, d2, d3, d4, d5, d6, d7, d8, d9, d10, d11, d12, d13, d14⟩ := (unhide HNW5).v.cells
      go_wp2_with fail
      refine (eqWorld_same aG aW R _ (unhide HRD) ((unhide HNG5).o.shw (unhide HRS)) ((unhide HNW5).o.shw (unhide HRS))).mono ?_
      rintro e w9 ⟨rfl, hb⟩
      have HNW9 := hide ((unhide HNW5).below hb)
      have HNG9 := hide ((unhide HNG5).below hb)
      have HB9 := hide (fr (unhide HB5) hb)
      clear hb c0 c1 c2 c3 c4 c5 c6 c7 c8 c9 c10 c11 c12 c13 c14 d0 d1 d2 d3 d4 d5 d6 d7 d8 d9 d10 d11 d12 d13 d14 HNW5 HNG5 HB5
      as_aux_lemma =>
        obtain ⟨c0, c1, c2, c3, c4, c5, c6, c7, c8, c9, c10, c11, c12, c13, c14⟩ := (unhide HNG9).v.cells
        go_wp2_with fail
        refine (markWorld_B aG R tsG _ _ (unhide HRD) (unhide HNG9).o).mono ?_
        rintro e w10 ⟨rfl, ho10, hk10⟩
        have HNW10 := hide ((unhide HNW9).keepW (unhide HNG9).o hk10 (fun g h1 h2 => by have := unhide HWX g h1; have := ((unhide HNG9).o.ge g h2).1; omega))
        have HGV10 := hide ((unhide HNG9).v.keep hk10 ((unhide HNG9).o.noVar (unhide HNG9).v))
        have HGO10 := hide ho10
        have HB10 := hide ((unhide HB9).trans (hk10.below (unhide HB9).size (fun g hg => by have := ((unhide HNG9).o.ge g hg).1; have := unhide HSL; omega)))
        clear ho10 hk10 c0 c1 c2 c3 c4 c5 c6 c7 c8 c9 c10 c11 c12 c13 c14 HNW9 HNG9 HB9
        obtain ⟨c0, c1, c2, c3, c4, c5, c6, c7, c8, c9, c10, c11, c12, c13, c14⟩ := (unhide HGV10).cells
        go_wp2_with fail
        refine (heldWorld_B aG R tsG _ _ (unhide HRD) (unhide HGO10)).mono ?_
        rintro e w12 ⟨rfl, hb⟩
        have HNW12 := hide ((unhide HNW10).below hb)
        have HGV12 := hide ((unhide HGV10).below hb)
        have HGO12 := hide ((unhide HGO10).below hb)
        have HB12 := hide (fr (unhide HB10) hb)
        clear hb c0 c1 c2 c3 c4 c5 c6 c7 c8 c9 c10 c11 c12 c13 c14 HNW10 HGV10 HGO10 HB10
        have hq1 : ¬ (((1 + wlK R : Nat) : Int) < 0) := by omega
        as_aux_lemma =>
          have HNW13 := HNW12
          have HGV13 := HGV12
          have HGO13 := HGO12
          have HB13 := HB12
          clear HNW12 HGV12 HGO12 HB12
          go_wp2_with fail
          refine (unhide HIM _).mono ?_
          rintro e w14 ⟨aH, tsH, rfl, hoH, hb⟩
          have HBa := hide (fr hb (Joins.below_alloc1 w14 (.cells (wlC aH R) 37)))
          have HNH := hide (LwW.new w14 aH R hoH hb.size)
          have HNW14 := hide ((unhide HNW13).below (unhide HBa))
          have HGV14 := hide ((unhide HGV13).below (unhide HBa))
          have HGO14 := hide ((unhide HGO13).below (unhide HBa))
          have HB14 := hide (fr (unhide HB13) (unhide HBa))
          clear hb hoH HNW13 HGV13 HGO13 HB13 HBa
          go_upto_region 14 with fail
          revert HB14
          revert HGO14
          revert HGV14
          revert HNW14
          revert HNH
          generalize (w14.alloc _) = W14
          generalize w14.heap.size = pH
          intro HNH HNW14 HGV14 HGO14 HB14
          as_aux_lemma =>
            obtain ⟨c0, c1, c2, c3, c4, c5, c6, c7, c8, c9, c10, c11, c12, c13, c14⟩ := (unhide HNH).v.cells
            obtain ⟨d0, d1, d2, d3, d4, d5, d6, d7, d8, d9, d10, d11, d12, d13, d14⟩ := (unhide HNW14).v.cells
            go_wp2_with fail
            refine (eqWorld_same aH aW R _ (unhide HRD) ((unhide HNH).o.shw (unhide HRS)) ((unhide HNW14).o.shw (unhide HRS))).mono ?_
            rintro e w15 ⟨rfl, hb⟩
            have HGV15 := hide ((unhide HGV14).below hb)
            have HGO15 := hide ((unhide HGO14).below hb)
            have HB15 := hide (fr (unhide HB14) hb)
            clear hb c0 c1 c2 c3 c4 c5 c6 c7 c8 c9 c10 c11 c12 c13 c14 d0 d1 d2 d3 d4 d5 d6 d7 d8 d9 d10 d11 d12 d13 d14 HNH HNW14 HGV14 HGO14 HB14
            obtain ⟨c0, c1, c2, c3, c4, c5, c6, c7, c8, c9, c10, c11, c12, c13, c14⟩ := (unhide HGV15).cells
            go_wp2_with fail
            refine (heldWorld_B aG R tsG _ _ (unhide HRD) (unhide HGO15)).mono ?_
            rintro e w16 ⟨rfl, hb⟩
            have HB16 := hide (fr (unhide HB15) hb)
            clear hb c0 c1 c2 c3 c4 c5 c6 c7 c8 c9 c10 c11 c12 c13 c14
            go_wp2
            go_ret
            exact ⟨rfl, unhide HB16⟩

end Go.Proofs.YtjjkppknojecjaaGreat

namespace Go.Proofs.YtjjkppknojecjaaGreat
open Go.RowKit
set_option linter.unusedVariables false
set_option maxRecDepth 100000

theorem pw_ok : WlBd pwW ∧ WlZ pwW := by have := nwA_ok 10 60 2 10 6; rw [pw_eq] at this; exact this
theorem wkPlainWorld (w : World) :
    Calls Tryz.prog 4 #[] w fun e w' => e = .returned (.bool true) ∧ Below w.heap.size w w' :=
  lawWoPlainWorld pwW w pw_ok.1 pw_ok.2 (fun W => plainWorld_spec W) (fun W => plainWorld_impl W)

end Go.Proofs.YtjjkppknojecjaaGreat
