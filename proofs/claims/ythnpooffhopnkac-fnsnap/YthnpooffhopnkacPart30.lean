import Derived.Test.YthnpooffhopnkacRows
import Derived.Test.YthnpooffhopnkacPart19
import Derived.Test.YthnpooffhopnkacSrcM
import Derived.Test.YthnpooffhopnkacPart27
import Derived.Test.YthnpooffhopnkacPart29
import Derived.WalkKit
import Derived.WalkSpells
import Derived.KernelRfl
import Derived.LoopN
import Derived.BigQuiet
import Derived.Deep.QuietTactic
import Derived.Test.YthnpooffhopnkacPart22
import Derived.Deep.CutRange
import Derived.Test.YthnpooffhopnkacImDl
import Derived.Laws.OwnMore
import Derived.Laws.IdiomCopy
import Derived.Test.YthnpooffhopnkacPart12
import Derived.Test.YthnpooffhopnkacPart15
import Derived.Test.YthnpooffhopnkacPart16
import Derived.Test.YthnpooffhopnkacPart18

/- The walk of laws.FnWrite. -/
namespace Go.Proofs.Ythnpooffhopnkac
open Go.RowKit
set_option linter.unusedVariables false
set_option maxRecDepth 100000

/-- What a write answers, in a law's words. -/
theorem write_told {M : Img} (h : ImR M) (q : Nat) {v : Int} (hv : numB v = true) : ∃ X C, wcA M (q : Int) v = (X, C) ∧ ImR X ∧ ((C = 0 ∧ q < M.table.length ∧ gsOf X = ⟨(gsOf M).vals.set q v, (gsOf M).shots⟩) ∨ (X = M ∧ (C = 7 ∨ (C = 4 ∧ M.table.length ≤ q)))) := by
  by_cases hq : q < M.table.length
  · have e : wcA M (q : Int) v = imWrite M q v := by
      unfold wcA
      rw [if_pos (imB_iff.2 h), if_pos ⟨betw_iff.2 ⟨by omega, by omega⟩, hv⟩, Int.toNat_natCast]
    refine ⟨(imWrite M q v).1, (imWrite M q v).2, e, h.write hq hv, ?_⟩
    rcases cow_write h hq v with ⟨h0, h1⟩ | h7
    · exact .inl ⟨h0, hq, h1⟩
    · rw [h7]; exact .inr ⟨rfl, .inl rfl⟩
  · have e : wcA M (q : Int) v = (M, 4) := by
      unfold wcA
      rw [if_pos (imB_iff.2 h), if_neg (fun hh => by have := betw_iff.1 hh.1; omega)]
    exact ⟨M, 4, e, h, .inr ⟨rfl, .inr ⟨rfl, by omega⟩⟩⟩
theorem at_of_gs {m : Img} {g : Nat} (hg : g < m.table.length) : imAt m g = (gsOf m).vals.getD g 0 := by
  simp [imAt, gsOf, shT, List.getD, hg]

set_option maxHeartbeats 6400000 in
theorem lawWrite (ao : Option Addr) (ca n : Nat) (bo : Option Addr) (cb m : Nat) (w : World) (hn : n ≤ maxLen) (hB : Bs w ao n) (hm : m ≤ maxLen) (hC : Bs w bo m) :
    Calls Try.prog 3 #[.slice ao n ca, .slice bo m cb] w fun e w' => e = .returned (.bool true) ∧ Below w.heap.size w w' := by
  have HBS := hide hB
  have HCS := hide hC
  clear hB hC
  unfold maxLen at hn hm
  by_cases h : 1048576 < n
  · go_enter Try.func3, Try.ntmps3
    go_wp2
    go_ret
    exact ⟨rfl, Below.refl _ _⟩
  by_cases h' : 1048576 < m
  · go_enter Try.func3, Try.ntmps3
    go_wp2
    go_ret
    exact ⟨rfl, Below.refl _ _⟩
  have hn' : n ≤ 1048576 := by omega
  have hm' : m ≤ 1048576 := by omega
  go_enter Try.func3, Try.ntmps3
  go_wp2_with fail
  refine (imageOf_any ao n ca _ hn' (unhide HBS)).mono ?_
  rintro e w1 ⟨a0, M, ts0, rfl, ho, hi, hb⟩
  have HM := hide hi
  have A0 := hide (ImA.new (ho.showsR hi))
  have HB1 := hide (fr hb (Joins.below_alloc1 w1 (.cells #[.slice a0.ro M.refs.length a0.rc, .slice a0.tq M.table.length a0.tc, .slice a0.so M.snaps.length a0.sc, .slice a0.dq M.data.length a0.dc] 26)))
  clear ho hi hb HBS
  go_upto_region 4 with fail
  revert HB1
  revert A0
  generalize w1.heap.size = y0
  generalize (w1.alloc _) = W1
  intro A0 HB1
  go_wp2_with fail
  refine (at_any bo m cb 0 13 _ hm' (by omega) (by omega) (by omega) (by omega) ((unhide HCS).below (unhide HB1))).mono ?_
  rintro e w2 ⟨r, rfl, hr0, hr1, hb⟩
  obtain ⟨q, rfl⟩ := Int.eq_ofNat_of_zero_le hr0
  have hq : q ≤ 12 := by omega
  have A02 := hide ((unhide A0).below hb)
  have HB2 := hide (fr (unhide HB1) hb)
  clear hb A0 HB1 hr0 hr1
  go_wp2_with fail
  refine (at_any bo m cb 1 5000 _ hm' (by omega) (by omega) (by omega) (by omega) ((unhide HCS).below (unhide HB2))).mono ?_
  rintro e w3 ⟨v, rfl, hv0, hv1, hb⟩
  have A03 := hide ((unhide A02).below hb)
  have HB3 := hide (fr (unhide HB2) hb)
  clear hb A02 HB2
  obtain ⟨X, C, hR, hXR, hcase⟩ := write_told (unhide HM) q (v := v) (by simp [numB, inB]; omega)
  have HR := hide hR
  have HXR := hide hXR
  have HCASE := hide hcase
  have HVB := hide (And.intro hv0 hv1)
  clear hR hXR hcase hv0 hv1
  -- the program's answer
  obtain ⟨c0, c1, c2, c3⟩ := (unhide A03).v.cells
  have hwi := writeCluster_impl a0 M (q : Int) v _ (unhide HM).L (unhide A03).s
  rw [unhide HR] at hwi
  go_wp2_with fail
  refine hwi.mono ?_
  clear hwi
  rintro e w4 ⟨a1, ts1, rfl, ho, hb⟩
  simp only at ho ⊢
  have hb4 := fr hb (Joins.below_alloc1 w4 (.cells #[.slice a1.ro X.refs.length a1.rc, .slice a1.tq X.table.length a1.tc, .slice a1.so X.snaps.length a1.sc, .slice a1.dq X.data.length a1.dc] 26))
  have A1 := hide (ImA.new (ho.showsR (unhide HXR)))
  have A04 := hide ((unhide A03).below hb4)
  have HB4 := hide (fr (unhide HB3) hb4)
  clear ho hb hb4 c0 c1 c2 c3 A03 HB3
  go_upto_region 7 with fail
  revert HB4
  revert A04
  revert A1
  generalize w4.heap.size = y1
  generalize (w4.alloc _) = W4
  intro A1 A04 HB4
  -- the model's answer
  obtain ⟨c0, c1, c2, c3⟩ := (unhide A04).v.cells
  have hws := writeCluster_spec a0 M (q : Int) v _ (unhide HM).L (unhide A04).s
  rw [unhide HR] at hws
  go_wp2_with fail
  refine hws.mono ?_
  clear hws
  rintro e w5 ⟨a2, ts2, rfl, ho, hb⟩
  simp only at ho ⊢
  have hb5 := fr hb (Joins.below_alloc1 w5 (.cells #[.slice a2.ro X.refs.length a2.rc, .slice a2.tq X.table.length a2.tc, .slice a2.so X.snaps.length a2.sc, .slice a2.dq X.data.length a2.dc] 26))
  have A2 := hide (ImA.new (ho.showsR (unhide HXR)))
  have A05 := hide ((unhide A04).below hb5)
  have A15 := hide ((unhide A1).below hb5)
  have HB5 := hide (fr (unhide HB4) hb5)
  clear ho hb hb5 c0 c1 c2 c3 A04 A1 HB4
  go_upto_region 8 with fail
  revert HB5
  revert A15
  revert A05
  revert A2
  generalize w5.heap.size = y2
  generalize (w5.alloc _) = W5
  intro A2 A05 A15 HB5
  have bcc : (C != C) = false := by simp
  obtain ⟨c0, c1, c2, c3⟩ := (unhide A15).v.cells
  obtain ⟨d0, d1, d2, d3⟩ := (unhide A2).v.cells
  go_wp2_with fail
  refine (sameA a1 a2 X _ (unhide HXR) (unhide A15).s (unhide A2).s).mono ?_
  rintro e w6 ⟨rfl, hb⟩
  have A06 := hide ((unhide A05).below hb)
  have A16 := hide ((unhide A15).below hb)
  have HB6 := hide (fr (unhide HB5) hb)
  clear hb c0 c1 c2 c3 d0 d1 d2 d3 A05 A15 HB5 A2
  obtain ⟨c0, c1, c2, c3⟩ := (unhide A16).v.cells
  go_wp2_with fail
  refine (okA a1 X _ (unhide HXR) (unhide A16).s).mono ?_
  rintro e w7 ⟨rfl, hb⟩
  have A07 := hide ((unhide A06).below hb)
  have A17 := hide ((unhide A16).below hb)
  have HB7 := hide (fr (unhide HB6) hb)
  clear hb c0 c1 c2 c3 A06 A16 HB6 bcc
  rcases unhide HCASE with ⟨hC0, hql, hgs⟩ | ⟨hXM, hcc⟩
  rotate_left
  · -- a code: nothing is changed
    subst hXM
    clear HCASE HR
    obtain ⟨c0, c1, c2, c3⟩ := (unhide A17).v.cells
    obtain ⟨d0, d1, d2, d3⟩ := (unhide A07).v.cells
    rcases hcc with rfl | ⟨rfl, hlen⟩
    · go_wp2_with fail
      refine (sameA a1 a0 X _ (unhide HXR) (unhide A17).s (unhide A07).s).mono ?_
      rintro e w8 ⟨rfl, hb⟩
      have HB8 := hide (fr (unhide HB7) hb)
      clear hb c0 c1 c2 c3 d0 d1 d2 d3 A17 A07 HB7
      go_wp2
      go_ret
      exact ⟨rfl, unhide HB8⟩
    · go_wp2_with fail
      refine (sameA a1 a0 X _ (unhide HXR) (unhide A17).s (unhide A07).s).mono ?_
      rintro e w8 ⟨rfl, hb⟩
      have HB8 := hide (fr (unhide HB7) hb)
      have A08 := hide ((unhide A07).below hb)
      clear hb c0 c1 c2 c3 d0 d1 d2 d3 A17 A07 HB7
      obtain ⟨c0, c1, c2, c3⟩ := (unhide A08).v.cells
      have hle : (X.table.length : Int) ≤ (q : Int) := by omega
      go_wp2
      go_ret
      exact ⟨rfl, unhide HB8⟩
  -- written
  subst hC0
  clear HCASE HR
  obtain ⟨P, HP⟩ : ∃ P, Hid (P = gsOf M) := ⟨_, hide rfl⟩
  obtain ⟨Q, HQ⟩ : ∃ Q, Hid (Q = gsOf X) := ⟨_, hide rfl⟩
  have HPR : Hid (GsR P) := hide (by rw [unhide HP]; exact gsOf_bd (unhide HM))
  have HQR : Hid (GsR Q) := hide (by rw [unhide HQ]; exact gsOf_bd (unhide HXR))
  have HPQ : Hid (Q = ⟨P.vals.set q v, P.shots⟩) := hide (by rw [unhide HQ, hgs, unhide HP])
  have HPL : Hid (P.vals.length = M.table.length) := hide (by rw [unhide HP, gsOf_vlen])
  have HXL : Hid (X.table.length = M.table.length) := hide (by rw [← gsOf_vlen, ← unhide HQ, unhide HPQ, ← unhide HPL]; simp)
  have HXA : Hid (q < X.table.length ∧ imAt X q = v) := hide (by
    have hqx : q < X.table.length := by rw [unhide HXL]; exact hql
    refine ⟨hqx, ?_⟩
    rw [at_of_gs hqx, ← unhide HQ, unhide HPQ]
    have : q < P.vals.length := by rw [unhide HPL]; exact hql
    simp [List.getD, this])
  clear hgs
  obtain ⟨c0, c1, c2, c3⟩ := (unhide A07).v.cells
  go_wp2_with fail
  refine (guestA a0 M P _ (unhide HM) (unhide HP) (unhide A07).s).mono ?_
  rintro e w8 ⟨b1, us1, rfl, ho, hb⟩
  simp only at ho ⊢
  have hb8 := fr hb (Joins.below_alloc1 w8 (.cells #[.slice b1.vo P.vals.length b1.vc, .slice b1.so P.shots.length b1.sc] 35))
  have G1 := hide (GsA.new (ho.showsR (unhide HPR)))
  have A18 := hide ((unhide A17).below hb8)
  have HB8 := hide (fr (unhide HB7) hb8)
  clear ho hb hb8 c0 c1 c2 c3 A07 A17 HB7
  go_upto_region 13 with fail
  revert HB8
  revert A18
  revert G1
  generalize w8.heap.size = y3
  generalize (w8.alloc _) = W8
  intro G1 A18 HB8
  obtain ⟨c0, c1, c2, c3⟩ := (unhide A18).v.cells
  go_wp2_with fail
  refine (guestA a1 X Q _ (unhide HXR) (unhide HQ) (unhide A18).s).mono ?_
  rintro e w9 ⟨b2, us2, rfl, ho, hb⟩
  simp only at ho ⊢
  have hb9 := fr hb (Joins.below_alloc1 w9 (.cells #[.slice b2.vo Q.vals.length b2.vc, .slice b2.so Q.shots.length b2.sc] 35))
  have G2 := hide (GsA.new (ho.showsR (unhide HQR)))
  have G19 := hide ((unhide G1).below hb9)
  have A19 := hide ((unhide A18).below hb9)
  have HB9 := hide (fr (unhide HB8) hb9)
  clear ho hb hb9 c0 c1 c2 c3 A18 G1 HB8
  go_upto_region 14 with fail
  revert HB9
  revert A19
  revert G19
  revert G2
  generalize w9.heap.size = y4
  generalize (w9.alloc _) = W9
  intro G2 G19 A19 HB9
  obtain ⟨c0, c1, c2, c3⟩ := (unhide A19).v.cells
  go_wp2_with fail
  refine (readA a1 X q v _ (unhide HXR) (unhide HXA).1 (unhide HXA).2 (unhide A19).s).mono ?_
  rintro e w10 ⟨rfl, hb⟩
  have HB10 := hide (fr (unhide HB9) hb)
  have G110 := hide ((unhide G19).below hb)
  have G210 := hide ((unhide G2).below hb)
  clear hb c0 c1 c2 c3 A19 G19 G2 HB9 HXA HXL HP HQ
  have hbv : (v != v) = false := by simp
  have hbl : ((Q.vals.length : Int) != (P.vals.length : Int)) = false := by rw [unhide HPQ]; simp
  have hbs : ((P.shots.length : Int) != (Q.shots.length : Int)) = false := by rw [unhide HPQ]; simp
  obtain ⟨c0, c1⟩ := (unhide G110).v.cells
  obtain ⟨d0, d1⟩ := (unhide G210).v.cells
  have hp12 := (unhide HPR).v
  have hp3 := (unhide HPR).few
  go_wp2
  clear c0 c1 d0 d1 hbv hbl hbs
  have HQL : Hid (Q.vals.length = P.vals.length) := hide (by rw [unhide HPQ]; simp)
  have HQS : Hid (Q.shots.length = P.shots.length) := hide (by rw [unhide HPQ])
  have HQV : Hid (∀ k (hk : k < Q.vals.length) (hk' : k < P.vals.length), k ≠ q → Q.vals[k] = P.vals[k]) := hide (by
    rw [unhide HPQ]
    intro k hk hk' hne
    simp only
    rw [List.getElem_set_ne (fun h => hne h.symm)])
  have HQT : Hid (∀ k (hk : k < Q.shots.length) (hk' : k < P.shots.length), Q.shots[k] = P.shots[k]) := hide (by rw [unhide HPQ]; intro k hk hk'; rfl)
  clear HPQ
  go_loopw [18] (fun i wr => ∃ k : Nat, k ≤ P.vals.length ∧ i = .int .i64 k ∧ Hid (Below w10.heap.size w10 wr)) (fun i _ => P.vals.length - (intOf i).toNat)
  case atStart => exact ⟨0, by omega, rfl, hide (Below.refl _ _)⟩
  case round =>
    obtain ⟨k, hk, rfl, HW⟩ := hrel
    have G111 := hide ((unhide G110).below (unhide HW))
    have G211 := hide ((unhide G210).below (unhide HW))
    obtain ⟨c0, c1⟩ := (unhide G111).v.cells
    obtain ⟨d0, d1⟩ := (unhide G211).v.cells
    by_cases hlt : k < P.vals.length
    · have hltQ : k < Q.vals.length := by rw [unhide HQL]; exact hlt
      have hki : (k : Int) < (P.vals.length : Int) := by omega
      have hkq : (k : Int) < (Q.vals.length : Int) := by omega
      obtain ⟨x1, o1, e1, h1⟩ := (unhide G111).s.v k hlt
      obtain ⟨x2, o2, e2, h2⟩ := (unhide G211).s.v k hltQ
      rw [e1] at c0
      rw [e2] at d0
      by_cases hkg : k = q
      · subst hkg
        have bne : (((k : Nat) : Int) != (k : Int)) = false := by simp
        clear e1 e2
        go_upto_region 20 with fail
        go_quiet (fail)
        have HW2 : Hid (Below w10.heap.size w10 (wr.drewN nq)) := hide ((unhide HW).trans (Joins.below_draws _ _ _))
        clear c0 c1 d0 d1 h1 h2
        go_wp2
        go_roundw
        case rel => exact ⟨k + 1, by omega, by go_num, HW2⟩
        case measure => simp [intOf]; omega
      · have bne : ((k : Int) != (q : Int)) = true := by simp; omega
        have hvq := unhide HQV k hltQ hlt hkg
        rw [hvq] at h2
        clear e1 e2 hvq hkg
        generalize P.vals[k] = V at *
        have bvv : (V != V) = false := by simp
        go_upto_region 20 with fail
        go_quiet (fail)
        have HW2 : Hid (Below w10.heap.size w10 (wr.drewN nq)) := hide ((unhide HW).trans (Joins.below_draws _ _ _))
        clear c0 c1 d0 d1 h1 h2
        go_wp2
        go_roundw
        case rel => exact ⟨k + 1, by omega, by go_num, HW2⟩
        case measure => simp [intOf]; omega
    · go_wp2
      clear c0 c1 d0 d1 hlt
      go_loopw [19] (fun i wq => ∃ k : Nat, k ≤ P.shots.length ∧ i = .int .i64 k ∧ Hid (Below w10.heap.size w10 wq)) (fun i _ => P.shots.length - (intOf i).toNat)
      case atStart => exact ⟨0, by omega, rfl, HW⟩
      case round =>
        clear HW G111 G211
        obtain ⟨j, hj, rfl, HW⟩ := hrel
        have G111 := hide ((unhide G110).below (unhide HW))
        have G211 := hide ((unhide G210).below (unhide HW))
        obtain ⟨c0, c1⟩ := (unhide G111).v.cells
        obtain ⟨d0, d1⟩ := (unhide G211).v.cells
        by_cases hlt : j < P.shots.length
        · have hltQ : j < Q.shots.length := by rw [unhide HQS]; exact hlt
          have hki : (j : Int) < (P.shots.length : Int) := by omega
          have hkq : (j : Int) < (Q.shots.length : Int) := by omega
          obtain ⟨x1, o1, q1, p1, e1, hn1, ht1, i1, _, hm1⟩ := (unhide G111).s.s j hlt
          obtain ⟨x2, o2, q2, p2, e2, hn2, ht2, i2, _, _⟩ := (unhide G211).s.s j hltQ
          rw [unhide HQT j hltQ hlt] at hn2 ht2 i2
          rw [e1] at c1
          rw [e2] at d1
          have HI1 := hide i1
          have HI2 := hide i2
          have HML := hide hm1
          have HCALL : Hid (∀ n, Calls Try.prog 13 #[.slice q1 P.shots[j].table.length p1, .slice q2 P.shots[j].table.length p2] (wr.drewN n) fun e w' => e = .returned (.bool true) ∧ ∃ m, w' = (wr.drewN n).drewN m) := hide (fun n => sameInts_draws q1 q2 p1 p2 P.shots[j].table (wr.drewN n) (unhide HML) ((unhide HI1).below (Joins.below_draws _ _ _)) ((unhide HI2).below (Joins.below_draws _ _ _)))
          clear e1 e2 i1 i2 hm1
          generalize P.shots[j].table.length = TL at *
          go_upto_region 25 with fail
          go_quiet ((go_at_call 13; refine Calls.quiet_of (unhide HCALL _)))
          have HW2 : Hid (Below w10.heap.size w10 (wr.drewN nq)) := hide ((unhide HW).trans (Joins.below_draws _ _ _))
          clear c0 c1 d0 d1 hn1 hn2 ht1 ht2 HCALL
          go_wp2
          go_roundw
          case rel => exact ⟨j + 1, by omega, by go_num, HW2⟩
          case measure => simp [intOf]; omega
        · have HBE := hide (fr (unhide HB10) (unhide HW))
          go_wp2
          go_ret
          exact ⟨rfl, unhide HBE⟩

end Go.Proofs.Ythnpooffhopnkac

/- The walk of laws.FnResize. -/
namespace Go.Proofs.Ythnpooffhopnkac
open Go.RowKit
set_option linter.unusedVariables false
set_option maxRecDepth 100000

theorem ImA.put {W : World} {C B : Nat} {v0 v1 v2 v3 : Value} {a : Im4} {m : Img} {ts : List Value} (hv : VarM W C 26 v0 v1 v2 v3) (ho : OwnIm W B a m ts) (hi : ImR m) : ImA (putI W C a m) C a m := by
  have hk : Keep (fun k => k = C) W (putI W C a m) := (((((Keep.refl (fun k => k = C) W).setCell (p := ⟨C, 0, none⟩) rfl _).setCell (p := ⟨C, 1, none⟩) rfl _).setCell (p := ⟨C, 2, none⟩) rfl _).setCell (p := ⟨C, 3, none⟩) rfl _)
  exact ⟨(((hv.set0 _).set1 _).set2 _).set3 _, (ho.keep hk (fun g hg e => ho.other hv (e ▸ hg))).showsR hi⟩
theorem belowPut {w W : World} {C : Nat} (hb : Below w.heap.size w W) (hC : w.heap.size ≤ C) (a : Im4) (m : Img) : Below w.heap.size w (putI W C a m) :=
  (((hb.setCell (p := ⟨C, 0, none⟩) hC _).setCell (p := ⟨C, 1, none⟩) hC _).setCell (p := ⟨C, 2, none⟩) hC _).setCell (p := ⟨C, 3, none⟩) hC _

end Go.Proofs.Ythnpooffhopnkac

/- Contract of slices.Delete at snapshots: one of them goes. -/
namespace Go.Proofs.Ythnpooffhopnkac
open Go.RowKit
set_option linter.unusedVariables false
set_option maxRecDepth 100000

theorem ownsRow_pre {w : World} {B e size g n cap q : Nat} {xs : List Value} (h : w.ownsRow B e size (.slice (some ⟨g, 0, none⟩) n cap) n xs) (hq : q ≤ n) : w.ownsRow B e size (.slice (some ⟨g, 0, none⟩) q cap) q (xs.take (q * size)) := by
  have hm : q * size ≤ n * size := Nat.mul_le_mul_right _ hq
  rcases h.2 with ⟨h', _⟩ | ⟨g', cap', cur, h', hb, hg, hnc, hcm, hcs, htake⟩
  · simp at h'
  · simp only [Value.slice.injEq, Option.some.injEq, Addr.mk.injEq, and_true, true_and] at h'
    obtain ⟨rfl, rfl⟩ := h'
    refine ⟨by rw [List.length_take, h.1]; omega, .inr ⟨g, cap, cur, rfl, hb, hg, by omega, hcm, hcs, ?_⟩⟩
    rw [← htake, List.take_take, Nat.min_eq_left hm]
theorem ownsRow_some {w : World} {B e size g n cap : Nat} {xs : List Value} (h : w.ownsRow B e size (.slice (some ⟨g, 0, none⟩) n cap) n xs) {j : Nat} (hj : j < cap * size) : (w.cell? ⟨g, j, none⟩).isSome = true := by
  rcases h.2 with ⟨h', _⟩ | ⟨g', cap', cur, h', hb, hg, hnc, hcm, hcs, htake⟩
  · simp at h'
  · simp only [Value.slice.injEq, Option.some.injEq, Addr.mk.injEq, and_true, true_and] at h'
    obtain ⟨rfl, rfl⟩ := h'
    rw [Joins.cell_of_block hg, Array.getElem?_eq_getElem (by rw [hcs]; exact hj)]; rfl
theorem ownsRow_caps {w : World} {B e size g n cap : Nat} {xs : List Value} (h : w.ownsRow B e size (.slice (some ⟨g, 0, none⟩) n cap) n xs) : n ≤ cap ∧ cap ≤ maxLen ∧ B ≤ g ∧ g < w.heap.size := by
  rcases h.2 with ⟨h', _⟩ | ⟨g', cap', cur, h', hb, hg, hnc, hcm, hcs, htake⟩
  · simp at h'
  · simp only [Value.slice.injEq, Option.some.injEq, Addr.mk.injEq, and_true, true_and] at h'
    obtain ⟨rfl, rfl⟩ := h'
    exact ⟨hnc, hcm, hb, (Array.getElem?_eq_some_iff.1 hg).1⟩
theorem snC_takeD : ∀ (ss : List Snp) (ts : List Value) (q : Nat), ss.length = ts.length → (snC ss ts).take (q * 2) = snC (ss.take q) (ts.take q) := fun ss ts q h => by
  by_cases hq : q ≤ ss.length
  · rw [snC_whole ss ts q h, List.take_append_of_le_length (by rw [snC_length _ _ (by rw [List.length_take, List.length_take, h]), List.length_take]; omega), List.take_of_length_le (by rw [snC_length _ _ (by rw [List.length_take, List.length_take, h]), List.length_take]; omega)]
  · rw [List.take_of_length_le (by rw [snC_length _ _ h]; omega), List.take_of_length_le (by omega), List.take_of_length_le (by omega)]

section
variable {P : Program}
/-- Elements more, in place. -/
theorem wp_append_in {w : World} {o : Oper} {a : Act} {K : Act → World → Prop} {Q : Exit → Act → World → Prop} (hgd : o.guard = none) (s x : Operand) (t : TypeId)
    (ho : o.op = .call { callee := .builtin .append, args := #[s, x], argTypes := #[t, t] })
    (B : Nat) (e : TypeId) (i : TypeInfo) (size : Nat) (ht : P.underlying t = some (.slice e)) (hi : P.info? e = some i) (hsize : i.size = size)
    (g n cap : Nat) (xs : List Value) (hs : a.eval s = .slice (some ⟨g, 0, none⟩) n cap) (h : w.ownsRow B e size (.slice (some ⟨g, 0, none⟩) n cap) n xs)
    (so : Option Addr) (m c : Nat) (news : List Value) (hx : a.eval x = .slice so m c) (hl : news.length = m * size) (hnews : 0 < m → ∃ ad, so = some ad ∧ ∀ j u, news[j]? = some u → w.cell? (ad.add j) = some u) (h1 : ∀ u ∈ news, u.oneCell' = true) (hroom : n + m ≤ cap)
    (hK : ∀ w', w'.ownsRow B e size (.slice (some ⟨g, 0, none⟩) (n + m) cap) (n + m) (xs ++ news) → Keep (fun k => k = g) w w' → K (a.put o.dst (.slice (some ⟨g, 0, none⟩) (n + m) cap)) w') : o.wp P a w K Q := by
  by_cases hm : 0 < m
  · obtain ⟨ad, rfl, hnew⟩ := hnews hm
    obtain ⟨w', hrun, r1, r2⟩ := run_append_fits (P := P) w B t o.type e i size ht hi hsize g n cap xs h ad m c news hl hnew h1 hroom
    unfold Oper.wp
    simp [execOp, ho, resolve, invoke, builtin, hs, hx, hrun, Result.andThen]
    exact hK _ r1 (keep_grown r2 (fun k hk => by cases hk; rfl))
  · obtain rfl : m = 0 := by omega
    have hn : news = [] := List.eq_nil_of_length_eq_zero (by omega)
    subst hn
    have hrun := run_append_zero (P := P) w t o.type e i ht hi (some ⟨g, 0, none⟩) so n cap c (ownsRow_caps h).1
    unfold Oper.wp
    simp [execOp, ho, resolve, invoke, builtin, hs, hx, hrun, Result.andThen]
    exact hK _ (by simpa using h) (Keep.refl _ _)
end
theorem zeroSn (w : World) : (zeroValue 63).run Try.prog w = .ok (.agg #[.string ⟨#[]⟩, .slice none 0 0]) w := by kernel_rfl
theorem run_clear_sn (w : World) (g o c : Nat) (ty : TypeId) (hc : ∀ j, j < 2 → (w.cell? ⟨g, o + j, none⟩).isSome = true) (hf : ∀ j, j < 2 → w.frozen? ⟨g, o + j, none⟩ = false) :
    (Builtin.clear_ #[24] ty #[.slice (some ⟨g, o, none⟩) 1 c]).run Try.prog w = .ok (.tuple #[]) ((w.setCell ⟨g, o, none⟩ (.string ⟨#[]⟩)).setCell ⟨g, o + 1, none⟩ (.slice none 0 0)) := by
  have hzc : (Builtin.zeroCells (Value.agg #[.string ⟨#[]⟩, .slice none 0 0]).cells 1).toList = [.string ⟨#[]⟩, .slice none 0 0] := by kernel_rfl
  have hst := run_storeCells_cells (P := Try.prog) g o [.string ⟨#[]⟩, .slice none 0 0] 0 w (by simpa using hc) (by simpa using hf) (by intro v hv; simp at hv; rcases hv with rfl | rfl <;> rfl)
  simp only [World.setCells, Nat.add_zero] at hst
  simp [Builtin.clear_, run_underlying Try.underlying24, hzc, hst]

set_option maxHeartbeats 3200000 in
theorem deleteSn_any (w : World) (B g cap q : Nat) (ss : List Snp) (ts : List Value) (hl : ss.length = ts.length) (hq : q < ss.length) (h3 : ss.length ≤ 1000) (hone : ∀ u ∈ snC ss ts, u.oneCell' = true) (ho : w.ownsRow B 63 2 (.slice (some ⟨g, 0, none⟩) ss.length cap) ss.length (snC ss ts)) :
    Calls Try.prog 44 #[.slice (some ⟨g, 0, none⟩) ss.length cap, .int .i64 (q : Int), .int .i64 ((q : Int) + 1)] w fun e w' => e = .returned (.slice (some ⟨g, 0, none⟩) (q + (ss.length - (q + 1))) cap) ∧ OwnS w' B 63 2 (.slice (some ⟨g, 0, none⟩) (q + (ss.length - (q + 1))) cap) (q + (ss.length - (q + 1))) (snC (ss.eraseIdx q) (ts.eraseIdx q)) ∧ Keep (fun k => k = g) w w' := by
  have HO := hide ho
  have HL := hide hl
  have HON : Hid (∀ u ∈ snC (ss.drop (q + 1)) (ts.drop (q + 1)), u.oneCell' = true) := hide (fun u hu => hone u (by rw [snC_whole ss ts (q + 1) hl]; exact List.mem_append_right _ hu))
  obtain ⟨hnc, hcm, _, _⟩ := ownsRow_caps ho
  unfold maxLen at hcm
  have hqn : (q : Int) + 1 ≤ (ss.length : Int) := by omega
  have hqc : (q : Int) + 1 ≤ (cap : Int) := by omega
  have hqc0 : (q : Int) ≤ (cap : Int) := by omega
  have hncI : (ss.length : Int) ≤ (cap : Int) := by omega
  have h01 : (0 : Int) ≤ (q : Int) + 1 := by omega
  have hqq : ((q : Int) == (q : Int) + 1) = false := by rw [beq_eq_false_iff_ne]; omega
  have hq2 : (q : Int) ≤ (q : Int) + 1 := by omega
  have htn : ((q : Int) + 1).toNat = q + 1 := by omega
  have hc0 : ¬ cap = 0 := by omega
  obtain ⟨j0, hj0, hy0, hy1, hy2⟩ := info_parts infoSn
  obtain ⟨so2, HSO⟩ : ∃ so2, Hid (so2 = if cap = q + 1 then some (⟨g, 0, none⟩ : Addr) else some ⟨g, (q + 1) * 2, none⟩) := ⟨_, hide rfl⟩
  have HN2 : Hid (0 < ss.length - (q + 1) → so2 = some ⟨g, (q + 1) * 2, none⟩) := hide (fun h => by rw [unhide HSO, if_neg (by omega)])
  clear ho hl hone
  go_enter Try.func44, Try.ntmps44
  go_upto_region 5 with fail
  refine wp_region_ord (fun w' => True) [0, 1, 2, 3, 4, 5] [(0, 0), (1, 0), (2, 0), (3, 0), (4, 0), (5, 0), (6, 3), (7, 4)] (by kernel_rfl) (by kernel_rfl) rfl (by kernel_rfl) ?_
  refine ord_read (.slice (some ⟨g, 0, none⟩) ss.length cap) rfl rfl trivial (fun W hW => by go_simp) ?_
  refine ord_read (.int .i64 q) rfl rfl trivial (fun W hW => by go_simp) ?_
  refine ord_read (.slice (some ⟨g, 0, none⟩) q cap) rfl rfl trivial (fun W hW => by go_simp) ?_
  refine ord_read (.slice (some ⟨g, 0, none⟩) ss.length cap) rfl rfl trivial (fun W hW => by go_simp) ?_
  refine ord_read (.int .i64 ((q : Int) + 1)) rfl rfl trivial (fun W hW => by go_simp) ?_
  refine ord_read (.slice so2 (ss.length - (q + 1)) (cap - (q + 1))) rfl rfl trivial (fun W hW => by rw [unhide HSO]; go_simp) ?_
  refine ord_alone rfl rfl ?_
  intro K hK
  have hod : w.drew.ownsRow B 63 2 (.slice (some ⟨g, 0, none⟩) ss.length cap) ss.length (snC ss ts) := unhide HO
  refine wp_append_in rfl (.tmp 22) (.tmp 25) 24 rfl B 63 j0 2 Try.underlying24 hj0 hy1 g q cap ((snC ss ts).take (q * 2)) rfl (ownsRow_pre hod (by omega)) so2 (ss.length - (q + 1)) (cap - (q + 1)) (snC (ss.drop (q + 1)) (ts.drop (q + 1))) rfl (by rw [snC_length _ _ (by rw [List.length_drop, List.length_drop, unhide HL]), List.length_drop]) (fun h => ⟨_, unhide HN2 h, ownSn_cells (unhide HL) hod (q + 1)⟩) (unhide HON) (by omega) ?_
  intro w1 ho1 hk1
  rw [snC_takeD _ _ _ (unhide HL), ← snC_erase _ _ _ (unhide HL)] at ho1
  refine hK _ _ ?_
  clear hK K
  refine ord_val (.slice (some ⟨g, 0, none⟩) (q + (ss.length - (q + 1))) cap) rfl rfl (fun W => by go_simp) ?_
  refine ord_done ?_
  obtain ⟨n', hn'⟩ : ∃ n', n' = q + (ss.length - (q + 1)) := ⟨_, rfl⟩
  rw [← hn'] at ho1 ⊢
  have hnn : ss.length = n' + 1 := by omega
  have HK1 : Hid (Keep (fun k => k = g) w w1) := hide ((Keep.of_below (Below.refl _ w).drew).trans hk1)
  have hcl : ∀ ty, (Builtin.clear_ #[24] ty #[.slice (some ⟨g, n' * 2, none⟩) 1 (cap - n')]).run Try.prog w1 = .ok (.tuple #[]) ((w1.setCell ⟨g, n' * 2, none⟩ (.string ⟨#[]⟩)).setCell ⟨g, n' * 2 + 1, none⟩ (.slice none 0 0)) := fun ty => run_clear_sn w1 g (n' * 2) (cap - n') ty (fun j hj => ownsRow_some ho1 (by omega)) (fun j hj => ho1.frozenAt _)
  have HO1 := hide ho1
  have hn1 : (n' : Int) ≤ (n' : Int) + 1 := by omega
  have hn2 : (n' : Int) + 1 ≤ (cap : Int) := by omega
  have hn3 : ¬ cap = n' := by omega
  have hn4 : (0 : Int) ≤ (n' : Int) + 1 := by omega
  have hn5 : ((n' : Int) + 1).toNat = n' + 1 := by omega
  have hn6 : n' + 1 - n' = 1 := by omega
  have HNN := hide hn'
  clear ho1 hk1 HO HON HN2 HSO hod hn'
  simp only [hnn]
  go_wp2
  go_ret
  rw [← unhide HNN]
  refine ⟨rfl, ?_, ?_⟩
  · by_cases h0 : n' = 0
    · have he : snC (ss.eraseIdx q) (ts.eraseIdx q) = [] := List.eq_nil_of_length_eq_zero (by have := (unhide HO1).1; rw [h0] at this; simpa using this)
      exact .inl ⟨h0, he, _, _, by rw [h0]⟩
    · have e1 := ((unhide HO1).stored (n' * 2) (.string ⟨#[]⟩)).1
      rw [List.set_eq_of_length_le (by rw [(unhide HO1).1]; omega)] at e1
      have e2 := (e1.stored (n' * 2 + 1) (.slice none 0 0)).1
      rw [List.set_eq_of_length_le (by rw [(unhide HO1).1]; omega)] at e2
      exact .inr ⟨by omega, e2⟩
  · exact ((unhide HK1).setCell (p := ⟨g, n' * 2, none⟩) rfl _).setCell (p := ⟨g, n' * 2 + 1, none⟩) rfl _

end Go.Proofs.Ythnpooffhopnkac

/- Contract of impl.changeSnaps. -/
namespace Go.Proofs.Ythnpooffhopnkac
open Go.RowKit
set_option linter.unusedVariables false
set_option maxRecDepth 100000

theorem VarT1.new (w : World) (s : ByteArray) : VarT1 (w.alloc (.cells #[.string s] 9)) w.heap.size s := by unfold VarT1; rw [Joins.cell_of_block (heap_alloc_new w _)]; rfl
theorem VarT1.below {w w' : World} {x : Nat} {s : ByteArray} (h : VarT1 w x s) (hb : Below w.heap.size w w') : VarT1 w' x s := (hb.cell (World.block_lt_of_cell? _ _ h)).trans h
theorem VarT1.lt {w : World} {x : Nat} {s : ByteArray} (h : VarT1 w x s) : x < w.heap.size := World.block_lt_of_cell? _ _ h

set_option maxHeartbeats 1600000 in
theorem changeSnaps_any (a : Im4) (m : Img) (name : ByteArray) (F : FuncId) (caps : Array Value) (m1 : Img) (c : Int) (w : World) (hL : ImL m) (hz : name.size ≤ 65536) (hc : ImS w a m)
    (hcf : ∀ (args : Array Value) (W : World), (callFunc F args).run Try.prog W = .ok (.enter F args) W)
    (hch : imB m = true → FitR m1 ∧ ∀ (W : World) (p B : Nat) (a1 : Im4) (ts1 : List Value), Below w.heap.size w W → w.heap.size ≤ B → B ≤ W.heap.size → Hld W p B a1 m ts1 → (m.snaps.length = 0 → a1.sc = 0) → Calls Try.prog F (#[.pointer (some ⟨p, 0, none⟩)] ++ caps) W fun e W' => Chg W W' p B e c m1) :
    Calls Try.prog 35 #[imV a m, .string name, .func (.func F) #[] caps] w fun e w' => AnsI w w' e (if imB m = true then (imFit m1, c) else (im0, 1)) := by
  have HE := hide (ImE.new w a m hc)
  have HL := hide hL
  have HCH := hide hch
  obtain ⟨R, HR⟩ : ∃ R, Hid (R = if imB m = true then (imFit m1, c) else (im0, 1)) := ⟨_, hide rfl⟩
  rw [← unhide HR]
  clear hc hL hch
  go_enter Try.func35, Try.ntmps35
  go_upto_region 1 with fail
  revert HE
  generalize ((w.alloc _).alloc _) = W0
  intro HE
  obtain ⟨c0, c1, c2, c3⟩ := (unhide HE).v.cells
  go_wp2_with fail
  refine (changeImage_any a m F caps m1 c _ (unhide HL) (unhide HE).s hcf (fun him => ⟨(unhide HCH him).1, fun W p B a1 ts1 h1 h2 h3 h4 h5 => (unhide HCH him).2 W p B a1 ts1 (fr (unhide HE).b h1) (Nat.le_trans (unhide HE).b.size h2) h3 h4 h5⟩)).mono ?_
  intro e w2 hans
  rw [← unhide HR] at hans
  obtain ⟨b, ts, rfl, ho, hb⟩ := hans
  have HP := hide ((unhide HE).put hb ho)
  have HE2 := hide ((unhide HE).below hb)
  clear ho hb c0 c1 c2 c3
  obtain ⟨r0, r1, r2, r3⟩ := (unhide HE2).r.cells
  obtain ⟨z0, z1, z2, z3⟩ := (unhide HE2).r.free
  go_wp2
  refine bodyPost_ret (res_ic Try.results35 rfl rfl (unhide HP).1) rfl ?_
  exact AnsI.of rfl rfl (unhide HP).2.1 (unhide HP).2.2

end Go.Proofs.Ythnpooffhopnkac

/- Contract of impl.SnapDelete. (Written by gens/snapf.py.) -/
namespace Go.Proofs.Ythnpooffhopnkac
open Go.RowKit
set_option linter.unusedVariables false
set_option maxRecDepth 100000

/-- What SnapDelete answers. -/
def sdA (m : Img) (name : ByteArray) : Img × Int := if imB m = true then imDelete m name else (im0, 1)
def dtC (m : Img) (name : ByteArray) : Int := if imFind m name < m.snaps.length then 0 else 5
def dt1 (m : Img) (name : ByteArray) : Img := if imFind m name < m.snaps.length then { m with snaps := m.snaps.eraseIdx (imFind m name) } else m
theorem dt_fit {m : Img} (name : ByteArray) (h : ImR m) : FitR (dt1 m name) := by
  unfold dt1
  split
  · have hf := h.fitR
    refine ⟨hf.r, hf.d, by simp only [List.length_eraseIdx]; have := h.few; split <;> omega, fun t ht => ?_, fun s hs => hf.z s (List.mem_of_mem_eraseIdx hs)⟩
    have ht' : t ∈ m.table :: (m.snaps.eraseIdx (imFind m name)).map (·.table) := ht
    rw [List.mem_cons, map_erase] at ht'
    rcases ht' with rfl | ht'
    · exact h.table
    · exact h.tabs t (by unfold imTabs; exact List.mem_cons_of_mem _ (List.mem_of_mem_eraseIdx ht'))
  · exact h.fitR
theorem dt_ans {m : Img} (name : ByteArray) : (if imB m = true then (imFit (dt1 m name), dtC m name) else (im0, 1)) = sdA m name := by
  refine ans_eq (fun h => ?_) (fun h => by rw [sdA, h]; rfl)
  have hR := imB_iff.1 h
  rw [sdA, if_pos h]
  unfold dt1 dtC
  by_cases hf : imFind m name < m.snaps.length
  · rw [if_pos hf, if_pos hf, delete_at hf rfl]
    exact ⟨fit_delete hR hf, rfl⟩
  · rw [if_neg hf, if_neg hf, delete_none hf]
    exact ⟨fit_self hR, rfl⟩
theorem Hld.delS {W W1 : World} {p B g q n cap : Nat} {a : Im4} {m : Img} {ts : List Value} (h : Hld W p B a m ts) (hB : B ≤ W.heap.size) (hq : q < m.snaps.length) (hg : a.so = some ⟨g, 0, none⟩) (hc : a.sc = cap) (hn : (m.snaps.eraseIdx q).length = n) (hk : Keep (fun k => k = g) W W1)
    (ho : OwnS W1 B 63 2 (.slice (some ⟨g, 0, none⟩) n cap) n (snC (m.snaps.eraseIdx q) (ts.eraseIdx q))) :
    Hld (W1.setCell ⟨p, 2, none⟩ (.slice (some ⟨g, 0, none⟩) n cap)) p B { a with so := some ⟨g, 0, none⟩, sc := cap } { m with snaps := m.snaps.eraseIdx q } (ts.eraseIdx q) ∧ Below B W (W1.setCell ⟨p, 2, none⟩ (.slice (some ⟨g, 0, none⟩) n cap)) := by
  have hso : Own (.slice a.so m.snaps.length a.sc) g := by rw [hg]; exact own_of (by omega) rfl
  have hgB := (h.o.s.ge g hso).1
  have hnp : p ≠ g := fun e => h.o.s.other h.v (by decide) (e ▸ hso)
  have hv1 : VarM W1 p 26 (.slice a.ro m.refs.length a.rc) (.slice a.tq m.table.length a.tc) (.slice a.so m.snaps.length a.sc) (.slice a.dq m.data.length a.dc) := (hk.block _ h.v.lt hnp).trans h.v
  have hrows : OwnA W1 B (imRows a m ts) := h.o.rows.keep hk (fun r hr x hx e => own_apartS (h.o.rows.own r hr).row h.o.s (by decide) x hx (e ▸ hso))
  have ho1 : OwnIm W1 B { a with so := some ⟨g, 0, none⟩, sc := cap } { m with snaps := m.snaps.eraseIdx q } (ts.eraseIdx q) := by
    refine ⟨by simp only [List.length_eraseIdx, h.o.len], ?_, ?_⟩
    · show OwnS W1 B 63 2 (.slice (some ⟨g, 0, none⟩) (m.snaps.eraseIdx q).length cap) (m.snaps.eraseIdx q).length _
      rw [hn]
      exact ho
    · refine hrows.sub ?_
      show List.Sublist ((.slice a.ro m.refs.length a.rc, m.refs) :: (.slice a.tq m.table.length a.tc, m.table) :: (.slice a.dq m.data.length a.dc, m.data) :: (ts.eraseIdx q).zip ((m.snaps.eraseIdx q).map (·.table))) ((.slice a.ro m.refs.length a.rc, m.refs) :: (.slice a.tq m.table.length a.tc, m.table) :: (.slice a.dq m.data.length a.dc, m.data) :: ts.zip (m.snaps.map (·.table)))
      rw [map_tabs_erase, zip_erase]
      exact ((List.eraseIdx_sublist _ _).cons_cons _).cons_cons _ |>.cons_cons _
  have hk2 : Keep (fun x => x = p) W1 (W1.setCell ⟨p, 2, none⟩ (.slice (some ⟨g, 0, none⟩) n cap)) := (Keep.refl (fun x => x = p) W1).setCell (p := ⟨p, 2, none⟩) rfl _
  refine ⟨⟨?_, ho1.keep hk2 (fun x hx e => ho1.other (v0 := .slice a.ro m.refs.length a.rc) (v1 := .slice a.tq m.table.length a.tc) (v2 := .slice a.so m.snaps.length a.sc) (v3 := .slice a.dq m.data.length a.dc) hv1 (e ▸ hx)), h.p⟩, ?_⟩
  · simp only [hn]
    exact hv1.set2 _
  · exact (hk.below hB (fun k e => by omega)).setCell (p := ⟨p, 2, none⟩) h.p _

set_option maxHeartbeats 3200000 in
theorem deleteC_any (m : Img) (name : ByteArray) (x : Nat) (W : World) (p B : Nat) (a : Im4) (ts : List Value) (hR : ImR m) (hx : VarT1 W x name) (hxB : x < B) (hB : B ≤ W.heap.size) (hh : Hld W p B a m ts) :
    Calls Try.prog 43 #[.pointer (some ⟨p, 0, none⟩), .pointer (some ⟨x, 0, none⟩)] W fun e W' => Chg W W' p B e (dtC m name) (dt1 m name) := by
  have HH := hide hh
  have HX := hide hx
  have HM := hide hR.M
  clear hh hR hx
  go_enter Try.func43, Try.ntmps43
  have hS0 : VarM W.drew p 26 (.slice a.ro m.refs.length a.rc) (.slice a.tq m.table.length a.tc) (.slice a.so m.snaps.length a.sc) (.slice a.dq m.data.length a.dc) ∧ VarT1 W.drew x name := ⟨(unhide HH).v.below (Below.refl _ _).drew, (unhide HX).below (Below.refl _ _).drew⟩
  have HSN : Hid (Sns W a.so m.snaps) := hide ((unhide HH).o.shows (unhide HM).zs).s
  have HSL := hide (unhide HM).s
  go_upto_region 1 with fail
  refine wp_region_ord (fun w' => VarM w' p 26 (.slice a.ro m.refs.length a.rc) (.slice a.tq m.table.length a.tc) (.slice a.so m.snaps.length a.sc) (.slice a.dq m.data.length a.dc) ∧ VarT1 w' x name) [0, 1, 2, 3, 4] [(0, 0), (1, 0), (2, 0), (3, 0), (4, 0), (5, 3), (6, 4)] (by kernel_rfl) (by kernel_rfl) rfl (by kernel_rfl) ?_
  refine ord_read (.pointer (some ⟨p, 0, none⟩)) rfl rfl hS0 (fun W hW => by go_simp) ?_
  refine ord_read (.pointer (some ⟨p, 0, none⟩)) rfl rfl hS0 (fun W hW => by go_simp) ?_
  refine ord_read (.pointer (some ⟨p, 2, none⟩)) rfl rfl hS0 (fun W hW => by go_simp) ?_
  refine ord_read (.slice a.so m.snaps.length a.sc) rfl rfl hS0 (fun W hW => by obtain ⟨k0, k1, k2, k3⟩ := hW.1.cells; go_simp) ?_
  refine ord_read (.string name) rfl rfl hS0 (fun W hW => by have k0 : W.cell? ⟨x, 0, none⟩ = some (.string name) := hW.2; go_simp) ?_
  clear hS0
  refine ord_alone rfl rfl ?_
  intro K hK
  unfold Oper.wp
  go_simp
  refine (findSnap_any a.so a.sc m.snaps name _ (by have := unhide HSL; unfold maxLen; omega) ((unhide HSN).below (Below.refl _ _).drew)).mono ?_
  rintro e w2 ⟨rfl, hb⟩
  have HB2 : Hid (Below W.heap.size W w2) := hide (fr (Below.refl _ _).drew hb)
  clear hb
  refine hK _ _ ?_
  clear hK K
  refine ord_val (.int .i64 (fdL m.snaps name)) rfl rfl (fun W => by go_simp) ?_
  refine ord_done ?_
  by_cases hf : imFind m name < m.snaps.length
  case neg =>
    have HE : Hid (dtC m name = 5 ∧ dt1 m name = m) := hide ⟨if_neg hf, if_neg hf⟩
    rw [show fdL m.snaps name = -1 from if_neg hf]
    clear hf
    go_wp2
    go_ret
    rw [(unhide HE).1, (unhide HE).2]
    exact Chg.same 5 (unhide HH) hB (unhide HB2)
  have HE0 : Hid (dtC m name = 0 ∧ dt1 m name = { m with snaps := m.snaps.eraseIdx (imFind m name) }) := hide ⟨if_pos hf, if_pos hf⟩
  rw [show fdL m.snaps name = (imFind m name : Int) from if_pos hf]
  obtain ⟨q, hq⟩ : ∃ q, imFind m name = q := ⟨_, rfl⟩
  rw [hq] at HE0 hf ⊢
  have hqi : (q : Int) < (m.snaps.length : Int) := by omega
  have HQL := hide hf
  clear hq hf
  have HH2 := hide ((unhide HH).below (unhide HB2))
  obtain ⟨g, cap, cur, e0, _, _⟩ := own_form (by omega) ((unhide HH2).o.s.row (by omega))
  obtain ⟨eso, hcap⟩ : a.so = some ⟨g, 0, none⟩ ∧ a.sc = cap := by simp only [Value.slice.injEq] at e0; exact ⟨e0.1, e0.2.2⟩
  have HROW := hide ((unhide HH2).o.s.row (by omega))
  rw [eso, hcap] at HROW
  have HES := hide (And.intro eso hcap)
  have HNE : Hid ((m.snaps.eraseIdx q).length = q + (m.snaps.length - (q + 1))) := hide (by rw [List.length_eraseIdx, if_pos (unhide HQL)]; omega)
  obtain ⟨c0, c1, c2, c3⟩ := (unhide HH2).v.cells
  rw [eso, hcap] at c2
  have hw1 : IntKind.i64.wrap ((q : Int) + 1) = (q : Int) + 1 := by have := unhide HSL; rw [IntKind.wrap_i64]; omega
  clear eso hcap e0
  go_wp2_with fail
  refine (deleteSn_any w2 B g cap q m.snaps ts (unhide HH2).o.len (unhide HQL) (by have := unhide HSL; omega) (ownSn_one (unhide HH2).o.tabsOwn) (unhide HROW)).mono ?_
  rintro e w3 ⟨rfl, ho3, hk3⟩
  have HN3 := hide (Hld.delS (unhide HH2) (Nat.le_trans hB (unhide HB2).size) (unhide HQL) (unhide HES).1 (unhide HES).2 (unhide HNE) hk3 ho3)
  have hv3 : VarM w3 p 26 (.slice a.ro m.refs.length a.rc) (.slice a.tq m.table.length a.tc) (.slice a.so m.snaps.length a.sc) (.slice a.dq m.data.length a.dc) := (hk3.block _ (unhide HH2).v.lt (fun e => (unhide HH2).o.s.other (unhide HH2).v (by decide) (by have := own_of (n := m.snaps.length) (cap := cap) (g := g) (k := p) (by have := unhide HQL; omega) e.symm; rw [(unhide HES).1, (unhide HES).2]; exact this))).trans (unhide HH2).v
  have HBW : Hid (Below B W w2) := hide ((unhide HB2).mono hB)
  clear ho3 hk3 c0 c1 c2 c3
  obtain ⟨c0, c1, c2, c3⟩ := hv3.cells
  obtain ⟨z0, z1, z2, z3⟩ := hv3.free
  go_wp2
  go_ret
  rw [(unhide HE0).1, (unhide HE0).2]
  exact ⟨rfl, _, _, (unhide HN3).1, (unhide HBW).trans (unhide HN3).2⟩

set_option maxHeartbeats 1600000 in
theorem snapDelete_impl (a : Im4) (m : Img) (name : ByteArray) (w : World) (hz : name.size ≤ 65536) (hL : ImL m) (hc : ImS w a m) :
    Calls Try.prog 17 #[imV a m, .string name] w fun e w' => AnsI w w' e (sdA m name) := by
  have hmf : ∀ (fn : Fn) (first cap : Array Value) (w : World), (Instr.makeFunc fn first cap).run Try.prog w = .ok (.func fn first cap) w := fun _ _ _ _ => rfl
  have HE : Hid (FcE w (((w.alloc (.cells #[.slice a.ro m.refs.length a.rc, .slice a.tq m.table.length a.tc, .slice a.so m.snaps.length a.sc, .slice a.dq m.data.length a.dc] 26)).alloc (.cells #[.string name] 9)).alloc (.cells #[.slice none 0 0, .slice none 0 0, .slice none 0 0, .slice none 0 0] 26)) (w.heap.size + 1 + 1) a m) := hide (by
    refine ⟨?_, ?_, hc.below (fr (fr (Joins.below_alloc1 w _) (Joins.below_alloc1 _ _)) (Joins.below_alloc1 _ _)), fr (fr (Joins.below_alloc1 w _) (Joins.below_alloc1 _ _)) (Joins.below_alloc1 _ _), by omega, by simp⟩
    · exact ((VarM.new w 26 (.slice a.ro m.refs.length a.rc) (.slice a.tq m.table.length a.tc) (.slice a.so m.snaps.length a.sc) (.slice a.dq m.data.length a.dc)).below (Joins.below_alloc1 _ _)).below (Joins.below_alloc1 _ _)
    · have h := VarM.new ((w.alloc (.cells #[.slice a.ro m.refs.length a.rc, .slice a.tq m.table.length a.tc, .slice a.so m.snaps.length a.sc, .slice a.dq m.data.length a.dc] 26)).alloc (.cells #[.string name] 9)) 26 (.slice none 0 0) (.slice none 0 0) (.slice none 0 0) (.slice none 0 0)
      simp only [World.size_alloc] at h
      exact h)
  have HX0 : Hid (VarT1 (((w.alloc (.cells #[.slice a.ro m.refs.length a.rc, .slice a.tq m.table.length a.tc, .slice a.so m.snaps.length a.sc, .slice a.dq m.data.length a.dc] 26)).alloc (.cells #[.string name] 9)).alloc (.cells #[.slice none 0 0, .slice none 0 0, .slice none 0 0, .slice none 0 0] 26)) (w.heap.size + 1) name) := hide (by
    have h : VarT1 (((w.alloc (.cells #[.slice a.ro m.refs.length a.rc, .slice a.tq m.table.length a.tc, .slice a.so m.snaps.length a.sc, .slice a.dq m.data.length a.dc] 26)).alloc (.cells #[.string name] 9)).alloc (.cells #[.slice none 0 0, .slice none 0 0, .slice none 0 0, .slice none 0 0] 26)) (w.alloc (.cells #[.slice a.ro m.refs.length a.rc, .slice a.tq m.table.length a.tc, .slice a.so m.snaps.length a.sc, .slice a.dq m.data.length a.dc] 26)).heap.size name := (VarT1.new (w.alloc (.cells #[.slice a.ro m.refs.length a.rc, .slice a.tq m.table.length a.tc, .slice a.so m.snaps.length a.sc, .slice a.dq m.data.length a.dc] 26)) name).below (Joins.below_alloc1 _ _)
    simp only [World.size_alloc] at h
    exact h)
  have HL := hide hL
  obtain ⟨R, HR⟩ : ∃ R, Hid (R = sdA m name) := ⟨_, hide rfl⟩
  rw [← unhide HR]
  clear hc hL
  go_enter Try.func17, Try.ntmps17
  go_upto_region 1 with fail
  revert HE HX0
  generalize (((w.alloc _).alloc _).alloc _) = W0
  intro HE HX0
  obtain ⟨c0, c1, c2, c3⟩ := (unhide HE).v.cells
  have hnx : W0.cell? ⟨w.heap.size + 1, 0, none⟩ = some (.string name) := unhide HX0
  go_wp2_with fail
  refine (changeSnaps_any a m name 43 #[.pointer (some ⟨w.heap.size + 1, 0, none⟩)] (dt1 m name) (dtC m name) _ (unhide HL) hz (unhide HE).s (fun _ _ => rfl) (fun him => ⟨dt_fit name (imB_iff.1 him), fun W p B a1 ts1 h1 h2 h3 h4 h5 => ?_⟩)).mono ?_
  · exact deleteC_any m name _ W p B a1 ts1 (imB_iff.1 him) ((unhide HX0).below h1) (Nat.lt_of_lt_of_le (unhide HX0).lt h2) h3 h4
  · intro e w2 hans
    rw [dt_ans, ← unhide HR] at hans
    obtain ⟨b, ts, rfl, ho, hb⟩ := hans
    have HP := hide ((unhide HE).put hb ho)
    have HE2 := hide ((unhide HE).below hb)
    clear ho hb c0 c1 c2 c3 hnx
    obtain ⟨r0, r1, r2, r3⟩ := (unhide HE2).r.cells
    obtain ⟨z0, z1, z2, z3⟩ := (unhide HE2).r.free
    go_wp2
    refine bodyPost_ret (res_ic Try.results17 rfl rfl (unhide HP).1) rfl ?_
    exact AnsI.of rfl rfl (unhide HP).2.1 (unhide HP).2.2

end Go.Proofs.Ythnpooffhopnkac
