import Derived.Test.YtkaiglhljpehpabRows
import Derived.Test.YtkaiglhljpehpabPart1
import Derived.Test.YtkaiglhljpehpabPart3
import Derived.Test.YtkaiglhljpehpabPart2
import Derived.Test.YtkaiglhljpehpabPart4
import Derived.Test.YtkaiglhljpehpabPart5
import Derived.Test.YtkaiglhljpehpabPart6
import Derived.Test.YtkaiglhljpehpabPart8
import Derived.Test.YtkaiglhljpehpabPart7
import Derived.Test.YtkaiglhljpehpabPart12
import Derived.Test.YtkaiglhljpehpabIgL
import Derived.Test.YtkaiglhljpehpabPart18
import Derived.Test.YtkaiglhljpehpabPart13
import Derived.WalkKit
import Derived.WalkSpells
import Derived.KernelRfl
import Derived.LoopN
import Derived.BigQuiet
import Derived.Deep.QuietTactic
import Derived.Deep.RegionWith
import Derived.Test.YtkaiglhljpehpabPart11

/- Contract of the program's Repair. -/
namespace Go.Proofs.Ytkaiglhljpehpab
open Go.RowKit
set_option linter.unusedVariables false
set_option maxRecDepth 100000

set_option maxHeartbeats 3200000 in
theorem repair_impl (a : Im4) (m : Img) (w : World) (hL : ImL m) (hc : ImS w a m) :
    Calls Try.prog 22 #[imV a m] w fun e w' => AnsI w w' e (rpA m) := by
  have HE := hide (ImE.new w a m hc)
  have HL := hide hL
  have HZ0 := hide (World.size_alloc w (.cells #[.slice a.ro m.refs.length a.rc, .slice a.tq m.table.length a.tc, .slice a.so m.snaps.length a.sc, .slice a.dq m.data.length a.dc] 31))
  obtain ⟨R, HR⟩ : ∃ R, Hid (R = rpA m) := ⟨_, hide rfl⟩
  rw [← unhide HR]
  clear hc hL
  have HW0 : Hid (((w.alloc (.cells #[.slice a.ro m.refs.length a.rc, .slice a.tq m.table.length a.tc, .slice a.so m.snaps.length a.sc, .slice a.dq m.data.length a.dc] 31)).alloc (.cells #[.slice none 0 0, .slice none 0 0, .slice none 0 0, .slice none 0 0] 31)).heap.size = w.heap.size + 2) := hide (by rw [World.size_alloc, World.size_alloc])
  go_enter Try.func22, Try.ntmps22
  go_upto_region 1 with fail
  revert HE HW0
  generalize ((w.alloc _).alloc _) = W0
  intro HE HW0
  obtain ⟨c0, c1, c2, c3⟩ := (unhide HE).v.cells
  go_wp2_with fail
  refine (countRefs_impl a m _ (unhide HL) (unhide HE).s).mono ?_
  obtain ⟨R1, HR1⟩ : ∃ R, Hid (R = crA m) := ⟨_, hide rfl⟩
  rw [← unhide HR1]
  rintro e w1 ⟨qo, qa, rfl, ho, hb⟩
  have HO1 := hide ho
  have HSZ1 := hide hb.size
  have HE1 := hide ((unhide HE).below hb)
  clear ho hb c0 c1 c2 c3 HE
  cases hk : ckB m
  · have HX : Hid (R = (im0, 1)) := hide (by rw [unhide HR]; simp only [rpA, hk]; rfl)
    have hR1 : R1.2 = 1 := by rw [unhide HR1]; simp [crA, hk]
    have b1 : (R1.2 != 0) = true := by rw [hR1]; rfl
    have HRR := hide hR1
    have HZ := hide (unhide HE1).zero
    obtain ⟨r0, r1, r2, r3⟩ := (unhide HE1).r.cells
    obtain ⟨z0, z1, z2, z3⟩ := (unhide HE1).r.free
    clear hk hR1
    go_wp2
    refine bodyPost_ret (res_ic Try.results22 rfl rfl (unhide HZ).1) rfl ?_
    rw [unhide HX, unhide HRR]
    exact AnsI.bad 1 (unhide HZ).2
  have HX : Hid (R = (rpI m, 0)) := hide (by rw [unhide HR]; simp [rpA, hk])
  have hR : R1 = (imCnt m, 0) := by rw [unhide HR1]; simp [crA, hk]
  have HP := hide (fm_parts (ck_parts hk).1)
  subst hR
  have HLN := hide (imCnt_len m)
  have HRI : Hid (rpI m = rpF m (imCnt m) 24) := hide rfl
  clear hk HR HR1
  generalize imCnt m = cs at *
  obtain ⟨c0, c1, c2, c3⟩ := (unhide HE1).v.cells
  go_wp2_with fail
  refine (copyImage_full a m _ ⟨by rw [ctB_len (unhide HP).1]; omega, by have := tbB_len ((unhide HP).2.2.2 m.table (by simp [imTabs])); omega, by rw [(unhide HP).2.2.1]; omega⟩ (fun s hs => by have := tbB_len ((unhide HP).2.2.2 s.table (by unfold imTabs; exact List.mem_cons_of_mem _ (List.mem_map.2 ⟨s, hs, rfl⟩))); omega) (by have := (unhide HP).2.1; omega) (unhide HE1).s).mono ?_
  rintro e w2 ⟨a1, ts1, rfl, ⟨ho, _⟩, hb⟩
  have HB2 := hide (fr (unhide HE1).b hb)
  have HR2 := hide ((unhide HE1).r.below hb)
  have HI2 : Hid (OwnIm w2 W0.heap.size { a1 with ro := qo, rc := qa } { m with refs := cs } ts1) := hide ((ho.base (unhide HSZ1)).putR ((unhide HO1).below hb) (fun g hg hg' => by
    have e1 := ((unhide HO1).ge g hg).2
    have e2 := (ho.ge g hg').1
    omega))
  have HPX : Hid (w.heap.size + 1 < w2.heap.size) := hide (unhide HR2).lt
  have HV3 := hide (VarM.new w2 31 (.slice a1.ro m.refs.length a1.rc) (.slice a1.tq m.table.length a1.tc) (.slice a1.so m.snaps.length a1.sc) (.slice a1.dq m.data.length a1.dc))
  have HA3 := hide (Joins.below_alloc1 w2 (.cells #[.slice a1.ro m.refs.length a1.rc, .slice a1.tq m.table.length a1.tc, .slice a1.so m.snaps.length a1.sc, .slice a1.dq m.data.length a1.dc] 31))
  have HI3 := hide ((unhide HI2).below (unhide HA3))
  have HR3 := hide ((unhide HR2).below (unhide HA3))
  have HB3 := hide (fr (unhide HB2) (unhide HA3))
  have HPL : Hid (∀ g, ImB { a1 with ro := qo, rc := qa } { m with refs := cs } ts1 g → g ≠ w2.heap.size) := hide (fun g hg e => by have := ((unhide HI2).ge g hg).2; omega)
  clear ho hb c0 c1 c2 c3 HO1 HI2 HR2 HB2
  go_upto_region 5 with fail
  revert HV3
  revert HI3
  revert HR3
  revert HB3
  revert HA3
  generalize (w2.alloc _) = w3
  generalize w2.heap.size = p at *
  intro HA3 HB3 HR3 HI3 HV3
  have HV4 := hide ((unhide HV3).set0 (.slice qo cs.length qa))
  have HI4 := hide ((unhide HI3).keep ((Keep.refl (fun k => k = p) w3).setCell (p := ⟨p, 0, none⟩) rfl (.slice qo cs.length qa)) (unhide HPL))
  have HR4 := hide ((unhide HR3).other (p := ⟨p, 0, none⟩) (by have := unhide HPX; simp; omega) (.slice qo cs.length qa))
  have HB4 := hide ((unhide HB3).setCell (p := ⟨p, 0, none⟩) (by have := unhide HPX; simp; omega) (.slice qo cs.length qa))
  obtain ⟨c0, c1, c2, c3⟩ := (unhide HV3).cells
  obtain ⟨z0, z1, z2, z3⟩ := (unhide HV3).free
  go_upto_region 6 with fail
  clear c0 c1 c2 c3 z0 z1 z2 z3 HV3 HI3 HR3 HB3 HA3
  revert HB4
  revert HR4
  revert HI4
  revert HV4
  generalize (w3.setCell _ _) = w4
  intro HV4 HI4 HR4 HB4
  have HD24 := hide (unhide HP).2.2.1
  have hll : Hid ((cs.length : Int) = 24) := hide (by rw [unhide HLN]; rfl)
  go_wp2
  go_loopw [24] (fun i wr => ∃ k : Nat, k ≤ cs.length ∧ i = .int .i64 k ∧ Hid (OwnIm wr W0.heap.size { a1 with ro := qo, rc := qa } (rpF m cs k) ts1) ∧ Hid (VarM wr p 31 (.slice qo cs.length qa) (.slice a1.tq m.table.length a1.tc) (.slice a1.so m.snaps.length a1.sc) (.slice a1.dq m.data.length a1.dc)) ∧ Hid (VarM wr (w.heap.size + 1) 31 (.slice none 0 0) (.slice none 0 0) (.slice none 0 0) (.slice none 0 0)) ∧ Hid (Below w.heap.size w wr)) (fun i _ => cs.length - (intOf i).toNat)
  case atStart => exact ⟨0, Nat.zero_le _, rfl, HI4, HV4, HR4, HB4⟩
  case round =>
    clear HI4 HV4 HR4 HB4
    obtain ⟨k, hk, rfl, HI, HV, HR, HB⟩ := hrel
    by_cases hlt : k < cs.length
    · have hlti : (k : Int) < (cs.length : Int) := by omega
      have hk24 : k < 24 := by have := unhide HLN; omega
      have kdl : k < m.data.length := by rw [unhide HD24]; exact hk24
      have kdi : (k : Int) < (m.data.length : Int) := by omega
      have HDL : Hid ((rpF m cs k).data.length = m.data.length) := hide (rpD_len cs m.data k)
      have HST : Hid (cs[k] = 0 → rpF m cs (k + 1) = { rpF m cs k with data := (rpF m cs k).data.set k 0 }) := hide (fun h => by
        have e : cs.getD k 0 = 0 := by simp [List.getD, hlt, h]
        simp only [rpF, rpD, if_pos e])
      have HSN : Hid (¬ cs[k] = 0 → rpF m cs (k + 1) = rpF m cs k) := hide (fun h => by
        have e : ¬ cs.getD k 0 = 0 := by simp [List.getD, hlt, h]
        simp only [rpF, rpD, if_neg e])
      obtain ⟨g1, e1, hg1, _, _, _⟩ := (unhide HI).setR (c := k) hlt
      replace e1 : qo = some ⟨g1, 0, none⟩ := e1
      replace hg1 : wr.cell? ⟨g1, k, none⟩ = some (.int .i64 cs[k]) := hg1
      obtain ⟨g2, e2, hg2, hf2, hi2, hs2⟩ := (unhide HI).setD (c := k) (by rw [unhide HDL]; exact kdl)
      have hpg : p ≠ g2 := fun e => (unhide HI).other (e ▸ unhide HV) hi2
      have hxg : w.heap.size + 1 ≠ g2 := fun e => (unhide HI).other (e ▸ unhide HR) hi2
      have hge := ((unhide HI).ge g2 hi2).1
      have HI2 := hide (hs2 0)
      have HV2 := hide ((unhide HV).other (p := ⟨g2, k, none⟩) hpg (.int .i64 0))
      have HR2 := hide ((unhide HR).other (p := ⟨g2, k, none⟩) hxg (.int .i64 0))
      have HB2 := hide ((unhide HB).setCell (p := ⟨g2, k, none⟩) (Nat.le_trans (by have := unhide HW0; omega) hge) (.int .i64 0))
      obtain ⟨c0, c1, c2, c3⟩ := (unhide HV).cells
      replace e2 : a1.dq = some ⟨g2, 0, none⟩ := e2
      rw [e2] at c3
      subst e1
      clear e2 hs2 hi2 hpg hxg hge
      by_cases hz : cs[k] = 0
      · have HS := hide (unhide HST hz)
        have bz : (cs[k] == 0) = true := by simp [hz]
        clear hz
        go_wp2
        go_roundw
        case rel => exact ⟨k + 1, by omega, by go_num, hide (by rw [unhide HS]; exact unhide HI2), HV2, HR2, HB2⟩
        case measure => simp [intOf]; omega
      · have HS := hide (unhide HSN hz)
        have bz : (cs[k] == 0) = false := by simp [hz]
        clear hz
        go_wp2
        go_roundw
        case rel => exact ⟨k + 1, by omega, by go_num, hide (by rw [unhide HS]; exact unhide HI), HV, HR, HB⟩
        case measure => simp [intOf]; omega
    · have HK : Hid (rpF m cs k = rpF m cs 24) := hide (by have := unhide HLN; rw [show k = 24 by omega])
      have HDL : Hid ((rpF m cs k).data.length = m.data.length) := hide (rpD_len cs m.data k)
      have HPT := hide (ImSt.put (unhide HR) (unhide HI) (unhide HB) (Nat.le_succ _) (by rw [unhide HW0]; omega) { a1 with ro := qo, rc := qa } { m with refs := cs })
      have HLE : Hid (imV { a1 with ro := qo, rc := qa } { m with refs := cs } = imV { a1 with ro := qo, rc := qa } (rpF m cs 24)) := hide (by
        rw [← unhide HK, imV, imV, unhide HDL]; rfl)
      obtain ⟨c0, c1, c2, c3⟩ := (unhide HV).cells
      obtain ⟨r0, r1, r2, r3⟩ := (unhide HR).cells
      obtain ⟨z0, z1, z2, z3⟩ := (unhide HR).free
      go_wp2
      refine bodyPost_ret (res_ic Try.results22 rfl rfl (unhide HPT).1) rfl ?_
      rw [unhide HX]
      exact AnsI.of (R := (rpI m, 0)) (by rw [unhide HRI]; exact unhide HLE) rfl (by rw [unhide HRI, ← unhide HK]; exact (unhide HPT).2.1.base (by rw [unhide HW0]; omega)) (unhide HPT).2.2

end Go.Proofs.Ytkaiglhljpehpab

/- How great the images are that the calls answer. -/
namespace Go.Proofs.Ytkaiglhljpehpab
open Go.RowKit
set_option linter.unusedVariables false
set_option maxRecDepth 100000

theorem ImBd.like {m n : Img} (h : ImBd m) (e1 : n.refs.length = m.refs.length) (e2 : n.table.length ≤ 1048576) (e3 : n.snaps = m.snaps) (e4 : n.data.length = m.data.length) : ImBd n :=
  ⟨by rw [e1]; exact h.r, e2, by rw [e3]; exact h.s, by rw [e4]; exact h.d, by rw [e3]; exact h.st, by rw [e3]; exact h.k⟩
theorem write_lens (m : Img) (g : Nat) (v : Int) : (imWrite m g v).1.refs.length = m.refs.length ∧ (imWrite m g v).1.table.length = m.table.length ∧ (imWrite m g v).1.snaps = m.snaps ∧ (imWrite m g v).1.data.length = m.data.length := by
  unfold imWrite
  simp only
  split
  · exact ⟨rfl, rfl, rfl, by simp⟩
  · split
    · exact ⟨by simp [imDrop_refs], by simp [(imDrop_table m _).1], (imDrop_table m _).2, by simp [imDrop_data]⟩
    · exact ⟨rfl, rfl, rfl, rfl⟩
theorem zc_bd (m : Img) (g : Int) (h : imSz m ≤ 1048576) : ImBd (zcA m g).1 := by
  unfold zcA
  split
  · split
    · exact (ImBd.of h).like (imDrop_refs m _) (by show ((imDrop m _).table.set _ _).length ≤ _; rw [List.length_set, (imDrop_table m _).1]; exact (ImBd.of h).t) (imDrop_table m _).2 (imDrop_data m _)
    · exact ImBd.of h
  · exact ImBd.zero
theorem wc_bd (m : Img) (g v : Int) (h : imSz m ≤ 1048576) : ImBd (wcA m g v).1 := by
  unfold wcA
  split
  · split
    · obtain ⟨h1, h2, h3, h4⟩ := write_lens m g.toNat v
      exact (ImBd.of h).like h1 (by rw [h2]; exact (ImBd.of h).t) h3 h4
    · exact ImBd.of h
  · exact ImBd.zero
theorem rs_bd (m : Img) (n : Int) (h : imSz m ≤ 1048576) : ImBd (rsA' m n).1 := by
  unfold rsA'
  split
  · by_cases hn : betw n 0 12 = true
    · rw [if_pos hn]
      obtain ⟨l0, l1⟩ := betw_iff.1 hn
      obtain ⟨h1, h2, h3, h4⟩ := drops_lens m (m.table.drop n.toNat)
      exact (ImBd.of h).like h1 (by show (rzTo m.table n.toNat).length ≤ _; rw [rzTo_len]; omega) h4 h2
    · rw [if_neg hn]
      exact ImBd.of h
  · exact ImBd.zero

end Go.Proofs.Ytkaiglhljpehpab

/- The walk of laws.FnExactRepair. -/
namespace Go.Proofs.Ytkaiglhljpehpab
open Go.RowKit
set_option linter.unusedVariables false
set_option maxRecDepth 100000

theorem rp_bd (m : Img) : imSz m ≤ 1048576 → ImBd (rpA m).1 := fun h => by
  unfold rpA
  split
  · rename_i hk
    exact (ImBd.of h).like (by show (imCnt m).length = _; rw [imCnt_len, ctB_len (fm_parts (ck_parts hk).1).1]) (ImBd.of h).t rfl (rpD_len _ _ _)
  · exact ImBd.zero

theorem wkRepair (a : Im4) (m : Img) (w : World) (hl : m.refs.length ≤ maxLen ∧ m.table.length ≤ maxLen ∧ m.snaps.length ≤ maxLen ∧ m.data.length ≤ maxLen) (hc : ImS w a m) :
    Calls Try.prog 6 #[imV a m] w fun e w' => e = .returned (.bool true) ∧ Below w.heap.size w w' :=
  have hL : ImL m := ⟨hl.1, hl.2.1, hl.2.2.1, hl.2.2.2⟩
  lawImRepair a m (rpA m) w hL hc (fun s hs => by obtain ⟨j, hj, rfl⟩ := List.mem_iff_getElem.1 hs; obtain ⟨_, _, _, _, _, _, _, _, h1, h2⟩ := hc.s j hj; exact ⟨h1, h2⟩) (rp_bd m) (fun b W h => repair_spec b m W hL h) (fun b W h => repair_impl b m W hL h)

end Go.Proofs.Ytkaiglhljpehpab
