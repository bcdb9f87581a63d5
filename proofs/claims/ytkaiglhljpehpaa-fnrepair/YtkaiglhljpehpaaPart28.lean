import Derived.Test.YtkaiglhljpehpaaRows
import Derived.Test.YtkaiglhljpehpaaPart1
import Derived.Test.YtkaiglhljpehpaaPart2
import Derived.Test.YtkaiglhljpehpaaPart5
import Derived.Test.YtkaiglhljpehpaaPart6
import Derived.Test.YtkaiglhljpehpaaPart11
import Derived.Test.YtkaiglhljpehpaaPart7
import Derived.Test.YtkaiglhljpehpaaPart12
import Derived.Test.YtkaiglhljpehpaaIgL
import Derived.Test.YtkaiglhljpehpaaPart22
import Derived.Test.YtkaiglhljpehpaaPart23
import Derived.Test.YtkaiglhljpehpaaPart27
import Derived.WalkKit
import Derived.WalkSpells
import Derived.KernelRfl
import Derived.LoopN
import Derived.BigQuiet
import Derived.Deep.QuietTactic
import Derived.Deep.RegionWith
import Derived.Test.YtkaiglhljpehpaaPart10
import Derived.Test.YtkaiglhljpehpaaPart24
import Derived.Deep.CutRange

/- Contract of the program's Repair. -/
namespace Go.Proofs.Ytkaiglhljpehpaa
open Go.RowKit
set_option linter.unusedVariables false
set_option maxRecDepth 100000

set_option maxHeartbeats 3200000 in
theorem repair_impl (a : Im4) (m : Img) (w : World) (hL : ImL m) (hc : ImS w a m) :
    Calls Try.prog 13 #[imV a m] w fun e w' => AnsI w w' e (rpA m) := by
  have HE := hide (ImE.new w a m hc)
  have HL := hide hL
  have HZ0 := hide (World.size_alloc w (.cells #[.slice a.ro m.refs.length a.rc, .slice a.tq m.table.length a.tc, .slice a.so m.snaps.length a.sc, .slice a.dq m.data.length a.dc] 26))
  obtain ⟨R, HR⟩ : ∃ R, Hid (R = rpA m) := ⟨_, hide rfl⟩
  rw [← unhide HR]
  clear hc hL
  have HW0 : Hid (((w.alloc (.cells #[.slice a.ro m.refs.length a.rc, .slice a.tq m.table.length a.tc, .slice a.so m.snaps.length a.sc, .slice a.dq m.data.length a.dc] 26)).alloc (.cells #[.slice none 0 0, .slice none 0 0, .slice none 0 0, .slice none 0 0] 26)).heap.size = w.heap.size + 2) := hide (by rw [World.size_alloc, World.size_alloc])
  go_enter Try.func13, Try.ntmps13
  go_upto_region 1 with fail
  revert HE HW0
  generalize ((w.alloc _).alloc _) = W0
  intro HE HW0
  obtain ⟨c0, c1, c2, c3⟩ := (unhide HE).v.cells
  go_wp2_with fail
  refine (countRefs_impl a m _ (unhide HL) (unhide HE).s).mono ?_
  obtain ⟨R1, HR1⟩ : ∃ R, Hid (R = crA m) := ⟨_, hide rfl⟩
  rw [← unhide HR1]
  rintro e w1 ⟨qo, qa, rfl, ho, hb⟩
  have HO1 := hide ho
  have HSZ1 := hide hb.size
  have HE1 := hide ((unhide HE).below hb)
  clear ho hb c0 c1 c2 c3 HE
  cases hk : ckB m
  · have HX : Hid (R = (im0, 1)) := hide (by rw [unhide HR]; simp only [rpA, hk]; rfl)
    have hR1 : R1.2 = 1 := by rw [unhide HR1]; simp [crA, hk]
    have b1 : (R1.2 != 0) = true := by rw [hR1]; rfl
    have HRR := hide hR1
    have HZ := hide (unhide HE1).zero
    obtain ⟨r0, r1, r2, r3⟩ := (unhide HE1).r.cells
    obtain ⟨z0, z1, z2, z3⟩ := (unhide HE1).r.free
    clear hk hR1
    go_wp2
    refine bodyPost_ret (res_ic Try.results13 rfl rfl (unhide HZ).1) rfl ?_
    rw [unhide HX, unhide HRR]
    exact AnsI.bad 1 (unhide HZ).2
  have HX : Hid (R = (rpI m, 0)) := hide (by rw [unhide HR]; simp [rpA, hk])
  have hR : R1 = (imCnt m, 0) := by rw [unhide HR1]; simp [crA, hk]
  have HP := hide (fm_parts (ck_parts hk).1)
  subst hR
  have HLN := hide (imCnt_len m)
  have HRI : Hid (rpI m = rpF m (imCnt m) 24) := hide rfl
  clear hk HR HR1
  generalize imCnt m = cs at *
  obtain ⟨c0, c1, c2, c3⟩ := (unhide HE1).v.cells
  go_wp2_with fail
  refine (copyImage_full a m _ ⟨by rw [ctB_len (unhide HP).1]; omega, by have := tbB_len ((unhide HP).2.2.2 m.table (by simp [imTabs])); omega, by rw [(unhide HP).2.2.1]; omega⟩ (fun s hs => by have := tbB_len ((unhide HP).2.2.2 s.table (by unfold imTabs; exact List.mem_cons_of_mem _ (List.mem_map.2 ⟨s, hs, rfl⟩))); omega) (by have := (unhide HP).2.1; omega) (unhide HE1).s).mono ?_
  rintro e w2 ⟨a1, ts1, rfl, ⟨ho, _⟩, hb⟩
  have HB2 := hide (fr (unhide HE1).b hb)
  have HR2 := hide ((unhide HE1).r.below hb)
  have HI2 : Hid (OwnIm w2 W0.heap.size { a1 with ro := qo, rc := qa } { m with refs := cs } ts1) := hide ((ho.base (unhide HSZ1)).putR ((unhide HO1).below hb) (fun g hg hg' => by
    have e1 := ((unhide HO1).ge g hg).2
    have e2 := (ho.ge g hg').1
    omega))
  have HPX : Hid (w.heap.size + 1 < w2.heap.size) := hide (unhide HR2).lt
  have HV3 := hide (VarM.new w2 26 (.slice a1.ro m.refs.length a1.rc) (.slice a1.tq m.table.length a1.tc) (.slice a1.so m.snaps.length a1.sc) (.slice a1.dq m.data.length a1.dc))
  have HA3 := hide (Joins.below_alloc1 w2 (.cells #[.slice a1.ro m.refs.length a1.rc, .slice a1.tq m.table.length a1.tc, .slice a1.so m.snaps.length a1.sc, .slice a1.dq m.data.length a1.dc] 26))
  have HI3 := hide ((unhide HI2).below (unhide HA3))
  have HR3 := hide ((unhide HR2).below (unhide HA3))
  have HB3 := hide (fr (unhide HB2) (unhide HA3))
  have HPL : Hid (∀ g, ImB { a1 with ro := qo, rc := qa } { m with refs := cs } ts1 g → g ≠ w2.heap.size) := hide (fun g hg e => by have := ((unhide HI2).ge g hg).2; omega)
  clear ho hb c0 c1 c2 c3 HO1 HI2 HR2 HB2
  go_upto_region 5 with fail
  revert HV3
  revert HI3
  revert HR3
  revert HB3
  revert HA3
  generalize (w2.alloc _) = w3
  generalize w2.heap.size = p at *
  intro HA3 HB3 HR3 HI3 HV3
  have HV4 := hide ((unhide HV3).set0 (.slice qo cs.length qa))
  have HI4 := hide ((unhide HI3).keep ((Keep.refl (fun k => k = p) w3).setCell (p := ⟨p, 0, none⟩) rfl (.slice qo cs.length qa)) (unhide HPL))
  have HR4 := hide ((unhide HR3).other (p := ⟨p, 0, none⟩) (by have := unhide HPX; simp; omega) (.slice qo cs.length qa))
  have HB4 := hide ((unhide HB3).setCell (p := ⟨p, 0, none⟩) (by have := unhide HPX; simp; omega) (.slice qo cs.length qa))
  obtain ⟨c0, c1, c2, c3⟩ := (unhide HV3).cells
  obtain ⟨z0, z1, z2, z3⟩ := (unhide HV3).free
  go_upto_region 6 with fail
  clear c0 c1 c2 c3 z0 z1 z2 z3 HV3 HI3 HR3 HB3 HA3
  revert HB4
  revert HR4
  revert HI4
  revert HV4
  generalize (w3.setCell _ _) = w4
  intro HV4 HI4 HR4 HB4
  have HD24 := hide (unhide HP).2.2.1
  have hll : Hid ((cs.length : Int) = 24) := hide (by rw [unhide HLN]; rfl)
  go_wp2
  go_loopw [24] (fun i wr => ∃ k : Nat, k ≤ cs.length ∧ i = .int .i64 k ∧ Hid (OwnIm wr W0.heap.size { a1 with ro := qo, rc := qa } (rpF m cs k) ts1) ∧ Hid (VarM wr p 26 (.slice qo cs.length qa) (.slice a1.tq m.table.length a1.tc) (.slice a1.so m.snaps.length a1.sc) (.slice a1.dq m.data.length a1.dc)) ∧ Hid (VarM wr (w.heap.size + 1) 26 (.slice none 0 0) (.slice none 0 0) (.slice none 0 0) (.slice none 0 0)) ∧ Hid (Below w.heap.size w wr)) (fun i _ => cs.length - (intOf i).toNat)
  case atStart => exact ⟨0, Nat.zero_le _, rfl, HI4, HV4, HR4, HB4⟩
  case round =>
    clear HI4 HV4 HR4 HB4
    obtain ⟨k, hk, rfl, HI, HV, HR, HB⟩ := hrel
    by_cases hlt : k < cs.length
    · have hlti : (k : Int) < (cs.length : Int) := by omega
      have hk24 : k < 24 := by have := unhide HLN; omega
      have kdl : k < m.data.length := by rw [unhide HD24]; exact hk24
      have kdi : (k : Int) < (m.data.length : Int) := by omega
      have HDL : Hid ((rpF m cs k).data.length = m.data.length) := hide (rpD_len cs m.data k)
      have HST : Hid (cs[k] = 0 → rpF m cs (k + 1) = { rpF m cs k with data := (rpF m cs k).data.set k 0 }) := hide (fun h => by
        have e : cs.getD k 0 = 0 := by simp [List.getD, hlt, h]
        simp only [rpF, rpD, if_pos e])
      have HSN : Hid (¬ cs[k] = 0 → rpF m cs (k + 1) = rpF m cs k) := hide (fun h => by
        have e : ¬ cs.getD k 0 = 0 := by simp [List.getD, hlt, h]
        simp only [rpF, rpD, if_neg e])
      obtain ⟨g1, e1, hg1, _, _, _⟩ := (unhide HI).setR (c := k) hlt
      replace e1 : qo = some ⟨g1, 0, none⟩ := e1
      replace hg1 : wr.cell? ⟨g1, k, none⟩ = some (.int .i64 cs[k]) := hg1
      obtain ⟨g2, e2, hg2, hf2, hi2, hs2⟩ := (unhide HI).setD (c := k) (by rw [unhide HDL]; exact kdl)
      have hpg : p ≠ g2 := fun e => (unhide HI).other (e ▸ unhide HV) hi2
      have hxg : w.heap.size + 1 ≠ g2 := fun e => (unhide HI).other (e ▸ unhide HR) hi2
      have hge := ((unhide HI).ge g2 hi2).1
      have HI2 := hide (hs2 0)
      have HV2 := hide ((unhide HV).other (p := ⟨g2, k, none⟩) hpg (.int .i64 0))
      have HR2 := hide ((unhide HR).other (p := ⟨g2, k, none⟩) hxg (.int .i64 0))
      have HB2 := hide ((unhide HB).setCell (p := ⟨g2, k, none⟩) (Nat.le_trans (by have := unhide HW0; omega) hge) (.int .i64 0))
      obtain ⟨c0, c1, c2, c3⟩ := (unhide HV).cells
      replace e2 : a1.dq = some ⟨g2, 0, none⟩ := e2
      rw [e2] at c3
      subst e1
      clear e2 hs2 hi2 hpg hxg hge
      by_cases hz : cs[k] = 0
      · have HS := hide (unhide HST hz)
        have bz : (cs[k] == 0) = true := by simp [hz]
        clear hz
        go_wp2
        go_roundw
        case rel => exact ⟨k + 1, by omega, by go_num, hide (by rw [unhide HS]; exact unhide HI2), HV2, HR2, HB2⟩
        case measure => simp [intOf]; omega
      · have HS := hide (unhide HSN hz)
        have bz : (cs[k] == 0) = false := by simp [hz]
        clear hz
        go_wp2
        go_roundw
        case rel => exact ⟨k + 1, by omega, by go_num, hide (by rw [unhide HS]; exact unhide HI), HV, HR, HB⟩
        case measure => simp [intOf]; omega
    · have HK : Hid (rpF m cs k = rpF m cs 24) := hide (by have := unhide HLN; rw [show k = 24 by omega])
      have HDL : Hid ((rpF m cs k).data.length = m.data.length) := hide (rpD_len cs m.data k)
      have HPT := hide (ImSt.put (unhide HR) (unhide HI) (unhide HB) (Nat.le_succ _) (by rw [unhide HW0]; omega) { a1 with ro := qo, rc := qa } { m with refs := cs })
      have HLE : Hid (imV { a1 with ro := qo, rc := qa } { m with refs := cs } = imV { a1 with ro := qo, rc := qa } (rpF m cs 24)) := hide (by
        rw [← unhide HK, imV, imV, unhide HDL]; rfl)
      obtain ⟨c0, c1, c2, c3⟩ := (unhide HV).cells
      obtain ⟨r0, r1, r2, r3⟩ := (unhide HR).cells
      obtain ⟨z0, z1, z2, z3⟩ := (unhide HR).free
      go_wp2
      refine bodyPost_ret (res_ic Try.results13 rfl rfl (unhide HPT).1) rfl ?_
      rw [unhide HX]
      exact AnsI.of (R := (rpI m, 0)) (by rw [unhide HRI]; exact unhide HLE) rfl (by rw [unhide HRI, ← unhide HK]; exact (unhide HPT).2.1.base (by rw [unhide HW0]; omega)) (unhide HPT).2.2

end Go.Proofs.Ytkaiglhljpehpaa

/- Contracts of the model's l12Form and CountRefs. -/
namespace Go.Proofs.Ytkaiglhljpehpaa
open Go.RowKit
set_option linter.unusedVariables false
set_option maxRecDepth 100000

set_option maxHeartbeats 3200000 in
theorem l12Form_any (a : Im4) (m : Img) (w : World) (hL : ImL m) (hc : ImS w a m) :
    Calls Try.prog 29 #[imV a m] w fun e w' => e = .returned (.bool (ckB m)) ∧ Below w.heap.size w w' := by
  have HA := hide (Joins.below_alloc1 w (.cells #[.slice a.ro m.refs.length a.rc, .slice a.tq m.table.length a.tc, .slice a.so m.snaps.length a.sc, .slice a.dq m.data.length a.dc] 26))
  have HV := hide (VarM.new w 26 (.slice a.ro m.refs.length a.rc) (.slice a.tq m.table.length a.tc) (.slice a.so m.snaps.length a.sc) (.slice a.dq m.data.length a.dc))
  have HC := hide (hc.below (unhide HA))
  have HL := hide hL
  clear hc hL
  cases hfm : imFm m
  · have HF := hide (ck_fm hfm)
    go_enter Try.func29, Try.ntmps29
    go_upto_region 1 with fail
    revert HA HV HC
    generalize (w.alloc _) = W0
    intro HA HV HC
    obtain ⟨c0, c1, c2, c3⟩ := (unhide HV).cells
    go_wp2_with fail
    refine (l10Form_any a m _ (unhide HL) (unhide HC)).mono ?_
    rintro e w1 ⟨rfl, hb⟩
    rw [hfm]
    have HB := hide (fr (unhide HA) hb)
    clear hb c0 c1 c2 c3
    go_wp2
    go_ret
    exact ⟨ret_bool (unhide HF).symm, unhide HB⟩
  obtain ⟨p1, p2, p3, p4⟩ := fm_parts hfm
  have HFM := hide hfm
  have HR24 := hide (ctB_len p1)
  have HD24 := hide p3
  have HTB := hide p4
  have hs3 : m.snaps.length ≤ 3 := p2
  clear p1 p2 p3 p4 hfm
  go_enter Try.func29, Try.ntmps29
  go_upto_region 1 with fail
  revert HA HV HC
  generalize (w.alloc _) = W0
  intro HA HV HC
  obtain ⟨c0, c1, c2, c3⟩ := (unhide HV).cells
  go_wp2_with fail
  refine (l10Form_any a m _ (unhide HL) (unhide HC)).mono ?_
  rintro e w1 ⟨rfl, hb⟩
  rw [unhide HFM]
  have HB1 := hide (fr (unhide HA) hb)
  have HC1 := hide ((unhide HC).below hb)
  have HV1 := hide ((unhide HV).below hb)
  clear hb c0 c1 c2 c3 HA HV HC
  obtain ⟨c0, c1, c2, c3⟩ := (unhide HV1).cells
  go_wp2_with fail
  refine (l10Twice_any a.tq a.tc m.table _ (unhide HTB _ (by simp [imTabs])) (unhide HC1).t).mono ?_
  rintro e w2 ⟨rfl, hb⟩
  have HB2 := hide (fr (unhide HB1) hb)
  have HC2 := hide ((unhide HC1).below hb)
  have HV2 := hide ((unhide HV1).below hb)
  clear hb c0 c1 c2 c3 HB1 HC1 HV1
  cases hon : onceB m.table
  · have HF := hide (ck_once (m := m) (t := m.table) (by simp [imTabs]) hon)
    go_wp2
    go_ret
    exact ⟨ret_bool (unhide HF).symm, unhide HB2⟩
  have HON := hide hon
  clear hon
  obtain ⟨c0, c1, c2, c3⟩ := (unhide HV2).cells
  go_wp2
  clear c0 c1 c2 c3
  go_loopw [3] (fun i wr => ∃ k : Nat, k ≤ m.snaps.length ∧ i = .int .i64 k ∧ Hid (∀ j (hj : j < m.snaps.length), j < k → onceB m.snaps[j].table = true) ∧ Hid (Below w2.heap.size w2 wr)) (fun i _ => m.snaps.length - (intOf i).toNat)
  case atStart => exact ⟨0, Nat.zero_le _, rfl, hide (fun j _ h => by omega), hide (Below.refl _ _)⟩
  case round =>
    obtain ⟨i, hi, rfl, HS, HB⟩ := hrel
    obtain ⟨c0, c1, c2, c3⟩ := ((unhide HV2).below (unhide HB)).cells
    by_cases hlt : i < m.snaps.length
    · obtain ⟨b, off, tq, tc, eb, hn0, ht0, hIs, hz, htl⟩ := ((unhide HC2).s.below (unhide HB)) i hlt
      rw [eb] at c2
      clear eb
      have hlti : (i : Int) < (m.snaps.length : Int) := by omega
      have HIS := hide hIs
      have HMT : Hid (m.snaps[i].table ∈ imTabs m) := hide (by unfold imTabs; exact List.mem_cons_of_mem _ (List.mem_map.2 ⟨_, List.getElem_mem hlt, rfl⟩))
      clear hIs hz htl
      go_wp2_with fail
      refine (l10Twice_any tq tc m.snaps[i].table _ (unhide HTB _ (unhide HMT)) (unhide HIS)).mono ?_
      rintro e w3 ⟨rfl, hb⟩
      have HB3 := hide (fr (unhide HB) hb)
      clear hb c0 c1 c2 c3 hn0 ht0
      cases hon : onceB m.snaps[i].table
      · have HF := hide (ck_once (unhide HMT) hon)
        go_wp2
        go_ret
        exact ⟨ret_bool (unhide HF).symm, fr (unhide HB2) (unhide HB3)⟩
      · have HS' := hide (all_succ (p := fun s : Snp => onceB s.table) hlt (unhide HS) hon)
        go_wp2
        go_roundw
        case rel => exact ⟨i + 1, by omega, by go_num, HS', HB3⟩
        case measure => simp [intOf]; omega
    · have HALL : Hid (∀ t ∈ imTabs m, onceB t = true) := hide (fun t ht => by
        unfold imTabs at ht
        rw [List.mem_cons, List.mem_map] at ht
        rcases ht with rfl | ⟨s, hs, rfl⟩
        · exact unhide HON
        · obtain ⟨j, hj, rfl⟩ := List.mem_iff_getElem.1 hs
          exact unhide HS j hj (by omega))
      have HF := hide (ck_yes (unhide HFM) (unhide HALL))
      go_wp2
      go_ret
      exact ⟨ret_bool (unhide HF).symm, fr (unhide HB2) (unhide HB)⟩

end Go.Proofs.Ytkaiglhljpehpaa

/- Contract of the model's Repair. -/
namespace Go.Proofs.Ytkaiglhljpehpaa
open Go.RowKit
set_option linter.unusedVariables false
set_option maxRecDepth 100000

set_option maxHeartbeats 3200000 in
theorem repair_spec (a : Im4) (m : Img) (w : World) (hL : ImL m) (hc : ImS w a m) :
    Calls Try.prog 14 #[imV a m] w fun e w' => AnsI w w' e (rpA m) := by
  have HE := hide (ImE.new w a m hc)
  have HL := hide hL
  obtain ⟨R, HR⟩ : ∃ R, Hid (R = rpA m) := ⟨_, hide rfl⟩
  rw [← unhide HR]
  clear hc hL
  have HW0 : Hid (((w.alloc (.cells #[.slice a.ro m.refs.length a.rc, .slice a.tq m.table.length a.tc, .slice a.so m.snaps.length a.sc, .slice a.dq m.data.length a.dc] 26)).alloc (.cells #[.slice none 0 0, .slice none 0 0, .slice none 0 0, .slice none 0 0] 26)).heap.size = w.heap.size + 2) := hide (by rw [World.size_alloc, World.size_alloc])
  go_enter Try.func14, Try.ntmps14
  go_upto_region 1 with fail
  revert HE HW0
  generalize ((w.alloc _).alloc _) = W0
  intro HE HW0
  obtain ⟨c0, c1, c2, c3⟩ := (unhide HE).v.cells
  go_wp2_with fail
  refine (l12Form_any a m _ (unhide HL) (unhide HE).s).mono ?_
  rintro e w1 ⟨rfl, hb⟩
  have HSZ1 := hide hb.size
  have HE1 := hide ((unhide HE).below hb)
  clear hb c0 c1 c2 c3 HE
  cases hk : ckB m
  · have HX : Hid (R = (im0, 1)) := hide (by rw [unhide HR]; simp only [rpA, hk]; rfl)
    have HZ := hide (unhide HE1).zero
    obtain ⟨r0, r1, r2, r3⟩ := (unhide HE1).r.cells
    obtain ⟨z0, z1, z2, z3⟩ := (unhide HE1).r.free
    clear hk
    go_wp2
    refine bodyPost_ret (res_ic Try.results14 rfl rfl (unhide HZ).1) rfl ?_
    rw [unhide HX]
    exact AnsI.bad 1 (unhide HZ).2
  have HX : Hid (R = (rpI m, 0)) := hide (by rw [unhide HR]; simp [rpA, hk])
  have HP := hide (fm_parts (ck_parts hk).1)
  have HZS : Hid (∀ s ∈ m.snaps, s.name.size ≤ maxLen ∧ s.table.length ≤ maxLen) := hide (fun s hs => by
    obtain ⟨j, hj, rfl⟩ := List.mem_iff_getElem.1 hs
    obtain ⟨_, _, _, _, _, _, _, _, h1, h2⟩ := (unhide HE1).s.s j hj
    exact ⟨h1, h2⟩)
  have HLN := hide (imCnt_len m)
  have HRI : Hid (rpI m = rpF m (imCnt m) 24) := hide rfl
  clear hk HR
  obtain ⟨c0, c1, c2, c3⟩ := (unhide HE1).v.cells
  obtain ⟨f0, f1, f2, f3⟩ := (unhide HE1).v.free
  go_wp2_with fail
  refine (l10Own_full a m _ ⟨by rw [ctB_len (unhide HP).1]; omega, by have := tbB_len ((unhide HP).2.2.2 m.table (by simp [imTabs])); omega, by rw [(unhide HP).2.2.1]; omega⟩ (fun s hs => by have := tbB_len ((unhide HP).2.2.2 s.table (by unfold imTabs; exact List.mem_cons_of_mem _ (List.mem_map.2 ⟨s, hs, rfl⟩))); omega) (by have := (unhide HP).2.1; omega) (unhide HE1).s).mono ?_
  rintro e w2 ⟨a1, ts1, rfl, ⟨ho, _⟩, hb⟩
  have HQ2 := hide (ImQ.put (w := w) (m0 := m) ((unhide HE1).v.below hb) ((unhide HE1).r.below hb) (ho.base (unhide HSZ1)) (fr (unhide HE1).b hb) (by rw [unhide HW0]; omega) rfl rfl rfl rfl)
  obtain ⟨d0, d1, d2, d3⟩ := ((unhide HE1).v.below hb).cells
  obtain ⟨g0, g1, g2, g3⟩ := ((unhide HE1).v.below hb).free
  clear ho hb c0 c1 c2 c3 f0 f1 f2 f3 HE1
  go_upto_region 4 with fail
  clear d0 d1 d2 d3 g0 g1 g2 g3
  revert HQ2
  unfold putI
  generalize (World.setCell (World.setCell (World.setCell (World.setCell w2 _ _) _ _) _ _) _ _) = w3
  intro HQ2
  have HS3 := hide ((unhide HQ2).o.shows (unhide HZS))
  obtain ⟨c0, c1, c2, c3⟩ := (unhide HQ2).v.cells
  obtain ⟨f0, f1, f2, f3⟩ := (unhide HQ2).v.free
  go_wp2_with fail
  refine (l10Count_any a1 m _ (unhide HP).2.1 (unhide HP).2.2.2 (unhide HS3)).mono ?_
  rintro e w4 ⟨v, rfl, ⟨qo, qa, rfl, ho⟩, hb⟩
  have HD24 := hide (unhide HP).2.2.1
  generalize imCnt m = cs at *
  have HV4 := hide ((unhide HQ2).v.below hb)
  have HR4 := hide ((unhide HQ2).r.below hb)
  have HB4 := hide (fr (unhide HQ2).b hb)
  have HSZ3 := hide (unhide HQ2).v.lt
  have HI4 : Hid (OwnIm w4 (w.heap.size + 2) { a1 with ro := qo, rc := qa } { m with refs := cs } ts1) := hide ((((unhide HQ2).o.below hb).base (unhide HQ2).hB).putR (ho.base (by have := (unhide HQ2).r.lt; omega)) (fun g hg hg' => by
    have e1 := (ho.ge g hg).1
    have e2 := ((unhide HQ2).o.ge g hg').2
    omega))
  have HPL : Hid (∀ g, ImB { a1 with ro := qo, rc := qa } { m with refs := cs } ts1 g → g ≠ w.heap.size) := hide (fun g hg e => by have := ((unhide HI4).ge g hg).1; omega)
  have HV5 := hide ((unhide HV4).set0 (.slice qo cs.length qa))
  have HI5 := hide ((unhide HI4).keep ((Keep.refl (fun k => k = w.heap.size) w4).setCell (p := ⟨w.heap.size, 0, none⟩) rfl (.slice qo cs.length qa)) (unhide HPL))
  have HR5 := hide ((unhide HR4).other (p := ⟨w.heap.size, 0, none⟩) (by simp) (.slice qo cs.length qa))
  have HB5 := hide ((unhide HB4).setCell (p := ⟨w.heap.size, 0, none⟩) (by simp) (.slice qo cs.length qa))
  clear ho hb c0 c1 c2 c3 f0 f1 f2 f3 HQ2 HS3
  obtain ⟨c0, c1, c2, c3⟩ := (unhide HV4).cells
  obtain ⟨f0, f1, f2, f3⟩ := (unhide HV4).free
  go_upto_region 5 with fail
  clear c0 c1 c2 c3 f0 f1 f2 f3 HV4 HI4 HR4 HB4
  revert HB5
  revert HR5
  revert HI5
  revert HV5
  generalize (w4.setCell _ _) = w5
  intro HV5 HI5 HR5 HB5
  have hll : Hid ((cs.length : Int) = 24) := hide (by rw [unhide HLN]; rfl)
  go_wp2
  go_loopw [4] (fun i wr => ∃ k : Nat, k ≤ 24 ∧ i = .int .i64 k ∧ Hid (OwnIm wr (w.heap.size + 2) { a1 with ro := qo, rc := qa } (rpF m cs k) ts1) ∧ Hid (VarM wr w.heap.size 26 (.slice qo cs.length qa) (.slice a1.tq m.table.length a1.tc) (.slice a1.so m.snaps.length a1.sc) (.slice a1.dq m.data.length a1.dc)) ∧ Hid (VarM wr (w.heap.size + 1) 26 (.slice none 0 0) (.slice none 0 0) (.slice none 0 0) (.slice none 0 0)) ∧ Hid (Below w.heap.size w wr)) (fun i _ => 24 - (intOf i).toNat)
  case atStart => exact ⟨0, Nat.zero_le _, rfl, HI5, HV5, HR5, HB5⟩
  case round =>
    clear HI5 HV5 HR5 HB5
    obtain ⟨k, hk, rfl, HI, HV, HR, HB⟩ := hrel
    by_cases hk24 : k < 24
    · have hlt : k < cs.length := by rw [unhide HLN]; exact hk24
      have hlti : (k : Int) < (cs.length : Int) := by omega
      have hk24i : (k : Int) < 24 := by omega
      have kdl : k < m.data.length := by rw [unhide HD24]; exact hk24
      have kdi : (k : Int) < (m.data.length : Int) := by omega
      have HDL : Hid ((rpF m cs k).data.length = m.data.length) := hide (rpD_len cs m.data k)
      have HST : Hid (cs[k] = 0 → rpF m cs (k + 1) = { rpF m cs k with data := (rpF m cs k).data.set k 0 }) := hide (fun h => by
        have e : cs.getD k 0 = 0 := by simp [List.getD, hlt, h]
        simp only [rpF, rpD, if_pos e])
      have HSN : Hid (¬ cs[k] = 0 → rpF m cs (k + 1) = rpF m cs k) := hide (fun h => by
        have e : ¬ cs.getD k 0 = 0 := by simp [List.getD, hlt, h]
        simp only [rpF, rpD, if_neg e])
      obtain ⟨g1, e1, hg1, _, _, _⟩ := (unhide HI).setR (c := k) hlt
      replace e1 : qo = some ⟨g1, 0, none⟩ := e1
      replace hg1 : wr.cell? ⟨g1, k, none⟩ = some (.int .i64 cs[k]) := hg1
      obtain ⟨g2, e2, hg2, hf2, hi2, hs2⟩ := (unhide HI).setD (c := k) (by rw [unhide HDL]; exact kdl)
      have hpg : w.heap.size ≠ g2 := fun e => (unhide HI).other (e ▸ unhide HV) hi2
      have hxg : w.heap.size + 1 ≠ g2 := fun e => (unhide HI).other (e ▸ unhide HR) hi2
      have hge := ((unhide HI).ge g2 hi2).1
      have HI2 := hide (hs2 0)
      have HV2 := hide ((unhide HV).other (p := ⟨g2, k, none⟩) hpg (.int .i64 0))
      have HR2 := hide ((unhide HR).other (p := ⟨g2, k, none⟩) hxg (.int .i64 0))
      have HB2 := hide ((unhide HB).setCell (p := ⟨g2, k, none⟩) (Nat.le_trans (by omega) hge) (.int .i64 0))
      obtain ⟨c0, c1, c2, c3⟩ := (unhide HV).cells
      replace e2 : a1.dq = some ⟨g2, 0, none⟩ := e2
      rw [e2] at c3
      subst e1
      clear e2 hs2 hi2 hpg hxg hge
      by_cases hz : cs[k] = 0
      · have HS := hide (unhide HST hz)
        have bz : (cs[k] == 0) = true := by simp [hz]
        clear hz
        go_wp2
        go_roundw
        case rel => exact ⟨k + 1, by omega, by go_num, hide (by rw [unhide HS]; exact unhide HI2), HV2, HR2, HB2⟩
        case measure => simp [intOf]; omega
      · have HS := hide (unhide HSN hz)
        have bz : (cs[k] == 0) = false := by simp [hz]
        clear hz
        go_wp2
        go_roundw
        case rel => exact ⟨k + 1, by omega, by go_num, hide (by rw [unhide HS]; exact unhide HI), HV, HR, HB⟩
        case measure => simp [intOf]; omega
    · have HK : Hid (rpF m cs k = rpF m cs 24) := hide (by rw [show k = 24 by omega])
      have HDL : Hid ((rpF m cs k).data.length = m.data.length) := hide (rpD_len cs m.data k)
      have HPT := hide (ImSt.put (unhide HR) (unhide HI) (unhide HB) (Nat.le_succ _) (Nat.lt_succ_self _) { a1 with ro := qo, rc := qa } { m with refs := cs })
      have HLE : Hid (imV { a1 with ro := qo, rc := qa } { m with refs := cs } = imV { a1 with ro := qo, rc := qa } (rpF m cs 24)) := hide (by
        rw [← unhide HK, imV, imV, unhide HDL]; rfl)
      obtain ⟨c0, c1, c2, c3⟩ := (unhide HV).cells
      obtain ⟨r0, r1, r2, r3⟩ := (unhide HR).cells
      obtain ⟨z0, z1, z2, z3⟩ := (unhide HR).free
      go_wp2
      refine bodyPost_ret (res_ic Try.results14 rfl rfl (unhide HPT).1) rfl ?_
      rw [unhide HX]
      exact AnsI.of (R := (rpI m, 0)) (by rw [unhide HRI]; exact unhide HLE) rfl (by rw [unhide HRI, ← unhide HK]; exact (unhide HPT).2.1.base (by omega)) (unhide HPT).2.2

end Go.Proofs.Ytkaiglhljpehpaa

/- The walk of laws.FnRepair. -/
namespace Go.Proofs.Ytkaiglhljpehpaa
open Go.RowKit
set_option linter.unusedVariables false
set_option maxRecDepth 100000

theorem WrI.showsW {w : World} {B : Nat} {a : Im4} {m : Img} {ts : List Value} (h : OwnIm w B a m ts) (hi : WrI m) : ImS w a m := h.shows hi.zs
theorem WrI.IL {m : Img} (h : WrI m) : ImL m := ⟨h.L.1, h.L.2.1, h.L.2.2.1, h.L.2.2.2⟩

set_option maxHeartbeats 6400000 in
theorem lawRepair (ao : Option Addr) (ca n : Nat) (w : World) (hn : n ≤ maxLen) (hB : Bs w ao n) :
    Calls Try.prog 4 #[.slice ao n ca] w fun e w' => e = .returned (.bool true) ∧ Below w.heap.size w w' := by
  have HBS := hide hB
  clear hB
  unfold maxLen at hn
  by_cases h : 1048576 < n
  · go_enter Try.func4, Try.ntmps4
    go_wp2
    go_ret
    exact ⟨rfl, Below.refl _ _⟩
  have hn' : n ≤ 1048576 := by omega
  go_enter Try.func4, Try.ntmps4
  go_wp2_with fail
  refine (wrongImageOf_any ao n ca _ hn' (unhide HBS)).mono ?_
  rintro e w1 ⟨a0, M, ts0, rfl, ho, hi, hb⟩
  have HM := hide hi
  have A0 := hide (ImA.new (WrI.showsW ho hi))
  have HB1 := hide (fr hb (Joins.below_alloc1 w1 (.cells #[.slice a0.ro M.refs.length a0.rc, .slice a0.tq M.table.length a0.tc, .slice a0.so M.snaps.length a0.sc, .slice a0.dq M.data.length a0.dc] 26)))
  clear ho hi hb HBS
  go_upto_region 4 with fail
  revert A0 HB1
  generalize w1.heap.size = y0
  generalize (w1.alloc _) = W1
  intro A0 HB1
  obtain ⟨X, HX⟩ : ∃ X, Hid (X = rpI M) := ⟨_, hide rfl⟩
  have HXR : Hid (ImR X) := hide (by rw [unhide HX]; exact rp_right (unhide HM))
  have HXA : Hid (rpA M = (X, 0)) := hide (by rw [unhide HX]; exact rpA_wr (unhide HM))
  obtain ⟨c0, c1, c2, c3⟩ := (unhide A0).v.cells
  go_wp2_with fail
  have k := repair_impl a0 M _ (unhide HM).IL (unhide A0).s
  rw [unhide HXA] at k
  refine k.mono ?_
  rintro e w2 ⟨a1, ts1, rfl, ho, hb⟩
  have A1 := hide (ImA.new (ho.showsR (unhide HXR)))
  have A02 := hide ((unhide A0).below (fr hb (Joins.below_alloc1 w2 (.cells #[.slice a1.ro X.refs.length a1.rc, .slice a1.tq X.table.length a1.tc, .slice a1.so X.snaps.length a1.sc, .slice a1.dq X.data.length a1.dc] 26))))
  have HB2 := hide (fr (unhide HB1) (fr hb (Joins.below_alloc1 w2 (.cells #[.slice a1.ro X.refs.length a1.rc, .slice a1.tq X.table.length a1.tc, .slice a1.so X.snaps.length a1.sc, .slice a1.dq X.data.length a1.dc] 26))))
  clear k ho hb c0 c1 c2 c3 A0 HB1
  go_upto_region 5 with fail
  revert A1 A02 HB2
  generalize w2.heap.size = y1
  generalize (w2.alloc _) = W2
  intro A1 A02 HB2
  obtain ⟨c0, c1, c2, c3⟩ := (unhide A02).v.cells
  go_wp2_with fail
  have k := repair_spec a0 M _ (unhide HM).IL (unhide A02).s
  rw [unhide HXA] at k
  refine k.mono ?_
  rintro e w3 ⟨a2, ts2, rfl, ho, hb⟩
  have A2 := hide (ImA.new (ho.showsR (unhide HXR)))
  have A03 := hide ((unhide A02).below (fr hb (Joins.below_alloc1 w3 (.cells #[.slice a2.ro X.refs.length a2.rc, .slice a2.tq X.table.length a2.tc, .slice a2.so X.snaps.length a2.sc, .slice a2.dq X.data.length a2.dc] 26))))
  have A13 := hide ((unhide A1).below (fr hb (Joins.below_alloc1 w3 (.cells #[.slice a2.ro X.refs.length a2.rc, .slice a2.tq X.table.length a2.tc, .slice a2.so X.snaps.length a2.sc, .slice a2.dq X.data.length a2.dc] 26))))
  have HB3 := hide (fr (unhide HB2) (fr hb (Joins.below_alloc1 w3 (.cells #[.slice a2.ro X.refs.length a2.rc, .slice a2.tq X.table.length a2.tc, .slice a2.so X.snaps.length a2.sc, .slice a2.dq X.data.length a2.dc] 26))))
  clear k ho hb c0 c1 c2 c3 A02 A1 HB2
  go_upto_region 6 with fail
  revert A2 A03 A13 HB3
  generalize w3.heap.size = y2
  generalize (w3.alloc _) = W3
  intro A2 A03 A13 HB3
  obtain ⟨c0, c1, c2, c3⟩ := (unhide A13).v.cells
  obtain ⟨d0, d1, d2, d3⟩ := (unhide A2).v.cells
  go_wp2_with fail
  refine (sameA a1 a2 X _ (unhide HXR) (unhide A13).s (unhide A2).s).mono ?_
  rintro e w4 ⟨rfl, hb⟩
  have A04 := hide ((unhide A03).below hb)
  have A14 := hide ((unhide A13).below hb)
  have HB4 := hide (fr (unhide HB3) hb)
  clear hb c0 c1 c2 c3 d0 d1 d2 d3 A03 A13 A2 HB3
  obtain ⟨c0, c1, c2, c3⟩ := (unhide A14).v.cells
  go_wp2_with fail
  have k := repair_impl a1 X _ (unhide HXR).L (unhide A14).s
  rw [rpA_right (unhide HXR)] at k
  refine k.mono ?_
  rintro e w5 ⟨a3, ts3, rfl, ho, hb⟩
  have A3 := hide (ImA.new (ho.showsR (unhide HXR)))
  have A05 := hide ((unhide A04).below (fr hb (Joins.below_alloc1 w5 (.cells #[.slice a3.ro X.refs.length a3.rc, .slice a3.tq X.table.length a3.tc, .slice a3.so X.snaps.length a3.sc, .slice a3.dq X.data.length a3.dc] 26))))
  have A15 := hide ((unhide A14).below (fr hb (Joins.below_alloc1 w5 (.cells #[.slice a3.ro X.refs.length a3.rc, .slice a3.tq X.table.length a3.tc, .slice a3.so X.snaps.length a3.sc, .slice a3.dq X.data.length a3.dc] 26))))
  have HB5 := hide (fr (unhide HB4) (fr hb (Joins.below_alloc1 w5 (.cells #[.slice a3.ro X.refs.length a3.rc, .slice a3.tq X.table.length a3.tc, .slice a3.so X.snaps.length a3.sc, .slice a3.dq X.data.length a3.dc] 26))))
  clear k ho hb c0 c1 c2 c3 A04 A14 HB4
  go_upto_region 11 with fail
  revert A3 A05 A15 HB5
  generalize w5.heap.size = y3
  generalize (w5.alloc _) = W5
  intro A3 A05 A15 HB5
  obtain ⟨c0, c1, c2, c3⟩ := (unhide A15).v.cells
  go_wp2_with fail
  have k := wrongRefs_impl a1 X _ (unhide HXR).L (unhide A15).s
  rw [wl_right (unhide HXR)] at k
  refine k.mono ?_
  rintro e w6 ⟨q1, k1, rfl, _, hb⟩
  have A06 := hide ((unhide A05).below hb)
  have A16 := hide ((unhide A15).below hb)
  have A36 := hide ((unhide A3).below hb)
  have HB6 := hide (fr (unhide HB5) hb)
  clear k hb c0 c1 c2 c3 A05 A15 A3 HB5
  have HTX : Hid (X.table = M.table) := hide (by rw [unhide HX]; rfl)
  have HAT : Hid (∀ g (hg : g < M.table.length), imAt X g = imVal M M.table[g]) := hide (fun g hg => by
    have e : imAt X g = imVal X M.table[g] := by
      unfold imAt
      rw [unhide HTX]
      simp [List.getD, hg]
    rw [e, unhide HX]
    exact rp_shows (unhide HM) hg)
  have HDL := hide (unhide HM).len
  have HTB := hide (tbB_at (unhide HM).table)
  have HTL := hide (tbB_len (unhide HM).table)
  clear HX HXA
  go_wp2
  go_loopw [12] (fun i wr => ∃ k : Nat, k ≤ M.table.length ∧ i = .int .i64 k ∧ Hid (Below w6.heap.size w6 wr)) (fun i _ => M.table.length - (intOf i).toNat)
  case atStart => exact ⟨0, Nat.zero_le _, rfl, hide (Below.refl _ _)⟩
  case round =>
    obtain ⟨k, hk, rfl, HW⟩ := hrel
    have A07 := hide ((unhide A06).below (unhide HW))
    have A17 := hide ((unhide A16).below (unhide HW))
    obtain ⟨c0, c1, c2, c3⟩ := (unhide A07).v.cells
    by_cases hlt : k < M.table.length
    · have hlti : (k : Int) < (M.table.length : Int) := by omega
      have hk12 : k < 12 := by have := unhide HTL; omega
      obtain ⟨b1, o1, e1, hx1⟩ := (unhide A07).s.t k hlt
      have HE := hide (unhide HAT k hlt)
      have HEB := hide (unhide HTB k hlt)
      rw [e1] at c1
      generalize M.table[k] = E at *
      by_cases h2 : 2 ≤ E
      · obtain ⟨q, hq⟩ := Int.eq_ofNat_of_zero_le (show 0 ≤ E - 2 by omega)
        have hq24 : q < 24 := by have := unhide HEB; omega
        have hqd : q < M.data.length := by rw [unhide HDL]; exact hq24
        have hqi : (q : Int) < (M.data.length : Int) := by omega
        have hws : IntKind.i64.wrap (E - 2) = (q : Int) := by rw [hq, IntKind.wrap_i64]; omega
        obtain ⟨b3, o3, e3, hx3⟩ := (unhide A07).s.d q hqd
        rw [e3] at c3
        obtain ⟨V, HV⟩ : ∃ V, Hid (M.data[q] = V) := ⟨_, hide rfl⟩
        have HE2 : Hid (imAt X k = V) := hide (by
          rw [unhide HE, ← unhide HV]
          unfold imVal
          rw [if_neg (by omega), show (E - 2).toNat = q by omega]
          simp [List.getD, hqd])
        rw [unhide HV] at hx3
        clear e1 e3 hq hqd hq24 HE HV
        go_wp2
        go_quiet (fail)
        generalize hW5 : (World.drewN _ _) = W9
        have HWX : Hid (Below wr.heap.size wr W9) := hide (by rw [← hW5]; exact Joins.below_draws _ _ _)
        have HWD := hide (fr (unhide HW) (unhide HWX))
        have A18 := hide ((unhide A17).below (unhide HWX))
        clear hW5 c0 c1 c2 c3 hx1 hx3 HWX A07 A17 hws hqi
        obtain ⟨d0, d1, d2, d3⟩ := (unhide A18).v.cells
        go_wp2_with fail
        refine (readA a1 X k V _ (unhide HXR) (by rw [unhide HTX]; exact hlt) (unhide HE2) (unhide A18).s).mono ?_
        rintro e w8 ⟨rfl, hb⟩
        have HW2 := hide (fr (unhide HWD) hb)
        clear hb d0 d1 d2 d3
        go_wp2
        go_roundw
        case rel => exact ⟨k + 1, by omega, by go_num, HW2⟩
        case measure => simp [intOf]; omega
      · have HE2 : Hid (imAt X k = 0) := hide (by
          rw [unhide HE]
          unfold imVal
          rw [if_pos (by omega)])
        have HWD := HW
        have A18 := A17
        clear e1 HE A17
        obtain ⟨d0, d1, d2, d3⟩ := (unhide A18).v.cells
        go_wp2_with fail
        refine (readA a1 X k 0 _ (unhide HXR) (by rw [unhide HTX]; exact hlt) (unhide HE2) (unhide A18).s).mono ?_
        rintro e w8 ⟨rfl, hb⟩
        have HW2 := hide (fr (unhide HWD) hb)
        clear hb d0 d1 d2 d3
        go_wp2
        go_roundw
        case rel => exact ⟨k + 1, by omega, by go_num, HW2⟩
        case measure => simp [intOf]; omega
    · obtain rfl : k = M.table.length := by omega
      have A37 := hide ((unhide A36).below (unhide HW))
      have HB7 := hide (fr (unhide HB6) (unhide HW))
      have HEQ : Hid (eqNB X.table M.table = true) := hide (by rw [unhide HTX, eqNB_self])
      obtain ⟨d0, d1, d2, d3⟩ := (unhide A17).v.cells
      obtain ⟨e0, e1, e2, e3⟩ := (unhide A37).v.cells
      clear HW HAT HTB HTL HDL
      go_wp2_with fail
      refine (sameA a1 a3 X _ (unhide HXR) (unhide A17).s (unhide A37).s).mono ?_
      rintro e w8 ⟨rfl, hb⟩
      have A08 := hide ((unhide A07).below hb)
      have A18 := hide ((unhide A17).below hb)
      have HB8 := hide (fr (unhide HB7) hb)
      clear hb c0 c1 c2 c3 d0 d1 d2 d3 e0 e1 e2 e3 A07 A17 A37 HB7
      obtain ⟨d0, d1, d2, d3⟩ := (unhide A18).v.cells
      go_wp2_with fail
      refine (okA a1 X _ (unhide HXR) (unhide A18).s).mono ?_
      rintro e w9 ⟨rfl, hb⟩
      have A09 := hide ((unhide A08).below hb)
      have A19 := hide ((unhide A18).below hb)
      have HB9 := hide (fr (unhide HB8) hb)
      clear hb d0 d1 d2 d3 A08 A18 HB8
      obtain ⟨c0, c1, c2, c3⟩ := (unhide A09).v.cells
      obtain ⟨d0, d1, d2, d3⟩ := (unhide A19).v.cells
      go_wp2_with fail
      refine (sameInts_any a1.tq a0.tq a1.tc a0.tc X.table M.table _ (unhide HXR).L.t (unhide A19).s.t (unhide A09).s.t).mono ?_
      rw [unhide HEQ]
      rintro e w10 ⟨rfl, hb⟩
      have HB10 := hide (fr (unhide HB9) hb)
      clear hb
      go_wp2
      go_ret
      exact ⟨rfl, unhide HB10⟩

end Go.Proofs.Ytkaiglhljpehpaa
