import Derived.Test.YtkaiglhljpehpabRows
import Derived.Test.YtkaiglhljpehpabPart1
import Derived.Test.YtkaiglhljpehpabPart3
import Derived.Test.YtkaiglhljpehpabPart2
import Derived.Test.YtkaiglhljpehpabPart4
import Derived.Test.YtkaiglhljpehpabPart5
import Derived.Test.YtkaiglhljpehpabPart6
import Derived.Test.YtkaiglhljpehpabPart8
import Derived.Test.YtkaiglhljpehpabPart12
import Derived.WalkKit
import Derived.WalkSpells
import Derived.KernelRfl
import Derived.LoopN
import Derived.BigQuiet
import Derived.Deep.QuietTactic
import Derived.Deep.RegionWith
import Derived.Test.YtkaiglhljpehpabPart7
import Derived.Test.YtkaiglhljpehpabPart11
import Derived.Maps.Own
import Derived.Maps.OwnOps
import Derived.Maps.OwnSet
import Derived.Maps.RangeWalk
import Derived.Maps.Views

/- An image of the call's own whose counts are another row. -/
namespace Go.Proofs.Ytkaiglhljpehpab
open Go.RowKit
set_option linter.unusedVariables false
set_option maxRecDepth 100000

/-- An image of the call's own whose counts are another row. -/
theorem OwnIm.putR {w : World} {B : Nat} {a : Im4} {m : Img} {ts : List Value} (h : OwnIm w B a m ts) {qo : Option Addr} {qa : Nat} {xs : List Int} (ho : OwnR w B 3 1 (.slice qo xs.length qa) xs.length (intV xs)) (hap : ∀ g, Own (.slice qo xs.length qa) g → ¬ ImB a m ts g) : OwnIm w B { a with ro := qo, rc := qa } { m with refs := xs } ts := by
  refine ⟨h.len, h.s, ?_⟩
  have hr := h.rows
  unfold imRows at hr ⊢
  have h2 := List.pairwise_cons.1 hr.apart
  refine ⟨fun r hm => ?_, List.pairwise_cons.2 ⟨fun r hm g hg hg' => ?_, h2.2⟩⟩
  · rcases List.mem_cons.1 hm with e | e
    · rw [e]; exact ⟨qo, qa, rfl, ho⟩
    · exact hr.own r (List.mem_cons_of_mem _ e)
  · refine hap g hg ?_
    rcases List.mem_cons.1 hm with e | e
    · subst e; exact .inr (.inl hg')
    · rcases List.mem_cons.1 e with e | e
      · subst e; exact .inr (.inr (.inl hg'))
      · exact .inr (.inr (.inr (.inr ⟨r.1, (List.of_mem_zip (a := r.1) (b := r.2) e).1, hg'⟩)))
/-- The image when the data of the first k clusters are cleared. -/
def rpF (m : Img) (cs : List Int) (k : Nat) : Img := { m with refs := cs, data := rpD cs m.data k }

end Go.Proofs.Ytkaiglhljpehpab

/- Contract of the model's Repair. -/
namespace Go.Proofs.Ytkaiglhljpehpab
open Go.RowKit
set_option linter.unusedVariables false
set_option maxRecDepth 100000

set_option maxHeartbeats 3200000 in
theorem repair_spec (a : Im4) (m : Img) (w : World) (hL : ImL m) (hc : ImS w a m) :
    Calls Try.prog 21 #[imV a m] w fun e w' => AnsI w w' e (rpA m) := by
  have HE := hide (ImE.new w a m hc)
  have HL := hide hL
  obtain ⟨R, HR⟩ : ∃ R, Hid (R = rpA m) := ⟨_, hide rfl⟩
  rw [← unhide HR]
  clear hc hL
  have HW0 : Hid (((w.alloc (.cells #[.slice a.ro m.refs.length a.rc, .slice a.tq m.table.length a.tc, .slice a.so m.snaps.length a.sc, .slice a.dq m.data.length a.dc] 31)).alloc (.cells #[.slice none 0 0, .slice none 0 0, .slice none 0 0, .slice none 0 0] 31)).heap.size = w.heap.size + 2) := hide (by rw [World.size_alloc, World.size_alloc])
  go_enter Try.func21, Try.ntmps21
  go_upto_region 1 with fail
  revert HE HW0
  generalize ((w.alloc _).alloc _) = W0
  intro HE HW0
  obtain ⟨c0, c1, c2, c3⟩ := (unhide HE).v.cells
  go_wp2_with fail
  refine (l12Form_any a m _ (unhide HL) (unhide HE).s).mono ?_
  rintro e w1 ⟨rfl, hb⟩
  have HSZ1 := hide hb.size
  have HE1 := hide ((unhide HE).below hb)
  clear hb c0 c1 c2 c3 HE
  cases hk : ckB m
  · have HX : Hid (R = (im0, 1)) := hide (by rw [unhide HR]; simp only [rpA, hk]; rfl)
    have HZ := hide (unhide HE1).zero
    obtain ⟨r0, r1, r2, r3⟩ := (unhide HE1).r.cells
    obtain ⟨z0, z1, z2, z3⟩ := (unhide HE1).r.free
    clear hk
    go_wp2
    refine bodyPost_ret (res_ic Try.results21 rfl rfl (unhide HZ).1) rfl ?_
    rw [unhide HX]
    exact AnsI.bad 1 (unhide HZ).2
  have HX : Hid (R = (rpI m, 0)) := hide (by rw [unhide HR]; simp [rpA, hk])
  have HP := hide (fm_parts (ck_parts hk).1)
  have HZS : Hid (∀ s ∈ m.snaps, s.name.size ≤ maxLen ∧ s.table.length ≤ maxLen) := hide (fun s hs => by
    obtain ⟨j, hj, rfl⟩ := List.mem_iff_getElem.1 hs
    obtain ⟨_, _, _, _, _, _, _, _, h1, h2⟩ := (unhide HE1).s.s j hj
    exact ⟨h1, h2⟩)
  have HLN := hide (imCnt_len m)
  have HRI : Hid (rpI m = rpF m (imCnt m) 24) := hide rfl
  clear hk HR
  obtain ⟨c0, c1, c2, c3⟩ := (unhide HE1).v.cells
  obtain ⟨f0, f1, f2, f3⟩ := (unhide HE1).v.free
  go_wp2_with fail
  refine (l10Own_full a m _ ⟨by rw [ctB_len (unhide HP).1]; omega, by have := tbB_len ((unhide HP).2.2.2 m.table (by simp [imTabs])); omega, by rw [(unhide HP).2.2.1]; omega⟩ (fun s hs => by have := tbB_len ((unhide HP).2.2.2 s.table (by unfold imTabs; exact List.mem_cons_of_mem _ (List.mem_map.2 ⟨s, hs, rfl⟩))); omega) (by have := (unhide HP).2.1; omega) (unhide HE1).s).mono ?_
  rintro e w2 ⟨a1, ts1, rfl, ⟨ho, _⟩, hb⟩
  have HQ2 := hide (ImQ.put (w := w) (m0 := m) ((unhide HE1).v.below hb) ((unhide HE1).r.below hb) (ho.base (unhide HSZ1)) (fr (unhide HE1).b hb) (by rw [unhide HW0]; omega) rfl rfl rfl rfl)
  obtain ⟨d0, d1, d2, d3⟩ := ((unhide HE1).v.below hb).cells
  obtain ⟨g0, g1, g2, g3⟩ := ((unhide HE1).v.below hb).free
  clear ho hb c0 c1 c2 c3 f0 f1 f2 f3 HE1
  go_upto_region 4 with fail
  clear d0 d1 d2 d3 g0 g1 g2 g3
  revert HQ2
  unfold putI
  generalize (World.setCell (World.setCell (World.setCell (World.setCell w2 _ _) _ _) _ _) _ _) = w3
  intro HQ2
  have HS3 := hide ((unhide HQ2).o.shows (unhide HZS))
  obtain ⟨c0, c1, c2, c3⟩ := (unhide HQ2).v.cells
  obtain ⟨f0, f1, f2, f3⟩ := (unhide HQ2).v.free
  go_wp2_with fail
  refine (l10Count_any a1 m _ (unhide HP).2.1 (unhide HP).2.2.2 (unhide HS3)).mono ?_
  rintro e w4 ⟨v, rfl, ⟨qo, qa, rfl, ho⟩, hb⟩
  have HD24 := hide (unhide HP).2.2.1
  generalize imCnt m = cs at *
  have HV4 := hide ((unhide HQ2).v.below hb)
  have HR4 := hide ((unhide HQ2).r.below hb)
  have HB4 := hide (fr (unhide HQ2).b hb)
  have HSZ3 := hide (unhide HQ2).v.lt
  have HI4 : Hid (OwnIm w4 (w.heap.size + 2) { a1 with ro := qo, rc := qa } { m with refs := cs } ts1) := hide ((((unhide HQ2).o.below hb).base (unhide HQ2).hB).putR (ho.base (by have := (unhide HQ2).r.lt; omega)) (fun g hg hg' => by
    have e1 := (ho.ge g hg).1
    have e2 := ((unhide HQ2).o.ge g hg').2
    omega))
  have HPL : Hid (∀ g, ImB { a1 with ro := qo, rc := qa } { m with refs := cs } ts1 g → g ≠ w.heap.size) := hide (fun g hg e => by have := ((unhide HI4).ge g hg).1; omega)
  have HV5 := hide ((unhide HV4).set0 (.slice qo cs.length qa))
  have HI5 := hide ((unhide HI4).keep ((Keep.refl (fun k => k = w.heap.size) w4).setCell (p := ⟨w.heap.size, 0, none⟩) rfl (.slice qo cs.length qa)) (unhide HPL))
  have HR5 := hide ((unhide HR4).other (p := ⟨w.heap.size, 0, none⟩) (by simp) (.slice qo cs.length qa))
  have HB5 := hide ((unhide HB4).setCell (p := ⟨w.heap.size, 0, none⟩) (by simp) (.slice qo cs.length qa))
  clear ho hb c0 c1 c2 c3 f0 f1 f2 f3 HQ2 HS3
  obtain ⟨c0, c1, c2, c3⟩ := (unhide HV4).cells
  obtain ⟨f0, f1, f2, f3⟩ := (unhide HV4).free
  go_upto_region 5 with fail
  clear c0 c1 c2 c3 f0 f1 f2 f3 HV4 HI4 HR4 HB4
  revert HB5
  revert HR5
  revert HI5
  revert HV5
  generalize (w4.setCell _ _) = w5
  intro HV5 HI5 HR5 HB5
  have hll : Hid ((cs.length : Int) = 24) := hide (by rw [unhide HLN]; rfl)
  go_wp2
  go_loopw [4] (fun i wr => ∃ k : Nat, k ≤ 24 ∧ i = .int .i64 k ∧ Hid (OwnIm wr (w.heap.size + 2) { a1 with ro := qo, rc := qa } (rpF m cs k) ts1) ∧ Hid (VarM wr w.heap.size 31 (.slice qo cs.length qa) (.slice a1.tq m.table.length a1.tc) (.slice a1.so m.snaps.length a1.sc) (.slice a1.dq m.data.length a1.dc)) ∧ Hid (VarM wr (w.heap.size + 1) 31 (.slice none 0 0) (.slice none 0 0) (.slice none 0 0) (.slice none 0 0)) ∧ Hid (Below w.heap.size w wr)) (fun i _ => 24 - (intOf i).toNat)
  case atStart => exact ⟨0, Nat.zero_le _, rfl, HI5, HV5, HR5, HB5⟩
  case round =>
    clear HI5 HV5 HR5 HB5
    obtain ⟨k, hk, rfl, HI, HV, HR, HB⟩ := hrel
    by_cases hk24 : k < 24
    · have hlt : k < cs.length := by rw [unhide HLN]; exact hk24
      have hlti : (k : Int) < (cs.length : Int) := by omega
      have hk24i : (k : Int) < 24 := by omega
      have kdl : k < m.data.length := by rw [unhide HD24]; exact hk24
      have kdi : (k : Int) < (m.data.length : Int) := by omega
      have HDL : Hid ((rpF m cs k).data.length = m.data.length) := hide (rpD_len cs m.data k)
      have HST : Hid (cs[k] = 0 → rpF m cs (k + 1) = { rpF m cs k with data := (rpF m cs k).data.set k 0 }) := hide (fun h => by
        have e : cs.getD k 0 = 0 := by simp [List.getD, hlt, h]
        simp only [rpF, rpD, if_pos e])
      have HSN : Hid (¬ cs[k] = 0 → rpF m cs (k + 1) = rpF m cs k) := hide (fun h => by
        have e : ¬ cs.getD k 0 = 0 := by simp [List.getD, hlt, h]
        simp only [rpF, rpD, if_neg e])
      obtain ⟨g1, e1, hg1, _, _, _⟩ := (unhide HI).setR (c := k) hlt
      replace e1 : qo = some ⟨g1, 0, none⟩ := e1
      replace hg1 : wr.cell? ⟨g1, k, none⟩ = some (.int .i64 cs[k]) := hg1
      obtain ⟨g2, e2, hg2, hf2, hi2, hs2⟩ := (unhide HI).setD (c := k) (by rw [unhide HDL]; exact kdl)
      have hpg : w.heap.size ≠ g2 := fun e => (unhide HI).other (e ▸ unhide HV) hi2
      have hxg : w.heap.size + 1 ≠ g2 := fun e => (unhide HI).other (e ▸ unhide HR) hi2
      have hge := ((unhide HI).ge g2 hi2).1
      have HI2 := hide (hs2 0)
      have HV2 := hide ((unhide HV).other (p := ⟨g2, k, none⟩) hpg (.int .i64 0))
      have HR2 := hide ((unhide HR).other (p := ⟨g2, k, none⟩) hxg (.int .i64 0))
      have HB2 := hide ((unhide HB).setCell (p := ⟨g2, k, none⟩) (Nat.le_trans (by omega) hge) (.int .i64 0))
      obtain ⟨c0, c1, c2, c3⟩ := (unhide HV).cells
      replace e2 : a1.dq = some ⟨g2, 0, none⟩ := e2
      rw [e2] at c3
      subst e1
      clear e2 hs2 hi2 hpg hxg hge
      by_cases hz : cs[k] = 0
      · have HS := hide (unhide HST hz)
        have bz : (cs[k] == 0) = true := by simp [hz]
        clear hz
        go_wp2
        go_roundw
        case rel => exact ⟨k + 1, by omega, by go_num, hide (by rw [unhide HS]; exact unhide HI2), HV2, HR2, HB2⟩
        case measure => simp [intOf]; omega
      · have HS := hide (unhide HSN hz)
        have bz : (cs[k] == 0) = false := by simp [hz]
        clear hz
        go_wp2
        go_roundw
        case rel => exact ⟨k + 1, by omega, by go_num, hide (by rw [unhide HS]; exact unhide HI), HV, HR, HB⟩
        case measure => simp [intOf]; omega
    · have HK : Hid (rpF m cs k = rpF m cs 24) := hide (by rw [show k = 24 by omega])
      have HDL : Hid ((rpF m cs k).data.length = m.data.length) := hide (rpD_len cs m.data k)
      have HPT := hide (ImSt.put (unhide HR) (unhide HI) (unhide HB) (Nat.le_succ _) (Nat.lt_succ_self _) { a1 with ro := qo, rc := qa } { m with refs := cs })
      have HLE : Hid (imV { a1 with ro := qo, rc := qa } { m with refs := cs } = imV { a1 with ro := qo, rc := qa } (rpF m cs 24)) := hide (by
        rw [← unhide HK, imV, imV, unhide HDL]; rfl)
      obtain ⟨c0, c1, c2, c3⟩ := (unhide HV).cells
      obtain ⟨r0, r1, r2, r3⟩ := (unhide HR).cells
      obtain ⟨z0, z1, z2, z3⟩ := (unhide HR).free
      go_wp2
      refine bodyPost_ret (res_ic Try.results21 rfl rfl (unhide HPT).1) rfl ?_
      rw [unhide HX]
      exact AnsI.of (R := (rpI m, 0)) (by rw [unhide HRI]; exact unhide HLE) rfl (by rw [unhide HRI, ← unhide HK]; exact (unhide HPT).2.1.base (by omega)) (unhide HPT).2.2

end Go.Proofs.Ytkaiglhljpehpab

/- Contracts of the program's tables: TableOK, tableFault, EncodeTable, splitEntry, EntryOf, ResizeTable. -/
namespace Go.Proofs.Ytkaiglhljpehpab
open Go.RowKit
set_option linter.unusedVariables false
set_option maxRecDepth 100000

set_option maxHeartbeats 800000 in
theorem tableOK_impl (ao : Option Addr) (cap : Nat) (xs : List Int) (w : World) (hl : xs.length ≤ maxLen) (hc : Is w ao xs) :
    Calls Try.prog 71 #[.slice ao xs.length cap] w fun e w' => e = .returned (.bool (tbB xs)) ∧ w' = w := by
  have HC := hide hc
  clear hc
  unfold maxLen at hl
  by_cases hlong : 12 < xs.length
  · have HF := hide (tbB_nolen (xs := xs) (by omega))
    go_enter Try.func71, Try.ntmps71
    go_wp2
    go_ret
    exact ⟨ret_bool (unhide HF).symm, rfl⟩
  go_enter Try.func71, Try.ntmps71
  go_wp2
  go_loop [10] (fun i => ∃ k : Nat, k ≤ xs.length ∧ i = .int .i64 k ∧ Hid (∀ j (h : j < xs.length), j < k → ent1 xs[j] = true)) (fun i => xs.length - (intOf i).toNat)
  case atStart => exact ⟨0, Nat.zero_le _, rfl, hide (fun j _ h => by omega)⟩
  case round =>
    obtain ⟨k, hk, rfl, HA⟩ := hrel
    by_cases hlt : k < xs.length
    · obtain ⟨b, off, rfl, hc⟩ := unhide HC k hlt
      by_cases hn : ent1 xs[k] = true
      · have HN := hide (all_succ hlt (unhide HA) hn)
        have hn' : betw xs[k] 0 25 = true := hn
        clear hn
        go_wp2_with (go_at_call 67; refine (within_any _ _ _ _).mono ?_; rintro e w' ⟨rfl, rfl⟩)
        go_round
        case rel => exact ⟨k + 1, by omega, by go_num, HN⟩
        case measure => simp [intOf]; omega
      · have hn0 : ent1 xs[k] = false := by simpa using hn
        have hn' : betw xs[k] 0 25 = false := hn0
        have HF := hide (tbB_noat hlt hn0)
        clear hn hn0
        go_wp2_with (go_at_call 67; refine (within_any _ _ _ _).mono ?_; rintro e w' ⟨rfl, rfl⟩)
        go_ret
        exact ⟨ret_bool (unhide HF).symm, rfl⟩
    · have HF := hide (tbB_of (xs := xs) (by omega) (fun j h => unhide HA j h (by omega)))
      go_wp2
      go_ret
      exact ⟨ret_bool (unhide HF).symm, rfl⟩

theorem tbF_ne {xs : List Int} (h : tbF xs ≠ 0) : (tbF xs != 0) = true := by simpa using h

theorem splitEntry_any (n : Int) (w : World) (h0 : -1000 ≤ n) (h1 : n ≤ 1000) :
    Calls Try.prog 77 #[.int .i64 n] w fun e w' => e = .returned (.tuple #[.int .i64 (min n 2), .int .i64 (max 0 (n - 2))]) ∧ w' = w := by
  by_cases h : n < 2
  · have HM : Hid (n = min n 2 ∧ (0 : Int) = max 0 (n - 2)) := hide ⟨by omega, by omega⟩
    go_enter Try.func77, Try.ntmps77
    go_wp2
    go_ret2
    exact ⟨ret_two2 (unhide HM).1 (unhide HM).2, rfl⟩
  · have HM : Hid ((2 : Int) = min n 2 ∧ n - 2 = max 0 (n - 2)) := hide ⟨by omega, by omega⟩
    have hw2 : IntKind.i64.wrap (n - 2) = n - 2 := by rw [IntKind.wrap_i64]; omega
    go_enter Try.func77, Try.ntmps77
    go_wp2
    go_ret2
    exact ⟨ret_two2 (unhide HM).1 (unhide HM).2, rfl⟩

end Go.Proofs.Ytkaiglhljpehpab

/- Contracts of impl.clusterOfData, impl.takeEntries at numbers, impl.ClustersOf. -/
namespace Go.Proofs.Ytkaiglhljpehpab
open Go.RowKit
set_option linter.unusedVariables false
set_option maxRecDepth 100000

theorem clusterOfData_any (k c : Int) (w : World) :
    Calls Try.prog 76 #[.int .i64 k, .int .i64 c] w fun e w' => e = .returned (.tuple #[.int .i64 c, .bool (k == 2)]) ∧ w' = w := by
  go_enter Try.func76, Try.ntmps76
  go_wp2
  go_ret2
  exact ⟨rfl, rfl⟩

set_option maxHeartbeats 1600000 in
theorem takeEntries_any (ao : Option Addr) (cap : Nat) (xs : List Int) (w : World) (hl : xs.length ≤ 1048576) (hi : ∀ j (h : j < xs.length), -1000 ≤ xs[j] ∧ xs[j] ≤ 1000) (hc : Is w ao xs) :
    Calls Try.prog 75 #[.slice ao xs.length cap, .func (.func 76) #[] #[]] w fun e w' => ∃ v, e = .returned v ∧ OwnN w' w.heap.size v (clA xs) ∧ Below w.heap.size w w' := by
  obtain ⟨j0, hj, hy0, hy1, hy2⟩ := info_parts infoM
  have HC := hide hc
  have HI := hide hi
  clear hc hi
  go_enter Try.func75, Try.ntmps75
  go_wp2
  go_loopw [5, 12] (fun o i wr => ∃ (k : Nat) (ys : List Int) (qo : Option Addr) (qa : Nat), k ≤ xs.length ∧ i = .int .i64 k ∧ o = .slice qo ys.length qa ∧ Hid (ys = clTo xs k) ∧ Hid (OwnR wr w.heap.size 3 1 (.slice qo ys.length qa) ys.length (intV ys)) ∧ Hid (Below w.heap.size w wr)) (fun _ i _ => xs.length - (intOf i).toNat)
  case atStart => exact ⟨0, [], _, _, Nat.zero_le _, rfl, rfl, hide rfl, hide (.inl ⟨rfl, rfl, _, rfl⟩), hide (Below.refl _ _)⟩
  case round =>
    obtain ⟨k, ys, qo, qa, hk, rfl, rfl, HE, HO, HB⟩ := hrel
    by_cases hlt : k < xs.length
    · obtain ⟨b, off, rfl, hcl⟩ := (unhide HC).below (unhide HB) k hlt
      have HIK := hide (unhide HI k hlt)
      by_cases h2 : 2 ≤ xs[k]
      · have HS := hide (clTo_data hlt h2)
        have HYL : Hid (ys.length ≤ 1048576) := hide (by rw [unhide HE]; have := clTo_len xs k; omega)
        have hyl := unhide HYL
        have HV : Hid (min xs[k] 2 = 2 ∧ max 0 (xs[k] - 2) = xs[k] - 2) := hide ⟨by omega, by omega⟩
        have HOA := hide ((unhide HO).below (Joins.below_alloc1 _ (.cells #[.int .i64 (xs[k] - 2)] 3)))
        have HBA := hide (fr (unhide HB) (Joins.below_alloc1 _ (.cells #[.int .i64 (xs[k] - 2)] 3)))
        have HSZ := hide (unhide HB).size
        clear h2
        go_wp2_with (first | (go_at_call 77; refine (splitEntry_any _ _ (by have := unhide HIK; omega) (by have := unhide HIK; omega)).mono ?_; rintro e w' ⟨rfl, hw⟩; replace hw := hw.symm; subst hw; rw [(unhide HV).1, (unhide HV).2]) | (go_at_call 76; refine (clusterOfData_any _ _ _).mono ?_; rintro e w' ⟨rfl, hw⟩; replace hw := hw.symm; subst hw) | (at_builtin; refine wpList_append_one rfl _ _ 22 rfl w.heap.size 3 j0 (.int .i64 0) 1 8 Try.underlying22 hj hy0 hy1 hy2 rfl (by omega) qo ys.length qa (intV ys) rfl (unhide HOA) (by have := unhide HSZ; simp; omega) ⟨wr.heap.size, 0, none⟩ _ [.int .i64 (xs[k] - 2)] rfl rfl (byte_news wr _ _) (int_one _) (by unfold maxLen; omega) (by omega) ?_; intro g2 cap2 wA hoA hkA; have HSF := hide (And.intro hoA (keep_below (unhide HBA) (unhide HOA) (Nat.le_refl _) hkA)); clear hoA hkA))
        go_roundw
        case rel => exact ⟨k + 1, ys ++ [xs[k] - 2], some ⟨g2, 0, none⟩, cap2, by omega, by go_num, by simp, hide (by rw [unhide HS, unhide HE]), hide (by rw [List.length_append, intV_snoc]; exact .inr ⟨by simp, (unhide HSF).1⟩), hide (unhide HSF).2⟩
        case measure => simp [intOf]; omega
      · have HS := hide (clTo_none hlt h2)
        have HV : Hid (min xs[k] 2 = xs[k] ∧ max 0 (xs[k] - 2) = 0) := hide ⟨by omega, by omega⟩
        have hb2 : (xs[k] == 2) = false := beq_eq_false_iff_ne.2 (by omega)
        clear h2
        go_wp2_with (first | (go_at_call 77; refine (splitEntry_any _ _ (by have := unhide HIK; omega) (by have := unhide HIK; omega)).mono ?_; rintro e w' ⟨rfl, hw⟩; replace hw := hw.symm; subst hw; rw [(unhide HV).1, (unhide HV).2]) | (go_at_call 76; refine (clusterOfData_any _ _ _).mono ?_; rintro e w' ⟨rfl, hw⟩; replace hw := hw.symm; subst hw; rw [hb2]))
        go_roundw
        case rel => exact ⟨k + 1, ys, qo, qa, by omega, by go_num, rfl, hide (by rw [unhide HS, unhide HE]), HO, HB⟩
        case measure => simp [intOf]; omega
    · have HS : Hid (clA xs = ys) := hide (by rw [unhide HE, clA, show k = xs.length by omega])
      go_wp2
      go_ret
      exact ⟨.slice qo ys.length qa, rfl, by rw [unhide HS]; exact ⟨qo, qa, rfl, unhide HO⟩, unhide HB⟩

end Go.Proofs.Ytkaiglhljpehpab

/- Maps from clusters to counts. -/
namespace Go.Proofs.Ytkaiglhljpehpab
open Go.RowKit Go.Maps
set_option linter.unusedVariables false
set_option maxRecDepth 100000

theorem lawI : Keyed Try.prog 3 := int_keyed Try.underlying3
theorem zeroI (w : World) : (zeroValue 3).run Try.prog w = .ok (.int .i64 0) w := by kernel_rfl
theorem wfI {n : Int} (h0 : -1000000 ≤ n) (h1 : n ≤ 1000000) : (Lit.int .i64 n).wf = true := WalkArith.wf_i64 (by omega)
theorem keyI {i : Nat} (h : i < 24) : keyOf Try.prog 3 (.int .i64 (i : Int)) = some (.int .i64 (i : Int)) := keyOf_int_mk Try.underlying3 (wfI (by omega) (by omega))
/-- The map in block B has at most n entries, all of clusters, and says these counts. -/
def MpC (w : World) (B n : Nat) (D : DataW Unit) (ns : List Int) : Prop := w.ownsMap Try.prog 3 (plainElem Try.prog 3) B n D ∧ ns.length = 24 ∧ (∀ i : Nat, i < 24 → D.atKey (.int .i64 (i : Int)) (.lit (.int .i64 0)) = .lit (.int .i64 (ns.getD i 0))) ∧ (∀ kl, has D kl = true → ∃ i : Nat, i < 24 ∧ kl = .int .i64 (i : Int))
theorem MpC.made (w : World) : MpC (w.alloc (.map #[] 0)) w.heap.size 0 (.map []) zero24 := ⟨World.ownsMap_made _ _ _ _, rfl, fun i hi => by
    have e : zero24.getD i 0 = 0 := by
      have h2 : ∀ i : Fin 24, zero24.getD i 0 = 0 := by decide
      exact h2 ⟨i, hi⟩
    rw [e]; rfl, fun kl h => by cases h⟩
theorem MpC.lt {w : World} {B n : Nat} {D : DataW Unit} {ns : List Int} (h : MpC w B n D ns) : B < w.heap.size := h.1.lt
theorem grown_of_keep {S : Nat → Prop} {w w' : World} {B : Nat} (h : Keep S w w') (hs : ¬ S B) (hB : B < w.heap.size) : w'.heap[B]? = w.heap[B]? := h.block B hB hs
theorem MpC.keep {S : Nat → Prop} {w w' : World} {B n : Nat} {D : DataW Unit} {ns : List Int} (h : MpC w B n D ns) (hk : Keep S w w') (hs : ¬ S B) : MpC w' B n D ns := by
  have hl := h.lt
  obtain ⟨⟨es, clock, hb, F, hn, hD⟩, h2⟩ := h
  exact ⟨⟨es, clock, (hk.block B hl hs).trans hb, F, hn, hD⟩, h2⟩
theorem MpC.below {w w' : World} {B n : Nat} {D : DataW Unit} {ns : List Int} (h : MpC w B n D ns) (hb : Below w.heap.size w w') : MpC w' B n D ns := h.keep (S := fun _ => False) (Keep.of_below hb) (fun h => h)
theorem MpC.mono {w : World} {B n n' : Nat} {D : DataW Unit} {ns : List Int} (h : MpC w B n D ns) (hn : n ≤ n') : MpC w B n' D ns := ⟨h.1.mono hn, h.2⟩
theorem keep_map {w w' : World} {B : Nat} (h : w.grownBy w' (some B)) : Keep (fun g => g = B) w w' := ⟨h.os, h.tape, h.output, h.size, fun k hk hs => h.block k hk (fun e => hs (Option.some.inj e))⟩
/-- One cluster's count is set. -/
theorem MpC.put {w w' : World} {B n i : Nat} {D : DataW Unit} {ns : List Int} {c : Int} (h : MpC w B n D ns) (hi : i < 24) (ho : w'.ownsMap Try.prog 3 (plainElem Try.prog 3) B (n + 1) (D.put (.int .i64 (i : Int)) (.lit (.int .i64 c)))) : MpC w' B (n + 1) (D.put (.int .i64 (i : Int)) (.lit (.int .i64 c))) (ns.set i c) := by
  have hM : IsMap D := by obtain ⟨es, e, _⟩ := h.1.entries lawI; exact ⟨es, e⟩
  refine ⟨ho, by rw [List.length_set]; exact h.2.1, fun j hj => ?_, fun kl hk => ?_⟩
  · by_cases e : j = i
    · subst e
      rw [atKey_put_same (k := .int .i64 (j : Int)) hM trivial]
      simp [List.getD, h.2.1, hi]
    · rw [atKey_put_other (by intro h2; simp only [Lit.int.injEq, true_and] at h2; omega), h.2.2.1 j hj]
      simp [List.getD, Ne.symm e]
  · by_cases e : kl = .int .i64 (i : Int)
    · exact ⟨i, hi, e⟩
    · rw [has_put_other e] at hk
      exact h.2.2.2 kl hk
/-- What is looked up. -/
theorem MpC.look {w : World} {B n i : Nat} {D : DataW Unit} {ns : List Int} (h : MpC w B n D ns) (hi : i < 24) : (Instr.lookup 97 (.map (some B)) (.int .i64 (i : Int)) false).run Try.prog w = .ok (.int .i64 (ns.getD i 0)) w := by
  obtain ⟨c, hrun, hat, hwf⟩ := h.1.lookup_int lawI Try.underlying97 Try.underlying3 (zeroI _) (keyI hi)
  rw [h.2.2.1 i hi] at hat
  simp only [DataW.lit.injEq, Lit.int.injEq, true_and] at hat
  rw [hat]
  exact hrun
theorem fit_none : ∀ {clock : Nat}, Go.WideElems.Fit (H := Unit) Try.prog 3 (plainElem Try.prog 3) #[] clock := fun {clock} => ⟨by simp, MapKept.stamped_empty clock, by simp⟩
/-- clear. -/
theorem MpC.clear {w : World} {B n : Nat} {D : DataW Unit} {ns : List Int} (h : MpC w B n D ns) (ty : TypeId) : ∃ w', (Builtin.clear_ #[97] ty #[.map (some B)]).run Try.prog w = .ok (.tuple #[]) w' ∧ MpC w' B 0 (.map []) zero24 ∧ Keep (fun g => g = B) w w' := by
  obtain ⟨⟨es, clock, hb, F, hn, hD⟩, h2⟩ := h
  refine ⟨ChangeMaps.setBlock w B (.map #[] clock), ?_, ⟨⟨#[], clock, ChangeMaps.heap_setBlock_same hb _, fit_none, Nat.le_refl _, rfl⟩, (MpC.made w).2⟩, ⟨rfl, rfl, rfl, by simp [ChangeMaps.setBlock], fun k _ hk => ChangeMaps.heap_setBlock_other hb _ hk⟩⟩
  simp [Builtin.clear_, run_underlying Try.underlying97, MapKept.run_getObj_map hb, MapKept.run_setObj_map _ hb, Result.andThen, ChangeMaps.setBlock]
theorem wpList_clear {w : World} {ops : Array Oper} {rest : List Oper} {o : Oper} {a : Act} {Q : Exit → Act → World → Prop} (hg : o.guard = none) (m : Operand) (hop : o.op = Op.call { callee := Callee.builtin Builtin.clear, args := #[m], argTypes := #[97] })
    {B n : Nat} {D : DataW Unit} {ns : List Int} (hm : a.eval m = .map (some B)) (h : MpC w B n D ns) (hK : ∀ w', MpC w' B 0 (.map []) zero24 → Keep (fun g => g = B) w w' → wpList Try.prog ops Q rest (a.put o.dst (.tuple #[])) w') : wpList Try.prog ops Q (o :: rest) a w := by
  refine wpList_plain hg fun K' hK' => ?_
  obtain ⟨w', hrun, r1, r2⟩ := h.clear o.type
  unfold Oper.wp
  simp [execOp, hop, resolve, invoke, builtin, hm, hrun, Result.andThen]
  exact hK' _ _ (hK w' r1 r2)
theorem wpList_count {w : World} {ops : Array Oper} {rest : List Oper} {o : Oper} {a : Act} {Q : Exit → Act → World → Prop} (hg : o.guard = none) (m x v : Operand) (hop : o.op = Op.mapUpdate 97 m x v)
    {B n i : Nat} {D : DataW Unit} {ns : List Int} {c : Int} (hm : a.eval m = .map (some B)) (h : MpC w B n D ns) (hn : n < 1000000) (hx : a.eval x = .int .i64 (i : Int)) (hi : i < 24) (hv : a.eval v = .int .i64 c) (hc : -1000000 ≤ c ∧ c ≤ 1000000)
    (hK : ∀ w' D', MpC w' B (n + 1) D' (ns.set i c) → Keep (fun g => g = B) w w' → wpList Try.prog ops Q rest (a.put o.dst undef) w') : wpList Try.prog ops Q (o :: rest) a w :=
  wpList_mapUpdate_own w hg m x v 97 hop 3 3 lawI Try.underlying97 _ B n D hm h.1 (by unfold maxLen; omega) _ _ _ hx hv (keyI hi) _ [] (plainElem_int Try.underlying3 (wfI hc.1 hc.2)) (fun w' ho hg' => hK w' _ (h.put hi ho) (keep_map hg'))

/-- How often a table has a cluster. -/
theorem incr_get (ns : List Int) (hl : ns.length = 24) (c i : Nat) (hc : c < 24) (hi : i < 24) : (incr ns (c : Int)).getD i 0 = ns.getD i 0 + (if i = c then 1 else 0) := by
  rw [incr_set]
  simp only [List.getD, List.getElem?_set]
  by_cases e : i = c
  · subst e; simp [hl, hi]
  · simp [e, Ne.symm e]
theorem fold_incr_get (i : Nat) (hi : i < 24) : ∀ (L : List Int), (∀ c ∈ L, 0 ≤ c ∧ c ≤ 23) → ∀ ns : List Int, ns.length = 24 → (L.foldl incr ns).getD i 0 = ns.getD i 0 + (L.count (i : Int) : Int) := by
  intro L
  induction L with
  | nil => intro _ ns _; simp
  | cons c L ih =>
    intro hL ns hl
    obtain ⟨c0, c1⟩ := hL c (by simp)
    obtain ⟨q, rfl⟩ := Int.eq_ofNat_of_zero_le c0
    rw [List.foldl_cons, ih (fun d hd => hL d (by simp [hd])) _ (by rw [incr_len]; exact hl), incr_get ns hl q i (by omega) hi, List.count_cons]
    by_cases e : i = q
    · subst e; simp; omega
    · have e2 : ¬ ((q : Int) = (i : Int)) := by omega
      simp [e, e2]
theorem nodup_count : ∀ (L : List Int), L.Nodup ↔ ∀ x ∈ L, L.count x ≤ 1 := by
  intro L
  induction L with
  | nil => simp
  | cons c L ih =>
    rw [List.nodup_cons, ih]
    constructor
    · rintro ⟨h1, h2⟩ x hx
      rw [List.count_cons]
      by_cases e : c = x
      · subst e
        rw [List.count_eq_zero_of_not_mem h1]; simp
      · have : x ∈ L := by simpa [Ne.symm e] using hx
        have := h2 x this
        simp [e]; omega
    · intro h
      refine ⟨fun hm => ?_, fun x hx => ?_⟩
      · have h1 := h c (by simp)
        rw [List.count_cons] at h1
        have := List.count_pos_iff.2 hm
        simp at h1; omega
      · have h1 := h x (by simp [hx])
        rw [List.count_cons] at h1
        omega
theorem cl_mem {t : List Int} (h : tbB t = true) : ∀ c ∈ clA t, 0 ≤ c ∧ c ≤ 23 := fun c hc => by
  obtain ⟨j, hj, rfl⟩ := List.mem_iff_getElem.1 hc
  exact clA_in h j hj
theorem cnt1T_get {t : List Int} (h : tbB t = true) {ns : List Int} (hl : ns.length = 24) {i : Nat} (hi : i < 24) : (cnt1T ns t).getD i 0 = ns.getD i 0 + ((clA t).count (i : Int) : Int) := fold_incr_get i hi _ (cl_mem h) ns hl
theorem zero24_get {i : Nat} (hi : i < 24) : zero24.getD i 0 = 0 := by
  have h2 : ∀ i : Fin 24, zero24.getD i 0 = 0 := by decide
  exact h2 ⟨i, hi⟩
/-- A table has no cluster twice, told by counts. -/
theorem once_yes {t : List Int} (h : tbB t = true) (hc : ∀ i, i < 24 → (cnt1T zero24 t).getD i 0 ≤ 1) : onceB t = true := by
  refine decide_eq_true ((nodup_count _).2 fun x hx => ?_)
  obtain ⟨c0, c1⟩ := cl_mem h x hx
  obtain ⟨q, rfl⟩ := Int.eq_ofNat_of_zero_le c0
  have := hc q (by omega)
  rw [cnt1T_get h rfl (by omega), zero24_get (by omega)] at this
  omega
theorem once_no {t : List Int} (h : tbB t = true) {i : Nat} (hi : i < 24) (hc : 1 < (cnt1T zero24 t).getD i 0) : onceB t = false := by
  refine decide_eq_false fun hn => ?_
  rw [cnt1T_get h rfl hi, zero24_get hi] at hc
  have hm : (i : Int) ∈ clA t := List.count_pos_iff.1 (by omega)
  have := (nodup_count _).1 hn _ hm
  omega

end Go.Proofs.Ytkaiglhljpehpab
