import Derived.Test.YtkaiglhljpehpabRows
import Derived.Test.YtkaiglhljpehpabPart1
import Derived.Test.YtkaiglhljpehpabPart3
import Derived.Test.YtkaiglhljpehpabPart2
import Derived.Test.YtkaiglhljpehpabPart5
import Derived.Test.YtkaiglhljpehpabPart8
import Derived.Test.YtkaiglhljpehpabPart12
import Derived.Test.YtkaiglhljpehpabPart16
import Derived.WalkKit
import Derived.WalkSpells
import Derived.KernelRfl
import Derived.LoopN
import Derived.BigQuiet
import Derived.Deep.QuietTactic
import Derived.Deep.RegionWith
import Derived.Test.YtkaiglhljpehpabPart11
import Derived.Test.YtkaiglhljpehpabPart13

/- Contracts of the program's clustersCounted, WrongRefs, Leaks. -/
namespace Go.Proofs.Ytkaiglhljpehpab
open Go.RowKit
set_option linter.unusedVariables false
set_option maxRecDepth 100000

set_option maxHeartbeats 3200000 in
theorem clustersCounted_any (F : Nat) (p : Int → Int → Bool) (a : Im4) (m : Img) (w : World) (hL : ImL m) (hc : ImS w a m)
    (hcf : ∀ (args : Array Value) (W : World), (callFunc F args).run Try.prog W = .ok (.enter F args) W)
    (hf : ∀ (t f : Int) (W : World), Calls Try.prog F #[.int .i64 t, .int .i64 f] W fun e w' => e = .returned (.bool (p t f)) ∧ w' = W) :
    Calls Try.prog 40 #[imV a m, .func (.func F) #[] #[]] w fun e w' => AnsN w w' e (wlA p m) := by
  obtain ⟨j0, hj, hy0, hy1, hy2⟩ := info_parts infoM
  have HA := hide (Joins.below_alloc1 w (.cells #[.slice a.ro m.refs.length a.rc, .slice a.tq m.table.length a.tc, .slice a.so m.snaps.length a.sc, .slice a.dq m.data.length a.dc] 31))
  have HV := hide (VarM.new w 31 (.slice a.ro m.refs.length a.rc) (.slice a.tq m.table.length a.tc) (.slice a.so m.snaps.length a.sc) (.slice a.dq m.data.length a.dc))
  have HC := hide (hc.below (unhide HA))
  have HL := hide hL
  have HF := hide hf
  clear hc hL hf
  go_enter Try.func40, Try.ntmps40
  go_upto_region 1 with fail
  revert HA HV HC
  generalize (w.alloc _) = W0
  intro HA HV HC
  obtain ⟨c0, c1, c2, c3⟩ := (unhide HV).cells
  go_wp2_with fail
  refine (countRefs_impl a m _ (unhide HL) (unhide HC)).mono ?_
  obtain ⟨R, HR⟩ : ∃ R, Hid (R = crA m) := ⟨_, hide rfl⟩
  rw [← unhide HR]
  rintro e w1 ⟨qo, qa, rfl, ho, hb⟩
  have HO1 := hide (ho.base (unhide HA).size)
  have HB1 := hide (fr (unhide HA) hb)
  have HC1 := hide ((unhide HC).below hb)
  have HV1 := hide ((unhide HV).below hb)
  clear ho hb c0 c1 c2 c3 HA HV HC
  cases hk : ckB m
  · have HE : Hid (wlA p m = ([], 1)) := hide (by simp [wlA, hk])
    have hR1 : R.2 = 1 := by rw [unhide HR]; simp [crA, hk]
    have b1 : (R.2 != 0) = true := by rw [hR1]; rfl
    have HR1 := hide hR1
    clear hk hR1
    go_wp2
    go_ret2
    exact ⟨none, 0, ret_sn (by rw [unhide HE]; rfl) (by rw [unhide HE, unhide HR1]), by rw [unhide HE]; exact .inl ⟨rfl, rfl, _, rfl⟩, unhide HB1⟩
  have HE : Hid (wlA p m = (ckL p m.refs (imCnt m) 24, 0)) := hide (by simp [wlA, hk])
  have hR : R = (imCnt m, 0) := by rw [unhide HR]; simp [crA, hk]
  have HP := hide (fm_parts (ck_parts hk).1)
  subst hR
  clear hk HR
  have HI1 := hide (ownRN (unhide HO1))
  have HLN := hide (imCnt_len m)
  have HR24 := hide (ctB_len (unhide HP).1)
  clear HO1
  generalize imCnt m = L at *
  have hll : (L.length : Int) = 24 := by rw [unhide HLN]; rfl
  have HLL := hide hll
  clear hll
  go_wp2
  go_loopw [8, 21] (fun o i wr => ∃ (k : Nat) (ys : List Int) (qo : Option Addr) (qa : Nat), k ≤ L.length ∧ i = .int .i64 k ∧ o = .slice qo ys.length qa ∧ Hid (ys = ckL p m.refs L k) ∧ Hid (OwnR wr w1.heap.size 3 1 (.slice qo ys.length qa) ys.length (intV ys)) ∧ Hid (Below w1.heap.size w1 wr)) (fun _ i _ => L.length - (intOf i).toNat)
  case atStart => exact ⟨0, [], _, _, Nat.zero_le _, rfl, rfl, hide rfl, hide (.inl ⟨rfl, rfl, _, rfl⟩), hide (Below.refl _ _)⟩
  case round =>
    obtain ⟨k, ys, qo2, qa2, hk, rfl, rfl, HY, HO, HB⟩ := hrel
    by_cases hlt : k < L.length
    · have hlti : (k : Int) < (L.length : Int) := by omega
      have hk24 : k < 24 := by have := unhide HLN; omega
      have kr : k < m.refs.length := by rw [unhide HR24]; exact hk24
      have kri : (k : Int) < (m.refs.length : Int) := by omega
      obtain ⟨c0, c1, c2, c3⟩ := ((unhide HV1).below (unhide HB)).cells
      obtain ⟨b1, o1, e1, hx1⟩ := ((unhide HI1).below (unhide HB)) k hlt
      obtain ⟨b2, o2, e2, hx2⟩ := ((unhide HC1).r.below (unhide HB)) k kr
      subst e1
      rw [e2] at c0
      clear e2 c1 c2 c3
      have HYS := hide (ckL_yes (p := p) kr hlt)
      have HNS := hide (ckL_no (p := p) kr hlt)
      have HYL : Hid (ys.length ≤ 24) := hide (by rw [unhide HY]; have := ckL_len p m.refs L k; omega)
      generalize L[k] = X at *
      generalize m.refs[k] = R at *
      cases hp : p R X
      · have HS := hide (unhide HNS hp)
        have HP1 := hide hp
        clear hp
        go_wp2_with fail
        refine (unhide HF R X _).mono ?_
        rintro e w' ⟨rfl, hw⟩
        replace hw := hw.symm
        subst hw
        rw [unhide HP1]
        go_wp2
        go_roundw
        case rel => exact ⟨k + 1, ys, qo2, qa2, by omega, by go_num, rfl, hide (by rw [unhide HS, unhide HY]), HO, HB⟩
        case measure => simp [intOf]; omega
      · have HS := hide (unhide HYS hp)
        have HP1 := hide hp
        clear hp
        have HOA := hide ((unhide HO).below (Joins.below_alloc1 wr (.cells #[.int .i64 (k : Int)] 3)))
        have HBA := hide (fr (unhide HB) (Joins.below_alloc1 wr (.cells #[.int .i64 (k : Int)] 3)))
        have HSZ := hide (unhide HB).size
        go_wp2_with fail
        refine (unhide HF R X _).mono ?_
        rintro e w' ⟨rfl, hw⟩
        replace hw := hw.symm
        subst hw
        rw [unhide HP1]
        go_wp2_with (at_builtin; refine wpList_append_one rfl _ _ 22 rfl w1.heap.size 3 j0 (.int .i64 0) 1 8 Try.underlying22 hj hy0 hy1 hy2 rfl (by omega) qo2 ys.length qa2 _ rfl (unhide HOA) (by have := unhide HSZ; simp; omega) ⟨wr.heap.size, 0, none⟩ _ [.int .i64 (k : Int)] rfl rfl (byte_news wr _ _) (int_one _) (by have := unhide HYL; unfold maxLen; omega) (by have := unhide HYL; omega) ?_; intro g2 cap2 wA hoA hkA; have HSF := hide (And.intro hoA (keep_below (unhide HBA) (unhide HOA) (Nat.le_refl _) hkA)); clear hoA hkA)
        go_roundw
        case rel => exact ⟨k + 1, ys ++ [(k : Int)], some ⟨g2, 0, none⟩, cap2, by omega, by go_num, by simp, hide (by rw [unhide HS, unhide HY]), hide (by rw [List.length_append, intV_snoc]; exact .inr ⟨by simp, (unhide HSF).1⟩), hide (unhide HSF).2⟩
        case measure => simp [intOf]; omega
    · have HS : Hid (ckL p m.refs L 24 = ys) := hide (by rw [unhide HY]; have := unhide HLN; rw [show k = 24 by omega])
      go_wp2
      go_ret2
      exact ⟨qo2, qa2, ret_sn (by rw [unhide HE, unhide HS]) (by rw [unhide HE]), by rw [unhide HE, unhide HS]; exact (unhide HO).base (unhide HB1).size, fr (unhide HB1) (unhide HB)⟩

theorem wrongAt_any (t f : Int) (w : World) : Calls Try.prog 41 #[.int .i64 t, .int .i64 f] w fun e w' => e = .returned (.bool (neP t f)) ∧ w' = w := by
  go_enter Try.func41, Try.ntmps41
  go_wp2
  go_ret
  exact ⟨rfl, rfl⟩
theorem leaksAt_any (t f : Int) (w : World) : Calls Try.prog 42 #[.int .i64 t, .int .i64 f] w fun e w' => e = .returned (.bool (gtP t f)) ∧ w' = w := by
  go_enter Try.func42, Try.ntmps42
  go_wp2
  go_ret
  exact ⟨rfl, rfl⟩

set_option maxHeartbeats 1600000 in
theorem wrongRefs_impl (a : Im4) (m : Img) (w : World) (hL : ImL m) (hc : ImS w a m) :
    Calls Try.prog 18 #[imV a m] w fun e w' => AnsN w w' e (wlA neP m) := by
  have HA := hide (Joins.below_alloc1 w (.cells #[.slice a.ro m.refs.length a.rc, .slice a.tq m.table.length a.tc, .slice a.so m.snaps.length a.sc, .slice a.dq m.data.length a.dc] 31))
  have HV := hide (VarM.new w 31 (.slice a.ro m.refs.length a.rc) (.slice a.tq m.table.length a.tc) (.slice a.so m.snaps.length a.sc) (.slice a.dq m.data.length a.dc))
  have HC := hide (hc.below (unhide HA))
  have HL := hide hL
  obtain ⟨R, HR⟩ : ∃ R, Hid (R = wlA neP m) := ⟨_, hide rfl⟩
  rw [← unhide HR]
  clear hc hL
  go_enter Try.func18, Try.ntmps18
  go_upto_region 1 with fail
  revert HA HV HC
  generalize (w.alloc _) = W0
  intro HA HV HC
  obtain ⟨c0, c1, c2, c3⟩ := (unhide HV).cells
  go_wp2_with fail
  refine (clustersCounted_any 41 neP a m _ (unhide HL) (unhide HC) (fun _ _ => rfl) wrongAt_any).mono ?_
  rw [← unhide HR]
  rintro e w1 ⟨qo, qa, rfl, ho, hb⟩
  have HO1 := hide (ho.base (unhide HA).size)
  have HB1 := hide (fr (unhide HA) hb)
  clear ho hb c0 c1 c2 c3
  go_wp2
  go_ret2
  exact ⟨qo, qa, rfl, unhide HO1, unhide HB1⟩

set_option maxHeartbeats 1600000 in
theorem leaks_impl (a : Im4) (m : Img) (w : World) (hL : ImL m) (hc : ImS w a m) :
    Calls Try.prog 20 #[imV a m] w fun e w' => AnsN w w' e (wlA gtP m) := by
  have HA := hide (Joins.below_alloc1 w (.cells #[.slice a.ro m.refs.length a.rc, .slice a.tq m.table.length a.tc, .slice a.so m.snaps.length a.sc, .slice a.dq m.data.length a.dc] 31))
  have HV := hide (VarM.new w 31 (.slice a.ro m.refs.length a.rc) (.slice a.tq m.table.length a.tc) (.slice a.so m.snaps.length a.sc) (.slice a.dq m.data.length a.dc))
  have HC := hide (hc.below (unhide HA))
  have HL := hide hL
  obtain ⟨R, HR⟩ : ∃ R, Hid (R = wlA gtP m) := ⟨_, hide rfl⟩
  rw [← unhide HR]
  clear hc hL
  go_enter Try.func20, Try.ntmps20
  go_upto_region 1 with fail
  revert HA HV HC
  generalize (w.alloc _) = W0
  intro HA HV HC
  obtain ⟨c0, c1, c2, c3⟩ := (unhide HV).cells
  go_wp2_with fail
  refine (clustersCounted_any 42 gtP a m _ (unhide HL) (unhide HC) (fun _ _ => rfl) leaksAt_any).mono ?_
  rw [← unhide HR]
  rintro e w1 ⟨qo, qa, rfl, ho, hb⟩
  have HO1 := hide (ho.base (unhide HA).size)
  have HB1 := hide (fr (unhide HA) hb)
  clear ho hb c0 c1 c2 c3
  go_wp2
  go_ret2
  exact ⟨qo, qa, rfl, unhide HO1, unhide HB1⟩

end Go.Proofs.Ytkaiglhljpehpab

/- The walk of laws.FnExactLeaks. -/
namespace Go.Proofs.Ytkaiglhljpehpab
open Go.RowKit
set_option linter.unusedVariables false
set_option maxRecDepth 100000

theorem wkLeaks (a : Im4) (m : Img) (w : World) (hl : m.refs.length ≤ maxLen ∧ m.table.length ≤ maxLen ∧ m.snaps.length ≤ maxLen ∧ m.data.length ≤ maxLen) (hc : ImS w a m) :
    Calls Try.prog 5 #[imV a m] w fun e w' => e = .returned (.bool true) ∧ Below w.heap.size w w' :=
  have hL : ImL m := ⟨hl.1, hl.2.1, hl.2.2.1, hl.2.2.2⟩
  lawImLeaks a m (wlA gtP m) w hL hc (fun s hs => by obtain ⟨j, hj, rfl⟩ := List.mem_iff_getElem.1 hs; obtain ⟨_, _, _, _, _, _, _, _, h1, h2⟩ := hc.s j hj; exact ⟨h1, h2⟩) (wlA_len gtP m) (fun b W h => leaks_spec b m W hL h) (fun b W h => leaks_impl b m W hL h)

end Go.Proofs.Ytkaiglhljpehpab
