import Derived.Test.YtefnapcegeojoaaDoorRows
import Derived.Test.YtefnapcegeojoaaDoorLReplayPart1
import Derived.Test.YtefnapcegeojoaaDoorLReplayPart2
import Derived.Test.YtefnapcegeojoaaDoorLReplayPart4
import Derived.Test.YtefnapcegeojoaaDoorLReplayPart3
import Derived.WalkKit
import Derived.WalkSpells
import Derived.KernelRfl
import Derived.LoopN
import Derived.Lib.SmallJoins
import Derived.Laws.BytesArg
import Derived.Laws.CopyRow
import Derived.Laws.CopyOwn
import Derived.Deep.RegionLaw
import Derived.Deep.AppendLies
import Derived.Deep.RegionWith
import Derived.Defers
import Derived.Deep.RegionHeld3
import Derived.Deep.RegionLawGrows

namespace Go.Proofs.YtefnapcegeojoaaDoor
open Go.RowKit
set_option linter.unusedVariables false
set_option maxRecDepth 100000

theorem md_end {w W : World} {R n m pa qa : Nat} {po qo : Option Addr} {SS : List ByteArray} {XX : List Wr} (hR : VarD W R (.slice none 0 0) (.slice none 0 0)) (hb : Below w.heap.size w W) (hr : w.heap.size ≤ R) (ho : OwnD W w.heap.size po n pa qo m qa SS XX) (u v : Value) :
    OwnD ((W.setCell ⟨R, 0, none⟩ u).setCell ⟨R, 1, none⟩ v) w.heap.size po n pa qo m qa SS XX ∧ Below w.heap.size w ((W.setCell ⟨R, 0, none⟩ u).setCell ⟨R, 1, none⟩ v) :=
  ⟨ho.keep (((Keep.refl (fun j => j = R) W).setCell (p := ⟨R, 0, none⟩) rfl u).setCell (p := ⟨R, 1, none⟩) rfl v) (fun g hg e => ho.other hR (by decide) (by decide) (e ▸ hg)), below2 hb hr 0 1 u v⟩

end Go.Proofs.YtefnapcegeojoaaDoor

namespace Go.Proofs.YtefnapcegeojoaaDoor
open Go.RowKit
set_option linter.unusedVariables false
set_option maxRecDepth 100000

set_option maxHeartbeats 1600000 in
theorem moveOK_any (m : Wr) (w : World) (hz : m.data.size ≤ maxLen) : Calls Tryd.prog 40 #[wV m] w fun e w' => e = .returned (.bool (mvB m)) ∧ Below w.heap.size w w' := by
  unfold maxLen at hz
  obtain ⟨k, a, d⟩ := m
  by_cases h1 : k = 1
  · subst h1
    have HE : Hid (mvB ⟨1, a, d⟩ = (inB a 0 63 && decide ((d.size : Int) ≤ 80))) := hide (by
      have e : decide (d.size ≤ 80) = decide ((d.size : Int) ≤ 80) := by rw [decide_eq_decide]; omega
      simp only [mvB, if_true]; rw [e])
    go_enter Tryd.func40, Tryd.ntmps40
    go_wp2_with fail
    refine (placeOK_any a _).mono ?_
    rintro e w1 ⟨rfl, rfl⟩
    by_cases h2 : inB a 0 63 = false
    · go_wp2
      go_ret
      rw [unhide HE, h2]
      exact ⟨rfl, Joins.below_alloc1 _ _⟩
    rw [Bool.not_eq_false] at h2
    go_wp2
    go_ret
    rw [unhide HE, h2]
    exact ⟨rfl, Joins.below_alloc1 _ _⟩
  · have h1b : (k == 1) = false := by simp [h1]
    by_cases h2 : k = 2
    · subst h2
      have HE : Hid (mvB ⟨2, a, d⟩ = (decide (a = 0) && decide (d.size = 0))) := hide (by simp [mvB])
      by_cases h3 : a = 0
      · subst h3
        by_cases h4 : d.size = 0
        · obtain rfl := bytes0 h4
          clear h4
          go_enter Tryd.func40, Tryd.ntmps40
          go_wp2
          go_ret
          rw [unhide HE]
          exact ⟨rfl, Joins.below_alloc1 _ _⟩
        · have h4b := text_full h4
          have HE2 : Hid (mvB ⟨2, 0, d⟩ = false) := hide (by rw [unhide HE, decide_eq_false h4]; simp)
          clear h4 HE
          go_enter Tryd.func40, Tryd.ntmps40
          go_wp2
          go_ret
          rw [unhide HE2]
          exact ⟨rfl, Joins.below_alloc1 _ _⟩
      · have h3b : (a == 0) = false := by simp [h3]
        have HE2 : Hid (mvB ⟨2, a, d⟩ = false) := hide (by rw [unhide HE, decide_eq_false h3]; simp)
        clear h3
        go_enter Tryd.func40, Tryd.ntmps40
        go_wp2
        all_goals
          go_ret
          rw [unhide HE2]
          exact ⟨rfl, Joins.below_alloc1 _ _⟩
    · have h2b : (k == 2) = false := by simp [h2]
      have HE : Hid (mvB ⟨k, a, d⟩ = false) := hide (by simp [mvB, h1, h2])
      clear h1 h2
      go_enter Tryd.func40, Tryd.ntmps40
      go_wp2
      all_goals
        go_ret
        rw [unhide HE]
        exact ⟨rfl, Joins.below_alloc1 _ _⟩

set_option maxHeartbeats 1600000 in
theorem movesOK_any (mo : Option Addr) (mc : Nat) (ms : List Wr) (w : World) (hn : ms.length ≤ 4096) (h3 : Ios w mo ms) : Calls Tryd.prog 21 #[.slice mo ms.length mc] w fun e w' => e = .returned (.bool (msB ms)) ∧ Below w.heap.size w w' := by
  have HM := hide h3
  clear h3
  go_enter Tryd.func21, Tryd.ntmps21
  go_wp2
  go_loopw [7] (fun i wr => ∃ (k : Nat), k ≤ ms.length ∧ i = .int .i64 k ∧ Hid (∀ j (h : j < ms.length), j < k → mvB ms[j] = true) ∧ Hid (Below w.heap.size w wr)) (fun i _ => ms.length - (intOf i).toNat)
  case atStart => exact ⟨0, Nat.zero_le _, rfl, hide (fun j h hj => by omega), hide (Below.refl _ _)⟩
  case round =>
    obtain ⟨k, hk, rfl, HP, HB⟩ := hrel
    by_cases hlt : k < ms.length
    · obtain ⟨b, off, rfl, hc0, hc1, hc2, hcz⟩ := (unhide HM).below (unhide HB) k hlt
      have HZk := hide hcz
      clear hcz
      go_wp2_with fail
      refine (moveOK_any ms[k] _ (unhide HZk)).mono ?_
      rintro e w2 ⟨rfl, hb⟩
      have HB2 := hide (fr (belowAl (unhide HB) _) hb)
      clear hb
      by_cases hp : mvB ms[k] = true
      · have HPP := hide (all_succ hlt (unhide HP) hp)
        go_wp2
        go_roundw
        case rel => exact ⟨k + 1, by omega, by go_num, HPP, HB2⟩
        case measure => simp [intOf]; omega
      · rw [Bool.not_eq_true] at hp
        have HF : Hid (msB ms = false) := hide (all_not hlt hp)
        go_wp2
        go_ret
        exact ⟨ret_bool (unhide HF).symm, unhide HB2⟩
    · have HF : Hid (msB ms = true) := hide (all_of (fun i hi _ => unhide HP i hi (by omega)))
      go_wp2
      go_ret
      exact ⟨ret_bool (unhide HF).symm, unhide HB⟩

set_option maxHeartbeats 3200000 in
theorem doneBy_any (m : Wr) (ao bo : Option Addr) (ca cb : Nat) (ss : List ByteArray) (xs : List Wr) (h : Int) (S : List ByteArray) (X : List Wr) (w : World) (hSX : dm1 h (ss, xs) m = (S, X)) (hh : 0 ≤ h ∧ h ≤ 3) (hd : diskB ss xs = true) (hl : xs.length < 200) (hm : mvB m = true) (h1 : Ss w ao ss) (h2 : Ios w bo xs) :
    Calls Tryd.prog 23 #[wV m, .agg #[.slice ao ss.length ca, .slice bo xs.length cb], .int .i64 h] w fun e w' => ∃ po pa qo qa, e = .returned (.agg #[.slice po S.length pa, .slice qo X.length qa]) ∧ OwnD w' w.heap.size po S.length pa qo X.length qa S X ∧ Below w.heap.size w w' := by
  obtain ⟨hh0, hh3⟩ := hh
  have HA := hide (Joins.below_alloc3 w (.cells #[.int .i64 m.host, .int .i64 m.at_, .string m.data] 57) (.cells #[.slice ao ss.length ca, .slice bo xs.length cb] 32) (.cells #[.slice none 0 0, .slice none 0 0] 32))
  have HV : Hid (VarD (((w.alloc (.cells #[.int .i64 m.host, .int .i64 m.at_, .string m.data] 57)).alloc (.cells #[.slice ao ss.length ca, .slice bo xs.length cb] 32)).alloc (.cells #[.slice none 0 0, .slice none 0 0] 32)) (w.heap.size + 1) (.slice ao ss.length ca) (.slice bo xs.length cb)) := hide (VarD.below (by have := VarD.new (w.alloc (.cells #[.int .i64 m.host, .int .i64 m.at_, .string m.data] 57)) (.slice ao ss.length ca) (.slice bo xs.length cb); simp only [World.size_alloc] at this; exact this) (Joins.below_alloc1 _ _))
  have HR : Hid (VarD (((w.alloc (.cells #[.int .i64 m.host, .int .i64 m.at_, .string m.data] 57)).alloc (.cells #[.slice ao ss.length ca, .slice bo xs.length cb] 32)).alloc (.cells #[.slice none 0 0, .slice none 0 0] 32)) (w.heap.size + 1 + 1) (.slice none 0 0) (.slice none 0 0)) := hide (by have := VarD.new ((w.alloc (.cells #[.int .i64 m.host, .int .i64 m.at_, .string m.data] 57)).alloc (.cells #[.slice ao ss.length ca, .slice bo xs.length cb] 32)) (.slice none 0 0) (.slice none 0 0); simp only [World.size_alloc] at this; exact this)
  have H1 := hide (h1.below (unhide HA))
  have H2 := hide (h2.below (unhide HA))
  have HD := hide hd
  have HMB := hide hm
  have HEND : Hid (∀ W po pa qo qa, OwnD W w.heap.size po S.length pa qo X.length qa S X → Below w.heap.size w W → VarD W (w.heap.size + 1) (.slice ao ss.length ca) (.slice bo xs.length cb) → VarD W (w.heap.size + 1 + 1) (.slice none 0 0) (.slice none 0 0) → ∀ a b c d, OwnD ((((W.setCell ⟨w.heap.size + 1, 0, none⟩ a).setCell ⟨w.heap.size + 1, 1, none⟩ b).setCell ⟨w.heap.size + 1 + 1, 0, none⟩ c).setCell ⟨w.heap.size + 1 + 1, 1, none⟩ d) w.heap.size po S.length pa qo X.length qa S X ∧ Below w.heap.size w ((((W.setCell ⟨w.heap.size + 1, 0, none⟩ a).setCell ⟨w.heap.size + 1, 1, none⟩ b).setCell ⟨w.heap.size + 1 + 1, 0, none⟩ c).setCell ⟨w.heap.size + 1 + 1, 1, none⟩ d)) := hide (fun W po pa qo qa ho hb hv hr a b c d =>
    ⟨ho.keep (((((Keep.refl (fun j => j = w.heap.size + 1 ∨ j = w.heap.size + 1 + 1) W).setCell (p := ⟨w.heap.size + 1, 0, none⟩) (.inl rfl) a).setCell (p := ⟨w.heap.size + 1, 1, none⟩) (.inl rfl) b).setCell (p := ⟨w.heap.size + 1 + 1, 0, none⟩) (.inr rfl) c).setCell (p := ⟨w.heap.size + 1 + 1, 1, none⟩) (.inr rfl) d) (fun g hg e => by
        rcases e with e | e
        · exact ho.other hv (by decide) (by decide) (e ▸ hg)
        · exact ho.other hr (by decide) (by decide) (e ▸ hg)),
      below2 (g := w.heap.size + 1 + 1) (below2 (g := w.heap.size + 1) hb (by omega) 0 1 a b) (by omega) 0 1 c d⟩)
  clear h1 h2 hd hm
  by_cases hf : m.host = 2
  · have hfb : (m.host == 2) = true := by simp [hf]
    have hst := dm1_flush (h := h) (S := ss) (X := xs) hf
    rw [hSX] at hst
    obtain ⟨eS, eX⟩ : putW ss (ofH h xs) = S ∧ dropF h xs = X := by cases hst; exact ⟨rfl, rfl⟩
    have HS := hide eS
    have HX := hide eX
    clear hst hSX hf eS eX
    go_enter Tryd.func23, Tryd.ntmps23
    go_wp2_with fail
    refine (flush_own ao bo ca cb ss xs h S X _ (unhide HS) (unhide HX) (unhide HD) hh0 hh3 (unhide H1) (unhide H2)).mono ?_
    rintro e w2 ⟨po, pa, qo, qa, rfl, ho, hb⟩
    have HB := hide (fr (unhide HA) hb)
    have HO := hide (ho.base (unhide HA).size)
    have HV2 := hide ((unhide HV).below hb)
    have HR2 := hide ((unhide HR).below hb)
    clear ho hb
    obtain ⟨v0, v1⟩ := (unhide HV2).cells
    have vf0 := (unhide HV2).free 0
    have vf1 := (unhide HV2).free 1
    obtain ⟨r0, r1⟩ := (unhide HR2).cells
    have rf0 := (unhide HR2).free 0
    have rf1 := (unhide HR2).free 1
    have HF := hide (unhide HEND w2 po pa qo qa (unhide HO) (unhide HB) (unhide HV2) (unhide HR2))
    go_wp2
    exact bodyPost_ret (v := .agg #[.slice po S.length pa, .slice qo X.length qa]) (by simp [results, Tryd.results23, go_sem, r0, r1]) rfl ⟨po, pa, qo, qa, rfl, unhide HF _ _ _ _⟩
  · have hfb : (m.host == 2) = false := by simp [hf]
    have hst := dm1_write (h := h) (S := ss) (X := xs) hf
    rw [hSX] at hst
    obtain ⟨eS, eX⟩ : ss = S ∧ xs ++ [(⟨h, m.at_, m.data⟩ : Wr)] = X := by cases hst; exact ⟨rfl, rfl⟩
    obtain ⟨p1, p2⟩ := mvB_write (unhide HMB) hf
    have HX := hide eX
    subst eS
    clear hst hSX hf eX
    go_enter Tryd.func23, Tryd.ntmps23
    go_wp2_with fail
    refine (write_own ao bo ca cb ss xs h m.at_ m.data X _ (unhide HX) (unhide HD) hl p2 hh0 hh3 p1.1 p1.2 (unhide H1) (unhide H2)).mono ?_
    rintro e w2 ⟨po, pa, qo, qa, rfl, ho, hb⟩
    have HB := hide (fr (unhide HA) hb)
    have HO := hide (ho.base (unhide HA).size)
    have HV2 := hide ((unhide HV).below hb)
    have HR2 := hide ((unhide HR).below hb)
    clear ho hb
    obtain ⟨v0, v1⟩ := (unhide HV2).cells
    have vf0 := (unhide HV2).free 0
    have vf1 := (unhide HV2).free 1
    obtain ⟨r0, r1⟩ := (unhide HR2).cells
    have rf0 := (unhide HR2).free 0
    have rf1 := (unhide HR2).free 1
    have HF := hide (unhide HEND w2 po pa qo qa (unhide HO) (unhide HB) (unhide HV2) (unhide HR2))
    go_wp2
    exact bodyPost_ret (v := .agg #[.slice po ss.length pa, .slice qo X.length qa]) (by simp [results, Tryd.results23, go_sem, r0, r1]) rfl ⟨po, pa, qo, qa, rfl, unhide HF _ _ _ _⟩

end Go.Proofs.YtefnapcegeojoaaDoor

namespace Go.Proofs.YtefnapcegeojoaaDoor
open Go.RowKit
set_option linter.unusedVariables false
set_option maxRecDepth 100000

theorem own_beside {W : World} {B n pa m qa x : Nat} {po qo : Option Addr} {SS : List ByteArray} {XX : List Wr} {a b : Value} (ho : OwnD W B po n pa qo m qa SS XX) (hv : VarD W x a b) (u v : Value) : OwnD ((W.setCell ⟨x, 0, none⟩ u).setCell ⟨x, 1, none⟩ v) B po n pa qo m qa SS XX :=
  ho.keep (((Keep.refl (fun j => j = x) W).setCell (p := ⟨x, 0, none⟩) rfl u).setCell (p := ⟨x, 1, none⟩) rfl v) (fun g hg e => ho.other hv (by decide) (by decide) (e ▸ hg))

set_option maxHeartbeats 3200000 in
theorem movesDo_impl (ao bo : Option Addr) (ca cb : Nat) (ss : List ByteArray) (xs : List Wr) (h : Int) (mo : Option Addr) (mc : Nat) (ms : List Wr) (w : World) (hl : ss.length ≤ 1048576) (hm : xs.length ≤ 1048576) (hn : ms.length ≤ 1048576) (h1 : Ss w ao ss) (h2 : Ios w bo xs) (h3 : Ios w mo ms) :
    Calls Tryd.prog 8 #[.agg #[.slice ao ss.length ca, .slice bo xs.length cb], .int .i64 h, .slice mo ms.length mc] w fun e w' => ∃ po pa qo qa, e = .returned (.tuple #[.agg #[.slice po (mdS ss xs h ms).length pa, .slice qo (mdX ss xs h ms).length qa], .int .i64 (mdC ss xs h ms)]) ∧ OwnD w' w.heap.size po (mdS ss xs h ms).length pa qo (mdX ss xs h ms).length qa (mdS ss xs h ms) (mdX ss xs h ms) ∧ Below w.heap.size w w' := by
  have HA := hide (Joins.below_alloc2 w (.cells #[.slice ao ss.length ca, .slice bo xs.length cb] 32) (.cells #[.slice none 0 0, .slice none 0 0] 32))
  have HR : Hid (VarD ((w.alloc (.cells #[.slice ao ss.length ca, .slice bo xs.length cb] 32)).alloc (.cells #[.slice none 0 0, .slice none 0 0] 32)) (w.heap.size + 1) (.slice none 0 0) (.slice none 0 0)) := hide (by have := VarD.new (w.alloc (.cells #[.slice ao ss.length ca, .slice bo xs.length cb] 32)) (.slice none 0 0) (.slice none 0 0); simp only [World.size_alloc] at this; exact this)
  have HV := hide ((VarD.new w (.slice ao ss.length ca) (.slice bo xs.length cb)).below (Joins.below_alloc1 _ (.cells #[.slice none 0 0, .slice none 0 0] 32)))
  have H1 := hide (h1.below (unhide HA))
  have H2 := hide (h2.below (unhide HA))
  have HM := hide h3
  have HL : Hid (ss.length ≤ maxLen) := hide (by unfold maxLen; omega)
  have HX : Hid (xs.length ≤ maxLen) := hide (by unfold maxLen; omega)
  have HZ : Hid (∀ c, (mdC ss xs h ms = c ∧ mdS ss xs h ms = [] ∧ mdX ss xs h ms = []) → ∀ W, VarD W (w.heap.size + 1) (.slice none 0 0) (.slice none 0 0) → Below w.heap.size w W → ∀ u v, ∃ po pa qo qa, Ending.returned (.tuple #[.agg #[.slice none 0 0, .slice none 0 0], .int .i64 c]) = .returned (.tuple #[.agg #[.slice po (mdS ss xs h ms).length pa, .slice qo (mdX ss xs h ms).length qa], .int .i64 (mdC ss xs h ms)]) ∧ OwnD ((W.setCell ⟨w.heap.size + 1, 0, none⟩ u).setCell ⟨w.heap.size + 1, 1, none⟩ v) w.heap.size po (mdS ss xs h ms).length pa qo (mdX ss xs h ms).length qa (mdS ss xs h ms) (mdX ss xs h ms) ∧ Below w.heap.size w ((W.setCell ⟨w.heap.size + 1, 0, none⟩ u).setCell ⟨w.heap.size + 1, 1, none⟩ v)) := hide (fun c ⟨e1, e2, e3⟩ W hR hb u v => by
    rw [e1, e2, e3]
    obtain ⟨o1, o2⟩ := md_end hR hb (Nat.le_succ _) (zeroD_own (w := W) (B := w.heap.size)) u v
    exact ⟨none, 0, none, 0, rfl, o1, o2⟩)
  clear h1 h2 h3
  obtain ⟨r0, r1⟩ := (unhide HR).cells
  have rf0 := (unhide HR).free 0
  have rf1 := (unhide HR).free 1
  by_cases hlong : 4096 < ms.length
  · have HE := hide (md_long (ss := ss) (xs := xs) (h := h) hlong)
    go_enter Tryd.func8, Tryd.ntmps8
    go_wp2
    refine bodyPost_ret (v := .tuple #[.agg #[.slice none 0 0, .slice none 0 0], .int .i64 2]) (by simp [results, Tryd.results8, go_sem, r0, r1]) rfl ?_
    first
      | exact unhide HZ 2 (unhide HE) _ (unhide HR) (unhide HA) _ _
      | (rw [(unhide HE).1, (unhide HE).2.1, (unhide HE).2.2]; exact ⟨none, 0, none, 0, rfl, zeroD_own, unhide HA⟩)
  clear r0 r1 rf0 rf1
  go_enter Tryd.func8, Tryd.ntmps8
  go_wp2_with fail
  refine (hostFault_any ao bo ca cb ss xs h _ (unhide HL) (unhide HX) (unhide H1) (unhide H2)).mono ?_
  rintro e W1 ⟨rfl, hb⟩
  have HB1 := hide (fr (unhide HA) hb)
  have HR1 := hide ((unhide HR).below hb)
  have HV1 := hide ((unhide HV).below hb)
  have H11 := hide ((unhide H1).below hb)
  have H21 := hide ((unhide H2).below hb)
  clear hb HR HV H1 H2
  by_cases e0 : hostC ss xs h = 0
  case neg =>
    have e0b : (hostC ss xs h != 0) = true := by simp [e0]
    have HE := hide (md_host (ms := ms) hlong e0)
    obtain ⟨r0, r1⟩ := (unhide HR1).cells
    have rf0 := (unhide HR1).free 0
    have rf1 := (unhide HR1).free 1
    clear e0
    go_wp2
    refine bodyPost_ret (v := .tuple #[.agg #[.slice none 0 0, .slice none 0 0], .int .i64 (hostC ss xs h)]) (by simp [results, Tryd.results8, go_sem, r0, r1]) rfl ?_
    exact unhide HZ _ (unhide HE) _ (unhide HR1) (unhide HB1) _ _
  have e0b : (hostC ss xs h != 0) = false := by simp [e0]
  obtain ⟨hd, hh0, hh3⟩ := hostC_eq e0
  obtain ⟨hd1, hd2⟩ := diskB_len hd
  have HD := hide hd
  have HE0 := hide e0
  clear hd hd1 e0
  have hms : ms.length ≤ 4096 := by omega
  go_wp2_with fail
  refine (movesOK_any mo mc ms _ hms ((unhide HM).below (unhide HB1))).mono ?_
  rintro e W2 ⟨rfl, hb⟩
  have HB2 := hide (fr (unhide HB1) hb)
  have HR2 := hide ((unhide HR1).below hb)
  have HV2 := hide ((unhide HV1).below hb)
  have H12 := hide ((unhide H11).below hb)
  have H22 := hide ((unhide H21).below hb)
  clear hb HR1 HV1 H11 H21
  by_cases hmb : msB ms = true
  case neg =>
    rw [Bool.not_eq_true] at hmb
    have HE := hide (md_bad (ss := ss) (xs := xs) hlong (unhide HE0) hmb)
    obtain ⟨r0, r1⟩ := (unhide HR2).cells
    have rf0 := (unhide HR2).free 0
    have rf1 := (unhide HR2).free 1
    rw [hmb]
    go_wp2
    refine bodyPost_ret (v := .tuple #[.agg #[.slice none 0 0, .slice none 0 0], .int .i64 1]) (by simp [results, Tryd.results8, go_sem, r0, r1]) rfl ?_
    exact unhide HZ _ (unhide HE) _ (unhide HR2) (unhide HB2) _ _
  have HMB := hide hmb
  rw [hmb]
  clear hmb
  obtain ⟨d0, d1⟩ := (unhide HV2).cells
  go_wp2_with fail
  refine (copyDisk_any ao bo ca cb ss xs _ hl hm (unhide H12) (unhide H22)).mono ?_
  rintro e W3 ⟨po, pa, qo, qa, rfl, ho, hb⟩
  have HA3 := hide (Joins.below_alloc1 W3 (.cells #[.slice po ss.length pa, .slice qo xs.length qa] 32))
  have HB3 := hide (fr (fr (unhide HB2) hb) (unhide HA3))
  have HO3 := hide ((ho.base (unhide HB2).size).below (unhide HA3))
  have HO4 := hide (VarD.new W3 (.slice po ss.length pa) (.slice qo xs.length qa))
  have HR3 := hide (((unhide HR2).below hb).below (unhide HA3))
  have HV3 := hide (((unhide HV2).below hb).below (unhide HA3))
  have hltV : w.heap.size < W3.heap.size := ((unhide HV2).below hb).lt
  have hltR : w.heap.size + 1 < W3.heap.size := ((unhide HR2).below hb).lt
  have hxv := ((unhide HV2).below hb).cells
  have HXV := hide hxv
  clear ho hb d0 d1 HR2 HV2 H12 H22 hxv
  have wr1 : IntKind.i64.wrap ((xs.length : Int) + (ms.length : Int)) = (xs.length : Int) + (ms.length : Int) := by rw [IntKind.wrap_i64]; omega
  obtain ⟨d0, d1⟩ := unhide HXV
  by_cases hfull : 200 < xs.length + ms.length
  · have HE := hide (md_full hlong (unhide HE0) (unhide HMB) hfull)
    have hfi : (xs.length : Int) + (ms.length : Int) > 200 := by omega
    have HO := hide (fun u v => md_end (unhide HR3) (unhide HB3) (Nat.le_succ _) (unhide HO3) u v)
    go_upto_region 10 with fail
    revert HR3 HO4 HV3 HO HO3 HB3
    generalize (W3.alloc (.cells #[.slice po ss.length pa, .slice qo xs.length qa] 32)) = W4
    intro HB3 HO3 HO4 HR3 HV3 HO
    obtain ⟨r0, r1⟩ := (unhide HR3).cells
    have rf0 := (unhide HR3).free 0
    have rf1 := (unhide HR3).free 1
    obtain ⟨q0, q1⟩ := (unhide HO4).cells
    go_wp2
    refine bodyPost_ret (v := .tuple #[.agg #[.slice po ss.length pa, .slice qo xs.length qa], .int .i64 7]) (by simp [results, Tryd.results8, go_sem, r0, r1]) rfl ?_
    rw [(unhide HE).1, (unhide HE).2.1, (unhide HE).2.2]
    exact ⟨po, pa, qo, qa, rfl, unhide HO _ _⟩
  have HE := hide (md_ok hlong (unhide HE0) (unhide HMB) hfull)
  have hfi : ¬ ((xs.length : Int) + (ms.length : Int) > 200) := by omega
  have HRT := hide (dmL_right (ms := ms) ⟨hh0, hh3⟩ (unhide HD) (unhide HMB) (by omega))
  have hOv : w.heap.size ≤ W3.heap.size := by omega
  go_wp2
  revert HR3 HO4 HV3 HO3 HB3
  generalize (W3.alloc (.cells #[.slice po ss.length pa, .slice qo xs.length qa] 32)) = W4
  intro HB3 HO3 HO4 HR3 HV3
  have hRO : w.heap.size + 1 ≠ W3.heap.size := by omega
  generalize W3.heap.size = V at *
  go_loopw [39] (fun i wr => ∃ (k : Nat) (SS : List ByteArray) (XX : List Wr) (po : Option Addr) (pa : Nat) (qo : Option Addr) (qa : Nat), k ≤ ms.length ∧ i = .int .i64 k ∧ Hid (dmL h ss xs (ms.take k) = (SS, XX)) ∧ Hid (VarD wr V (.slice po SS.length pa) (.slice qo XX.length qa)) ∧ Hid (OwnD wr w.heap.size po SS.length pa qo XX.length qa SS XX) ∧ Hid (VarD wr (w.heap.size + 1) (.slice none 0 0) (.slice none 0 0)) ∧ Hid (Below w.heap.size w wr)) (fun i _ => ms.length - (intOf i).toNat)
  case atStart => exact ⟨0, ss, xs, po, pa, qo, qa, Nat.zero_le _, rfl, hide rfl, HO4, HO3, HR3, HB3⟩
  case round =>
    obtain ⟨k, SS, XX, po, pa, qo, qa, hk, rfl, HEk, HVk, HOk, HRk, HBk⟩ := hrel
    have hr := unhide HRT k hk
    rw [unhide HEk] at hr
    obtain ⟨hr1, hr2⟩ := hr
    have HDB := hide hr1
    simp only at hr2
    by_cases hlt : k < ms.length
    · obtain ⟨b, off, rfl, hc0, hc1, hc2, hcz⟩ := (unhide HM).below (unhide HBk) k hlt
      have hXl : XX.length < 200 := by omega
      have HMk := hide (msB_at (unhide HMB) hlt)
      obtain ⟨S2, X2, HN⟩ : ∃ S2 X2, Hid (dm1 h (SS, XX) ms[k] = (S2, X2)) := ⟨_, _, hide rfl⟩
      have HNN : Hid (dmL h ss xs (ms.take (k + 1)) = (S2, X2)) := hide (by rw [dmL_succ hlt, unhide HEk]; exact unhide HN)
      have hbl := World.block_lt_of_cell? _ _ hc0
      have HAl := hide (Joins.below_alloc1 wr (.cells #[.int .i64 ms[k].host, .int .i64 ms[k].at_, .string ms[k].data] 57))
      have HVa := hide ((unhide HVk).below (unhide HAl))
      have HOa := hide ((unhide HOk).below (unhide HAl))
      have HRZ := hide (right_sz2 (unhide HDB))
      obtain ⟨q0, q1⟩ := (unhide HVk).cells
      have hVl := (unhide HVk).lt
      clear hr1 hr2 hcz
      go_wp2_with fail
      refine (doneBy_any ms[k] po qo pa qa SS XX h S2 X2 _ (unhide HN) ⟨hh0, hh3⟩ (unhide HDB) hXl (unhide HMk) ((unhide HOa).ss (unhide HRZ).1) ((unhide HOa).ios (unhide HRZ).2)).mono ?_
      rintro e w2 ⟨po2, pa2, qo2, qa2, rfl, ho, hb⟩
      have HB2x := hide (fr (fr (unhide HBk) (unhide HAl)) hb)
      have HV2x := hide ((unhide HVa).below hb)
      have HR2x := hide (((unhide HRk).below (unhide HAl)).below hb)
      have HO2x := hide (ho.base (Nat.le_trans (unhide HBk).size (unhide HAl).size))
      obtain ⟨t0, t1⟩ := (unhide HV2x).cells
      have tf0 := (unhide HV2x).free 0
      have tf1 := (unhide HV2x).free 1
      have HVn := hide ((unhide HV2x).put (.slice po2 S2.length pa2) (.slice qo2 X2.length qa2))
      have HOn := hide (own_beside (unhide HO2x) (unhide HV2x) (.slice po2 S2.length pa2) (.slice qo2 X2.length qa2))
      have HRn := hide (((unhide HR2x).apart (y := V) hRO 0 (.slice po2 S2.length pa2)).apart (y := V) hRO 1 (.slice qo2 X2.length qa2))
      have HBn := hide (below2 (g := V) (unhide HB2x) hOv 0 1 (.slice po2 S2.length pa2) (.slice qo2 X2.length qa2))
      clear ho hb q0 q1
      go_wp2
      go_roundw
      case rel => exact ⟨k + 1, S2, X2, po2, pa2, qo2, qa2, by omega, by go_num, HNN, HVn, HOn, HRn, HBn⟩
      case measure => simp [intOf]; omega
    · have hke : k = ms.length := by omega
      have HEE : Hid (dmL h ss xs ms = (SS, XX)) := hide (by have := unhide HEk; rwa [hke, List.take_of_length_le (Nat.le_refl _)] at this)
      obtain ⟨q0, q1⟩ := (unhide HVk).cells
      obtain ⟨r0, r1⟩ := (unhide HRk).cells
      have rf0 := (unhide HRk).free 0
      have rf1 := (unhide HRk).free 1
      have HO := hide (fun u v => md_end (unhide HRk) (unhide HBk) (Nat.le_succ _) (unhide HOk) u v)
      clear hke hr1 hr2
      go_wp2
      refine bodyPost_ret (v := .tuple #[.agg #[.slice po SS.length pa, .slice qo XX.length qa], .int .i64 0]) (by simp [results, Tryd.results8, go_sem, r0, r1]) rfl ?_
      rw [(unhide HE).1, (unhide HE).2.1, (unhide HE).2.2, unhide HEE]
      exact ⟨po, pa, qo, qa, rfl, unhide HO _ _⟩

end Go.Proofs.YtefnapcegeojoaaDoor

namespace Go.Proofs.YtefnapcegeojoaaDoor
open Go.RowKit
set_option linter.unusedVariables false
set_option maxRecDepth 100000

theorem hidB {p : Prop} (h : p) : Hid p := h
def betw (n low high : Int) : Bool := decide (low ≤ n) && decide (n ≤ high)
theorem betw_yes {n low high : Int} (h : low ≤ n) (h' : n ≤ high) : betw n low high = true := by simp [betw, h, h']
theorem betw_no {n low high : Int} (h : ¬ (low ≤ n ∧ n ≤ high)) : betw n low high = false := by simp only [betw, Bool.and_eq_false_iff, decide_eq_false_iff_not]; omega
set_option maxHeartbeats 800000 in
theorem within_any (n low high : Int) (w : World) : Calls Tryd.prog 57 #[.int .i64 n, .int .i64 low, .int .i64 high] w fun e w' => e = .returned (.bool (betw n low high)) ∧ w' = w := by
  by_cases h1 : low ≤ n
  · by_cases h2 : n ≤ high
    · have hr := hidB (betw_yes h1 h2)
      go_enter Tryd.func57, Tryd.ntmps57
      go_wp2
      go_ret
      rw [show betw n low high = true from hr]
      exact ⟨rfl, rfl⟩
    · have hr := hidB (betw_no (n := n) (low := low) (high := high) (by omega))
      go_enter Tryd.func57, Tryd.ntmps57
      go_wp2
      go_ret
      rw [show betw n low high = false from hr]
      exact ⟨rfl, rfl⟩
  · have hr := hidB (betw_no (n := n) (low := low) (high := high) (by omega))
    go_enter Tryd.func57, Tryd.ntmps57
    go_wp2
    go_ret
    rw [show betw n low high = false from hr]
    exact ⟨rfl, rfl⟩
end Go.Proofs.YtefnapcegeojoaaDoor

namespace Go.Proofs.YtefnapcegeojoaaDoor
open Go.RowKit
set_option linter.unusedVariables false
set_option maxRecDepth 100000

theorem block_alloc {w : World} {g : Nat} {c : Array Value} {t : TypeId} {f : Nat × Nat} (h : w.heap[g]? = some (.cells c t f)) (o : Obj) : (w.alloc o).heap[g]? = some (.cells c t f) := by
  rw [(Joins.below_alloc1 w o).block g (Array.getElem?_eq_some_iff.1 h).1]; exact h

def arrL (xs : List Int) (k : Nat) : List Value := byteV (packL (xs.take k)) ++ List.replicate (64 - k * 4) (.int .u8 0)
theorem arrL_zero (xs : List Int) : arrL xs 0 = List.replicate 64 (.int .u8 0) := by simp [arrL, packL, byteV]
theorem four_lit {n : Int} (h : 0 ≤ n) (h' : n ≤ 2147483647) : [Value.int .u8 (n % 256), .int .u8 (n / 256 % 256), .int .u8 (n / 65536 % 256), .int .u8 (n / 16777216)] = byteV (four n) := by
  have e : n / 16777216 = n / 16777216 % 256 := by omega
  have : byteV (four n) = [Value.int .u8 (n / (256 : Int) ^ 0 % 256), .int .u8 (n / (256 : Int) ^ 1 % 256), .int .u8 (n / (256 : Int) ^ 2 % 256), .int .u8 (n / (256 : Int) ^ 3 % 256)] := rfl
  rw [this, e]
  simp
theorem arrL_length {xs : List Int} {k : Nat} (hl : xs.length ≤ 16) (hk : k ≤ xs.length) : (arrL xs k).length = 64 := by
  rw [arrL, List.length_append, byteV_length, packL_length, List.length_replicate, List.length_take, Nat.min_eq_left hk]
  omega
theorem arrL_splice {xs : List Int} {k : Nat} (hl : xs.length ≤ 16) (hk : k < xs.length) : splice (arrL xs k) (k * 4) (byteV (four xs[k])) = arrL xs (k + 1) := by
  have h1 : (byteV (packL (xs.take k))).length = k * 4 := by rw [byteV_length, packL_length, List.length_take, Nat.min_eq_left (by omega)]
  have h4 : (byteV (four xs[k])).length = 4 := by rw [byteV_length, four, fourTo_length]
  unfold splice arrL
  rw [h4, List.take_append_of_le_length (by omega), List.take_of_length_le (by omega), List.drop_append, List.drop_of_length_le (by omega), List.nil_append, h1, packL_succ hk, List.drop_replicate]
  rw [show k * 4 + 4 - k * 4 = 4 by omega, show 64 - k * 4 - 4 = 64 - (k + 1) * 4 by omega]
  simp [byteV]
theorem arrL_cells {W : World} {g : Nat} {t : TypeId} {xs : List Int} (h : W.heap[g]? = some (.cells (arrL xs xs.length).toArray t (0, 0))) : ∀ i, i < xs.length * 4 → W.cell? ⟨g, 0 + i, none⟩ = some (.int .u8 ((packL xs).getD i 0)) := by
  intro i hi
  rw [Nat.zero_add, Joins.cell_of_block h]
  have hl : i < (packL xs).length := by rw [packL_length]; exact hi
  simp [arrL, byteV, List.getElem?_append_left, hl, List.getD]
theorem lit_one (a b c d : Int) : ∀ v ∈ [Value.int .u8 a, .int .u8 b, .int .u8 c, .int .u8 d], v.oneCell' = true := by
  intro v hv
  simp at hv
  rcases hv with rfl | rfl | rfl | rfl <;> rfl
theorem sizeB : (Tryd.prog.info? 5).map (·.size) = some 1 := by kernel_rfl
theorem runB (W : World) : (Go.sizeOf 5).run Tryd.prog W = .ok 1 W := by
  have h := sizeB
  cases hq : Tryd.prog.info? 5 with
  | none => simp [hq] at h
  | some i =>
    have hi : i.size = 1 := by simpa [hq] using h
    simp [Go.sizeOf, typeInfo, hq, hi]
theorem arr64 : Tryd.prog.arrayLen 129 = 64 := by kernel_rfl
theorem und64 : Tryd.prog.underlying 129 = some (.array (Tryd.prog.arrayLen 129) (Tryd.prog.elem 129)) := by kernel_rfl
theorem elem64 : Tryd.prog.elem 129 = 5 := by kernel_rfl
theorem wrap4 (k : Nat) (hk : k ≤ 16) : IntKind.i64.wrap ((k : Int) * 4) = ((k * 4 : Nat) : Int) := by
  rw [IntKind.wrap_i64]
  omega
theorem slice64 (W : World) (g k : Nat) (hk : k < 16) : (Instr.sliceAt 129 (.pointer (some ⟨g, 0, none⟩)) (some (.int .i64 (IntKind.i64.wrap ((k : Int) * 4)))) none none).run Tryd.prog W = .ok (.slice (some ⟨g, k * 4, none⟩) (64 - k * 4) (64 - k * 4)) W := by
  rw [wrap4 k (by omega), run_sliceAt_array_l W _ _ und64 .i64 _ (by omega) (by rw [arr64]; omega), elem64, runB, arr64]
  simp only [Result.andThen, slicedAt, Int.toNat_natCast, Nat.mul_one]
  rw [if_neg (by omega), show Addr.add ⟨g, 0, none⟩ (k * 4) = ⟨g, k * 4, none⟩ from by unfold Addr.add; split <;> simp_all]
theorem slice64h (W : World) (g k : Nat) (hk : k ≤ 16) : (Instr.sliceAt 129 (.pointer (some ⟨g, 0, none⟩)) none (some (.int .i64 ((k : Int) * 4))) none).run Tryd.prog W = .ok (.slice (some ⟨g, 0, none⟩) (k * 4) 64) W := by
  rw [run_sliceAt_array_h W _ _ und64 .i64 _ (by omega) (by rw [arr64]; omega), elem64, runB, arr64]
  simp only [Result.andThen, slicedAt, Nat.mul_one, Nat.sub_zero]
  rw [if_neg (by omega), show ((k : Int) * 4).toNat = k * 4 by omega]
  rfl

set_option maxHeartbeats 1600000 in
theorem packNumbers_any (ao : Option Addr) (cap : Nat) (xs : List Int) (w : World) (hl : xs.length ≤ 16) (hn : ∀ j (h : j < xs.length), 0 ≤ xs[j] ∧ xs[j] ≤ 2147483647) (hc : Is w ao xs) :
    Calls Tryd.prog 81 #[.slice ao xs.length cap] w fun e w' => e = .returned (.string (packS xs)) ∧ Below w.heap.size w w' := by
  have HC := hide hc
  have HN := hide hn
  clear hc hn
  go_enter Tryd.func81, Tryd.ntmps81
  go_wp2
  go_loopw [9] (fun i wr => ∃ k : Nat, k ≤ xs.length ∧ i = .int .i64 k ∧ Hid (wr.heap[w.heap.size]? = some (.cells (arrL xs k).toArray 129 (0, 0))) ∧ Hid (Below w.heap.size w wr)) (fun i _ => xs.length - (intOf i).toNat)
  case atStart => exact ⟨0, Nat.zero_le _, rfl, hide (by rw [arrL_zero]; exact heap_alloc_new w _), hide (Joins.below_alloc1 _ _)⟩
  case round =>
    obtain ⟨k, hk, rfl, HO, HB⟩ := hrel
    by_cases hlt : k < xs.length
    · obtain ⟨b, off, rfl, hc⟩ := (unhide HC).below (unhide HB) k hlt
      obtain ⟨h0, h1⟩ := unhide HN k hlt
      have HBA := hide (fr (unhide HB) (Joins.below_alloc1 _ (.cells #[.int .u8 (xs[k] % 256), .int .u8 (xs[k] / 256 % 256), .int .u8 (xs[k] / 65536 % 256), .int .u8 (xs[k] / 16777216)] 118)))
      have HOA := hide (block_alloc (unhide HO) (.cells #[.int .u8 (xs[k] % 256), .int .u8 (xs[k] / 256 % 256), .int .u8 (xs[k] / 65536 % 256), .int .u8 (xs[k] / 16777216)] 118))
      have HL := hide (arrL_length hl hk)
      have HNW := hide (World.news_of_block (cs := #[.int .u8 (xs[k] % 256), .int .u8 (xs[k] / 256 % 256), .int .u8 (xs[k] / 65536 % 256), .int .u8 (xs[k] / 16777216)]) (heap_alloc_new wr (.cells #[.int .u8 (xs[k] % 256), .int .u8 (xs[k] / 256 % 256), .int .u8 (xs[k] / 65536 % 256), .int .u8 (xs[k] / 16777216)] 118)))
      have HE := hide (four_lit h0 h1)
      have HSP := hide (arrL_splice hl hlt)
      have hsl := fun W => slice64 W w.heap.size k (by omega)
      go_wp2
      go_region_law (refine step_copy_splice ?_ (.tmp 28) (.tmp 29) 22 22 ?_ 5 Tryd.underlying22 sizeB (some ⟨w.heap.size, k * 4, none⟩) (some ⟨wr.heap.size, 0, none⟩) (64 - k * 4) (64 - k * 4) 4 4 ?_ ?_ w.heap.size (k * 4) (arrL xs k) 129 ?_ [.int .u8 (xs[k] % 256), .int .u8 (xs[k] / 256 % 256), .int .u8 (xs[k] / 65536 % 256), .int .u8 (xs[k] / 16777216)] ?_ ?_ ?_ (lit_one _ _ _ _) w.heap.size w ?_ (Nat.le_refl _) ?_
                     · rfl
                     · rfl
                     · rfl
                     · rfl
                     · exact unhide HOA
                     · simp only [List.length_cons, List.length_nil]; exact (Nat.min_eq_left (by omega)).symm
                     · exact fun _ => ⟨rfl, _, rfl, unhide HNW⟩
                     · rw [unhide HL]; simp only [List.length_cons, List.length_nil]; omega
                     · exact (unhide HBA).drew
                     intro w4 hg4 hb4)
      all_goals
        have HSF : Hid (w4.heap[w.heap.size]? = some (.cells (arrL xs (k + 1)).toArray 129 (0, 0))) := by rw [← unhide HSP, ← unhide HE]; exact hg4
        have HBF := hide hb4
        clear hg4 hb4 hsl
        go_wp2
        go_roundw
        case rel => exact ⟨k + 1, by omega, by go_num, HSF, HBF⟩
        case measure => simp [intOf]; omega
    · have hkn : k = xs.length := by omega
      subst hkn
      have hsl := slice64h wr w.heap.size xs.length hl
      have hcv := run_convert_bytes_arg (P := Tryd.prog) wr 22 5 Tryd.underlying22 Tryd.underlying5 w.heap.size 0 (xs.length * 4) 64 (packL xs) (packL_length xs) (arrL_cells (unhide HO)) 9 Tryd.underlying9
      go_wp2
      go_ret
      exact ⟨rfl, unhide HB⟩

end Go.Proofs.YtefnapcegeojoaaDoor

namespace Go.Proofs.YtefnapcegeojoaaDoor
open Go.RowKit
set_option linter.unusedVariables false
set_option maxRecDepth 100000

theorem nums_no {xs : List Int} {k : Nat} (hk : k < xs.length) (h : numB xs[k] = false) : xs.all numB = false := all_not (p := numB) hk h
theorem nums_all {xs : List Int} (h : ∀ j (hj : j < xs.length), numB xs[j] = true) : xs.all numB = true := all_of (p := numB) (fun i hi _ => h i hi)

set_option maxHeartbeats 800000 in
theorem areNumbers_any (ao : Option Addr) (cap : Nat) (xs : List Int) (w : World) (hl : xs.length ≤ maxLen) (hc : Is w ao xs) :
    Calls Tryd.prog 90 #[.slice ao xs.length cap] w fun e w' => e = .returned (.bool (xs.all numB)) ∧ w' = w := by
  have HC := hide hc
  clear hc
  unfold maxLen at hl
  obtain ⟨R, HR⟩ : ∃ R, Hid (R = xs.all numB) := ⟨_, hide rfl⟩
  rw [← unhide HR]
  go_enter Tryd.func90, Tryd.ntmps90
  go_wp2
  go_loop [7] (fun i => ∃ k : Nat, k ≤ xs.length ∧ i = .int .i64 k ∧ Hid (∀ j (h : j < xs.length), j < k → numB xs[j] = true)) (fun i => xs.length - (intOf i).toNat)
  case atStart => exact ⟨0, Nat.zero_le _, rfl, hide (fun j _ h => by omega)⟩
  case round =>
    obtain ⟨k, hk, rfl, HA⟩ := hrel
    by_cases hlt : k < xs.length
    · obtain ⟨b, off, rfl, hc⟩ := unhide HC k hlt
      cases hn : numB xs[k]
      · have HF := hide (nums_no hlt hn)
        go_wp2_with (go_at_call 33; refine (isNumber_any _ _).mono ?_; rintro e w' ⟨rfl, hw⟩; replace hw := hw.symm; subst hw; rw [hn])
        go_ret
        exact ⟨ret_bool (by rw [unhide HR, unhide HF]), rfl⟩
      · have HN := hide (all_succ hlt (unhide HA) hn)
        go_wp2_with (go_at_call 33; refine (isNumber_any _ _).mono ?_; rintro e w' ⟨rfl, hw⟩; replace hw := hw.symm; subst hw; rw [hn])
        go_round
        case rel => exact ⟨k + 1, by omega, by go_num, HN⟩
        case measure => simp [intOf]; omega
    · have HF := hide (nums_all (fun j h => unhide HA j h (by omega)))
      go_wp2
      go_ret
      exact ⟨ret_bool (by rw [unhide HR, unhide HF]), rfl⟩

end Go.Proofs.YtefnapcegeojoaaDoor

namespace Go.Proofs.YtefnapcegeojoaaDoor
open Go.RowKit
set_option linter.unusedVariables false
set_option maxRecDepth 100000

theorem intsB_all_no {xs : List Int} (h : xs.all numB = false) : intsB xs = false := by rw [intsB, allB, h]; rfl
theorem intsB_all {xs : List Int} (hl : xs.length ≤ 16) (h : xs.all numB = true) : intsB xs = true := by rw [intsB, allB, h, decide_eq_true hl]; rfl

set_option maxHeartbeats 800000 in
theorem listFault_any (ao : Option Addr) (cap : Nat) (xs : List Int) (w : World) (hl : xs.length ≤ 1048576) (hc : Is w ao xs) :
    Calls Tryd.prog 79 #[.slice ao xs.length cap] w fun e w' => e = .returned (.int .i64 (listC xs)) ∧ w' = w := by
  have HC := hide hc
  clear hc
  by_cases h1 : 4096 < xs.length
  · have HF := hide (listC_long h1)
    go_enter Tryd.func79, Tryd.ntmps79
    go_wp2
    go_ret
    exact ⟨ret_int (unhide HF).symm, rfl⟩
  by_cases h2 : 16 < xs.length
  · have HF := hide (listC_bad h1 (intsB_long h2))
    go_enter Tryd.func79, Tryd.ntmps79
    go_wp2
    go_ret
    exact ⟨ret_int (unhide HF).symm, rfl⟩
  cases hn : xs.all numB
  · have HF := hide (listC_bad h1 (intsB_all_no hn))
    go_enter Tryd.func79, Tryd.ntmps79
    go_wp2_with (go_at_call 90; refine (areNumbers_any _ _ _ _ (by unfold maxLen; omega) (unhide HC)).mono ?_; rintro e w' ⟨rfl, hw⟩; replace hw := hw.symm; subst hw; rw [hn])
    go_ret
    exact ⟨ret_int (unhide HF).symm, rfl⟩
  · have HF := hide (listC_ok (xs := xs) h1 (intsB_all (by omega) hn))
    go_enter Tryd.func79, Tryd.ntmps79
    go_wp2_with (go_at_call 90; refine (areNumbers_any _ _ _ _ (by unfold maxLen; omega) (unhide HC)).mono ?_; rintro e w' ⟨rfl, hw⟩; replace hw := hw.symm; subst hw; rw [hn])
    go_ret
    exact ⟨ret_int (unhide HF).symm, rfl⟩

end Go.Proofs.YtefnapcegeojoaaDoor

namespace Go.Proofs.YtefnapcegeojoaaDoor
set_option linter.unusedVariables false

theorem ret_si {a b : ByteArray} {c d : Int} (h : a = b) (k : c = d) : Ending.returned (.tuple #[.string a, .int .i64 c]) = .returned (.tuple #[.string b, .int .i64 d]) := by rw [h, k]

end Go.Proofs.YtefnapcegeojoaaDoor

namespace Go.Proofs.YtefnapcegeojoaaDoor
open Go.RowKit
set_option linter.unusedVariables false
set_option maxRecDepth 100000

theorem kindOK_any (n : Int) (w : World) : Calls Tryd.prog 80 #[.int .i64 n] w fun e w' => e = .returned (.bool (kindB n)) ∧ w' = w := by
  go_enter Tryd.func80, Tryd.ntmps80
  go_wp2
  all_goals
    go_ret
    exact ⟨ret_bool (by rw [Bool.eq_iff_iff]; simp [kindB, inB]; omega), rfl⟩

end Go.Proofs.YtefnapcegeojoaaDoor

namespace Go.Proofs.YtefnapcegeojoaaDoor
open Go.RowKit
set_option linter.unusedVariables false
set_option maxRecDepth 100000

theorem arr2 (W : World) (g : Nat) (a b c d : Int) (h : W.heap.size = g) : (convert 22 9 (.slice (some ⟨g, 0, none⟩) 2 4)).run Tryd.prog (W.alloc (.cells #[.int .u8 a, .int .u8 b, .int .u8 c, .int .u8 d] 118)) = .ok (.string (strOfNums [a, b])) (W.alloc (.cells #[.int .u8 a, .int .u8 b, .int .u8 c, .int .u8 d] 118)) := by
  subst h
  refine run_convert_bytes_arg _ 22 5 Tryd.underlying22 Tryd.underlying5 W.heap.size 0 2 4 [a, b] rfl ?_ 9 Tryd.underlying9
  intro i hi
  rcases (show i = 0 ∨ i = 1 by omega) with rfl | rfl <;> simp [go_sem, List.getD]
theorem arr4 (W : World) (g : Nat) (a b c d : Int) (h : W.heap.size = g) : (convert 22 9 (.slice (some ⟨g, 0, none⟩) 4 4)).run Tryd.prog (W.alloc (.cells #[.int .u8 a, .int .u8 b, .int .u8 c, .int .u8 d] 118)) = .ok (.string (strOfNums [a, b, c, d])) (W.alloc (.cells #[.int .u8 a, .int .u8 b, .int .u8 c, .int .u8 d] 118)) := by
  subst h
  refine run_convert_bytes_arg _ 22 5 Tryd.underlying22 Tryd.underlying5 W.heap.size 0 4 4 [a, b, c, d] rfl ?_ 9 Tryd.underlying9
  intro i hi
  rcases (show i = 0 ∨ i = 1 ∨ i = 2 ∨ i = 3 by omega) with rfl | rfl | rfl | rfl <;> simp [go_sem, List.getD]
theorem sum_impl (k : Int) (xs : List Int) (w : World) (hl : xs.length ≤ 16) : Calls Tryd.prog 82 #[.string (strOfNums [k, (xs.length : Int)] ++ packS xs)] w fun e w' => e = .returned (.int .i64 (sumR k xs)) ∧ w' = w := by
  have h := sumOf_impl (sumT k xs) w (by rw [sumT_size]; omega)
  rw [sumC_short (by rw [sumT_size]; omega)] at h
  exact h

set_option maxHeartbeats 1600000 in
theorem sealRecord_impl (k : Int) (ao : Option Addr) (cap : Nat) (xs : List Int) (w : World) (hl : xs.length ≤ 1048576) (hc : Is w ao xs) :
    Calls Tryd.prog 61 #[.int .i64 k, .slice ao xs.length cap] w fun e w' => e = .returned (.tuple #[.string (sealT k xs), .int .i64 (sealC k xs)]) ∧ Below w.heap.size w w' := by
  have HC := hide hc
  clear hc
  by_cases h2 : listC xs = 0
  · have HL := hide h2
    have hb : (listC xs != 0) = false := by simp [h2]
    have HP := hide (intsB_parts (listC_zero h2))
    clear h2
    by_cases h3 : kindB k = true
    · have HF := hide (sealC_ok (unhide HL) h3)
      obtain ⟨hk0, hk1⟩ := kindB_in h3
      have hl16 := (unhide HP).2
      have hp := packS_size xs
      have hs2 : (strOfNums [k, (xs.length : Int)]).size = 2 := strOfNums_size _
      have hs4 : (strOfNums [k, (xs.length : Int), sumR k xs, 0]).size = 4 := strOfNums_size _
      obtain ⟨hr0, hr1⟩ := sumR_in k xs
      go_enter Tryd.func61, Tryd.ntmps61
      go_wp2_with (first | (go_at_call 79; refine (listFault_any _ _ xs _ hl (unhide HC)).mono ?_; rintro e w' ⟨rfl, rfl⟩) | (go_at_call 80; refine (kindOK_any _ _).mono ?_; rintro e w' ⟨rfl, rfl⟩) | (go_at_call 81; refine (packNumbers_any _ _ xs _ (unhide HP).2 (unhide HP).1 (unhide HC)).mono ?_; rintro e w1 ⟨rfl, hb1⟩; have HB1 := hide hb1; clear hb1; have hc2 := arr2 w1 w1.heap.size k xs.length 0 0 rfl) | (go_at_call 82; refine (sum_impl k xs _ hl16).mono ?_; rintro e w' ⟨rfl, rfl⟩; have hc4 := arr4 w1 w1.heap.size k xs.length (sumR k xs) 0 rfl))
      go_ret2
      exact ⟨ret_si (sealT_ok (unhide HF)).symm (unhide HF).symm, fr (unhide HB1) (Joins.below_alloc1 _ _)⟩
    · have h4 : kindB k = false := by simpa using h3
      have HF := hide (sealC_kind (unhide HL) h4)
      clear h3
      go_enter Tryd.func61, Tryd.ntmps61
      go_wp2_with (first | (go_at_call 79; refine (listFault_any _ _ xs _ hl (unhide HC)).mono ?_; rintro e w' ⟨rfl, rfl⟩) | (go_at_call 80; refine (kindOK_any _ _).mono ?_; rintro e w' ⟨rfl, rfl⟩))
      go_ret2
      exact ⟨ret_si (sealT_no (by rw [unhide HF]; decide)).symm (unhide HF).symm, Below.refl _ _⟩
  · have HF := hide (sealC_list (k := k) h2)
    have HNE := hide h2
    have hb : (listC xs != 0) = true := by simp [h2]
    clear h2
    go_enter Tryd.func61, Tryd.ntmps61
    go_wp2_with (go_at_call 79; refine (listFault_any _ _ xs _ hl (unhide HC)).mono ?_; rintro e w' ⟨rfl, rfl⟩)
    go_ret2
    exact ⟨ret_si (sealT_no (by rw [unhide HF]; exact unhide HNE)).symm (unhide HF).symm, Below.refl _ _⟩

end Go.Proofs.YtefnapcegeojoaaDoor

namespace Go.Proofs.YtefnapcegeojoaaDoor
open Go.RowKit
set_option linter.unusedVariables false
set_option maxRecDepth 100000

theorem within_inJ (n low high : Int) (w : World) : Calls Tryd.prog 57 #[.int .i64 n, .int .i64 low, .int .i64 high] w fun e w' => e = .returned (.bool (inB n low high)) ∧ w' = w := within_any n low high w

theorem slotOf_impl (h : Int) (w : World) : Calls Tryd.prog 17 #[.int .i64 h] w fun e w' => e = .returned (.tuple #[.int .i64 (slR h), .int .i64 (slC h)]) ∧ w' = w := by
  go_enter Tryd.func17, Tryd.ntmps17
  go_wp2_with fail
  refine (hostOK_any h _).mono ?_
  rintro e w1 ⟨rfl, rfl⟩
  by_cases hh : inB h 0 3 = true
  · have HE : Hid (slR h = slN h ∧ slC h = 0) := hide ⟨if_pos hh, if_pos hh⟩
    have h1 : 0 ≤ h ∧ h ≤ 3 := by simpa [inB] using hh
    have wr1 : IntKind.i64.wrap (6 * h) = 6 * h := by rw [IntKind.wrap_i64]; omega
    have wr2 : IntKind.i64.wrap (39 + 6 * h) = 39 + 6 * h := by rw [IntKind.wrap_i64]; omega
    clear h1
    go_wp2
    go_ret2
    exact ⟨ret_two2 (unhide HE).1.symm (unhide HE).2.symm, rfl⟩
  · have HE : Hid (slR h = 0 ∧ slC h = 4) := hide ⟨if_neg hh, if_neg hh⟩
    rw [Bool.not_eq_true] at hh
    go_wp2
    go_ret2
    exact ⟨ret_two2 (unhide HE).1.symm (unhide HE).2.symm, rfl⟩

set_option maxHeartbeats 1600000 in
theorem updateOK_any (u : Up) (w : World) (hz : u.data.size ≤ maxLen) : Calls Tryd.prog 34 #[uV u] w fun e w' => e = .returned (.bool (upB u)) ∧ Below w.heap.size w w' := by
  unfold maxLen at hz
  go_enter Tryd.func34, Tryd.ntmps34
  go_wp2_with fail
  refine (within_inJ u.at_ 9 38 _).mono ?_
  rintro e w1 ⟨rfl, rfl⟩
  by_cases h1 : inB u.at_ 9 38 = false
  · have hr : Hid (upB u = false) := hide (by simp [upB, h1])
    go_wp2
    go_ret
    rw [unhide hr]
    exact ⟨rfl, Joins.below_alloc1 _ _⟩
  rw [Bool.not_eq_false] at h1
  have hr : Hid (upB u = decide ((u.data.size : Int) ≤ 72)) := hide (by simp [upB, h1]; omega)
  go_wp2
  go_ret
  rw [unhide hr]
  exact ⟨rfl, Joins.below_alloc1 _ _⟩

end Go.Proofs.YtefnapcegeojoaaDoor

namespace Go.Proofs.YtefnapcegeojoaaDoor
open Go.RowKit
set_option linter.unusedVariables false
set_option maxRecDepth 100000

theorem infoMx : (Tryd.prog.info? 57).map (fun i => (i.zero, i.size, i.bytes)) = some (some (.agg #[.int .i64 0, .int .i64 0, .string ⟨#[]⟩]), 3, 32) := by kernel_rfl
def VarPl (w : World) (x : Nat) (v : Value) : Prop := w.heap[x]? = some (.cells #[v] 98 (0, 0))
theorem VarPl.lt {w : World} {x : Nat} {v : Value} (h : VarPl w x v) : x < w.heap.size := (Array.getElem?_eq_some_iff.1 h).1
theorem VarPl.cell {w : World} {x : Nat} {v : Value} (h : VarPl w x v) : w.cell? ⟨x, 0, none⟩ = some v ∧ w.frozen? ⟨x, 0, none⟩ = false := ⟨by rw [Joins.cell_of_block h]; rfl, Joins.unfrozen_of_block h 0⟩
theorem VarPl.below {w w' : World} {x : Nat} {v : Value} (h : VarPl w x v) (hb : Below w.heap.size w w') : VarPl w' x v := by
  unfold VarPl; rw [hb.block x h.lt]; exact h
theorem VarPl.keep {S : Nat → Prop} {w w' : World} {x : Nat} {v : Value} (h : VarPl w x v) (hk : Keep S w w') (hs : ¬ S x) : VarPl w' x v := by
  unfold VarPl; rw [hk.block x h.lt hs]; exact h
theorem VarPl.new (w : World) (v : Value) : VarPl (w.alloc (.cells #[v] 98)) w.heap.size v := heap_alloc_new w _
theorem VarPl.set {w : World} {x : Nat} {v : Value} (h : VarPl w x v) (u : Value) : VarPl (w.setCell ⟨x, 0, none⟩ u) x u := Joins.block_setCell h u
theorem pl_ne : (98 : Nat) ≠ 57 := by decide
theorem ApS.setX {w W : World} {qo : Option Addr} {n qa x : Nat} {ms : List Wr} {v : Value} (h : ApS w W qo n qa ms) (hx : VarPl W x v) (hle : w.heap.size ≤ x) (u : Value) : ApS w (W.setCell ⟨x, 0, none⟩ u) qo n qa ms :=
  ⟨h.o.keep ((Keep.refl (fun k => k = x) W).setCell (p := ⟨x, 0, none⟩) rfl u) (fun g hg e => h.o.other hx pl_ne (e ▸ hg)), h.k.setCell (p := ⟨x, 0, none⟩) hle u⟩

set_option maxHeartbeats 1600000 in
theorem flush_d (w0 W : World) (x : Nat) (qo : Option Addr) (n qa : Nat) (ms : List Wr) (u : FrameMode) (ha : ApS w0 W qo n qa ms) (hx : VarPl W x (.slice qo n qa)) (hle : w0.heap.size ≤ x) (hn : n ≤ 1000) :
    CallsD Tryd.prog 78 #[.pointer (some ⟨x, 0, none⟩)] u W fun e u' W' => u' = u ∧ e = .returned (.tuple #[]) ∧ ∃ g qa', VarPl W' x (.slice (some ⟨g, 0, none⟩) (n + 1) qa') ∧ ApS w0 W' (some ⟨g, 0, none⟩) (n + 1) qa' (ms ++ [mvF]) := by
  obtain ⟨i0, hi, hz0, hz1, hz2⟩ := info_parts infoMx
  obtain ⟨hc, hf⟩ := hx.cell
  have hxl := hx.lt
  have HX := hide (hx.below (Joins.below_alloc1 W (.cells #[.int .i64 2, .int .i64 0, .string ⟨#[]⟩] 57)))
  have HA := hide (ha.next (Joins.below_alloc1 W (.cells #[.int .i64 2, .int .i64 0, .string ⟨#[]⟩] 57)))
  have HSZ := hide (unhide HA).sz
  clear hx ha
  go_enter_d Tryd.func78, Tryd.ntmps78
  go_wp2_with (at_builtin; refine wpList_append_one rfl _ _ 26 rfl w0.heap.size 57 i0 (.agg #[.int .i64 0, .int .i64 0, .string ⟨#[]⟩]) 3 32 Tryd.underlying26 hi hz0 hz1 hz2 rfl (by omega) qo n qa (ioV ms) rfl (unhide HA).o (unhide HSZ) ⟨W.heap.size, 0, none⟩ _ (wrV mvF) rfl rfl (news3 W mvF _) (wrV_one _) (by unfold maxLen; omega) (by omega) ?_; intro g2 cap2 wA hoA hkA; have HVA := hide ((unhide HX).keep hkA ((unhide HA).o.other (unhide HX) pl_ne)); have HN := hide (ApS.one (unhide HA) hoA hkA); obtain ⟨hcA, hfA⟩ := (unhide HVA).cell; clear hoA hkA)
  go_end0
  exact ⟨rfl, g2, cap2, (unhide HVA).set _, (unhide HN).setX (unhide HVA) hle _⟩

set_option maxHeartbeats 1600000 in
theorem addSure_any (w0 W : World) (x : Nat) (qo : Option Addr) (n qa : Nat) (ms : List Wr) (ao : Option Addr) (cap m : Nat) (ws : List Wr) (ha : ApS w0 W qo n qa ms) (hx : VarPl W x (.slice qo n qa)) (hle : w0.heap.size ≤ x) (hw : Ios W ao ws) (hm : m = ws.length) (hp : 0 < m) (hn : n ≤ 100) (hl : m ≤ 100) :
    Calls Tryd.prog 59 #[.pointer (some ⟨x, 0, none⟩), .slice ao m cap] W fun e W' => e = .returned (.tuple #[]) ∧ ∃ g qa', VarPl W' x (.slice (some ⟨g, 0, none⟩) (n + m + 1) qa') ∧ ApS w0 W' (some ⟨g, 0, none⟩) (n + m + 1) qa' (ms ++ ws ++ [mvF]) := by
  obtain ⟨i0, hi, hz0, hz1, hz2⟩ := info_parts infoMx
  obtain ⟨hc, hf⟩ := hx.cell
  have hxl := hx.lt
  have HX := hide hx
  have HA := hide ha
  have HW := hide (hw.src (by omega))
  have HL : Hid ((ioV ws).length = m * 3) := hide (by rw [ioV_length, hm])
  have HSZ := hide ha.sz
  clear hx ha hw hm
  go_enter_defers Tryd.func59, Tryd.ntmps59
  go_wp2_with (at_builtin; refine wpList_append_many rfl _ _ 26 rfl w0.heap.size 57 i0 (.agg #[.int .i64 0, .int .i64 0, .string ⟨#[]⟩]) 3 32 Tryd.underlying26 hi hz0 hz1 hz2 rfl (by omega) qo n qa (ioV ms) rfl (unhide HA).o (unhide HSZ) ao m cap (ioV ws) rfl hp (unhide HL) (fun _ => unhide HW) (ioV_one _) (by unfold maxLen; omega) (by omega) ?_; intro g2 cap2 wA hoA hkA; have HVA := hide ((unhide HX).keep hkA ((unhide HA).o.other (unhide HX) pl_ne)); have HN := hide (ApS.app (unhide HA) rfl (by omega) hoA hkA); obtain ⟨hcA, hfA⟩ := (unhide HVA).cell; clear hoA hkA)
  refine leaves_cons (f := 78) (args := #[.pointer (some ⟨x, 0, none⟩)]) (by simp) (by simp [go_sem]) ?_
  refine (flush_d w0 _ x (some ⟨g2, 0, none⟩) (n + m) cap2 (ms ++ ws) _ ((unhide HN).setX (unhide HVA) hle _) ((unhide HVA).set _) hle (by omega)).mono ?_
  rintro e u' w'' ⟨rfl, rfl, g, qa', hv, hap⟩
  have HV2 := hide hv
  have HA2 := hide hap
  clear hv hap
  simp [Leaves, settle, results, Tryd.results59, go_sem]
  exact ⟨g, qa', unhide HV2, by simpa using unhide HA2⟩

structure Part where
  ao : Option Addr
  cap : Nat
  ws : List Wr
def Parts (w : World) (p : Nat) (ps : List Part) : Prop := ∀ i (h : i < ps.length), w.cell? ⟨p, i, none⟩ = some (.slice ps[i].ao ps[i].ws.length ps[i].cap) ∧ Ios w ps[i].ao ps[i].ws ∧ 0 < ps[i].ws.length ∧ ps[i].ws.length ≤ 20
def plM (ps : List Part) : List Wr := ps.flatMap fun q => q.ws ++ [mvF]
theorem plM_succ {ps : List Part} {k : Nat} (h : k < ps.length) : plM (ps.take (k + 1)) = plM (ps.take k) ++ ps[k].ws ++ [mvF] := by
  unfold plM
  rw [List.take_succ_eq_append_getElem h, List.flatMap_append]
  simp only [List.flatMap_cons, List.flatMap_nil, List.append_nil, List.append_assoc]

set_option maxHeartbeats 1600000 in
theorem planOf_any (p cap : Nat) (ps : List Part) (w : World) (hl : ps.length ≤ 2) (hp : Parts w p ps) :
    Calls Tryd.prog 36 #[.slice (some ⟨p, 0, none⟩) ps.length cap] w fun e w' => ∃ qo n qa, e = .returned (.slice qo n qa) ∧ ApS w w' qo n qa (plM ps) := by
  have HP := hide hp
  clear hp
  have HA0 : Hid (ApS w (w.alloc (.cells #[.slice none 0 0] 98)) none 0 0 (plM (ps.take 0))) := hide ⟨.inl ⟨rfl, rfl, _, rfl⟩, Joins.below_alloc1 _ _⟩
  have HV0 := hide (VarPl.new w (.slice none 0 0))
  go_enter Tryd.func36, Tryd.ntmps36
  go_wp2
  go_loopw [8] (fun i wr => ∃ (k : Nat) (qo : Option Addr) (n qa : Nat), k ≤ ps.length ∧ i = .int .i64 k ∧ n ≤ k * 21 ∧ Hid (VarPl wr w.heap.size (.slice qo n qa)) ∧ Hid (ApS w wr qo n qa (plM (ps.take k)))) (fun i _ => ps.length - (intOf i).toNat)
  case atStart => exact ⟨0, _, 0, _, Nat.zero_le _, rfl, Nat.zero_le _, HV0, HA0⟩
  case round =>
    obtain ⟨k, qo, n, qa, hk, rfl, hn, HV, HA⟩ := hrel
    by_cases hlt : k < ps.length
    · obtain ⟨hc, hios, hp0, hp5⟩ := unhide HP k hlt
      have hcr := ((unhide HA).k.cell (p := ⟨p, k, none⟩) (World.block_lt_of_cell? _ _ hc)).trans hc
      have HI := hide (hios.below (unhide HA).k)
      have hq : k * 21 ≤ 42 := by omega
      obtain ⟨M, hM⟩ : ∃ M, M = ps[k].ws.length := ⟨_, rfl⟩
      rw [← hM] at hcr hp0 hp5
      have HM := hide hM
      clear hc hios hM
      go_wp2_with fail
      refine (addSure_any w _ w.heap.size qo n qa (plM (ps.take k)) ps[k].ao ps[k].cap M ps[k].ws (unhide HA) (unhide HV) (Nat.le_refl _) (unhide HI) (unhide HM) hp0 (by omega) (by omega)).mono ?_
      rintro e w2 ⟨rfl, g, qa', hv, ha⟩
      have HV2 := hide hv
      have HA2 : Hid (ApS w w2 (some ⟨g, 0, none⟩) (n + M + 1) qa' (plM (ps.take (k + 1)))) := hide (by rw [plM_succ hlt]; exact ha)
      clear hv ha
      go_wp2
      go_roundw
      case rel => exact ⟨k + 1, _, _, _, by omega, by go_num, by omega, HV2, HA2⟩
      case measure => simp [intOf]; omega
    · have hke : k = ps.length := by omega
      subst hke
      have HA1 : Hid (ApS w wr qo n qa (plM ps)) := hide (by have := unhide HA; rwa [List.take_of_length_le (Nat.le_refl _)] at this)
      obtain ⟨hc, _⟩ := (unhide HV).cell
      go_wp2
      go_ret
      exact ⟨_, _, _, rfl, unhide HA1⟩

end Go.Proofs.YtefnapcegeojoaaDoor

namespace Go.Proofs.YtefnapcegeojoaaDoor
open Go.RowKit
set_option linter.unusedVariables false
set_option maxRecDepth 100000

abbrev jV (slot seq : Int) (ao : Option Addr) (n cap : Nat) : Value := .agg #[.int .i64 slot, .int .i64 seq, .slice ao n cap]
def VarJ (w : World) (x : Nat) (t : TypeId) (slot seq : Int) (v : Value) : Prop := w.heap[x]? = some (.cells #[.int .i64 slot, .int .i64 seq, v] t (0, 0))
theorem VarJ.lt {w : World} {x : Nat} {t : TypeId} {slot seq : Int} {v : Value} (h : VarJ w x t slot seq v) : x < w.heap.size := (Array.getElem?_eq_some_iff.1 h).1
theorem VarJ.cells {w : World} {x : Nat} {t : TypeId} {slot seq : Int} {v : Value} (h : VarJ w x t slot seq v) : w.cell? ⟨x, 0, none⟩ = some (.int .i64 slot) ∧ w.cell? ⟨x, 1, none⟩ = some (.int .i64 seq) ∧ w.cell? ⟨x, 2, none⟩ = some v := ⟨by rw [Joins.cell_of_block h]; rfl, by rw [Joins.cell_of_block h]; rfl, by rw [Joins.cell_of_block h]; rfl⟩
theorem VarJ.free {w : World} {x : Nat} {t : TypeId} {slot seq : Int} {v : Value} (h : VarJ w x t slot seq v) (i : Nat) : w.frozen? ⟨x, i, none⟩ = false := Joins.unfrozen_of_block h i
theorem VarJ.below {w w' : World} {x : Nat} {t : TypeId} {slot seq : Int} {v : Value} (h : VarJ w x t slot seq v) (hb : Below w.heap.size w w') : VarJ w' x t slot seq v := by
  unfold VarJ; rw [hb.block x h.lt]; exact h
theorem VarJ.new (w : World) (t : TypeId) (slot seq : Int) (v : Value) : VarJ (w.alloc (.cells #[.int .i64 slot, .int .i64 seq, v] t)) w.heap.size t slot seq v := heap_alloc_new w _
theorem ios_one (w : World) (n : Nat) (x : Wr) (t : TypeId) (hn : w.heap.size = n) (hz : x.data.size ≤ maxLen) : Ios (w.alloc (.cells #[.int .i64 x.host, .int .i64 x.at_, .string x.data] t)) (some ⟨n, 0, none⟩) [x] := by
  subst hn
  intro i hi
  have hi' : i < 1 := hi
  rcases (show i = 0 by omega) with rfl
  exact ⟨w.heap.size, 0, rfl, by simp [go_sem], by simp [go_sem], by simp [go_sem], hz⟩

set_option maxHeartbeats 1600000 in
theorem head_any (slot seq : Int) (ao : Option Addr) (n cap : Nat) (c : Int) (w : World) (hc : 0 ≤ c ∧ c ≤ 5) (hs : numB seq = true) :
    Calls Tryd.prog 38 #[jV slot seq ao n cap, .int .i64 c] w fun e w' => ∃ qo, e = .returned (.slice qo 1 1) ∧ Ios w' qo [mvH slot c seq] ∧ Below w.heap.size w w' := by
  have HD := hide (hd_seal hc hs)
  have HA := hide (Joins.below_alloc1 w (.cells #[.int .i64 slot, .int .i64 seq, .slice ao n cap] 51))
  have HV := hide ((VarJ.new w 51 slot seq (.slice ao n cap)).below (Joins.below_alloc1 _ (.cells #[.int .i64 c, .int .i64 seq] 3)))
  clear hc hs
  go_enter Tryd.func38, Tryd.ntmps38
  go_wp2_with fail
  refine (sealRecord_impl 7 _ 2 [c, seq] _ (by simp) (is2 _ _ _ _ _ (by simp))).mono ?_
  rintro e w1 ⟨rfl, hb⟩
  have HB := hide (fr (belowAl (unhide HA) _) hb)
  obtain ⟨c0, c1, c2⟩ := ((unhide HV).below hb).cells
  clear hb
  rw [(unhide HD).1, (unhide HD).2]
  go_wp2
  go_ret
  exact ⟨_, rfl, ios_one w1 _ (mvH slot c seq) _ (by simp) (by show (hdT c seq).size ≤ maxLen; rw [hdT_size]; unfold maxLen; omega), belowAl (unhide HB) _⟩

set_option maxHeartbeats 3200000 in
theorem changes_any (slot seq : Int) (ao : Option Addr) (cap : Nat) (us : List Up) (w : World) (hl : us.length ≤ 5) (hu : Ups w ao us) :
    Calls Tryd.prog 50 #[jV slot seq ao us.length cap] w fun e w' => ∃ qo qa, e = .returned (.slice qo us.length qa) ∧ ApS w w' qo us.length qa (chL us) := by
  have HU := hide hu
  clear hu
  obtain ⟨i0, hi, hz0, hz1, hz2⟩ := info_parts infoMx
  have HV := hide (VarJ.new w 51 slot seq (.slice ao us.length cap))
  have H0 : Hid (ApS w (w.alloc (.cells #[.int .i64 slot, .int .i64 seq, .slice ao us.length cap] 51)) none 0 0 []) := hide ⟨.inl ⟨rfl, rfl, _, rfl⟩, Joins.below_alloc1 _ _⟩
  go_enter Tryd.func50, Tryd.ntmps50
  go_wp2
  go_loopw [3, 9] (fun o i wr => ∃ (k : Nat) (qo : Option Addr) (qa : Nat), k ≤ us.length ∧ i = .int .i64 k ∧ o = .slice qo k qa ∧ Hid (ApS w wr qo k qa ((chL us).take k))) (fun _ i _ => us.length - (intOf i).toNat)
  case atStart => exact ⟨0, _, _, Nat.zero_le _, rfl, rfl, H0⟩
  case round =>
    obtain ⟨k, qo, qa, hk, rfl, rfl, HA⟩ := hrel
    by_cases hlt : k < us.length
    · obtain ⟨b, off, rfl, hc0, hc1, hcz⟩ := (unhide HU).below (unhide HA).k k hlt
      have hbl := World.block_lt_of_cell? _ _ hc0
      clear hcz
      have HAA := hide (((unhide HA).next (Joins.below_alloc1 wr (.cells #[.int .i64 us[k].at_, .string us[k].data] 42))).next (Joins.below_alloc1 _ (.cells #[.int .i64 1, .int .i64 us[k].at_, .string us[k].data] 57)))
      have HSZ := hide (unhide HAA).sz
      go_wp2_with (at_builtin; refine wpList_append_one rfl _ _ 26 rfl w.heap.size 57 i0 (.agg #[.int .i64 0, .int .i64 0, .string ⟨#[]⟩]) 3 32 Tryd.underlying26 hi hz0 hz1 hz2 rfl (by omega) qo k qa (ioV ((chL us).take k)) rfl (unhide HAA).o (unhide HSZ) ⟨wr.heap.size + 1, 0, none⟩ _ (wrV (mvW us[k])) rfl rfl (news3_at _ _ (mvW us[k]) _ (by simp)) (wrV_one _) (by unfold maxLen; omega) (by omega) ?_; intro g2 cap2 wA hoA hkA; have HN := hide (ApS.one (unhide HAA) hoA hkA); clear hoA hkA)
      go_roundw
      case rel => exact ⟨k + 1, _, _, by omega, by go_num, rfl, hide (by rw [chL_take hlt]; exact unhide HN)⟩
      case measure => simp [intOf]; omega
    · have hke : k = us.length := by omega
      subst hke
      have HA1 : Hid (ApS w wr qo us.length qa (chL us)) := hide (by have := unhide HA; rwa [chL_done (Nat.le_refl _)] at this)
      go_wp2
      go_ret
      exact ⟨_, _, rfl, unhide HA1⟩

set_option maxHeartbeats 1600000 in
theorem place_any (slot seq : Int) (ao : Option Addr) (n cap k : Nat) (w : World) (hs : 0 ≤ slot ∧ slot ≤ 1000) (hk : k ≤ 1000) :
    Calls Tryd.prog 49 #[jV slot seq ao n cap, .int .i64 k] w fun e w' => e = .returned (.int .i64 (slot + 1 + k)) ∧ Below w.heap.size w w' := by
  have wr1 : IntKind.i64.wrap (slot + 1) = slot + 1 := by rw [IntKind.wrap_i64]; omega
  have wr2 : IntKind.i64.wrap (slot + 1 + (k : Int)) = slot + 1 + (k : Int) := by rw [IntKind.wrap_i64]; omega
  go_enter Tryd.func49, Tryd.ntmps49
  go_wp2
  go_ret
  exact ⟨rfl, Joins.below_alloc1 _ _⟩

theorem parts_two (w : World) (n : Nat) (t : TypeId) (p q : Part) (hn : w.heap.size = n) (hp : Ios w p.ao p.ws ∧ 0 < p.ws.length ∧ p.ws.length ≤ 20) (hq : Ios w q.ao q.ws ∧ 0 < q.ws.length ∧ q.ws.length ≤ 20) :
    Parts (w.alloc (.cells #[.slice p.ao p.ws.length p.cap, .slice q.ao q.ws.length q.cap] t)) n [p, q] := by
  subst hn
  intro i hi
  have hi' : i < 2 := hi
  rcases (show i = 0 ∨ i = 1 by omega) with rfl | rfl
  · exact ⟨by simp [go_sem], hp.1.below (Joins.below_alloc1 _ _), hp.2.1, hp.2.2⟩
  · exact ⟨by simp [go_sem], hq.1.below (Joins.below_alloc1 _ _), hq.2.1, hq.2.2⟩

set_option maxHeartbeats 3200000 in
theorem toApply_any (slot seq : Int) (ao : Option Addr) (cap : Nat) (us : List Up) (w : World) (hl : us.length ≤ 5) (hs : us.length ≠ 0 → numB seq = true) (hub : upsB us = true) (hu : Ups w ao us) :
    Calls Tryd.prog 27 #[jV slot seq ao us.length cap] w fun e w' => ∃ qo n qa, e = .returned (.slice qo n qa) ∧ ApS w w' qo n qa (rpL slot seq us) := by
  have HA := hide (Joins.below_alloc1 w (.cells #[.int .i64 slot, .int .i64 seq, .slice ao us.length cap] 51))
  have HV := hide (VarJ.new w 51 slot seq (.slice ao us.length cap))
  by_cases h0 : us.length = 0
  · have hb0 : (((us.length : Nat) : Int) == 0) = true := by simp [h0]
    have HE : Hid (rpL slot seq us = []) := hide (if_pos h0)
    clear h0 hs hu hub
    go_enter Tryd.func27, Tryd.ntmps27
    go_wp2
    go_ret
    exact ⟨_, _, _, rfl, by rw [unhide HE]; exact ⟨.inl ⟨rfl, rfl, _, rfl⟩, unhide HA⟩⟩
  have hb0 : (((us.length : Nat) : Int) == 0) = false := by rw [beq_eq_false_iff_ne]; omega
  have HE : Hid (rpL slot seq us = apL slot seq us) := hide (if_neg h0)
  have HS := hide (hs h0)
  have HU := hide hu
  have HUB := hide hub
  have HPM : Hid (∀ po pa qo qa, plM [⟨po, pa, chL us⟩, ⟨qo, qa, [mvH slot 0 seq]⟩] = apL slot seq us) := hide (fun _ _ _ _ => by simp [plM, apL])
  have HPC : Hid (0 < (chL us).length ∧ (chL us).length ≤ 20) := hide (by rw [chL_length]; omega)
  clear hs hu hub
  obtain ⟨c0, c1, c2⟩ := (unhide HV).cells
  go_enter Tryd.func27, Tryd.ntmps27
  go_wp2
  go_region_held3 (fun w' => w'.cell? ⟨w.heap.size, 0, none⟩ = some (.int .i64 slot) ∧ w'.cell? ⟨w.heap.size, 1, none⟩ = some (.int .i64 seq) ∧ w'.cell? ⟨w.heap.size, 2, none⟩ = some (.slice ao us.length cap)) (go_keep)
    (first
      | (go_at_call 50; refine (changes_any slot seq ao cap us _ hl (by exact ((unhide HU).below (unhide HA)).below (Below.refl _ _).drew)).mono ?_; rintro e w2 ⟨po, pa, rfl, hap⟩; have HB2 := hide (fr (Below.refl _ _).drew hap.k); have HI2 : Hid (Ios w2 po (chL us)) := hide (ownMv (by have := hap.o; rwa [← chL_length us] at this) (short_ch (unhide HUB)).sizes); obtain ⟨d0, d1, d2⟩ := ((unhide HV).below (unhide HB2)).cells; clear hap)
      | (go_at_call 38; refine (head_any slot seq ao us.length cap 0 _ (by omega) (unhide HS)).mono ?_; rintro e w3 ⟨qo, rfl, hi3, hb3⟩; have HB3 := hide (fr (unhide HB2) hb3); have HI3 := hide hi3; have HI23 := hide ((unhide HI2).below hb3); obtain ⟨e0, e1, e2⟩ := ((unhide HV).below (unhide HB3)).cells; have hlt3 := ((unhide HV).below (unhide HB3)).lt; clear hi3 hb3)
      | (go_at_call 36; rw [show Value.slice (some ⟨w3.heap.size, 0, none⟩) 2 2 = .slice (some ⟨w3.heap.size, 0, none⟩) [(⟨po, pa, chL us⟩ : Part), ⟨qo, 1, [mvH slot 0 seq]⟩].length 2 from rfl]; refine (planOf_any w3.heap.size 2 [⟨po, pa, chL us⟩, ⟨qo, 1, [mvH slot 0 seq]⟩] _ (by simp) (by have := parts_two w3 w3.heap.size 26 ⟨po, pa, chL us⟩ ⟨qo, 1, [mvH slot 0 seq]⟩ rfl ⟨unhide HI23, (unhide HPC).1, (unhide HPC).2⟩ ⟨unhide HI3, by simp, by simp⟩; simp only [chL_length] at this; exact this)).mono ?_; rintro e w4 ⟨ro, rn, ra, rfl, hap⟩; have HB4 := hide (fr (unhide HB3) (fr (Joins.below_alloc1 _ _) hap.k)); have HAP := hide hap; obtain ⟨f0, f1, f2⟩ := ((unhide HV).below (unhide HB4)).cells; clear hap))
  all_goals
    have HF : Hid (ApS w w4 ro rn ra (apL slot seq us)) := hide (by
      have := unhide HAP
      rw [unhide HPM] at this
      exact ⟨this.o.base (by have h1 := (unhide HB3).size; have h2 := (unhide HA).size; simp at h1 ⊢; omega), fr (unhide HA) (unhide HB4)⟩)
    go_wp2
    go_ret
    exact ⟨_, _, _, rfl, by rw [unhide HE]; exact unhide HF⟩

end Go.Proofs.YtefnapcegeojoaaDoor
