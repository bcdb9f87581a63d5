import Derived.Test.YtboolfckaagfoabRows
import Derived.Test.YtboolfckaagfoabPart1
import Derived.Test.YtboolfckaagfoabPart6
import Derived.Test.YtboolfckaagfoabPart3
import Derived.Test.YtboolfckaagfoabPart4
import Derived.Test.YtboolfckaagfoabPart2
import Derived.Test.YtboolfckaagfoabPart9
import Derived.Test.YtboolfckaagfoabPart7
import Derived.Test.YtboolfckaagfoabPart8
import Derived.WalkKit
import Derived.WalkSpells
import Derived.KernelRfl
import Derived.LoopN
import Derived.Lib.SmallJoins
import Derived.BigQuiet
import Derived.Deep.QuietTactic
import Derived.Deep.CutRange
import Derived.Deep.RegionWith
import Derived.Deep.RegionHeld3

/- Contracts of spec's moves: l07Move, l07Do, MovesDo. -/
namespace Go.Proofs.Ytboolfckaagfoab
open Go.RowKit
set_option linter.unusedVariables false
set_option maxRecDepth 100000

abbrev wV (x : Wr) : Value := .agg #[.int .i64 x.host, .int .i64 x.at_, .string x.data]
theorem text_none {t : ByteArray} : t.toList.isEmpty = decide (t.size = 0) := by
  by_cases h : t.size = 0
  · obtain rfl := bytes0 h; rw [ByteArray.toList_eq]; rfl
  · rw [text_full h, decide_eq_false h]

set_option maxHeartbeats 1600000 in
theorem l07Move_any (m : Wr) (w : World) (hz : m.data.size ≤ maxLen) : Calls Try.prog 19 #[wV m] w fun e w' => e = .returned (.bool (mvB m)) ∧ Below w.heap.size w w' := by
  unfold maxLen at hz
  obtain ⟨k, a, d⟩ := m
  by_cases h1 : k = 1
  · subst h1
    have HE : Hid (mvB ⟨1, a, d⟩ = (inB a 0 63 && decide ((d.size : Int) ≤ 80))) := hide (by
      have e : decide (d.size ≤ 80) = decide ((d.size : Int) ≤ 80) := by rw [decide_eq_decide]; omega
      simp only [mvB, if_true]; rw [e])
    go_enter Try.func19, Try.ntmps19
    go_wp2_with fail
    refine (l01In_num a 0 63 _).mono ?_
    rintro e w1 ⟨rfl, rfl⟩
    by_cases h2 : inB a 0 63 = false
    · go_wp2
      go_ret
      rw [unhide HE, h2]
      exact ⟨rfl, Joins.below_alloc1 _ _⟩
    rw [Bool.not_eq_false] at h2
    go_wp2
    go_ret
    rw [unhide HE, h2]
    exact ⟨rfl, Joins.below_alloc1 _ _⟩
  · have h1b : (k == 1) = false := by simp [h1]
    by_cases h2 : k = 2
    · subst h2
      have HE : Hid (mvB ⟨2, a, d⟩ = (decide (a = 0) && d.toList.isEmpty)) := hide (by rw [text_none]; simp [mvB])
      by_cases h3 : a = 0
      · have h3b : (a == 0) = true := by simp [h3]
        have HE2 : Hid (mvB ⟨2, a, d⟩ = d.toList.isEmpty) := hide (by rw [unhide HE, decide_eq_true h3]; simp)
        clear h3
        go_enter Try.func19, Try.ntmps19
        go_wp2
        go_ret
        rw [unhide HE2]
        exact ⟨rfl, Joins.below_alloc1 _ _⟩
      · have h3b : (a == 0) = false := by simp [h3]
        have HE2 : Hid (mvB ⟨2, a, d⟩ = false) := hide (by rw [unhide HE, decide_eq_false h3]; simp)
        clear h3
        go_enter Try.func19, Try.ntmps19
        go_wp2
        go_ret
        rw [unhide HE2]
        exact ⟨rfl, Joins.below_alloc1 _ _⟩
    · have h2b : (k == 2) = false := by simp [h2]
      have HE : Hid (mvB ⟨k, a, d⟩ = false) := hide (by simp [mvB, h1, h2])
      clear h1 h2
      go_enter Try.func19, Try.ntmps19
      go_wp2
      go_ret
      rw [unhide HE]
      exact ⟨rfl, Joins.below_alloc1 _ _⟩

theorem l01Write_len (ao bo : Option Addr) (n m ca cb : Nat) (xs : List Wr) (x : Wr) (w : World) (hm' : m = xs.length) (hm : xs.length ≤ 1048576) (h2 : Ios w bo xs) (hz : ∀ y ∈ xs ++ [x], y.data.size ≤ maxLen) :
    Calls Try.prog 41 #[.agg #[.slice ao n ca, .slice bo m cb], wV x] w fun e w' => ∃ g cap, e = .returned (.agg #[.slice ao n ca, .slice (some ⟨g, 0, none⟩) (m + 1) cap]) ∧ Ios w' (some ⟨g, 0, none⟩) (xs ++ [x]) ∧ Below w.heap.size w w' := by
  subst hm'
  refine (l01Write_any ao bo n ca cb xs x w hm h2).mono ?_
  rintro e w' ⟨g, cap, rfl, ho, hb⟩
  exact ⟨g, cap, rfl, ownI (xs := xs ++ [x]) (by rw [List.length_append]; exact ho) hz, hb⟩

set_option maxHeartbeats 3200000 in
theorem l07Do_any (ao bo : Option Addr) (ca cb : Nat) (ss : List ByteArray) (xs : List Wr) (h : Int) (mo : Option Addr) (mc : Nat) (ms : List Wr) (w : World) (hh : 0 ≤ h ∧ h ≤ 3) (hd : diskB ss xs = true) (hmb : msB ms = true) (hl : xs.length + ms.length ≤ 200) (h1 : Ss w ao ss) (h2 : Ios w bo xs) (h3 : Ios w mo ms) :
    Calls Try.prog 21 #[.agg #[.slice ao ss.length ca, .slice bo xs.length cb], .int .i64 h, .slice mo ms.length mc] w fun e w' => ∃ po pa qo qa, e = .returned (.agg #[.slice po (dmL h ss xs ms).1.length pa, .slice qo (dmL h ss xs ms).2.length qa]) ∧ Ss w' po (dmL h ss xs ms).1 ∧ Ios w' qo (dmL h ss xs ms).2 ∧ Below w.heap.size w w' := by
  have HA := hide (Joins.below_alloc2 w (.cells #[.slice ao ss.length ca, .slice bo xs.length cb] 31) (.cells #[.slice none 0 0, .slice none 0 0] 31))
  have HR : Hid (VarD ((w.alloc (.cells #[.slice ao ss.length ca, .slice bo xs.length cb] 31)).alloc (.cells #[.slice none 0 0, .slice none 0 0] 31)) (w.heap.size + 1) (.slice none 0 0) (.slice none 0 0)) := hide (by have := VarD.new (w.alloc (.cells #[.slice ao ss.length ca, .slice bo xs.length cb] 31)) (.slice none 0 0) (.slice none 0 0); simp only [World.size_alloc] at this; exact this)
  have H0 : Hid (DkA w ((w.alloc (.cells #[.slice ao ss.length ca, .slice bo xs.length cb] 31)).alloc (.cells #[.slice none 0 0, .slice none 0 0] 31)) w.heap.size ao ca bo cb ss xs) := hide ⟨(VarD.new w _ _).below (Joins.below_alloc1 _ _), h1.below (unhide HA), h2.below (unhide HA), unhide HA⟩
  have HM := hide h3
  have HRT := hide (dmL_right (ms := ms) hh hd hmb hl)
  have HMB := hide hmb
  clear h1 h2 h3 hd hmb
  go_enter Try.func21, Try.ntmps21
  go_wp2
  go_loopw [7] (fun i wr => ∃ (k : Nat) (SS : List ByteArray) (XX : List Wr) (po : Option Addr) (pa : Nat) (qo : Option Addr) (qa : Nat), k ≤ ms.length ∧ i = .int .i64 k ∧ Hid (dmL h ss xs (ms.take k) = (SS, XX)) ∧ Hid (DkA w wr w.heap.size po pa qo qa SS XX) ∧ Hid (VarD wr (w.heap.size + 1) (.slice none 0 0) (.slice none 0 0))) (fun i _ => ms.length - (intOf i).toNat)
  case atStart => exact ⟨0, ss, xs, ao, ca, bo, cb, Nat.zero_le _, rfl, hide rfl, H0, HR⟩
  case round =>
    obtain ⟨k, SS, XX, po, pa, qo, qa, hk, rfl, HE, HD, HR⟩ := hrel
    by_cases hlt : k < ms.length
    · obtain ⟨b, off, rfl, hc0, hc1, hc2, hcz⟩ := (unhide HM).below (unhide HD).k k hlt
      have hr := unhide HRT k (by omega)
      rw [unhide HE] at hr
      obtain ⟨hr1, hr2⟩ := hr
      have HDB := hide hr1
      have hXl : XX.length < 200 := by simp only at hr2; omega
      have HB := hide (msB_at (unhide HMB) hlt)
      obtain ⟨d0, d1⟩ := (unhide HD).v.cells
      have hlt0 := (unhide HD).v.lt
      clear hr1 hr2 hcz
      by_cases hf : ms[k].host = 2
      · have hfb : (ms[k].host == 2) = true := by simp [hf]
        have HN : Hid (dmL h ss xs (ms.take (k + 1)) = (putW SS (ofH h XX), dropF h XX)) := hide (by rw [dmL_succ hlt, unhide HE]; exact dm1_flush hf)
        clear hf
        go_wp2_with fail
        refine (l01Flush_put po qo pa qa SS XX h SS.length XX.length (putW SS (ofH h XX)) (dropF h XX) _ rfl rfl rfl rfl (unhide HDB) (unhide HD).s (unhide HD).i).mono ?_
        rintro e w2 ⟨po2, pa2, qo2, qa2, rfl, ho, hb⟩
        have HD2 := hide ((unhide HD).next hb)
        have HR2 := hide ((unhide HR).below hb)
        obtain ⟨e0, e1⟩ := (unhide HD2).v.cells
        have f0 := (unhide HD2).v.free 0
        have f1 := (unhide HD2).v.free 1
        have HRR := hide (right_sz2 (S := putW SS (ofH h XX)) (X := dropF h XX) (diskB_put (unhide HDB) (fun x hx => of_mem hx) (fun x hx => drop_mem hx) (drop_le h XX)))
        have HP : Hid (DkA w ((w2.setCell ⟨w.heap.size, 0, none⟩ (.slice po2 SS.length pa2)).setCell ⟨w.heap.size, 1, none⟩ (.slice qo2 (dropF h XX).length qa2)) w.heap.size po2 pa2 qo2 qa2 (putW SS (ofH h XX)) (dropF h XX)) := hide ((unhide HD2).put (Nat.le_refl _) (put_len SS _).symm rfl (ho.ss (unhide HRR).1) (ho.ios (unhide HRR).2))
        have HRP := hide (((unhide HR2).apart (y := w.heap.size) (by omega) 0 (.slice po2 SS.length pa2)).apart (y := w.heap.size) (by omega) 1 (.slice qo2 (dropF h XX).length qa2))
        clear ho hb d0 d1
        go_wp2
        go_roundw
        case rel => exact ⟨k + 1, _, _, _, _, _, _, by omega, by go_num, HN, HP, HRP⟩
        case measure => simp [intOf]; omega
      · have hfb : (ms[k].host == 2) = false := by simp [hf]
        obtain ⟨p1, p2⟩ := mvB_write (unhide HB) hf
        have HN : Hid (dmL h ss xs (ms.take (k + 1)) = (SS, XX ++ [⟨h, ms[k].at_, ms[k].data⟩])) := hide (by rw [dmL_succ hlt, unhide HE]; exact dm1_write hf)
        have HZ := hide (right_sz2 (diskB_snoc (x := ⟨h, ms[k].at_, ms[k].data⟩) (unhide HDB) hXl (ioB_parts.2 ⟨hh, p1, p2⟩))).2
        have hbl := World.block_lt_of_cell? _ _ hc0
        have hbn : b ≠ w.heap.size := cell_apart (unhide HD).v hc0 (by simp) (by simp)
        have hbn' : w.heap.size ≠ b := Ne.symm hbn
        have hki : (k : Int) < (ms.length : Int) := by omega
        have HBL := hide hbl
        have HCC := hide (And.intro hc1 hc2)
        clear hf p1 p2
        go_wp2_with fail
        go_region_with
          ((go_at_call 41; refine (l01Write_len po qo SS.length XX.length pa qa XX ⟨h, ms[k].at_, ms[k].data⟩ _ rfl (by omega) (by exact (unhide HD).i.below (Below.refl _ _).drew) (unhide HZ)).mono ?_; rintro e w2 ⟨g2, cap2, rfl, hi2, hb⟩; have HBx := hide (fr (Below.refl _ wr).drew hb); have HI2 := hide hi2; have HD2 := hide ((unhide HD).next (unhide HBx)); have HR2 := hide ((unhide HR).below (unhide HBx)); obtain ⟨e0, e1⟩ := (unhide HD2).v.cells; have f0 := (unhide HD2).v.free 0; have f1 := (unhide HD2).v.free 1; clear hb hi2))
        all_goals
          have HP : Hid (DkA w ((w2.setCell ⟨w.heap.size, 0, none⟩ (.slice po SS.length pa)).setCell ⟨w.heap.size, 1, none⟩ (.slice (some ⟨g2, 0, none⟩) (XX.length + 1) cap2)) w.heap.size po pa (some ⟨g2, 0, none⟩) cap2 SS (XX ++ [⟨h, ms[k].at_, ms[k].data⟩])) := hide ((unhide HD2).put (Nat.le_refl _) rfl (by simp) (unhide HD2).s (unhide HI2))
          have HRP := hide (((unhide HR2).apart (y := w.heap.size) (by omega) 0 (.slice po SS.length pa)).apart (y := w.heap.size) (by omega) 1 (.slice (some ⟨g2, 0, none⟩) (XX.length + 1) cap2))
          go_wp2
          go_roundw
          case rel => exact ⟨k + 1, _, _, _, _, _, _, by omega, by go_num, HN, HP, HRP⟩
          case measure => simp [intOf]; omega
    · have hke : k = ms.length := by omega
      have HEE : Hid (dmL h ss xs ms = (SS, XX)) := hide (by have := unhide HE; rwa [hke, List.take_of_length_le (Nat.le_refl _)] at this)
      obtain ⟨d0, d1⟩ := (unhide HD).v.cells
      obtain ⟨r0, r1⟩ := (unhide HR).cells
      have rf0 := (unhide HR).free 0
      have rf1 := (unhide HR).free 1
      have HV0 : Hid (VarD (wr.setCell ⟨w.heap.size + 1, 0, none⟩ (.slice po SS.length pa)) (w.heap.size + 1) (.slice po SS.length pa) (.slice none 0 0)) := hide (Joins.block_setCell (i := 0) (unhide HR) _)
      have HSX := hide (((unhide HD).s.setX (unhide HR) 0 (.slice po SS.length pa)).setX (unhide HV0) 1 (.slice qo XX.length qa))
      have HIX := hide (((unhide HD).i.setX (unhide HR) 0 (.slice po SS.length pa)).setX (unhide HV0) 1 (.slice qo XX.length qa))
      have HX := hide (fun u v => below2 (g := w.heap.size + 1) (unhide HD).k (Nat.le_succ _) 0 1 u v)
      clear hke
      go_wp2
      refine bodyPost_ret (v := .agg #[.slice po SS.length pa, .slice qo XX.length qa]) (by simp [results, Try.results21, go_sem, r0, r1]) rfl ⟨po, pa, qo, qa, ?_, ?_, ?_, unhide HX _ _⟩
      · rw [unhide HEE]
      · rw [unhide HEE]; exact unhide HSX
      · rw [unhide HEE]; exact unhide HIX

end Go.Proofs.Ytboolfckaagfoab

/- Contract of spec's MovesDo. -/
namespace Go.Proofs.Ytboolfckaagfoab
open Go.RowKit
set_option linter.unusedVariables false
set_option maxRecDepth 100000

theorem ret_md {po qo : Option Addr} {n n' m m' pa qa : Nat} {c c' : Int} (h1 : n = n') (h2 : m = m') (h3 : c = c') : Ending.returned (.tuple #[.agg #[.slice po n pa, .slice qo m qa], .int .i64 c]) = Ending.returned (.tuple #[.agg #[.slice po n' pa, .slice qo m' qa], .int .i64 c']) := by rw [h1, h2, h3]
/-- The end of a call that lays its answer into the variable R. -/
theorem md_end {w W : World} {R n m pa qa : Nat} {po qo : Option Addr} {SS : List ByteArray} {XX : List Wr} (hR : VarD W R (.slice none 0 0) (.slice none 0 0)) (hb : Below w.heap.size w W) (hr : w.heap.size ≤ R) (ho : OwnD W w.heap.size po n pa qo m qa SS XX) (u v : Value) :
    OwnD ((W.setCell ⟨R, 0, none⟩ u).setCell ⟨R, 1, none⟩ v) w.heap.size po n pa qo m qa SS XX ∧ Below w.heap.size w ((W.setCell ⟨R, 0, none⟩ u).setCell ⟨R, 1, none⟩ v) :=
  ⟨ho.keep (((Keep.refl (fun j => j = R) W).setCell (p := ⟨R, 0, none⟩) rfl u).setCell (p := ⟨R, 1, none⟩) rfl v) (fun g hg e => ho.other hR (by decide) (by decide) (e ▸ hg)), below2 hb hr 0 1 u v⟩

set_option maxHeartbeats 3200000 in
theorem movesDo_spec (ao bo : Option Addr) (ca cb : Nat) (ss : List ByteArray) (xs : List Wr) (h : Int) (mo : Option Addr) (mc : Nat) (ms : List Wr) (w : World) (hl : ss.length ≤ 1048576) (hm : xs.length ≤ 1048576) (hn : ms.length ≤ 1048576) (h1 : Ss w ao ss) (h2 : Ios w bo xs) (h3 : Ios w mo ms) :
    Calls Try.prog 6 #[.agg #[.slice ao ss.length ca, .slice bo xs.length cb], .int .i64 h, .slice mo ms.length mc] w fun e w' => ∃ po pa qo qa, e = .returned (.tuple #[.agg #[.slice po (mdS ss xs h ms).length pa, .slice qo (mdX ss xs h ms).length qa], .int .i64 (mdC ss xs h ms)]) ∧ OwnD w' w.heap.size po (mdS ss xs h ms).length pa qo (mdX ss xs h ms).length qa (mdS ss xs h ms) (mdX ss xs h ms) ∧ Below w.heap.size w w' := by
  have HA := hide (Joins.below_alloc2 w (.cells #[.slice ao ss.length ca, .slice bo xs.length cb] 31) (.cells #[.slice none 0 0, .slice none 0 0] 31))
  have HR : Hid (VarD ((w.alloc (.cells #[.slice ao ss.length ca, .slice bo xs.length cb] 31)).alloc (.cells #[.slice none 0 0, .slice none 0 0] 31)) (w.heap.size + 1) (.slice none 0 0) (.slice none 0 0)) := hide (by have := VarD.new (w.alloc (.cells #[.slice ao ss.length ca, .slice bo xs.length cb] 31)) (.slice none 0 0) (.slice none 0 0); simp only [World.size_alloc] at this; exact this)
  have HV := hide ((VarD.new w (.slice ao ss.length ca) (.slice bo xs.length cb)).below (Joins.below_alloc1 _ (.cells #[.slice none 0 0, .slice none 0 0] 31)))
  have H1 := hide (h1.below (unhide HA))
  have H2 := hide (h2.below (unhide HA))
  have HM := hide h3
  have HZM := hide h3.sizes
  have HL : Hid (ss.length ≤ maxLen) := hide (by unfold maxLen; omega)
  have HX : Hid (xs.length ≤ maxLen) := hide (by unfold maxLen; omega)
  have HZ : Hid (∀ c, (mdC ss xs h ms = c ∧ mdS ss xs h ms = [] ∧ mdX ss xs h ms = []) → ∀ W, VarD W (w.heap.size + 1) (.slice none 0 0) (.slice none 0 0) → Below w.heap.size w W → ∀ u v, ∃ po pa qo qa, Ending.returned (.tuple #[.agg #[.slice none 0 0, .slice none 0 0], .int .i64 c]) = .returned (.tuple #[.agg #[.slice po (mdS ss xs h ms).length pa, .slice qo (mdX ss xs h ms).length qa], .int .i64 (mdC ss xs h ms)]) ∧ OwnD ((W.setCell ⟨w.heap.size + 1, 0, none⟩ u).setCell ⟨w.heap.size + 1, 1, none⟩ v) w.heap.size po (mdS ss xs h ms).length pa qo (mdX ss xs h ms).length qa (mdS ss xs h ms) (mdX ss xs h ms) ∧ Below w.heap.size w ((W.setCell ⟨w.heap.size + 1, 0, none⟩ u).setCell ⟨w.heap.size + 1, 1, none⟩ v)) := hide (fun c ⟨e1, e2, e3⟩ W hR hb u v => by
    rw [e1, e2, e3]
    obtain ⟨o1, o2⟩ := md_end hR hb (Nat.le_succ _) (zeroD_own (w := W) (B := w.heap.size)) u v
    exact ⟨none, 0, none, 0, rfl, o1, o2⟩)
  clear h1 h2 h3
  obtain ⟨r0, r1⟩ := (unhide HR).cells
  have rf0 := (unhide HR).free 0
  have rf1 := (unhide HR).free 1
  by_cases hlong : 4096 < ms.length
  · have HE := hide (md_long (ss := ss) (xs := xs) (h := h) hlong)
    go_enter Try.func6, Try.ntmps6
    go_wp2
    refine bodyPost_ret (v := .tuple #[.agg #[.slice none 0 0, .slice none 0 0], .int .i64 2]) (by simp [results, Try.results6, go_sem, r0, r1]) rfl ?_
    first
      | exact unhide HZ 2 (unhide HE) _ (unhide HR) (unhide HA) _ _
      | (rw [(unhide HE).1, (unhide HE).2.1, (unhide HE).2.2]; exact ⟨none, 0, none, 0, rfl, zeroD_own, unhide HA⟩)
  clear r0 r1 rf0 rf1
  go_enter Try.func6, Try.ntmps6
  go_wp2_with fail
  refine (l01Ask_any ao bo ca cb ss xs h 0 _ (unhide HL) (unhide HX) (unhide H1) (unhide H2)).mono ?_
  rintro e W1 ⟨rfl, hb⟩
  rw [ask_zero]
  have HB1 := hide (fr (unhide HA) hb)
  have HR1 := hide ((unhide HR).below hb)
  have HV1 := hide ((unhide HV).below hb)
  have H11 := hide ((unhide H1).below hb)
  have H21 := hide ((unhide H2).below hb)
  clear hb HR HV H1 H2
  by_cases e0 : hostC ss xs h = 0
  case neg =>
    have e0b : (hostC ss xs h != 0) = true := by simp [e0]
    have HE := hide (md_host (ms := ms) hlong e0)
    obtain ⟨r0, r1⟩ := (unhide HR1).cells
    have rf0 := (unhide HR1).free 0
    have rf1 := (unhide HR1).free 1
    clear e0
    go_wp2
    refine bodyPost_ret (v := .tuple #[.agg #[.slice none 0 0, .slice none 0 0], .int .i64 (hostC ss xs h)]) (by simp [results, Try.results6, go_sem, r0, r1]) rfl ?_
    exact unhide HZ _ (unhide HE) _ (unhide HR1) (unhide HB1) _ _
  have e0b : (hostC ss xs h != 0) = false := by simp [e0]
  obtain ⟨hd, hh0, hh3⟩ := hostC_eq e0
  obtain ⟨hd1, hd2⟩ := diskB_len hd
  have HD := hide hd
  have HE0 := hide e0
  clear hd hd1 e0
  go_wp2
  go_loopw [9] (fun i wr => ∃ (k : Nat), k ≤ ms.length ∧ i = .int .i64 k ∧ Hid (∀ j (h : j < ms.length), j < k → mvB ms[j] = true) ∧ Hid (Below W1.heap.size W1 wr)) (fun i _ => ms.length - (intOf i).toNat)
  case atStart => exact ⟨0, Nat.zero_le _, rfl, hide (fun j h hj => by omega), hide (Below.refl _ _)⟩
  case round =>
    obtain ⟨k, hk, rfl, HP, HW⟩ := hrel
    have HBr := hide (fr (unhide HB1) (unhide HW))
    by_cases hlt : k < ms.length
    · obtain ⟨b, off, rfl, hc0, hc1, hc2, hcz⟩ := (unhide HM).below (unhide HBr) k hlt
      have HZk := hide hcz
      clear hcz
      go_wp2_with fail
      refine (l07Move_any ms[k] _ (unhide HZk)).mono ?_
      rintro e w2 ⟨rfl, hb⟩
      have HW2 := hide (fr (unhide HW) hb)
      clear hb
      by_cases hp : mvB ms[k] = true
      · have HPP := hide (all_succ hlt (unhide HP) hp)
        go_wp2
        go_roundw
        case rel => exact ⟨k + 1, by omega, by go_num, HPP, HW2⟩
        case measure => simp [intOf]; omega
      · rw [Bool.not_eq_true] at hp
        have HE := hide (md_bad (ss := ss) (xs := xs) hlong (unhide HE0) (all_not hlt hp))
        have HR2 := hide ((unhide HR1).below (unhide HW2))
        obtain ⟨r0, r1⟩ := (unhide HR2).cells
        have rf0 := (unhide HR2).free 0
        have rf1 := (unhide HR2).free 1
        go_wp2
        refine bodyPost_ret (v := .tuple #[.agg #[.slice none 0 0, .slice none 0 0], .int .i64 1]) (by simp [results, Try.results6, go_sem, r0, r1]) rfl ?_
        exact unhide HZ _ (unhide HE) _ (unhide HR2) (fr (unhide HB1) (unhide HW2)) _ _
    · have HMB : Hid (msB ms = true) := hide (all_of (fun i hi _ => unhide HP i hi (by omega)))
      have HVr := hide ((unhide HV1).below (unhide HW))
      have HRr := hide ((unhide HR1).below (unhide HW))
      have HSr := hide ((unhide H11).below (unhide HW))
      have HIr := hide ((unhide H21).below (unhide HW))
      obtain ⟨d0, d1⟩ := (unhide HVr).cells
      have wr1 : IntKind.i64.wrap ((xs.length : Int) + (ms.length : Int)) = (xs.length : Int) + (ms.length : Int) := by rw [IntKind.wrap_i64]; omega
      by_cases hfull : 200 < xs.length + ms.length
      · have HE := hide (md_full hlong (unhide HE0) (unhide HMB) hfull)
        have hfi : (xs.length : Int) + (ms.length : Int) > 200 := by omega
        go_wp2_with fail
        refine (l01Own_any ao bo ca cb ss xs _ hl hm (unhide HSr) (unhide HIr)).mono ?_
        rintro e w2 ⟨po, pa, qo, qa, rfl, ho, hb⟩
        have HR2 := hide ((unhide HRr).below hb)
        obtain ⟨r0, r1⟩ := (unhide HR2).cells
        have rf0 := (unhide HR2).free 0
        have rf1 := (unhide HR2).free 1
        have HO := hide (fun u v => md_end (unhide HR2) (fr (unhide HBr) hb) (Nat.le_succ _) (ho.base (unhide HBr).size) u v)
        clear ho hb
        go_wp2
        refine bodyPost_ret (v := .tuple #[.agg #[.slice po ss.length pa, .slice qo xs.length qa], .int .i64 7]) (by simp [results, Try.results6, go_sem, r0, r1]) rfl ?_
        rw [(unhide HE).1, (unhide HE).2.1, (unhide HE).2.2]
        exact ⟨po, pa, qo, qa, rfl, unhide HO _ _⟩
      · have HE := hide (md_ok hlong (unhide HE0) (unhide HMB) hfull)
        have hfi : ¬ ((xs.length : Int) + (ms.length : Int) > 200) := by omega
        have hrt := dmL_right (ms := ms) ⟨hh0, hh3⟩ (unhide HD) (unhide HMB) (by omega) ms.length (Nat.le_refl _)
        rw [List.take_of_length_le (Nat.le_refl _)] at hrt
        obtain ⟨g1, g2⟩ := diskB_len hrt.1
        have HG : Hid ((dmL h ss xs ms).1.length ≤ 1048576 ∧ (dmL h ss xs ms).2.length ≤ 1048576) := hide ⟨by omega, by omega⟩
        have HMr := hide ((unhide HM).below (unhide HBr))
        clear hrt g1 g2
        go_wp2_with fail
        refine (l07Do_any ao bo ca cb ss xs h mo mc ms _ ⟨hh0, hh3⟩ (unhide HD) (unhide HMB) (by omega) (unhide HSr) (unhide HIr) (unhide HMr)).mono ?_
        rintro e w2 ⟨po, pa, qo, qa, rfl, hs2, hi2, hb2⟩
        have HS2 := hide hs2
        have HI2 := hide hi2
        have HB2 := hide (fr (unhide HBr) hb2)
        have HR2 := hide ((unhide HRr).below hb2)
        clear hs2 hi2 hb2
        revert HE HG HS2 HI2
        generalize dmL h ss xs ms = st
        intro HE HG HS2 HI2
        obtain ⟨SS, XX⟩ := st
        go_wp2_with fail
        refine (l01Own_any po qo pa qa SS XX _ (unhide HG).1 (unhide HG).2 (unhide HS2) (unhide HI2)).mono ?_
        rintro e w3 ⟨po3, pa3, qo3, qa3, rfl, ho, hb⟩
        have HR3 := hide ((unhide HR2).below hb)
        obtain ⟨r0, r1⟩ := (unhide HR3).cells
        have rf0 := (unhide HR3).free 0
        have rf1 := (unhide HR3).free 1
        have HO := hide (fun u v => md_end (unhide HR3) (fr (unhide HB2) hb) (Nat.le_succ _) (ho.base (unhide HB2).size) u v)
        clear ho hb
        go_wp2
        refine bodyPost_ret (v := .tuple #[.agg #[.slice po3 SS.length pa3, .slice qo3 XX.length qa3], .int .i64 0]) (by simp [results, Try.results6, go_sem, r0, r1]) rfl ?_
        rw [(unhide HE).1, (unhide HE).2.1, (unhide HE).2.2]
        exact ⟨po3, pa3, qo3, qa3, rfl, unhide HO _ _⟩

end Go.Proofs.Ytboolfckaagfoab

/- Contract of the program's WriteSector. -/
namespace Go.Proofs.Ytboolfckaagfoab
open Go.RowKit
set_option linter.unusedVariables false

theorem wi_end {w w3 : World} {v g k cap n pa : Nat} {po : Option Addr} {ss : List ByteArray} {xs' : List Wr} {x y : Value} (hS : OwnR w3 (w.heap.size + 2) 9 1 (.slice po n pa) n (strV ss)) (hI : OwnR w3 (w.heap.size + 2) 68 3 (.slice (some ⟨g, 0, none⟩) k cap) k (ioV xs')) (hv : VarD w3 v x y) (hb : Below w.heap.size w w3) (hvw : w.heap.size ≤ v) (a b c : Value) :
    OwnD (((w3.setCell ⟨v, 1, none⟩ a).setCell ⟨w.heap.size + 1, 0, none⟩ b).setCell ⟨w.heap.size + 1, 1, none⟩ c) w.heap.size po n pa (some ⟨g, 0, none⟩) k cap ss xs' ∧ Below w.heap.size w (((w3.setCell ⟨v, 1, none⟩ a).setCell ⟨w.heap.size + 1, 0, none⟩ b).setCell ⟨w.heap.size + 1, 1, none⟩ c) := by
  have hk : Keep (fun j => j = v) w3 (w3.setCell ⟨v, 1, none⟩ a) := Keep.setCell (S := fun j => j = v) (Keep.refl _ _) (p := ⟨v, 1, none⟩) rfl a
  have h1 : OwnD (w3.setCell ⟨v, 1, none⟩ a) (w.heap.size + 2) po n pa (some ⟨g, 0, none⟩) k cap ss xs' := ⟨hS.keep hk (fun j hj e => hS.other hv (by decide) (e ▸ hj)), hI.keep hk (fun j hj e => hI.other hv (by decide) (e ▸ hj))⟩
  exact copyD_end h1 (hb.setCell (p := ⟨v, 1, none⟩) hvw a) b c

set_option maxRecDepth 100000 in
set_option maxHeartbeats 800000 in
theorem writeSector_impl_range (ao bo : Option Addr) (ca cb : Nat) (ss : List ByteArray) (xs : List Wr) (h a : Int) (d : ByteArray) (w : World) (hz : d.size ≤ maxLen) (hl : ss.length ≤ maxLen) (hm : xs.length ≤ maxLen) (h1 : Ss w ao ss) (h2 : Ios w bo xs) (hlong : ¬ 65536 < d.size) (hask : askC ss xs h a = 0) (hbig : 80 < d.size) :
    Calls Try.prog 49 #[.agg #[.slice ao ss.length ca, .slice bo xs.length cb], .int .i64 h, .int .i64 a, .string d] w fun e w' => ∃ po pa qo qa, e = .returned (.tuple #[.agg #[.slice po (wrS ss xs h a d).length pa, .slice qo (wrX ss xs h a d).length qa], .int .i64 (wrC ss xs h a d)]) ∧ OwnD w' w.heap.size po (wrS ss xs h a d).length pa qo (wrX ss xs h a d).length qa (wrS ss xs h a d) (wrX ss xs h a d) ∧ Below w.heap.size w w' := by
  have HA := hide (Joins.below_alloc2 w (.cells #[.slice ao ss.length ca, .slice bo xs.length cb] 31) (.cells #[.slice none 0 0, .slice none 0 0] 31))
  have H1 := hide (h1.below (unhide HA))
  have H2 := hide (h2.below (unhide HA))
  have HV := hide ((VarD.new w (.slice ao ss.length ca) (.slice bo xs.length cb)).below (Joins.below_alloc1 _ (.cells #[.slice none 0 0, .slice none 0 0] 31)))
  have HR : Hid (VarD ((w.alloc (.cells #[.slice ao ss.length ca, .slice bo xs.length cb] 31)).alloc (.cells #[.slice none 0 0, .slice none 0 0] 31)) (w.heap.size + 1) (.slice none 0 0) (.slice none 0 0)) := hide (by have := VarD.new (w.alloc (.cells #[.slice ao ss.length ca, .slice bo xs.length cb] 31)) (.slice none 0 0) (.slice none 0 0); simp only [World.size_alloc] at this; exact this)
  have HS0 := hide h1
  have HX0 := hide h2
  have HL := hide hl
  have HM := hide hm
  clear h1 h2 hl hm
  unfold maxLen at hz
  have hb : (askC ss xs h a != 0) = false := by simp [hask]
  obtain ⟨hh, ha0, ha1⟩ := askC_eq hask
  obtain ⟨hlen, hlx⟩ := diskB_len (hostC_eq hh).1
  have HLS : Hid (ss.length ≤ 1048576) := hide (by omega)
  have HLX : Hid (xs.length ≤ 1048576) := hide (by omega)
  have HASK := hide hask
  clear hask hh hlen
  have HW := hide (wr_range (h := h) (a := a) (d := d) hlong (unhide HASK) hbig)
  go_enter Try.func49, Try.ntmps49
  go_wp2_with fail
  refine (placeFault_any _ _ _ _ ss xs h a _ (unhide HL) (unhide HM) (unhide H1) (unhide H2)).mono ?_
  rintro e w1 ⟨rfl, hb1⟩
  have HV1 := hide ((unhide HV).below hb1)
  have HR1 := hide ((unhide HR).below hb1)
  have HB1 := hide (fr (unhide HA) hb1)
  have HS1 := hide ((unhide H1).below hb1)
  have HX1 := hide ((unhide H2).below hb1)
  have HZ1 := hide hb1.size
  clear hb1
  obtain ⟨hv0, hv1⟩ := (unhide HV1).cells
  go_wp2_with fail
  refine (copyDisk_any _ _ _ _ ss xs _ (unhide HLS) (unhide HLX) (unhide HS1) (unhide HX1)).mono ?_
  rintro e w2 ⟨po, pa, qo, qa, rfl, ho2, hb2⟩
  have HO2 := hide (ho2.base (B' := w.heap.size + 2) (by have z1 := unhide HZ1; simp at z1; omega))
  have HR2 := hide ((unhide HR1).below hb2)
  have HB2 := hide (fr (unhide HB1) hb2)
  have hlt2 : w.heap.size + 1 < w2.heap.size := (unhide HR2).lt
  clear ho2 hb2 hv0 hv1
  obtain ⟨hr0, hr1⟩ := (unhide HR2).cells
  have hr2 := (unhide HR2).free 0
  have hr3 := (unhide HR2).free 1
  have HE := hide (copyD_end (w := w) (wL := w2) (unhide HO2) (unhide HB2) (.slice po ss.length pa) (.slice qo xs.length qa))
  have HE1 := hide ((unhide HE).1.below (Joins.below_alloc1 _ (.cells #[.slice po ss.length pa, .slice qo xs.length qa] 31)))
  have HE2 := hide (fr (unhide HE).2 (Joins.below_alloc1 _ (.cells #[.slice po ss.length pa, .slice qo xs.length qa] 31)))
  go_wp2
  obtain ⟨e1, e2, e3⟩ := unhide HW
  rw [e1, e2, e3]
  exact bodyPost_ret (v := .tuple #[.agg #[.slice po ss.length pa, .slice qo xs.length qa], .int .i64 4]) (by simp [results, Try.results49, go_sem, hr0, hr1, hlt2]) rfl ⟨po, pa, qo, qa, rfl, unhide HE1, unhide HE2⟩

set_option maxRecDepth 100000 in
set_option maxHeartbeats 800000 in
theorem writeSector_impl_full (ao bo : Option Addr) (ca cb : Nat) (ss : List ByteArray) (xs : List Wr) (h a : Int) (d : ByteArray) (w : World) (hz : d.size ≤ maxLen) (hl : ss.length ≤ maxLen) (hm : xs.length ≤ maxLen) (h1 : Ss w ao ss) (h2 : Ios w bo xs) (hlong : ¬ 65536 < d.size) (hask : askC ss xs h a = 0) (hbig : ¬ 80 < d.size) (hfull : xs.length = 200) :
    Calls Try.prog 49 #[.agg #[.slice ao ss.length ca, .slice bo xs.length cb], .int .i64 h, .int .i64 a, .string d] w fun e w' => ∃ po pa qo qa, e = .returned (.tuple #[.agg #[.slice po (wrS ss xs h a d).length pa, .slice qo (wrX ss xs h a d).length qa], .int .i64 (wrC ss xs h a d)]) ∧ OwnD w' w.heap.size po (wrS ss xs h a d).length pa qo (wrX ss xs h a d).length qa (wrS ss xs h a d) (wrX ss xs h a d) ∧ Below w.heap.size w w' := by
  have HA := hide (Joins.below_alloc2 w (.cells #[.slice ao ss.length ca, .slice bo xs.length cb] 31) (.cells #[.slice none 0 0, .slice none 0 0] 31))
  have H1 := hide (h1.below (unhide HA))
  have H2 := hide (h2.below (unhide HA))
  have HV := hide ((VarD.new w (.slice ao ss.length ca) (.slice bo xs.length cb)).below (Joins.below_alloc1 _ (.cells #[.slice none 0 0, .slice none 0 0] 31)))
  have HR : Hid (VarD ((w.alloc (.cells #[.slice ao ss.length ca, .slice bo xs.length cb] 31)).alloc (.cells #[.slice none 0 0, .slice none 0 0] 31)) (w.heap.size + 1) (.slice none 0 0) (.slice none 0 0)) := hide (by have := VarD.new (w.alloc (.cells #[.slice ao ss.length ca, .slice bo xs.length cb] 31)) (.slice none 0 0) (.slice none 0 0); simp only [World.size_alloc] at this; exact this)
  have HS0 := hide h1
  have HX0 := hide h2
  have HL := hide hl
  have HM := hide hm
  clear h1 h2 hl hm
  unfold maxLen at hz
  have hb : (askC ss xs h a != 0) = false := by simp [hask]
  obtain ⟨hh, ha0, ha1⟩ := askC_eq hask
  obtain ⟨hlen, hlx⟩ := diskB_len (hostC_eq hh).1
  have HLS : Hid (ss.length ≤ 1048576) := hide (by omega)
  have HLX : Hid (xs.length ≤ 1048576) := hide (by omega)
  have HASK := hide hask
  clear hask hh hlen
  have HW := hide (wr_full (h := h) (a := a) (d := d) hlong (unhide HASK) hbig hfull)
  have hge : 200 ≤ xs.length := by omega
  clear hfull
  go_enter Try.func49, Try.ntmps49
  go_wp2_with fail
  refine (placeFault_any _ _ _ _ ss xs h a _ (unhide HL) (unhide HM) (unhide H1) (unhide H2)).mono ?_
  rintro e w1 ⟨rfl, hb1⟩
  have HV1 := hide ((unhide HV).below hb1)
  have HR1 := hide ((unhide HR).below hb1)
  have HB1 := hide (fr (unhide HA) hb1)
  have HS1 := hide ((unhide H1).below hb1)
  have HX1 := hide ((unhide H2).below hb1)
  have HZ1 := hide hb1.size
  clear hb1
  obtain ⟨hv0, hv1⟩ := (unhide HV1).cells
  go_wp2_with fail
  refine (copyDisk_any _ _ _ _ ss xs _ (unhide HLS) (unhide HLX) (unhide HS1) (unhide HX1)).mono ?_
  rintro e w2 ⟨po, pa, qo, qa, rfl, ho2, hb2⟩
  have HO2 := hide (ho2.base (B' := w.heap.size + 2) (by have z1 := unhide HZ1; simp at z1; omega))
  have HR2 := hide ((unhide HR1).below hb2)
  have HB2 := hide (fr (unhide HB1) hb2)
  have hlt2 : w.heap.size + 1 < w2.heap.size := (unhide HR2).lt
  clear ho2 hb2 hv0 hv1
  obtain ⟨hr0, hr1⟩ := (unhide HR2).cells
  have hr2 := (unhide HR2).free 0
  have hr3 := (unhide HR2).free 1
  have HE := hide (copyD_end (w := w) (wL := w2) (unhide HO2) (unhide HB2) (.slice po ss.length pa) (.slice qo xs.length qa))
  have HE1 := hide ((unhide HE).1.below (Joins.below_alloc1 _ (.cells #[.slice po ss.length pa, .slice qo xs.length qa] 31)))
  have HE2 := hide (fr (unhide HE).2 (Joins.below_alloc1 _ (.cells #[.slice po ss.length pa, .slice qo xs.length qa] 31)))
  go_wp2
  obtain ⟨e1, e2, e3⟩ := unhide HW
  rw [e1, e2, e3]
  exact bodyPost_ret (v := .tuple #[.agg #[.slice po ss.length pa, .slice qo xs.length qa], .int .i64 7]) (by simp [results, Try.results49, go_sem, hr0, hr1, hlt2]) rfl ⟨po, pa, qo, qa, rfl, unhide HE1, unhide HE2⟩

set_option maxRecDepth 100000 in
set_option maxHeartbeats 800000 in
theorem writeSector_impl_ok (ao bo : Option Addr) (ca cb : Nat) (ss : List ByteArray) (xs : List Wr) (h a : Int) (d : ByteArray) (w : World) (hz : d.size ≤ maxLen) (hl : ss.length ≤ maxLen) (hm : xs.length ≤ maxLen) (h1 : Ss w ao ss) (h2 : Ios w bo xs) (hlong : ¬ 65536 < d.size) (hask : askC ss xs h a = 0) (hbig : ¬ 80 < d.size) (hfull : ¬ xs.length = 200) :
    Calls Try.prog 49 #[.agg #[.slice ao ss.length ca, .slice bo xs.length cb], .int .i64 h, .int .i64 a, .string d] w fun e w' => ∃ po pa qo qa, e = .returned (.tuple #[.agg #[.slice po (wrS ss xs h a d).length pa, .slice qo (wrX ss xs h a d).length qa], .int .i64 (wrC ss xs h a d)]) ∧ OwnD w' w.heap.size po (wrS ss xs h a d).length pa qo (wrX ss xs h a d).length qa (wrS ss xs h a d) (wrX ss xs h a d) ∧ Below w.heap.size w w' := by
  have HA := hide (Joins.below_alloc2 w (.cells #[.slice ao ss.length ca, .slice bo xs.length cb] 31) (.cells #[.slice none 0 0, .slice none 0 0] 31))
  have H1 := hide (h1.below (unhide HA))
  have H2 := hide (h2.below (unhide HA))
  have HV := hide ((VarD.new w (.slice ao ss.length ca) (.slice bo xs.length cb)).below (Joins.below_alloc1 _ (.cells #[.slice none 0 0, .slice none 0 0] 31)))
  have HR : Hid (VarD ((w.alloc (.cells #[.slice ao ss.length ca, .slice bo xs.length cb] 31)).alloc (.cells #[.slice none 0 0, .slice none 0 0] 31)) (w.heap.size + 1) (.slice none 0 0) (.slice none 0 0)) := hide (by have := VarD.new (w.alloc (.cells #[.slice ao ss.length ca, .slice bo xs.length cb] 31)) (.slice none 0 0) (.slice none 0 0); simp only [World.size_alloc] at this; exact this)
  have HS0 := hide h1
  have HX0 := hide h2
  have HL := hide hl
  have HM := hide hm
  clear h1 h2 hl hm
  unfold maxLen at hz
  have hb : (askC ss xs h a != 0) = false := by simp [hask]
  obtain ⟨hh, ha0, ha1⟩ := askC_eq hask
  obtain ⟨hlen, hlx⟩ := diskB_len (hostC_eq hh).1
  have HLS : Hid (ss.length ≤ 1048576) := hide (by omega)
  have HLX : Hid (xs.length ≤ 1048576) := hide (by omega)
  have HASK := hide hask
  clear hask hh hlen
  have HW := hide (wr_ok (h := h) (a := a) (d := d) hlong (unhide HASK) hbig hfull)
  have HN := hide (show xs.length + 1 = (xs ++ [(⟨h, a, d⟩ : Wr)]).length by simp)
  have hge : xs.length < 200 := by omega
  obtain ⟨j0, hj, hy0, hy1, hy2⟩ := info_parts infoW
  clear hfull
  go_enter Try.func49, Try.ntmps49
  go_wp2_with fail
  refine (placeFault_any _ _ _ _ ss xs h a _ (unhide HL) (unhide HM) (unhide H1) (unhide H2)).mono ?_
  rintro e w1 ⟨rfl, hb1⟩
  have HV1 := hide ((unhide HV).below hb1)
  have HR1 := hide ((unhide HR).below hb1)
  have HB1 := hide (fr (unhide HA) hb1)
  have HS1 := hide ((unhide H1).below hb1)
  have HX1 := hide ((unhide H2).below hb1)
  have HZ1 := hide hb1.size
  clear hb1
  obtain ⟨hv0, hv1⟩ := (unhide HV1).cells
  go_wp2_with fail
  refine (copyDisk_any _ _ _ _ ss xs _ (unhide HLS) (unhide HLX) (unhide HS1) (unhide HX1)).mono ?_
  rintro e w2 ⟨po, pa, qo, qa, rfl, ho2, hb2⟩
  have HO2 := hide (ho2.base (B' := w.heap.size + 2) (by have z1 := unhide HZ1; simp at z1; omega))
  have HR2 := hide ((unhide HR1).below hb2)
  have HB2 := hide (fr (unhide HB1) hb2)
  have hlt2 : w.heap.size + 1 < w2.heap.size := (unhide HR2).lt
  clear ho2 hb2 hv0 hv1
  obtain ⟨hr0, hr1⟩ := (unhide HR2).cells
  have hr2 := (unhide HR2).free 0
  have hr3 := (unhide HR2).free 1
  have HA2 := hide (Joins.below_alloc2 w2 (.cells #[.slice po ss.length pa, .slice qo xs.length qa] 31) (.cells #[.int .i64 h, .int .i64 a, .string d] 68))
  have HO3 := hide ((unhide HO2).below (unhide HA2))
  have HR3 := hide ((unhide HR2).below (unhide HA2))
  have HV3 := hide ((VarD.new w2 (.slice po ss.length pa) (.slice qo xs.length qa)).below (Joins.below_alloc1 _ (.cells #[.int .i64 h, .int .i64 a, .string d] 68)))
  have HB3 := hide (fr (unhide HB2) (unhide HA2))
  have HI3 : Hid (VarI ((w2.alloc (.cells #[.slice po ss.length pa, .slice qo xs.length qa] 31)).alloc (.cells #[.int .i64 h, .int .i64 a, .string d] 68)) (w2.heap.size + 1) ⟨h, a, d⟩) := hide (VarI.top (x := ⟨h, a, d⟩) (by simp))
  go_wp2_with (at_builtin; refine wpList_append_one rfl _ _ 29 rfl (w.heap.size + 2) 68 j0 (.agg #[.int .i64 0, .int .i64 0, .string ⟨#[]⟩]) 3 32 Try.underlying29 hj hy0 hy1 hy2 rfl (by omega) qo xs.length qa (ioV xs) rfl (unhide HO3).i (by simp; omega) ⟨w2.heap.size + 1, 0, none⟩ _ (wrV ⟨h, a, d⟩) rfl rfl (unhide HI3).news (wrV_one _) (by unfold maxLen; omega) (by omega) ?_; intro g cap w3 ho3 hk3; have HV4 := hide ((unhide HV3).keep hk3 ((unhide HO3).i.other (unhide HV3) (by decide))); have HR4 := hide ((unhide HR3).keep hk3 ((unhide HO3).i.other (unhide HR3) (by decide))); have HW4 := hide (wi_end (w := w) (w3 := w3) (v := w2.heap.size) (g := g) (k := xs.length + 1) (cap := cap) (xs' := xs ++ [⟨h, a, d⟩]) ((unhide HO3).s.keep hk3 (own_apart (unhide HO3).s (unhide HO3).i (by decide))) (.inr ⟨Nat.succ_pos _, by rw [ioV_snoc]; exact ho3⟩) (unhide HV4) ((unhide HB3).trans (hk3.below (B := w.heap.size) (unhide HB3).size (fun j hj => Nat.le_trans (show w.heap.size ≤ w.heap.size + 2 from by omega) ((unhide HO3).i.ge j hj).1))) (by omega) (.slice (some ⟨g, 0, none⟩) (xs.length + 1) cap) (.slice po ss.length pa) (.slice (some ⟨g, 0, none⟩) (xs.length + 1) cap)); obtain ⟨q0, q1⟩ := (unhide HV4).cells; have q2 := (unhide HV4).free 1; obtain ⟨q3, q4⟩ := (unhide HR4).cells; have q5 := (unhide HR4).free 0; have q6 := (unhide HR4).free 1; clear ho3 hk3)
  obtain ⟨e1, e2, e3⟩ := unhide HW
  rw [e1, e2, e3, ← unhide HN]
  exact bodyPost_ret (v := .tuple #[.agg #[.slice po ss.length pa, .slice (some ⟨g, 0, none⟩) (xs.length + 1) cap], .int .i64 0]) (by simp [results, Try.results49, go_sem, q3, q4]) rfl ⟨po, pa, _, _, rfl, (unhide HW4).1, (unhide HW4).2⟩

set_option maxRecDepth 100000 in
set_option maxHeartbeats 1600000 in
theorem writeSector_impl (ao bo : Option Addr) (ca cb : Nat) (ss : List ByteArray) (xs : List Wr) (h a : Int) (d : ByteArray) (w : World) (hz : d.size ≤ maxLen) (hl : ss.length ≤ maxLen) (hm : xs.length ≤ maxLen) (h1 : Ss w ao ss) (h2 : Ios w bo xs) :
    Calls Try.prog 49 #[.agg #[.slice ao ss.length ca, .slice bo xs.length cb], .int .i64 h, .int .i64 a, .string d] w fun e w' => ∃ po pa qo qa, e = .returned (.tuple #[.agg #[.slice po (wrS ss xs h a d).length pa, .slice qo (wrX ss xs h a d).length qa], .int .i64 (wrC ss xs h a d)]) ∧ OwnD w' w.heap.size po (wrS ss xs h a d).length pa qo (wrX ss xs h a d).length qa (wrS ss xs h a d) (wrX ss xs h a d) ∧ Below w.heap.size w w' := by
  have HA := hide (Joins.below_alloc2 w (.cells #[.slice ao ss.length ca, .slice bo xs.length cb] 31) (.cells #[.slice none 0 0, .slice none 0 0] 31))
  have H1 := hide (h1.below (unhide HA))
  have H2 := hide (h2.below (unhide HA))
  have HV := hide ((VarD.new w (.slice ao ss.length ca) (.slice bo xs.length cb)).below (Joins.below_alloc1 _ (.cells #[.slice none 0 0, .slice none 0 0] 31)))
  have HR : Hid (VarD ((w.alloc (.cells #[.slice ao ss.length ca, .slice bo xs.length cb] 31)).alloc (.cells #[.slice none 0 0, .slice none 0 0] 31)) (w.heap.size + 1) (.slice none 0 0) (.slice none 0 0)) := hide (by have := VarD.new (w.alloc (.cells #[.slice ao ss.length ca, .slice bo xs.length cb] 31)) (.slice none 0 0) (.slice none 0 0); simp only [World.size_alloc] at this; exact this)
  have HS0 := hide h1
  have HX0 := hide h2
  have HL := hide hl
  have HM := hide hm
  clear h1 h2 hl hm
  unfold maxLen at hz
  by_cases hlong : 65536 < d.size
  · obtain ⟨e1, e2, e3⟩ := wr_long (ss := ss) (xs := xs) (h := h) (a := a) hlong
    rw [e1, e2, e3]
    clear e1 e2 e3
    go_enter Try.func49, Try.ntmps49
    go_wp2
    exact bodyPost_ret (v := .tuple #[.agg #[.slice none 0 0, .slice none 0 0], .int .i64 2]) (by simp [results, Try.results49, go_sem]) rfl ⟨none, 0, none, 0, rfl, zeroD_own, unhide HA⟩
  by_cases hask : askC ss xs h a = 0
  · by_cases hbig : 80 < d.size
    · exact writeSector_impl_range ao bo ca cb ss xs h a d w (by unfold maxLen; exact hz) (unhide HL) (unhide HM) (unhide HS0) (unhide HX0) hlong hask hbig
    · by_cases hfull : xs.length = 200
      · exact writeSector_impl_full ao bo ca cb ss xs h a d w (by unfold maxLen; exact hz) (unhide HL) (unhide HM) (unhide HS0) (unhide HX0) hlong hask hbig hfull
      · exact writeSector_impl_ok ao bo ca cb ss xs h a d w (by unfold maxLen; exact hz) (unhide HL) (unhide HM) (unhide HS0) (unhide HX0) hlong hask hbig hfull
  · have hb : (askC ss xs h a != 0) = true := by simp [hask]
    obtain ⟨e1, e2, e3⟩ := wr_ask (ss := ss) (xs := xs) (h := h) (a := a) hlong hask
    rw [e1, e2, e3]
    clear e1 e2 e3 hask
    go_enter Try.func49, Try.ntmps49
    go_wp2_with fail
    refine (placeFault_any _ _ _ _ ss xs h a _ (unhide HL) (unhide HM) (unhide H1) (unhide H2)).mono ?_
    rintro e w1 ⟨rfl, hb1⟩
    have HR1 := hide ((unhide HR).below hb1)
    have HB1 := hide (fr (unhide HA) hb1)
    clear hb1
    obtain ⟨hr0, hr1⟩ := (unhide HR1).cells
    have hr2 := (unhide HR1).free 0
    have hr3 := (unhide HR1).free 1
    have HE := hide (zero_end (w := w) (wL := w1) (unhide HB1) (.slice none 0 0) (.slice none 0 0))
    go_wp2
    exact bodyPost_ret (v := .tuple #[.agg #[.slice none 0 0, .slice none 0 0], .int .i64 (askC ss xs h a)]) (by simp [results, Try.results49, go_sem, hr0, hr1]) rfl ⟨none, 0, none, 0, rfl, zeroD_own, unhide HE⟩

end Go.Proofs.Ytboolfckaagfoab
