import Derived.Test.YtjmianalknnekabDoorRows
import Derived.Test.YtjmianalknnekabDoorPart1
import Derived.Test.YtjmianalknnekabDoorPart5
import Derived.Test.YtjmianalknnekabDoorPart4
import Derived.Test.YtjmianalknnekabDoorPart11
import Derived.Test.YtjmianalknnekabDoorPart7
import Derived.Test.YtjmianalknnekabDoorPart8
import Derived.WalkKit
import Derived.WalkSpells
import Derived.KernelRfl
import Derived.LoopN
import Derived.Lib.SmallJoins
import Derived.Test.YtjmianalknnekabDoorPart2
import Derived.Test.YtjmianalknnekabDoorPart3
import Derived.Laws.BytesArg
import Derived.Laws.CopyRow
import Derived.Laws.CopyOwn
import Derived.Deep.RegionLaw
import Derived.Deep.AppendLies
import Derived.Deep.RegionWith

/- Contract of the program's MovesDo. -/
namespace Go.Proofs.YtjmianalknnekabDoor
open Go.RowKit
set_option linter.unusedVariables false
set_option maxRecDepth 100000

/-- An owned disk beside a variable that is written. -/
theorem own_beside {W : World} {B n pa m qa x : Nat} {po qo : Option Addr} {SS : List ByteArray} {XX : List Wr} {a b : Value} (ho : OwnD W B po n pa qo m qa SS XX) (hv : VarD W x a b) (u v : Value) : OwnD ((W.setCell ⟨x, 0, none⟩ u).setCell ⟨x, 1, none⟩ v) B po n pa qo m qa SS XX :=
  ho.keep (((Keep.refl (fun j => j = x) W).setCell (p := ⟨x, 0, none⟩) rfl u).setCell (p := ⟨x, 1, none⟩) rfl v) (fun g hg e => ho.other hv (by decide) (by decide) (e ▸ hg))

set_option maxHeartbeats 3200000 in
theorem movesDo_impl (ao bo : Option Addr) (ca cb : Nat) (ss : List ByteArray) (xs : List Wr) (h : Int) (mo : Option Addr) (mc : Nat) (ms : List Wr) (w : World) (hl : ss.length ≤ 1048576) (hm : xs.length ≤ 1048576) (hn : ms.length ≤ 1048576) (h1 : Ss w ao ss) (h2 : Ios w bo xs) (h3 : Ios w mo ms) :
    Calls Tryd.prog 15 #[.agg #[.slice ao ss.length ca, .slice bo xs.length cb], .int .i64 h, .slice mo ms.length mc] w fun e w' => ∃ po pa qo qa, e = .returned (.tuple #[.agg #[.slice po (mdS ss xs h ms).length pa, .slice qo (mdX ss xs h ms).length qa], .int .i64 (mdC ss xs h ms)]) ∧ OwnD w' w.heap.size po (mdS ss xs h ms).length pa qo (mdX ss xs h ms).length qa (mdS ss xs h ms) (mdX ss xs h ms) ∧ Below w.heap.size w w' := by
  have HA := hide (Joins.below_alloc2 w (.cells #[.slice ao ss.length ca, .slice bo xs.length cb] 39) (.cells #[.slice none 0 0, .slice none 0 0] 39))
  have HR : Hid (VarD ((w.alloc (.cells #[.slice ao ss.length ca, .slice bo xs.length cb] 39)).alloc (.cells #[.slice none 0 0, .slice none 0 0] 39)) (w.heap.size + 1) (.slice none 0 0) (.slice none 0 0)) := hide (by have := VarD.new (w.alloc (.cells #[.slice ao ss.length ca, .slice bo xs.length cb] 39)) (.slice none 0 0) (.slice none 0 0); simp only [World.size_alloc] at this; exact this)
  have HV := hide ((VarD.new w (.slice ao ss.length ca) (.slice bo xs.length cb)).below (Joins.below_alloc1 _ (.cells #[.slice none 0 0, .slice none 0 0] 39)))
  have H1 := hide (h1.below (unhide HA))
  have H2 := hide (h2.below (unhide HA))
  have HM := hide h3
  have HL : Hid (ss.length ≤ maxLen) := hide (by unfold maxLen; omega)
  have HX : Hid (xs.length ≤ maxLen) := hide (by unfold maxLen; omega)
  have HZ : Hid (∀ c, (mdC ss xs h ms = c ∧ mdS ss xs h ms = [] ∧ mdX ss xs h ms = []) → ∀ W, VarD W (w.heap.size + 1) (.slice none 0 0) (.slice none 0 0) → Below w.heap.size w W → ∀ u v, ∃ po pa qo qa, Ending.returned (.tuple #[.agg #[.slice none 0 0, .slice none 0 0], .int .i64 c]) = .returned (.tuple #[.agg #[.slice po (mdS ss xs h ms).length pa, .slice qo (mdX ss xs h ms).length qa], .int .i64 (mdC ss xs h ms)]) ∧ OwnD ((W.setCell ⟨w.heap.size + 1, 0, none⟩ u).setCell ⟨w.heap.size + 1, 1, none⟩ v) w.heap.size po (mdS ss xs h ms).length pa qo (mdX ss xs h ms).length qa (mdS ss xs h ms) (mdX ss xs h ms) ∧ Below w.heap.size w ((W.setCell ⟨w.heap.size + 1, 0, none⟩ u).setCell ⟨w.heap.size + 1, 1, none⟩ v)) := hide (fun c ⟨e1, e2, e3⟩ W hR hb u v => by
    rw [e1, e2, e3]
    obtain ⟨o1, o2⟩ := md_end hR hb (Nat.le_succ _) (zeroD_own (w := W) (B := w.heap.size)) u v
    exact ⟨none, 0, none, 0, rfl, o1, o2⟩)
  clear h1 h2 h3
  obtain ⟨r0, r1⟩ := (unhide HR).cells
  have rf0 := (unhide HR).free 0
  have rf1 := (unhide HR).free 1
  by_cases hlong : 4096 < ms.length
  · have HE := hide (md_long (ss := ss) (xs := xs) (h := h) hlong)
    go_enter Tryd.func15, Tryd.ntmps15
    go_wp2
    refine bodyPost_ret (v := .tuple #[.agg #[.slice none 0 0, .slice none 0 0], .int .i64 2]) (by simp [results, Tryd.results15, go_sem, r0, r1]) rfl ?_
    first
      | exact unhide HZ 2 (unhide HE) _ (unhide HR) (unhide HA) _ _
      | (rw [(unhide HE).1, (unhide HE).2.1, (unhide HE).2.2]; exact ⟨none, 0, none, 0, rfl, zeroD_own, unhide HA⟩)
  clear r0 r1 rf0 rf1
  go_enter Tryd.func15, Tryd.ntmps15
  go_wp2_with fail
  refine (hostFault_any ao bo ca cb ss xs h _ (unhide HL) (unhide HX) (unhide H1) (unhide H2)).mono ?_
  rintro e W1 ⟨rfl, hb⟩
  have HB1 := hide (fr (unhide HA) hb)
  have HR1 := hide ((unhide HR).below hb)
  have HV1 := hide ((unhide HV).below hb)
  have H11 := hide ((unhide H1).below hb)
  have H21 := hide ((unhide H2).below hb)
  clear hb HR HV H1 H2
  by_cases e0 : hostC ss xs h = 0
  case neg =>
    have e0b : (hostC ss xs h != 0) = true := by simp [e0]
    have HE := hide (md_host (ms := ms) hlong e0)
    obtain ⟨r0, r1⟩ := (unhide HR1).cells
    have rf0 := (unhide HR1).free 0
    have rf1 := (unhide HR1).free 1
    clear e0
    go_wp2
    refine bodyPost_ret (v := .tuple #[.agg #[.slice none 0 0, .slice none 0 0], .int .i64 (hostC ss xs h)]) (by simp [results, Tryd.results15, go_sem, r0, r1]) rfl ?_
    exact unhide HZ _ (unhide HE) _ (unhide HR1) (unhide HB1) _ _
  have e0b : (hostC ss xs h != 0) = false := by simp [e0]
  obtain ⟨hd, hh0, hh3⟩ := hostC_eq e0
  obtain ⟨hd1, hd2⟩ := diskB_len hd
  have HD := hide hd
  have HE0 := hide e0
  clear hd hd1 e0
  have hms : ms.length ≤ 4096 := by omega
  go_wp2_with fail
  refine (movesOK_any mo mc ms _ hms ((unhide HM).below (unhide HB1))).mono ?_
  rintro e W2 ⟨rfl, hb⟩
  have HB2 := hide (fr (unhide HB1) hb)
  have HR2 := hide ((unhide HR1).below hb)
  have HV2 := hide ((unhide HV1).below hb)
  have H12 := hide ((unhide H11).below hb)
  have H22 := hide ((unhide H21).below hb)
  clear hb HR1 HV1 H11 H21
  by_cases hmb : msB ms = true
  case neg =>
    rw [Bool.not_eq_true] at hmb
    have HE := hide (md_bad (ss := ss) (xs := xs) hlong (unhide HE0) hmb)
    obtain ⟨r0, r1⟩ := (unhide HR2).cells
    have rf0 := (unhide HR2).free 0
    have rf1 := (unhide HR2).free 1
    rw [hmb]
    go_wp2
    refine bodyPost_ret (v := .tuple #[.agg #[.slice none 0 0, .slice none 0 0], .int .i64 1]) (by simp [results, Tryd.results15, go_sem, r0, r1]) rfl ?_
    exact unhide HZ _ (unhide HE) _ (unhide HR2) (unhide HB2) _ _
  have HMB := hide hmb
  rw [hmb]
  clear hmb
  obtain ⟨d0, d1⟩ := (unhide HV2).cells
  go_wp2_with fail
  refine (copyDisk_any ao bo ca cb ss xs _ hl hm (unhide H12) (unhide H22)).mono ?_
  rintro e W3 ⟨po, pa, qo, qa, rfl, ho, hb⟩
  have HA3 := hide (Joins.below_alloc1 W3 (.cells #[.slice po ss.length pa, .slice qo xs.length qa] 39))
  have HB3 := hide (fr (fr (unhide HB2) hb) (unhide HA3))
  have HO3 := hide ((ho.base (unhide HB2).size).below (unhide HA3))
  have HO4 := hide (VarD.new W3 (.slice po ss.length pa) (.slice qo xs.length qa))
  have HR3 := hide (((unhide HR2).below hb).below (unhide HA3))
  have HV3 := hide (((unhide HV2).below hb).below (unhide HA3))
  have hltV : w.heap.size < W3.heap.size := ((unhide HV2).below hb).lt
  have hltR : w.heap.size + 1 < W3.heap.size := ((unhide HR2).below hb).lt
  have hxv := ((unhide HV2).below hb).cells
  have HXV := hide hxv
  clear ho hb d0 d1 HR2 HV2 H12 H22 hxv
  have wr1 : IntKind.i64.wrap ((xs.length : Int) + (ms.length : Int)) = (xs.length : Int) + (ms.length : Int) := by rw [IntKind.wrap_i64]; omega
  obtain ⟨d0, d1⟩ := unhide HXV
  by_cases hfull : 200 < xs.length + ms.length
  · have HE := hide (md_full hlong (unhide HE0) (unhide HMB) hfull)
    have hfi : (xs.length : Int) + (ms.length : Int) > 200 := by omega
    have HO := hide (fun u v => md_end (unhide HR3) (unhide HB3) (Nat.le_succ _) (unhide HO3) u v)
    go_upto_region 10 with fail
    revert HR3 HO4 HV3 HO HO3 HB3
    generalize (W3.alloc (.cells #[.slice po ss.length pa, .slice qo xs.length qa] 39)) = W4
    intro HB3 HO3 HO4 HR3 HV3 HO
    obtain ⟨r0, r1⟩ := (unhide HR3).cells
    have rf0 := (unhide HR3).free 0
    have rf1 := (unhide HR3).free 1
    obtain ⟨q0, q1⟩ := (unhide HO4).cells
    go_wp2
    refine bodyPost_ret (v := .tuple #[.agg #[.slice po ss.length pa, .slice qo xs.length qa], .int .i64 7]) (by simp [results, Tryd.results15, go_sem, r0, r1]) rfl ?_
    rw [(unhide HE).1, (unhide HE).2.1, (unhide HE).2.2]
    exact ⟨po, pa, qo, qa, rfl, unhide HO _ _⟩
  have HE := hide (md_ok hlong (unhide HE0) (unhide HMB) hfull)
  have hfi : ¬ ((xs.length : Int) + (ms.length : Int) > 200) := by omega
  have HRT := hide (dmL_right (ms := ms) ⟨hh0, hh3⟩ (unhide HD) (unhide HMB) (by omega))
  have hOv : w.heap.size ≤ W3.heap.size := by omega
  go_wp2
  revert HR3 HO4 HV3 HO3 HB3
  generalize (W3.alloc (.cells #[.slice po ss.length pa, .slice qo xs.length qa] 39)) = W4
  intro HB3 HO3 HO4 HR3 HV3
  have hRO : w.heap.size + 1 ≠ W3.heap.size := by omega
  generalize W3.heap.size = V at *
  go_loopw [39] (fun i wr => ∃ (k : Nat) (SS : List ByteArray) (XX : List Wr) (po : Option Addr) (pa : Nat) (qo : Option Addr) (qa : Nat), k ≤ ms.length ∧ i = .int .i64 k ∧ Hid (dmL h ss xs (ms.take k) = (SS, XX)) ∧ Hid (VarD wr V (.slice po SS.length pa) (.slice qo XX.length qa)) ∧ Hid (OwnD wr w.heap.size po SS.length pa qo XX.length qa SS XX) ∧ Hid (VarD wr (w.heap.size + 1) (.slice none 0 0) (.slice none 0 0)) ∧ Hid (Below w.heap.size w wr)) (fun i _ => ms.length - (intOf i).toNat)
  case atStart => exact ⟨0, ss, xs, po, pa, qo, qa, Nat.zero_le _, rfl, hide rfl, HO4, HO3, HR3, HB3⟩
  case round =>
    obtain ⟨k, SS, XX, po, pa, qo, qa, hk, rfl, HEk, HVk, HOk, HRk, HBk⟩ := hrel
    have hr := unhide HRT k hk
    rw [unhide HEk] at hr
    obtain ⟨hr1, hr2⟩ := hr
    have HDB := hide hr1
    simp only at hr2
    by_cases hlt : k < ms.length
    · obtain ⟨b, off, rfl, hc0, hc1, hc2, hcz⟩ := (unhide HM).below (unhide HBk) k hlt
      have hXl : XX.length < 200 := by omega
      have HMk := hide (msB_at (unhide HMB) hlt)
      obtain ⟨S2, X2, HN⟩ : ∃ S2 X2, Hid (dm1 h (SS, XX) ms[k] = (S2, X2)) := ⟨_, _, hide rfl⟩
      have HNN : Hid (dmL h ss xs (ms.take (k + 1)) = (S2, X2)) := hide (by rw [dmL_succ hlt, unhide HEk]; exact unhide HN)
      have hbl := World.block_lt_of_cell? _ _ hc0
      have HAl := hide (Joins.below_alloc1 wr (.cells #[.int .i64 ms[k].host, .int .i64 ms[k].at_, .string ms[k].data] 71))
      have HVa := hide ((unhide HVk).below (unhide HAl))
      have HOa := hide ((unhide HOk).below (unhide HAl))
      have HRZ := hide (right_sz2 (unhide HDB))
      obtain ⟨q0, q1⟩ := (unhide HVk).cells
      have hVl := (unhide HVk).lt
      clear hr1 hr2 hcz
      go_wp2_with fail
      refine (doneBy_any ms[k] po qo pa qa SS XX h S2 X2 _ (unhide HN) ⟨hh0, hh3⟩ (unhide HDB) hXl (unhide HMk) ((unhide HOa).ss (unhide HRZ).1) ((unhide HOa).ios (unhide HRZ).2)).mono ?_
      rintro e w2 ⟨po2, pa2, qo2, qa2, rfl, ho, hb⟩
      have HB2x := hide (fr (fr (unhide HBk) (unhide HAl)) hb)
      have HV2x := hide ((unhide HVa).below hb)
      have HR2x := hide (((unhide HRk).below (unhide HAl)).below hb)
      have HO2x := hide (ho.base (Nat.le_trans (unhide HBk).size (unhide HAl).size))
      obtain ⟨t0, t1⟩ := (unhide HV2x).cells
      have tf0 := (unhide HV2x).free 0
      have tf1 := (unhide HV2x).free 1
      have HVn := hide ((unhide HV2x).put (.slice po2 S2.length pa2) (.slice qo2 X2.length qa2))
      have HOn := hide (own_beside (unhide HO2x) (unhide HV2x) (.slice po2 S2.length pa2) (.slice qo2 X2.length qa2))
      have HRn := hide (((unhide HR2x).apart (y := V) hRO 0 (.slice po2 S2.length pa2)).apart (y := V) hRO 1 (.slice qo2 X2.length qa2))
      have HBn := hide (below2 (g := V) (unhide HB2x) hOv 0 1 (.slice po2 S2.length pa2) (.slice qo2 X2.length qa2))
      clear ho hb q0 q1
      go_wp2
      go_roundw
      case rel => exact ⟨k + 1, S2, X2, po2, pa2, qo2, qa2, by omega, by go_num, HNN, HVn, HOn, HRn, HBn⟩
      case measure => simp [intOf]; omega
    · have hke : k = ms.length := by omega
      have HEE : Hid (dmL h ss xs ms = (SS, XX)) := hide (by have := unhide HEk; rwa [hke, List.take_of_length_le (Nat.le_refl _)] at this)
      obtain ⟨q0, q1⟩ := (unhide HVk).cells
      obtain ⟨r0, r1⟩ := (unhide HRk).cells
      have rf0 := (unhide HRk).free 0
      have rf1 := (unhide HRk).free 1
      have HO := hide (fun u v => md_end (unhide HRk) (unhide HBk) (Nat.le_succ _) (unhide HOk) u v)
      clear hke hr1 hr2
      go_wp2
      refine bodyPost_ret (v := .tuple #[.agg #[.slice po SS.length pa, .slice qo XX.length qa], .int .i64 0]) (by simp [results, Tryd.results15, go_sem, r0, r1]) rfl ?_
      rw [(unhide HE).1, (unhide HE).2.1, (unhide HE).2.2, unhide HEE]
      exact ⟨po, pa, qo, qa, rfl, unhide HO _ _⟩

end Go.Proofs.YtjmianalknnekabDoor

/- Plain words of the clocks, and contracts of their tests: within, hourOK, configInBounds, l01In, l03Bounds. -/
namespace Go.Proofs.YtjmianalknnekabDoor
open Go.RowKit
set_option linter.unusedVariables false
set_option maxRecDepth 100000

theorem hidB {p : Prop} (h : p) : Hid p := h
theorem frB {a b c : World} (h : Below a.heap.size a b) (k : Below b.heap.size b c) : Below a.heap.size a c := h.trans (k.mono h.size)
/-- A number within bounds. -/
def betw (n low high : Int) : Bool := decide (low ≤ n) && decide (n ≤ high)
theorem betw_yes {n low high : Int} (h : low ≤ n) (h' : n ≤ high) : betw n low high = true := by simp [betw, h, h']
theorem betw_no {n low high : Int} (h : ¬ (low ≤ n ∧ n ≤ high)) : betw n low high = false := by simp only [betw, Bool.and_eq_false_iff, decide_eq_false_iff_not]; omega
theorem betw_iff {n low high : Int} : betw n low high = true ↔ low ≤ n ∧ n ≤ high := by simp [betw]
/-- A configuration within its bounds. -/
def cfgB (f d l r : Int) : Bool := betw f 1 10000 && betw d 1 100000 && betw l 0 1000 && betw r 0 500
theorem cfgB_iff {f d l r : Int} : cfgB f d l r = true ↔ (1 ≤ f ∧ f ≤ 10000) ∧ (1 ≤ d ∧ d ≤ 100000) ∧ (0 ≤ l ∧ l ≤ 1000) ∧ 0 ≤ r ∧ r ≤ 500 := by
  simp only [cfgB, Bool.and_eq_true, betw_iff, and_assoc]
/-- The bounds of true time. -/
def latQ (r x : Int) : Int := ((x + 1) * 1000 + 999 - r) / (1000 - r)
def earQ (r x : Int) : Int := (x - 1) * 1000 / (1000 + r)
def locQ (o r t : Int) : Int := o + t * (1000 + r) / 1000
abbrev cfgV (f d l r : Int) : Value := .agg #[.int .i64 f, .int .i64 d, .int .i64 l, .int .i64 r]
abbrev clkV (o r : Int) : Value := .agg #[.int .i64 o, .int .i64 r]

/-- A configuration in a variable. -/
abbrev Four (w : World) (b : Nat) (f d l r : Int) : Prop := w.cell? ⟨b, 0, none⟩ = some (.int .i64 f) ∧ w.cell? ⟨b, 1, none⟩ = some (.int .i64 d) ∧ w.cell? ⟨b, 2, none⟩ = some (.int .i64 l) ∧ w.cell? ⟨b, 3, none⟩ = some (.int .i64 r)
theorem Four.below {w w' : World} {b : Nat} {f d l r : Int} (h : Four w b f d l r) (hb : Below w.heap.size w w') : Four w' b f d l r :=
  ⟨(hb.cell (World.block_lt_of_cell? _ _ h.1)).trans h.1, (hb.cell (World.block_lt_of_cell? _ _ h.2.1)).trans h.2.1, (hb.cell (World.block_lt_of_cell? _ _ h.2.2.1)).trans h.2.2.1, (hb.cell (World.block_lt_of_cell? _ _ h.2.2.2)).trans h.2.2.2⟩
set_option maxHeartbeats 800000 in
theorem within_any (n low high : Int) (w : World) : Calls Tryd.prog 74 #[.int .i64 n, .int .i64 low, .int .i64 high] w fun e w' => e = .returned (.bool (betw n low high)) ∧ w' = w := by
  by_cases h1 : low ≤ n
  · by_cases h2 : n ≤ high
    · have hr := hidB (betw_yes h1 h2)
      go_enter Tryd.func74, Tryd.ntmps74
      go_wp2
      go_ret
      rw [show betw n low high = true from hr]
      exact ⟨rfl, rfl⟩
    · have hr := hidB (betw_no (n := n) (low := low) (high := high) (by omega))
      go_enter Tryd.func74, Tryd.ntmps74
      go_wp2
      go_ret
      rw [show betw n low high = false from hr]
      exact ⟨rfl, rfl⟩
  · have hr := hidB (betw_no (n := n) (low := low) (high := high) (by omega))
    go_enter Tryd.func74, Tryd.ntmps74
    go_wp2
    go_ret
    rw [show betw n low high = false from hr]
    exact ⟨rfl, rfl⟩
set_option maxHeartbeats 800000 in
theorem in_any (n low high : Int) (w : World) : Calls Tryd.prog 44 #[.int .i64 n, .int .i64 low, .int .i64 high] w fun e w' => e = .returned (.bool (betw n low high)) ∧ w' = w := by
  by_cases h1 : low ≤ n
  · by_cases h2 : n ≤ high
    · have hr := hidB (betw_yes h1 h2)
      go_enter Tryd.func44, Tryd.ntmps44
      go_wp2
      go_ret
      rw [show betw n low high = true from hr]
      exact ⟨rfl, rfl⟩
    · have hr := hidB (betw_no (n := n) (low := low) (high := high) (by omega))
      go_enter Tryd.func44, Tryd.ntmps44
      go_wp2
      go_ret
      rw [show betw n low high = false from hr]
      exact ⟨rfl, rfl⟩
  · have hr := hidB (betw_no (n := n) (low := low) (high := high) (by omega))
    go_enter Tryd.func44, Tryd.ntmps44
    go_wp2
    go_ret
    rw [show betw n low high = false from hr]
    exact ⟨rfl, rfl⟩

theorem cfg_1 {f d l r : Int} (h : betw f 1 10000 = false) : cfgB f d l r = false := by simp [cfgB, h]
theorem cfg_2 {f d l r : Int} (h : betw d 1 100000 = false) : cfgB f d l r = false := by simp [cfgB, h]
theorem cfg_3 {f d l r : Int} (h : betw l 0 1000 = false) : cfgB f d l r = false := by simp [cfgB, h]
theorem cfg_4 {f d l r : Int} (h1 : betw f 1 10000 = true) (h2 : betw d 1 100000 = true) (h3 : betw l 0 1000 = true) : cfgB f d l r = betw r 0 500 := by simp [cfgB, h1, h2, h3]

end Go.Proofs.YtjmianalknnekabDoor

/- Contract of impl.packNumbers. -/
namespace Go.Proofs.YtjmianalknnekabDoor
open Go.RowKit
set_option linter.unusedVariables false
set_option maxRecDepth 100000

theorem block_alloc {w : World} {g : Nat} {c : Array Value} {t : TypeId} {f : Nat × Nat} (h : w.heap[g]? = some (.cells c t f)) (o : Obj) : (w.alloc o).heap[g]? = some (.cells c t f) := by
  rw [(Joins.below_alloc1 w o).block g (Array.getElem?_eq_some_iff.1 h).1]; exact h

/-- The bytes that stand in the array when k numbers are in it. -/
def arrL (xs : List Int) (k : Nat) : List Value := byteV (packL (xs.take k)) ++ List.replicate (64 - k * 4) (.int .u8 0)
theorem arrL_zero (xs : List Int) : arrL xs 0 = List.replicate 64 (.int .u8 0) := by simp [arrL, packL, byteV]
theorem four_lit {n : Int} (h : 0 ≤ n) (h' : n ≤ 2147483647) : [Value.int .u8 (n % 256), .int .u8 (n / 256 % 256), .int .u8 (n / 65536 % 256), .int .u8 (n / 16777216)] = byteV (four n) := by
  have e : n / 16777216 = n / 16777216 % 256 := by omega
  have : byteV (four n) = [Value.int .u8 (n / (256 : Int) ^ 0 % 256), .int .u8 (n / (256 : Int) ^ 1 % 256), .int .u8 (n / (256 : Int) ^ 2 % 256), .int .u8 (n / (256 : Int) ^ 3 % 256)] := rfl
  rw [this, e]
  simp
theorem arrL_length {xs : List Int} {k : Nat} (hl : xs.length ≤ 16) (hk : k ≤ xs.length) : (arrL xs k).length = 64 := by
  rw [arrL, List.length_append, byteV_length, packL_length, List.length_replicate, List.length_take, Nat.min_eq_left hk]
  omega
theorem arrL_splice {xs : List Int} {k : Nat} (hl : xs.length ≤ 16) (hk : k < xs.length) : splice (arrL xs k) (k * 4) (byteV (four xs[k])) = arrL xs (k + 1) := by
  have h1 : (byteV (packL (xs.take k))).length = k * 4 := by rw [byteV_length, packL_length, List.length_take, Nat.min_eq_left (by omega)]
  have h4 : (byteV (four xs[k])).length = 4 := by rw [byteV_length, four, fourTo_length]
  unfold splice arrL
  rw [h4, List.take_append_of_le_length (by omega), List.take_of_length_le (by omega), List.drop_append, List.drop_of_length_le (by omega), List.nil_append, h1, packL_succ hk, List.drop_replicate]
  rw [show k * 4 + 4 - k * 4 = 4 by omega, show 64 - k * 4 - 4 = 64 - (k + 1) * 4 by omega]
  simp [byteV]
theorem arrL_cells {W : World} {g : Nat} {t : TypeId} {xs : List Int} (h : W.heap[g]? = some (.cells (arrL xs xs.length).toArray t (0, 0))) : ∀ i, i < xs.length * 4 → W.cell? ⟨g, 0 + i, none⟩ = some (.int .u8 ((packL xs).getD i 0)) := by
  intro i hi
  rw [Nat.zero_add, Joins.cell_of_block h]
  have hl : i < (packL xs).length := by rw [packL_length]; exact hi
  simp [arrL, byteV, List.getElem?_append_left, hl, List.getD]
theorem byteV_one (ns : List Int) : ∀ v ∈ byteV ns, v.oneCell' = true := by
  intro v hv
  simp only [byteV, List.mem_map] at hv
  obtain ⟨s, _, rfl⟩ := hv
  rfl
theorem lit_one (a b c d : Int) : ∀ v ∈ [Value.int .u8 a, .int .u8 b, .int .u8 c, .int .u8 d], v.oneCell' = true := by
  intro v hv
  simp at hv
  rcases hv with rfl | rfl | rfl | rfl <;> rfl
theorem sizeB : (Tryd.prog.info? 5).map (·.size) = some 1 := by kernel_rfl
theorem runB (W : World) : (Go.sizeOf 5).run Tryd.prog W = .ok 1 W := by
  have h := sizeB
  cases hq : Tryd.prog.info? 5 with
  | none => simp [hq] at h
  | some i =>
    have hi : i.size = 1 := by simpa [hq] using h
    simp [Go.sizeOf, typeInfo, hq, hi]
theorem arr64 : Tryd.prog.arrayLen 144 = 64 := by kernel_rfl
theorem und64 : Tryd.prog.underlying 144 = some (.array (Tryd.prog.arrayLen 144) (Tryd.prog.elem 144)) := by kernel_rfl
theorem elem64 : Tryd.prog.elem 144 = 5 := by kernel_rfl
theorem wrap4 (k : Nat) (hk : k ≤ 16) : IntKind.i64.wrap ((k : Int) * 4) = ((k * 4 : Nat) : Int) := by
  rw [IntKind.wrap_i64]
  omega
theorem slice64 (W : World) (g k : Nat) (hk : k < 16) : (Instr.sliceAt 144 (.pointer (some ⟨g, 0, none⟩)) (some (.int .i64 (IntKind.i64.wrap ((k : Int) * 4)))) none none).run Tryd.prog W = .ok (.slice (some ⟨g, k * 4, none⟩) (64 - k * 4) (64 - k * 4)) W := by
  rw [wrap4 k (by omega), run_sliceAt_array_l W _ _ und64 .i64 _ (by omega) (by rw [arr64]; omega), elem64, runB, arr64]
  simp only [Result.andThen, slicedAt, Int.toNat_natCast, Nat.mul_one]
  rw [if_neg (by omega), show Addr.add ⟨g, 0, none⟩ (k * 4) = ⟨g, k * 4, none⟩ from by unfold Addr.add; split <;> simp_all]
theorem slice64h (W : World) (g k : Nat) (hk : k ≤ 16) : (Instr.sliceAt 144 (.pointer (some ⟨g, 0, none⟩)) none (some (.int .i64 ((k : Int) * 4))) none).run Tryd.prog W = .ok (.slice (some ⟨g, 0, none⟩) (k * 4) 64) W := by
  rw [run_sliceAt_array_h W _ _ und64 .i64 _ (by omega) (by rw [arr64]; omega), elem64, runB, arr64]
  simp only [Result.andThen, slicedAt, Nat.mul_one, Nat.sub_zero]
  rw [if_neg (by omega), show ((k : Int) * 4).toNat = k * 4 by omega]
  rfl

set_option maxHeartbeats 1600000 in
theorem packNumbers_any (ao : Option Addr) (cap : Nat) (xs : List Int) (w : World) (hl : xs.length ≤ 16) (hn : ∀ j (h : j < xs.length), 0 ≤ xs[j] ∧ xs[j] ≤ 2147483647) (hc : Is w ao xs) :
    Calls Tryd.prog 99 #[.slice ao xs.length cap] w fun e w' => e = .returned (.string (packS xs)) ∧ Below w.heap.size w w' := by
  have HC := hide hc
  have HN := hide hn
  clear hc hn
  go_enter Tryd.func99, Tryd.ntmps99
  go_wp2
  go_loopw [9] (fun i wr => ∃ k : Nat, k ≤ xs.length ∧ i = .int .i64 k ∧ Hid (wr.heap[w.heap.size]? = some (.cells (arrL xs k).toArray 144 (0, 0))) ∧ Hid (Below w.heap.size w wr)) (fun i _ => xs.length - (intOf i).toNat)
  case atStart => exact ⟨0, Nat.zero_le _, rfl, hide (by rw [arrL_zero]; exact heap_alloc_new w _), hide (Joins.below_alloc1 _ _)⟩
  case round =>
    obtain ⟨k, hk, rfl, HO, HB⟩ := hrel
    by_cases hlt : k < xs.length
    · obtain ⟨b, off, rfl, hc⟩ := (unhide HC).below (unhide HB) k hlt
      obtain ⟨h0, h1⟩ := unhide HN k hlt
      have HBA := hide (fr (unhide HB) (Joins.below_alloc1 _ (.cells #[.int .u8 (xs[k] % 256), .int .u8 (xs[k] / 256 % 256), .int .u8 (xs[k] / 65536 % 256), .int .u8 (xs[k] / 16777216)] 136)))
      have HOA := hide (block_alloc (unhide HO) (.cells #[.int .u8 (xs[k] % 256), .int .u8 (xs[k] / 256 % 256), .int .u8 (xs[k] / 65536 % 256), .int .u8 (xs[k] / 16777216)] 136))
      have HL := hide (arrL_length hl hk)
      have HNW := hide (World.news_of_block (cs := #[.int .u8 (xs[k] % 256), .int .u8 (xs[k] / 256 % 256), .int .u8 (xs[k] / 65536 % 256), .int .u8 (xs[k] / 16777216)]) (heap_alloc_new wr (.cells #[.int .u8 (xs[k] % 256), .int .u8 (xs[k] / 256 % 256), .int .u8 (xs[k] / 65536 % 256), .int .u8 (xs[k] / 16777216)] 136)))
      have HE := hide (four_lit h0 h1)
      have HSP := hide (arrL_splice hl hlt)
      have hsl := fun W => slice64 W w.heap.size k (by omega)
      go_wp2
      go_region_law (refine step_copy_splice ?_ (.tmp 28) (.tmp 29) 29 29 ?_ 5 Tryd.underlying29 sizeB (some ⟨w.heap.size, k * 4, none⟩) (some ⟨wr.heap.size, 0, none⟩) (64 - k * 4) (64 - k * 4) 4 4 ?_ ?_ w.heap.size (k * 4) (arrL xs k) 144 ?_ [.int .u8 (xs[k] % 256), .int .u8 (xs[k] / 256 % 256), .int .u8 (xs[k] / 65536 % 256), .int .u8 (xs[k] / 16777216)] ?_ ?_ ?_ (lit_one _ _ _ _) w.heap.size w ?_ (Nat.le_refl _) ?_
                     · rfl
                     · rfl
                     · rfl
                     · rfl
                     · exact unhide HOA
                     · simp only [List.length_cons, List.length_nil]; exact (Nat.min_eq_left (by omega)).symm
                     · exact fun _ => ⟨rfl, _, rfl, unhide HNW⟩
                     · rw [unhide HL]; simp only [List.length_cons, List.length_nil]; omega
                     · exact (unhide HBA).drew
                     intro w4 hg4 hb4)
      all_goals
        have HSF : Hid (w4.heap[w.heap.size]? = some (.cells (arrL xs (k + 1)).toArray 144 (0, 0))) := by rw [← unhide HSP, ← unhide HE]; exact hg4
        have HBF := hide hb4
        clear hg4 hb4 hsl
        go_wp2
        go_roundw
        case rel => exact ⟨k + 1, by omega, by go_num, HSF, HBF⟩
        case measure => simp [intOf]; omega
    · have hkn : k = xs.length := by omega
      subst hkn
      have hsl := slice64h wr w.heap.size xs.length hl
      have hcv := run_convert_bytes_arg (P := Tryd.prog) wr 29 5 Tryd.underlying29 Tryd.underlying5 w.heap.size 0 (xs.length * 4) 64 (packL xs) (packL_length xs) (arrL_cells (unhide HO)) 9 Tryd.underlying9
      go_wp2
      go_ret
      exact ⟨rfl, unhide HB⟩

end Go.Proofs.YtjmianalknnekabDoor

/- Contract of impl.listFault. -/
namespace Go.Proofs.YtjmianalknnekabDoor
open Go.RowKit
set_option linter.unusedVariables false
set_option maxRecDepth 100000

set_option maxHeartbeats 800000 in
theorem listFault_any (ao : Option Addr) (cap : Nat) (xs : List Int) (w : World) (hl : xs.length ≤ 1048576) (hc : Is w ao xs) :
    Calls Tryd.prog 97 #[.slice ao xs.length cap] w fun e w' => e = .returned (.int .i64 (listC xs)) ∧ w' = w := by
  have HC := hide hc
  clear hc
  by_cases h1 : 4096 < xs.length
  · have HF := hide (listC_long h1)
    go_enter Tryd.func97, Tryd.ntmps97
    go_wp2
    go_ret
    exact ⟨ret_int (unhide HF).symm, rfl⟩
  by_cases h2 : 16 < xs.length
  · have HF := hide (listC_bad h1 (intsB_long h2))
    go_enter Tryd.func97, Tryd.ntmps97
    go_wp2
    go_ret
    exact ⟨ret_int (unhide HF).symm, rfl⟩
  go_enter Tryd.func97, Tryd.ntmps97
  go_wp2
  go_loop [13] (fun i => ∃ k : Nat, k ≤ xs.length ∧ i = .int .i64 k ∧ Hid (∀ j (h : j < xs.length), j < k → numB xs[j] = true)) (fun i => xs.length - (intOf i).toNat)
  case atStart => exact ⟨0, Nat.zero_le _, rfl, hide (fun j _ h => by omega)⟩
  case round =>
    obtain ⟨k, hk, rfl, HA⟩ := hrel
    by_cases hlt : k < xs.length
    · obtain ⟨b, off, rfl, hc⟩ := unhide HC k hlt
      by_cases hn : numB xs[k] = true
      · have HN := hide (all_succ hlt (unhide HA) hn)
        go_wp2_with (go_at_call 51; refine (isNumber_any _ _).mono ?_; rintro e w' ⟨rfl, rfl⟩)
        go_round
        case rel => exact ⟨k + 1, by omega, by go_num, HN⟩
        case measure => simp [intOf]; omega
      · have hn' : numB xs[k] = false := by simpa using hn
        have HF := hide (listC_bad h1 (intsB_false_at hlt hn'))
        clear hn
        go_wp2_with (go_at_call 51; refine (isNumber_any _ _).mono ?_; rintro e w' ⟨rfl, rfl⟩)
        go_ret
        exact ⟨ret_int (unhide HF).symm, rfl⟩
    · have HF := hide (listC_ok (xs := xs) h1 (by rw [intsB_len (fun j h => unhide HA j h (by omega))]; simp; omega))
      go_wp2
      go_ret
      exact ⟨ret_int (unhide HF).symm, rfl⟩

end Go.Proofs.YtjmianalknnekabDoor

/- What PackInts answers, plain. -/
namespace Go.Proofs.YtjmianalknnekabDoor
set_option linter.unusedVariables false

/-- The answer's text. -/
def packT (xs : List Int) : ByteArray := if listC xs = 0 then packS xs else ⟨#[]⟩
theorem packT_ok {xs : List Int} (h : listC xs = 0) : packT xs = packS xs := if_pos h
theorem packT_no {xs : List Int} (h : listC xs ≠ 0) : packT xs = ⟨#[]⟩ := if_neg h
theorem ret_si {a b : ByteArray} {c d : Int} (h : a = b) (k : c = d) : Ending.returned (.tuple #[.string a, .int .i64 c]) = .returned (.tuple #[.string b, .int .i64 d]) := by rw [h, k]

end Go.Proofs.YtjmianalknnekabDoor

/- Contract of impl.kindOK. -/
namespace Go.Proofs.YtjmianalknnekabDoor
open Go.RowKit
set_option linter.unusedVariables false
set_option maxRecDepth 100000

theorem kindOK_any (n : Int) (w : World) : Calls Tryd.prog 98 #[.int .i64 n] w fun e w' => e = .returned (.bool (kindB n)) ∧ w' = w := by
  go_enter Tryd.func98, Tryd.ntmps98
  go_wp2
  all_goals
    go_ret
    exact ⟨ret_bool (by rw [Bool.eq_iff_iff]; simp [kindB, inB]; omega), rfl⟩

end Go.Proofs.YtjmianalknnekabDoor

/- Contracts of SealRecord, of the program and of its model. -/
namespace Go.Proofs.YtjmianalknnekabDoor
open Go.RowKit
set_option linter.unusedVariables false
set_option maxRecDepth 100000

/-- 'string(head[:2])', 'string(head[:])', head an array of four bytes. -/
theorem arr2 (W : World) (g : Nat) (a b c d : Int) (h : W.heap.size = g) : (convert 29 9 (.slice (some ⟨g, 0, none⟩) 2 4)).run Tryd.prog (W.alloc (.cells #[.int .u8 a, .int .u8 b, .int .u8 c, .int .u8 d] 136)) = .ok (.string (strOfNums [a, b])) (W.alloc (.cells #[.int .u8 a, .int .u8 b, .int .u8 c, .int .u8 d] 136)) := by
  subst h
  refine run_convert_bytes_arg _ 29 5 Tryd.underlying29 Tryd.underlying5 W.heap.size 0 2 4 [a, b] rfl ?_ 9 Tryd.underlying9
  intro i hi
  rcases (show i = 0 ∨ i = 1 by omega) with rfl | rfl <;> simp [go_sem, List.getD]
theorem arr4 (W : World) (g : Nat) (a b c d : Int) (h : W.heap.size = g) : (convert 29 9 (.slice (some ⟨g, 0, none⟩) 4 4)).run Tryd.prog (W.alloc (.cells #[.int .u8 a, .int .u8 b, .int .u8 c, .int .u8 d] 136)) = .ok (.string (strOfNums [a, b, c, d])) (W.alloc (.cells #[.int .u8 a, .int .u8 b, .int .u8 c, .int .u8 d] 136)) := by
  subst h
  refine run_convert_bytes_arg _ 29 5 Tryd.underlying29 Tryd.underlying5 W.heap.size 0 4 4 [a, b, c, d] rfl ?_ 9 Tryd.underlying9
  intro i hi
  rcases (show i = 0 ∨ i = 1 ∨ i = 2 ∨ i = 3 by omega) with rfl | rfl | rfl | rfl <;> simp [go_sem, List.getD]
theorem sum_impl (k : Int) (xs : List Int) (w : World) (hl : xs.length ≤ 16) : Calls Tryd.prog 100 #[.string (strOfNums [k, (xs.length : Int)] ++ packS xs)] w fun e w' => e = .returned (.int .i64 (sumR k xs)) ∧ w' = w := by
  have h := sumOf_impl (sumT k xs) w (by rw [sumT_size]; omega)
  rw [sumC_short (by rw [sumT_size]; omega)] at h
  exact h

set_option maxHeartbeats 1600000 in
theorem sealRecord_impl (k : Int) (ao : Option Addr) (cap : Nat) (xs : List Int) (w : World) (hl : xs.length ≤ 1048576) (hc : Is w ao xs) :
    Calls Tryd.prog 80 #[.int .i64 k, .slice ao xs.length cap] w fun e w' => e = .returned (.tuple #[.string (sealT k xs), .int .i64 (sealC k xs)]) ∧ Below w.heap.size w w' := by
  have HC := hide hc
  clear hc
  by_cases h2 : listC xs = 0
  · have HL := hide h2
    have hb : (listC xs != 0) = false := by simp [h2]
    have HP := hide (intsB_parts (listC_zero h2))
    clear h2
    by_cases h3 : kindB k = true
    · have HF := hide (sealC_ok (unhide HL) h3)
      obtain ⟨hk0, hk1⟩ := kindB_in h3
      have hl16 := (unhide HP).2
      have hp := packS_size xs
      have hs2 : (strOfNums [k, (xs.length : Int)]).size = 2 := strOfNums_size _
      have hs4 : (strOfNums [k, (xs.length : Int), sumR k xs, 0]).size = 4 := strOfNums_size _
      obtain ⟨hr0, hr1⟩ := sumR_in k xs
      go_enter Tryd.func80, Tryd.ntmps80
      go_wp2_with (first | (go_at_call 97; refine (listFault_any _ _ xs _ hl (unhide HC)).mono ?_; rintro e w' ⟨rfl, rfl⟩) | (go_at_call 98; refine (kindOK_any _ _).mono ?_; rintro e w' ⟨rfl, rfl⟩) | (go_at_call 99; refine (packNumbers_any _ _ xs _ (unhide HP).2 (unhide HP).1 (unhide HC)).mono ?_; rintro e w1 ⟨rfl, hb1⟩; have HB1 := hide hb1; clear hb1; have hc2 := arr2 w1 w1.heap.size k xs.length 0 0 rfl) | (go_at_call 100; refine (sum_impl k xs _ hl16).mono ?_; rintro e w' ⟨rfl, rfl⟩; have hc4 := arr4 w1 w1.heap.size k xs.length (sumR k xs) 0 rfl))
      go_ret2
      exact ⟨ret_si (sealT_ok (unhide HF)).symm (unhide HF).symm, fr (unhide HB1) (Joins.below_alloc1 _ _)⟩
    · have h4 : kindB k = false := by simpa using h3
      have HF := hide (sealC_kind (unhide HL) h4)
      clear h3
      go_enter Tryd.func80, Tryd.ntmps80
      go_wp2_with (first | (go_at_call 97; refine (listFault_any _ _ xs _ hl (unhide HC)).mono ?_; rintro e w' ⟨rfl, rfl⟩) | (go_at_call 98; refine (kindOK_any _ _).mono ?_; rintro e w' ⟨rfl, rfl⟩))
      go_ret2
      exact ⟨ret_si (sealT_no (by rw [unhide HF]; decide)).symm (unhide HF).symm, Below.refl _ _⟩
  · have HF := hide (sealC_list (k := k) h2)
    have HNE := hide h2
    have hb : (listC xs != 0) = true := by simp [h2]
    clear h2
    go_enter Tryd.func80, Tryd.ntmps80
    go_wp2_with (go_at_call 97; refine (listFault_any _ _ xs _ hl (unhide HC)).mono ?_; rintro e w' ⟨rfl, rfl⟩)
    go_ret2
    exact ⟨ret_si (sealT_no (by rw [unhide HF]; exact unhide HNE)).symm (unhide HF).symm, Below.refl _ _⟩

end Go.Proofs.YtjmianalknnekabDoor

/- Contracts of the program's updates: SlotOf, updateOK, text, EncodeUpdate. -/
namespace Go.Proofs.YtjmianalknnekabDoor
open Go.RowKit
set_option linter.unusedVariables false
set_option maxRecDepth 100000

theorem within_inJ (n low high : Int) (w : World) : Calls Tryd.prog 74 #[.int .i64 n, .int .i64 low, .int .i64 high] w fun e w' => e = .returned (.bool (inB n low high)) ∧ w' = w := within_any n low high w

theorem slotOf_impl (h : Int) (w : World) : Calls Tryd.prog 30 #[.int .i64 h] w fun e w' => e = .returned (.tuple #[.int .i64 (slR h), .int .i64 (slC h)]) ∧ w' = w := by
  go_enter Tryd.func30, Tryd.ntmps30
  go_wp2_with fail
  refine (hostOK_any h _).mono ?_
  rintro e w1 ⟨rfl, rfl⟩
  by_cases hh : inB h 0 3 = true
  · have HE : Hid (slR h = slN h ∧ slC h = 0) := hide ⟨if_pos hh, if_pos hh⟩
    have h1 : 0 ≤ h ∧ h ≤ 3 := by simpa [inB] using hh
    have wr1 : IntKind.i64.wrap (6 * h) = 6 * h := by rw [IntKind.wrap_i64]; omega
    have wr2 : IntKind.i64.wrap (39 + 6 * h) = 39 + 6 * h := by rw [IntKind.wrap_i64]; omega
    clear h1
    go_wp2
    go_ret2
    exact ⟨ret_two2 (unhide HE).1.symm (unhide HE).2.symm, rfl⟩
  · have HE : Hid (slR h = 0 ∧ slC h = 4) := hide ⟨if_neg hh, if_neg hh⟩
    rw [Bool.not_eq_true] at hh
    go_wp2
    go_ret2
    exact ⟨ret_two2 (unhide HE).1.symm (unhide HE).2.symm, rfl⟩

set_option maxHeartbeats 1600000 in
theorem updateOK_any (u : Up) (w : World) (hz : u.data.size ≤ maxLen) : Calls Tryd.prog 52 #[uV u] w fun e w' => e = .returned (.bool (upB u)) ∧ Below w.heap.size w w' := by
  unfold maxLen at hz
  go_enter Tryd.func52, Tryd.ntmps52
  go_wp2_with fail
  refine (within_inJ u.at_ 9 38 _).mono ?_
  rintro e w1 ⟨rfl, rfl⟩
  by_cases h1 : inB u.at_ 9 38 = false
  · have hr : Hid (upB u = false) := hide (by simp [upB, h1])
    go_wp2
    go_ret
    rw [unhide hr]
    exact ⟨rfl, Joins.below_alloc1 _ _⟩
  rw [Bool.not_eq_false] at h1
  have hr : Hid (upB u = decide ((u.data.size : Int) ≤ 72)) := hide (by simp [upB, h1]; omega)
  go_wp2
  go_ret
  rw [unhide hr]
  exact ⟨rfl, Joins.below_alloc1 _ _⟩

end Go.Proofs.YtjmianalknnekabDoor
