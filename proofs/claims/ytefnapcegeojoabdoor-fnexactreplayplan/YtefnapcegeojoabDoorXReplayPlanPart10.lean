import Derived.Test.YtefnapcegeojoabDoorRows
import Derived.Test.YtefnapcegeojoabDoorXReplayPlanPart1
import Derived.Test.YtefnapcegeojoabDoorXReplayPlanPart4
import Derived.Test.YtefnapcegeojoabDoorXReplayPlanPart3
import Derived.Test.YtefnapcegeojoabDoorXReplayPlanPart2
import Derived.Test.YtefnapcegeojoabDoorXReplayPlanPart7
import Derived.Test.YtefnapcegeojoabDoorXReplayPlanPart6
import Derived.Test.YtefnapcegeojoabDoorXReplayPlanPart5
import Derived.Test.YtefnapcegeojoabDoorXReplayPlanPart8
import Derived.Test.YtefnapcegeojoabDoorXReplayPlanPart9
import Derived.WalkKit
import Derived.WalkSpells
import Derived.KernelRfl
import Derived.LoopN
import Derived.BigQuiet
import Derived.Deep.QuietTactic
import Derived.Deep.CutRange
import Derived.Lib.SmallJoins
import Derived.Deep.RegionWith
import Derived.Deep.RegionHeld3
import Derived.Deep.RegionLawGrows

/- Contracts of the program's journals that are read: journalSeen, JournalOf, ReplayPlan. -/
namespace Go.Proofs.YtefnapcegeojoabDoor
open Go.RowKit
set_option linter.unusedVariables false
set_option maxRecDepth 100000

theorem infoUy : (Tryd.prog.info? 49).map (fun i => (i.zero, i.size, i.bytes)) = some (some (.agg #[.int .i64 0, .string ⟨#[]⟩]), 2, 24) := by kernel_rfl
theorem seenAtJ (ao bo : Option Addr) (ca cb : Nat) (ss : List ByteArray) (xs : List Wr) (h a : Int) (T : ByteArray) (w : World) (hd : diskB ss xs = true) (h0 : 0 ≤ a) (h3 : a ≤ 63) (hT : readV ss xs h a = T) (h1 : Ss w ao ss) (h2 : Ios w bo xs) :
    Calls Tryd.prog 75 #[.agg #[.slice ao ss.length ca, .slice bo xs.length cb], .int .i64 h, .int .i64 a] w fun e w' => e = .returned (.string T) ∧ Below w.heap.size w w' := by
  obtain ⟨l1, l2⟩ := diskB_len hd
  obtain ⟨n, rfl⟩ := Int.eq_ofNat_of_zero_le h0
  subst hT
  exact seenBy_any ao bo ca cb ss xs h n w l2 (by omega) (by omega) h1 h2
theorem slN_atI {o : Int} (h : inB o 0 3 = true) : 39 ≤ slN o ∧ slN o ≤ 57 := by
  have : 0 ≤ o ∧ o ≤ 3 := by simpa [inB] using h
  unfold slN; omega
theorem jn_ne : (70 : Nat) ≠ 49 := by decide
theorem VarJ.set2 {w : World} {x t : Nat} {slot seq : Int} {v : Value} (h : VarJ w x t slot seq v) (u : Value) : VarJ (w.setCell ⟨x, 2, none⟩ u) x t slot seq u := Joins.block_setCell (i := 2) h u
theorem VarJ.set3 {w : World} {x t : Nat} {slot seq : Int} {v : Value} (h : VarJ w x t slot seq v) (a b : Int) (u : Value) : VarJ (((w.setCell ⟨x, 0, none⟩ (.int .i64 a)).setCell ⟨x, 1, none⟩ (.int .i64 b)).setCell ⟨x, 2, none⟩ u) x t a b u :=
  Joins.block_setCell (i := 2) (Joins.block_setCell (i := 1) (Joins.block_setCell (i := 0) h _) _) u
theorem VarJ.other {w : World} {x t : Nat} {slot seq : Int} {v : Value} (h : VarJ w x t slot seq v) {p : Addr} (hp : x ≠ p.block) (u : Value) : VarJ (w.setCell p u) x t slot seq v := by
  unfold VarJ; rw [Below.heap_setCell w p u x hp]; exact h
theorem UpS.setJ {w W : World} {qo : Option Addr} {n qa x : Nat} {us : List Up} {slot seq : Int} {v : Value} (h : UpS w W qo n qa us) (hx : VarJ W x 70 slot seq v) (hle : w.heap.size ≤ x) (i : Nat) (u : Value) : UpS w (W.setCell ⟨x, i, none⟩ u) qo n qa us :=
  ⟨h.o.keep ((Keep.refl (fun k => k = x) W).setCell (p := ⟨x, i, none⟩) rfl u) (fun g hg e => h.o.other hx jn_ne (e ▸ hg)), h.k.setCell (p := ⟨x, i, none⟩) hle u⟩
def jsT (ss : List ByteArray) (xs : List Wr) (h o : Int) : Int := if joC ss xs h o = 0 then slN o else 0

/-- The end of a call that answers with the journal in a variable. -/
theorem seen_end {w W : World} {x : Nat} {s0 q0 : Int} {v0 : Value} (hv : VarJ W x 70 s0 q0 v0) (hb : Below w.heap.size w W) (hx : w.heap.size ≤ x) (a b : Int) (u : Value) :
    Below w.heap.size w (((W.setCell ⟨x, 0, none⟩ (.int .i64 a)).setCell ⟨x, 1, none⟩ (.int .i64 b)).setCell ⟨x, 2, none⟩ u) := below3 hb hx 0 1 2 _ _ _

set_option maxHeartbeats 6400000 in
theorem journalSeen_any (ao bo : Option Addr) (ca cb : Nat) (ss : List ByteArray) (xs : List Wr) (h o : Int) (w : World) (hl : ss.length ≤ maxLen) (hm : xs.length ≤ maxLen) (h1 : Ss w ao ss) (h2 : Ios w bo xs) (hE : ErrW w) :
    Calls Tryd.prog 37 #[.agg #[.slice ao ss.length ca, .slice bo xs.length cb], .int .i64 h, .int .i64 o] w fun e w' =>
      ∃ qo n qa, e = .returned (.tuple #[jV (jsT ss xs h o) (joS ss xs h o) qo n qa, .int .i64 (joC ss xs h o)]) ∧ UpS w w' qo n qa (joL ss xs h o) := by
  obtain ⟨i0, hi, hz0, hz1, hz2⟩ := info_parts infoUy
  have HA := hide (Joins.below_alloc2 w (.cells #[.slice ao ss.length ca, .slice bo xs.length cb] 32) (.cells #[.int .i64 0, .int .i64 0, .slice none 0 0] 70))
  have HV := hide ((VarD.new w (.slice ao ss.length ca) (.slice bo xs.length cb)).below (Joins.below_alloc1 _ (.cells #[.int .i64 0, .int .i64 0, .slice none 0 0] 70)))
  have HR : Hid (VarJ ((w.alloc (.cells #[.slice ao ss.length ca, .slice bo xs.length cb] 32)).alloc (.cells #[.int .i64 0, .int .i64 0, .slice none 0 0] 70)) (w.heap.size + 1) 70 0 0 (.slice none 0 0)) := hide (by have := VarJ.new (w.alloc (.cells #[.slice ao ss.length ca, .slice bo xs.length cb] 32)) 70 0 0 (.slice none 0 0); simp only [World.size_alloc] at this; exact this)
  have H1 := hide (h1.below (unhide HA))
  have H2 := hide (h2.below (unhide HA))
  have HS1 := hide h1
  have HS2 := hide h2
  have HL := hide hl
  have HM := hide hm
  have HE := hide hE
  have HZ : Hid (∀ c, joC ss xs h o = c → c ≠ 0 → jsT ss xs h o = 0 ∧ joS ss xs h o = 0 ∧ joL ss xs h o = []) := hide (fun c hc h0 => ⟨if_neg (by rw [hc]; exact h0), (jo_no (by rw [hc]; exact h0)).2.1, (jo_no (by rw [hc]; exact h0)).1⟩)
  have H0 : Hid (∀ W, Below w.heap.size w W → UpS w W none 0 0 []) := hide (fun W hb => ⟨.inl ⟨rfl, rfl, _, rfl⟩, hb⟩)
  clear h1 h2 hl hm hE
  go_enter Tryd.func37, Tryd.ntmps37
  go_wp2_with fail
  refine (hostFault_any ao bo ca cb ss xs h _ (unhide HL) (unhide HM) (unhide H1) (unhide H2)).mono ?_
  rintro e W1 ⟨rfl, hb⟩
  have HB1 := hide (fr (unhide HA) hb)
  have HV1 := hide ((unhide HV).below hb)
  have HR1 := hide ((unhide HR).below hb)
  clear hb HV HR
  obtain ⟨d0, d1⟩ := (unhide HV1).cells
  obtain ⟨r0, r1, r2⟩ := (unhide HR1).cells
  have rf0 := (unhide HR1).free 0
  have rf1 := (unhide HR1).free 1
  have rf2 := (unhide HR1).free 2
  have hR1 : w.heap.size ≤ w.heap.size + 1 := Nat.le_succ _
  by_cases e0 : hostC ss xs h = 0
  case neg =>
    have e0b : (hostC ss xs h != 0) = true := by simp [e0]
    have HC := hide (joC_host (o := o) e0)
    obtain ⟨k1, k2, k3⟩ := unhide HZ _ (unhide HC) e0
    have HK := hide (And.intro k1 (And.intro k2 k3))
    have HX := hide (fun a b u => seen_end (unhide HR1) (unhide HB1) hR1 a b u)
    clear e0 k1 k2 k3
    go_wp2
    refine bodyPost_ret (v := .tuple #[jV 0 0 none 0 0, .int .i64 (hostC ss xs h)]) (by simp [results, Tryd.results37, go_sem, r0, r1, r2]) rfl ⟨none, 0, 0, ?_, ?_⟩
    · rw [(unhide HK).1, (unhide HK).2.1, unhide HC]
    · rw [(unhide HK).2.2]; exact unhide H0 _ (unhide HX _ _ _)
  have e0b : (hostC ss xs h != 0) = false := by simp [e0]
  by_cases e1 : inB o 0 3 = true
  case neg =>
    rw [Bool.not_eq_true] at e1
    have HC := hide (joC_range e0 e1)
    obtain ⟨k1, k2, k3⟩ := unhide HZ _ (unhide HC) (by decide)
    have HK := hide (And.intro k1 (And.intro k2 k3))
    have HX := hide (fun a b u => seen_end (unhide HR1) (unhide HB1) hR1 a b u)
    have hsc : slC o = 4 := by simp [slC, e1]
    clear e0 k1 k2 k3
    go_wp2_with fail
    refine (slotOf_impl o _).mono ?_
    rintro e w2 ⟨rfl, hw⟩
    replace hw := hw.symm
    subst hw
    rw [hsc]
    go_wp2
    refine bodyPost_ret (v := .tuple #[jV 0 0 none 0 0, .int .i64 4]) (by simp [results, Tryd.results37, go_sem, r0, r1, r2]) rfl ⟨none, 0, 0, ?_, ?_⟩
    · rw [(unhide HK).1, (unhide HK).2.1, unhide HC]
    · rw [(unhide HK).2.2]; exact unhide H0 _ (unhide HX _ _ _)
  have hsc : slC o = 0 := by simp [slC, e1]
  have hsr : slR o = slN o := by simp [slR, e1]
  have hd : diskB ss xs = true := (hostC_eq e0).1
  obtain ⟨hs0, hs1⟩ := slN_atI e1
  obtain ⟨T, HT⟩ : ∃ T, Hid (joH ss xs h o = T) := ⟨_, hide rfl⟩
  obtain ⟨F, HF⟩ : ∃ F, Hid (joF ss xs h o = F) := ⟨_, hide rfl⟩
  have HTS : Hid (T.size ≤ 65536) := hide (by rw [← unhide HT]; have := readV_size hd h (slN o); show (readV ss xs h (slN o)).size ≤ 65536; omega)
  have HFS : Hid (∀ i, (F i).size ≤ 65536) := hide (fun i => by rw [← unhide HF]; have := readV_size hd h (slN o + 1 + (i : Int)); show (readV ss xs h (slN o + 1 + (i : Int))).size ≤ 65536; omega)
  have HTR : Hid (readV ss xs h (slN o) = T) := HT
  have HFR : Hid (∀ i : Nat, readV ss xs h (slN o + 1 + (i : Int)) = F i) := hide (fun i => by rw [← unhide HF]; rfl)
  have HBK : Hid (jkB T F = false → joC ss xs h o = 18) := hide (fun hk => joC_broken e0 e1 (by rw [unhide HT, unhide HF]; exact hk))
  have HOK : Hid (jkB T F = true → joC ss xs h o = 0 ∧ jsT ss xs h o = slN o ∧ joS ss xs h o = jkS T F ∧ joL ss xs h o = jkL T F) := hide (fun hk => by
    have hc := joC_ok e0 e1 (by rw [unhide HT, unhide HF]; exact hk)
    obtain ⟨j1, j2⟩ := jo_yes hc
    exact ⟨hc, if_pos hc, by rw [j2, unhide HT, unhide HF], by rw [j1, unhide HT, unhide HF]⟩)
  have HD := hide hd
  clear hd e0 e1 HT HF
  go_wp2_with fail
  refine (slotOf_impl o _).mono ?_
  rintro e w2 ⟨rfl, hw⟩
  replace hw := hw.symm
  subst hw
  rw [hsc, hsr]
  go_wp2_with fail
  refine (seenAtJ ao bo ca cb ss xs h (slN o) T _ (unhide HD) (by omega) (by omega) (unhide HTR) ((unhide HS1).below (unhide HB1)) ((unhide HS2).below (unhide HB1))).mono ?_
  rintro e W2 ⟨rfl, hb⟩
  have HB2 := hide (fr (unhide HB1) hb)
  have HV2 := hide ((unhide HV1).below hb)
  have HR2 := hide ((unhide HR1).below hb)
  clear hb HV1 HR1 d0 d1 r0 r1 r2 rf0 rf1 rf2
  by_cases hsd : sdB T = true
  case neg =>
    rw [Bool.not_eq_true] at hsd
    have HC := hide (unhide HBK (jk_shut (F := F) hsd).1)
    obtain ⟨k1, k2, k3⟩ := unhide HZ _ (unhide HC) (by decide)
    have HK := hide (And.intro k1 (And.intro k2 k3))
    clear k1 k2 k3
    go_wp2_with fail
    refine (readTextH_no T _ (unhide HTS) hsd ((unhide HE).below (unhide HB2))).mono ?_
    rintro e W3 ⟨rfl, hb⟩
    have HB3 := hide (belowAl (fr (unhide HB2) hb) (.cells #[.int .i64 0, .int .i64 0] 111))
    have HR3 := hide (((unhide HR2).below hb).below (Joins.below_alloc1 W3 (.cells #[.int .i64 0, .int .i64 0] 111)))
    have hltR : w.heap.size + 1 < W3.heap.size := ((unhide HR2).below hb).lt
    obtain ⟨r0, r1, r2⟩ := ((unhide HR2).below hb).cells
    have rf0 := ((unhide HR2).below hb).free 0
    have rf1 := ((unhide HR2).below hb).free 1
    have rf2 := ((unhide HR2).below hb).free 2
    have HX := hide (fun a b u => seen_end ((unhide HR2).below hb) (fr (unhide HB2) hb) hR1 a b u)
    clear hb
    go_wp2
    refine bodyPost_ret (v := .tuple #[jV 0 0 none 0 0, .int .i64 18]) (by simp [results, Tryd.results37, go_sem, r0, r1, r2, hltR]) rfl ⟨none, 0, 0, ?_, ?_⟩
    · rw [(unhide HK).1, (unhide HK).2.1, unhide HC]
    · rw [(unhide HK).2.2]; exact unhide H0 _ (by first | exact belowAl (unhide HX _ _ _) _ | exact unhide HX _ _ _ | exact below3 (unhide HB3) hR1 0 1 2 _ _ _)
  go_wp2_with fail
  refine (readTextH_yes T _ (unhide HTS) hsd).mono ?_
  rintro e W3 ⟨rfl, hb⟩
  have hN5 := sdN_le hsd
  obtain ⟨N, hN⟩ : ∃ N, N = sdN T := ⟨_, rfl⟩
  have HN := hide hN
  have HSD := hide hsd
  rw [← hN] at hN5 ⊢
  clear hN hsd
  have HB3 := hide (fr (unhide HB2) hb)
  have HV3 := hide ((unhide HV2).below hb)
  have HR3 := hide ((unhide HR2).below hb)
  clear hb HV2 HR2
  -- the head in a variable, the journal in another one
  have HAl := hide (Joins.below_alloc1 W3 (.cells #[.int .i64 (N : Int), .int .i64 (sdS T)] 111))
  have HH4 := hide (VarH.new W3 111 (N : Int) (sdS T))
  have HB4 := hide (fr (unhide HB3) (unhide HAl))
  have HV4 := hide ((unhide HV3).below (unhide HAl))
  have HR4 := hide ((unhide HR3).below (unhide HAl))
  have HJ5 : Hid (VarJ ((W3.alloc (.cells #[.int .i64 (N : Int), .int .i64 (sdS T)] 111)).alloc (.cells #[.int .i64 (slN o), .int .i64 (sdS T), .slice none 0 0] 70)) (W3.heap.size + 1) 70 (slN o) (sdS T) (.slice none 0 0)) := hide (by have := VarJ.new (W3.alloc (.cells #[.int .i64 (N : Int), .int .i64 (sdS T)] 111)) 70 (slN o) (sdS T) (.slice none 0 0); simp only [World.size_alloc] at this; exact this)
  have HU5 : Hid (UpS (W3.alloc (.cells #[.int .i64 (N : Int), .int .i64 (sdS T)] 111)) ((W3.alloc (.cells #[.int .i64 (N : Int), .int .i64 (sdS T)] 111)).alloc (.cells #[.int .i64 (slN o), .int .i64 (sdS T), .slice none 0 0] 70)) none 0 0 ((fuL F N).take 0)) := hide ⟨.inl ⟨rfl, rfl, _, rfl⟩, Joins.below_alloc1 _ _⟩
  have hJs : (W3.alloc (.cells #[.int .i64 (N : Int), .int .i64 (sdS T)] 111)).heap.size = W3.heap.size + 1 := by simp
  have HJs := hide hJs
  have hltR : w.heap.size + 1 < W3.heap.size := (unhide HR3).lt
  have hltD : w.heap.size < W3.heap.size := (unhide HV3).lt
  clear hJs
  clear HAl HV3 HR3
  go_wp2
  revert HH4 HB4 HV4 HR4 HJ5 HU5 HJs
  generalize W3.alloc (.cells #[.int .i64 (N : Int), .int .i64 (sdS T)] 111) = W4
  intro HH4 HB4 HV4 HR4 HJ5 HU5 HJs
  have HJW : Hid (W4.heap.size ≤ W3.heap.size + 1) := hide (Nat.le_of_eq (unhide HJs))
  have hxJ : w.heap.size ≠ W3.heap.size + 1 := by omega
  have hxJ' : W3.heap.size + 1 ≠ w.heap.size := by omega
  have hrJ : w.heap.size + 1 ≠ W3.heap.size + 1 := by omega
  have hrJ' : W3.heap.size + 1 ≠ w.heap.size + 1 := by omega
  have hJw : w.heap.size + 1 ≤ W3.heap.size + 1 := by omega
  generalize W3.heap.size + 1 = J at *
  go_loopw [49] (fun i wr => ∃ (k : Nat) (ro : Option Addr) (ra : Nat), k ≤ N ∧ i = .int .i64 k ∧ Hid (UpS W4 wr ro k ra ((fuL F N).take k)) ∧ Hid (VarJ wr J 70 (slN o) (sdS T) (.slice ro k ra)) ∧ Hid (∀ j, j < k → duB (F j) = true)) (fun i _ => N - (intOf i).toNat)
  case atStart => exact ⟨0, _, _, Nat.zero_le _, rfl, HU5, HJ5, hide (fun j hj => by omega)⟩
  case round =>
    obtain ⟨k, ro, ra, hk, rfl, HU, HJ, HP⟩ := hrel
    have HVr := hide ((unhide HV4).below (unhide HU).k)
    have HRr := hide ((unhide HR4).below (unhide HU).k)
    have HBr := hide (fr (unhide HB4) (unhide HU).k)
    obtain ⟨j0, j1, j2⟩ := (unhide HJ).cells
    have hjl := (unhide HJ).lt
    by_cases hlt : k < N
    · have hki : (k : Int) < (N : Int) := by omega
      obtain ⟨d0, d1⟩ := (unhide HVr).cells
      have hvl := (unhide HVr).lt
      have hvn : w.heap.size ≠ wr.heap.size := Nat.ne_of_lt hvl
      have hvn' : wr.heap.size ≠ w.heap.size := Ne.symm hvn
      have hjn : J ≠ wr.heap.size := Nat.ne_of_lt hjl
      have hjn' : wr.heap.size ≠ J := Ne.symm hjn
      have HFk := hide (unhide HFS k)
      have HRk := hide (unhide HFR k)
      have HPL : Hid (∀ W : World, Calls Tryd.prog 78 #[jV (slN o) (sdS T) ro k ra, .int .i64 k] W fun e w' => e = .returned (.int .i64 (slN o + 1 + k)) ∧ Below W.heap.size W w') := hide (fun W => place_any (slN o) (sdS T) ro k ra k W (by omega) (by omega))
      go_upto_region 14 with fail
      go_cut [14, 15, 49] from 49 to 71 (fun c q ix wx => ∃ C : Nat, c = .pointer (some ⟨C, 0, none⟩) ∧ q = .int .i64 (dkC (F k)) ∧ ix = .int .i64 (k : Int) ∧ Hid (GotU wr wx C 49 (dkU (F k))))
      case first =>
        go_region_held3 (fun w' => w'.cell? ⟨w.heap.size, 0, none⟩ = some (.slice ao ss.length ca) ∧ w'.cell? ⟨w.heap.size, 1, none⟩ = some (.slice bo xs.length cb) ∧ w'.cell? ⟨J, 0, none⟩ = some (.int .i64 (slN o)) ∧ w'.cell? ⟨J, 1, none⟩ = some (.int .i64 (sdS T)) ∧ w'.cell? ⟨J, 2, none⟩ = some (.slice ro k ra)) (go_keep)
          (first
            | (go_at_call 78; refine (unhide HPL _).mono ?_; rintro e w2 ⟨rfl, hb⟩; (first | (have HV2 : Hid (VarU w2 wr.heap.size 49 up0) := (by exact hide (((VarU.new wr 49 up0).below (Below.refl _ _).drew).below hb)); have HB2x : Hid (Below wr.heap.size wr w2) := (by exact hide (fr (Joins.below_alloc1 wr _).drew hb)); clear hb) | (have HB2x : Hid (Below wr.heap.size wr w2) := (by exact hide (fr ((Below.refl _ wr).drew) hb)); clear hb)); obtain ⟨m0, m1⟩ := ((unhide HVr).below (unhide HB2x)).cells; obtain ⟨m2, m3, m4⟩ := ((unhide HJ).below (unhide HB2x)).cells; have hv2 := ((unhide HVr).below (unhide HB2x)).lt; have hw2 := ((unhide HJ).below (unhide HB2x)).lt; have nv2 : w.heap.size ≠ w2.heap.size := Nat.ne_of_lt hv2; have nv2' : w2.heap.size ≠ w.heap.size := Ne.symm nv2; have nw2 : J ≠ w2.heap.size := Nat.ne_of_lt hw2; have nw2' : w2.heap.size ≠ J := Ne.symm nw2)
            | (go_at_call 75; refine (seenAtJ ao bo ca cb ss xs h (slN o + 1 + (k : Int)) (F k) _ (unhide HD) (by omega) (by omega) (unhide HRk) (by first | exact ((unhide HS1).below (unhide HBr)).below (unhide HB2x) | exact (((unhide HS1).below (unhide HBr)).below (unhide HB2x)).below (Joins.below_alloc1 _ _)) (by first | exact ((unhide HS2).below (unhide HBr)).below (unhide HB2x) | exact (((unhide HS2).below (unhide HBr)).below (unhide HB2x)).below (Joins.below_alloc1 _ _))).mono ?_; rintro e w3 ⟨rfl, hb⟩; (first | (have HVU3 : Hid (VarU w3 wr.heap.size 49 up0) := (by exact hide ((unhide HV2).below hb)); have HB3x : Hid (Below wr.heap.size wr w3) := (by exact hide (fr (unhide HB2x) hb)); clear hb) | (have HVU3 : Hid (VarU w3 w2.heap.size 49 up0) := (by exact hide ((VarU.new w2 49 up0).below hb)); have HB3x : Hid (Below wr.heap.size wr w3) := (by exact hide (fr (belowAl (unhide HB2x) _) hb)); clear hb) | (have HB3x : Hid (Below wr.heap.size wr w3) := (by exact hide (fr (unhide HB2x) hb)); clear hb)); obtain ⟨n0, n1⟩ := ((unhide HVr).below (unhide HB3x)).cells; obtain ⟨n2, n3, n4⟩ := ((unhide HJ).below (unhide HB3x)).cells; have hv3 := ((unhide HVr).below (unhide HB3x)).lt; have hw3 := ((unhide HJ).below (unhide HB3x)).lt; have nv3 : w.heap.size ≠ w3.heap.size := Nat.ne_of_lt hv3; have nv3' : w3.heap.size ≠ w.heap.size := Ne.symm nv3; have nw3 : J ≠ w3.heap.size := Nat.ne_of_lt hw3; have nw3' : w3.heap.size ≠ J := Ne.symm nw3)
            | (go_at_call 77; refine (decodeUpdate_impl (F k) _ (by first | exact ((unhide HE).below (unhide HBr)).below (unhide HB3x) | exact (((unhide HE).below (unhide HBr)).below (unhide HB3x)).below (Joins.below_alloc1 _ _))).mono ?_; rintro e w4 ⟨rfl, hb⟩; (first | (have HVU4 : Hid (VarU w4 wr.heap.size 49 up0) := (by exact hide ((unhide HVU3).below hb)); have HB4x : Hid (Below wr.heap.size wr w4) := (by exact hide (fr (unhide HB3x) hb)); have HLE : Hid (wr.heap.size ≤ wr.heap.size) := hide (Nat.le_refl _); obtain ⟨z0, z1⟩ := (unhide HVU4).cells; obtain ⟨q0, q1⟩ := (unhide HVU4).free; clear hb) | (have HVU4 : Hid (VarU w4 w2.heap.size 49 up0) := (by exact hide ((unhide HVU3).below hb)); have HB4x : Hid (Below wr.heap.size wr w4) := (by exact hide (fr (unhide HB3x) hb)); have HLE : Hid (wr.heap.size ≤ w2.heap.size) := hide (unhide HB2x).size; obtain ⟨z0, z1⟩ := (unhide HVU4).cells; obtain ⟨q0, q1⟩ := (unhide HVU4).free; clear hb) | (have HVU4 : Hid (VarU w4 w3.heap.size 49 up0) := (by exact hide ((VarU.new w3 49 up0).below hb)); have HB4x : Hid (Below wr.heap.size wr w4) := (by exact hide (fr (belowAl (unhide HB3x) _) hb)); have HLE : Hid (wr.heap.size ≤ w3.heap.size) := hide (unhide HB3x).size; obtain ⟨z0, z1⟩ := (unhide HVU4).cells; obtain ⟨q0, q1⟩ := (unhide HVU4).free; clear hb) | (have HB4x : Hid (Below wr.heap.size wr w4) := (by exact hide (fr (unhide HB3x) hb)); clear hb)); obtain ⟨p0, p1⟩ := ((unhide HVr).below (unhide HB4x)).cells; obtain ⟨p2, p3, p4⟩ := ((unhide HJ).below (unhide HB4x)).cells; have hv4 := ((unhide HVr).below (unhide HB4x)).lt; have hw4 := ((unhide HJ).below (unhide HB4x)).lt; have nv4 : w.heap.size ≠ w4.heap.size := Nat.ne_of_lt hv4; have nv4' : w4.heap.size ≠ w.heap.size := Ne.symm nv4; have nw4 : J ≠ w4.heap.size := Nat.ne_of_lt hw4; have nw4' : w4.heap.size ≠ J := Ne.symm nw4))
        all_goals
          go_wp2_with fail
          go_meet
          first
            | exact ⟨_, rfl, rfl, rfl, hide (GotU.set (unhide HB4x) (unhide HVU4) (unhide HLE))⟩
            | exact ⟨_, rfl, rfl, rfl, hide (GotU.top _ _ (unhide HB4x))⟩
      case rest =>
        obtain ⟨C, rfl, rfl, rfl, HGU⟩ := hcut
        rename World => W5
        have HU5x := hide ((unhide HU).next (unhide HGU).k)
        have HJ5x := hide ((unhide HJ).below (unhide HGU).k)
        have HR5 := hide ((unhide HRr).below (unhide HGU).k)
        have HB5 := hide (fr (unhide HBr) (unhide HGU).k)
        clear d0 d1 j0 j1 j2 hvl hvn hvn' hjn hjn' hjl
        obtain ⟨x0, x1⟩ := (unhide HGU).v.cells
        obtain ⟨j0, j1, j2⟩ := (unhide HJ5x).cells
        have jf2 := (unhide HJ5x).free 2
        have hCl := (unhide HGU).v.lt
        have hjl := (unhide HJ5x).lt
        by_cases hdk : duB (F k) = true
        · obtain ⟨y1, y2⟩ := dk_yes (t := F k) (by have := unhide HFk; omega) hdk
          have HPP : Hid (∀ j, j < k + 1 → duB (F j) = true) := hide (fun j hj => by
            by_cases e : j = k
            · rw [e]; exact hdk
            · exact unhide HP j (by omega))
          rw [y1] at x0 x1
          have HUA := hide ((unhide HU5x).next (Joins.below_alloc1 W5 (.cells #[.int .i64 (duU (F k)).at_, .string (duU (F k)).data] 49)))
          have HJA := hide ((unhide HJ5x).below (Joins.below_alloc1 W5 (.cells #[.int .i64 (duU (F k)).at_, .string (duU (F k)).data] 49)))
          have HSZ := hide (unhide HUA).sz
          rw [y2]
          go_wp2_with (at_builtin; refine wpList_append_one rfl _ _ 40 rfl W4.heap.size 49 i0 (.agg #[.int .i64 0, .string ⟨#[]⟩]) 2 24 Tryd.underlying40 hi hz0 hz1 hz2 rfl (by omega) ro k ra (upsV ((fuL F N).take k)) rfl (unhide HUA).o (unhide HSZ) ⟨W5.heap.size, 0, none⟩ _ (upV (duU (F k))) rfl rfl (news2_at W5 _ _ _ rfl) (upV_one _) (by unfold maxLen; omega) (by omega) ?_; intro g2 cap2 wA hoA hkA; have HJN : Hid (VarJ wA J 70 (slN o) (sdS T) (.slice ro k ra)) := hide (by unfold VarJ; rw [hkA.block _ (unhide HJA).lt ((unhide HUA).o.other (unhide HJA) jn_ne)]; exact unhide HJA); have HN2 := hide (UpS.one (unhide HUA) hoA hkA); obtain ⟨t0, t1, t2⟩ := (unhide HJN).cells; have tf2 := (unhide HJN).free 2; clear hoA hkA)
          go_roundw
          case rel => exact ⟨k + 1, _, _, by omega, by go_num, hide (by rw [fuL_take hlt]; exact (unhide HN2).setJ (unhide HJN) (unhide HJW) 2 _), hide ((unhide HJN).set2 _), HPP⟩
          case measure => simp [intOf]; omega
        · rw [Bool.not_eq_true] at hdk
          obtain ⟨y1, y2⟩ := dk_no (t := F k) (by have := unhide HFk; omega) hdk
          have HC := hide (unhide HBK (jk_bad (T := T) (F := F) (by rw [← unhide HN]; exact fuB_no hlt hdk)).1)
          obtain ⟨k1, k2, k3⟩ := unhide HZ _ (unhide HC) (by decide)
          have HK := hide (And.intro k1 (And.intro k2 k3))
          obtain ⟨r0, r1, r2⟩ := (unhide HR5).cells
          have rf0 := (unhide HR5).free 0
          have rf1 := (unhide HR5).free 1
          have rf2 := (unhide HR5).free 2
          have HX := hide (fun a b u => seen_end (unhide HR5) (unhide HB5) hR1 a b u)
          clear k1 k2 k3
          rw [y2]
          go_wp2
          refine bodyPost_ret (v := .tuple #[jV 0 0 none 0 0, .int .i64 18]) (by simp [results, Tryd.results37, go_sem, r0, r1, r2]) rfl ⟨none, 0, 0, ?_, ?_⟩
          · rw [(unhide HK).1, (unhide HK).2.1, unhide HC]
          · rw [(unhide HK).2.2]; exact unhide H0 _ (unhide HX _ _ _)
    · have hke : k = N := by omega
      subst hke
      have HE1 := hide (jk_yes (F := F) (unhide HSD) (by rw [← unhide HN]; exact fuB_yes (unhide HP)))
      have HO1 := hide (unhide HOK (unhide HE1).1)
      have hkn : ¬ ((k : Int) < (k : Int)) := by omega
      obtain ⟨r0, r1, r2⟩ := (unhide HRr).cells
      have rf0 := (unhide HRr).free 0
      have rf1 := (unhide HRr).free 1
      have rf2 := (unhide HRr).free 2
      have HX := hide (fun a b u => seen_end (unhide HRr) (unhide HBr) hR1 a b u)
      have HUX : Hid (∀ a b u, OwnR (((wr.setCell ⟨w.heap.size + 1, 0, none⟩ (.int .i64 a)).setCell ⟨w.heap.size + 1, 1, none⟩ (.int .i64 b)).setCell ⟨w.heap.size + 1, 2, none⟩ u) w.heap.size 49 2 (.slice ro k ra) k (upsV (fuL F k))) := hide (fun a b u => by
        have ho := (unhide HU).o
        rw [fuL_done (Nat.le_refl _)] at ho
        refine (ho.keep ((((Keep.refl (fun q => q = w.heap.size + 1) wr).setCell (p := ⟨w.heap.size + 1, 0, none⟩) rfl (.int .i64 a)).setCell (p := ⟨w.heap.size + 1, 1, none⟩) rfl (.int .i64 b)).setCell (p := ⟨w.heap.size + 1, 2, none⟩) rfl u) (fun g hg e => ho.other (unhide HRr) jn_ne (e ▸ hg))).base (unhide HB4).size)
      go_wp2
      refine bodyPost_ret (v := .tuple #[jV (slN o) (sdS T) ro k ra, .int .i64 0]) (by simp [results, Tryd.results37, go_sem, r0, r1, r2]) rfl ⟨ro, k, ra, ?_, ?_⟩
      · rw [(unhide HO1).1, (unhide HO1).2.1, (unhide HO1).2.2.1, (unhide HE1).2.2]
      · rw [(unhide HO1).2.2.2, (unhide HE1).2.1, ← unhide HN]
        exact ⟨unhide HUX _ _ _, unhide HX _ _ _⟩

set_option maxHeartbeats 1600000 in
theorem journalOf_impl (ao bo : Option Addr) (ca cb : Nat) (ss : List ByteArray) (xs : List Wr) (h o : Int) (w : World) (hl : ss.length ≤ maxLen) (hm : xs.length ≤ maxLen) (h1 : Ss w ao ss) (h2 : Ios w bo xs) (hE : ErrW w) :
    Calls Tryd.prog 20 #[.agg #[.slice ao ss.length ca, .slice bo xs.length cb], .int .i64 h, .int .i64 o] w fun e w' => ∃ qo qa n, e = .returned (.tuple #[.slice qo n qa, .int .i64 (joS ss xs h o), .int .i64 (joC ss xs h o)]) ∧ UpS w w' qo n qa (joL ss xs h o) := by
  have HA := hide (Joins.below_alloc1 w (.cells #[.slice ao ss.length ca, .slice bo xs.length cb] 32))
  have H1 := hide (h1.below (unhide HA))
  have H2 := hide (h2.below (unhide HA))
  have HL := hide hl
  have HM := hide hm
  have HE := hide (hE.below (unhide HA))
  clear h1 h2 hl hm hE
  go_enter Tryd.func20, Tryd.ntmps20
  go_wp2_with fail
  refine (journalSeen_any ao bo ca cb ss xs h o _ (unhide HL) (unhide HM) (unhide H1) (unhide H2) (unhide HE)).mono ?_
  rintro e w1 ⟨qo, n, qa, rfl, hu⟩
  have HU : Hid (UpS w (w1.alloc (.cells #[.int .i64 (jsT ss xs h o), .int .i64 (joS ss xs h o), .slice qo n qa] 70)).drew qo n qa (joL ss xs h o)) := hide (UpS.next (W := w1) ⟨hu.o.base (unhide HA).size, fr (unhide HA) hu.k⟩ (Joins.below_alloc1 _ _).drew)
  clear hu
  go_wp2_with fail
  go_region
  all_goals
    go_wp2
    exact bodyPost_ret (v := .tuple #[.slice qo n qa, .int .i64 (joS ss xs h o), .int .i64 (joC ss xs h o)]) (by simp [results, Tryd.results20, go_sem]) rfl ⟨qo, qa, n, rfl, unhide HU⟩

set_option maxHeartbeats 1600000 in
theorem replayPlan_impl (ao bo : Option Addr) (ca cb : Nat) (ss : List ByteArray) (xs : List Wr) (h o : Int) (w : World) (hl : ss.length ≤ maxLen) (hm : xs.length ≤ maxLen) (h1 : Ss w ao ss) (h2 : Ios w bo xs) (hE : ErrW w) :
    Calls Tryd.prog 9 #[.agg #[.slice ao ss.length ca, .slice bo xs.length cb], .int .i64 h, .int .i64 o] w fun e w' => ∃ qo qa n, e = .returned (.tuple #[.slice qo n qa, .int .i64 (joC ss xs h o)]) ∧ ApS w w' qo n qa (joM ss xs h o) := by
  have HA := hide (Joins.below_alloc1 w (.cells #[.slice ao ss.length ca, .slice bo xs.length cb] 32))
  have H1 := hide (h1.below (unhide HA))
  have H2 := hide (h2.below (unhide HA))
  have HL := hide hl
  have HM := hide hm
  have HE := hide (hE.below (unhide HA))
  have HR := hide (jo_right ss xs h o)
  have HJM : Hid (rpL (jsT ss xs h o) (joS ss xs h o) (joL ss xs h o) = joM ss xs h o) := hide (by
    by_cases hc : joC ss xs h o = 0
    · rw [jsT, if_pos hc]; rfl
    · rw [joM, (jo_no hc).1]; rfl)
  clear h1 h2 hl hm hE
  go_enter Tryd.func9, Tryd.ntmps9
  go_wp2_with fail
  refine (journalSeen_any ao bo ca cb ss xs h o _ (unhide HL) (unhide HM) (unhide H1) (unhide H2) (unhide HE)).mono ?_
  rintro e w1 ⟨qo, n, qa, rfl, hu⟩
  have hnl := hu.len
  subst hnl
  have HB := hide (belowAl (fr (unhide HA) hu.k) (.cells #[.int .i64 (jsT ss xs h o), .int .i64 (joS ss xs h o), .slice qo (joL ss xs h o).length qa] 70))
  have HU := hide ((hu.ups (unhide HR).1).below (Joins.below_alloc1 w1 (.cells #[.int .i64 (jsT ss xs h o), .int .i64 (joS ss xs h o), .slice qo (joL ss xs h o).length qa] 70)))
  clear hu
  go_wp2_with fail
  refine (toApply_any (jsT ss xs h o) (joS ss xs h o) qo qa (joL ss xs h o) _ (unhide HR).2.1 (unhide HR).2.2 (unhide HR).1 (unhide HU)).mono ?_
  rintro e w2 ⟨po, m, pa, rfl, ha⟩
  rw [unhide HJM] at ha
  have HAP : Hid (ApS w w2 po m pa (joM ss xs h o)) := hide ⟨ha.o.base (unhide HB).size, fr (unhide HB) ha.k⟩
  clear ha
  go_wp2
  go_ret2
  exact ⟨po, pa, m, rfl, unhide HAP⟩

end Go.Proofs.YtefnapcegeojoabDoor

/- The walk of laws.FnExactReplayPlan. -/
namespace Go.Proofs.YtefnapcegeojoabDoor
open Go.RowKit
set_option linter.unusedVariables false
set_option maxRecDepth 100000

theorem ownD_ofR {w : World} {B g k : Nat} {ss : List ByteArray} {xs : List Wr} (h1 : w.ownsRow B 9 1 (.slice (some ⟨g, 0, none⟩) ss.length ss.length) ss.length (strV ss)) (h2 : w.ownsRow B 108 3 (.slice (some ⟨k, 0, none⟩) xs.length xs.length) xs.length (ioV xs)) :
    OwnD w B (some ⟨g, 0, none⟩) ss.length ss.length (some ⟨k, 0, none⟩) xs.length xs.length ss xs :=
  ⟨OwnR.of h1 (fun h0 => ⟨_, by rw [h0]⟩), OwnR.of h2 (fun h0 => ⟨_, by rw [h0]⟩)⟩
theorem sUm : (9 : Nat) ≠ 76 := by decide
theorem iUm : (108 : Nat) ≠ 76 := by decide
theorem own_apartR {w : World} {B B' n ca m cb k size : Nat} {e : TypeId} {ao bo : Option Addr} {v : Value} {ss : List ByteArray} {xs : List Wr} {vs : List Value} (h : OwnD w B ao n ca bo m cb ss xs) (h' : OwnR w B' e size v k vs) (e1 : (9 : Nat) ≠ e) (e2 : (108 : Nat) ≠ e) : ∀ g, Own v g → ¬ OwnB ao n ca bo m cb g := by
  rintro g hg (hk | hk)
  · exact own_apart h.s h' e1 g hk hg
  · exact own_apart h.i h' e2 g hk hg

set_option maxHeartbeats 6400000 in
theorem lawReplayPlan (ao bo : Option Addr) (ca cb : Nat) (ss : List ByteArray) (xs : List Wr) (h o : Int) (w : World) (hl : ss.length ≤ maxLen) (hm : xs.length ≤ maxLen) (hc : Ss w ao ss) (hd : Ios w bo xs) (hE : ErrW w) :
    Calls Tryd.prog 3 #[.agg #[.slice ao ss.length ca, .slice bo xs.length cb], .int .i64 h, .int .i64 o] w fun e w' => e = .returned (.bool true) ∧ Below w.heap.size w w' := by
  have HA := hide (Joins.below_alloc1 w (.cells #[.slice ao ss.length ca, .slice bo xs.length cb] 25))
  have HC := hide (hc.below (unhide HA))
  have HD := hide (hd.below (unhide HA))
  have HL := hide hl
  have HM := hide hm
  have HE := hide (hE.below (unhide HA))
  have HZS := hide hc.sizes
  have HZX := hide hd.sizes
  obtain ⟨us, HUS⟩ : ∃ us, Hid (joM ss xs h o = us) := ⟨_, hide rfl⟩
  obtain ⟨cd, HCD⟩ : ∃ cd, Hid (joC ss xs h o = cd) := ⟨_, hide rfl⟩
  have hub : short us ∧ us.length ≤ 8 := by
    rw [← unhide HUS]
    obtain ⟨h1, h2, _⟩ := jo_right ss xs h o
    refine ⟨short_rp h1, ?_⟩
    unfold joM rpL
    split
    · simp
    · rw [apL_length]; omega
  have hu5 := hub.2
  have HUB := hide hub.1.sizes
  clear hc hd hl hm hE hub
  have HCELL : Hid (∀ w', Below (w.alloc (.cells #[.slice ao ss.length ca, .slice bo xs.length cb] 25)).heap.size (w.alloc (.cells #[.slice ao ss.length ca, .slice bo xs.length cb] 25)) w' → w'.cell? ⟨w.heap.size, 0, none⟩ = some (.slice ao ss.length ca) ∧ w'.cell? ⟨w.heap.size, 1, none⟩ = some (.slice bo xs.length cb)) :=
    hide (fun w' h => ⟨(h.cell (by simp)).trans (by simp [go_sem]), (h.cell (by simp)).trans (by simp [go_sem])⟩)
  have HW0 : Hid (w.heap.size < (w.alloc (.cells #[.slice ao ss.length ca, .slice bo xs.length cb] 25)).heap.size) := hide (by simp)
  go_enter Tryd.func3, Tryd.ntmps3
  go_wp2_with fail
  refine (szDisk_any ao bo ca cb ss xs 1048576 _ (unhide HL) (unhide HM) (unhide HC) (unhide HD) (by omega) (by omega)).mono ?_
  rintro e w1 ⟨r, rfl, hr0, hr1, hr2, hb1⟩
  have HB1 := hide hb1
  clear hb1
  by_cases hr : r < 0
  · go_wp2
    go_ret
    exact ⟨rfl, fr (unhide HA) (unhide HB1)⟩
  have hq := hr2 (by omega)
  have hls : ss.length ≤ 1048576 := by omega
  have hlx : xs.length ≤ 1048576 := by omega
  clear hr2 hq
  revert HA HC HD HE HCELL HW0 HB1
  generalize (w.alloc (.cells #[.slice ao ss.length ca, .slice bo xs.length cb] 25)) = W0
  intro HA HC HD HE HCELL HW0 HB1
  obtain ⟨hc0, hc1⟩ := unhide HCELL _ (unhide HB1)
  -- the first copy, and the model's answer
  go_wp2_with fail
  refine (toDisk_any ao bo ca cb ss xs _ hls hlx ((unhide HC).below (unhide HB1)) ((unhide HD).below (unhide HB1))).mono ?_
  rintro e w2 ⟨g, k, rfl, ho, hp, hb2⟩
  have HS2 := hide (ownS ho (unhide HZS))
  have HX2 := hide (ownI hp (unhide HZX))
  have HB2 := hide (fr (unhide HB1) hb2)
  clear ho hp hb2 hc0 hc1
  go_wp2_with fail
  refine (replayPlan_spec _ _ _ _ ss xs h o _ (unhide HL) (unhide HM) (unhide HS2) (unhide HX2)).mono ?_
  rintro e w3 ⟨qo, qa, n, rfl, hu⟩
  rw [unhide HUS] at hu
  rw [unhide HCD]
  obtain rfl := hu.len
  have HW3 := hide hu.o
  have HB3 := hide (fr (unhide HB2) hu.k)
  clear hu
  obtain ⟨hc0, hc1⟩ := unhide HCELL _ (unhide HB3)
  have hlt3 : w.heap.size < w3.heap.size := World.block_lt_of_cell? _ _ hc0
  -- the second copy, which the program gets
  go_wp2_with fail
  refine (toDisk_any ao bo ca cb ss xs _ hls hlx ((unhide HC).below (unhide HB3)) ((unhide HD).below (unhide HB3))).mono ?_
  rintro e w4 ⟨g', k', rfl, ho, hp, hb4⟩
  have HA4 := hide (Joins.below_alloc1 w4 (.cells #[.slice (some ⟨g', 0, none⟩) ss.length ss.length, .slice (some ⟨k', 0, none⟩) xs.length xs.length] 32))
  have HV4 := hide (VarD.new w4 (.slice (some ⟨g', 0, none⟩) ss.length ss.length) (.slice (some ⟨k', 0, none⟩) xs.length xs.length))
  have HO4 := hide ((ownD_ofR ho hp).below (unhide HA4))
  have HW4 := hide ((unhide HW3).below (fr hb4 (unhide HA4)))
  have HB4 := hide (fr (fr (unhide HB3) hb4) (unhide HA4))
  have HC4 : Hid (∀ j, Own (.slice qo us.length qa) j → j < (w4.alloc (.cells #[.slice (some ⟨g', 0, none⟩) ss.length ss.length, .slice (some ⟨k', 0, none⟩) xs.length xs.length] 32)).heap.size) := hide (fun j hj => ((unhide HW4).ge j hj).2)
  have HB3x := hide (unhide HB3).size
  clear ho hp hb4 hc0 hc1
  go_wp2_with fail
  refine (replayPlan_impl _ _ _ _ ss xs h o _ (unhide HL) (unhide HM) ((unhide HO4).ss (unhide HZS)) ((unhide HO4).ios (unhide HZX)) ((unhide HE).below (unhide HB4))).mono ?_
  rintro e w5 ⟨po, pa, n, rfl, hu⟩
  rw [unhide HUS] at hu
  rw [unhide HCD]
  obtain rfl := hu.len
  revert HC4 hu
  have HSZ4 := hide (unhide HB4).size
  revert HSZ4
  generalize (w4.alloc (.cells #[.slice (some ⟨g', 0, none⟩) ss.length ss.length, .slice (some ⟨k', 0, none⟩) xs.length xs.length] 32)) = W4 at *
  intro HSZ4 HC4 hu
  have HG5 := hide hu.o
  have HV5 := hide ((unhide HV4).below hu.k)
  have HO5 := hide ((unhide HO4).below hu.k)
  have HW5 := hide ((unhide HW4).below hu.k)
  have HB5 := hide (fr (unhide HB4) hu.k)
  clear hu
  have hus : us.length ≤ maxLen := by unfold maxLen; omega
  have HEQ : Hid (eqWB us us = true) := hide (@decide_eq_true (us = us) (decWrs us us) rfl)
  go_wp2_with fail
  refine (eqMoveS_any po qo pa qa us us _ hus (ownMv (unhide HG5) (unhide HUB)) (ownMv (unhide HW5) (unhide HUB))).mono ?_
  rintro e w6 ⟨rfl, hb⟩
  rw [unhide HEQ]
  have HG6 := hide ((unhide HG5).below hb)
  have HV6 := hide ((unhide HV5).below hb)
  have HO6 := hide ((unhide HO5).below hb)
  have HW6 := hide ((unhide HW5).below hb)
  have HB6 := hide (fr (unhide HB5) hb)
  clear hb
  obtain ⟨hc0, hc1⟩ := unhide HCELL _ (unhide HB6)
  obtain ⟨hx0, hx1⟩ := (unhide HV6).cells
  have hlt4 := (unhide HV6).lt
  have he := eqB_self ss xs
  have hltw : w.heap.size < w6.heap.size := World.block_lt_of_cell? _ _ hc0
  go_wp2_with fail
  go_region_held3 (fun w' => w'.cell? ⟨w.heap.size, 0, none⟩ = some (.slice ao ss.length ca) ∧ w'.cell? ⟨w.heap.size, 1, none⟩ = some (.slice bo xs.length cb) ∧ w'.cell? ⟨w4.heap.size, 0, none⟩ = some (.slice (some ⟨g', 0, none⟩) ss.length ss.length) ∧ w'.cell? ⟨w4.heap.size, 1, none⟩ = some (.slice (some ⟨k', 0, none⟩) xs.length xs.length)) (go_keep)
    (first
      | (go_at_call 8; refine (toDisk_any ao bo ca cb ss xs _ hls hlx (by exact ((unhide HC).below (unhide HB6)).below (Below.refl _ _).drew) (by exact ((unhide HD).below (unhide HB6)).below (Below.refl _ _).drew)).mono ?_; rintro e w7 ⟨g6, k6, rfl, ho6, hp6, hb6⟩; have HBx := hide (fr (Below.refl _ w6).drew hb6); have HSx := hide (ownS ho6 (unhide HZS)); have HXx := hide (ownI hp6 (unhide HZX)); obtain ⟨y0, y1⟩ := ((unhide HV6).below (unhide HBx)).cells; obtain ⟨y2, y3⟩ := unhide HCELL _ (fr (unhide HB6) (unhide HBx)); clear ho6 hp6 hb6)
      | (go_at_call 11; refine (eqDisk_any _ _ _ _ _ _ _ _ ss ss xs xs _ (unhide HL) (unhide HM) (by exact ((unhide HO6).ss (unhide HZS)).below (unhide HBx)) (by exact ((unhide HO6).ios (unhide HZX)).below (unhide HBx)) (unhide HSx) (unhide HXx)).mono ?_; rintro e w8 ⟨rfl, hb7⟩; have HBy := hide (fr (unhide HBx) hb7); obtain ⟨z0, z1⟩ := ((unhide HV6).below (unhide HBy)).cells; obtain ⟨z2, z3⟩ := unhide HCELL _ (fr (unhide HB6) (unhide HBy)); clear hb7))
  have HG8 := hide ((unhide HG6).below (unhide HBy))
  have HV8 := hide ((unhide HV6).below (unhide HBy))
  have HO8 := hide ((unhide HO6).below (unhide HBy))
  have HW8 := hide ((unhide HW6).below (unhide HBy))
  have HB8 := hide (fr (unhide HB6) (unhide HBy))
  clear hc0 hc1 hx0 hx1 y0 y1 y2 y3 z0 z1 z2 z3 HBx HBy HSx HXx he hlt4 hltw
  obtain ⟨hx0, hx1⟩ := (unhide HV8).cells
  -- the argument is marked
  go_wp2_with fail
  refine (markDisk_one _ _ ss.length ss.length xs.length xs.length ss xs w3.heap.size _ (by omega) (by omega) (unhide HO8)).mono ?_
  rintro e w9 ⟨rfl, _, hk⟩
  have HG9 := hide ((unhide HG8).keep hk (fun g hg hx => own_apartR (unhide HO8) (unhide HG8) sUm iUm g hg hx))
  have HW9 := hide ((unhide HW8).keep hk (fun g hg hx => own_apartR (unhide HO8) (unhide HW8) sUm iUm g hg hx))
  have HB9 := hide (belowKp (unhide HB8) hk (fun j hj => Nat.le_trans (unhide HB3x) ((unhide HO8).ge j hj).1))
  clear hk hx0 hx1
  have hk1 : ¬ (((1 + ss.length + 3 * xs.length : Nat) : Int) < 0) := by omega
  go_wp2_with fail
  refine (eqMoveS_any po qo pa qa us us _ hus (ownMv (unhide HG9) (unhide HUB)) (ownMv (unhide HW9) (unhide HUB))).mono ?_
  rintro e w10 ⟨rfl, hb⟩
  rw [unhide HEQ]
  have HG10 := hide ((unhide HG9).below hb)
  have HW10 := hide ((unhide HW9).below hb)
  have HB10 := hide (fr (unhide HB9) hb)
  clear hb
  -- the answer is marked
  go_wp2_with fail
  refine (markMoveS_any _ us.length 1 (ioV us) W4.heap.size _ (by omega) (by omega) (by omega) (unhide HG10)).mono ?_
  rintro e w11 ⟨rfl, ho, hk⟩
  have HG11 := hide ho
  have HW11 := hide ((unhide HW10).keep hk (fun g hg hx => by have h1 := unhide HC4 g hg; have h2 := ((unhide HG10).ge g hx).1; omega))
  have HB11 := hide (belowKp (unhide HB10) hk (fun j hj => Nat.le_trans (unhide HSZ4) ((unhide HG10).ge j hj).1))
  clear ho hk
  go_wp2_with fail
  refine (heldMoveS_any _ us.length 1 W4.heap.size _ (by omega) (by omega) (by omega) (unhide HG11)).mono ?_
  rintro e w12 ⟨rfl, hb⟩
  have HG12 := hide ((unhide HG11).below hb)
  have HW12 := hide ((unhide HW11).below hb)
  have HB12 := hide (fr (unhide HB11) hb)
  clear hb
  have hk3 : ¬ (((1 + 3 * us.length : Nat) : Int) < 0) := by omega
  obtain ⟨hc0, hc1⟩ := unhide HCELL _ (unhide HB12)
  -- the program again
  go_wp2_with fail
  refine (toDisk_any ao bo ca cb ss xs _ hls hlx ((unhide HC).below (unhide HB12)) ((unhide HD).below (unhide HB12))).mono ?_
  rintro e w13 ⟨g3, k3, rfl, ho, hp, hb⟩
  have HS13 := hide (ownS ho (unhide HZS))
  have HX13 := hide (ownI hp (unhide HZX))
  have HG13 := hide ((unhide HG12).below hb)
  have HW13 := hide ((unhide HW12).below hb)
  have HB13 := hide (fr (unhide HB12) hb)
  clear ho hp hb hc0 hc1
  go_wp2_with fail
  refine (replayPlan_impl _ _ _ _ ss xs h o _ (unhide HL) (unhide HM) (unhide HS13) (unhide HX13) ((unhide HE).below (unhide HB13))).mono ?_
  rintro e w14 ⟨ro, ra, n, rfl, hu⟩
  rw [unhide HUS] at hu
  rw [unhide HCD]
  obtain rfl := hu.len
  have HH14 := hide hu.o
  have HG14 := hide ((unhide HG13).below hu.k)
  have HW14 := hide ((unhide HW13).below hu.k)
  have HB14 := hide (fr (unhide HB13) hu.k)
  clear hu
  go_wp2_with fail
  refine (eqMoveS_any ro qo ra qa us us _ hus (ownMv (unhide HH14) (unhide HUB)) (ownMv (unhide HW14) (unhide HUB))).mono ?_
  rintro e w15 ⟨rfl, hb⟩
  rw [unhide HEQ]
  have HG15 := hide ((unhide HG14).below hb)
  have HB15 := hide (fr (unhide HB14) hb)
  clear hb
  go_wp2_with fail
  refine (heldMoveS_any _ us.length 1 W4.heap.size _ (by omega) (by omega) (by omega) (unhide HG15)).mono ?_
  rintro e w16 ⟨rfl, hb⟩
  have HB16 := hide (fr (unhide HA) (fr (unhide HB15) hb))
  clear hb
  go_wp2
  go_ret
  exact ⟨rfl, unhide HB16⟩

end Go.Proofs.YtefnapcegeojoabDoor
