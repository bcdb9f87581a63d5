import Derived.Test.YtefnapcegeojoabDoorRows
import Derived.Test.YtefnapcegeojoabDoorLJournalPart1
import Derived.Test.YtefnapcegeojoabDoorLJournalPart4
import Derived.Test.YtefnapcegeojoabDoorLJournalPart2
import Derived.Test.YtefnapcegeojoabDoorLJournalPart3
import Derived.Test.YtefnapcegeojoabDoorLJournalPart9
import Derived.Test.YtefnapcegeojoabDoorLJournalPart5
import Derived.Test.YtefnapcegeojoabDoorLJournalPart7
import Derived.Test.YtefnapcegeojoabDoorLJournalPart10
import Derived.WalkKit
import Derived.WalkSpells
import Derived.KernelRfl
import Derived.LoopN
import Derived.BigQuiet
import Derived.Deep.QuietTactic
import Derived.Deep.CutRange
import Derived.Lib.SmallJoins
import Derived.Deep.RegionWith
import Derived.Deep.RegionHeld3
import Derived.Deep.RegionLawGrows
import Derived.Laws.StructEq

/- Contracts of the program's journals that are read: journalSeen, JournalOf, ReplayPlan. -/
namespace Go.Proofs.YtefnapcegeojoabDoor
open Go.RowKit
set_option linter.unusedVariables false
set_option maxRecDepth 100000

theorem infoUy : (Tryd.prog.info? 49).map (fun i => (i.zero, i.size, i.bytes)) = some (some (.agg #[.int .i64 0, .string ⟨#[]⟩]), 2, 24) := by kernel_rfl
theorem seenAtJ (ao bo : Option Addr) (ca cb : Nat) (ss : List ByteArray) (xs : List Wr) (h a : Int) (T : ByteArray) (w : World) (hd : diskB ss xs = true) (h0 : 0 ≤ a) (h3 : a ≤ 63) (hT : readV ss xs h a = T) (h1 : Ss w ao ss) (h2 : Ios w bo xs) :
    Calls Tryd.prog 75 #[.agg #[.slice ao ss.length ca, .slice bo xs.length cb], .int .i64 h, .int .i64 a] w fun e w' => e = .returned (.string T) ∧ Below w.heap.size w w' := by
  obtain ⟨l1, l2⟩ := diskB_len hd
  obtain ⟨n, rfl⟩ := Int.eq_ofNat_of_zero_le h0
  subst hT
  exact seenBy_any ao bo ca cb ss xs h n w l2 (by omega) (by omega) h1 h2
theorem slN_atI {o : Int} (h : inB o 0 3 = true) : 39 ≤ slN o ∧ slN o ≤ 57 := by
  have : 0 ≤ o ∧ o ≤ 3 := by simpa [inB] using h
  unfold slN; omega
theorem jn_ne : (70 : Nat) ≠ 49 := by decide
theorem VarJ.set2 {w : World} {x t : Nat} {slot seq : Int} {v : Value} (h : VarJ w x t slot seq v) (u : Value) : VarJ (w.setCell ⟨x, 2, none⟩ u) x t slot seq u := Joins.block_setCell (i := 2) h u
theorem VarJ.set3 {w : World} {x t : Nat} {slot seq : Int} {v : Value} (h : VarJ w x t slot seq v) (a b : Int) (u : Value) : VarJ (((w.setCell ⟨x, 0, none⟩ (.int .i64 a)).setCell ⟨x, 1, none⟩ (.int .i64 b)).setCell ⟨x, 2, none⟩ u) x t a b u :=
  Joins.block_setCell (i := 2) (Joins.block_setCell (i := 1) (Joins.block_setCell (i := 0) h _) _) u
theorem VarJ.other {w : World} {x t : Nat} {slot seq : Int} {v : Value} (h : VarJ w x t slot seq v) {p : Addr} (hp : x ≠ p.block) (u : Value) : VarJ (w.setCell p u) x t slot seq v := by
  unfold VarJ; rw [Below.heap_setCell w p u x hp]; exact h
theorem UpS.setJ {w W : World} {qo : Option Addr} {n qa x : Nat} {us : List Up} {slot seq : Int} {v : Value} (h : UpS w W qo n qa us) (hx : VarJ W x 70 slot seq v) (hle : w.heap.size ≤ x) (i : Nat) (u : Value) : UpS w (W.setCell ⟨x, i, none⟩ u) qo n qa us :=
  ⟨h.o.keep ((Keep.refl (fun k => k = x) W).setCell (p := ⟨x, i, none⟩) rfl u) (fun g hg e => h.o.other hx jn_ne (e ▸ hg)), h.k.setCell (p := ⟨x, i, none⟩) hle u⟩
def jsT (ss : List ByteArray) (xs : List Wr) (h o : Int) : Int := if joC ss xs h o = 0 then slN o else 0

/-- The end of a call that answers with the journal in a variable. -/
theorem seen_end {w W : World} {x : Nat} {s0 q0 : Int} {v0 : Value} (hv : VarJ W x 70 s0 q0 v0) (hb : Below w.heap.size w W) (hx : w.heap.size ≤ x) (a b : Int) (u : Value) :
    Below w.heap.size w (((W.setCell ⟨x, 0, none⟩ (.int .i64 a)).setCell ⟨x, 1, none⟩ (.int .i64 b)).setCell ⟨x, 2, none⟩ u) := below3 hb hx 0 1 2 _ _ _

set_option maxHeartbeats 6400000 in
theorem journalSeen_any (ao bo : Option Addr) (ca cb : Nat) (ss : List ByteArray) (xs : List Wr) (h o : Int) (w : World) (hl : ss.length ≤ maxLen) (hm : xs.length ≤ maxLen) (h1 : Ss w ao ss) (h2 : Ios w bo xs) (hE : ErrW w) :
    Calls Tryd.prog 37 #[.agg #[.slice ao ss.length ca, .slice bo xs.length cb], .int .i64 h, .int .i64 o] w fun e w' =>
      ∃ qo n qa, e = .returned (.tuple #[jV (jsT ss xs h o) (joS ss xs h o) qo n qa, .int .i64 (joC ss xs h o)]) ∧ UpS w w' qo n qa (joL ss xs h o) := by
  obtain ⟨i0, hi, hz0, hz1, hz2⟩ := info_parts infoUy
  have HA := hide (Joins.below_alloc2 w (.cells #[.slice ao ss.length ca, .slice bo xs.length cb] 32) (.cells #[.int .i64 0, .int .i64 0, .slice none 0 0] 70))
  have HV := hide ((VarD.new w (.slice ao ss.length ca) (.slice bo xs.length cb)).below (Joins.below_alloc1 _ (.cells #[.int .i64 0, .int .i64 0, .slice none 0 0] 70)))
  have HR : Hid (VarJ ((w.alloc (.cells #[.slice ao ss.length ca, .slice bo xs.length cb] 32)).alloc (.cells #[.int .i64 0, .int .i64 0, .slice none 0 0] 70)) (w.heap.size + 1) 70 0 0 (.slice none 0 0)) := hide (by have := VarJ.new (w.alloc (.cells #[.slice ao ss.length ca, .slice bo xs.length cb] 32)) 70 0 0 (.slice none 0 0); simp only [World.size_alloc] at this; exact this)
  have H1 := hide (h1.below (unhide HA))
  have H2 := hide (h2.below (unhide HA))
  have HS1 := hide h1
  have HS2 := hide h2
  have HL := hide hl
  have HM := hide hm
  have HE := hide hE
  have HZ : Hid (∀ c, joC ss xs h o = c → c ≠ 0 → jsT ss xs h o = 0 ∧ joS ss xs h o = 0 ∧ joL ss xs h o = []) := hide (fun c hc h0 => ⟨if_neg (by rw [hc]; exact h0), (jo_no (by rw [hc]; exact h0)).2.1, (jo_no (by rw [hc]; exact h0)).1⟩)
  have H0 : Hid (∀ W, Below w.heap.size w W → UpS w W none 0 0 []) := hide (fun W hb => ⟨.inl ⟨rfl, rfl, _, rfl⟩, hb⟩)
  clear h1 h2 hl hm hE
  go_enter Tryd.func37, Tryd.ntmps37
  go_wp2_with fail
  refine (hostFault_any ao bo ca cb ss xs h _ (unhide HL) (unhide HM) (unhide H1) (unhide H2)).mono ?_
  rintro e W1 ⟨rfl, hb⟩
  have HB1 := hide (fr (unhide HA) hb)
  have HV1 := hide ((unhide HV).below hb)
  have HR1 := hide ((unhide HR).below hb)
  clear hb HV HR
  obtain ⟨d0, d1⟩ := (unhide HV1).cells
  obtain ⟨r0, r1, r2⟩ := (unhide HR1).cells
  have rf0 := (unhide HR1).free 0
  have rf1 := (unhide HR1).free 1
  have rf2 := (unhide HR1).free 2
  have hR1 : w.heap.size ≤ w.heap.size + 1 := Nat.le_succ _
  by_cases e0 : hostC ss xs h = 0
  case neg =>
    have e0b : (hostC ss xs h != 0) = true := by simp [e0]
    have HC := hide (joC_host (o := o) e0)
    obtain ⟨k1, k2, k3⟩ := unhide HZ _ (unhide HC) e0
    have HK := hide (And.intro k1 (And.intro k2 k3))
    have HX := hide (fun a b u => seen_end (unhide HR1) (unhide HB1) hR1 a b u)
    clear e0 k1 k2 k3
    go_wp2
    refine bodyPost_ret (v := .tuple #[jV 0 0 none 0 0, .int .i64 (hostC ss xs h)]) (by simp [results, Tryd.results37, go_sem, r0, r1, r2]) rfl ⟨none, 0, 0, ?_, ?_⟩
    · rw [(unhide HK).1, (unhide HK).2.1, unhide HC]
    · rw [(unhide HK).2.2]; exact unhide H0 _ (unhide HX _ _ _)
  have e0b : (hostC ss xs h != 0) = false := by simp [e0]
  by_cases e1 : inB o 0 3 = true
  case neg =>
    rw [Bool.not_eq_true] at e1
    have HC := hide (joC_range e0 e1)
    obtain ⟨k1, k2, k3⟩ := unhide HZ _ (unhide HC) (by decide)
    have HK := hide (And.intro k1 (And.intro k2 k3))
    have HX := hide (fun a b u => seen_end (unhide HR1) (unhide HB1) hR1 a b u)
    have hsc : slC o = 4 := by simp [slC, e1]
    clear e0 k1 k2 k3
    go_wp2_with fail
    refine (slotOf_impl o _).mono ?_
    rintro e w2 ⟨rfl, hw⟩
    replace hw := hw.symm
    subst hw
    rw [hsc]
    go_wp2
    refine bodyPost_ret (v := .tuple #[jV 0 0 none 0 0, .int .i64 4]) (by simp [results, Tryd.results37, go_sem, r0, r1, r2]) rfl ⟨none, 0, 0, ?_, ?_⟩
    · rw [(unhide HK).1, (unhide HK).2.1, unhide HC]
    · rw [(unhide HK).2.2]; exact unhide H0 _ (unhide HX _ _ _)
  have hsc : slC o = 0 := by simp [slC, e1]
  have hsr : slR o = slN o := by simp [slR, e1]
  have hd : diskB ss xs = true := (hostC_eq e0).1
  obtain ⟨hs0, hs1⟩ := slN_atI e1
  obtain ⟨T, HT⟩ : ∃ T, Hid (joH ss xs h o = T) := ⟨_, hide rfl⟩
  obtain ⟨F, HF⟩ : ∃ F, Hid (joF ss xs h o = F) := ⟨_, hide rfl⟩
  have HTS : Hid (T.size ≤ 65536) := hide (by rw [← unhide HT]; have := readV_size hd h (slN o); show (readV ss xs h (slN o)).size ≤ 65536; omega)
  have HFS : Hid (∀ i, (F i).size ≤ 65536) := hide (fun i => by rw [← unhide HF]; have := readV_size hd h (slN o + 1 + (i : Int)); show (readV ss xs h (slN o + 1 + (i : Int))).size ≤ 65536; omega)
  have HTR : Hid (readV ss xs h (slN o) = T) := HT
  have HFR : Hid (∀ i : Nat, readV ss xs h (slN o + 1 + (i : Int)) = F i) := hide (fun i => by rw [← unhide HF]; rfl)
  have HBK : Hid (jkB T F = false → joC ss xs h o = 18) := hide (fun hk => joC_broken e0 e1 (by rw [unhide HT, unhide HF]; exact hk))
  have HOK : Hid (jkB T F = true → joC ss xs h o = 0 ∧ jsT ss xs h o = slN o ∧ joS ss xs h o = jkS T F ∧ joL ss xs h o = jkL T F) := hide (fun hk => by
    have hc := joC_ok e0 e1 (by rw [unhide HT, unhide HF]; exact hk)
    obtain ⟨j1, j2⟩ := jo_yes hc
    exact ⟨hc, if_pos hc, by rw [j2, unhide HT, unhide HF], by rw [j1, unhide HT, unhide HF]⟩)
  have HD := hide hd
  clear hd e0 e1 HT HF
  go_wp2_with fail
  refine (slotOf_impl o _).mono ?_
  rintro e w2 ⟨rfl, hw⟩
  replace hw := hw.symm
  subst hw
  rw [hsc, hsr]
  go_wp2_with fail
  refine (seenAtJ ao bo ca cb ss xs h (slN o) T _ (unhide HD) (by omega) (by omega) (unhide HTR) ((unhide HS1).below (unhide HB1)) ((unhide HS2).below (unhide HB1))).mono ?_
  rintro e W2 ⟨rfl, hb⟩
  have HB2 := hide (fr (unhide HB1) hb)
  have HV2 := hide ((unhide HV1).below hb)
  have HR2 := hide ((unhide HR1).below hb)
  clear hb HV1 HR1 d0 d1 r0 r1 r2 rf0 rf1 rf2
  by_cases hsd : sdB T = true
  case neg =>
    rw [Bool.not_eq_true] at hsd
    have HC := hide (unhide HBK (jk_shut (F := F) hsd).1)
    obtain ⟨k1, k2, k3⟩ := unhide HZ _ (unhide HC) (by decide)
    have HK := hide (And.intro k1 (And.intro k2 k3))
    clear k1 k2 k3
    go_wp2_with fail
    refine (readTextH_no T _ (unhide HTS) hsd ((unhide HE).below (unhide HB2))).mono ?_
    rintro e W3 ⟨rfl, hb⟩
    have HB3 := hide (belowAl (fr (unhide HB2) hb) (.cells #[.int .i64 0, .int .i64 0] 111))
    have HR3 := hide (((unhide HR2).below hb).below (Joins.below_alloc1 W3 (.cells #[.int .i64 0, .int .i64 0] 111)))
    have hltR : w.heap.size + 1 < W3.heap.size := ((unhide HR2).below hb).lt
    obtain ⟨r0, r1, r2⟩ := ((unhide HR2).below hb).cells
    have rf0 := ((unhide HR2).below hb).free 0
    have rf1 := ((unhide HR2).below hb).free 1
    have rf2 := ((unhide HR2).below hb).free 2
    have HX := hide (fun a b u => seen_end ((unhide HR2).below hb) (fr (unhide HB2) hb) hR1 a b u)
    clear hb
    go_wp2
    refine bodyPost_ret (v := .tuple #[jV 0 0 none 0 0, .int .i64 18]) (by simp [results, Tryd.results37, go_sem, r0, r1, r2, hltR]) rfl ⟨none, 0, 0, ?_, ?_⟩
    · rw [(unhide HK).1, (unhide HK).2.1, unhide HC]
    · rw [(unhide HK).2.2]; exact unhide H0 _ (by first | exact belowAl (unhide HX _ _ _) _ | exact unhide HX _ _ _ | exact below3 (unhide HB3) hR1 0 1 2 _ _ _)
  go_wp2_with fail
  refine (readTextH_yes T _ (unhide HTS) hsd).mono ?_
  rintro e W3 ⟨rfl, hb⟩
  have hN5 := sdN_le hsd
  obtain ⟨N, hN⟩ : ∃ N, N = sdN T := ⟨_, rfl⟩
  have HN := hide hN
  have HSD := hide hsd
  rw [← hN] at hN5 ⊢
  clear hN hsd
  have HB3 := hide (fr (unhide HB2) hb)
  have HV3 := hide ((unhide HV2).below hb)
  have HR3 := hide ((unhide HR2).below hb)
  clear hb HV2 HR2
  -- the head in a variable, the journal in another one
  have HAl := hide (Joins.below_alloc1 W3 (.cells #[.int .i64 (N : Int), .int .i64 (sdS T)] 111))
  have HH4 := hide (VarH.new W3 111 (N : Int) (sdS T))
  have HB4 := hide (fr (unhide HB3) (unhide HAl))
  have HV4 := hide ((unhide HV3).below (unhide HAl))
  have HR4 := hide ((unhide HR3).below (unhide HAl))
  have HJ5 : Hid (VarJ ((W3.alloc (.cells #[.int .i64 (N : Int), .int .i64 (sdS T)] 111)).alloc (.cells #[.int .i64 (slN o), .int .i64 (sdS T), .slice none 0 0] 70)) (W3.heap.size + 1) 70 (slN o) (sdS T) (.slice none 0 0)) := hide (by have := VarJ.new (W3.alloc (.cells #[.int .i64 (N : Int), .int .i64 (sdS T)] 111)) 70 (slN o) (sdS T) (.slice none 0 0); simp only [World.size_alloc] at this; exact this)
  have HU5 : Hid (UpS (W3.alloc (.cells #[.int .i64 (N : Int), .int .i64 (sdS T)] 111)) ((W3.alloc (.cells #[.int .i64 (N : Int), .int .i64 (sdS T)] 111)).alloc (.cells #[.int .i64 (slN o), .int .i64 (sdS T), .slice none 0 0] 70)) none 0 0 ((fuL F N).take 0)) := hide ⟨.inl ⟨rfl, rfl, _, rfl⟩, Joins.below_alloc1 _ _⟩
  have hJs : (W3.alloc (.cells #[.int .i64 (N : Int), .int .i64 (sdS T)] 111)).heap.size = W3.heap.size + 1 := by simp
  have HJs := hide hJs
  have hltR : w.heap.size + 1 < W3.heap.size := (unhide HR3).lt
  have hltD : w.heap.size < W3.heap.size := (unhide HV3).lt
  clear hJs
  clear HAl HV3 HR3
  go_wp2
  revert HH4 HB4 HV4 HR4 HJ5 HU5 HJs
  generalize W3.alloc (.cells #[.int .i64 (N : Int), .int .i64 (sdS T)] 111) = W4
  intro HH4 HB4 HV4 HR4 HJ5 HU5 HJs
  have HJW : Hid (W4.heap.size ≤ W3.heap.size + 1) := hide (Nat.le_of_eq (unhide HJs))
  have hxJ : w.heap.size ≠ W3.heap.size + 1 := by omega
  have hxJ' : W3.heap.size + 1 ≠ w.heap.size := by omega
  have hrJ : w.heap.size + 1 ≠ W3.heap.size + 1 := by omega
  have hrJ' : W3.heap.size + 1 ≠ w.heap.size + 1 := by omega
  have hJw : w.heap.size + 1 ≤ W3.heap.size + 1 := by omega
  generalize W3.heap.size + 1 = J at *
  go_loopw [49] (fun i wr => ∃ (k : Nat) (ro : Option Addr) (ra : Nat), k ≤ N ∧ i = .int .i64 k ∧ Hid (UpS W4 wr ro k ra ((fuL F N).take k)) ∧ Hid (VarJ wr J 70 (slN o) (sdS T) (.slice ro k ra)) ∧ Hid (∀ j, j < k → duB (F j) = true)) (fun i _ => N - (intOf i).toNat)
  case atStart => exact ⟨0, _, _, Nat.zero_le _, rfl, HU5, HJ5, hide (fun j hj => by omega)⟩
  case round =>
    obtain ⟨k, ro, ra, hk, rfl, HU, HJ, HP⟩ := hrel
    have HVr := hide ((unhide HV4).below (unhide HU).k)
    have HRr := hide ((unhide HR4).below (unhide HU).k)
    have HBr := hide (fr (unhide HB4) (unhide HU).k)
    obtain ⟨j0, j1, j2⟩ := (unhide HJ).cells
    have hjl := (unhide HJ).lt
    by_cases hlt : k < N
    · have hki : (k : Int) < (N : Int) := by omega
      obtain ⟨d0, d1⟩ := (unhide HVr).cells
      have hvl := (unhide HVr).lt
      have hvn : w.heap.size ≠ wr.heap.size := Nat.ne_of_lt hvl
      have hvn' : wr.heap.size ≠ w.heap.size := Ne.symm hvn
      have hjn : J ≠ wr.heap.size := Nat.ne_of_lt hjl
      have hjn' : wr.heap.size ≠ J := Ne.symm hjn
      have HFk := hide (unhide HFS k)
      have HRk := hide (unhide HFR k)
      have HPL : Hid (∀ W : World, Calls Tryd.prog 78 #[jV (slN o) (sdS T) ro k ra, .int .i64 k] W fun e w' => e = .returned (.int .i64 (slN o + 1 + k)) ∧ Below W.heap.size W w') := hide (fun W => place_any (slN o) (sdS T) ro k ra k W (by omega) (by omega))
      go_upto_region 14 with fail
      go_cut [14, 15, 49] from 49 to 71 (fun c q ix wx => ∃ C : Nat, c = .pointer (some ⟨C, 0, none⟩) ∧ q = .int .i64 (dkC (F k)) ∧ ix = .int .i64 (k : Int) ∧ Hid (GotU wr wx C 49 (dkU (F k))))
      case first =>
        go_region_held3 (fun w' => w'.cell? ⟨w.heap.size, 0, none⟩ = some (.slice ao ss.length ca) ∧ w'.cell? ⟨w.heap.size, 1, none⟩ = some (.slice bo xs.length cb) ∧ w'.cell? ⟨J, 0, none⟩ = some (.int .i64 (slN o)) ∧ w'.cell? ⟨J, 1, none⟩ = some (.int .i64 (sdS T)) ∧ w'.cell? ⟨J, 2, none⟩ = some (.slice ro k ra)) (go_keep)
          (first
            | (go_at_call 78; refine (unhide HPL _).mono ?_; rintro e w2 ⟨rfl, hb⟩; (first | (have HV2 : Hid (VarU w2 wr.heap.size 49 up0) := (by exact hide (((VarU.new wr 49 up0).below (Below.refl _ _).drew).below hb)); have HB2x : Hid (Below wr.heap.size wr w2) := (by exact hide (fr (Joins.below_alloc1 wr _).drew hb)); clear hb) | (have HB2x : Hid (Below wr.heap.size wr w2) := (by exact hide (fr ((Below.refl _ wr).drew) hb)); clear hb)); obtain ⟨m0, m1⟩ := ((unhide HVr).below (unhide HB2x)).cells; obtain ⟨m2, m3, m4⟩ := ((unhide HJ).below (unhide HB2x)).cells; have hv2 := ((unhide HVr).below (unhide HB2x)).lt; have hw2 := ((unhide HJ).below (unhide HB2x)).lt; have nv2 : w.heap.size ≠ w2.heap.size := Nat.ne_of_lt hv2; have nv2' : w2.heap.size ≠ w.heap.size := Ne.symm nv2; have nw2 : J ≠ w2.heap.size := Nat.ne_of_lt hw2; have nw2' : w2.heap.size ≠ J := Ne.symm nw2)
            | (go_at_call 75; refine (seenAtJ ao bo ca cb ss xs h (slN o + 1 + (k : Int)) (F k) _ (unhide HD) (by omega) (by omega) (unhide HRk) (by first | exact ((unhide HS1).below (unhide HBr)).below (unhide HB2x) | exact (((unhide HS1).below (unhide HBr)).below (unhide HB2x)).below (Joins.below_alloc1 _ _)) (by first | exact ((unhide HS2).below (unhide HBr)).below (unhide HB2x) | exact (((unhide HS2).below (unhide HBr)).below (unhide HB2x)).below (Joins.below_alloc1 _ _))).mono ?_; rintro e w3 ⟨rfl, hb⟩; (first | (have HVU3 : Hid (VarU w3 wr.heap.size 49 up0) := (by exact hide ((unhide HV2).below hb)); have HB3x : Hid (Below wr.heap.size wr w3) := (by exact hide (fr (unhide HB2x) hb)); clear hb) | (have HVU3 : Hid (VarU w3 w2.heap.size 49 up0) := (by exact hide ((VarU.new w2 49 up0).below hb)); have HB3x : Hid (Below wr.heap.size wr w3) := (by exact hide (fr (belowAl (unhide HB2x) _) hb)); clear hb) | (have HB3x : Hid (Below wr.heap.size wr w3) := (by exact hide (fr (unhide HB2x) hb)); clear hb)); obtain ⟨n0, n1⟩ := ((unhide HVr).below (unhide HB3x)).cells; obtain ⟨n2, n3, n4⟩ := ((unhide HJ).below (unhide HB3x)).cells; have hv3 := ((unhide HVr).below (unhide HB3x)).lt; have hw3 := ((unhide HJ).below (unhide HB3x)).lt; have nv3 : w.heap.size ≠ w3.heap.size := Nat.ne_of_lt hv3; have nv3' : w3.heap.size ≠ w.heap.size := Ne.symm nv3; have nw3 : J ≠ w3.heap.size := Nat.ne_of_lt hw3; have nw3' : w3.heap.size ≠ J := Ne.symm nw3)
            | (go_at_call 77; refine (decodeUpdate_impl (F k) _ (by first | exact ((unhide HE).below (unhide HBr)).below (unhide HB3x) | exact (((unhide HE).below (unhide HBr)).below (unhide HB3x)).below (Joins.below_alloc1 _ _))).mono ?_; rintro e w4 ⟨rfl, hb⟩; (first | (have HVU4 : Hid (VarU w4 wr.heap.size 49 up0) := (by exact hide ((unhide HVU3).below hb)); have HB4x : Hid (Below wr.heap.size wr w4) := (by exact hide (fr (unhide HB3x) hb)); have HLE : Hid (wr.heap.size ≤ wr.heap.size) := hide (Nat.le_refl _); obtain ⟨z0, z1⟩ := (unhide HVU4).cells; obtain ⟨q0, q1⟩ := (unhide HVU4).free; clear hb) | (have HVU4 : Hid (VarU w4 w2.heap.size 49 up0) := (by exact hide ((unhide HVU3).below hb)); have HB4x : Hid (Below wr.heap.size wr w4) := (by exact hide (fr (unhide HB3x) hb)); have HLE : Hid (wr.heap.size ≤ w2.heap.size) := hide (unhide HB2x).size; obtain ⟨z0, z1⟩ := (unhide HVU4).cells; obtain ⟨q0, q1⟩ := (unhide HVU4).free; clear hb) | (have HVU4 : Hid (VarU w4 w3.heap.size 49 up0) := (by exact hide ((VarU.new w3 49 up0).below hb)); have HB4x : Hid (Below wr.heap.size wr w4) := (by exact hide (fr (belowAl (unhide HB3x) _) hb)); have HLE : Hid (wr.heap.size ≤ w3.heap.size) := hide (unhide HB3x).size; obtain ⟨z0, z1⟩ := (unhide HVU4).cells; obtain ⟨q0, q1⟩ := (unhide HVU4).free; clear hb) | (have HB4x : Hid (Below wr.heap.size wr w4) := (by exact hide (fr (unhide HB3x) hb)); clear hb)); obtain ⟨p0, p1⟩ := ((unhide HVr).below (unhide HB4x)).cells; obtain ⟨p2, p3, p4⟩ := ((unhide HJ).below (unhide HB4x)).cells; have hv4 := ((unhide HVr).below (unhide HB4x)).lt; have hw4 := ((unhide HJ).below (unhide HB4x)).lt; have nv4 : w.heap.size ≠ w4.heap.size := Nat.ne_of_lt hv4; have nv4' : w4.heap.size ≠ w.heap.size := Ne.symm nv4; have nw4 : J ≠ w4.heap.size := Nat.ne_of_lt hw4; have nw4' : w4.heap.size ≠ J := Ne.symm nw4))
        all_goals
          go_wp2_with fail
          go_meet
          first
            | exact ⟨_, rfl, rfl, rfl, hide (GotU.set (unhide HB4x) (unhide HVU4) (unhide HLE))⟩
            | exact ⟨_, rfl, rfl, rfl, hide (GotU.top _ _ (unhide HB4x))⟩
      case rest =>
        obtain ⟨C, rfl, rfl, rfl, HGU⟩ := hcut
        rename World => W5
        have HU5x := hide ((unhide HU).next (unhide HGU).k)
        have HJ5x := hide ((unhide HJ).below (unhide HGU).k)
        have HR5 := hide ((unhide HRr).below (unhide HGU).k)
        have HB5 := hide (fr (unhide HBr) (unhide HGU).k)
        clear d0 d1 j0 j1 j2 hvl hvn hvn' hjn hjn' hjl
        obtain ⟨x0, x1⟩ := (unhide HGU).v.cells
        obtain ⟨j0, j1, j2⟩ := (unhide HJ5x).cells
        have jf2 := (unhide HJ5x).free 2
        have hCl := (unhide HGU).v.lt
        have hjl := (unhide HJ5x).lt
        by_cases hdk : duB (F k) = true
        · obtain ⟨y1, y2⟩ := dk_yes (t := F k) (by have := unhide HFk; omega) hdk
          have HPP : Hid (∀ j, j < k + 1 → duB (F j) = true) := hide (fun j hj => by
            by_cases e : j = k
            · rw [e]; exact hdk
            · exact unhide HP j (by omega))
          rw [y1] at x0 x1
          have HUA := hide ((unhide HU5x).next (Joins.below_alloc1 W5 (.cells #[.int .i64 (duU (F k)).at_, .string (duU (F k)).data] 49)))
          have HJA := hide ((unhide HJ5x).below (Joins.below_alloc1 W5 (.cells #[.int .i64 (duU (F k)).at_, .string (duU (F k)).data] 49)))
          have HSZ := hide (unhide HUA).sz
          rw [y2]
          go_wp2_with (at_builtin; refine wpList_append_one rfl _ _ 40 rfl W4.heap.size 49 i0 (.agg #[.int .i64 0, .string ⟨#[]⟩]) 2 24 Tryd.underlying40 hi hz0 hz1 hz2 rfl (by omega) ro k ra (upsV ((fuL F N).take k)) rfl (unhide HUA).o (unhide HSZ) ⟨W5.heap.size, 0, none⟩ _ (upV (duU (F k))) rfl rfl (news2_at W5 _ _ _ rfl) (upV_one _) (by unfold maxLen; omega) (by omega) ?_; intro g2 cap2 wA hoA hkA; have HJN : Hid (VarJ wA J 70 (slN o) (sdS T) (.slice ro k ra)) := hide (by unfold VarJ; rw [hkA.block _ (unhide HJA).lt ((unhide HUA).o.other (unhide HJA) jn_ne)]; exact unhide HJA); have HN2 := hide (UpS.one (unhide HUA) hoA hkA); obtain ⟨t0, t1, t2⟩ := (unhide HJN).cells; have tf2 := (unhide HJN).free 2; clear hoA hkA)
          go_roundw
          case rel => exact ⟨k + 1, _, _, by omega, by go_num, hide (by rw [fuL_take hlt]; exact (unhide HN2).setJ (unhide HJN) (unhide HJW) 2 _), hide ((unhide HJN).set2 _), HPP⟩
          case measure => simp [intOf]; omega
        · rw [Bool.not_eq_true] at hdk
          obtain ⟨y1, y2⟩ := dk_no (t := F k) (by have := unhide HFk; omega) hdk
          have HC := hide (unhide HBK (jk_bad (T := T) (F := F) (by rw [← unhide HN]; exact fuB_no hlt hdk)).1)
          obtain ⟨k1, k2, k3⟩ := unhide HZ _ (unhide HC) (by decide)
          have HK := hide (And.intro k1 (And.intro k2 k3))
          obtain ⟨r0, r1, r2⟩ := (unhide HR5).cells
          have rf0 := (unhide HR5).free 0
          have rf1 := (unhide HR5).free 1
          have rf2 := (unhide HR5).free 2
          have HX := hide (fun a b u => seen_end (unhide HR5) (unhide HB5) hR1 a b u)
          clear k1 k2 k3
          rw [y2]
          go_wp2
          refine bodyPost_ret (v := .tuple #[jV 0 0 none 0 0, .int .i64 18]) (by simp [results, Tryd.results37, go_sem, r0, r1, r2]) rfl ⟨none, 0, 0, ?_, ?_⟩
          · rw [(unhide HK).1, (unhide HK).2.1, unhide HC]
          · rw [(unhide HK).2.2]; exact unhide H0 _ (unhide HX _ _ _)
    · have hke : k = N := by omega
      subst hke
      have HE1 := hide (jk_yes (F := F) (unhide HSD) (by rw [← unhide HN]; exact fuB_yes (unhide HP)))
      have HO1 := hide (unhide HOK (unhide HE1).1)
      have hkn : ¬ ((k : Int) < (k : Int)) := by omega
      obtain ⟨r0, r1, r2⟩ := (unhide HRr).cells
      have rf0 := (unhide HRr).free 0
      have rf1 := (unhide HRr).free 1
      have rf2 := (unhide HRr).free 2
      have HX := hide (fun a b u => seen_end (unhide HRr) (unhide HBr) hR1 a b u)
      have HUX : Hid (∀ a b u, OwnR (((wr.setCell ⟨w.heap.size + 1, 0, none⟩ (.int .i64 a)).setCell ⟨w.heap.size + 1, 1, none⟩ (.int .i64 b)).setCell ⟨w.heap.size + 1, 2, none⟩ u) w.heap.size 49 2 (.slice ro k ra) k (upsV (fuL F k))) := hide (fun a b u => by
        have ho := (unhide HU).o
        rw [fuL_done (Nat.le_refl _)] at ho
        refine (ho.keep ((((Keep.refl (fun q => q = w.heap.size + 1) wr).setCell (p := ⟨w.heap.size + 1, 0, none⟩) rfl (.int .i64 a)).setCell (p := ⟨w.heap.size + 1, 1, none⟩) rfl (.int .i64 b)).setCell (p := ⟨w.heap.size + 1, 2, none⟩) rfl u) (fun g hg e => ho.other (unhide HRr) jn_ne (e ▸ hg))).base (unhide HB4).size)
      go_wp2
      refine bodyPost_ret (v := .tuple #[jV (slN o) (sdS T) ro k ra, .int .i64 0]) (by simp [results, Tryd.results37, go_sem, r0, r1, r2]) rfl ⟨ro, k, ra, ?_, ?_⟩
      · rw [(unhide HO1).1, (unhide HO1).2.1, (unhide HO1).2.2.1, (unhide HE1).2.2]
      · rw [(unhide HO1).2.2.2, (unhide HE1).2.1, ← unhide HN]
        exact ⟨unhide HUX _ _ _, unhide HX _ _ _⟩

set_option maxHeartbeats 1600000 in
theorem journalOf_impl (ao bo : Option Addr) (ca cb : Nat) (ss : List ByteArray) (xs : List Wr) (h o : Int) (w : World) (hl : ss.length ≤ maxLen) (hm : xs.length ≤ maxLen) (h1 : Ss w ao ss) (h2 : Ios w bo xs) (hE : ErrW w) :
    Calls Tryd.prog 20 #[.agg #[.slice ao ss.length ca, .slice bo xs.length cb], .int .i64 h, .int .i64 o] w fun e w' => ∃ qo qa n, e = .returned (.tuple #[.slice qo n qa, .int .i64 (joS ss xs h o), .int .i64 (joC ss xs h o)]) ∧ UpS w w' qo n qa (joL ss xs h o) := by
  have HA := hide (Joins.below_alloc1 w (.cells #[.slice ao ss.length ca, .slice bo xs.length cb] 32))
  have H1 := hide (h1.below (unhide HA))
  have H2 := hide (h2.below (unhide HA))
  have HL := hide hl
  have HM := hide hm
  have HE := hide (hE.below (unhide HA))
  clear h1 h2 hl hm hE
  go_enter Tryd.func20, Tryd.ntmps20
  go_wp2_with fail
  refine (journalSeen_any ao bo ca cb ss xs h o _ (unhide HL) (unhide HM) (unhide H1) (unhide H2) (unhide HE)).mono ?_
  rintro e w1 ⟨qo, n, qa, rfl, hu⟩
  have HU : Hid (UpS w (w1.alloc (.cells #[.int .i64 (jsT ss xs h o), .int .i64 (joS ss xs h o), .slice qo n qa] 70)).drew qo n qa (joL ss xs h o)) := hide (UpS.next (W := w1) ⟨hu.o.base (unhide HA).size, fr (unhide HA) hu.k⟩ (Joins.below_alloc1 _ _).drew)
  clear hu
  go_wp2_with fail
  go_region
  all_goals
    go_wp2
    exact bodyPost_ret (v := .tuple #[.slice qo n qa, .int .i64 (joS ss xs h o), .int .i64 (joC ss xs h o)]) (by simp [results, Tryd.results20, go_sem]) rfl ⟨qo, qa, n, rfl, unhide HU⟩

set_option maxHeartbeats 1600000 in
theorem replayPlan_impl (ao bo : Option Addr) (ca cb : Nat) (ss : List ByteArray) (xs : List Wr) (h o : Int) (w : World) (hl : ss.length ≤ maxLen) (hm : xs.length ≤ maxLen) (h1 : Ss w ao ss) (h2 : Ios w bo xs) (hE : ErrW w) :
    Calls Tryd.prog 9 #[.agg #[.slice ao ss.length ca, .slice bo xs.length cb], .int .i64 h, .int .i64 o] w fun e w' => ∃ qo qa n, e = .returned (.tuple #[.slice qo n qa, .int .i64 (joC ss xs h o)]) ∧ ApS w w' qo n qa (joM ss xs h o) := by
  have HA := hide (Joins.below_alloc1 w (.cells #[.slice ao ss.length ca, .slice bo xs.length cb] 32))
  have H1 := hide (h1.below (unhide HA))
  have H2 := hide (h2.below (unhide HA))
  have HL := hide hl
  have HM := hide hm
  have HE := hide (hE.below (unhide HA))
  have HR := hide (jo_right ss xs h o)
  have HJM : Hid (rpL (jsT ss xs h o) (joS ss xs h o) (joL ss xs h o) = joM ss xs h o) := hide (by
    by_cases hc : joC ss xs h o = 0
    · rw [jsT, if_pos hc]; rfl
    · rw [joM, (jo_no hc).1]; rfl)
  clear h1 h2 hl hm hE
  go_enter Tryd.func9, Tryd.ntmps9
  go_wp2_with fail
  refine (journalSeen_any ao bo ca cb ss xs h o _ (unhide HL) (unhide HM) (unhide H1) (unhide H2) (unhide HE)).mono ?_
  rintro e w1 ⟨qo, n, qa, rfl, hu⟩
  have hnl := hu.len
  subst hnl
  have HB := hide (belowAl (fr (unhide HA) hu.k) (.cells #[.int .i64 (jsT ss xs h o), .int .i64 (joS ss xs h o), .slice qo (joL ss xs h o).length qa] 70))
  have HU := hide ((hu.ups (unhide HR).1).below (Joins.below_alloc1 w1 (.cells #[.int .i64 (jsT ss xs h o), .int .i64 (joS ss xs h o), .slice qo (joL ss xs h o).length qa] 70)))
  clear hu
  go_wp2_with fail
  refine (toApply_any (jsT ss xs h o) (joS ss xs h o) qo qa (joL ss xs h o) _ (unhide HR).2.1 (unhide HR).2.2 (unhide HR).1 (unhide HU)).mono ?_
  rintro e w2 ⟨po, m, pa, rfl, ha⟩
  rw [unhide HJM] at ha
  have HAP : Hid (ApS w w2 po m pa (joM ss xs h o)) := hide ⟨ha.o.base (unhide HB).size, fr (unhide HB) ha.k⟩
  clear ha
  go_wp2
  go_ret2
  exact ⟨po, pa, m, rfl, unhide HAP⟩

end Go.Proofs.YtefnapcegeojoabDoor

/- Contracts of the laws' comparisons of disks that show the same (sameTexts, sameDisk). -/
namespace Go.Proofs.YtefnapcegeojoabDoor
open Go.RowKit
set_option linter.unusedVariables false
set_option maxRecDepth 100000

set_option maxHeartbeats 800000 in
theorem sameTexts_same (ao bo : Option Addr) (ca cb : Nat) (ss : List ByteArray) (w : World) (hl : ss.length ≤ maxLen) (hc : Ss w ao ss) (hd : Ss w bo ss) :
    Calls Tryd.prog 22 #[.slice ao ss.length ca, .slice bo ss.length cb] w fun e w' => e = .returned (.bool true) ∧ Below w.heap.size w w' := by
  have HC := hide hc
  have HD := hide hd
  clear hc hd
  unfold maxLen at hl
  have hb : ((ss.length : Int) != (ss.length : Int)) = false := by simp
  go_enter Tryd.func22, Tryd.ntmps22
  go_wp2
  go_loopw [5] (fun i wr => ∃ k : Nat, k ≤ ss.length ∧ i = .int .i64 k ∧ Hid (Below w.heap.size w wr)) (fun i _ => ss.length - (intOf i).toNat)
  case atStart => exact ⟨0, Nat.zero_le _, rfl, hide (Below.refl _ _)⟩
  case round =>
    obtain ⟨k, hk, rfl, HB⟩ := hrel
    by_cases hlt : k < ss.length
    · obtain ⟨b, off, rfl, hc, hz⟩ := (unhide HC).below (unhide HB) k hlt
      obtain ⟨b', off', rfl, hc', hz'⟩ := (unhide HD).below (unhide HB) k hlt
      clear hz hz'
      have be : (ss[k].toList == ss[k].toList) = true := by simp
      go_wp2
      go_quiet (fail)
      go_wp2
      go_roundw
      case rel => exact ⟨k + 1, by omega, by go_num, hide ((unhide HB).trans (Joins.below_draws _ _ _))⟩
      case measure => simp [intOf]; omega
    · go_wp2
      go_ret
      exact ⟨rfl, unhide HB⟩

theorem eqIo_same (a b : Int) (s : ByteArray) (w : World) : (Op.equalIn 10000 108 (.agg #[.int .i64 a, .int .i64 b, .string s]) (.agg #[.int .i64 a, .int .i64 b, .string s])).run Tryd.prog w = .ok true w := by
  have u3 := Tryd.underlying3
  have u9 := Tryd.underlying9
  have a3 := Tryd.isAgg3
  have a9 := Tryd.isAgg9
  have z3 := Tryd.sizeOf3
  have z9 := Tryd.sizeOf9
  have hS : Tryd.prog.underlying 108 = some (.struct (Tryd.prog.fieldsOf 108)) := by kernel_rfl
  rw [show (10000 : Nat) = 9999 + 1 from rfl, run_equalIn_agg w 9999 108 _ _ hS (by kernel_rfl)]
  simp only [Program.fieldsOf, Tryd.underlying108]
  go_simp

end Go.Proofs.YtefnapcegeojoabDoor

/- Contract of the laws' comparison of moves that show the same (sameMoves). -/
namespace Go.Proofs.YtefnapcegeojoabDoor
open Go.RowKit
set_option linter.unusedVariables false
set_option maxRecDepth 100000

theorem eqMv_same (a b : Int) (s : ByteArray) (w : World) : (Op.equalIn 10000 76 (.agg #[.int .i64 a, .int .i64 b, .string s]) (.agg #[.int .i64 a, .int .i64 b, .string s])).run Tryd.prog w = .ok true w := by
  have u3 := Tryd.underlying3
  have u9 := Tryd.underlying9
  have a3 := Tryd.isAgg3
  have a9 := Tryd.isAgg9
  have z3 := Tryd.sizeOf3
  have z9 := Tryd.sizeOf9
  have hS : Tryd.prog.underlying 76 = some (.struct (Tryd.prog.fieldsOf 76)) := by kernel_rfl
  rw [show (10000 : Nat) = 9999 + 1 from rfl, run_equalIn_agg w 9999 76 _ _ hS (by kernel_rfl)]
  simp only [Program.fieldsOf, Tryd.underlying76]
  go_simp

set_option maxHeartbeats 800000 in
theorem sameMoves_same (ao bo : Option Addr) (ca cb : Nat) (xs : List Wr) (w : World) (hm : xs.length ≤ maxLen) (h1 : Ios w ao xs) (h2 : Ios w bo xs) :
    Calls Tryd.prog 21 #[.slice ao xs.length ca, .slice bo xs.length cb] w fun e w' => e = .returned (.bool true) ∧ Below w.heap.size w w' := by
  have P2 := hide h1
  have P4 := hide h2
  clear h1 h2
  have hb : ((xs.length : Int) != (xs.length : Int)) = false := by simp
  have heq := eqMv_same
  unfold maxLen at hm
  go_enter Tryd.func21, Tryd.ntmps21
  go_wp2
  go_loopw [5] (fun i wr => ∃ k : Nat, k ≤ xs.length ∧ i = .int .i64 k ∧ Hid (Below w.heap.size w wr)) (fun i _ => xs.length - (intOf i).toNat)
  case atStart => exact ⟨0, Nat.zero_le _, rfl, hide (Below.refl _ _)⟩
  case round =>
    obtain ⟨k, hk, rfl, HB⟩ := hrel
    by_cases hlt : k < xs.length
    · obtain ⟨b, off, rfl, c0, c1, c2, hz⟩ := (unhide P2).below (unhide HB) k hlt
      obtain ⟨b', off', rfl, d0, d1, d2, hz'⟩ := (unhide P4).below (unhide HB) k hlt
      clear hz hz'
      go_wp2
      go_quiet (fail)
      go_wp2
      go_roundw
      case rel => exact ⟨k + 1, by omega, by go_num, hide ((unhide HB).trans (Joins.below_draws _ _ _))⟩
      case measure => simp [intOf]; omega
    · go_wp2
      go_ret
      exact ⟨rfl, unhide HB⟩

end Go.Proofs.YtefnapcegeojoabDoor

/- What stays beside a source of choices; contract of spec.l00Source. -/
namespace Go.Proofs.YtefnapcegeojoabDoor
open Go.RowKit
set_option linter.unusedVariables false
set_option maxRecDepth 100000

theorem keep_cell {S : Nat → Prop} {w w' : World} {a : Addr} {v : Value} (hk : Keep S w w') (ha : ¬ S a.block) (h : w.cell? a = some v) : w'.cell? a = some v := by
  have hl := World.block_lt_of_cell? _ _ h
  rw [← h]
  unfold World.cell?
  simp only [hk.block a.block hl ha]
theorem keep_new {w w1 w2 : World} {b : Nat} {S : Nat → Prop} (h : Keep (fun k => k = b) w w1) (hk : Keep S w1 w2) (hs : ∀ k, S k → w.heap.size ≤ k ∨ k = b) : Keep (fun k => k = b) w w2 :=
  ⟨hk.os.trans h.os, hk.tape.trans h.tape, hk.output.trans h.output, Nat.le_trans h.size hk.size, fun k hl hn => (hk.block k (Nat.lt_of_lt_of_le hl h.size) (fun hS => by
    rcases hs k hS with h1 | h1
    · omega
    · exact hn h1)).trans (h.block k hl hn)⟩
theorem SrcK.other {w w1 w2 : World} {b : Nat} {ao : Option Addr} {n cap m m0 : Nat} {S : Nat → Prop} (h0 : SrcK w b ao n cap m0) (h : SrcK w1 b ao n cap m) (hw : Keep (fun k => k = b) w w2) (hk : Keep S w1 w2) (hs : ¬ S b) : SrcK w2 b ao n cap m := by
  obtain ⟨x0, y0, _, _, _, _, hblk0⟩ := h0.src
  obtain ⟨x, y, c0, c1, c2, c3, c4⟩ := h.src
  refine ⟨⟨x, y, c0, c1, c2, c3, ?_⟩, h0.bytes.keep hblk0 (fun z h => by cases h) hw⟩
  rw [hk.block b (Array.getElem?_eq_some_iff.1 c4).1 hs]; exact c4

theorem source_any (ao : Option Addr) (n cap : Nat) (w : World) (hn : n ≤ 1048576) (hB : Bs w ao n) :
    Calls Tryd.prog 45 #[.slice ao n cap] w fun e w' => e = .returned (.pointer (some ⟨w.heap.size, 0, none⟩)) ∧ SrcK w' w.heap.size ao n cap 0 ∧ Below w.heap.size w w' ∧ w'.heap.size = w.heap.size + 1 := by
  go_enter Tryd.func45, Tryd.ntmps45
  go_wp2
  go_ret
  exact ⟨rfl, ⟨⟨0, (n : Int) % 1000, by omega, by omega, by omega, by omega, heap_alloc_new w _⟩, hB.below (Joins.below_alloc1 _ _)⟩, Joins.below_alloc1 _ _, by simp⟩

theorem keep_drop {w w' : World} {b : Nat} (h : Keep (fun k => k = b ∨ w.heap.size ≤ k) w w') : Keep (fun k => k = b) w w' :=
  ⟨h.os, h.tape, h.output, h.size, fun k hl hn => h.block k hl (fun e => by
    rcases e with e | e
    · exact hn e
    · omega)⟩
theorem blk_keep {S : Nat → Prop} {w w' : World} {k : Nat} {o : Obj} (hk : Keep S w w') (hs : ¬ S k) (h : w.heap[k]? = some o) : w'.heap[k]? = some o := by
  rw [hk.block k (Array.getElem?_eq_some_iff.1 h).1 hs]; exact h
theorem blk_below {w w' : World} {k : Nat} {o : Obj} (hk : Below w.heap.size w w') (h : w.heap[k]? = some o) : w'.heap[k]? = some o := by
  rw [hk.block k (Array.getElem?_eq_some_iff.1 h).1]; exact h
theorem blk_lt {w : World} {k : Nat} {o : Obj} (h : w.heap[k]? = some o) : k < w.heap.size := (Array.getElem?_eq_some_iff.1 h).1

end Go.Proofs.YtefnapcegeojoabDoor

/- Contracts of the model's drawn texts: some, TextOf. -/
namespace Go.Proofs.YtefnapcegeojoabDoor
open Go.RowKit
set_option linter.unusedVariables false
set_option maxRecDepth 100000

theorem infoU : (Tryd.prog.info? 5).map (fun i => (i.zero, i.size, i.bytes)) = some (some (.int .u8 0), 1, 1) := by kernel_rfl
theorem keep_newT {w w1 w2 : World} {b : Nat} {S : Nat → Prop} (h : Keep (fun k => k = b) w w1) (hk : Keep S w1 w2) (hs : ∀ k, S k → w.heap.size ≤ k ∨ k = b) : Keep (fun k => k = b) w w2 :=
  ⟨hk.os.trans h.os, hk.tape.trans h.tape, hk.output.trans h.output, Nat.le_trans h.size hk.size, fun k hl hn => (hk.block k (Nat.lt_of_lt_of_le hl h.size) (fun hS => by
    rcases hs k hS with h1 | h1
    · omega
    · exact hn h1)).trans (h.block k hl hn)⟩
theorem SrcK.otherT {w w1 w2 : World} {b : Nat} {ao : Option Addr} {n cap m m0 : Nat} {S : Nat → Prop} (h0 : SrcK w b ao n cap m0) (h : SrcK w1 b ao n cap m) (hw : Keep (fun k => k = b) w w2) (hk : Keep S w1 w2) (hs : ¬ S b) : SrcK w2 b ao n cap m := by
  obtain ⟨x0, y0, _, _, _, _, hblk0⟩ := h0.src
  obtain ⟨x, y, c0, c1, c2, c3, c4⟩ := h.src
  refine ⟨⟨x, y, c0, c1, c2, c3, ?_⟩, h0.bytes.keep hblk0 (fun z h => by cases h) hw⟩
  rw [hk.block b (Array.getElem?_eq_some_iff.1 c4).1 hs]; exact c4

set_option maxHeartbeats 3200000 in
theorem some_k (b : Nat) (ao : Option Addr) (n cap m k : Nat) (w : World) (hk : k ≤ 100) (hm : m ≤ 700000) (hn : n ≤ 1048576) (hs : SrcK w b ao n cap m) :
    Calls Tryd.prog 120 #[.pointer (some ⟨b, 0, none⟩), .int .i64 k] w fun e w' => ∃ t : ByteArray, e = .returned (.string t) ∧ t.size = k ∧ SrcK w' b ao n cap (m + 3 * k) ∧ Keep (fun j => j = b) w w' := by
  have hbl := hs.lt
  have HS0 := hide hs
  clear hs
  obtain ⟨j0, hj, hy0, hy1, hy2⟩ := info_parts infoU
  have HSA := hide ((unhide HS0).below (Joins.below_alloc1 w (.cells #[] 5)))
  have HKA : Hid (Keep (fun j => j = b) w (w.alloc (.cells #[] 5))) := hide (Keep.of_below (Joins.below_alloc1 _ _))
  go_enter Tryd.func120, Tryd.ntmps120
  go_wp2
  go_loopw [5, 6] (fun o i wr => ∃ (j : Nat) (ns : List Int) (qo : Option Addr) (qa : Nat), j ≤ k ∧ ns.length = j ∧ i = .int .i64 j ∧ o = .slice qo j qa ∧ Hid (OwnR wr w.heap.size 5 1 (.slice qo j qa) j (byteV ns)) ∧ Hid (Keep (fun x => x = b) w wr) ∧ Hid (SrcK wr b ao n cap (m + 3 * j))) (fun _ i _ => k - (intOf i).toNat)
  case atStart => exact ⟨0, [], _, _, Nat.zero_le _, rfl, rfl, rfl, hide (.inl ⟨rfl, rfl, _, rfl⟩), HKA, HSA⟩
  case round =>
    obtain ⟨j, ns, qo, qa, hjk, hns, rfl, rfl, HO, HK, HS⟩ := hrel
    by_cases hlt : j < k
    · go_wp2_with fail
      refine (next_k b ao n cap _ 26 _ (by omega) (by omega) (by omega) hn (unhide HS)).mono ?_
      rintro e w2 ⟨r, rfl, hr0, hr1, hs2, hk2⟩
      have HO2 := hide ((unhide HO).keep hk2 (fun g hg e => by have := ((unhide HO).ge g hg).1; omega))
      have HK2 := hide ((unhide HK).trans hk2)
      have HS2 := hide hs2
      clear hs2 hk2
      have HOA := hide ((unhide HO2).below (Joins.below_alloc1 _ (.cells #[.int .u8 (97 + r)] 5)))
      have HKB := hide ((unhide HK2).trans (Keep.of_below (Joins.below_alloc1 _ (.cells #[.int .u8 (97 + r)] 5))))
      have HSB := hide ((unhide HS2).below (Joins.below_alloc1 _ (.cells #[.int .u8 (97 + r)] 5)))
      have HSZ := hide (unhide HK2).size
      go_wp2_with (at_builtin; refine wpList_append_one rfl _ _ 39 rfl w.heap.size 5 j0 (.int .u8 0) 1 1 Tryd.underlying39 hj hy0 hy1 hy2 rfl (by omega) qo j qa (byteV ns) rfl (unhide HOA) (by have := unhide HSZ; simp; omega) ⟨w2.heap.size, 0, none⟩ _ [.int .u8 (97 + r)] rfl rfl (byte_news w2 _ _) (byte_one _) (by unfold maxLen; omega) (by omega) ?_; intro g2 cap2 wA hoA hkA; have HSF := hide (And.intro hoA (keep_newT (unhide HKB) hkA (fun k hk => .inl ((unhide HOA).ge k hk).1))); have HSC := hide ((unhide HS0).otherT (unhide HSB) (unhide HSF).2 hkA (fun hk => by have := ((unhide HOA).ge _ hk).1; omega)); clear hoA hkA)
      go_roundw
      case rel => exact ⟨j + 1, ns ++ [97 + r], some ⟨g2, 0, none⟩, cap2, by omega, by simp [hns], by go_num, rfl, hide (.inr ⟨by omega, by rw [byteV_snoc]; exact (unhide HSF).1⟩), hide (unhide HSF).2, hide ((unhide HSC).more (by omega))⟩
      case measure => simp [intOf]; omega
    · have hcv := convert_own (P := Tryd.prog) Tryd.underlying39 Tryd.underlying5 Tryd.underlying9 (unhide HO)
      have HJK : Hid (j = k) := hide (by omega)
      have hlt' : ¬ (j : Int) < (k : Int) := by omega
      go_wp2
      go_ret
      exact ⟨strOfNums ns, rfl, by rw [strOfNums_size, hns]; exact unhide HJK, (unhide HS).more (by omega), unhide HK⟩

end Go.Proofs.YtefnapcegeojoabDoor

/- Plain: texts as the model draws them; what is read behind a write of a generation that is sure. -/
namespace Go.Proofs.YtefnapcegeojoabDoor
open Go.RowKit
set_option linter.unusedVariables false

/-- Short, too long for a sector, or a record of small numbers. -/
def Drw (t : ByteArray) : Prop := t.size ≤ 4 ∨ 80 < t.size ∨ ∃ (k : Int) (xs : List Int), t = sealS k xs ∧ (1 ≤ k ∧ k ≤ 9) ∧ xs.length ≤ 16 ∧ ∀ x ∈ xs, 0 ≤ x ∧ x ≤ 20
theorem small_all {xs : List Int} (h : ∀ x ∈ xs, 0 ≤ x ∧ x ≤ 20) : allB xs = true := by
  rw [allB, List.all_eq_true]
  intro x hx
  have := h x hx
  simp [numB, inB]; omega
theorem openB_in {t : ByteArray} {k : Int} : openB t k = true ↔ RecP t ∧ byteAt t 0 = k := by
  simp only [openB, Bool.and_eq_true, decide_eq_true_eq, recB_iff]
theorem dec_list {t : ByteArray} (h : decB t = true) : ∃ a b c, unL (bodyT t) = [a, b, c] ∧ decG t = b := by
  have h' := h
  simp only [decB, Bool.and_eq_true, decide_eq_true_eq] at h'
  obtain ⟨ho, hl, hd⟩ := h'
  obtain ⟨a, b, c, e⟩ := three hl
  exact ⟨a, b, c, by rw [← e, decL, openL_yes ho], (dec_yes h e).2.1⟩
theorem drw_gen {t : ByteArray} (h : Drw t) (h80 : t.size ≤ 80) : decG t ≤ 20 := by
  cases hb : decB t with
  | false => rw [(dec_no hb).2.1]; omega
  | true =>
    obtain ⟨a, b, c, hl, hg⟩ := dec_list hb
    rw [hg]
    rcases h with h | h | ⟨k, xs, rfl, hk, hx, hs⟩
    · have := congrArg List.length hl
      rw [unL_length, bodyT_size] at this
      simp at this
      omega
    · omega
    · rw [body_seal, un_pack (small_all hs)] at hl
      subst hl
      exact (hs b (by simp)).2
theorem dec_enc {h g s : Int} (hd : dltB h g s = true) : decB (encD h g s) = true ∧ decH (encD h g s) = h ∧ decG (encD h g s) = g ∧ decS (encD h g s) = s := by
  obtain ⟨h1, h2, h3⟩ := dltB_iff.1 hd
  have ha : allB [h, g, s] = true := by simp [allB, numB, inB]; omega
  have ho : openB (encD h g s) 9 = true := openB_in.2 ⟨rec_seal ⟨by omega, by omega⟩ ha (by simp), seal_kind ⟨by omega, by omega⟩ (by simp)⟩
  have hl : decL (encD h g s) = [h, g, s] := by rw [decL, openL_yes ho, encD, body_seal, un_pack ha]
  have hb : decB (encD h g s) = true := by rw [decB_at ho hl]; exact hd
  exact ⟨hb, dec_yes hb hl⟩

theorem pX_nil (h g s : Int) : pX [] h g s = [] := by simp [pX, dropF, dwr]
theorem pS_nil (ss : List ByteArray) (h g s : Int) : pS ss [] h g s = ss.set (5 + h).toNat (encD h g s) := by simp [pS, ofH, dwr, putW]
theorem read_nil (ss : List ByteArray) (o a : Int) : readV ss [] o a = ss.getD a.toNat ⟨#[]⟩ := readV_none (fun j hj => absurd hj (Nat.not_lt_zero _))
/-- What is read behind it, by whatever host. -/
theorem red_put {ss : List ByteArray} {h g s : Int} (o : Int) (hl : ss.length = 64) (hx : dltB h g s = true) : redB (pS ss [] h g s) [] o h = true ∧ redG (pS ss [] h g s) [] o h = g ∧ redS (pS ss [] h g s) [] o h = s := by
  obtain ⟨⟨h0, h3⟩, _⟩ := dltB_iff.1 hx
  obtain ⟨e0, e1, e2, e3⟩ := dec_enc hx
  have hr : readV (pS ss [] h g s) [] o (5 + h) = encD h g s := by
    rw [read_nil, pS_nil, List.getD_eq_getElem?_getD, List.getElem?_set_self (by omega)]; rfl
  obtain ⟨y1, y2, y3⟩ := red_yes (ss := pS ss [] h g s) (xs := []) (h := o) (o := h) (by rw [hr]; exact e0) (by rw [hr]; exact e1)
  rw [hr] at y2 y3
  exact ⟨y1, y2.trans e2, y3.trans e3⟩
theorem red_small {ss : List ByteArray} {xs : List Wr} {h o : Int} (hd : diskB ss xs = true) (hs : ∀ s ∈ ss, Drw s) (hx : ∀ x ∈ xs, Drw x.data) : redG ss xs h o ≤ 20 := by
  cases e : redB ss xs h o with
  | false => rw [(red_no e).1]; omega
  | true =>
    rw [redG, if_pos e]
    refine drw_gen ?_ (readV_size hd h (5 + o))
    unfold readV
    cases hf : xs.reverse.find? (fun x => x.host == h && x.at_ == 5 + o) with
    | some x => exact hx x (List.mem_reverse.1 (List.mem_of_find?_eq_some hf))
    | none =>
      simp only [Option.map_none, Option.getD_none]
      rw [List.getD_eq_getElem?_getD]
      cases hg : ss[(5 + o).toNat]? with
      | some s => exact hs s (List.mem_of_getElem? hg)
      | none => exact .inl (Nat.zero_le _)
theorem right_nil {ss : List ByteArray} {h g s : Int} (hd : diskB ss [] = true) (hx : dltB h g s = true) : diskB (pS ss [] h g s) [] = true := by
  obtain ⟨⟨h0, h3⟩, _⟩ := dltB_iff.1 hx
  have := pS_right (g := g) (s := s) hd (by simp) h0 h3
  rw [pX_nil] at this
  exact this

end Go.Proofs.YtefnapcegeojoabDoor

/- Contracts of the model's draws: chance, delta, leader, block; of l05Encode, l06Encode. -/
namespace Go.Proofs.YtefnapcegeojoabDoor
open Go.RowKit
set_option linter.unusedVariables false
set_option maxRecDepth 100000

set_option maxHeartbeats 1600000 in
theorem chance_k (b : Nat) (ao : Option Addr) (n cap m : Nat) (k : Int) (w : World) (hk0 : 1 ≤ k) (hk1 : k ≤ 1000000) (hm : m ≤ 900000) (hn : n ≤ 1048576) (hs : SrcK w b ao n cap m) :
    Calls Tryd.prog 101 #[.pointer (some ⟨b, 0, none⟩), .int .i64 k] w fun e w' => ∃ q : Bool, e = .returned (.bool q) ∧ SrcK w' b ao n cap (m + 3) ∧ Keep (fun j => j = b) w w' := by
  go_enter Tryd.func101, Tryd.ntmps101
  go_wp2_with fail
  refine (next_k b ao n cap m k _ hk0 hk1 hm hn hs).mono ?_
  rintro e w1 ⟨q, rfl, q0, q1, hs1, hk1'⟩
  have HS := hide hs1
  have HK := hide hk1'
  clear hs1 hk1' hs
  go_wp2
  go_ret
  exact ⟨_, rfl, unhide HS, unhide HK⟩

/-- The world of such a draw: the source, the answer's variable. -/
structure DrS (w W : World) (b : Nat) (ao : Option Addr) (n cap m : Nat) (o : Obj) : Prop where
  s : SrcK W b ao n cap m
  k : Keep (fun k => k = b) w W
  r : W.heap[w.heap.size]? = some o
theorem DrS.new {w : World} {b : Nat} {ao : Option Addr} {n cap m : Nat} (hs : SrcK w b ao n cap m) (c : Array Value) (t : TypeId) : DrS w (w.alloc (.cells c t)) b ao n cap m (.cells c t (0, 0)) :=
  ⟨hs.below (Joins.below_alloc1 _ _), Keep.of_below (Joins.below_alloc1 _ _), heap_alloc_new w _⟩
theorem DrS.src {w W W' : World} {b : Nat} {ao : Option Addr} {n cap m m' : Nat} {o : Obj} (h : DrS w W b ao n cap m o) (hb : b < w.heap.size) (hs : SrcK W' b ao n cap m') (hk : Keep (fun k => k = b) W W') : DrS w W' b ao n cap m' o :=
  ⟨hs, h.k.trans hk, blk_keep hk (by omega) h.r⟩
/-- The answer is stored: three numbers. -/
theorem DrS.end3 {w W : World} {b : Nat} {ao : Option Addr} {n cap m : Nat} {o : Obj} (h : DrS w W b ao n cap m o) (h0 : SrcK w b ao n cap 0 ∨ True) (hb : b < w.heap.size) (hm0 : ∃ m0, SrcK w b ao n cap m0) (u v x : Value) :
    SrcK (((W.setCell ⟨w.heap.size, 0, none⟩ u).setCell ⟨w.heap.size, 1, none⟩ v).setCell ⟨w.heap.size, 2, none⟩ x) b ao n cap m ∧ Keep (fun k => k = b) w (((W.setCell ⟨w.heap.size, 0, none⟩ u).setCell ⟨w.heap.size, 1, none⟩ v).setCell ⟨w.heap.size, 2, none⟩ x) := by
  obtain ⟨m0, h1⟩ := hm0
  have hk : Keep (fun k => k = w.heap.size) W (((W.setCell ⟨w.heap.size, 0, none⟩ u).setCell ⟨w.heap.size, 1, none⟩ v).setCell ⟨w.heap.size, 2, none⟩ x) := (((Keep.refl (fun k => k = w.heap.size) W).setCell (p := ⟨w.heap.size, 0, none⟩) rfl _).setCell (p := ⟨w.heap.size, 1, none⟩) rfl _).setCell (p := ⟨w.heap.size, 2, none⟩) rfl _
  have hw := keep_new h.k hk (fun k e => .inl (by omega))
  exact ⟨h1.other h.s hw hk (by omega), hw⟩

end Go.Proofs.YtefnapcegeojoabDoor

/- Contracts of the model's draws: update, updates, UpdatesOf. -/
namespace Go.Proofs.YtefnapcegeojoabDoor
open Go.RowKit
set_option linter.unusedVariables false
set_option maxRecDepth 100000

theorem infoUw : (Tryd.prog.info? 49).map (fun i => (i.zero, i.size, i.bytes)) = some (some (.agg #[.int .i64 0, .string ⟨#[]⟩]), 2, 24) := by kernel_rfl
/-- A drawn update. -/
def drU (u : Up) : Bool := inB u.at_ 9 28 && decide (u.data.size ≤ 8)
theorem drU_right {u : Up} (h : drU u = true) : upB u = true := by
  simp only [drU, inB, Bool.and_eq_true, decide_eq_true_eq] at h
  rw [upB_iff]; omega
theorem DrS.end2 {w W : World} {b : Nat} {ao : Option Addr} {n cap m : Nat} {o : Obj} (h : DrS w W b ao n cap m o) (hb : b < w.heap.size) (hm0 : ∃ m0, SrcK w b ao n cap m0) (u v : Value) :
    SrcK ((W.setCell ⟨w.heap.size, 0, none⟩ u).setCell ⟨w.heap.size, 1, none⟩ v) b ao n cap m ∧ Keep (fun k => k = b) w ((W.setCell ⟨w.heap.size, 0, none⟩ u).setCell ⟨w.heap.size, 1, none⟩ v) := by
  obtain ⟨m0, h1⟩ := hm0
  have hk : Keep (fun k => k = w.heap.size) W ((W.setCell ⟨w.heap.size, 0, none⟩ u).setCell ⟨w.heap.size, 1, none⟩ v) := ((Keep.refl (fun k => k = w.heap.size) W).setCell (p := ⟨w.heap.size, 0, none⟩) rfl _).setCell (p := ⟨w.heap.size, 1, none⟩) rfl _
  have hw := keep_new h.k hk (fun k e => .inl (by omega))
  exact ⟨h1.other h.s hw hk (by omega), hw⟩

set_option maxHeartbeats 1600000 in
theorem update_k (b : Nat) (ao : Option Addr) (n cap m : Nat) (w : World) (hm : m ≤ 600000) (hn : n ≤ 1048576) (hs : SrcK w b ao n cap m) :
    Calls Tryd.prog 84 #[.pointer (some ⟨b, 0, none⟩)] w fun e w' => ∃ u : Up, e = .returned (uV u) ∧ drU u = true ∧ SrcK w' b ao n cap (m + 30) ∧ Keep (fun j => j = b) w w' := by
  have hlt := hs.lt
  have HS := hide hs
  have D0 := hide (DrS.new hs #[.int .i64 0, .string ⟨#[]⟩] 49)
  clear hs
  go_enter Tryd.func84, Tryd.ntmps84
  go_wp2_with fail
  refine (next_k b ao n cap m 20 _ (by omega) (by omega) (by omega) hn (unhide D0).s).mono ?_
  rintro e w1 ⟨q1, rfl, q10, q11, hs1, hk1⟩
  have D1 := hide ((unhide D0).src hlt hs1 hk1)
  have wr1 : IntKind.i64.wrap (9 + q1) = 9 + q1 := by rw [IntKind.wrap_i64]; omega
  clear hs1 hk1
  go_wp2_with fail
  refine (next_k b ao n cap (m + 3) 9 _ (by omega) (by omega) (by omega) hn (unhide D1).s).mono ?_
  rintro e w2 ⟨q2, rfl, q20, q21, hs1, hk1⟩
  have D2 := hide ((unhide D1).src hlt hs1 hk1)
  clear hs1 hk1
  obtain ⟨k, rfl⟩ := Int.eq_ofNat_of_zero_le q20
  go_wp2_with fail
  refine (some_k b ao n cap (m + 3 + 3) k _ (by omega) (by omega) hn (unhide D2).s).mono ?_
  rintro e w3 ⟨t, rfl, ht, hs1, hk1⟩
  have D3 := hide ((unhide D2).src hlt hs1 hk1)
  have HT := hide ht
  clear hs1 hk1 ht
  have hblk := (unhide D3).r
  have c0 := Joins.cell_of_block hblk 0
  have c1 := Joins.cell_of_block hblk 1
  have f0 := Joins.unfrozen_of_block hblk 0
  have f1 := Joins.unfrozen_of_block hblk 1
  simp at c0 c1
  have HF := hide (fun u v => (unhide D3).end2 hlt ⟨_, unhide HS⟩ u v)
  clear hblk
  go_wp2
  refine bodyPost_ret (v := uV ⟨9 + q1, t⟩) (by simp [results, Tryd.results84, go_sem, c0, c1]) rfl ⟨⟨9 + q1, t⟩, rfl, ?_, (unhide HF _ _).1.more (by omega), (unhide HF _ _).2⟩
  simp only [drU, inB, Bool.and_eq_true, decide_eq_true_eq]
  have := unhide HT
  omega

set_option maxHeartbeats 3200000 in
theorem updates_k (b : Nat) (ao : Option Addr) (n cap m : Nat) (w : World) (hm : m ≤ 500000) (hn : n ≤ 1048576) (hs : SrcK w b ao n cap m) :
    Calls Tryd.prog 46 #[.pointer (some ⟨b, 0, none⟩)] w fun e w' => ∃ qo qa us, e = .returned (.slice qo us.length qa) ∧ OwnR w' w.heap.size 49 2 (.slice qo us.length qa) us.length (upsV us) ∧ us.all drU = true ∧ us.length ≤ 4 ∧ Keep (fun k => k = b) w w' := by
  have hbl := hs.lt
  have HS0 := hide hs
  clear hs
  obtain ⟨j0, hj, hy0, hy1, hy2⟩ := info_parts infoUw
  have HSA := hide ((unhide HS0).below (Joins.below_alloc1 w (.cells #[] 49)))
  have HKA : Hid (Keep (fun k => k = b) w (w.alloc (.cells #[] 49))) := hide (Keep.of_below (Joins.below_alloc1 _ _))
  go_enter Tryd.func46, Tryd.ntmps46
  go_wp2_with fail
  refine (next_k b ao n cap m 5 _ (by omega) (by omega) (by omega) hn (unhide HSA)).mono ?_
  rintro e w1 ⟨r1, rfl, hr10, hr11, hs1, hk1⟩
  have HS1 := hide hs1
  have HK1 := hide ((unhide HKA).trans hk1)
  clear hs1 hk1
  obtain ⟨q, rfl⟩ := Int.eq_ofNat_of_zero_le hr10
  go_wp2
  go_loopw [3, 4] (fun o i wr => ∃ (j : Nat) (us : List Up) (qo : Option Addr) (qa : Nat), us.length + j ≤ 4 ∧ i = .int .i64 j ∧ o = .slice qo us.length qa ∧ Hid (us.all drU = true) ∧ Hid (OwnR wr w.heap.size 49 2 (.slice qo us.length qa) us.length (upsV us)) ∧ Hid (Keep (fun k => k = b) w wr) ∧ Hid (SrcK wr b ao n cap (m + 3 + 30 * us.length))) (fun _ i _ => (intOf i).toNat)
  case atStart => exact ⟨q, [], _, _, by simp; omega, rfl, rfl, hide rfl, hide (.inl ⟨rfl, rfl, _, rfl⟩), HK1, HS1⟩
  case round =>
    obtain ⟨j, us, qo, qa, hxj, rfl, rfl, HA, HO, HK, HS⟩ := hrel
    by_cases hlt : 0 < j
    · go_wp2_with fail
      refine (update_k b ao n cap _ _ (by omega) hn (unhide HS)).mono ?_
      rintro e w2 ⟨u, rfl, hu, hs2, hk2⟩
      have HU := hide hu
      have HO2 := hide ((unhide HO).keep hk2 (fun g hg e => by have := ((unhide HO).ge g hg).1; omega))
      have HK2 := hide ((unhide HK).trans hk2)
      have HS2 := hide hs2
      clear hs2 hk2 hu
      have HOA := hide ((unhide HO2).below (Joins.below_alloc1 _ (.cells #[.int .i64 u.at_, .string u.data] 49)))
      have HKB := hide ((unhide HK2).trans (Keep.of_below (Joins.below_alloc1 _ (.cells #[.int .i64 u.at_, .string u.data] 49))))
      have HSB := hide ((unhide HS2).below (Joins.below_alloc1 _ (.cells #[.int .i64 u.at_, .string u.data] 49)))
      have HSZ := hide (unhide HK2).size
      go_wp2_with (at_builtin; refine wpList_append_one rfl _ _ 40 rfl w.heap.size 49 j0 (.agg #[.int .i64 0, .string ⟨#[]⟩]) 2 24 Tryd.underlying40 hj hy0 hy1 hy2 rfl (by omega) qo us.length qa (upsV us) rfl (unhide HOA) (by have := unhide HSZ; simp; omega) ⟨w2.heap.size, 0, none⟩ _ (upV u) rfl rfl (news2_at w2 _ _ _ rfl) (upV_one _) (by unfold maxLen; omega) (by omega) ?_; intro g2 cap2 wA hoA hkA; have HSF := hide (And.intro hoA (keep_new (unhide HKB) hkA (fun k hk => .inl ((unhide HOA).ge k hk).1))); have HSC := hide ((unhide HS0).other (unhide HSB) (unhide HSF).2 hkA (fun hk => by have := ((unhide HOA).ge _ hk).1; omega)); clear hoA hkA)
      go_roundw
      case rel => exact ⟨j - 1, us ++ [u], some ⟨g2, 0, none⟩, cap2, by simp; omega, by go_num, by simp, hide (by simp only [List.all_append, Bool.and_eq_true]; exact ⟨unhide HA, by simp; exact unhide HU⟩), hide (by rw [List.length_append, upsV_append]; exact .inr ⟨by simp, (unhide HSF).1⟩), hide (unhide HSF).2, hide (by rw [List.length_append]; exact (unhide HSC).more (by simp; omega))⟩
      case measure => simp [intOf]; omega
    · go_wp2
      go_ret
      exact ⟨qo, qa, us, rfl, unhide HO, unhide HA, by omega, unhide HK⟩

theorem updatesOf_any (ao : Option Addr) (n cap : Nat) (w : World) (hn : n ≤ 1048576) (hB : Bs w ao n) :
    Calls Tryd.prog 15 #[.slice ao n cap] w fun e w' => ∃ qo qa us, e = .returned (.slice qo us.length qa) ∧ OwnR w' w.heap.size 49 2 (.slice qo us.length qa) us.length (upsV us) ∧ us.all drU = true ∧ us.length ≤ 4 ∧ Below w.heap.size w w' := by
  go_enter Tryd.func15, Tryd.ntmps15
  go_wp2_with fail
  refine (source_any ao n cap _ hn hB).mono ?_
  rintro e w1 ⟨rfl, hs1, hb1, hz⟩
  go_wp2_with fail
  refine (updates_k _ ao n cap 0 _ (by omega) hn hs1).mono ?_
  rintro e w2 ⟨qo, qa, us, rfl, ho, ha, hl, hk⟩
  have HO := hide (ho.base hb1.size)
  have HA := hide ha
  have HB := hide (belowKp hb1 hk (fun j hj => by omega))
  clear ho ha hk hb1 hs1
  go_wp2
  go_ret
  exact ⟨qo, qa, us, rfl, unhide HO, unhide HA, hl, unhide HB⟩

end Go.Proofs.YtefnapcegeojoabDoor
