import Derived.Test.YtefnapcegeojoaaDoorRows
import Derived.Test.YtefnapcegeojoaaDoorLReplayPart1
import Derived.Test.YtefnapcegeojoaaDoorLReplayPart2
import Derived.Test.YtefnapcegeojoaaDoorLReplayPart4
import Derived.Test.YtefnapcegeojoaaDoorLReplayPart3
import Derived.Test.YtefnapcegeojoaaDoorLReplayPart5
import Derived.Test.YtefnapcegeojoaaDoorLReplayPart6
import Derived.WalkKit
import Derived.WalkSpells
import Derived.KernelRfl
import Derived.LoopN
import Derived.BigQuiet
import Derived.Deep.QuietTactic
import Derived.Deep.CutRange
import Derived.Lib.SmallJoins
import Derived.Deep.RegionWith
import Derived.Deep.RegionHeld3
import Derived.Deep.RegionLawGrows
import Derived.Laws.MakeOwn
import Derived.Laws.OwnMore
import Derived.Lib.Walk
import Derived.Lib.SliceRun
import Derived.Lib.AppendZerosOnto
import Derived.Laws.StructEq

namespace Go.Proofs.YtefnapcegeojoaaDoor
open Go.RowKit
set_option linter.unusedVariables false
set_option maxRecDepth 100000

theorem infoUy : (Tryd.prog.info? 42).map (fun i => (i.zero, i.size, i.bytes)) = some (some (.agg #[.int .i64 0, .string ⟨#[]⟩]), 2, 24) := by kernel_rfl
theorem seenAtJ (ao bo : Option Addr) (ca cb : Nat) (ss : List ByteArray) (xs : List Wr) (h a : Int) (T : ByteArray) (w : World) (hd : diskB ss xs = true) (h0 : 0 ≤ a) (h3 : a ≤ 63) (hT : readV ss xs h a = T) (h1 : Ss w ao ss) (h2 : Ios w bo xs) :
    Calls Tryd.prog 46 #[.agg #[.slice ao ss.length ca, .slice bo xs.length cb], .int .i64 h, .int .i64 a] w fun e w' => e = .returned (.string T) ∧ Below w.heap.size w w' := by
  obtain ⟨l1, l2⟩ := diskB_len hd
  obtain ⟨n, rfl⟩ := Int.eq_ofNat_of_zero_le h0
  subst hT
  exact seenBy_any ao bo ca cb ss xs h n w l2 (by omega) (by omega) h1 h2
theorem slN_atI {o : Int} (h : inB o 0 3 = true) : 39 ≤ slN o ∧ slN o ≤ 57 := by
  have : 0 ≤ o ∧ o ≤ 3 := by simpa [inB] using h
  unfold slN; omega
theorem jn_ne : (51 : Nat) ≠ 42 := by decide
theorem VarJ.set2 {w : World} {x t : Nat} {slot seq : Int} {v : Value} (h : VarJ w x t slot seq v) (u : Value) : VarJ (w.setCell ⟨x, 2, none⟩ u) x t slot seq u := Joins.block_setCell (i := 2) h u
theorem UpS.setJ {w W : World} {qo : Option Addr} {n qa x : Nat} {us : List Up} {slot seq : Int} {v : Value} (h : UpS w W qo n qa us) (hx : VarJ W x 51 slot seq v) (hle : w.heap.size ≤ x) (i : Nat) (u : Value) : UpS w (W.setCell ⟨x, i, none⟩ u) qo n qa us :=
  ⟨h.o.keep ((Keep.refl (fun k => k = x) W).setCell (p := ⟨x, i, none⟩) rfl u) (fun g hg e => h.o.other hx jn_ne (e ▸ hg)), h.k.setCell (p := ⟨x, i, none⟩) hle u⟩
def jsT (ss : List ByteArray) (xs : List Wr) (h o : Int) : Int := if joC ss xs h o = 0 then slN o else 0

theorem seen_end {w W : World} {x : Nat} {s0 q0 : Int} {v0 : Value} (hv : VarJ W x 51 s0 q0 v0) (hb : Below w.heap.size w W) (hx : w.heap.size ≤ x) (a b : Int) (u : Value) :
    Below w.heap.size w (((W.setCell ⟨x, 0, none⟩ (.int .i64 a)).setCell ⟨x, 1, none⟩ (.int .i64 b)).setCell ⟨x, 2, none⟩ u) := below3 hb hx 0 1 2 _ _ _

set_option maxHeartbeats 6400000 in
theorem journalSeen_any (ao bo : Option Addr) (ca cb : Nat) (ss : List ByteArray) (xs : List Wr) (h o : Int) (w : World) (hl : ss.length ≤ maxLen) (hm : xs.length ≤ maxLen) (h1 : Ss w ao ss) (h2 : Ios w bo xs) (hE : ErrW w) :
    Calls Tryd.prog 26 #[.agg #[.slice ao ss.length ca, .slice bo xs.length cb], .int .i64 h, .int .i64 o] w fun e w' =>
      ∃ qo n qa, e = .returned (.tuple #[jV (jsT ss xs h o) (joS ss xs h o) qo n qa, .int .i64 (joC ss xs h o)]) ∧ UpS w w' qo n qa (joL ss xs h o) := by
  obtain ⟨i0, hi, hz0, hz1, hz2⟩ := info_parts infoUy
  have HA := hide (Joins.below_alloc2 w (.cells #[.slice ao ss.length ca, .slice bo xs.length cb] 32) (.cells #[.int .i64 0, .int .i64 0, .slice none 0 0] 51))
  have HV := hide ((VarD.new w (.slice ao ss.length ca) (.slice bo xs.length cb)).below (Joins.below_alloc1 _ (.cells #[.int .i64 0, .int .i64 0, .slice none 0 0] 51)))
  have HR : Hid (VarJ ((w.alloc (.cells #[.slice ao ss.length ca, .slice bo xs.length cb] 32)).alloc (.cells #[.int .i64 0, .int .i64 0, .slice none 0 0] 51)) (w.heap.size + 1) 51 0 0 (.slice none 0 0)) := hide (by have := VarJ.new (w.alloc (.cells #[.slice ao ss.length ca, .slice bo xs.length cb] 32)) 51 0 0 (.slice none 0 0); simp only [World.size_alloc] at this; exact this)
  have H1 := hide (h1.below (unhide HA))
  have H2 := hide (h2.below (unhide HA))
  have HS1 := hide h1
  have HS2 := hide h2
  have HL := hide hl
  have HM := hide hm
  have HE := hide hE
  have HZ : Hid (∀ c, joC ss xs h o = c → c ≠ 0 → jsT ss xs h o = 0 ∧ joS ss xs h o = 0 ∧ joL ss xs h o = []) := hide (fun c hc h0 => ⟨if_neg (by rw [hc]; exact h0), (jo_no (by rw [hc]; exact h0)).2.1, (jo_no (by rw [hc]; exact h0)).1⟩)
  have H0 : Hid (∀ W, Below w.heap.size w W → UpS w W none 0 0 []) := hide (fun W hb => ⟨.inl ⟨rfl, rfl, _, rfl⟩, hb⟩)
  clear h1 h2 hl hm hE
  go_enter Tryd.func26, Tryd.ntmps26
  go_wp2_with fail
  refine (hostFault_any ao bo ca cb ss xs h _ (unhide HL) (unhide HM) (unhide H1) (unhide H2)).mono ?_
  rintro e W1 ⟨rfl, hb⟩
  have HB1 := hide (fr (unhide HA) hb)
  have HV1 := hide ((unhide HV).below hb)
  have HR1 := hide ((unhide HR).below hb)
  clear hb HV HR
  obtain ⟨d0, d1⟩ := (unhide HV1).cells
  obtain ⟨r0, r1, r2⟩ := (unhide HR1).cells
  have rf0 := (unhide HR1).free 0
  have rf1 := (unhide HR1).free 1
  have rf2 := (unhide HR1).free 2
  have hR1 : w.heap.size ≤ w.heap.size + 1 := Nat.le_succ _
  by_cases e0 : hostC ss xs h = 0
  case neg =>
    have e0b : (hostC ss xs h != 0) = true := by simp [e0]
    have HC := hide (joC_host (o := o) e0)
    obtain ⟨k1, k2, k3⟩ := unhide HZ _ (unhide HC) e0
    have HK := hide (And.intro k1 (And.intro k2 k3))
    have HX := hide (fun a b u => seen_end (unhide HR1) (unhide HB1) hR1 a b u)
    clear e0 k1 k2 k3
    go_wp2
    refine bodyPost_ret (v := .tuple #[jV 0 0 none 0 0, .int .i64 (hostC ss xs h)]) (by simp [results, Tryd.results26, go_sem, r0, r1, r2]) rfl ⟨none, 0, 0, ?_, ?_⟩
    · rw [(unhide HK).1, (unhide HK).2.1, unhide HC]
    · rw [(unhide HK).2.2]; exact unhide H0 _ (unhide HX _ _ _)
  have e0b : (hostC ss xs h != 0) = false := by simp [e0]
  by_cases e1 : inB o 0 3 = true
  case neg =>
    rw [Bool.not_eq_true] at e1
    have HC := hide (joC_range e0 e1)
    obtain ⟨k1, k2, k3⟩ := unhide HZ _ (unhide HC) (by decide)
    have HK := hide (And.intro k1 (And.intro k2 k3))
    have HX := hide (fun a b u => seen_end (unhide HR1) (unhide HB1) hR1 a b u)
    have hsc : slC o = 4 := by simp [slC, e1]
    clear e0 k1 k2 k3
    go_wp2_with fail
    refine (slotOf_impl o _).mono ?_
    rintro e w2 ⟨rfl, hw⟩
    replace hw := hw.symm
    subst hw
    rw [hsc]
    go_wp2
    refine bodyPost_ret (v := .tuple #[jV 0 0 none 0 0, .int .i64 4]) (by simp [results, Tryd.results26, go_sem, r0, r1, r2]) rfl ⟨none, 0, 0, ?_, ?_⟩
    · rw [(unhide HK).1, (unhide HK).2.1, unhide HC]
    · rw [(unhide HK).2.2]; exact unhide H0 _ (unhide HX _ _ _)
  have hsc : slC o = 0 := by simp [slC, e1]
  have hsr : slR o = slN o := by simp [slR, e1]
  have hd : diskB ss xs = true := (hostC_eq e0).1
  obtain ⟨hs0, hs1⟩ := slN_atI e1
  obtain ⟨T, HT⟩ : ∃ T, Hid (joH ss xs h o = T) := ⟨_, hide rfl⟩
  obtain ⟨F, HF⟩ : ∃ F, Hid (joF ss xs h o = F) := ⟨_, hide rfl⟩
  have HTS : Hid (T.size ≤ 65536) := hide (by rw [← unhide HT]; have := readV_size hd h (slN o); show (readV ss xs h (slN o)).size ≤ 65536; omega)
  have HFS : Hid (∀ i, (F i).size ≤ 65536) := hide (fun i => by rw [← unhide HF]; have := readV_size hd h (slN o + 1 + (i : Int)); show (readV ss xs h (slN o + 1 + (i : Int))).size ≤ 65536; omega)
  have HTR : Hid (readV ss xs h (slN o) = T) := HT
  have HFR : Hid (∀ i : Nat, readV ss xs h (slN o + 1 + (i : Int)) = F i) := hide (fun i => by rw [← unhide HF]; rfl)
  have HBK : Hid (jkB T F = false → joC ss xs h o = 18) := hide (fun hk => joC_broken e0 e1 (by rw [unhide HT, unhide HF]; exact hk))
  have HOK : Hid (jkB T F = true → joC ss xs h o = 0 ∧ jsT ss xs h o = slN o ∧ joS ss xs h o = jkS T F ∧ joL ss xs h o = jkL T F) := hide (fun hk => by
    have hc := joC_ok e0 e1 (by rw [unhide HT, unhide HF]; exact hk)
    obtain ⟨j1, j2⟩ := jo_yes hc
    exact ⟨hc, if_pos hc, by rw [j2, unhide HT, unhide HF], by rw [j1, unhide HT, unhide HF]⟩)
  have HD := hide hd
  clear hd e0 e1 HT HF
  go_wp2_with fail
  refine (slotOf_impl o _).mono ?_
  rintro e w2 ⟨rfl, hw⟩
  replace hw := hw.symm
  subst hw
  rw [hsc, hsr]
  go_wp2_with fail
  refine (seenAtJ ao bo ca cb ss xs h (slN o) T _ (unhide HD) (by omega) (by omega) (unhide HTR) ((unhide HS1).below (unhide HB1)) ((unhide HS2).below (unhide HB1))).mono ?_
  rintro e W2 ⟨rfl, hb⟩
  have HB2 := hide (fr (unhide HB1) hb)
  have HV2 := hide ((unhide HV1).below hb)
  have HR2 := hide ((unhide HR1).below hb)
  clear hb HV1 HR1 d0 d1 r0 r1 r2 rf0 rf1 rf2
  by_cases hsd : sdB T = true
  case neg =>
    rw [Bool.not_eq_true] at hsd
    have HC := hide (unhide HBK (jk_shut (F := F) hsd).1)
    obtain ⟨k1, k2, k3⟩ := unhide HZ _ (unhide HC) (by decide)
    have HK := hide (And.intro k1 (And.intro k2 k3))
    clear k1 k2 k3
    go_wp2_with fail
    refine (readTextH_no T _ (unhide HTS) hsd ((unhide HE).below (unhide HB2))).mono ?_
    rintro e W3 ⟨rfl, hb⟩
    have HB3 := hide (belowAl (fr (unhide HB2) hb) (.cells #[.int .i64 0, .int .i64 0] 82))
    have HR3 := hide (((unhide HR2).below hb).below (Joins.below_alloc1 W3 (.cells #[.int .i64 0, .int .i64 0] 82)))
    have hltR : w.heap.size + 1 < W3.heap.size := ((unhide HR2).below hb).lt
    obtain ⟨r0, r1, r2⟩ := ((unhide HR2).below hb).cells
    have rf0 := ((unhide HR2).below hb).free 0
    have rf1 := ((unhide HR2).below hb).free 1
    have rf2 := ((unhide HR2).below hb).free 2
    have HX := hide (fun a b u => seen_end ((unhide HR2).below hb) (fr (unhide HB2) hb) hR1 a b u)
    clear hb
    go_wp2
    refine bodyPost_ret (v := .tuple #[jV 0 0 none 0 0, .int .i64 18]) (by simp [results, Tryd.results26, go_sem, r0, r1, r2, hltR]) rfl ⟨none, 0, 0, ?_, ?_⟩
    · rw [(unhide HK).1, (unhide HK).2.1, unhide HC]
    · rw [(unhide HK).2.2]; exact unhide H0 _ (by first | exact belowAl (unhide HX _ _ _) _ | exact unhide HX _ _ _ | exact below3 (unhide HB3) hR1 0 1 2 _ _ _)
  go_wp2_with fail
  refine (readTextH_yes T _ (unhide HTS) hsd).mono ?_
  rintro e W3 ⟨rfl, hb⟩
  have hN5 := sdN_le hsd
  obtain ⟨N, hN⟩ : ∃ N, N = sdN T := ⟨_, rfl⟩
  have HN := hide hN
  have HSD := hide hsd
  rw [← hN] at hN5 ⊢
  clear hN hsd
  have HB3 := hide (fr (unhide HB2) hb)
  have HV3 := hide ((unhide HV2).below hb)
  have HR3 := hide ((unhide HR2).below hb)
  clear hb HV2 HR2
  -- the head in a variable, the journal in another one
  have HAl := hide (Joins.below_alloc1 W3 (.cells #[.int .i64 (N : Int), .int .i64 (sdS T)] 82))
  have HH4 := hide (VarH.new W3 82 (N : Int) (sdS T))
  have HB4 := hide (fr (unhide HB3) (unhide HAl))
  have HV4 := hide ((unhide HV3).below (unhide HAl))
  have HR4 := hide ((unhide HR3).below (unhide HAl))
  have HJ5 : Hid (VarJ ((W3.alloc (.cells #[.int .i64 (N : Int), .int .i64 (sdS T)] 82)).alloc (.cells #[.int .i64 (slN o), .int .i64 (sdS T), .slice none 0 0] 51)) (W3.heap.size + 1) 51 (slN o) (sdS T) (.slice none 0 0)) := hide (by have := VarJ.new (W3.alloc (.cells #[.int .i64 (N : Int), .int .i64 (sdS T)] 82)) 51 (slN o) (sdS T) (.slice none 0 0); simp only [World.size_alloc] at this; exact this)
  have HU5 : Hid (UpS (W3.alloc (.cells #[.int .i64 (N : Int), .int .i64 (sdS T)] 82)) ((W3.alloc (.cells #[.int .i64 (N : Int), .int .i64 (sdS T)] 82)).alloc (.cells #[.int .i64 (slN o), .int .i64 (sdS T), .slice none 0 0] 51)) none 0 0 ((fuL F N).take 0)) := hide ⟨.inl ⟨rfl, rfl, _, rfl⟩, Joins.below_alloc1 _ _⟩
  have hJs : (W3.alloc (.cells #[.int .i64 (N : Int), .int .i64 (sdS T)] 82)).heap.size = W3.heap.size + 1 := by simp
  have HJs := hide hJs
  have hltR : w.heap.size + 1 < W3.heap.size := (unhide HR3).lt
  have hltD : w.heap.size < W3.heap.size := (unhide HV3).lt
  clear hJs
  clear HAl HV3 HR3
  go_wp2
  revert HH4 HB4 HV4 HR4 HJ5 HU5 HJs
  generalize W3.alloc (.cells #[.int .i64 (N : Int), .int .i64 (sdS T)] 82) = W4
  intro HH4 HB4 HV4 HR4 HJ5 HU5 HJs
  have HJW : Hid (W4.heap.size ≤ W3.heap.size + 1) := hide (Nat.le_of_eq (unhide HJs))
  have hxJ : w.heap.size ≠ W3.heap.size + 1 := by omega
  have hxJ' : W3.heap.size + 1 ≠ w.heap.size := by omega
  have hrJ : w.heap.size + 1 ≠ W3.heap.size + 1 := by omega
  have hrJ' : W3.heap.size + 1 ≠ w.heap.size + 1 := by omega
  have hJw : w.heap.size + 1 ≤ W3.heap.size + 1 := by omega
  generalize W3.heap.size + 1 = J at *
  go_loopw [49] (fun i wr => ∃ (k : Nat) (ro : Option Addr) (ra : Nat), k ≤ N ∧ i = .int .i64 k ∧ Hid (UpS W4 wr ro k ra ((fuL F N).take k)) ∧ Hid (VarJ wr J 51 (slN o) (sdS T) (.slice ro k ra)) ∧ Hid (∀ j, j < k → duB (F j) = true)) (fun i _ => N - (intOf i).toNat)
  case atStart => exact ⟨0, _, _, Nat.zero_le _, rfl, HU5, HJ5, hide (fun j hj => by omega)⟩
  case round =>
    obtain ⟨k, ro, ra, hk, rfl, HU, HJ, HP⟩ := hrel
    have HVr := hide ((unhide HV4).below (unhide HU).k)
    have HRr := hide ((unhide HR4).below (unhide HU).k)
    have HBr := hide (fr (unhide HB4) (unhide HU).k)
    obtain ⟨j0, j1, j2⟩ := (unhide HJ).cells
    have hjl := (unhide HJ).lt
    by_cases hlt : k < N
    · have hki : (k : Int) < (N : Int) := by omega
      obtain ⟨d0, d1⟩ := (unhide HVr).cells
      have hvl := (unhide HVr).lt
      have hvn : w.heap.size ≠ wr.heap.size := Nat.ne_of_lt hvl
      have hvn' : wr.heap.size ≠ w.heap.size := Ne.symm hvn
      have hjn : J ≠ wr.heap.size := Nat.ne_of_lt hjl
      have hjn' : wr.heap.size ≠ J := Ne.symm hjn
      have HFk := hide (unhide HFS k)
      have HRk := hide (unhide HFR k)
      have HPL : Hid (∀ W : World, Calls Tryd.prog 49 #[jV (slN o) (sdS T) ro k ra, .int .i64 k] W fun e w' => e = .returned (.int .i64 (slN o + 1 + k)) ∧ Below W.heap.size W w') := hide (fun W => place_any (slN o) (sdS T) ro k ra k W (by omega) (by omega))
      go_upto_region 14 with fail
      go_cut [14, 15, 49] from 49 to 71 (fun c q ix wx => ∃ C : Nat, c = .pointer (some ⟨C, 0, none⟩) ∧ q = .int .i64 (dkC (F k)) ∧ ix = .int .i64 (k : Int) ∧ Hid (GotU wr wx C 42 (dkU (F k))))
      case first =>
        go_region_held3 (fun w' => w'.cell? ⟨w.heap.size, 0, none⟩ = some (.slice ao ss.length ca) ∧ w'.cell? ⟨w.heap.size, 1, none⟩ = some (.slice bo xs.length cb) ∧ w'.cell? ⟨J, 0, none⟩ = some (.int .i64 (slN o)) ∧ w'.cell? ⟨J, 1, none⟩ = some (.int .i64 (sdS T)) ∧ w'.cell? ⟨J, 2, none⟩ = some (.slice ro k ra)) (go_keep)
          (first
            | (go_at_call 49; refine (unhide HPL _).mono ?_; rintro e w2 ⟨rfl, hb⟩; (first | (have HV2 : Hid (VarU w2 wr.heap.size 42 up0) := (by exact hide (((VarU.new wr 42 up0).below (Below.refl _ _).drew).below hb)); have HB2x : Hid (Below wr.heap.size wr w2) := (by exact hide (fr (Joins.below_alloc1 wr _).drew hb)); clear hb) | (have HB2x : Hid (Below wr.heap.size wr w2) := (by exact hide (fr ((Below.refl _ wr).drew) hb)); clear hb)); obtain ⟨m0, m1⟩ := ((unhide HVr).below (unhide HB2x)).cells; obtain ⟨m2, m3, m4⟩ := ((unhide HJ).below (unhide HB2x)).cells; have hv2 := ((unhide HVr).below (unhide HB2x)).lt; have hw2 := ((unhide HJ).below (unhide HB2x)).lt; have nv2 : w.heap.size ≠ w2.heap.size := Nat.ne_of_lt hv2; have nv2' : w2.heap.size ≠ w.heap.size := Ne.symm nv2; have nw2 : J ≠ w2.heap.size := Nat.ne_of_lt hw2; have nw2' : w2.heap.size ≠ J := Ne.symm nw2)
            | (go_at_call 46; refine (seenAtJ ao bo ca cb ss xs h (slN o + 1 + (k : Int)) (F k) _ (unhide HD) (by omega) (by omega) (unhide HRk) (by first | exact ((unhide HS1).below (unhide HBr)).below (unhide HB2x) | exact (((unhide HS1).below (unhide HBr)).below (unhide HB2x)).below (Joins.below_alloc1 _ _)) (by first | exact ((unhide HS2).below (unhide HBr)).below (unhide HB2x) | exact (((unhide HS2).below (unhide HBr)).below (unhide HB2x)).below (Joins.below_alloc1 _ _))).mono ?_; rintro e w3 ⟨rfl, hb⟩; (first | (have HVU3 : Hid (VarU w3 wr.heap.size 42 up0) := (by exact hide ((unhide HV2).below hb)); have HB3x : Hid (Below wr.heap.size wr w3) := (by exact hide (fr (unhide HB2x) hb)); clear hb) | (have HVU3 : Hid (VarU w3 w2.heap.size 42 up0) := (by exact hide ((VarU.new w2 42 up0).below hb)); have HB3x : Hid (Below wr.heap.size wr w3) := (by exact hide (fr (belowAl (unhide HB2x) _) hb)); clear hb) | (have HB3x : Hid (Below wr.heap.size wr w3) := (by exact hide (fr (unhide HB2x) hb)); clear hb)); obtain ⟨n0, n1⟩ := ((unhide HVr).below (unhide HB3x)).cells; obtain ⟨n2, n3, n4⟩ := ((unhide HJ).below (unhide HB3x)).cells; have hv3 := ((unhide HVr).below (unhide HB3x)).lt; have hw3 := ((unhide HJ).below (unhide HB3x)).lt; have nv3 : w.heap.size ≠ w3.heap.size := Nat.ne_of_lt hv3; have nv3' : w3.heap.size ≠ w.heap.size := Ne.symm nv3; have nw3 : J ≠ w3.heap.size := Nat.ne_of_lt hw3; have nw3' : w3.heap.size ≠ J := Ne.symm nw3)
            | (go_at_call 48; refine (decodeUpdate_impl (F k) _ (by first | exact ((unhide HE).below (unhide HBr)).below (unhide HB3x) | exact (((unhide HE).below (unhide HBr)).below (unhide HB3x)).below (Joins.below_alloc1 _ _))).mono ?_; rintro e w4 ⟨rfl, hb⟩; (first | (have HVU4 : Hid (VarU w4 wr.heap.size 42 up0) := (by exact hide ((unhide HVU3).below hb)); have HB4x : Hid (Below wr.heap.size wr w4) := (by exact hide (fr (unhide HB3x) hb)); have HLE : Hid (wr.heap.size ≤ wr.heap.size) := hide (Nat.le_refl _); obtain ⟨z0, z1⟩ := (unhide HVU4).cells; obtain ⟨q0, q1⟩ := (unhide HVU4).free; clear hb) | (have HVU4 : Hid (VarU w4 w2.heap.size 42 up0) := (by exact hide ((unhide HVU3).below hb)); have HB4x : Hid (Below wr.heap.size wr w4) := (by exact hide (fr (unhide HB3x) hb)); have HLE : Hid (wr.heap.size ≤ w2.heap.size) := hide (unhide HB2x).size; obtain ⟨z0, z1⟩ := (unhide HVU4).cells; obtain ⟨q0, q1⟩ := (unhide HVU4).free; clear hb) | (have HVU4 : Hid (VarU w4 w3.heap.size 42 up0) := (by exact hide ((VarU.new w3 42 up0).below hb)); have HB4x : Hid (Below wr.heap.size wr w4) := (by exact hide (fr (belowAl (unhide HB3x) _) hb)); have HLE : Hid (wr.heap.size ≤ w3.heap.size) := hide (unhide HB3x).size; obtain ⟨z0, z1⟩ := (unhide HVU4).cells; obtain ⟨q0, q1⟩ := (unhide HVU4).free; clear hb) | (have HB4x : Hid (Below wr.heap.size wr w4) := (by exact hide (fr (unhide HB3x) hb)); clear hb)); obtain ⟨p0, p1⟩ := ((unhide HVr).below (unhide HB4x)).cells; obtain ⟨p2, p3, p4⟩ := ((unhide HJ).below (unhide HB4x)).cells; have hv4 := ((unhide HVr).below (unhide HB4x)).lt; have hw4 := ((unhide HJ).below (unhide HB4x)).lt; have nv4 : w.heap.size ≠ w4.heap.size := Nat.ne_of_lt hv4; have nv4' : w4.heap.size ≠ w.heap.size := Ne.symm nv4; have nw4 : J ≠ w4.heap.size := Nat.ne_of_lt hw4; have nw4' : w4.heap.size ≠ J := Ne.symm nw4))
        all_goals
          go_wp2_with fail
          go_meet
          first
            | exact ⟨_, rfl, rfl, rfl, hide (GotU.set (unhide HB4x) (unhide HVU4) (unhide HLE))⟩
            | exact ⟨_, rfl, rfl, rfl, hide (GotU.top _ _ (unhide HB4x))⟩
      case rest =>
        obtain ⟨C, rfl, rfl, rfl, HGU⟩ := hcut
        rename World => W5
        have HU5x := hide ((unhide HU).next (unhide HGU).k)
        have HJ5x := hide ((unhide HJ).below (unhide HGU).k)
        have HR5 := hide ((unhide HRr).below (unhide HGU).k)
        have HB5 := hide (fr (unhide HBr) (unhide HGU).k)
        clear d0 d1 j0 j1 j2 hvl hvn hvn' hjn hjn' hjl
        obtain ⟨x0, x1⟩ := (unhide HGU).v.cells
        obtain ⟨j0, j1, j2⟩ := (unhide HJ5x).cells
        have jf2 := (unhide HJ5x).free 2
        have hCl := (unhide HGU).v.lt
        have hjl := (unhide HJ5x).lt
        by_cases hdk : duB (F k) = true
        · obtain ⟨y1, y2⟩ := dk_yes (t := F k) (by have := unhide HFk; omega) hdk
          have HPP : Hid (∀ j, j < k + 1 → duB (F j) = true) := hide (fun j hj => by
            by_cases e : j = k
            · rw [e]; exact hdk
            · exact unhide HP j (by omega))
          rw [y1] at x0 x1
          have HUA := hide ((unhide HU5x).next (Joins.below_alloc1 W5 (.cells #[.int .i64 (duU (F k)).at_, .string (duU (F k)).data] 42)))
          have HJA := hide ((unhide HJ5x).below (Joins.below_alloc1 W5 (.cells #[.int .i64 (duU (F k)).at_, .string (duU (F k)).data] 42)))
          have HSZ := hide (unhide HUA).sz
          rw [y2]
          go_wp2_with (at_builtin; refine wpList_append_one rfl _ _ 23 rfl W4.heap.size 42 i0 (.agg #[.int .i64 0, .string ⟨#[]⟩]) 2 24 Tryd.underlying23 hi hz0 hz1 hz2 rfl (by omega) ro k ra (upsV ((fuL F N).take k)) rfl (unhide HUA).o (unhide HSZ) ⟨W5.heap.size, 0, none⟩ _ (upV (duU (F k))) rfl rfl (news2_at W5 _ _ _ rfl) (upV_one _) (by unfold maxLen; omega) (by omega) ?_; intro g2 cap2 wA hoA hkA; have HJN : Hid (VarJ wA J 51 (slN o) (sdS T) (.slice ro k ra)) := hide (by unfold VarJ; rw [hkA.block _ (unhide HJA).lt ((unhide HUA).o.other (unhide HJA) jn_ne)]; exact unhide HJA); have HN2 := hide (UpS.one (unhide HUA) hoA hkA); obtain ⟨t0, t1, t2⟩ := (unhide HJN).cells; have tf2 := (unhide HJN).free 2; clear hoA hkA)
          go_roundw
          case rel => exact ⟨k + 1, _, _, by omega, by go_num, hide (by rw [fuL_take hlt]; exact (unhide HN2).setJ (unhide HJN) (unhide HJW) 2 _), hide ((unhide HJN).set2 _), HPP⟩
          case measure => simp [intOf]; omega
        · rw [Bool.not_eq_true] at hdk
          obtain ⟨y1, y2⟩ := dk_no (t := F k) (by have := unhide HFk; omega) hdk
          have HC := hide (unhide HBK (jk_bad (T := T) (F := F) (by rw [← unhide HN]; exact fuB_no hlt hdk)).1)
          obtain ⟨k1, k2, k3⟩ := unhide HZ _ (unhide HC) (by decide)
          have HK := hide (And.intro k1 (And.intro k2 k3))
          obtain ⟨r0, r1, r2⟩ := (unhide HR5).cells
          have rf0 := (unhide HR5).free 0
          have rf1 := (unhide HR5).free 1
          have rf2 := (unhide HR5).free 2
          have HX := hide (fun a b u => seen_end (unhide HR5) (unhide HB5) hR1 a b u)
          clear k1 k2 k3
          rw [y2]
          go_wp2
          refine bodyPost_ret (v := .tuple #[jV 0 0 none 0 0, .int .i64 18]) (by simp [results, Tryd.results26, go_sem, r0, r1, r2]) rfl ⟨none, 0, 0, ?_, ?_⟩
          · rw [(unhide HK).1, (unhide HK).2.1, unhide HC]
          · rw [(unhide HK).2.2]; exact unhide H0 _ (unhide HX _ _ _)
    · have hke : k = N := by omega
      subst hke
      have HE1 := hide (jk_yes (F := F) (unhide HSD) (by rw [← unhide HN]; exact fuB_yes (unhide HP)))
      have HO1 := hide (unhide HOK (unhide HE1).1)
      have hkn : ¬ ((k : Int) < (k : Int)) := by omega
      obtain ⟨r0, r1, r2⟩ := (unhide HRr).cells
      have rf0 := (unhide HRr).free 0
      have rf1 := (unhide HRr).free 1
      have rf2 := (unhide HRr).free 2
      have HX := hide (fun a b u => seen_end (unhide HRr) (unhide HBr) hR1 a b u)
      have HUX : Hid (∀ a b u, OwnR (((wr.setCell ⟨w.heap.size + 1, 0, none⟩ (.int .i64 a)).setCell ⟨w.heap.size + 1, 1, none⟩ (.int .i64 b)).setCell ⟨w.heap.size + 1, 2, none⟩ u) w.heap.size 42 2 (.slice ro k ra) k (upsV (fuL F k))) := hide (fun a b u => by
        have ho := (unhide HU).o
        rw [fuL_done (Nat.le_refl _)] at ho
        refine (ho.keep ((((Keep.refl (fun q => q = w.heap.size + 1) wr).setCell (p := ⟨w.heap.size + 1, 0, none⟩) rfl (.int .i64 a)).setCell (p := ⟨w.heap.size + 1, 1, none⟩) rfl (.int .i64 b)).setCell (p := ⟨w.heap.size + 1, 2, none⟩) rfl u) (fun g hg e => ho.other (unhide HRr) jn_ne (e ▸ hg))).base (unhide HB4).size)
      go_wp2
      refine bodyPost_ret (v := .tuple #[jV (slN o) (sdS T) ro k ra, .int .i64 0]) (by simp [results, Tryd.results26, go_sem, r0, r1, r2]) rfl ⟨ro, k, ra, ?_, ?_⟩
      · rw [(unhide HO1).1, (unhide HO1).2.1, (unhide HO1).2.2.1, (unhide HE1).2.2]
      · rw [(unhide HO1).2.2.2, (unhide HE1).2.1, ← unhide HN]
        exact ⟨unhide HUX _ _ _, unhide HX _ _ _⟩

set_option maxHeartbeats 1600000 in
theorem replayPlan_impl (ao bo : Option Addr) (ca cb : Nat) (ss : List ByteArray) (xs : List Wr) (h o : Int) (w : World) (hl : ss.length ≤ maxLen) (hm : xs.length ≤ maxLen) (h1 : Ss w ao ss) (h2 : Ios w bo xs) (hE : ErrW w) :
    Calls Tryd.prog 10 #[.agg #[.slice ao ss.length ca, .slice bo xs.length cb], .int .i64 h, .int .i64 o] w fun e w' => ∃ qo qa n, e = .returned (.tuple #[.slice qo n qa, .int .i64 (joC ss xs h o)]) ∧ ApS w w' qo n qa (joM ss xs h o) := by
  have HA := hide (Joins.below_alloc1 w (.cells #[.slice ao ss.length ca, .slice bo xs.length cb] 32))
  have H1 := hide (h1.below (unhide HA))
  have H2 := hide (h2.below (unhide HA))
  have HL := hide hl
  have HM := hide hm
  have HE := hide (hE.below (unhide HA))
  have HR := hide (jo_right ss xs h o)
  have HJM : Hid (rpL (jsT ss xs h o) (joS ss xs h o) (joL ss xs h o) = joM ss xs h o) := hide (by
    by_cases hc : joC ss xs h o = 0
    · rw [jsT, if_pos hc]; rfl
    · rw [joM, (jo_no hc).1]; rfl)
  clear h1 h2 hl hm hE
  go_enter Tryd.func10, Tryd.ntmps10
  go_wp2_with fail
  refine (journalSeen_any ao bo ca cb ss xs h o _ (unhide HL) (unhide HM) (unhide H1) (unhide H2) (unhide HE)).mono ?_
  rintro e w1 ⟨qo, n, qa, rfl, hu⟩
  have hnl := hu.len
  subst hnl
  have HB := hide (belowAl (fr (unhide HA) hu.k) (.cells #[.int .i64 (jsT ss xs h o), .int .i64 (joS ss xs h o), .slice qo (joL ss xs h o).length qa] 51))
  have HU := hide ((hu.ups (unhide HR).1).below (Joins.below_alloc1 w1 (.cells #[.int .i64 (jsT ss xs h o), .int .i64 (joS ss xs h o), .slice qo (joL ss xs h o).length qa] 51)))
  clear hu
  go_wp2_with fail
  refine (toApply_any (jsT ss xs h o) (joS ss xs h o) qo qa (joL ss xs h o) _ (unhide HR).2.1 (unhide HR).2.2 (unhide HR).1 (unhide HU)).mono ?_
  rintro e w2 ⟨po, m, pa, rfl, ha⟩
  rw [unhide HJM] at ha
  have HAP : Hid (ApS w w2 po m pa (joM ss xs h o)) := hide ⟨ha.o.base (unhide HB).size, fr (unhide HB) ha.k⟩
  clear ha
  go_wp2
  go_ret2
  exact ⟨po, pa, m, rfl, unhide HAP⟩

end Go.Proofs.YtefnapcegeojoaaDoor

namespace Go.Proofs.YtefnapcegeojoaaDoor
open Go.RowKit
set_option linter.unusedVariables false
set_option maxRecDepth 100000

theorem VarD_free {w : World} {x : Nat} {a b : Value} (k : VarD w x a b) : w.frozen? ⟨x, 0, none⟩ = false ∧ w.frozen? ⟨x, 1, none⟩ = false := ⟨Joins.unfrozen_of_block k 0, Joins.unfrozen_of_block k 1⟩
theorem apMv {w W : World} {qo : Option Addr} {qa : Nat} {ms : List Wr} (h : ApS w W qo ms.length qa ms) (hz : ∀ x ∈ ms, x.data.size ≤ maxLen) : Ios W qo ms := ownMv h.o hz
theorem ownTx {w : World} {B pa : Nat} {po : Option Addr} {ss : List ByteArray} (h : OwnR w B 9 1 (.slice po ss.length pa) ss.length (strV ss)) (hz : ∀ s ∈ ss, s.size ≤ maxLen) : Ss w po ss := by
  rcases h with ⟨h0, _⟩ | ⟨h0, h⟩
  · exact fun i hi => by omega
  · exact ownS h hz
theorem ownWs {w : World} {B pa : Nat} {po : Option Addr} {xs : List Wr} (h : OwnR w B 78 3 (.slice po xs.length pa) xs.length (ioV xs)) (hz : ∀ x ∈ xs, x.data.size ≤ maxLen) : Ios w po xs := by
  rcases h with ⟨h0, _⟩ | ⟨h0, h⟩
  · exact fun i hi => by omega
  · exact ownI h hz
def AnsJ (w : World) (g pa : Nat) (ko : Option Addr) (S : List ByteArray) (X : List Wr) : Prop := 64 ≤ pa ∧ Ss w (some ⟨g, 0, none⟩) S ∧ Ios w ko X
theorem AnsJ.below {w w' : World} {g pa : Nat} {ko : Option Addr} {S : List ByteArray} {X : List Wr} (h : AnsJ w g pa ko S X) (hb : Below w.heap.size w w') : AnsJ w' g pa ko S X := ⟨h.1, h.2.1.below hb, h.2.2.below hb⟩
structure GotD (W0 W : World) (C : Nat) (S : List ByteArray) (X : List Wr) : Prop where
  k : Below W0.heap.size W0 W
  v : ∃ g pa ko ka, AnsJ W g pa ko S X ∧ VarD W C (.slice (some ⟨g, 0, none⟩) S.length pa) (.slice ko X.length ka)
theorem GotD.top {W0 W : World} {g pa ka : Nat} {ko : Option Addr} {S : List ByteArray} {X : List Wr} (h : Below W0.heap.size W0 W) (ha : AnsJ W g pa ko S X) :
    GotD W0 (W.alloc (.cells #[.slice (some ⟨g, 0, none⟩) S.length pa, .slice ko X.length ka] 32)) W.heap.size S X :=
  ⟨belowAl h _, g, pa, ko, ka, ha.below (Joins.below_alloc1 _ _), VarD.new W _ _⟩
theorem GotD.set {W0 W : World} {C g pa ka : Nat} {ko : Option Addr} {S : List ByteArray} {X : List Wr} (h : Below W0.heap.size W0 W) (hv : VarD W C (.slice none 0 0) (.slice none 0 0)) (hC : W0.heap.size ≤ C) (ha : AnsJ W g pa ko S X) :
    GotD W0 ((W.setCell ⟨C, 0, none⟩ (.slice (some ⟨g, 0, none⟩) S.length pa)).setCell ⟨C, 1, none⟩ (.slice ko X.length ka)) C S X := by
  have hd : DkA W0 W C none 0 none 0 [] [] := ⟨hv, fun i hi => absurd hi (Nat.not_lt_zero _), fun i hi => absurd hi (Nat.not_lt_zero _), h⟩
  have := hd.put (SS' := S) (XX' := X) (po' := some ⟨g, 0, none⟩) (pa' := pa) (qo' := ko) (qa' := ka) hC rfl rfl ha.2.1 ha.2.2
  exact ⟨this.k, g, pa, ko, ka, ⟨ha.1, this.s, this.i⟩, this.v⟩
theorem movesDo_at {S X1 : List ByteArray} {X2 ms : List Wr} {h : Int} (go : Option Addr) (ca : Nat) (no : Option Addr) (cb : Nat) (mo : Option Addr) (mc : Nat) (W : World) (hd : diskB S [] = true) (hl : ms.length ≤ 200)
    (e1 : mdC S [] h ms = 0) (e2 : mdS S [] h ms = X1) (e3 : mdX S [] h ms = X2) (hx : diskB X1 X2 = true) (h1 : Ss W go S) (h3 : Ios W mo ms) :
    Calls Tryd.prog 8 #[.agg #[.slice go S.length ca, .slice no 0 cb], .int .i64 h, .slice mo ms.length mc] W fun e w' => ∃ g pa ko ka, e = .returned (.tuple #[.agg #[.slice (some ⟨g, 0, none⟩) X1.length pa, .slice ko X2.length ka], .int .i64 0]) ∧ AnsJ w' g pa ko X1 X2 ∧ Below W.heap.size W w' := by
  refine (movesDo_impl go no ca cb S [] h mo mc ms W (by rw [(diskB_len hd).1]; omega) (by simp) (by omega) h1 (fun i hi => absurd hi (Nat.not_lt_zero _)) h3).mono ?_
  rintro e w' ⟨po, pa, qo, qa, he, ho, hb⟩
  rw [e1, e2, e3] at he
  rw [e2, e3] at ho
  obtain ⟨g, rfl, hpa, _, _⟩ := own_64 ho.s (diskB_len hx).1
  exact ⟨g, pa, qo, qa, he, ⟨hpa, ownTx ho.s (right_sz2 hx).1, ownWs ho.i (right_sz2 hx).2⟩, hb⟩
theorem lose_at {X1 T : List ByteArray} {X2 : List Wr} {h : Int} (go : Option Addr) (ca : Nat) (no : Option Addr) (cb : Nat) (n : Nat) (W : World) (hh : 0 ≤ h ∧ h ≤ 3) (hn : n ≤ 200) (hx : diskB X1 X2 = true)
    (e1 : putW X1 ((ofH h X2).take n) = T) (e2 : dropF h X2 = []) (hT : diskB T [] = true) (h1 : Ss W go X1) (h2 : Ios W no X2) :
    Calls Tryd.prog 9 #[.agg #[.slice go X1.length ca, .slice no X2.length cb], .int .i64 h, .int .i64 (n : Int)] W fun e w' => ∃ g pa ko ka, e = .returned (.tuple #[.agg #[.slice (some ⟨g, 0, none⟩) T.length pa, .slice ko ([] : List Wr).length ka], .int .i64 0]) ∧ AnsJ w' g pa ko T [] ∧ Below W.heap.size W w' := by
  obtain ⟨l1, l2⟩ := len_in hx
  obtain ⟨ha, _⟩ := askC_right (h := h) (a := 0) hx hh.1 hh.2 (by omega) (by omega)
  obtain ⟨f1, f2, f3, _⟩ := lost hn hx ha
  rw [e1] at f1
  rw [e2] at f2
  refine (loseHost_impl go no ca cb X1 X2 h n W l1 l2 h1 h2).mono ?_
  rintro e w' ⟨po, pa, qo, qa, he, ho, hb⟩
  rw [f1, f2] at ho
  rw [f1, f2, f3] at he
  obtain ⟨g, rfl, hpa, _, _⟩ := own_64 ho.s (diskB_len hT).1
  exact ⟨g, pa, qo, qa, he, ⟨hpa, ownTx ho.s (right_sz2 hT).1, fun i hi => absurd hi (Nat.not_lt_zero _)⟩, hb⟩
theorem ios_take {w : World} {ao : Option Addr} {xs : List Wr} (h : Ios w ao xs) (k : Nat) : Ios w ao (xs.take k) := fun i hi => by
  have hi' : i < xs.length := by rw [List.length_take] at hi; omega
  obtain ⟨b, off, e, h0, h1, h2, hz⟩ := h i hi'
  refine ⟨b, off, e, ?_, ?_, ?_, ?_⟩ <;> simp only [List.getElem_take] <;> assumption
theorem cut_moves {w : World} {B e n cap : Nat} {ao : Option Addr} {xs : List Value} (h : OwnR w B e 3 (.slice ao n cap) n xs) {k : Nat} (hk : k ≤ n) (W : World) :
    (Instr.sliceAt 26 (.slice ao n cap) none (some (.int .i64 (k : Int))) none).run Tryd.prog W = .ok (.slice ao k cap) W := by
  have hu : Tryd.prog.underlying 26 = some (.slice (Tryd.prog.elem 26)) := by kernel_rfl
  have hz : (sizeOf (Tryd.prog.elem 26)).run Tryd.prog W = .ok 3 W := by kernel_rfl
  have hc : n ≤ cap ∧ ((cap = 0) ∨ ∃ g, ao = some ⟨g, 0, none⟩) := by
    rcases h with ⟨h0, _, ao', e⟩ | ⟨h0, h⟩
    · simp only [Value.slice.injEq] at e
      exact ⟨by omega, .inl e.2.2⟩
    · rcases h.2 with ⟨_, h1⟩ | ⟨g, cap', cur, e, _, _, hc, _⟩
      · omega
      · simp only [Value.slice.injEq, true_and] at e
        obtain ⟨rfl, rfl⟩ := e
        exact ⟨hc, .inr ⟨g, rfl⟩⟩
  rw [run_sliceAt_slice _ _ _ _ _ _ hu, run_slice_h _ _ _ _ _ hu .i64 (k : Int) (by omega) (by omega), hz]
  simp only [Result.andThen, sliced, Int.toNat_natCast, Nat.sub_zero]
  rcases hc.2 with h0 | ⟨g, rfl⟩
  · rw [if_pos h0]
  · split
    · rfl
    · simp [Addr.add]
end Go.Proofs.YtefnapcegeojoaaDoor

namespace Go.Proofs.YtefnapcegeojoaaDoor
open Go.RowKit
set_option linter.unusedVariables false

theorem mk64 : ∃ ME : Array Value, (∀ W : World, (Instr.makeSlice 29 (.int .i64 64) (.int .i64 64)).run Tryd.prog W = .ok (.slice (some ⟨W.heap.size, 0, none⟩) 64 64) (W.alloc (.cells ME 9))) ∧ ∀ W : World, Ss (W.alloc (.cells ME 9)) (some ⟨W.heap.size, 0, none⟩) e64 := by
  obtain ⟨i0, hi, hz0, hz1, hz2⟩ := info_parts info9'
  refine ⟨madeCells #[Value.string ⟨#[]⟩] 64, fun W => ?_, fun W => ?_⟩
  · have := run_make (P := Tryd.prog) W 29 9 i0 (.string ⟨#[]⟩) Tryd.underlying29 hi hz0 .i64 .i64 64 64 (by omega) (by omega) (by rw [hz2]; decide) (by omega)
    rw [hz1] at this
    exact this
  · have h := World.ownsRow_lit (base := W.heap.size) (e := 9) (size := 1) W (madeCells #[Value.string ⟨#[]⟩] 64) 64 (Nat.le_refl _) (by unfold maxLen; omega) (size_madeCells _ _)
    exact ownS (noSs_own h) (fun s hs => by rw [List.eq_of_mem_replicate hs]; unfold maxLen; decide)
theorem VarD.new2 (w : World) (o : Obj) : VarD ((w.alloc o).alloc (.cells #[.slice none 0 0, .slice none 0 0] 32)) (w.heap.size + 1) (.slice none 0 0) (.slice none 0 0) := by
  have := VarD.new (w.alloc o) (.slice none 0 0) (.slice none 0 0)
  rw [World.size_alloc] at this
  exact this
theorem Ss.new2 {ME : Array Value} (h : ∀ W : World, Ss (W.alloc (.cells ME 9)) (some ⟨W.heap.size, 0, none⟩) e64) (w : World) (o : Obj) : Ss ((w.alloc o).alloc (.cells ME 9)) (some ⟨w.heap.size + 1, 0, none⟩) e64 := by
  have := h (w.alloc o)
  rw [World.size_alloc] at this
  exact this
theorem ss_drew {w : World} {ao : Option Addr} {ss : List ByteArray} (h : Ss w ao ss) : Ss w.drew ao ss := h.below (Below.refl _ _).drew
theorem varD_drew {w : World} {C : Nat} {a b : Value} (h : VarD w C a b) : VarD w.drew C a b := h.below (Below.refl _ _).drew
end Go.Proofs.YtefnapcegeojoaaDoor

namespace Go.Proofs.YtefnapcegeojoaaDoor
open Go.RowKit
set_option linter.unusedVariables false
set_option maxRecDepth 100000

set_option maxHeartbeats 1600000 in
theorem text_any (u : Up) (w : World) (hd : upB u = true) : Calls Tryd.prog 60 #[uV u] w fun e w' => e = .returned (.string (encU u)) ∧ Below w.heap.size w w' := by
  have HD := hide (u1_seal hd)
  have hs1 : (sealS 8 [u.at_]).size = 8 := sealS_size 8 [u.at_]
  have hs2 : u.data.size ≤ 72 := (upB_iff.1 hd).2
  have HV := hide ((VarU.new w 42 u).below (Joins.below_alloc1 _ (.cells #[.int .i64 u.at_] 3)))
  clear hd
  go_enter Tryd.func60, Tryd.ntmps60
  go_wp2_with fail
  refine (sealRecord_impl 8 _ 1 [u.at_] _ (by simp) (is1 _ _ _ _ (by simp))).mono ?_
  rintro e w1 ⟨rfl, hb⟩
  have HB := hide hb
  obtain ⟨c0, c1⟩ := ((unhide HV).below hb).cells
  clear hb
  rw [(unhide HD).1, (unhide HD).2]
  go_wp2
  go_ret
  exact ⟨rfl, fr (Joins.below_alloc2 _ _ _) (unhide HB)⟩

end Go.Proofs.YtefnapcegeojoaaDoor

namespace Go.Proofs.YtefnapcegeojoaaDoor
open Go.RowKit
set_option linter.unusedVariables false
set_option maxRecDepth 100000

set_option maxHeartbeats 3200000 in
theorem grow_nil (n : Nat) (w : World) (h0 : 0 < n) (hn : n ≤ 100) :
    Calls Tryd.prog 58 #[.slice none 0 0, .int .i64 n] w fun e w' => ∃ g G, e = .returned (.slice (some ⟨g, 0, none⟩) 0 G) ∧ w'.ownsRow w.heap.size 57 3 (.slice (some ⟨g, 0, none⟩) 0 G) 0 [] ∧ Below w.heap.size w w' := by
  obtain ⟨i0, hi, hz0, hz1, hz2⟩ := info_parts infoMx
  have h1 : ¬ ((n : Int) < 0) := by omega
  have h4 : (n : Int) > 0 := by omega
  have hrz : ∀ ty, (Builtin.append_ #[26, 3] ty #[.slice none 0 0, .int .i64 (n : Int)]).run Tryd.prog w =
      .ok (.slice (some ⟨w.heap.size, 0, none⟩) n (grownCap w n 0 57)) (w.drew.alloc (.cells (Builtin.zeroCells (Value.agg #[.int .i64 0, .int .i64 0, .string ⟨#[]⟩]).cells n ++ Builtin.zeroCells (Value.agg #[.int .i64 0, .int .i64 0, .string ⟨#[]⟩]).cells (grownCap w n 0 57 - n)) 57)) := fun ty => by
    have h := Lib.run_append_grow_zeros w 26 3 ty 57 i0 _ .i64 .i64 Tryd.underlying26 Tryd.underlying3 hi hz0 none 0 0 [] (run_firstCells_none w.drew i0.size 0 0 0) n h0 (by rw [hz1]; omega) (by omega) (by omega) (by rw [hz2]; omega) (growslice_fits (by omega) (by rw [hz2]; omega))
    simpa using h
  have hGn : n ≤ grownCap w n 0 57 := grownCap_ge w _ _ _
  have hGm : grownCap w n 0 57 ≤ maxLen := grownCap_le_maxLen w n 0 57 (by unfold maxLen; omega)
  obtain ⟨G, hG⟩ : ∃ G, G = grownCap w n 0 57 := ⟨_, rfl⟩
  rw [← hG] at hrz hGn hGm
  obtain ⟨Z, hZ⟩ : ∃ Z, Z = Builtin.zeroCells (Value.agg #[.int .i64 0, .int .i64 0, .string ⟨#[]⟩]).cells n ++ Builtin.zeroCells (Value.agg #[.int .i64 0, .int .i64 0, .string ⟨#[]⟩]).cells (G - n) := ⟨_, rfl⟩
  have hZs : Z.size = G * 3 := by rw [hZ, Array.size_append, size_zeroCells, size_zeroCells, show (Value.agg #[.int .i64 0, .int .i64 0, .string ⟨#[]⟩]).cells.size = 3 from rfl]; omega
  rw [← hZ] at hrz
  have HO : Hid ((w.drew.alloc (.cells Z 57)).ownsRow w.heap.size 57 3 (.slice (some ⟨w.heap.size, 0, none⟩) 0 G) 0 []) := hide ⟨rfl, .inr ⟨w.heap.size, G, Z, rfl, Nat.le_refl _, heap_alloc_new w.drew _, Nat.zero_le _, hGm, hZs, by simp⟩⟩
  have hG63 : (G : Int) ≤ 9223372036854775807 := by unfold maxLen at hGm; omega
  have HR := hide hrz
  clear hG hZ hZs hrz hGm
  go_enter Tryd.func58, Tryd.ntmps58
  go_wp2_with (at_builtin; refine Lib.wpList_append_run _ rfl _ _ _ _ rfl _ _ rfl rfl _ _ (unhide HR _) ?_)
  go_ret
  exact ⟨_, _, rfl, unhide HO, belowAl (Below.refl _ _).drew _⟩

def catL (ps : List Part) : List Wr := ps.flatMap fun q => q.ws
theorem catL_succ {ps : List Part} {k : Nat} (h : k < ps.length) : catL (ps.take (k + 1)) = catL (ps.take k) ++ ps[k].ws := by
  unfold catL
  rw [List.take_succ_eq_append_getElem h, List.flatMap_append]
  simp only [List.flatMap_cons, List.flatMap_nil, List.append_nil]
theorem owns_ge {w : World} {B e size g n cap : Nat} {xs : List Value} (h : w.ownsRow B e size (.slice (some ⟨g, 0, none⟩) n cap) n xs) : B ≤ g := by
  rcases h.2 with ⟨e0, _⟩ | ⟨g', cap', cur, e0, hB, _⟩
  · cases e0
  · cases e0; exact hB

set_option maxHeartbeats 3200000 in
theorem concat_any (p cap : Nat) (ps : List Part) (w : World) (hl : ps.length ≤ 2) (h0 : 0 < ps.length) (hp : Parts w p ps) :
    Calls Tryd.prog 35 #[.slice (some ⟨p, 0, none⟩) ps.length cap] w fun e w' => ∃ qo n qa, e = .returned (.slice qo n qa) ∧ ApS w w' qo n qa (catL ps) := by
  have HP := hide hp
  clear hp
  obtain ⟨i0, hi, hz0, hz1, hz2⟩ := info_parts infoMx
  go_enter Tryd.func35, Tryd.ntmps35
  go_wp2
  go_loopw [3, 11] (fun s i wr => ∃ (k n : Nat), k ≤ ps.length ∧ i = .int .i64 k ∧ s = .int .i64 n ∧ n ≤ k * 20 ∧ Hid (0 < k → 0 < n) ∧ Hid (Below w.heap.size w wr)) (fun _ i _ => ps.length - (intOf i).toNat)
  case atStart => exact ⟨0, 0, Nat.zero_le _, rfl, rfl, Nat.zero_le _, hide (fun h => absurd h (Nat.lt_irrefl _)), hide (Below.refl _ _)⟩
  case round =>
    obtain ⟨k, n, hk, rfl, rfl, hn, HN, HB⟩ := hrel
    by_cases hlt : k < ps.length
    · obtain ⟨hc, hios, hp0, hp5⟩ := unhide HP k hlt
      have hcr := ((unhide HB).cell (p := ⟨p, k, none⟩) (World.block_lt_of_cell? _ _ hc)).trans hc
      obtain ⟨M, hM⟩ : ∃ M, M = ps[k].ws.length := ⟨_, rfl⟩
      rw [← hM] at hcr hp0 hp5
      clear hios hM hc
      have hq : k * 20 ≤ 40 := by omega
      have hng : ¬ ((n : Int) + (M : Int) < 0) := by omega
      have wr1 : IntKind.i64.wrap ((n : Int) + (M : Int)) = (n : Int) + (M : Int) := by rw [IntKind.wrap_i64]; omega
      go_wp2
      go_roundw
      case rel => exact ⟨k + 1, n + M, by omega, by go_num, by go_num, by omega, hide (fun _ => by omega), HB⟩
      case measure => simp [intOf]; omega
    · have hke : k = ps.length := by omega
      have hn0 : 0 < n := unhide HN (by omega)
      have hq : k * 20 ≤ 40 := by omega
      go_wp2_with fail
      refine (grow_nil n _ hn0 (by omega)).mono ?_
      rintro e w1 ⟨g1, G1, rfl, ho, hb⟩
      have HO : Hid (w1.ownsRow w.heap.size 57 3 (.slice (some ⟨g1, 0, none⟩) 0 G1) 0 (ioV (catL (ps.take 0)))) := hide (own_base ho (unhide HB).size)
      have HB1 := hide (fr (unhide HB) hb)
      clear ho hb
      go_wp2
      go_loopw [6, 27] (fun o i wr' => ∃ (j g m qa : Nat), j ≤ ps.length ∧ i = .int .i64 j ∧ o = .slice (some ⟨g, 0, none⟩) m qa ∧ m ≤ j * 20 ∧ Hid (wr'.ownsRow w.heap.size 57 3 (.slice (some ⟨g, 0, none⟩) m qa) m (ioV (catL (ps.take j)))) ∧ Hid (0 < j → 0 < m) ∧ Hid (Below w.heap.size w wr')) (fun _ i _ => ps.length - (intOf i).toNat)
      case atStart => exact ⟨0, g1, 0, G1, Nat.zero_le _, rfl, rfl, Nat.zero_le _, HO, hide (fun h => absurd h (Nat.lt_irrefl _)), HB1⟩
      case round =>
        obtain ⟨j, g, m, qa, hj, rfl, rfl, hm, HO, HM0, HB⟩ := hrel
        by_cases hlt2 : j < ps.length
        · obtain ⟨hc, hios, hp0, hp5⟩ := unhide HP j hlt2
          have hcr := ((unhide HB).cell (p := ⟨p, j, none⟩) (World.block_lt_of_cell? _ _ hc)).trans hc
          have HI := hide ((hios.below (unhide HB)).src hp0)
          have HL : Hid ((ioV ps[j].ws).length = ps[j].ws.length * 3) := hide (ioV_length _)
          have HG := hide (owns_ge (unhide HO))
          have HSZ := hide (unhide HB).size
          obtain ⟨M, hM⟩ : ∃ M, M = ps[j].ws.length := ⟨_, rfl⟩
          rw [← hM] at hcr hp0 hp5 HL
          clear hios hM hc
          have hq2 : j * 20 ≤ 40 := by omega
          go_wp2_with (at_builtin; refine wpList_append_room rfl _ _ 26 rfl w.heap.size 57 i0 (.agg #[.int .i64 0, .int .i64 0, .string ⟨#[]⟩]) 3 32 Tryd.underlying26 hi hz0 hz1 hz2 rfl (by omega) g m qa (ioV (catL (ps.take j))) rfl (unhide HO) (unhide HSZ) ps[j].ao M ps[j].cap (ioV ps[j].ws) rfl hp0 (unhide HL) (fun _ => unhide HI) (ioV_one _) (by unfold maxLen; omega) (by omega) ?_; intro g2 cap2 wA hoA hkA; have HO2 : Hid (wA.ownsRow w.heap.size 57 3 (.slice (some ⟨g2, 0, none⟩) (m + M) cap2) (m + M) (ioV (catL (ps.take (j + 1))))) := hide (by rw [catL_succ hlt2, ioV_append]; exact hoA); have HB2 := hide (belowKp (unhide HB) hkA (fun q hq => by rw [hq]; exact unhide HG)); clear hoA hkA)
          go_roundw
          case rel => exact ⟨j + 1, g2, m + M, cap2, by omega, by go_num, rfl, by omega, HO2, hide (fun _ => by omega), HB2⟩
          case measure => simp [intOf]; omega
        · have hje : j = ps.length := by omega
          have hm0 : 0 < m := unhide HM0 (by omega)
          have HF : Hid (ApS w wr (some ⟨g, 0, none⟩) m qa (catL ps)) := hide ⟨.inr ⟨hm0, by have := unhide HO; rwa [List.take_of_length_le (by omega)] at this⟩, unhide HB⟩
          go_wp2
          go_ret
          exact ⟨_, _, _, rfl, unhide HF⟩

set_option maxHeartbeats 3200000 in
theorem texts_any (slot seq : Int) (ao : Option Addr) (cap : Nat) (us : List Up) (w : World) (hsl : 0 ≤ slot ∧ slot ≤ 1000) (hl : us.length ≤ 5) (hub : upsB us = true) (hu : Ups w ao us) :
    Calls Tryd.prog 37 #[jV slot seq ao us.length cap] w fun e w' => ∃ qo qa, e = .returned (.slice qo us.length qa) ∧ ApS w w' qo us.length qa (txL slot us) := by
  have HU := hide hu
  have HUB := hide hub
  clear hu hub
  obtain ⟨i0, hi, hz0, hz1, hz2⟩ := info_parts infoMx
  have HV := hide (VarJ.new w 51 slot seq (.slice ao us.length cap))
  have HVA := hide (Joins.below_alloc1 w (.cells #[.int .i64 slot, .int .i64 seq, .slice ao us.length cap] 51))
  have H0 : Hid (ApS w (w.alloc (.cells #[.int .i64 slot, .int .i64 seq, .slice ao us.length cap] 51)) none 0 0 [] ∧ Below (w.alloc (.cells #[.int .i64 slot, .int .i64 seq, .slice ao us.length cap] 51)).heap.size (w.alloc (.cells #[.int .i64 slot, .int .i64 seq, .slice ao us.length cap] 51)) (w.alloc (.cells #[.int .i64 slot, .int .i64 seq, .slice ao us.length cap] 51))) := hide ⟨⟨.inl ⟨rfl, rfl, _, rfl⟩, Joins.below_alloc1 _ _⟩, Below.refl _ _⟩
  go_enter Tryd.func37, Tryd.ntmps37
  go_wp2
  go_loopw [3, 9] (fun o i wr => ∃ (k : Nat) (qo : Option Addr) (qa : Nat), k ≤ us.length ∧ i = .int .i64 k ∧ o = .slice qo k qa ∧ Hid (ApS w wr qo k qa ((txL slot us).take k)) ∧ Hid (VarJ wr w.heap.size 51 slot seq (.slice ao us.length cap))) (fun _ i _ => us.length - (intOf i).toNat)
  case atStart => exact ⟨0, _, _, Nat.zero_le _, rfl, rfl, hide (unhide H0).1, HV⟩
  case round =>
    obtain ⟨k, qo, qa, hk, rfl, rfl, HA, HJ⟩ := hrel
    by_cases hlt : k < us.length
    · obtain ⟨b, off, rfl, hc0, hc1, hcz⟩ := (unhide HU).below (unhide HA).k k hlt
      have hbl := World.block_lt_of_cell? _ _ hc0
      have HUP := hide (upsB_at (unhide HUB) hlt)
      clear hcz
      have HAL := hide (Joins.below_alloc1 wr (.cells #[.int .i64 us[k].at_, .string us[k].data] 42))
      have HU1 := hide (VarU.new wr 42 us[k])
      have HA1 := hide ((unhide HA).next (unhide HAL))
      have HJ1 := hide ((unhide HJ).below (unhide HAL))
      obtain ⟨u0, u1⟩ := (unhide HU1).cells
      obtain ⟨j0, j1, j2⟩ := (unhide HJ1).cells
      have hjl := (unhide HJ).lt
      go_wp2
      go_region_held3 (fun w' => w'.cell? ⟨wr.heap.size, 0, none⟩ = some (.int .i64 us[k].at_) ∧ w'.cell? ⟨wr.heap.size, 1, none⟩ = some (.string us[k].data) ∧ w'.cell? ⟨w.heap.size, 0, none⟩ = some (.int .i64 slot) ∧ w'.cell? ⟨w.heap.size, 1, none⟩ = some (.int .i64 seq) ∧ w'.cell? ⟨w.heap.size, 2, none⟩ = some (.slice (some ⟨b, off, none⟩) us.length cap)) (go_keep)
        (first
          | (go_at_call 49; refine (place_any slot seq _ us.length cap k _ hsl (by omega)).mono ?_; rintro e w2 ⟨rfl, hb⟩; have HB2 := hide (fr (Below.refl _ _).drew hb); have HA2 := hide ((unhide HA1).next (unhide HB2)); have HJ2 := hide ((unhide HJ1).below (unhide HB2)); have HU2 := hide ((unhide HU1).below (unhide HB2)); obtain ⟨v0, v1⟩ := (unhide HU2).cells; obtain ⟨q0, q1, q2⟩ := (unhide HJ2).cells; clear hb)
          | (go_at_call 60; refine (text_any us[k] _ (unhide HUP)).mono ?_; rintro e w3 ⟨rfl, hb⟩; have HA3 := hide ((unhide HA2).next hb); have HJ3 := hide ((unhide HJ2).below hb); have HU3 := hide ((unhide HU2).below hb); obtain ⟨x0, x1⟩ := (unhide HU3).cells; obtain ⟨y0, y1, y2⟩ := (unhide HJ3).cells; have HAA := hide ((unhide HA3).next (Joins.below_alloc1 w3 (.cells #[.int .i64 1, .int .i64 (slot + 1 + (k : Int)), .string (encU us[k])] 57))); have HSZ := hide (unhide HAA).sz; have HJA := hide ((unhide HJ3).below (Joins.below_alloc1 w3 (.cells #[.int .i64 1, .int .i64 (slot + 1 + (k : Int)), .string (encU us[k])] 57))); have HUA := hide ((unhide HU3).below (Joins.below_alloc1 w3 (.cells #[.int .i64 1, .int .i64 (slot + 1 + (k : Int)), .string (encU us[k])] 57))); have hl1 := (unhide HU3).lt; have hl2 := (unhide HJ3).lt; clear hb)
          | (refine (step_append_at rfl (.tmp 14) (.tmp 21) 26 rfl w.heap.size 57 i0 (.agg #[.int .i64 0, .int .i64 0, .string ⟨#[]⟩]) 3 32 Tryd.underlying26 hi hz0 hz1 hz2 ?_ ?_ qo k qa (ioV ((txL slot us).take k)) ?_ ?_ ?_ (wrV (mvT slot k us[k])) ?_ ?_ ?_ ?_ ?_ ?_)
             · rfl
             · omega
             · rfl
             · exact (unhide HAA).o
             · exact unhide HSZ
             · exact ⟨_, _, rfl, news3 w3 (mvT slot k us[k]) _⟩
             · rfl
             · exact wrV_one _
             · unfold maxLen; omega
             · omega
             intro g2 cap2 wA hoA hkA
             have HN := hide (ApS.one (unhide HAA) hoA hkA)
             have HJN : Hid (VarJ wA w.heap.size 51 slot seq (.slice (some ⟨b, off, none⟩) us.length cap)) := hide (by unfold VarJ; rw [hkA.block _ (unhide HJA).lt ((unhide HAA).o.other (unhide HJA) (by decide))]; exact unhide HJA)
             have HUN : Hid (VarU wA wr.heap.size 42 us[k]) := hide (by unfold VarU; rw [hkA.block _ (unhide HUA).lt ((unhide HAA).o.other (unhide HUA) (by decide))]; exact unhide HUA)
             obtain ⟨z0, z1⟩ := (unhide HUN).cells
             obtain ⟨t0, t1, t2⟩ := (unhide HJN).cells
             clear hoA hkA))
      all_goals
        go_wp2
        go_roundw
        case rel => exact ⟨k + 1, _, _, by omega, by go_num, rfl, hide (by rw [txL_take hlt]; exact unhide HN), HJN⟩
        case measure => simp [intOf]; omega
    · have hke : k = us.length := by omega
      subst hke
      have HA1 : Hid (ApS w wr qo us.length qa (txL slot us)) := hide (by have := unhide HA; rwa [txL_done (Nat.le_refl _)] at this)
      go_wp2
      go_ret
      exact ⟨_, _, rfl, unhide HA1⟩

end Go.Proofs.YtefnapcegeojoaaDoor

namespace Go.Proofs.YtefnapcegeojoaaDoor
open Go.RowKit
set_option linter.unusedVariables false
set_option maxRecDepth 100000

theorem slN_inI {h : Int} (hh : inB h 0 3 = true) : 0 ≤ slN h ∧ slN h ≤ 1000 := by
  have : 0 ≤ h ∧ h ≤ 3 := by simpa [inB] using hh
  unfold slN; omega
theorem bg_parts (slot seq : Int) (us : List Up) (po qo : Option Addr) (pa qa : Nat) : plM [⟨po, pa, txL slot us⟩, ⟨qo, qa, [mvH slot us.length seq]⟩] = bgL slot seq us := by simp [plM, bgL]
theorem pl_parts (slot seq : Int) (us : List Up) (h : us.length ≠ 0) (po qo : Option Addr) (pa qa : Nat) : catL [⟨po, pa, bgL slot seq us⟩, ⟨qo, qa, apL slot seq us⟩] = plL slot seq us := by
  rw [plL, if_neg h]; simp [catL]
theorem ApS.ios {w W : World} {qo : Option Addr} {n qa : Nat} {ms : List Wr} (h : ApS w W qo n qa ms) (hz : short ms) : Ios W qo ms := by
  have e := h.len
  subst e
  exact ownMv h.o hz.sizes
theorem parts_two_of (w : World) (n : Nat) (t : TypeId) (p q : Part) (m k : Nat) (hm : m = p.ws.length) (hk : k = q.ws.length) (hn : w.heap.size = n) (hp : Ios w p.ao p.ws) (hp0 : 0 < m ∧ m ≤ 20) (hq : Ios w q.ao q.ws) (hq0 : 0 < k ∧ k ≤ 20) :
    Parts (w.alloc (.cells #[.slice p.ao m p.cap, .slice q.ao k q.cap] t)) n [p, q] := by
  subst hm hk
  exact parts_two w n t p q hn ⟨hp, hp0⟩ ⟨hq, hq0⟩
theorem planOf_two (p cap : Nat) (a b : Part) (w : World) (hp : Parts w p [a, b]) :
    Calls Tryd.prog 36 #[.slice (some ⟨p, 0, none⟩) 2 cap] w fun e w' => ∃ qo n qa, e = .returned (.slice qo n qa) ∧ ApS w w' qo n qa (plM [a, b]) := planOf_any p cap [a, b] w (by simp) hp
theorem concat_two (p cap : Nat) (a b : Part) (w : World) (hp : Parts w p [a, b]) :
    Calls Tryd.prog 35 #[.slice (some ⟨p, 0, none⟩) 2 cap] w fun e w' => ∃ qo n qa, e = .returned (.slice qo n qa) ∧ ApS w w' qo n qa (catL [a, b]) := concat_any p cap [a, b] w (by simp) (by simp) hp

set_option maxHeartbeats 6400000 in
theorem toBegin_any (slot seq : Int) (ao : Option Addr) (cap : Nat) (us : List Up) (w : World) (hsl : 0 ≤ slot ∧ slot ≤ 1000) (hl : us.length ≤ 5) (hs : numB seq = true) (hub : upsB us = true) (hu : Ups w ao us) :
    Calls Tryd.prog 19 #[jV slot seq ao us.length cap] w fun e w' => ∃ qo n qa, e = .returned (.slice qo n qa) ∧ ApS w w' qo n qa (plL slot seq us) := by
  have HA := hide (Joins.below_alloc1 w (.cells #[.int .i64 slot, .int .i64 seq, .slice ao us.length cap] 51))
  have HV := hide (VarJ.new w 51 slot seq (.slice ao us.length cap))
  by_cases h0 : us.length = 0
  · have hb0 : (((us.length : Nat) : Int) == 0) = true := by simp [h0]
    have HE : Hid (plL slot seq us = []) := hide (if_pos h0)
    clear h0 hs hu hub
    go_enter Tryd.func19, Tryd.ntmps19
    go_wp2
    go_ret
    exact ⟨_, _, _, rfl, by rw [unhide HE]; exact ⟨.inl ⟨rfl, rfl, _, rfl⟩, unhide HA⟩⟩
  have hb0 : (((us.length : Nat) : Int) == 0) = false := by rw [beq_eq_false_iff_ne]; omega
  have hp0 : 0 < us.length := by omega
  have HS := hide hs
  have HU := hide hu
  have HUB := hide hub
  have HPL := hide (pl_parts slot seq us h0)
  have HRP : Hid (rpL slot seq us = apL slot seq us) := hide (if_neg h0)
  clear hs hu hub h0
  obtain ⟨c0, c1, c2⟩ := (unhide HV).cells
  go_enter Tryd.func19, Tryd.ntmps19
  go_wp2
  go_region_held3 (fun w' => w'.cell? ⟨w.heap.size, 0, none⟩ = some (.int .i64 slot) ∧ w'.cell? ⟨w.heap.size, 1, none⟩ = some (.int .i64 seq) ∧ w'.cell? ⟨w.heap.size, 2, none⟩ = some (.slice ao us.length cap)) (go_keep)
    (first
      | (go_at_call 37; refine (texts_any slot seq ao cap us _ hsl hl (unhide HUB) (by exact ((unhide HU).below (unhide HA)).below (Below.refl _ _).drew)).mono ?_; rintro e w2 ⟨po, pa, rfl, hap⟩; have HB2 := hide (fr (Below.refl _ _).drew hap.k); have HI2 := hide (hap.ios (short_tx (unhide HUB))); obtain ⟨d0, d1, d2⟩ := ((unhide HV).below (unhide HB2)).cells; clear hap)
      | (go_at_call 38; refine (head_any slot seq ao us.length cap us.length _ (by omega) (unhide HS)).mono ?_; rintro e w3 ⟨qo, rfl, hi3, hb3⟩; have HB3 := hide (fr (unhide HB2) hb3); have HI3 := hide hi3; have HI23 := hide ((unhide HI2).below hb3); obtain ⟨e0, e1, e2⟩ := ((unhide HV).below (unhide HB3)).cells; have hlt3 := ((unhide HV).below (unhide HB3)).lt; clear hi3 hb3)
      | (go_at_call 36; refine (planOf_two w3.heap.size 2 ⟨po, pa, txL slot us⟩ ⟨qo, 1, [mvH slot us.length seq]⟩ _ (by exact parts_two_of w3 w3.heap.size 26 ⟨po, pa, txL slot us⟩ ⟨qo, 1, [mvH slot us.length seq]⟩ us.length 1 (txL_length slot us).symm rfl rfl (unhide HI23) (by omega) (unhide HI3) (by omega))).mono ?_; rintro e w4 ⟨ro, rn, ra, rfl, hap⟩; rw [bg_parts] at hap; have HB4 := hide (fr (unhide HB3) (fr (Joins.below_alloc1 _ _) hap.k)); have HI4 := hide (hap.ios (short_bg (unhide HUB))); have HN4 := hide (hap.len.trans (bgL_length _ _ _)); obtain ⟨f0, f1, f2⟩ := ((unhide HV).below (unhide HB4)).cells; clear hap)
      | (go_at_call 27; refine (toApply_any slot seq ao cap us _ hl (fun _ => unhide HS) (unhide HUB) (by exact ((unhide HU).below (unhide HA)).below (unhide HB4))).mono ?_; rintro e w5 ⟨so, sn, sa, rfl, hap⟩; rw [unhide HRP] at hap; have HB5 := hide (fr (unhide HB4) hap.k); have HI45 := hide ((unhide HI4).below hap.k); have HI5 := hide (hap.ios (short_ap (unhide HUB))); have HN5 := hide (hap.len.trans (apL_length _ _ _)); obtain ⟨g0, g1, g2⟩ := ((unhide HV).below (unhide HB5)).cells; have hlt5 := ((unhide HV).below (unhide HB5)).lt; clear hap)
      | (go_at_call 35; refine (concat_two w5.heap.size 2 ⟨ro, ra, bgL slot seq us⟩ ⟨so, sa, apL slot seq us⟩ _ (by exact parts_two_of w5 w5.heap.size 26 ⟨ro, ra, bgL slot seq us⟩ ⟨so, sa, apL slot seq us⟩ rn sn ((unhide HN4).trans (bgL_length _ _ _).symm) ((unhide HN5).trans (apL_length _ _ _).symm) rfl (unhide HI45) (by have := unhide HN4; omega) (unhide HI5) (by have := unhide HN5; omega))).mono ?_; rintro e w6 ⟨tq, tn, ta, rfl, hap⟩; rw [unhide HPL] at hap; have HB6 := hide (fr (unhide HB5) (fr (Joins.below_alloc1 _ _) hap.k)); have HAP := hide hap; obtain ⟨h0, h1, h2⟩ := ((unhide HV).below (unhide HB6)).cells; clear hap))
  all_goals
    have HF : Hid (ApS w w6 tq tn ta (plL slot seq us)) := hide ⟨(unhide HAP).o.base (by have h1 := (unhide HB5).size; have h2 := (unhide HA).size; simp at h1 ⊢; omega), fr (unhide HA) (unhide HB6)⟩
    go_wp2
    go_ret
    exact ⟨_, _, _, rfl, unhide HF⟩

set_option maxHeartbeats 1600000 in
theorem updatesFault_any (seq : Int) (ao : Option Addr) (cap : Nat) (us : List Up) (w : World) (hl : us.length ≤ 4096) (hu : Ups w ao us) :
    Calls Tryd.prog 18 #[.int .i64 seq, .slice ao us.length cap] w fun e w' => e = .returned (.int .i64 (if numB seq = false then 4 else fuC us)) ∧ Below w.heap.size w w' := by
  have HU := hide hu
  clear hu
  by_cases h3 : numB seq = false
  · rw [if_pos h3]
    go_enter Tryd.func18, Tryd.ntmps18
    go_wp2_with fail
    refine (isNumber_any seq _).mono ?_
    rintro e w1 ⟨rfl, rfl⟩
    rw [h3]
    go_wp2
    go_ret
    exact ⟨rfl, Below.refl _ _⟩
  rw [if_neg h3]
  rw [Bool.not_eq_false] at h3
  by_cases h5 : 5 < us.length
  · have HF := hide (fuC_many h5)
    go_enter Tryd.func18, Tryd.ntmps18
    go_wp2_with fail
    refine (isNumber_any seq _).mono ?_
    rintro e w1 ⟨rfl, rfl⟩
    rw [h3]
    go_wp2
    go_ret
    exact ⟨ret_int (unhide HF).symm, Below.refl _ _⟩
  go_enter Tryd.func18, Tryd.ntmps18
  go_wp2_with fail
  refine (isNumber_any seq _).mono ?_
  rintro e w1 ⟨rfl, hw⟩
  replace hw := hw.symm
  subst hw
  rw [h3]
  go_wp2
  go_loopw [15] (fun i wr => ∃ (k : Nat), k ≤ us.length ∧ i = .int .i64 k ∧ Hid (∀ j (h : j < us.length), j < k → upB us[j] = true) ∧ Hid (Below w.heap.size w wr)) (fun i _ => us.length - (intOf i).toNat)
  case atStart => exact ⟨0, Nat.zero_le _, rfl, hide (fun j h hj => by omega), hide (Below.refl _ _)⟩
  case round =>
    obtain ⟨k, hk, rfl, HP, HB⟩ := hrel
    by_cases hlt : k < us.length
    · obtain ⟨b, off, rfl, hc0, hc1, hcz⟩ := (unhide HU).below (unhide HB) k hlt
      have hbl := World.block_lt_of_cell? _ _ hc0
      have HZ := hide hcz
      clear hcz
      go_wp2_with fail
      refine (updateOK_any us[k] _ (unhide HZ)).mono ?_
      rintro e w2 ⟨rfl, hb⟩
      have HB2 := hide (fr (belowAl (unhide HB) _) hb)
      clear hb
      by_cases hp : upB us[k] = true
      · have HPP := hide (all_succ hlt (unhide HP) hp)
        go_wp2
        go_roundw
        case rel => exact ⟨k + 1, by omega, by go_num, HPP, HB2⟩
        case measure => simp [intOf]; omega
      · rw [Bool.not_eq_true] at hp
        have HF := hide (fuC_bad h5 (all_not hlt hp))
        go_wp2
        go_ret
        exact ⟨ret_int (unhide HF).symm, unhide HB2⟩
    · have HF := hide (fuC_ok h5 (all_of (fun i hi _ => unhide HP i hi (by omega))))
      go_wp2
      go_ret
      exact ⟨ret_int (unhide HF).symm, unhide HB⟩

set_option maxHeartbeats 1600000 in
theorem journalPlan_impl (h seq : Int) (ao : Option Addr) (cap : Nat) (us : List Up) (w : World) (hl : us.length ≤ 1048576) (hu : Ups w ao us) :
    Calls Tryd.prog 7 #[.int .i64 h, .int .i64 seq, .slice ao us.length cap] w fun e w' => ∃ qo qa n, e = .returned (.tuple #[.slice qo n qa, .int .i64 (jpC h seq us)]) ∧ ApS w w' qo n qa (jpL h seq us) := by
  have HU := hide hu
  have H0 : Hid (∀ W, Below w.heap.size w W → ApS w W none 0 0 []) := hide (fun W hb => ⟨.inl ⟨rfl, rfl, _, rfl⟩, hb⟩)
  clear hu
  by_cases h1 : 4096 < us.length
  · have HE : Hid (jpC h seq us = 2) := hide (jpC_long h1)
    have HL := hide (jpL_no (show jpC h seq us ≠ 0 by rw [unhide HE]; decide))
    go_enter Tryd.func7, Tryd.ntmps7
    go_wp2
    go_ret2
    exact ⟨_, _, _, ret_ni rfl (unhide HE).symm, by rw [unhide HL]; exact unhide H0 _ (Below.refl _ _)⟩
  by_cases h2 : inB h 0 3 = false
  · have HE : Hid (jpC h seq us = 4) := hide (jpC_host h1 h2)
    have HL := hide (jpL_no (show jpC h seq us ≠ 0 by rw [unhide HE]; decide))
    have hsc : slC h = 4 := by simp [slC, h2]
    go_enter Tryd.func7, Tryd.ntmps7
    go_wp2_with fail
    refine (slotOf_impl h _).mono ?_
    rintro e w1 ⟨rfl, hw⟩
    replace hw := hw.symm
    subst hw
    rw [hsc]
    go_wp2
    go_ret2
    exact ⟨_, _, _, ret_ni rfl (unhide HE).symm, by rw [unhide HL]; exact unhide H0 _ (Below.refl _ _)⟩
  rw [Bool.not_eq_false] at h2
  have hsc : slC h = 0 := by simp [slC, h2]
  have hsr : slR h = slN h := by simp [slR, h2]
  obtain ⟨C, hC⟩ : ∃ C : Int, C = if numB seq = false then 4 else fuC us := ⟨_, rfl⟩
  have HQ : Hid (jpC h seq us = C) := hide (by
    rw [hC]
    by_cases h3 : numB seq = false
    · rw [if_pos h3]; exact jpC_seq h1 h2 h3
    · rw [if_neg h3]; rw [Bool.not_eq_false] at h3; exact jpC_list h1 h2 h3)
  have HF : Hid (∀ W, Ups W ao us → Calls Tryd.prog 18 #[.int .i64 seq, .slice ao us.length cap] W fun e w' => e = .returned (.int .i64 C) ∧ Below W.heap.size W w') := hide (fun W hW => by rw [hC]; exact updatesFault_any seq ao cap us W (by omega) hW)
  have H2 := hide (slN_inI h2)
  have HCQ := hide hC
  clear hC
  go_enter Tryd.func7, Tryd.ntmps7
  go_wp2_with fail
  refine (slotOf_impl h _).mono ?_
  rintro e w1 ⟨rfl, hw⟩
  replace hw := hw.symm
  subst hw
  rw [hsc, hsr]
  go_wp2_with fail
  refine (unhide HF _ (unhide HU)).mono ?_
  rintro e w1 ⟨rfl, hb⟩
  have HB := hide hb
  clear hb
  by_cases hc : C = 0
  · have hcb : (C != 0) = false := by simp [hc]
    have HC : Hid (jpC h seq us = 0) := hide ((unhide HQ).trans hc)
    have hC := unhide HCQ
    have h3 : numB seq = true := by
      rw [hc] at hC
      cases h3 : numB seq with
      | true => rfl
      | false => rw [if_pos h3] at hC; cases hC
    have hfu : fuC us = 0 := by rw [hc, if_neg (by simp [h3])] at hC; exact hC.symm
    obtain ⟨h5, hub⟩ := fuC_zero hfu
    have HUB := hide hub
    have H3 := hide h3
    have HL := hide (jpL_yes (unhide HC))
    clear hub hfu h3 hC
    go_wp2_with fail
    refine (toBegin_any (slN h) seq ao cap us _ (unhide H2) h5 (unhide H3) (unhide HUB) ((unhide HU).below (unhide HB))).mono ?_
    rintro e w2 ⟨qo, n, qa, rfl, ha⟩
    have HA : Hid (ApS w w2 qo n qa (plL (slN h) seq us)) := hide ⟨ha.o.base (unhide HB).size, fr (unhide HB) ha.k⟩
    clear ha
    go_wp2
    go_ret2
    exact ⟨_, _, _, ret_ni rfl (unhide HC).symm, by rw [unhide HL]; exact unhide HA⟩
  · have hcb : (C != 0) = true := by simp [hc]
    have HL := hide (jpL_no (show jpC h seq us ≠ 0 by rw [unhide HQ]; exact hc))
    clear hc
    go_wp2
    go_ret2
    exact ⟨_, _, _, ret_ni rfl (unhide HQ).symm, by rw [unhide HL]; exact unhide H0 _ (unhide HB)⟩

end Go.Proofs.YtefnapcegeojoaaDoor

namespace Go.Proofs.YtefnapcegeojoaaDoor
open Go.RowKit
set_option linter.unusedVariables false
set_option maxRecDepth 100000

end Go.Proofs.YtefnapcegeojoaaDoor

namespace Go.Proofs.YtefnapcegeojoaaDoor
open Go.RowKit
set_option linter.unusedVariables false
set_option maxRecDepth 100000

end Go.Proofs.YtefnapcegeojoaaDoor

namespace Go.Proofs.YtefnapcegeojoaaDoor
open Go.RowKit
set_option linter.unusedVariables false
set_option maxRecDepth 100000

end Go.Proofs.YtefnapcegeojoaaDoor

namespace Go.Proofs.YtefnapcegeojoaaDoor
open Go.RowKit
set_option linter.unusedVariables false
set_option maxRecDepth 100000

end Go.Proofs.YtefnapcegeojoaaDoor

namespace Go.Proofs.YtefnapcegeojoaaDoor
open Go.RowKit
set_option linter.unusedVariables false
set_option maxRecDepth 100000

end Go.Proofs.YtefnapcegeojoaaDoor

namespace Go.Proofs.YtefnapcegeojoaaDoor
open Go.RowKit
set_option linter.unusedVariables false
set_option maxRecDepth 100000

end Go.Proofs.YtefnapcegeojoaaDoor

namespace Go.Proofs.YtefnapcegeojoaaDoor
open Go.RowKit
set_option linter.unusedVariables false
set_option maxRecDepth 100000

end Go.Proofs.YtefnapcegeojoaaDoor

namespace Go.Proofs.YtefnapcegeojoaaDoor
open Go.RowKit
set_option linter.unusedVariables false

end Go.Proofs.YtefnapcegeojoaaDoor

namespace Go.Proofs.YtefnapcegeojoaaDoor
open Go.RowKit
set_option linter.unusedVariables false
set_option maxRecDepth 100000

structure DrS (w W : World) (b : Nat) (ao : Option Addr) (n cap m : Nat) (o : Obj) : Prop where
  s : SrcK W b ao n cap m
  k : Keep (fun k => k = b) w W
  r : W.heap[w.heap.size]? = some o
theorem DrS.new {w : World} {b : Nat} {ao : Option Addr} {n cap m : Nat} (hs : SrcK w b ao n cap m) (c : Array Value) (t : TypeId) : DrS w (w.alloc (.cells c t)) b ao n cap m (.cells c t (0, 0)) :=
  ⟨hs.below (Joins.below_alloc1 _ _), Keep.of_below (Joins.below_alloc1 _ _), heap_alloc_new w _⟩
theorem DrS.src {w W W' : World} {b : Nat} {ao : Option Addr} {n cap m m' : Nat} {o : Obj} (h : DrS w W b ao n cap m o) (hb : b < w.heap.size) (hs : SrcK W' b ao n cap m') (hk : Keep (fun k => k = b) W W') : DrS w W' b ao n cap m' o :=
  ⟨hs, h.k.trans hk, blk_keep hk (by omega) h.r⟩
end Go.Proofs.YtefnapcegeojoaaDoor
