import Derived.Test.YtmkegkpnomcnhabRows
import Derived.Test.YtmkegkpnomcnhabPart1
import Derived.Test.YtmkegkpnomcnhabPart2
import Derived.Test.YtmkegkpnomcnhabPart3
import Derived.Test.YtmkegkpnomcnhabPart4
import Derived.WalkKit
import Derived.WalkSpells
import Derived.Deep.RegionWith
import Derived.Deep.RegionLawGrows

/- The walk of laws.FnExactFormat, given what both functions answer. (Made ahead of stage 11; written by gens/lawfo.py.) -/
namespace Go.Proofs.Ytmkegkpnomcnhab
open Go.RowKit
set_option linter.unusedVariables false

theorem eqSameF (ao bo co do_ : Option Addr) (ca cb cc cd : Nat) (ss : List ByteArray) (xs : List Wr) (w : World) (hl : ss.length ≤ maxLen) (hm : xs.length ≤ maxLen) (h1 : Ss w ao ss) (h2 : Ios w bo xs) (h3 : Ss w co ss) (h4 : Ios w do_ xs) :
    Calls Try.prog 8 #[.agg #[.slice ao ss.length ca, .slice bo xs.length cb], .agg #[.slice co ss.length cc, .slice do_ xs.length cd]] w fun e w' => e = .returned (.bool true) ∧ Below w.heap.size w w' := by
  have h := eqDisk_any ao bo co do_ ca cb cc cd ss ss xs xs w hl hm h1 h2 h3 h4
  rw [eqB_self] at h
  exact h

set_option maxRecDepth 100000 in
set_option maxHeartbeats 3200000 in
theorem lawFormat (ao bo : Option Addr) (ca cb : Nat) (ss : List ByteArray) (xs : List Wr) (h k : Int) (RS : List ByteArray) (RX : List Wr) (RC : Int) (w : World) (hl : ss.length ≤ maxLen) (hm : xs.length ≤ maxLen) (hc : Ss w ao ss) (hd : Ios w bo xs) (_ : (Lit.int .i64 h).wf = true) (_ : (Lit.int .i64 k).wf = true)
    (hR : (∀ s ∈ RS, s.size ≤ maxLen) ∧ (∀ x ∈ RX, x.data.size ≤ maxLen) ∧ RS.length ≤ 2097152 ∧ RX.length ≤ 2097152)
    (hspec : ∀ (po qo : Option Addr) (pa qa : Nat) (W : World), Ss W po ss → Ios W qo xs → Calls Try.prog 5 #[.agg #[.slice po ss.length pa, .slice qo xs.length qa], .int .i64 h, .int .i64 k] W fun e w' => ∃ po pa qo qa, e = .returned (.tuple #[.agg #[.slice po RS.length pa, .slice qo RX.length qa], .int .i64 RC]) ∧ OwnD w' W.heap.size po RS.length pa qo RX.length qa RS RX ∧ Below W.heap.size W w')
    (himpl : ∀ (po qo : Option Addr) (pa qa : Nat) (W : World), Ss W po ss → Ios W qo xs → Calls Try.prog 7 #[.agg #[.slice po ss.length pa, .slice qo xs.length qa], .int .i64 h, .int .i64 k] W fun e w' => ∃ po pa qo qa, e = .returned (.tuple #[.agg #[.slice po RS.length pa, .slice qo RX.length qa], .int .i64 RC]) ∧ OwnD w' W.heap.size po RS.length pa qo RX.length qa RS RX ∧ Below W.heap.size W w') :
    Calls Try.prog 3 #[.agg #[.slice ao ss.length ca, .slice bo xs.length cb], .int .i64 h, .int .i64 k] w fun e w' => e = .returned (.bool true) ∧ Below w.heap.size w w' := by
  have HA := hide (Joins.below_alloc1 w (.cells #[.slice ao ss.length ca, .slice bo xs.length cb] 25))
  have HC := hide (hc.below (unhide HA))
  have HD := hide (hd.below (unhide HA))
  have HL := hide hl
  have HM := hide hm
  clear hc hd hl hm
  have HRS := hide hR.1
  have HRX := hide hR.2.1
  have HQS := hide hR.2.2.1
  have HQX := hide hR.2.2.2
  have HSP := hide hspec
  have HIM := hide himpl
  clear hR hspec himpl
  have hcell : ∀ w', Below (w.alloc (.cells #[.slice ao ss.length ca, .slice bo xs.length cb] 25)).heap.size (w.alloc (.cells #[.slice ao ss.length ca, .slice bo xs.length cb] 25)) w' → w'.cell? ⟨w.heap.size, 0, none⟩ = some (.slice ao ss.length ca) ∧ w'.cell? ⟨w.heap.size, 1, none⟩ = some (.slice bo xs.length cb) :=
    fun w' h => ⟨(h.cell (by simp)).trans (by simp [go_sem]), (h.cell (by simp)).trans (by simp [go_sem])⟩
  have HCELL := hide hcell
  clear hcell
  go_enter Try.func3, Try.ntmps3
  go_wp2_with fail
  refine (szDisk_any ao bo ca cb ss xs 1048576 _ (unhide HL) (unhide HM) (unhide HC) (unhide HD) (by omega) (by omega)).mono ?_
  rintro e w1 ⟨r, rfl, hr0, hr1, hr2, hb1⟩
  have HB1 := hide hb1
  clear hb1
  by_cases hr : r < 0
  · go_wp2
    go_ret
    exact ⟨rfl, fr (unhide HA) (unhide HB1)⟩
  have hq := hr2 (by omega)
  have hls : ss.length ≤ 1048576 := by omega
  have hlx : xs.length ≤ 1048576 := by omega
  clear hr2 hq
  have HZS := hide (unhide HC).sizes
  have HZX := hide (unhide HD).sizes
  have HMS : Hid (RS.length ≤ maxLen) := hide (Nat.le_trans (unhide HQS) (by decide))
  have HMX : Hid (RX.length ≤ maxLen) := hide (Nat.le_trans (unhide HQX) (by decide))
  obtain ⟨hc0, hc1⟩ := unhide HCELL _ (unhide HB1)
  -- a copy, and the model's answer, in a variable
  go_wp2_with fail
  refine (toDisk_any ao bo ca cb ss xs _ hls hlx ((unhide HC).below (unhide HB1)) ((unhide HD).below (unhide HB1))).mono ?_
  rintro e w2 ⟨g2, k2, rfl, ho, hp, hb2⟩
  have HS2 := hide (ownS ho (unhide HZS))
  have HX2 := hide (ownI hp (unhide HZX))
  have HB2 := hide (fr (unhide HB1) hb2)
  clear ho hp hb2 hc0 hc1
  go_wp2_with fail
  refine (unhide HSP _ _ _ _ _ (unhide HS2) (unhide HX2)).mono ?_
  rintro e w3 ⟨p3, pa3, q3, qa3, rfl, ho3, hb3⟩
  have HA3 := hide (Joins.below_alloc1 w3 (.cells #[.slice p3 RS.length pa3, .slice q3 RX.length qa3] 29))
  have HW := hide (ho3.below (unhide HA3))
  have HV := hide (VarD.new w3 (.slice p3 RS.length pa3) (.slice q3 RX.length qa3))
  have HB3 := hide (fr (fr (unhide HB2) hb3) (unhide HA3))
  have HB3' := hide (fr (unhide HB2) hb3)
  clear ho3 hb3
  obtain ⟨hc0, hc1⟩ := unhide HCELL _ (unhide HB3')
  have hlt3 : w.heap.size < w3.heap.size := World.block_lt_of_cell? _ _ hc0
  -- the copy that the program gets, in a variable
  go_wp2_with fail
  refine (toDisk_any ao bo ca cb ss xs _ hls hlx ((unhide HC).below (unhide HB3)) ((unhide HD).below (unhide HB3))).mono ?_
  rintro e w4 ⟨g4, k4, rfl, ho, hp, hb4⟩
  have HA4 := hide (Joins.below_alloc1 w4 (.cells #[.slice (some ⟨g4, 0, none⟩) ss.length ss.length, .slice (some ⟨k4, 0, none⟩) xs.length xs.length] 29))
  have HO4 : Hid (OwnD (w4.alloc (.cells #[.slice (some ⟨g4, 0, none⟩) ss.length ss.length, .slice (some ⟨k4, 0, none⟩) xs.length xs.length] 29)) (w3.alloc (.cells #[.slice p3 RS.length pa3, .slice q3 RX.length qa3] 29)).heap.size (some ⟨g4, 0, none⟩) ss.length ss.length (some ⟨k4, 0, none⟩) xs.length xs.length ss xs) := hide (OwnD.below ⟨OwnR.of ho (fun e => ⟨_, by rw [e]⟩), OwnR.of hp (fun e => ⟨_, by rw [e]⟩)⟩ (unhide HA4))
  have HX4 := hide (VarD.new w4 (.slice (some ⟨g4, 0, none⟩) ss.length ss.length) (.slice (some ⟨k4, 0, none⟩) xs.length xs.length))
  have HD4 := hide (fr hb4 (unhide HA4))
  have HB4 := hide (fr (unhide HB3) (unhide HD4))
  clear ho hp hb4 hc0 hc1
  go_wp2_with fail
  refine (unhide HIM _ _ _ _ _ ((unhide HO4).ss (unhide HZS)) ((unhide HO4).ios (unhide HZX))).mono ?_
  rintro e w5 ⟨p5, pa5, q5, qa5, rfl, ho5, hb5⟩
  have HA5 := hide (Joins.below_alloc1 w5 (.cells #[.slice p5 RS.length pa5, .slice q5 RX.length qa5] 29))
  have HG := hide (ho5.below (unhide HA5))
  have HY := hide (VarD.new w5 (.slice p5 RS.length pa5) (.slice q5 RX.length qa5))
  have HO5 := hide (((unhide HO4).below hb5).below (unhide HA5))
  have HX5 := hide (((unhide HX4).below hb5).below (unhide HA5))
  have HD5 := hide (fr (fr (unhide HD4) hb5) (unhide HA5))
  have HB5 := hide (fr (fr (unhide HB4) hb5) (unhide HA5))
  have HW5 := hide ((unhide HW).below (unhide HD5))
  have hlt5 : w3.heap.size < w5.heap.size := ((unhide HV).below (fr (unhide HD4) hb5)).lt
  obtain ⟨hv0, hv1⟩ := ((unhide HV).below (fr (unhide HD4) hb5)).cells
  clear ho5 hb5
  -- both answers are alike
  go_wp2_with fail
  refine (eqSameF _ _ _ _ _ _ _ _ RS RX _ (unhide HMS) (unhide HMX) ((unhide HG).ss (unhide HRS)) ((unhide HG).ios (unhide HRX)) ((unhide HW5).ss (unhide HRS)) ((unhide HW5).ios (unhide HRX))).mono ?_
  rintro e w6 ⟨rfl, hb6⟩
  have HG6 := hide ((unhide HG).below hb6)
  have HY6 := hide ((unhide HY).below hb6)
  have HO6 := hide ((unhide HO5).below hb6)
  have HX6 := hide ((unhide HX5).below hb6)
  have HD6 := hide (fr (unhide HD5) hb6)
  have HB6 := hide (fr (unhide HB5) hb6)
  clear hb6 hv0 hv1
  obtain ⟨hc0, hc1⟩ := unhide HCELL _ (unhide HB6)
  obtain ⟨hx0, hx1⟩ := (unhide HX6).cells
  have hlt4 : w4.heap.size < w6.heap.size := (unhide HX6).lt
  have HCT := hide ((unhide HC).below (unhide HB6).drew)
  have HDT := hide ((unhide HD).below (unhide HB6).drew)
  have HST := hide (((unhide HO6).ss (unhide HZS)).below (Below.refl _ _).drew)
  have HXT := hide (((unhide HO6).ios (unhide HZX)).below (Below.refl _ _).drew)
  go_wp2
  go_region_with (first | (go_at_call 6; refine (toDisk_any ao bo ca cb ss xs _ hls hlx (unhide HCT) (unhide HDT)).mono ?_; rintro e w7 ⟨g7, k7, rfl, ho7, hp7, hb7⟩; have hy0 := (hb7.cell (p := ⟨w4.heap.size, 0, none⟩) hlt4).trans hx0; have hy1 := (hb7.cell (p := ⟨w4.heap.size, 1, none⟩) hlt4).trans hx1) | (go_at_call 8; refine (eqSameF _ _ _ _ _ _ _ _ ss xs _ (unhide HL) (unhide HM) (by exact (unhide HST).below hb7) (by exact (unhide HXT).below hb7) (by exact ownS ho7 (unhide HZS)) (by exact ownI hp7 (unhide HZX))).mono ?_; rintro e w8 ⟨rfl, hb8⟩))
  all_goals
    have H68 : Hid (Below w6.heap.size w6 w8) := hide (fr (a := w6) (b := w7) (Below.trans (Below.refl _ _).drew hb7) hb8)
    have HG8 := hide ((unhide HG6).below (unhide H68))
    have HY8 := hide ((unhide HY6).below (unhide H68))
    have HO8 := hide ((unhide HO6).below (unhide H68))
    have HX8 := hide ((unhide HX6).below (unhide H68))
    have HD8 := hide (fr (unhide HD6) (unhide H68))
    have HB8 := hide (fr (unhide HB6) (unhide H68))
    clear hb7 hb8 ho7 hp7 hc0 hc1 hx0 hx1 hlt4
    obtain ⟨hx0, hx1⟩ := (unhide HX8).cells
    go_wp2_with fail
    refine (markDisk_one _ _ _ _ _ _ _ _ _ _ (by omega) (by omega) (unhide HO8)).mono ?_
    rintro e w9 ⟨rfl, ho9, hk9⟩
    have HG9 := hide ((unhide HG8).keep hk9 (fun j hj hx => Nat.lt_irrefl _ (Nat.lt_of_lt_of_le ((unhide HO4).ge j hx).2 ((unhide HG8).ge j hj).1)))
    have HY9 := hide ((unhide HY8).keep hk9 ((unhide HO8).other (unhide HY8) (by decide) (by decide)))
    have HD9 := hide ((unhide HD8).trans (hk9.below (B := (w3.alloc (.cells #[.slice p3 RS.length pa3, .slice q3 RX.length qa3] 29)).heap.size) (unhide HD8).size (fun j hj => ((unhide HO8).ge j hj).1)))
    have HB9 := hide ((unhide HB8).trans (hk9.below (B := (w.alloc (.cells #[.slice ao ss.length ca, .slice bo xs.length cb] 25)).heap.size) (unhide HB8).size (fun j hj => Nat.le_trans (unhide HB3).size ((unhide HO8).ge j hj).1)))
    clear ho9 hk9 hx0 hx1
    have HW9 := hide ((unhide HW).below (unhide HD9))
    obtain ⟨hy0', hy1'⟩ := (unhide HY9).cells
    obtain ⟨hv0, hv1⟩ := ((unhide HV).below (unhide HD9)).cells
    go_wp2_with fail
    refine (eqSameF _ _ _ _ _ _ _ _ RS RX _ (unhide HMS) (unhide HMX) ((unhide HG9).ss (unhide HRS)) ((unhide HG9).ios (unhide HRX)) ((unhide HW9).ss (unhide HRS)) ((unhide HW9).ios (unhide HRX))).mono ?_
    rintro e w10 ⟨rfl, hb10⟩
    have HG10 := hide ((unhide HG9).below hb10)
    have HY10 := hide ((unhide HY9).below hb10)
    have HD10 := hide (fr (unhide HD9) hb10)
    have HB10 := hide (fr (unhide HB9) hb10)
    clear hb10 hy0' hy1' hv0 hv1
    obtain ⟨hy0', hy1'⟩ := (unhide HY10).cells
    go_wp2_with fail
    refine (markDisk_one _ _ _ _ _ _ _ _ _ _ (unhide HQS) (unhide HQX) (unhide HG10)).mono ?_
    rintro e w11 ⟨rfl, ho11, hk11⟩
    have HG11 := hide ho11
    have HY11 := hide ((unhide HY10).keep hk11 ((unhide HG10).other (unhide HY10) (by decide) (by decide)))
    have HD11 := hide ((unhide HD10).trans (hk11.below (B := (w3.alloc (.cells #[.slice p3 RS.length pa3, .slice q3 RX.length qa3] 29)).heap.size) (unhide HD10).size (fun j hj => Nat.le_trans (unhide HD4).size ((unhide HG10).ge j hj).1)))
    have HB11 := hide ((unhide HB10).trans (hk11.below (B := (w.alloc (.cells #[.slice ao ss.length ca, .slice bo xs.length cb] 25)).heap.size) (unhide HB10).size (fun j hj => Nat.le_trans (unhide HB4).size ((unhide HG10).ge j hj).1)))
    clear ho11 hk11 hy0' hy1'
    obtain ⟨hy0', hy1'⟩ := (unhide HY11).cells
    go_wp2_with fail
    refine (heldDisk_one _ _ _ _ _ _ _ _ (unhide HQS) (unhide HQX) (unhide HG11)).mono ?_
    rintro e w12 ⟨rfl, hb12⟩
    have HG12 := hide ((unhide HG11).below hb12)
    have HY12 := hide ((unhide HY11).below hb12)
    have HD12 := hide (fr (unhide HD11) hb12)
    have HB12 := hide (fr (unhide HB11) hb12)
    clear hb12 hy0' hy1'
    obtain ⟨hc0, hc1⟩ := unhide HCELL _ (unhide HB12)
    go_wp2_with fail
    refine (toDisk_any ao bo ca cb ss xs _ hls hlx ((unhide HC).below (unhide HB12)) ((unhide HD).below (unhide HB12))).mono ?_
    rintro e w13 ⟨g13, k13, rfl, ho, hp, hb13⟩
    have HS13 := hide (ownS ho (unhide HZS))
    have HX13 := hide (ownI hp (unhide HZX))
    have HG13 := hide ((unhide HG12).below hb13)
    have HY13 := hide ((unhide HY12).below hb13)
    have HD13 := hide (fr (unhide HD12) hb13)
    have HB13 := hide (fr (unhide HB12) hb13)
    clear ho hp hb13 hc0 hc1
    go_wp2_with fail
    refine (unhide HIM _ _ _ _ _ (unhide HS13) (unhide HX13)).mono ?_
    rintro e w14 ⟨p14, pa14, q14, qa14, rfl, ho14, hb14⟩
    have HA14 := hide (Joins.below_alloc1 w14 (.cells #[.slice p14 RS.length pa14, .slice q14 RX.length qa14] 29))
    have HN14 := hide (ho14.below (unhide HA14))
    have HF14 := hide (fr hb14 (unhide HA14))
    have HG14 := hide ((unhide HG13).below (unhide HF14))
    have HY14 := hide ((unhide HY13).below (unhide HF14))
    have HD14 := hide (fr (unhide HD13) (unhide HF14))
    have HB14 := hide (fr (unhide HB13) (unhide HF14))
    have HW14 := hide ((unhide HW).below (unhide HD14))
    have hlt14 : w3.heap.size < w14.heap.size := ((unhide HV).below (fr (unhide HD13) hb14)).lt
    obtain ⟨hv0, hv1⟩ := ((unhide HV).below (fr (unhide HD13) hb14)).cells
    clear ho14 hb14
    go_wp2_with fail
    refine (eqSameF _ _ _ _ _ _ _ _ RS RX _ (unhide HMS) (unhide HMX) ((unhide HN14).ss (unhide HRS)) ((unhide HN14).ios (unhide HRX)) ((unhide HW14).ss (unhide HRS)) ((unhide HW14).ios (unhide HRX))).mono ?_
    rintro e w15 ⟨rfl, hb15⟩
    have HG15 := hide ((unhide HG14).below hb15)
    have HY15 := hide ((unhide HY14).below hb15)
    have HB15 := hide (fr (unhide HB14) hb15)
    clear hb15 hv0 hv1
    obtain ⟨hy0', hy1'⟩ := (unhide HY15).cells
    go_wp2_with fail
    refine (heldDisk_one _ _ _ _ _ _ _ _ (unhide HQS) (unhide HQX) (unhide HG15)).mono ?_
    rintro e w16 ⟨rfl, hb16⟩
    have HB16 := hide (fr (unhide HA) (fr (unhide HB15) hb16))
    clear hb16
    go_wp2
    go_ret
    exact ⟨rfl, unhide HB16⟩

end Go.Proofs.Ytmkegkpnomcnhab

/- Contract of impl.PendingOf. -/
namespace Go.Proofs.Ytmkegkpnomcnhab
open Go.RowKit
set_option linter.unusedVariables false
set_option maxRecDepth 100000

/-- How many writes a host has. -/
def cntW (xs : List Wr) (h : Int) : Nat := (xs.filter fun x => x.host == h).length
theorem cntW_le (xs : List Wr) (h : Int) : cntW xs h ≤ xs.length := List.length_filter_le _ _
theorem cnt_hit {xs : List Wr} {h : Int} {k : Nat} (hk : k < xs.length) (he : xs[k].host = h) : cntW (xs.take (k + 1)) h = cntW (xs.take k) h + 1 := by
  rw [cntW, cntW, List.take_succ_eq_append_getElem hk, List.filter_append, List.length_append]; simp [he]
theorem cnt_miss {xs : List Wr} {h : Int} {k : Nat} (hk : k < xs.length) (he : ¬ xs[k].host = h) : cntW (xs.take (k + 1)) h = cntW (xs.take k) h := by
  rw [cntW, cntW, List.take_succ_eq_append_getElem hk, List.filter_append, List.length_append]; simp [he]
theorem askC_zero (ss : List ByteArray) (xs : List Wr) (h : Int) : askC ss xs h 0 = hostC ss xs h := by
  unfold askC
  split
  · rename_i e; rw [e]; rfl
  · rfl
def cntC (ss : List ByteArray) (xs : List Wr) (h : Int) : Int := if hostC ss xs h = 0 then (cntW xs h : Int) else 0
theorem ret_two {a b c d : Int} (h : a = b) (k : c = d) : Ending.returned (.tuple #[.int .i64 a, .int .i64 c]) = .returned (.tuple #[.int .i64 b, .int .i64 d]) := by rw [h, k]

end Go.Proofs.Ytmkegkpnomcnhab

/- A law on append: one element more at the end of a row of the call's own. -/
namespace Go.Proofs.Ytmkegkpnomcnhab
open Go.RowKit
set_option linter.unusedVariables false
section
variable {P : Program}

theorem keep_grown {S : Nat → Prop} {w w' : World} {row : Option Nat} (h : w.grownBy w' row) (hs : ∀ k, row = some k → S k) : Keep S w w' :=
  ⟨h.os, h.tape, h.output, h.size, fun k hk hn => h.block k hk (fun e => hn (hs k e.symm))⟩

theorem run_append_one (w : World) (B : Nat) (t ty e : TypeId) (i : TypeInfo) (z : Value) (size bytes : Nat) (ht : P.underlying t = some (.slice e)) (hi : P.info? e = some i) (hz : i.zero = some z)
    (hsize : i.size = size) (hby : i.bytes = bytes) (hzs : z.cells.size = size) (hsz : 0 < size)
    (qo : Option Addr) (n cap : Nat) (xs : List Value) (h : OwnR w B e size (.slice qo n cap) n xs) (hB : B ≤ w.heap.size)
    (ad : Addr) (c : Nat) (news : List Value) (hl : news.length = size) (hnews : ∀ j u, news[j]? = some u → w.cell? (ad.add j) = some u) (h1 : ∀ u ∈ news, u.oneCell' = true)
    (b1 : n + 1 ≤ maxLen) (b2 : (n + 1) * bytes ≤ 140737488355328) :
    ∃ g cap' w', (Builtin.append_ #[t, t] ty #[.slice qo n cap, .slice (some ad) 1 c]).run P w = .ok (.slice (some ⟨g, 0, none⟩) (n + 1) cap') w' ∧
      w'.ownsRow B e size (.slice (some ⟨g, 0, none⟩) (n + 1) cap') (n + 1) (xs ++ news) ∧ Keep (Own (.slice qo n cap)) w w' := by
  rcases h with ⟨rfl, rfl, ao, hv⟩ | ⟨h0, h⟩
  · simp only [Value.slice.injEq, true_and] at hv
    obtain ⟨rfl, rfl⟩ := hv
    cases qo with
    | none =>
      obtain ⟨v', w', hrun, r1, r2, _⟩ := run_append_own (P := P) w B t ty e i z size bytes ht hi hz hsize hby hzs hsz (.slice none 0 0) 0 [] (World.ownsRow_nil w _ e size) ad 1 c news (by omega) hnews h1 b1 b2 hB
      obtain ⟨g, cap, cur, rfl, _, _⟩ := own_form (by omega) r1
      exact ⟨g, cap, w', hrun, r1, keep_grown r2 (fun k hk => by cases hk)⟩
    | some d =>
      obtain ⟨v', w', hrun, r1, r2⟩ := run_append_arg_grows (P := P) w t ty e i z size bytes ht hi hz hsize hby hzs hsz d 0 0 [] (by simp) (by simp) ad 1 c news (by omega) hnews (by omega) b1 b2
      obtain ⟨g, cap, cur, rfl, _, _⟩ := own_form (by omega) r1
      exact ⟨g, cap, w', hrun, own_base r1 hB, keep_grown r2 (fun k hk => by cases hk)⟩
  · obtain ⟨g0, cap0, cur0, e0, _, _⟩ := own_form h0 h
    rw [e0] at h
    obtain ⟨v', w', hrun, r1, r2, _⟩ := run_append_own (P := P) w B t ty e i z size bytes ht hi hz hsize hby hzs hsz _ n xs h ad 1 c news (by omega) hnews h1 b1 b2 hB
    obtain ⟨g, cap, cur, rfl, _, _⟩ := own_form (by omega) r1
    rw [e0]
    exact ⟨g, cap, w', hrun, r1, keep_grown r2 (fun k hk => by cases hk; exact own_of h0 rfl)⟩

theorem wpList_append_one {w : World} {ops : Array Oper} {rest : List Oper} {o : Oper} {a : Act} {Q : Exit → Act → World → Prop} (hgd : o.guard = none) (s x : Operand) (t : TypeId)
    (ho : o.op = .call { callee := .builtin .append, args := #[s, x], argTypes := #[t, t] })
    (B : Nat) (e : TypeId) (i : TypeInfo) (z : Value) (size bytes : Nat) (ht : P.underlying t = some (.slice e)) (hi : P.info? e = some i) (hz : i.zero = some z)
    (hsize : i.size = size) (hby : i.bytes = bytes) (hzs : z.cells.size = size) (hsz : 0 < size)
    (qo : Option Addr) (n cap : Nat) (xs : List Value) (hs : a.eval s = .slice qo n cap) (h : OwnR w B e size (.slice qo n cap) n xs) (hB : B ≤ w.heap.size)
    (ad : Addr) (c : Nat) (news : List Value) (hx : a.eval x = .slice (some ad) 1 c) (hl : news.length = size) (hnews : ∀ j u, news[j]? = some u → w.cell? (ad.add j) = some u) (h1 : ∀ u ∈ news, u.oneCell' = true)
    (b1 : n + 1 ≤ maxLen) (b2 : (n + 1) * bytes ≤ 140737488355328)
    (hK : ∀ g cap' w', w'.ownsRow B e size (.slice (some ⟨g, 0, none⟩) (n + 1) cap') (n + 1) (xs ++ news) → Keep (Own (.slice qo n cap)) w w' → wpList P ops Q rest (a.put o.dst (.slice (some ⟨g, 0, none⟩) (n + 1) cap')) w') : wpList P ops Q (o :: rest) a w := by
  refine wpList_plain hgd fun K hK' => ?_
  obtain ⟨g, cap', w', hrun, r1, r2⟩ := run_append_one (P := P) w B t o.type e i z size bytes ht hi hz hsize hby hzs hsz qo n cap xs h hB ad c news hl hnews h1 b1 b2
  unfold Oper.wp
  simp [execOp, ho, resolve, invoke, builtin, hs, hx, hrun, Result.andThen]
  exact hK' _ _ (hK _ _ _ r1 r2)

theorem step_append_one {w : World} {ops : Array Oper} {o : Oper} {a : Act} {K : Act → World → Prop} {Q : Exit → Act → World → Prop} {E : Prop} (hgd : o.guard = none) (s x : Operand) (t : TypeId)
    (ho : o.op = .call { callee := .builtin .append, args := #[s, x], argTypes := #[t, t] })
    (B : Nat) (e : TypeId) (i : TypeInfo) (z : Value) (size bytes : Nat) (ht : P.underlying t = some (.slice e)) (hi : P.info? e = some i) (hz : i.zero = some z)
    (hsize : i.size = size) (hby : i.bytes = bytes) (hzs : z.cells.size = size) (hsz : 0 < size)
    (qo : Option Addr) (n cap : Nat) (xs : List Value) (hs : a.eval s = .slice qo n cap) (h : OwnR w B e size (.slice qo n cap) n xs) (hB : B ≤ w.heap.size)
    (ad : Addr) (c : Nat) (news : List Value) (hx : a.eval x = .slice (some ad) 1 c) (hl : news.length = size) (hnews : ∀ j u, news[j]? = some u → w.cell? (ad.add j) = some u) (h1 : ∀ u ∈ news, u.oneCell' = true)
    (b1 : n + 1 ≤ maxLen) (b2 : (n + 1) * bytes ≤ 140737488355328)
    (hK : ∀ g cap' w', w'.ownsRow B e size (.slice (some ⟨g, 0, none⟩) (n + 1) cap') (n + 1) (xs ++ news) → Keep (Own (.slice qo n cap)) w w' → K (a.put o.dst (.slice (some ⟨g, 0, none⟩) (n + 1) cap')) w') :
    if Region.wanted o (yielded ops a.tmps) = true then Oper.wp P o a w K Q else E := by
  have hw : Region.wanted o (yielded ops a.tmps) = true := by simp [Region.wanted, hgd]
  rw [if_pos hw]
  obtain ⟨g, cap', w', hrun, r1, r2⟩ := run_append_one (P := P) w B t o.type e i z size bytes ht hi hz hsize hby hzs hsz qo n cap xs h hB ad c news hl hnews h1 b1 b2
  unfold Oper.wp
  simp [execOp, ho, resolve, invoke, builtin, hs, hx, hrun, Result.andThen]
  exact hK _ _ _ r1 r2
theorem step_append_at {w : World} {ops : Array Oper} {o : Oper} {a : Act} {K : Act → World → Prop} {Q : Exit → Act → World → Prop} {E : Prop} (hgd : o.guard = none) (s x : Operand) (t : TypeId)
    (ho : o.op = .call { callee := .builtin .append, args := #[s, x], argTypes := #[t, t] })
    (B : Nat) (e : TypeId) (i : TypeInfo) (z : Value) (size bytes : Nat) (ht : P.underlying t = some (.slice e)) (hi : P.info? e = some i) (hz : i.zero = some z)
    (hsize : i.size = size) (hby : i.bytes = bytes) (hzs : z.cells.size = size) (hsz : 0 < size)
    (qo : Option Addr) (n cap : Nat) (xs : List Value) (hs : a.eval s = .slice qo n cap) (h : OwnR w B e size (.slice qo n cap) n xs) (hB : B ≤ w.heap.size)
    (news : List Value) (hx : ∃ y c, a.eval x = .slice (some ⟨y, 0, none⟩) 1 c ∧ ∀ j u, news[j]? = some u → w.cell? ((⟨y, 0, none⟩ : Addr).add j) = some u) (hl : news.length = size) (h1 : ∀ u ∈ news, u.oneCell' = true)
    (b1 : n + 1 ≤ maxLen) (b2 : (n + 1) * bytes ≤ 140737488355328)
    (hK : ∀ g cap' w', w'.ownsRow B e size (.slice (some ⟨g, 0, none⟩) (n + 1) cap') (n + 1) (xs ++ news) → Keep (Own (.slice qo n cap)) w w' → K (a.put o.dst (.slice (some ⟨g, 0, none⟩) (n + 1) cap')) w') :
    if Region.wanted o (yielded ops a.tmps) = true then Oper.wp P o a w K Q else E := by
  obtain ⟨y, c, hx, hnews⟩ := hx
  exact step_append_one hgd s x t ho B e i z size bytes ht hi hz hsize hby hzs hsz qo n cap xs hs h hB ⟨y, 0, none⟩ c news hx hl hnews h1 b1 b2 hK
end
end Go.Proofs.Ytmkegkpnomcnhab

/- Contract of impl.landFirst: of a host's writes the first ones are sure. -/
namespace Go.Proofs.Ytmkegkpnomcnhab
open Go.RowKit
set_option linter.unusedVariables false

/-- One write of a disk's, as a host's writes land: the sectors, what is left, how many may still land. -/
def stepF (h : Int) (lost : Bool) (st : List ByteArray × List Wr × Int) (x : Wr) : List ByteArray × List Wr × Int :=
  if x.host = h then (if 0 < st.2.2 then (st.1.set x.at_.toNat x.data, st.2.1, st.2.2 - 1) else if lost = true then st else (st.1, st.2.1 ++ [x], st.2.2)) else (st.1, st.2.1 ++ [x], st.2.2)
def landF (h : Int) (lost : Bool) (ss : List ByteArray) (xs : List Wr) (n : Int) : List ByteArray × List Wr × Int := xs.foldl (stepF h lost) (ss, [], n)
theorem landF_succ {h : Int} {lost : Bool} {ss : List ByteArray} {xs : List Wr} {n : Int} {k : Nat} (hk : k < xs.length) : landF h lost ss (xs.take (k + 1)) n = stepF h lost (landF h lost ss (xs.take k) n) xs[k] := by
  unfold landF
  rw [List.take_succ_eq_append_getElem hk, List.foldl_append]
  rfl
theorem step_other {h : Int} {lost : Bool} {x : Wr} (ha : x.host ≠ h) (SS : List ByteArray) (LX : List Wr) (N : Int) : stepF h lost (SS, LX, N) x = (SS, LX ++ [x], N) := by simp [stepF, ha]
theorem step_land {h : Int} {lost : Bool} {x : Wr} (ha : x.host = h) (SS : List ByteArray) (LX : List Wr) {N : Int} (hn : 0 < N) : stepF h lost (SS, LX, N) x = (SS.set x.at_.toNat x.data, LX, N - 1) := by simp [stepF, ha, hn]
theorem step_keep {h : Int} {x : Wr} (ha : x.host = h) (SS : List ByteArray) (LX : List Wr) {N : Int} (hn : ¬ 0 < N) : stepF h false (SS, LX, N) x = (SS, LX ++ [x], N) := by simp [stepF, ha, hn]

theorem VarD.set1 {w : World} {y : Nat} {a b : Value} (h : VarD w y a b) (c : Value) : VarD (w.setCell ⟨y, 1, none⟩ c) y a c := by
  unfold VarD
  rw [Joins.block_setCell h c]
  rfl
theorem VarD.setOther {w : World} {y : Nat} {a b : Value} (h : VarD w y a b) {p : Addr} (hp : p.block ≠ y) (c : Value) : VarD (w.setCell p c) y a b := by
  unfold VarD
  rw [Below.heap_setCell w p c y (fun e => hp e.symm)]
  exact h

/-- The state of a loop that lets writes land: the variable `v` of the answer, its two rows, the cell of the result. -/
structure LandSt (w : World) (v : Nat) (po : Option Addr) (pa n : Nat) (wr : World) (SS : List ByteArray) (LX : List Wr) (qo : Option Addr) (qa : Nat) : Prop where
  var : VarD wr v (.slice po n pa) (.slice qo LX.length qa)
  s : OwnR wr (w.heap.size + 2) 9 1 (.slice po n pa) n (strV SS)
  i : OwnR wr (w.heap.size + 2) 68 3 (.slice qo LX.length qa) LX.length (ioV LX)
  r : VarD wr (w.heap.size + 1) (.slice none 0 0) (.slice none 0 0)
  b : Below w.heap.size w wr

theorem LandSt.below {w : World} {v : Nat} {po : Option Addr} {pa n : Nat} {wr wr' : World} {SS : List ByteArray} {LX : List Wr} {qo : Option Addr} {qa : Nat} (h : LandSt w v po pa n wr SS LX qo qa) (hb : Below wr.heap.size wr wr') : LandSt w v po pa n wr' SS LX qo qa :=
  ⟨h.var.below hb, h.s.below hb, h.i.below hb, h.r.below hb, fr h.b hb⟩

theorem strV_set (SS : List ByteArray) (j : Nat) (d : ByteArray) : (strV SS).set j (.string d) = strV (SS.set j d) := by simp [strV, List.map_set]

theorem LandSt.form {w : World} {v : Nat} {po : Option Addr} {pa n : Nat} {wr : World} {SS : List ByteArray} {LX : List Wr} {qo : Option Addr} {qa : Nat} (h : LandSt w v po pa n wr SS LX qo qa) {j : Nat} (hj : j < n) :
    ∃ g x, po = some ⟨g, 0, none⟩ ∧ g < wr.heap.size ∧ wr.cell? ⟨g, j, none⟩ = some x ∧ wr.frozen? ⟨g, j, none⟩ = false ∧ ∀ d, LandSt w v po pa n (wr.setCell ⟨g, j, none⟩ (.string d)) (SS.set j d) LX qo qa := by
  have hpos : 0 < n := by omega
  obtain ⟨h0, -, _⟩ | ⟨_, ho⟩ := h.s
  · omega
  obtain ⟨g, cap, cur, e0, hg, hcur⟩ := own_form hpos ho
  simp only [Value.slice.injEq, true_and] at e0
  obtain ⟨rfl, rfl⟩ := e0
  have hown : Own (.slice (some ⟨g, 0, none⟩) n pa) g := own_of hpos rfl
  have hlen : (strV SS).length = n := by have := h.s.len; omega
  refine ⟨g, _, rfl, (h.s.ge g hown).2, (ho.cellAt j (by omega)).trans (List.getElem?_eq_getElem (by rw [hlen]; exact hj)), ho.frozenAt j, fun d => ?_⟩
  have hk : Keep (fun k => k = g) wr (wr.setCell ⟨g, j, none⟩ (.string d)) := Keep.setCell (S := fun k => k = g) (Keep.refl _ _) (p := ⟨g, j, none⟩) rfl _
  refine ⟨h.var.keep hk (fun e => h.s.other h.var (by decide) (e ▸ hown)), .inr ⟨hpos, ?_⟩, h.i.keep hk (fun k hk' e => own_apart h.i h.s (by decide) k hk' (e ▸ hown)), h.r.keep hk (fun e => h.s.other h.r (by decide) (e ▸ hown)), h.b.setCell (p := ⟨g, j, none⟩) (by have := (h.s.ge g hown).1; simp; omega) _⟩
  rw [← strV_set]
  exact (ho.stored j (.string d)).1

theorem LandSt.app {w : World} {v : Nat} {po : Option Addr} {pa n : Nat} {wr wA : World} {SS : List ByteArray} {LX : List Wr} {qo : Option Addr} {qa : Nat} (h : LandSt w v po pa n wr SS LX qo qa) (hv : w.heap.size ≤ v) (hne : v ≠ w.heap.size + 1) {x : Wr} {g cap : Nat}
    (ho : wA.ownsRow (w.heap.size + 2) 68 3 (.slice (some ⟨g, 0, none⟩) (LX.length + 1) cap) (LX.length + 1) (ioV LX ++ wrV x)) (hk : Keep (Own (.slice qo LX.length qa)) wr wA) :
    VarD wA v (.slice po n pa) (.slice qo LX.length qa) ∧ LandSt w v po pa n (wA.setCell ⟨v, 1, none⟩ (.slice (some ⟨g, 0, none⟩) (LX.length + 1) cap)) SS (LX ++ [x]) (some ⟨g, 0, none⟩) cap := by
  have hva := h.var.keep hk (h.i.other h.var (by decide))
  have hra := h.r.keep hk (h.i.other h.r (by decide))
  have hsa := h.s.keep hk (own_apart h.s h.i (by decide))
  have hia : OwnR wA (w.heap.size + 2) 68 3 (.slice (some ⟨g, 0, none⟩) (LX.length + 1) cap) (LX.length + 1) (ioV (LX ++ [x])) := .inr ⟨Nat.succ_pos _, by rw [ioV_snoc]; exact ho⟩
  have hba : Below w.heap.size w wA := belowKp h.b hk (fun j hj => Nat.le_trans (by omega) (h.i.ge j hj).1)
  have hl : (LX ++ [x]).length = LX.length + 1 := by simp
  have hk2 : Keep (fun j => j = v) wA (wA.setCell ⟨v, 1, none⟩ (.slice (some ⟨g, 0, none⟩) (LX.length + 1) cap)) := Keep.setCell (S := fun j => j = v) (Keep.refl _ _) (p := ⟨v, 1, none⟩) rfl _
  refine ⟨hva, ?_, hsa.keep hk2 (fun j hj e => hsa.other hva (by decide) (e ▸ hj)), ?_, hra.keep hk2 (fun e => hne e.symm), hba.setCell (p := ⟨v, 1, none⟩) hv _⟩
  · rw [hl]; exact hva.set1 _
  · rw [hl]; exact hia.keep hk2 (fun j hj e => hia.other hva (by decide) (e ▸ hj))

set_option maxRecDepth 100000 in
set_option maxHeartbeats 3200000 in
theorem landFirst_any (ao bo : Option Addr) (ca cb : Nat) (ss : List ByteArray) (xs : List Wr) (h n : Int) (w : World) (hn0 : 0 ≤ n) (hn1 : n ≤ 1048576) (hl : ss.length ≤ 1048576) (hm : xs.length ≤ 200) (hat : ∀ i (hi : i < xs.length), 0 ≤ xs[i].at_ ∧ xs[i].at_ < ss.length) (h1 : Ss w ao ss) (h2 : Ios w bo xs) :
    Calls Try.prog 52 #[.agg #[.slice ao ss.length ca, .slice bo xs.length cb], .int .i64 h, .int .i64 n] w fun e w' => ∃ po pa qo qa, e = .returned (.agg #[.slice po ss.length pa, .slice qo (landF h false ss xs n).2.1.length qa]) ∧ OwnD w' w.heap.size po ss.length pa qo (landF h false ss xs n).2.1.length qa (landF h false ss xs n).1 (landF h false ss xs n).2.1 ∧ Below w.heap.size w w' := by
  have HA := hide (Joins.below_alloc2 w (.cells #[.slice ao ss.length ca, .slice bo xs.length cb] 29) (.cells #[.slice none 0 0, .slice none 0 0] 29))
  have H1 := hide (h1.below (unhide HA))
  have H2 := hide (h2.below (unhide HA))
  have HV := hide ((VarD.new w (.slice ao ss.length ca) (.slice bo xs.length cb)).below (Joins.below_alloc1 _ (.cells #[.slice none 0 0, .slice none 0 0] 29)))
  have HR : Hid (VarD ((w.alloc (.cells #[.slice ao ss.length ca, .slice bo xs.length cb] 29)).alloc (.cells #[.slice none 0 0, .slice none 0 0] 29)) (w.heap.size + 1) (.slice none 0 0) (.slice none 0 0)) := hide (by have := VarD.new (w.alloc (.cells #[.slice ao ss.length ca, .slice bo xs.length cb] 29)) (.slice none 0 0) (.slice none 0 0); simp only [World.size_alloc] at this; exact this)
  have HX0 := hide h2
  have HAT := hide hat
  have HLEN := hide hl
  clear h1 h2 hat hl
  obtain ⟨j0, hj, hy0, hy1, hy2⟩ := info_parts infoW
  go_enter Try.func52, Try.ntmps52
  go_wp2_with fail
  refine (copyS_any ao ca ss _ (unhide HLEN) (unhide H1)).mono ?_
  rintro e w1 ⟨po, pa, rfl, ho1, hb1⟩
  have HV1 := hide ((unhide HV).below hb1)
  have HR1 := hide ((unhide HR).below hb1)
  have HX1 := hide ((unhide H2).below hb1)
  have HB1 := hide (fr (unhide HA) hb1)
  have HO1 := hide (ho1.base (B' := w.heap.size + 2) (by simp))
  have hlt1 : w.heap.size + 1 < w1.heap.size := (unhide HR1).lt
  have hlt0 : w.heap.size < w1.heap.size := (unhide HV1).lt
  clear ho1 hb1
  obtain ⟨hv0, hv1⟩ := (unhide HV1).cells
  have HST : Hid (LandSt w w1.heap.size po pa ss.length (w1.alloc (.cells #[.slice po ss.length pa, .slice none 0 0] 29)) ss [] none 0) := hide ⟨VarD.new w1 _ _, (unhide HO1).below (Joins.below_alloc1 _ _), .inl ⟨rfl, rfl, none, rfl⟩, (unhide HR1).below (Joins.below_alloc1 _ _), fr (unhide HB1) (Joins.below_alloc1 _ _)⟩
  go_wp2
  go_loopw [2, 9, 17] (fun c _ i wr => ∃ (k : Nat) (SS : List ByteArray) (LX : List Wr) (N : Int) (qo : Option Addr) (qa : Nat), k ≤ xs.length ∧ i = .int .i64 k ∧ c = .int .i64 N ∧ 0 ≤ N ∧ N ≤ 1048576 ∧ LX.length ≤ k ∧ Hid (landF h false ss (xs.take k) n = (SS, LX, N)) ∧ Hid (LandSt w w1.heap.size po pa ss.length wr SS LX qo qa)) (fun _ _ i _ => xs.length - (intOf i).toNat)
  case atStart => exact ⟨0, ss, [], n, none, 0, Nat.zero_le _, rfl, rfl, hn0, hn1, Nat.le_refl _, hide rfl, HST⟩
  case round =>
    obtain ⟨k, SS, LX, N, qo, qa, hk, rfl, rfl, hN0, hN1, hLX, HL, HS⟩ := hrel
    clear HST
    obtain ⟨hw0, hw1⟩ := (unhide HS).var.cells
    obtain ⟨hr0, hr1⟩ := (unhide HS).r.cells
    have hlw := (unhide HS).var.lt
    by_cases hlt : k < xs.length
    · obtain ⟨b, off, rfl, hc0, hc1, hc2, hz⟩ := (unhide HX0).below (unhide HS).b k hlt
      clear hz
      obtain ⟨a, ha, hal⟩ : ∃ a : Nat, xs[k].at_ = (a : Int) ∧ a < ss.length := ⟨xs[k].at_.toNat, by have := unhide HAT k hlt; omega, by have := unhide HAT k hlt; omega⟩
      rw [ha] at hc1
      obtain ⟨g, x0, rfl, hgl, hgc, hgf, hset⟩ := ((unhide HS).below (Joins.below_alloc1 _ (.cells #[.int .i64 xs[k].host, .int .i64 a, .string xs[k].data] 68))).form hal
      have HSET := hide (hset xs[k].data)
      have HSA := hide ((unhide HS).below (Joins.below_alloc1 _ (.cells #[.int .i64 xs[k].host, .int .i64 a, .string xs[k].data] 68)))
      have HA := hide ha
      clear ha hset
      have HX := hide (show (⟨xs[k].host, a, xs[k].data⟩ : Wr) = xs[k] by rw [← unhide HA])
      have HSB := hide ((unhide HSA).below (Joins.below_alloc1 _ (.cells #[.int .i64 xs[k].host, .int .i64 a, .string xs[k].data] 68)))
      have HI : Hid (VarI ((wr.alloc (.cells #[.int .i64 xs[k].host, .int .i64 a, .string xs[k].data] 68)).alloc (.cells #[.int .i64 xs[k].host, .int .i64 a, .string xs[k].data] 68)) (wr.heap.size + 1) ⟨xs[k].host, a, xs[k].data⟩) := hide (VarI.top (x := ⟨xs[k].host, a, xs[k].data⟩) (by simp))
      by_cases e0 : xs[k].host = h
      · by_cases hN : 0 < N
        · have HN := hide (step_land (lost := false) e0 SS LX hN)
          have b0 : (xs[k].host == h) = true := by simp [e0]
          clear e0
          go_wp2
          go_roundw
          case rel => exact ⟨k + 1, SS.set a xs[k].data, LX, N - 1, qo, qa, by omega, by go_num, by go_num, by omega, by omega, by omega, hide (by rw [landF_succ hlt, unhide HL, unhide HN, unhide HA]; rfl), HSET⟩
          case measure => simp [intOf]; omega
        · have HN := hide (step_keep e0 SS LX hN)
          have b0 : (xs[k].host == h) = true := by simp [e0]
          clear e0
          go_wp2_with (at_builtin; refine wpList_append_one rfl _ _ 27 rfl (w.heap.size + 2) 68 j0 (.agg #[.int .i64 0, .int .i64 0, .string ⟨#[]⟩]) 3 32 Try.underlying27 hj hy0 hy1 hy2 rfl (by omega) qo LX.length qa (ioV LX) rfl (unhide HSB).i (by simp; omega) ⟨wr.heap.size + 1, 0, none⟩ _ (wrV ⟨xs[k].host, a, xs[k].data⟩) rfl rfl (unhide HI).news (wrV_one _) (by unfold maxLen; omega) (by omega) ?_; intro g2 cap wA hoA hkA; obtain ⟨hvA, hsA⟩ := (unhide HSB).app (by omega) (by omega) hoA hkA; have HSF := hide hsA; obtain ⟨hA0, hA1⟩ := hvA.cells; have hA2 := hvA.free 1; clear hoA hkA hvA hsA)
          go_roundw
          case rel => exact ⟨k + 1, SS, LX ++ [⟨xs[k].host, a, xs[k].data⟩], N, _, _, by omega, by go_num, by go_num, by omega, by omega, by simp; omega, hide (by rw [landF_succ hlt, unhide HL, unhide HN, unhide HX]), HSF⟩
          case measure => simp [intOf]; omega
      · have HN := hide (step_other (lost := false) e0 SS LX N)
        have b0 : (xs[k].host == h) = false := by simp [e0]
        clear e0
        go_wp2_with (at_builtin; refine wpList_append_one rfl _ _ 27 rfl (w.heap.size + 2) 68 j0 (.agg #[.int .i64 0, .int .i64 0, .string ⟨#[]⟩]) 3 32 Try.underlying27 hj hy0 hy1 hy2 rfl (by omega) qo LX.length qa (ioV LX) rfl (unhide HSB).i (by simp; omega) ⟨wr.heap.size + 1, 0, none⟩ _ (wrV ⟨xs[k].host, a, xs[k].data⟩) rfl rfl (unhide HI).news (wrV_one _) (by unfold maxLen; omega) (by omega) ?_; intro g2 cap wA hoA hkA; obtain ⟨hvA, hsA⟩ := (unhide HSB).app (by omega) (by omega) hoA hkA; have HSF := hide hsA; obtain ⟨hA0, hA1⟩ := hvA.cells; have hA2 := hvA.free 1; clear hoA hkA hvA hsA)
        go_roundw
        case rel => exact ⟨k + 1, SS, LX ++ [⟨xs[k].host, a, xs[k].data⟩], N, _, _, by omega, by go_num, by go_num, by omega, by omega, by simp; omega, hide (by rw [landF_succ hlt, unhide HL, unhide HN, unhide HX]), HSF⟩
        case measure => simp [intOf]; omega
    · have HF : Hid (landF h false ss xs n = (SS, LX, N)) := by
        have := unhide HL
        rw [List.take_of_length_le (by omega)] at this
        exact hide this
      have HE := hide (copyD_end (w := w) (wL := wr) ⟨(unhide HS).s, (unhide HS).i⟩ (unhide HS).b (.slice po ss.length pa) (.slice qo LX.length qa))
      have hr2 := (unhide HS).r.free 0
      have hr3 := (unhide HS).r.free 1
      have hlr := (unhide HS).r.lt
      go_wp2
      rw [unhide HF]
      exact bodyPost_ret (v := .agg #[.slice po ss.length pa, .slice qo LX.length qa]) (by simp [results, Try.results52, go_sem, hr0, hr1]) rfl ⟨po, pa, qo, qa, rfl, (unhide HE).1, (unhide HE).2⟩

end Go.Proofs.Ytmkegkpnomcnhab
