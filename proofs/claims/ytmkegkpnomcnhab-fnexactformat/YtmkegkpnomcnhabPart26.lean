import Derived.Test.YtmkegkpnomcnhabRows
import Derived.Test.YtmkegkpnomcnhabPart1
import Derived.Test.YtmkegkpnomcnhabPart2
import Derived.Test.YtmkegkpnomcnhabPart5
import Derived.Test.YtmkegkpnomcnhabPart7
import Derived.Test.YtmkegkpnomcnhabPart8
import Derived.Test.YtmkegkpnomcnhabPart10
import Derived.Test.YtmkegkpnomcnhabPart20
import Derived.Test.YtmkegkpnomcnhabPart24
import Derived.WalkKit
import Derived.WalkSpells
import Derived.KernelRfl
import Derived.LoopN
import Derived.Test.YtmkegkpnomcnhabPart19
import Derived.Test.YtmkegkpnomcnhabPart11
import Derived.Test.YtmkegkpnomcnhabPart12
import Derived.Test.YtmkegkpnomcnhabPart16
import Derived.Test.YtmkegkpnomcnhabPart22
import Derived.Test.YtmkegkpnomcnhabStL
import Derived.Test.YtmkegkpnomcnhabPart4
import Derived.Test.YtmkegkpnomcnhabPart9
import Derived.Test.YtmkegkpnomcnhabPart23
import Derived.Test.YtmkegkpnomcnhabPart18
import Derived.Test.YtmkegkpnomcnhabPart21

/- The contract of the program's updatesFrom: what records are otherwise, rising by their places. -/
namespace Go.Proofs.Ytmkegkpnomcnhab
open Go.RowKit Go.Maps
set_option linter.unusedVariables false
set_option maxRecDepth 100000

/-- A map that may be nil. -/
def MpO (w : World) (o : Option Nat) (f : Nat → Option Rc) : Prop := (o = none ∧ f = fun _ => none) ∨ ∃ B n D, o = some B ∧ MpR w B n D f
theorem MpO.below {w w' : World} {o : Option Nat} {f : Nat → Option Rc} (h : MpO w o f) (hb : Below w.heap.size w w') : MpO w' o f := by
  rcases h with h | ⟨B, n, D, e, h⟩
  · exact .inl h
  · exact .inr ⟨B, n, D, e, h.below hb⟩
/-- The record at a place, or a zero one. -/
def rcG (f : Nat → Option Rc) (p : Nat) : Rc := (f p).getD (0, [])
theorem MpO.look {w : World} {o : Option Nat} {f : Nat → Option Rc} (h : MpO w o f) {p : Nat} (hp : p < 64) : ∃ ao cap, (Instr.lookup 52 (.map o) (.int .i64 (p : Int)) false).run Try.prog w = .ok (rcV (rcG f p) ao cap) w ∧ Is w ao (rcG f p).2 := by
  rcases h with ⟨rfl, rfl⟩ | ⟨B, n, D, rfl, h⟩
  · exact ⟨none, 0, miss_nil hp w, fun i hi => by simp [rcG] at hi⟩
  · cases hf : f p with
    | none => exact ⟨none, 0, by rw [rcG, hf]; exact h.miss hp hf, fun i hi => by simp [rcG, hf] at hi⟩
    | some r =>
      obtain ⟨ao, cap, h1, h2⟩ := h.look hp hf
      exact ⟨ao, cap, by rw [rcG, hf]; exact h1, by rw [rcG, hf]; exact h2⟩
/-- What one place gives. -/
def upO (fw fn : Nat → Option Rc) (p : Nat) : List Up := if rcEq (rcG fn p) (rcG fw p) = true then [] else [⟨(p : Int), rcT (rcG fn p)⟩]
def upsF (fw fn : Nat → Option Rc) : List Up := (plcN fn).flatMap (upO fw fn)
theorem upO_len (fw fn : Nat → Option Rc) (p : Nat) : (upO fw fn p).length ≤ 1 := by unfold upO; split <;> simp
theorem take_flat {α β : Type} (g : α → List β) {l : List α} {k : Nat} (hk : k < l.length) : (l.take (k + 1)).flatMap g = (l.take k).flatMap g ++ g l[k] := by
  rw [List.take_succ_eq_append_getElem hk, List.flatMap_append]; simp
theorem plcN_len (f : Nat → Option Rc) : (plcN f).length ≤ 64 := by
  have := List.length_filter_le (fun p => (f p).isSome) (List.range 64)
  simpa [plcN] using this

set_option maxHeartbeats 3200000 in
theorem updatesFrom_any (ow : Option Nat) (B n : Nat) (D : DataW Value) (fw fn : Nat → Option Rc) (w : World) (hw : MpO w ow fw) (hn : MpR w B n D fn) (hn2 : n ≤ 1000)
    (hlw : ∀ p, p < 64 → (rcG fw p).2.length ≤ 1000) (hln : ∀ p, p < 64 → (rcG fn p).2.length ≤ 1000) :
    Calls Try.prog 21 #[.map ow, .map (some B)] w fun e w' => ∃ qo qa, e = .returned (.slice qo (upsF fw fn).length qa) ∧ UpS w w' qo (upsF fw fn).length qa (upsF fw fn) := by
  have HW := hide hw
  have HN := hide hn
  have HLW := hide hlw
  have HLN := hide hln
  have HPL := hide (plcN_len fn)
  have HLL : Hid ((plcL fn).length = (plcN fn).length) := hide (by simp [plcL])
  have HAT : Hid (∀ k (h : k < (plcL fn).length) (h2 : k < (plcN fn).length), (plcL fn)[k] = ((plcN fn)[k] : Int)) := hide (fun k h h2 => by simp [plcL])
  have HLT : Hid (∀ k (h2 : k < (plcN fn).length), (plcN fn)[k] < 64) := hide (fun k h2 => (plcN_lt (List.getElem_mem h2)).1)
  have HTK : Hid (∀ k (h2 : k < (plcN fn).length), ((plcN fn).take (k + 1)).flatMap (upO fw fn) = ((plcN fn).take k).flatMap (upO fw fn) ++ upO fw fn (plcN fn)[k]) := hide (fun k h2 => take_flat _ h2)
  have HEN : Hid (((plcN fn).take (plcN fn).length).flatMap (upO fw fn) = upsF fw fn) := hide (by rw [List.take_length]; rfl)
  clear hw hn hlw hln
  obtain ⟨j0, hj, hy0, hy1, hy2⟩ := info_parts infoUs
  go_enter Try.func21, Try.ntmps21
  go_wp2_with fail
  refine (mapsKeys_any (some B) _).mono ?_
  rintro e w1 ⟨rfl, rfl⟩
  go_wp2_with fail
  refine (sorted_any B n D fn w (unhide HN) (by omega)).mono ?_
  rintro e w2 ⟨v, rfl, ⟨ko, ka, rfl, hok⟩, hb2⟩
  have HB2 := hide hb2
  have HKI : Hid (Is w2 ko (plcL fn)) := hide (ownRN hok)
  have HW2 := hide ((unhide HW).below hb2)
  have HN2 : Hid (MpO w2 (some B) fn) := hide (.inr ⟨B, n, D, rfl, (unhide HN).below hb2⟩)
  clear hok hb2 HW HN
  have HU0 : Hid (UpS w2 w2 none 0 0 []) := hide ⟨.inl ⟨rfl, rfl, none, rfl⟩, Below.refl _ _⟩
  generalize plcL fn = KL at *
  generalize hKN : plcN fn = KN at *
  clear hKN
  have hKLN := unhide HPL
  go_wp2
  go_loopw [5, 12] (fun o i wr => ∃ (k N : Nat) (qo : Option Addr) (qa : Nat), k ≤ KL.length ∧ N ≤ k ∧ i = .int .i64 k ∧ o = .slice qo N qa ∧ Hid (UpS w2 wr qo N qa ((KN.take k).flatMap (upO fw fn)))) (fun _ i _ => KL.length - (intOf i).toNat)
  case atStart => exact ⟨0, 0, none, 0, Nat.zero_le _, Nat.le_refl _, rfl, rfl, HU0⟩
  case round =>
    clear HU0
    obtain ⟨k, N, qo, qa, hk, hNk, rfl, rfl, HU⟩ := hrel
    by_cases hlt : k < KL.length
    · have hkN : k < KN.length := by have := unhide HLL; omega
      obtain ⟨b, off, rfl, hck⟩ := ((unhide HKI).below (unhide HU).k) k hlt
      rw [unhide HAT k hlt hkN] at hck
      have hp64 := unhide HLT k hkN
      have HST := hide (unhide HTK k hkN)
      have hlti : (k : Int) < (KL.length : Int) := by omega
      generalize KN[k] = p at *
      obtain ⟨ao, ca, hl1, hi1⟩ := (unhide HN2).below (unhide HU).k |>.look hp64
      obtain ⟨bo, cb, hl2, hi2⟩ := (unhide HW2).below (unhide HU).k |>.look hp64
      have HI1 := hide hi1
      have HI2 := hide hi2
      have HA1 := hide (unhide HLN p hp64)
      have HA2 := hide (unhide HLW p hp64)
      clear hi1 hi2
      have hN64 : N ≤ 64 := by have := unhide HPL; have := unhide HLL; omega
      go_wp2_with fail
      refine (like_any (rcG fn p) (rcG fw p) ao bo ca cb _ (by have := unhide HA1; unfold maxLen; omega) (by have := unhide HA2; unfold maxLen; omega) (unhide HI1) (unhide HI2)).mono ?_
      rintro e w3 ⟨rfl, hb3⟩
      have HU3 := hide ((unhide HU).next hb3)
      clear hb3 hl1 hl2 HI1 HI2 hck
      cases hlk : rcEq (rcG fn p) (rcG fw p)
      · have HSN : Hid ((KN.take (k + 1)).flatMap (upO fw fn) = (KN.take k).flatMap (upO fw fn) ++ [⟨(p : Int), rcT (rcG fn p)⟩]) := hide (by rw [unhide HST, upO, hlk]; rfl)
        clear hlk HST
        obtain ⟨ao, ca, hl1, hi1⟩ := (unhide HN2).below (unhide HU3).k |>.look hp64
        have HI1 := hide hi1
        clear hi1
        go_wp2_with fail
        refine (textR_any (rcG fn p) ao ca _ (by have := unhide HA1; omega) (unhide HI1)).mono ?_
        rintro e w5 ⟨rfl, hb5⟩
        have HU5 := hide ((unhide HU3).next hb5)
        clear hb5 hl1 HI1 HU3 HU
        generalize rcT (rcG fn p) = TX at *
        generalize (KN.take k).flatMap (upO fw fn) = LS at *
        have HUA := hide ((unhide HU5).next (Joins.below_alloc1 w5 (.cells #[.int .i64 (p : Int), .string TX] 55)))
        have HSZ := hide (unhide HUA).sz
        go_wp2_with (at_builtin; refine wpList_append_one rfl _ _ 50 rfl w2.heap.size 55 j0 (.agg #[.int .i64 0, .string ⟨#[]⟩]) 2 24 Try.underlying50 hj hy0 hy1 hy2 rfl (by omega) qo N qa (upsV LS) rfl (unhide HUA).o (unhide HSZ) ⟨w5.heap.size, 0, none⟩ _ (upV ⟨(p : Int), TX⟩) rfl rfl (news2_at w5 _ ⟨(p : Int), TX⟩ _ rfl) (upV_one _) (by unfold maxLen; omega) (by omega) ?_; intro g2 cap2 wA hoA hkA; have HU6 := hide (UpS.one (unhide HUA) hoA hkA); clear hoA hkA)
        go_roundw
        case rel => exact ⟨k + 1, N + 1, some ⟨g2, 0, none⟩, cap2, by omega, by omega, by go_num, rfl, by rw [unhide HSN]; exact HU6⟩
        case measure => simp [intOf]; omega
      · have HSN : Hid ((KN.take (k + 1)).flatMap (upO fw fn) = (KN.take k).flatMap (upO fw fn)) := hide (by rw [unhide HST, upO, hlk]; simp)
        clear hlk HST
        go_wp2
        go_roundw
        case rel => exact ⟨k + 1, N, qo, qa, by omega, by omega, by go_num, rfl, by rw [unhide HSN]; exact HU3⟩
        case measure => simp [intOf]; omega
    · have hNl := (unhide HU).len
      have hkk : k = KN.length := by have := unhide HLL; omega
      have HF : Hid (UpS w wr qo (upsF fw fn).length qa (upsF fw fn)) := hide (by
        have h := unhide HU
        rw [hNl, hkk, unhide HEN] at h
        exact ⟨h.o.base (unhide HB2).size, fr (unhide HB2) h.k⟩)
      have HL2 : Hid (N = (upsF fw fn).length) := hide (by rw [hNl, hkk, unhide HEN])
      clear hNl HU hkk
      go_wp2
      go_ret
      rw [unhide HL2]
      exact ⟨qo, qa, rfl, unhide HF⟩

end Go.Proofs.Ytmkegkpnomcnhab

/- Plain: the records by their places, as updates, are an image's updates; what one has otherwise than another. -/
namespace Go.Proofs.Ytmkegkpnomcnhab
open Go.RowKit
set_option linter.unusedVariables false
set_option maxRecDepth 100000

/-- A right record. -/
def RcR (r : Rc) : Prop := (1 ≤ r.1 ∧ r.1 ≤ 9) ∧ allB r.2 = true ∧ r.2.length ≤ 16
theorem rcR_text {r : Rc} (h : RcR r) : rcT r = sealS r.1 r.2 := by
  obtain ⟨hk, ha, hl⟩ := h
  exact sealT_ok (sealC_ok (listC_ok (by omega) (intsB_small ha (by omega))) (by simp [kindB, inB]; omega))
theorem rcR_inj {r s : Rc} (hr : RcR r) (hs : RcR s) (h : rcT r = rcT s) : r = s := by
  rw [rcR_text hr, rcR_text hs] at h
  obtain ⟨k1, a1, l1⟩ := hr
  obtain ⟨k2, a2, l2⟩ := hs
  have e1 : r.1 = s.1 := by rw [← kdR_seal k1 a1 l1, h, kdR_seal k2 a2 l2]
  have e2 : r.2 = s.2 := by
    have h1 := opR_seal k1 a1 l1
    have h2 := opR_seal k2 a2 l2
    rw [h, e1] at h1
    rw [← h1, h2]
  exact Prod.ext e1 e2
theorem rcAt_right {m : Img} (h : ImR m) {p : Nat} {r : Rc} (hr : rcAt m p = some r) : RcR r := by
  unfold rcAt at hr
  have hf := h.few
  split at hr
  · cases hr
    exact ⟨by simp, allB_snm h, by simp [supL]; omega⟩
  · split at hr
    · cases hr
      refine ⟨by simp, allB_true (fun j hj => ?_), by simp [ctNs]⟩
      have := ctNs_in h.refs j hj
      simp [numB, inB]; omega
    · split at hr
      · rw [Option.map_eq_some_iff] at hr
        obtain ⟨t, ht, rfl⟩ := hr
        have hm : tbB t = true := h.tabs t (List.mem_of_getElem? ht)
        exact ⟨by simp, tb_all hm, by have := tbB_len hm; simp; omega⟩
      · split at hr
        · rename_i hc
          cases hr
          have hcl : p - 15 < m.data.length := by rw [h.len]; omega
          refine ⟨by simp, ?_, by simp⟩
          simp only [allB, List.all_cons, List.all_nil, Bool.and_true]
          rw [show m.data.getD (p - 15) 0 = m.data[p - 15] by simp [List.getD, hcl]]
          exact h.nums _ (List.getElem_mem hcl)
        · cases hr
/-- A place's record as updates. -/
def onU (f : Nat → Option Rc) (p : Nat) : List Up := match f p with
  | none => []
  | some r => [⟨(p : Int), rcT r⟩]
theorem flat_filter {α β : Type} (q : α → Bool) (g : α → List β) : ∀ l : List α, (l.filter q).flatMap g = l.flatMap (fun x => if q x = true then g x else [])
  | [] => rfl
  | x :: l => by
    rw [List.filter_cons, List.flatMap_cons, ← flat_filter q g l]
    by_cases h : q x = true
    · rw [if_pos h, if_pos h, List.flatMap_cons]
    · rw [if_neg h, if_neg h]; rfl
theorem flat_congr {α β : Type} {g k : α → List β} : ∀ {l : List α}, (∀ x ∈ l, g x = k x) → l.flatMap g = l.flatMap k
  | [], _ => rfl
  | x :: l, h => by rw [List.flatMap_cons, List.flatMap_cons, h x (by simp), flat_congr (fun y hy => h y (by simp [hy]))]
theorem flat_none {α β : Type} {g : α → List β} : ∀ {l : List α}, (∀ x ∈ l, g x = []) → l.flatMap g = []
  | [], _ => rfl
  | x :: l, h => by rw [List.flatMap_cons, h x (by simp), flat_none (fun y hy => h y (by simp [hy]))]; rfl
theorem filter_flat {α β : Type} (q : β → Bool) (g : α → List β) : ∀ l : List α, (l.flatMap g).filter q = l.flatMap (fun x => (g x).filter q)
  | [] => rfl
  | x :: l => by rw [List.flatMap_cons, List.filter_append, filter_flat q g l, List.flatMap_cons]
theorem flat_map' {α β γ : Type} (u : α → β) (g : β → List γ) : ∀ l : List α, (l.map u).flatMap g = l.flatMap (fun x => g (u x))
  | [] => rfl
  | x :: l => by rw [List.map_cons, List.flatMap_cons, List.flatMap_cons, flat_map' u g l]
theorem range_parts : List.range 64 = List.range 9 ++ ([9, 10] ++ ((List.range 4).map (fun k => 11 + k) ++ ((List.range 24).map (fun c => 15 + c) ++ (List.range 25).map (fun q => 39 + q)))) := by decide
theorem onU_tabs {m : Img} (h : ImR m) : (List.range 4).flatMap (fun k => onU (rcAt m) (11 + k)) = ⟨11, encTb m.table⟩ :: tabU 0 m.snaps := by
  have hT : ∀ k, k < 4 → onU (rcAt m) (11 + k) = match (imTabs m)[k]? with
      | none => []
      | some t => [⟨11 + (k : Int), encTb t⟩] := fun k hk => by
    unfold onU
    rw [rcAt_tab hk]
    cases ht : (imTabs m)[k]? with
    | none => rfl
    | some t =>
      have hm : tbB t = true := h.tabs t (List.mem_of_getElem? ht)
      simp only [Option.map_some]
      rw [show rcT (3, t) = encTb t from (tb_seal hm).2]
      simp
  have hf := h.few
  rw [flat_congr (k := fun k => match (imTabs m)[k]? with
      | none => []
      | some t => [⟨11 + (k : Int), encTb t⟩]) (fun k hk => hT k (List.mem_range.1 hk))]
  unfold imTabs
  match hs : m.snaps, hf with
  | [], _ => simp [List.range_succ, tabU]
  | [s1], _ => simp [List.range_succ, tabU]
  | [s1, s2], _ => simp [List.range_succ, tabU]
  | [s1, s2, s3], _ => simp [List.range_succ, tabU]
  | s1 :: s2 :: s3 :: s4 :: r, hf => exact absurd hf (by simp)
theorem allU_places {m : Img} (h : ImR m) : allU m = (List.range 64).flatMap (onU (rcAt m)) := by
  rw [range_parts, List.flatMap_append, List.flatMap_append, List.flatMap_append, List.flatMap_append, flat_map', flat_map', flat_map']
  rw [flat_none (l := List.range 9) (fun p hp => by unfold onU; rw [rcAt_none (.inl (List.mem_range.1 hp))]), List.nil_append]
  rw [flat_none (l := List.range 25) (fun p hp => by unfold onU; rw [rcAt_none (.inr (by omega))]), List.append_nil]
  rw [onU_tabs h]
  have h9 : ([9, 10] : List Nat).flatMap (onU (rcAt m)) = [⟨9, sealS 1 (supL m)⟩, ⟨10, encT m.refs⟩] := by
    have e1 : rcT (1, supL m) = sealS 1 (supL m) := rcR_text ⟨by simp, allB_snm h, by have := h.few; simp [supL]; omega⟩
    have e2 : rcT (2, ctNs m.refs) = encT m.refs := (ct_seal h.refs).2
    have a1 : rcAt m 9 = some (1, supL m) := by simp [rcAt]
    have a2 : rcAt m 10 = some (2, ctNs m.refs) := by simp [rcAt]
    simp only [List.flatMap_cons, List.flatMap_nil, onU, a1, a2, e1, e2]
    rfl
  rw [h9]
  have hd : (List.range 24).flatMap (fun c => onU (rcAt m) (15 + c)) = dataU m 24 := flat_congr (fun c hc => by
    have hc' := List.mem_range.1 hc
    unfold onU
    rw [rcAt_dat hc', datU]
    by_cases hp : 0 < m.refs.getD c 0
    · rw [if_pos hp, if_pos hp]
      have hcl : c < m.data.length := by rw [h.len]; exact hc'
      have hnum : numB (m.data.getD c 0) = true := by
        rw [show m.data.getD c 0 = m.data[c] by simp [List.getD, hcl]]
        exact h.nums _ (List.getElem_mem hcl)
      have e4 : rcT (4, [m.data.getD c 0]) = sealS 4 [m.data.getD c 0] := rcR_text ⟨by simp, by simp only [allB, List.all_cons, List.all_nil, hnum, Bool.and_true], by simp⟩
      simp only [e4]
      simp
    · rw [if_neg hp, if_neg hp])
  rw [hd]
  simp [allU, headU]
theorem upsF_range (fw fn : Nat → Option Rc) : upsF fw fn = (List.range 64).flatMap (fun p => if (fn p).isSome = true then upO fw fn p else []) := flat_filter _ _ _
/-- From nothing: all of them. -/
theorem upsF_all {m : Img} (h : ImR m) : upsF (fun _ => none) (rcAt m) = allU m := by
  rw [upsF_range, allU_places h]
  refine flat_congr (fun p _ => ?_)
  cases hr : rcAt m p with
  | none => simp [onU, hr]
  | some r =>
    have hk := (rcAt_right h hr).1
    simp only [Option.isSome_some, if_true, upO, onU, rcG, hr, Option.getD_some, Option.getD_none]
    rw [if_neg (by intro h2; rw [rcEq_iff] at h2; rw [h2] at hk; simp at hk)]
theorem mem_allU {m : Img} (h : ImR m) {v : Up} : v ∈ allU m ↔ ∃ p, p < 64 ∧ ∃ r, rcAt m p = some r ∧ v = ⟨(p : Int), rcT r⟩ := by
  rw [allU_places h, List.mem_flatMap]
  constructor
  · rintro ⟨p, hp, hv⟩
    refine ⟨p, List.mem_range.1 hp, ?_⟩
    unfold onU at hv
    cases hr : rcAt m p with
    | none => rw [hr] at hv; cases hv
    | some r => rw [hr] at hv; exact ⟨r, rfl, by simpa using hv⟩
  · rintro ⟨p, hp, r, hr, rfl⟩
    exact ⟨p, List.mem_range.2 hp, by unfold onU; rw [hr]; simp⟩
/-- What one has otherwise than another. -/
theorem upsF_dif {a b : Img} (ha : ImR a) (hb : ImR b) : upsF (rcAt a) (rcAt b) = difU a b := by
  rw [upsF_range, difU, allU_places hb, filter_flat]
  refine flat_congr (fun p hp => ?_)
  have hp64 := List.mem_range.1 hp
  cases hr : rcAt b p with
  | none => simp [onU, hr]
  | some r =>
    have hRr := rcAt_right hb hr
    simp only [Option.isSome_some, if_true, onU, hr, upO]
    have hg : rcG (rcAt b) p = r := by simp [rcG, hr]
    rw [hg]
    have key : rcEq r (rcG (rcAt a) p) = (allU a).any (fun v => upEq v ⟨(p : Int), rcT r⟩) := by
      rw [Bool.eq_iff_iff, rcEq_iff, List.any_eq_true]
      constructor
      · intro e
        have hs : rcAt a p = some r := by
          cases hs : rcAt a p with
          | none => rw [rcG, hs] at e; have := hRr.1; rw [e] at this; simp at this
          | some s => rw [rcG, hs] at e; rw [e]; rfl
        exact ⟨⟨(p : Int), rcT r⟩, (mem_allU ha).2 ⟨p, hp64, r, hs, rfl⟩, by simp [upEq]⟩
      · rintro ⟨v, hv, he⟩
        obtain ⟨q, hq, s, hs, rfl⟩ := (mem_allU ha).1 hv
        simp only [upEq, Bool.and_eq_true, decide_eq_true_eq] at he
        have hqp : q = p := by omega
        subst hqp
        rw [rcG, hs]
        exact (rcR_inj (rcAt_right ha hs) hRr he.2).symm
    rw [key, List.filter_cons, List.filter_nil]
    cases (allU a).any (fun v => upEq v ⟨(p : Int), rcT r⟩) <;> rfl
theorem rcG_len {m : Img} (h : ImR m) (p : Nat) : (rcG (rcAt m) p).2.length ≤ 1000 := by
  unfold rcG
  cases hr : rcAt m p with
  | none => simp
  | some r => have := (rcAt_right h hr).2.2; simp; omega

end Go.Proofs.Ytmkegkpnomcnhab

/- Contracts of the program's ImageUpdates, DiffUpdates. -/
namespace Go.Proofs.Ytmkegkpnomcnhab
open Go.RowKit Go.Maps
set_option linter.unusedVariables false
set_option maxRecDepth 100000

/-- An image's updates, by its records. -/
theorem recUps_any (a : Img) (h : ImR a) (B n : Nat) (D : DataW Value) (w : World) (hm : MpR w B n D (rcAt a)) (hn : n ≤ 1000) :
    Calls Try.prog 21 #[.map none, .map (some B)] w fun e w' => ∃ qo qa, e = .returned (.slice qo (allU a).length qa) ∧ UpS w w' qo (allU a).length qa (allU a) := by
  have := updatesFrom_any none B n D (fun _ => none) (rcAt a) w (.inl ⟨rfl, rfl⟩) hm hn (fun p _ => by simp [rcG]) (fun p _ => rcG_len h p)
  rwa [upsF_all h] at this

end Go.Proofs.Ytmkegkpnomcnhab

/- The contract of the program's Format. -/
namespace Go.Proofs.Ytmkegkpnomcnhab
open Go.RowKit Go.Maps
set_option linter.unusedVariables false
set_option maxRecDepth 100000

theorem inB_betw (n : Int) (a b : Int) : inB n a b = betw n a b := rfl
/-- An update in a variable. -/
def VarU1 (w : World) (x : Nat) (u : Up) : Prop := w.heap[x]? = some (.cells #[.int .i64 u.at_, .string u.data] 55 (0, 0))
theorem VarU1.cells {w : World} {x : Nat} {u : Up} (k : VarU1 w x u) : w.cell? ⟨x, 0, none⟩ = some (.int .i64 u.at_) ∧ w.cell? ⟨x, 1, none⟩ = some (.string u.data) := ⟨by rw [Joins.cell_of_block k]; rfl, by rw [Joins.cell_of_block k]; rfl⟩
theorem take_right {ss : List ByteArray} {xs : List Wr} {F : List Wr} (hd : diskB ss (xs ++ F) = true) (k : Nat) : diskB ss (xs ++ F.take k) = true := by
  obtain ⟨⟨a1, a2⟩, a3, a4⟩ := diskB_parts.1 hd
  refine diskB_parts.2 ⟨⟨a1, a2⟩, ?_, fun y hy => a4 y ?_⟩
  · rw [List.length_append] at a3 ⊢
    rw [List.length_take]
    omega
  · rcases List.mem_append.1 hy with h1 | h1
    · exact List.mem_append_left _ h1
    · exact List.mem_append_right _ (List.mem_of_mem_take h1)

set_option maxHeartbeats 6400000 in
theorem format_impl (ao bo : Option Addr) (ca cb : Nat) (ss : List ByteArray) (xs : List Wr) (h k : Int) (w : World) (hl : ss.length ≤ maxLen) (hm : xs.length ≤ maxLen) (h1 : Ss w ao ss) (h2 : Ios w bo xs) :
    Calls Try.prog 7 #[.agg #[.slice ao ss.length ca, .slice bo xs.length cb], .int .i64 h, .int .i64 k] w fun e w' => ∃ po pa qo qa, e = .returned (.tuple #[.agg #[.slice po (foS ss xs h k).length pa, .slice qo (foX ss xs h k).length qa], .int .i64 (foC ss xs h k)]) ∧ OwnD w' w.heap.size po (foS ss xs h k).length pa qo (foX ss xs h k).length qa (foS ss xs h k) (foX ss xs h k) ∧ Below w.heap.size w w' := by
  have HA := hide (Joins.below_alloc2 w (.cells #[.slice ao ss.length ca, .slice bo xs.length cb] 29) (.cells #[.slice none 0 0, .slice none 0 0] 29))
  have HR : Hid (VarD ((w.alloc (.cells #[.slice ao ss.length ca, .slice bo xs.length cb] 29)).alloc (.cells #[.slice none 0 0, .slice none 0 0] 29)) (w.heap.size + 1) (.slice none 0 0) (.slice none 0 0)) := hide (by have := VarD.new (w.alloc (.cells #[.slice ao ss.length ca, .slice bo xs.length cb] 29)) (.slice none 0 0) (.slice none 0 0); simpa using this)
  have H0 : Hid (DkA w ((w.alloc (.cells #[.slice ao ss.length ca, .slice bo xs.length cb] 29)).alloc (.cells #[.slice none 0 0, .slice none 0 0] 29)) w.heap.size ao ca bo cb ss xs) := hide ⟨(VarD.new w _ _).below (Joins.below_alloc1 _ _), h1.below (unhide HA), h2.below (unhide HA), unhide HA⟩
  have HL := hide hl
  have HM := hide hm
  clear h1 h2 hl hm
  go_enter Try.func7, Try.ntmps7
  go_upto_region 1 with fail
  revert H0
  revert HR
  revert HA
  generalize hW0 : ((w.alloc _).alloc _) = W0
  have hsz0 : w.heap.size + 1 < W0.heap.size := by rw [← hW0]; simp
  clear hW0
  intro HA HR H0
  obtain ⟨v0, v1⟩ := (unhide H0).v.cells
  go_wp2_with fail
  refine (hostFault_any ao bo ca cb ss xs h _ (unhide HL) (unhide HM) (unhide H0).s (unhide H0).i).mono ?_
  rintro e w1 ⟨rfl, hb⟩
  have HD1 := hide ((unhide H0).next hb)
  have HR1 := hide ((unhide HR).below hb)
  have hsz1 : w.heap.size + 1 < w1.heap.size := Nat.lt_of_lt_of_le hsz0 hb.size
  clear hb v0 v1 H0 HR HA hsz0
  by_cases hc : hostC ss xs h = 0
  case neg =>
    have hbn : (hostC ss xs h != 0) = true := by simp [hc]
    have HE := hide (fo_bad (n := k) hc)
    clear hc
    obtain ⟨r0, r1⟩ := (unhide HR1).cells
    have rf0 := (unhide HR1).free 0
    have rf1 := (unhide HR1).free 1
    have HZ := hide (zero_end (w := w) (wL := w1) (unhide HD1).k (.slice none 0 0) (.slice none 0 0))
    go_wp2
    refine bodyPost_ret (v := .tuple #[.agg #[.slice none 0 0, .slice none 0 0], .int .i64 (hostC ss xs h)]) (by simp [results, Try.results7, go_sem, r0, r1]) rfl ?_
    rw [(unhide HE).1, (unhide HE).2.1, (unhide HE).2.2]
    exact ⟨none, 0, none, 0, rfl, zeroD_own, unhide HZ⟩
  have hbn : (hostC ss xs h != 0) = false := by simp [hc]
  have HDB := hide (hostC_eq hc).1
  obtain ⟨hh0, hh3⟩ := (hostC_eq hc).2
  have HC := hide hc
  have hlx := (diskB_len (unhide HDB)).2
  have HLS : Hid (ss.length ≤ 1048576) := hide (by have := (diskB_len (unhide HDB)).1; omega)
  clear hc
  have HNE : Hid (niF k = if inB k 0 12 = true then 0 else 4) := hide rfl
  go_wp2_with fail
  refine (newImage_impl k _).mono ?_
  rintro e w2 ⟨a, ts, rfl, ho, hb⟩
  have HD2 := hide ((unhide HD1).next hb)
  have HR2 := hide ((unhide HR1).below hb)
  have HIS := hide (ho.shows (fun s hs => by unfold niI imNew im0 at hs; split at hs <;> cases hs))
  have hsz2 : w.heap.size + 1 < w2.heap.size := Nat.lt_of_lt_of_le hsz1 hb.size
  clear ho hb HD1 HR1
  simp only
  generalize hNI : niI k = NI at *
  have HNI := hide hNI
  clear hNI
  have HVI := hide (VarM.new w2 47 (.slice a.ro NI.refs.length a.rc) (.slice a.tq NI.table.length a.tc) (.slice a.so NI.snaps.length a.sc) (.slice a.dq NI.data.length a.dc))
  have HAI := hide (Joins.below_alloc1 w2 (.cells #[.slice a.ro NI.refs.length a.rc, .slice a.tq NI.table.length a.tc, .slice a.so NI.snaps.length a.sc, .slice a.dq NI.data.length a.dc] 47))
  have HD3 := hide ((unhide HD2).next (unhide HAI))
  have HR3 := hide ((unhide HR2).below (unhide HAI))
  have HI3 := hide ((unhide HIS).below (unhide HAI))
  have hsz3 := Nat.lt_of_lt_of_le hsz2 (unhide HAI).size
  clear HD2 HR2 HIS
  go_upto_region 5 with fail
  revert hsz3
  revert HI3
  revert HR3
  revert HD3
  revert HAI
  revert HVI
  generalize w2.heap.size = xi
  generalize (w2.alloc _) = w3
  intro HVI HAI HD3 HR3 HI3 hsz3
  clear HAI hsz2 hsz1
  cases hp : inB k 0 12
  · have HE := hide (fo_range (unhide HC) hp)
    have HN4 : Hid (niF k = 4) := hide (by rw [unhide HNE, hp]; rfl)
    rw [unhide HN4]
    obtain ⟨r0, r1⟩ := (unhide HR3).cells
    have rf0 := (unhide HR3).free 0
    have rf1 := (unhide HR3).free 1
    have HZ := hide (zero_end (w := w) (wL := w3) (unhide HD3).k (.slice none 0 0) (.slice none 0 0))
    clear hp
    go_wp2
    refine bodyPost_ret (v := .tuple #[.agg #[.slice none 0 0, .slice none 0 0], .int .i64 4]) (by simp [results, Try.results7, go_sem, r0, r1]) rfl ?_
    rw [(unhide HE).1, (unhide HE).2.1, (unhide HE).2.2]
    exact ⟨none, 0, none, 0, rfl, zeroD_own, unhide HZ⟩
  obtain ⟨hk0, hk1⟩ := inB_eq hp
  obtain ⟨n, rfl⟩ : ∃ n : Nat, k = (n : Int) := ⟨k.toNat, by omega⟩
  have hn : n ≤ 12 := by omega
  have HN0 : Hid (niF (n : Int) = 0) := hide (by rw [unhide HNE, hp]; rfl)
  have HNM : Hid (NI = imNew n) := hide (by rw [← unhide HNI, niI, if_pos (unhide HN0)]; simp)
  rw [unhide HN0]
  have HIR := hide (ImR.new hn)
  have HP := hide hp
  clear hp HNI HNE
  replace HNM := unhide HNM
  subst HNM
  obtain ⟨i0, i1, i2, i3⟩ := (unhide HVI).cells
  go_wp2_with fail
  refine (recordsOf_any a (imNew n) _ (unhide HIR) (unhide HI3)).mono ?_
  rintro e w4 ⟨B, nb, D, rfl, hnb, hge, hmp, hb⟩
  have HD4 := hide ((unhide HD3).next hb)
  have HR4 := hide ((unhide HR3).below hb)
  have HMP := hide hmp
  have hsz4 := Nat.lt_of_lt_of_le hsz3 hb.size
  clear hmp hb i0 i1 i2 i3 HD3 HR3 hge hsz3
  go_wp2_with fail
  refine (recUps_any (imNew n) (unhide HIR) B nb D _ (unhide HMP) hnb).mono ?_
  rintro e w5 ⟨uo, ua, rfl, hu⟩
  have HD5 := hide ((unhide HD4).next hu.k)
  have HR5 := hide ((unhide HR4).below hu.k)
  have HU5 := hide hu.o
  clear hu HD4 HR4
  have HUL : Hid ((allU (imNew n)).length = 3) := hide (by rw [allU_new]; rfl)
  have HUZ : Hid (∀ u ∈ allU (imNew n), u.data.size ≤ maxLen) := hide (fun u hu => by have := allU_sz (unhide HIR) u hu; unfold maxLen; omega)
  have HUA : Hid (∀ u ∈ allU (imNew n), u.data.size ≤ 80 ∧ 0 ≤ u.at_ ∧ u.at_ ≤ 63) := hide (fun u hu => by
    refine ⟨allU_sz (unhide HIR) u hu, ?_⟩
    rw [allU_new] at hu
    simp only [headU, List.mem_cons, List.not_mem_nil, or_false] at hu
    rcases hu with rfl | rfl | rfl <;> simp)
  have HFU : Hid (fuW h n = fmW h (allU (imNew n))) := hide rfl
  obtain ⟨v0, v1⟩ := (unhide HD5).v.cells
  have wr1 : IntKind.i64.wrap ((xs.length : Int) + 3) = (xs.length : Int) + 3 := by rw [IntKind.wrap_i64]; omega
  rw [unhide HUL] at HU5 ⊢
  by_cases hf : 200 < xs.length + 3
  · have HW := hide (fo_full (unhide HC) (unhide HP) hf)
    have hfi : (xs.length : Int) + 3 > 200 := by omega
    go_wp2_with fail
    refine (copyDisk_any ao bo ca cb ss xs _ (unhide HLS) (by omega) (unhide HD5).s (unhide HD5).i).mono ?_
    rintro e w6 ⟨po, pa, qo, qa, rfl, ho, hb⟩
    have HR6 := hide ((unhide HR5).below hb)
    obtain ⟨r0, r1⟩ := (unhide HR6).cells
    have rf0 := (unhide HR6).free 0
    have rf1 := (unhide HR6).free 1
    have HO := hide (fun u v => md_end (unhide HR6) (fr (unhide HD5).k hb) (Nat.le_succ _) (ho.base (unhide HD5).k.size) u v)
    clear ho hb v0 v1
    go_wp2
    refine bodyPost_ret (v := .tuple #[.agg #[.slice po ss.length pa, .slice qo xs.length qa], .int .i64 7]) (by simp [results, Try.results7, go_sem, r0, r1]) rfl ?_
    rw [(unhide HW).1, (unhide HW).2.1, (unhide HW).2.2]
    exact ⟨po, pa, qo, qa, rfl, unhide HO _ _⟩
  have HW := hide (fo_ok (unhide HC) (unhide HP) hf)
  have hfi : ¬ ((xs.length : Int) + 3 > 200) := by omega
  have HRG := hide (fuW_right (n := n) (unhide HDB) ⟨hh0, hh3⟩ hn (by omega))
  rw [unhide HFU] at HRG HW
  clear HFU HMP HIR HI3 HVI
  generalize allU (imNew n) = us at *
  go_wp2
  clear v0 v1
  go_loopw [44] (fun i wr => ∃ (j : Nat) (XX : List Wr) (po : Option Addr) (pa : Nat) (qo : Option Addr) (qa : Nat), j ≤ 3 ∧ i = .int .i64 j ∧ Hid (xs ++ (fmW h us).take j = XX) ∧ Hid (DkA w wr w.heap.size po pa qo qa ss XX) ∧ Hid (VarD wr (w.heap.size + 1) (.slice none 0 0) (.slice none 0 0)) ∧ Hid (OwnR wr w4.heap.size 55 2 (.slice uo 3 ua) 3 (upsV us))) (fun i _ => 3 - (intOf i).toNat)
  case atStart => exact ⟨0, xs, ao, ca, bo, cb, by omega, rfl, hide (by simp), HD5, HR5, HU5⟩
  case round =>
    clear HD5 HR5 HU5
    obtain ⟨j, XX, po, pa, qo, qa, hj, rfl, HEX, HD, HR, HU⟩ := hrel
    by_cases hlt : j < 3
    · have hju : j < us.length := by rw [unhide HUL]; exact hlt
      have hji : (j : Int) < 3 := by omega
      have HUS : Hid (Ups wr uo us) := hide (by
        have h := unhide HU
        rw [← unhide HUL] at h
        exact ownUps h (unhide HUZ))
      obtain ⟨b, off, rfl, hu0, hu1, _⟩ := unhide HUS j hju
      have HX := hide (heap_alloc_new wr (.cells #[.int .i64 us[j].at_, .string us[j].data] 55))
      have HBX := hide (Joins.below_alloc1 wr (.cells #[.int .i64 us[j].at_, .string us[j].data] 55))
      go_upto_region 13 with fail
      revert HX
      revert HBX
      generalize (wr.alloc _) = w6
      intro HBX HX
      obtain ⟨x0, x1⟩ := VarU1.cells (u := us[j]) (unhide HX)
      have HD6 := hide ((unhide HD).next (unhide HBX))
      have HR6 := hide ((unhide HR).below (unhide HBX))
      have HU6 := hide ((unhide HU).below (unhide HBX))
      clear HX HBX hu0 hu1 HUS HD HR HU
      obtain ⟨d0, d1⟩ := (unhide HD6).v.cells
      obtain ⟨az, a0, a1⟩ := unhide HUA us[j] (List.getElem_mem hju)
      obtain ⟨X7, HX7⟩ : ∃ X7, Hid (xs ++ (fmW h us).take (j + 1) = X7) := ⟨_, hide rfl⟩
      have HN : Hid (XX ++ [⟨h, us[j].at_, us[j].data⟩] = X7) := hide (by rw [← unhide HX7, ← unhide HEX]; exact (fmW_succ hju xs).symm)
      have hXl : XX.length < 200 := by rw [← unhide HEX, List.length_append, List.length_take, fmW_len, unhide HUL]; omega
      have HDK : Hid (diskB ss XX = true) := hide (by rw [← unhide HEX]; exact take_right (unhide HRG) j)
      have HZK : Hid ((∀ s ∈ ss, s.size ≤ maxLen) ∧ ∀ x ∈ X7, x.data.size ≤ maxLen) := hide (by rw [← unhide HX7]; exact right_sz2 (take_right (unhide HRG) (j + 1)))
      go_wp2_with fail
      refine (write_own po qo pa qa ss XX h us[j].at_ us[j].data X7 _ (unhide HN) (unhide HDK) hXl az hh0 hh3 a0 a1 (unhide HD6).s (unhide HD6).i).mono ?_
      rintro e w7 ⟨po7, pa7, qo7, qa7, rfl, ho, hb⟩
      have HS7 := hide (ho.ss (unhide HZK).1)
      have HI7 := hide (ho.ios (unhide HZK).2)
      have HD7 := hide ((unhide HD6).next hb)
      have HR7 := hide ((unhide HR6).below hb)
      have HU7 := hide ((unhide HU6).below hb)
      clear ho hb d0 d1 x0 x1 HD6 HR6 HU6 HDK HZK HN
      obtain ⟨t0, t1⟩ := (unhide HD7).v.cells
      have tf0 := (unhide HD7).v.free 0
      have tf1 := (unhide HD7).v.free 1
      have HDn := hide ((unhide HD7).put (pa' := pa7) (qa' := qa7) (Nat.le_refl _) rfl rfl (unhide HS7) (unhide HI7))
      have HRn := hide (((unhide HR7).apart (y := w.heap.size) (by omega) 0 (.slice po7 ss.length pa7)).apart (y := w.heap.size) (by omega) 1 (.slice qo7 X7.length qa7))
      have HUn := hide (UpS.setC (unhide HU7) (x := w.heap.size) (by omega) (.slice po7 ss.length pa7) (.slice qo7 X7.length qa7))
      go_wp2
      go_roundw
      case rel => exact ⟨j + 1, X7, po7, pa7, qo7, qa7, by omega, by go_num, HX7, HDn, HRn, HUn⟩
      case measure => simp [intOf]; omega
    · obtain rfl : j = 3 := by omega
      have HDE := HD
      have HXE : Hid (xs ++ fmW h us = XX) := hide (by
        have := unhide HEX
        rwa [List.take_of_length_le (by rw [fmW_len, unhide HUL]; exact Nat.le_refl _)] at this)
      clear HD HU
      rw [unhide HXE] at HW HRG
      obtain ⟨S, HES⟩ : ∃ S, Hid (putW ss (ofH h XX) = S) := ⟨_, hide rfl⟩
      obtain ⟨Y, HEY⟩ : ∃ Y, Hid (dropF h XX = Y) := ⟨_, hide rfl⟩
      rw [unhide HES, unhide HEY] at HW
      obtain ⟨d0, d1⟩ := (unhide HDE).v.cells
      go_wp2_with fail
      refine (flush_own po qo pa qa ss XX h S Y _ (unhide HES) (unhide HEY) (unhide HRG) hh0 hh3 (unhide HDE).s (unhide HDE).i).mono ?_
      rintro e w8 ⟨po8, pa8, qo8, qa8, rfl, ho, hb⟩
      have HR8 := hide ((unhide HR).below hb)
      obtain ⟨r0, r1⟩ := (unhide HR8).cells
      have rf0 := (unhide HR8).free 0
      have rf1 := (unhide HR8).free 1
      have HO := hide (fun u v => md_end (unhide HR8) (fr (unhide HDE).k hb) (Nat.le_succ _) (ho.base (unhide HDE).k.size) u v)
      clear ho hb d0 d1
      go_wp2
      refine bodyPost_ret (v := .tuple #[.agg #[.slice po8 S.length pa8, .slice qo8 Y.length qa8], .int .i64 0]) (by simp [results, Try.results7, go_sem, r0, r1]) rfl ?_
      rw [(unhide HW).1, (unhide HW).2.1, (unhide HW).2.2]
      exact ⟨po8, pa8, qo8, qa8, rfl, unhide HO _ _⟩

end Go.Proofs.Ytmkegkpnomcnhab

/- The walk of laws.FnExactFormat. -/
namespace Go.Proofs.Ytmkegkpnomcnhab
open Go.RowKit
set_option linter.unusedVariables false
set_option maxRecDepth 100000

theorem fo_bd (ss : List ByteArray) (xs : List Wr) (h k : Int) : (∀ s ∈ foS ss xs h k, s.size ≤ maxLen) ∧ (∀ x ∈ foX ss xs h k, x.data.size ≤ maxLen) ∧ (foS ss xs h k).length ≤ 2097152 ∧ (foX ss xs h k).length ≤ 2097152 := by
  by_cases hc : hostC ss xs h = 0
  case neg =>
    obtain ⟨e1, e2, _⟩ := fo_bad (n := k) hc
    rw [e1, e2]
    simp
  obtain ⟨hd, hh⟩ := hostC_eq hc
  obtain ⟨l1, l2⟩ := diskB_len hd
  cases hp : inB k 0 12
  · obtain ⟨e1, e2, _⟩ := fo_range hc hp
    rw [e1, e2]
    simp
  obtain ⟨hk0, hk1⟩ := inB_eq hp
  obtain ⟨n, rfl⟩ : ∃ n : Nat, k = (n : Int) := ⟨k.toNat, by omega⟩
  by_cases hf : 200 < xs.length + 3
  · obtain ⟨e1, e2, _⟩ := fo_full hc hp hf
    rw [e1, e2]
    have := right_sz2 hd
    exact ⟨this.1, this.2, by omega, by omega⟩
  · obtain ⟨e1, e2, _⟩ := fo_ok hc hp hf
    rw [e1, e2]
    have hp2 := fuW_right (n := n) hd hh (by omega) (by omega)
    have := right_sz2 (S := putW ss (ofH h (xs ++ fuW h n))) (X := dropF h (xs ++ fuW h n)) (diskB_put hp2 (fun x hx => of_mem hx) (fun x hx => drop_mem hx) (drop_le h (xs ++ fuW h n)))
    refine ⟨this.1, this.2, by rw [put_len]; omega, ?_⟩
    have := drop_le h (xs ++ fuW h n)
    rw [List.length_append, fuW_len] at this
    omega
theorem wkFormat (ao bo : Option Addr) (ca cb : Nat) (ss : List ByteArray) (xs : List Wr) (h k : Int) (w : World) (hl : ss.length ≤ maxLen) (hm : xs.length ≤ maxLen) (hc : Ss w ao ss) (hd : Ios w bo xs) (hh : (Lit.int .i64 h).wf = true) (hk : (Lit.int .i64 k).wf = true) :
    Calls Try.prog 3 #[.agg #[.slice ao ss.length ca, .slice bo xs.length cb], .int .i64 h, .int .i64 k] w fun e w' => e = .returned (.bool true) ∧ Below w.heap.size w w' :=
  lawFormat ao bo ca cb ss xs h k (foS ss xs h k) (foX ss xs h k) (foC ss xs h k) w hl hm hc hd hh hk (fo_bd ss xs h k)
    (fun po qo pa qa W h1 h2 => format_spec po qo pa qa ss xs h k W hl hm h1 h2) (fun po qo pa qa W h1 h2 => format_impl po qo pa qa ss xs h k W hl hm h1 h2)

end Go.Proofs.Ytmkegkpnomcnhab
