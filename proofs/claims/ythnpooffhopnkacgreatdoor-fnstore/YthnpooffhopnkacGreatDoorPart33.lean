import Derived.Test.YthnpooffhopnkacGreatDoorRows
import Derived.Test.YthnpooffhopnkacGreatDoorPart1
import Derived.Test.YthnpooffhopnkacGreatDoorPart2
import Derived.Test.YthnpooffhopnkacGreatDoorPart3
import Derived.Test.YthnpooffhopnkacGreatDoorPart26
import Derived.Test.YthnpooffhopnkacGreatDoorPart27
import Derived.Test.YthnpooffhopnkacGreatDoorPart30
import Derived.Test.YthnpooffhopnkacGreatDoorStK
import Derived.WalkKit
import Derived.WalkSpells
import Derived.KernelRfl
import Derived.LoopN
import Derived.Test.YthnpooffhopnkacGreatDoorPart25
import Derived.Test.YthnpooffhopnkacGreatDoorPart6
import Derived.Test.YthnpooffhopnkacGreatDoorPart8
import Derived.Test.YthnpooffhopnkacGreatDoorPart15
import Derived.Test.YthnpooffhopnkacGreatDoorPart29
import Derived.Test.YthnpooffhopnkacGreatDoorStL
import Derived.Test.YthnpooffhopnkacGreatDoorPart18

/- The contract of the program's updatesFrom: what records are otherwise, rising by their places. -/
namespace Go.Proofs.YthnpooffhopnkacGreatDoor
open Go.RowKit Go.Maps
set_option linter.unusedVariables false
set_option maxRecDepth 100000

/-- A map that may be nil. -/
def MpO (w : World) (o : Option Nat) (f : Nat → Option Rc) : Prop := (o = none ∧ f = fun _ => none) ∨ ∃ B n D, o = some B ∧ MpR w B n D f
theorem MpO.below {w w' : World} {o : Option Nat} {f : Nat → Option Rc} (h : MpO w o f) (hb : Below w.heap.size w w') : MpO w' o f := by
  rcases h with h | ⟨B, n, D, e, h⟩
  · exact .inl h
  · exact .inr ⟨B, n, D, e, h.below hb⟩
/-- The record at a place, or a zero one. -/
def rcG (f : Nat → Option Rc) (p : Nat) : Rc := (f p).getD (0, [])
theorem MpO.look {w : World} {o : Option Nat} {f : Nat → Option Rc} (h : MpO w o f) {p : Nat} (hp : p < 64) : ∃ ao cap, (Instr.lookup 59 (.map o) (.int .i64 (p : Int)) false).run Tryz.prog w = .ok (rcV (rcG f p) ao cap) w ∧ Is w ao (rcG f p).2 := by
  rcases h with ⟨rfl, rfl⟩ | ⟨B, n, D, rfl, h⟩
  · exact ⟨none, 0, miss_nil hp w, fun i hi => by simp [rcG] at hi⟩
  · cases hf : f p with
    | none => exact ⟨none, 0, by rw [rcG, hf]; exact h.miss hp hf, fun i hi => by simp [rcG, hf] at hi⟩
    | some r =>
      obtain ⟨ao, cap, h1, h2⟩ := h.look hp hf
      exact ⟨ao, cap, by rw [rcG, hf]; exact h1, by rw [rcG, hf]; exact h2⟩
/-- What one place gives. -/
def upO (fw fn : Nat → Option Rc) (p : Nat) : List Up := if rcEq (rcG fn p) (rcG fw p) = true then [] else [⟨(p : Int), rcT (rcG fn p)⟩]
def upsF (fw fn : Nat → Option Rc) : List Up := (plcN fn).flatMap (upO fw fn)
theorem upO_len (fw fn : Nat → Option Rc) (p : Nat) : (upO fw fn p).length ≤ 1 := by unfold upO; split <;> simp
theorem take_flat {α β : Type} (g : α → List β) {l : List α} {k : Nat} (hk : k < l.length) : (l.take (k + 1)).flatMap g = (l.take k).flatMap g ++ g l[k] := by
  rw [List.take_succ_eq_append_getElem hk, List.flatMap_append]; simp
theorem plcN_len (f : Nat → Option Rc) : (plcN f).length ≤ 64 := by
  have := List.length_filter_le (fun p => (f p).isSome) (List.range 64)
  simpa [plcN] using this

set_option maxHeartbeats 3200000 in
theorem updatesFrom_any (ow : Option Nat) (B n : Nat) (D : DataW Value) (fw fn : Nat → Option Rc) (w : World) (hw : MpO w ow fw) (hn : MpR w B n D fn) (hn2 : n ≤ 1000)
    (hlw : ∀ p, p < 64 → (rcG fw p).2.length ≤ 1000) (hln : ∀ p, p < 64 → (rcG fn p).2.length ≤ 1000) :
    Calls Tryz.prog 21 #[.map ow, .map (some B)] w fun e w' => ∃ qo qa, e = .returned (.slice qo (upsF fw fn).length qa) ∧ UpS w w' qo (upsF fw fn).length qa (upsF fw fn) := by
  have HW := hide hw
  have HN := hide hn
  have HLW := hide hlw
  have HLN := hide hln
  have HPL := hide (plcN_len fn)
  have HLL : Hid ((plcL fn).length = (plcN fn).length) := hide (by simp [plcL])
  have HAT : Hid (∀ k (h : k < (plcL fn).length) (h2 : k < (plcN fn).length), (plcL fn)[k] = ((plcN fn)[k] : Int)) := hide (fun k h h2 => by simp [plcL])
  have HLT : Hid (∀ k (h2 : k < (plcN fn).length), (plcN fn)[k] < 64) := hide (fun k h2 => (plcN_lt (List.getElem_mem h2)).1)
  have HTK : Hid (∀ k (h2 : k < (plcN fn).length), ((plcN fn).take (k + 1)).flatMap (upO fw fn) = ((plcN fn).take k).flatMap (upO fw fn) ++ upO fw fn (plcN fn)[k]) := hide (fun k h2 => take_flat _ h2)
  have HEN : Hid (((plcN fn).take (plcN fn).length).flatMap (upO fw fn) = upsF fw fn) := hide (by rw [List.take_length]; rfl)
  clear hw hn hlw hln
  obtain ⟨j0, hj, hy0, hy1, hy2⟩ := info_parts infoUs
  go_enter Tryz.func21, Tryz.ntmps21
  go_wp2_with fail
  refine (mapsKeys_any (some B) _).mono ?_
  rintro e w1 ⟨rfl, rfl⟩
  go_wp2_with fail
  refine (sorted_any B n D fn w (unhide HN) (by omega)).mono ?_
  rintro e w2 ⟨v, rfl, ⟨ko, ka, rfl, hok⟩, hb2⟩
  have HB2 := hide hb2
  have HKI : Hid (Is w2 ko (plcL fn)) := hide (ownRN hok)
  have HW2 := hide ((unhide HW).below hb2)
  have HN2 : Hid (MpO w2 (some B) fn) := hide (.inr ⟨B, n, D, rfl, (unhide HN).below hb2⟩)
  clear hok hb2 HW HN
  have HU0 : Hid (UpS w2 w2 none 0 0 []) := hide ⟨.inl ⟨rfl, rfl, none, rfl⟩, Below.refl _ _⟩
  generalize plcL fn = KL at *
  generalize hKN : plcN fn = KN at *
  clear hKN
  have hKLN := unhide HPL
  go_wp2
  go_loopw [5, 12] (fun o i wr => ∃ (k N : Nat) (qo : Option Addr) (qa : Nat), k ≤ KL.length ∧ N ≤ k ∧ i = .int .i64 k ∧ o = .slice qo N qa ∧ Hid (UpS w2 wr qo N qa ((KN.take k).flatMap (upO fw fn)))) (fun _ i _ => KL.length - (intOf i).toNat)
  case atStart => exact ⟨0, 0, none, 0, Nat.zero_le _, Nat.le_refl _, rfl, rfl, HU0⟩
  case round =>
    clear HU0
    obtain ⟨k, N, qo, qa, hk, hNk, rfl, rfl, HU⟩ := hrel
    by_cases hlt : k < KL.length
    · have hkN : k < KN.length := by have := unhide HLL; omega
      obtain ⟨b, off, rfl, hck⟩ := ((unhide HKI).below (unhide HU).k) k hlt
      rw [unhide HAT k hlt hkN] at hck
      have hp64 := unhide HLT k hkN
      have HST := hide (unhide HTK k hkN)
      have hlti : (k : Int) < (KL.length : Int) := by omega
      generalize KN[k] = p at *
      obtain ⟨ao, ca, hl1, hi1⟩ := (unhide HN2).below (unhide HU).k |>.look hp64
      obtain ⟨bo, cb, hl2, hi2⟩ := (unhide HW2).below (unhide HU).k |>.look hp64
      have HI1 := hide hi1
      have HI2 := hide hi2
      have HA1 := hide (unhide HLN p hp64)
      have HA2 := hide (unhide HLW p hp64)
      clear hi1 hi2
      have hN64 : N ≤ 64 := by have := unhide HPL; have := unhide HLL; omega
      go_wp2_with fail
      refine (like_any (rcG fn p) (rcG fw p) ao bo ca cb _ (by have := unhide HA1; unfold maxLen; omega) (by have := unhide HA2; unfold maxLen; omega) (unhide HI1) (unhide HI2)).mono ?_
      rintro e w3 ⟨rfl, hb3⟩
      have HU3 := hide ((unhide HU).next hb3)
      clear hb3 hl1 hl2 HI1 HI2 hck
      cases hlk : rcEq (rcG fn p) (rcG fw p)
      · have HSN : Hid ((KN.take (k + 1)).flatMap (upO fw fn) = (KN.take k).flatMap (upO fw fn) ++ [⟨(p : Int), rcT (rcG fn p)⟩]) := hide (by rw [unhide HST, upO, hlk]; rfl)
        clear hlk HST
        obtain ⟨ao, ca, hl1, hi1⟩ := (unhide HN2).below (unhide HU3).k |>.look hp64
        have HI1 := hide hi1
        clear hi1
        go_wp2_with fail
        refine (textR_any (rcG fn p) ao ca _ (by have := unhide HA1; omega) (unhide HI1)).mono ?_
        rintro e w5 ⟨rfl, hb5⟩
        have HU5 := hide ((unhide HU3).next hb5)
        clear hb5 hl1 HI1 HU3 HU
        generalize rcT (rcG fn p) = TX at *
        generalize (KN.take k).flatMap (upO fw fn) = LS at *
        have HUA := hide ((unhide HU5).next (Joins.below_alloc1 w5 (.cells #[.int .i64 (p : Int), .string TX] 43)))
        have HSZ := hide (unhide HUA).sz
        go_wp2_with (at_builtin; refine wpList_append_one rfl _ _ 28 rfl w2.heap.size 43 j0 (.agg #[.int .i64 0, .string ⟨#[]⟩]) 2 24 Tryz.underlying28 hj hy0 hy1 hy2 rfl (by omega) qo N qa (upsV LS) rfl (unhide HUA).o (unhide HSZ) ⟨w5.heap.size, 0, none⟩ _ (upV ⟨(p : Int), TX⟩) rfl rfl (news2_at w5 _ ⟨(p : Int), TX⟩ _ rfl) (upV_one _) (by unfold maxLen; omega) (by omega) ?_; intro g2 cap2 wA hoA hkA; have HU6 := hide (UpS.one (unhide HUA) hoA hkA); clear hoA hkA)
        go_roundw
        case rel => exact ⟨k + 1, N + 1, some ⟨g2, 0, none⟩, cap2, by omega, by omega, by go_num, rfl, by rw [unhide HSN]; exact HU6⟩
        case measure => simp [intOf]; omega
      · have HSN : Hid ((KN.take (k + 1)).flatMap (upO fw fn) = (KN.take k).flatMap (upO fw fn)) := hide (by rw [unhide HST, upO, hlk]; simp)
        clear hlk HST
        go_wp2
        go_roundw
        case rel => exact ⟨k + 1, N, qo, qa, by omega, by omega, by go_num, rfl, by rw [unhide HSN]; exact HU3⟩
        case measure => simp [intOf]; omega
    · have hNl := (unhide HU).len
      have hkk : k = KN.length := by have := unhide HLL; omega
      have HF : Hid (UpS w wr qo (upsF fw fn).length qa (upsF fw fn)) := hide (by
        have h := unhide HU
        rw [hNl, hkk, unhide HEN] at h
        exact ⟨h.o.base (unhide HB2).size, fr (unhide HB2) h.k⟩)
      have HL2 : Hid (N = (upsF fw fn).length) := hide (by rw [hNl, hkk, unhide HEN])
      clear hNl HU hkk
      go_wp2
      go_ret
      rw [unhide HL2]
      exact ⟨qo, qa, rfl, unhide HF⟩

end Go.Proofs.YthnpooffhopnkacGreatDoor

/- Plain: the records by their places, as updates, are an image's updates; what one has otherwise than another. -/
namespace Go.Proofs.YthnpooffhopnkacGreatDoor
open Go.RowKit
set_option linter.unusedVariables false
set_option maxRecDepth 100000

/-- A right record. -/
def RcR (r : Rc) : Prop := (1 ≤ r.1 ∧ r.1 ≤ 9) ∧ allB r.2 = true ∧ r.2.length ≤ 16
theorem rcR_text {r : Rc} (h : RcR r) : rcT r = sealS r.1 r.2 := by
  obtain ⟨hk, ha, hl⟩ := h
  exact sealT_ok (sealC_ok (listC_ok (by omega) (intsB_small ha (by omega))) (by simp [kindB, inB]; omega))
theorem rcR_inj {r s : Rc} (hr : RcR r) (hs : RcR s) (h : rcT r = rcT s) : r = s := by
  rw [rcR_text hr, rcR_text hs] at h
  obtain ⟨k1, a1, l1⟩ := hr
  obtain ⟨k2, a2, l2⟩ := hs
  have e1 : r.1 = s.1 := by rw [← kdR_seal k1 a1 l1, h, kdR_seal k2 a2 l2]
  have e2 : r.2 = s.2 := by
    have h1 := opR_seal k1 a1 l1
    have h2 := opR_seal k2 a2 l2
    rw [h, e1] at h1
    rw [← h1, h2]
  exact Prod.ext e1 e2
theorem rcAt_right {m : Img} (h : ImR m) {p : Nat} {r : Rc} (hr : rcAt m p = some r) : RcR r := by
  unfold rcAt at hr
  have hf := h.few
  split at hr
  · cases hr
    exact ⟨by simp, allB_snm h, by simp [supL]; omega⟩
  · split at hr
    · cases hr
      refine ⟨by simp, allB_true (fun j hj => ?_), by simp [ctNs]⟩
      have := ctNs_in h.refs j hj
      simp [numB, inB]; omega
    · split at hr
      · rw [Option.map_eq_some_iff] at hr
        obtain ⟨t, ht, rfl⟩ := hr
        have hm : tbB t = true := h.tabs t (List.mem_of_getElem? ht)
        exact ⟨by simp, tb_all hm, by have := tbB_len hm; simp; omega⟩
      · split at hr
        · rename_i hc
          cases hr
          have hcl : p - 15 < m.data.length := by rw [h.len]; omega
          refine ⟨by simp, ?_, by simp⟩
          simp only [allB, List.all_cons, List.all_nil, Bool.and_true]
          rw [show m.data.getD (p - 15) 0 = m.data[p - 15] by simp [List.getD, hcl]]
          exact h.nums _ (List.getElem_mem hcl)
        · cases hr
/-- A place's record as updates. -/
def onU (f : Nat → Option Rc) (p : Nat) : List Up := match f p with
  | none => []
  | some r => [⟨(p : Int), rcT r⟩]
theorem flat_filter {α β : Type} (q : α → Bool) (g : α → List β) : ∀ l : List α, (l.filter q).flatMap g = l.flatMap (fun x => if q x = true then g x else [])
  | [] => rfl
  | x :: l => by
    rw [List.filter_cons, List.flatMap_cons, ← flat_filter q g l]
    by_cases h : q x = true
    · rw [if_pos h, if_pos h, List.flatMap_cons]
    · rw [if_neg h, if_neg h]; rfl
theorem flat_congr {α β : Type} {g k : α → List β} : ∀ {l : List α}, (∀ x ∈ l, g x = k x) → l.flatMap g = l.flatMap k
  | [], _ => rfl
  | x :: l, h => by rw [List.flatMap_cons, List.flatMap_cons, h x (by simp), flat_congr (fun y hy => h y (by simp [hy]))]
theorem flat_none {α β : Type} {g : α → List β} : ∀ {l : List α}, (∀ x ∈ l, g x = []) → l.flatMap g = []
  | [], _ => rfl
  | x :: l, h => by rw [List.flatMap_cons, h x (by simp), flat_none (fun y hy => h y (by simp [hy]))]; rfl
theorem filter_flat {α β : Type} (q : β → Bool) (g : α → List β) : ∀ l : List α, (l.flatMap g).filter q = l.flatMap (fun x => (g x).filter q)
  | [] => rfl
  | x :: l => by rw [List.flatMap_cons, List.filter_append, filter_flat q g l, List.flatMap_cons]
theorem flat_map' {α β γ : Type} (u : α → β) (g : β → List γ) : ∀ l : List α, (l.map u).flatMap g = l.flatMap (fun x => g (u x))
  | [] => rfl
  | x :: l => by rw [List.map_cons, List.flatMap_cons, List.flatMap_cons, flat_map' u g l]
theorem range_parts : List.range 64 = List.range 9 ++ ([9, 10] ++ ((List.range 4).map (fun k => 11 + k) ++ ((List.range 24).map (fun c => 15 + c) ++ (List.range 25).map (fun q => 39 + q)))) := by decide
theorem onU_tabs {m : Img} (h : ImR m) : (List.range 4).flatMap (fun k => onU (rcAt m) (11 + k)) = ⟨11, encTb m.table⟩ :: tabU 0 m.snaps := by
  have hT : ∀ k, k < 4 → onU (rcAt m) (11 + k) = match (imTabs m)[k]? with
      | none => []
      | some t => [⟨11 + (k : Int), encTb t⟩] := fun k hk => by
    unfold onU
    rw [rcAt_tab hk]
    cases ht : (imTabs m)[k]? with
    | none => rfl
    | some t =>
      have hm : tbB t = true := h.tabs t (List.mem_of_getElem? ht)
      simp only [Option.map_some]
      rw [show rcT (3, t) = encTb t from (tb_seal hm).2]
      simp
  have hf := h.few
  rw [flat_congr (k := fun k => match (imTabs m)[k]? with
      | none => []
      | some t => [⟨11 + (k : Int), encTb t⟩]) (fun k hk => hT k (List.mem_range.1 hk))]
  unfold imTabs
  match hs : m.snaps, hf with
  | [], _ => simp [List.range_succ, tabU]
  | [s1], _ => simp [List.range_succ, tabU]
  | [s1, s2], _ => simp [List.range_succ, tabU]
  | [s1, s2, s3], _ => simp [List.range_succ, tabU]
  | s1 :: s2 :: s3 :: s4 :: r, hf => exact absurd hf (by simp)
theorem allU_places {m : Img} (h : ImR m) : allU m = (List.range 64).flatMap (onU (rcAt m)) := by
  rw [range_parts, List.flatMap_append, List.flatMap_append, List.flatMap_append, List.flatMap_append, flat_map', flat_map', flat_map']
  rw [flat_none (l := List.range 9) (fun p hp => by unfold onU; rw [rcAt_none (.inl (List.mem_range.1 hp))]), List.nil_append]
  rw [flat_none (l := List.range 25) (fun p hp => by unfold onU; rw [rcAt_none (.inr (by omega))]), List.append_nil]
  rw [onU_tabs h]
  have h9 : ([9, 10] : List Nat).flatMap (onU (rcAt m)) = [⟨9, sealS 1 (supL m)⟩, ⟨10, encT m.refs⟩] := by
    have e1 : rcT (1, supL m) = sealS 1 (supL m) := rcR_text ⟨by simp, allB_snm h, by have := h.few; simp [supL]; omega⟩
    have e2 : rcT (2, ctNs m.refs) = encT m.refs := (ct_seal h.refs).2
    have a1 : rcAt m 9 = some (1, supL m) := by simp [rcAt]
    have a2 : rcAt m 10 = some (2, ctNs m.refs) := by simp [rcAt]
    simp only [List.flatMap_cons, List.flatMap_nil, onU, a1, a2, e1, e2]
    rfl
  rw [h9]
  have hd : (List.range 24).flatMap (fun c => onU (rcAt m) (15 + c)) = dataU m 24 := flat_congr (fun c hc => by
    have hc' := List.mem_range.1 hc
    unfold onU
    rw [rcAt_dat hc', datU]
    by_cases hp : 0 < m.refs.getD c 0
    · rw [if_pos hp, if_pos hp]
      have hcl : c < m.data.length := by rw [h.len]; exact hc'
      have hnum : numB (m.data.getD c 0) = true := by
        rw [show m.data.getD c 0 = m.data[c] by simp [List.getD, hcl]]
        exact h.nums _ (List.getElem_mem hcl)
      have e4 : rcT (4, [m.data.getD c 0]) = sealS 4 [m.data.getD c 0] := rcR_text ⟨by simp, by simp only [allB, List.all_cons, List.all_nil, hnum, Bool.and_true], by simp⟩
      simp only [e4]
      simp
    · rw [if_neg hp, if_neg hp])
  rw [hd]
  simp [allU, headU]
theorem upsF_range (fw fn : Nat → Option Rc) : upsF fw fn = (List.range 64).flatMap (fun p => if (fn p).isSome = true then upO fw fn p else []) := flat_filter _ _ _
/-- From nothing: all of them. -/
theorem upsF_all {m : Img} (h : ImR m) : upsF (fun _ => none) (rcAt m) = allU m := by
  rw [upsF_range, allU_places h]
  refine flat_congr (fun p _ => ?_)
  cases hr : rcAt m p with
  | none => simp [onU, hr]
  | some r =>
    have hk := (rcAt_right h hr).1
    simp only [Option.isSome_some, if_true, upO, onU, rcG, hr, Option.getD_some, Option.getD_none]
    rw [if_neg (by intro h2; rw [rcEq_iff] at h2; rw [h2] at hk; simp at hk)]
theorem mem_allU {m : Img} (h : ImR m) {v : Up} : v ∈ allU m ↔ ∃ p, p < 64 ∧ ∃ r, rcAt m p = some r ∧ v = ⟨(p : Int), rcT r⟩ := by
  rw [allU_places h, List.mem_flatMap]
  constructor
  · rintro ⟨p, hp, hv⟩
    refine ⟨p, List.mem_range.1 hp, ?_⟩
    unfold onU at hv
    cases hr : rcAt m p with
    | none => rw [hr] at hv; cases hv
    | some r => rw [hr] at hv; exact ⟨r, rfl, by simpa using hv⟩
  · rintro ⟨p, hp, r, hr, rfl⟩
    exact ⟨p, List.mem_range.2 hp, by unfold onU; rw [hr]; simp⟩
/-- What one has otherwise than another. -/
theorem upsF_dif {a b : Img} (ha : ImR a) (hb : ImR b) : upsF (rcAt a) (rcAt b) = difU a b := by
  rw [upsF_range, difU, allU_places hb, filter_flat]
  refine flat_congr (fun p hp => ?_)
  have hp64 := List.mem_range.1 hp
  cases hr : rcAt b p with
  | none => simp [onU, hr]
  | some r =>
    have hRr := rcAt_right hb hr
    simp only [Option.isSome_some, if_true, onU, hr, upO]
    have hg : rcG (rcAt b) p = r := by simp [rcG, hr]
    rw [hg]
    have key : rcEq r (rcG (rcAt a) p) = (allU a).any (fun v => upEq v ⟨(p : Int), rcT r⟩) := by
      rw [Bool.eq_iff_iff, rcEq_iff, List.any_eq_true]
      constructor
      · intro e
        have hs : rcAt a p = some r := by
          cases hs : rcAt a p with
          | none => rw [rcG, hs] at e; have := hRr.1; rw [e] at this; simp at this
          | some s => rw [rcG, hs] at e; rw [e]; rfl
        exact ⟨⟨(p : Int), rcT r⟩, (mem_allU ha).2 ⟨p, hp64, r, hs, rfl⟩, by simp [upEq]⟩
      · rintro ⟨v, hv, he⟩
        obtain ⟨q, hq, s, hs, rfl⟩ := (mem_allU ha).1 hv
        simp only [upEq, Bool.and_eq_true, decide_eq_true_eq] at he
        have hqp : q = p := by omega
        subst hqp
        rw [rcG, hs]
        exact (rcR_inj (rcAt_right ha hs) hRr he.2).symm
    rw [key, List.filter_cons, List.filter_nil]
    cases (allU a).any (fun v => upEq v ⟨(p : Int), rcT r⟩) <;> rfl
theorem rcG_len {m : Img} (h : ImR m) (p : Nat) : (rcG (rcAt m) p).2.length ≤ 1000 := by
  unfold rcG
  cases hr : rcAt m p with
  | none => simp
  | some r => have := (rcAt_right h hr).2.2; simp; omega

end Go.Proofs.YthnpooffhopnkacGreatDoor

/- Contracts of the program's ImageUpdates, DiffUpdates. -/
namespace Go.Proofs.YthnpooffhopnkacGreatDoor
open Go.RowKit Go.Maps
set_option linter.unusedVariables false
set_option maxRecDepth 100000

/-- An image's updates, by its records. -/
theorem recUps_any (a : Img) (h : ImR a) (B n : Nat) (D : DataW Value) (w : World) (hm : MpR w B n D (rcAt a)) (hn : n ≤ 1000) :
    Calls Tryz.prog 21 #[.map none, .map (some B)] w fun e w' => ∃ qo qa, e = .returned (.slice qo (allU a).length qa) ∧ UpS w w' qo (allU a).length qa (allU a) := by
  have := updatesFrom_any none B n D (fun _ => none) (rcAt a) w (.inl ⟨rfl, rfl⟩) hm hn (fun p _ => by simp [rcG]) (fun p _ => rcG_len h p)
  rwa [upsF_all h] at this

set_option maxHeartbeats 1600000 in
theorem imageUpdates_impl (a : Im4) (m : Img) (w : World) (hL : ImL m) (hc : ImS w a m) :
    Calls Tryz.prog 6 #[imV a m] w fun e w' => ∃ qo qa, e = .returned (.tuple #[.slice qo (iuA m).1.length qa, .int .i64 (iuA m).2]) ∧ UpS w w' qo (iuA m).1.length qa (iuA m).1 := by
  have HA := hide (Joins.below_alloc1 w (.cells #[.slice a.ro m.refs.length a.rc, .slice a.tq m.table.length a.tc, .slice a.so m.snaps.length a.sc, .slice a.dq m.data.length a.dc] 26))
  have HV := hide (VarM.new w 26 (.slice a.ro m.refs.length a.rc) (.slice a.tq m.table.length a.tc) (.slice a.so m.snaps.length a.sc) (.slice a.dq m.data.length a.dc))
  have HC := hide (hc.below (unhide HA))
  have HL := hide hL
  clear hc hL
  go_enter Tryz.func6, Tryz.ntmps6
  go_upto_region 1 with fail
  revert HA HV HC
  generalize (w.alloc _) = W0
  intro HA HV HC
  obtain ⟨c0, c1, c2, c3⟩ := (unhide HV).cells
  go_wp2_with fail
  refine (imageOK_impl a m _ (unhide HL) (unhide HC)).mono ?_
  rintro e w1 ⟨rfl, hb⟩
  have HB := hide hb
  clear hb c0 c1 c2 c3
  cases him : imB m
  · have HE : Hid (iuA m = ([], 1)) := hide (by rw [iuA, him]; rfl)
    have HF : Hid (UpS w w1 none 0 0 []) := hide ⟨.inl ⟨rfl, rfl, _, rfl⟩, fr (unhide HA) (unhide HB)⟩
    go_wp2
    go_ret2
    rw [unhide HE]
    exact ⟨_, _, rfl, unhide HF⟩
  · have HE : Hid (iuA m = (allU m, 0)) := hide (by rw [iuA, him]; rfl)
    have HR := hide (imB_iff.1 him)
    clear him
    obtain ⟨c0, c1, c2, c3⟩ := ((unhide HV).below (unhide HB)).cells
    go_wp2_with fail
    refine (recordsOf_any a m _ (unhide HR) ((unhide HC).below (unhide HB))).mono ?_
    rintro e w2 ⟨B, n, D, rfl, hn, hge, hm, hb⟩
    have HM := hide hm
    have HN := hide hn
    have HB2 := hide (fr (fr (unhide HA) (unhide HB)) hb)
    clear hm hb hn hge c0 c1 c2 c3
    go_wp2_with fail
    refine (recUps_any m (unhide HR) B n D _ (unhide HM) (unhide HN)).mono ?_
    rintro e w3 ⟨qo, qa, rfl, hu⟩
    have HU : Hid (UpS w w3 qo (allU m).length qa (allU m)) := hide ⟨hu.o.base (unhide HB2).size, fr (unhide HB2) hu.k⟩
    clear hu
    generalize allU m = L at *
    go_wp2
    go_ret2
    rw [unhide HE]
    exact ⟨qo, qa, rfl, unhide HU⟩

set_option maxHeartbeats 3200000 in
theorem diffUpdates_impl (a b : Im4) (ma mb : Img) (w : World) (hLa : ImL ma) (hLb : ImL mb) (h1 : ImS w a ma) (h2 : ImS w b mb) :
    Calls Tryz.prog 16 #[imV a ma, imV b mb] w fun e w' => ∃ qo qa, e = .returned (.tuple #[.slice qo (dfA ma mb).1.length qa, .int .i64 (dfA ma mb).2]) ∧ UpS w w' qo (dfA ma mb).1.length qa (dfA ma mb).1 := by
  have HA := hide (Joins.below_alloc2 w (.cells #[.slice a.ro ma.refs.length a.rc, .slice a.tq ma.table.length a.tc, .slice a.so ma.snaps.length a.sc, .slice a.dq ma.data.length a.dc] 26) (.cells #[.slice b.ro mb.refs.length b.rc, .slice b.tq mb.table.length b.tc, .slice b.so mb.snaps.length b.sc, .slice b.dq mb.data.length b.dc] 26))
  have HV := hide ((VarM.new w 26 (.slice a.ro ma.refs.length a.rc) (.slice a.tq ma.table.length a.tc) (.slice a.so ma.snaps.length a.sc) (.slice a.dq ma.data.length a.dc)).below (Joins.below_alloc1 _ (.cells #[.slice b.ro mb.refs.length b.rc, .slice b.tq mb.table.length b.tc, .slice b.so mb.snaps.length b.sc, .slice b.dq mb.data.length b.dc] 26)))
  have HU := hide ((VarM.new (w.alloc (.cells #[.slice a.ro ma.refs.length a.rc, .slice a.tq ma.table.length a.tc, .slice a.so ma.snaps.length a.sc, .slice a.dq ma.data.length a.dc] 26)) 26 (.slice b.ro mb.refs.length b.rc) (.slice b.tq mb.table.length b.tc) (.slice b.so mb.snaps.length b.sc) (.slice b.dq mb.data.length b.dc)).at (y := w.heap.size + 1) (by simp))
  have H1 := hide (h1.below (unhide HA))
  have H2 := hide (h2.below (unhide HA))
  have HLA := hide hLa
  have HLB := hide hLb
  clear h1 h2 hLa hLb
  go_enter Tryz.func16, Tryz.ntmps16
  go_upto_region 1 with fail
  revert HA HV HU H1 H2
  generalize ((w.alloc _).alloc _) = W0
  intro HA HV HU H1 H2
  obtain ⟨c0, c1, c2, c3⟩ := (unhide HV).cells
  go_wp2_with fail
  refine (imageOK_impl a ma _ (unhide HLA) (unhide H1)).mono ?_
  rintro e w1 ⟨rfl, hb⟩
  have HB1 := hide hb
  clear hb c0 c1 c2 c3
  cases hia : imB ma
  · have HE : Hid (dfA ma mb = ([], 1)) := hide (by rw [dfA, if_neg (by simp [hia])])
    have HF : Hid (UpS w w1 none 0 0 []) := hide ⟨.inl ⟨rfl, rfl, _, rfl⟩, fr (unhide HA) (unhide HB1)⟩
    go_wp2
    go_ret2
    rw [unhide HE]
    exact ⟨_, _, rfl, unhide HF⟩
  · obtain ⟨c0, c1, c2, c3⟩ := ((unhide HU).below (unhide HB1)).cells
    have HIA := hide hia
    clear hia
    go_wp2_with fail
    refine (imageOK_impl b mb _ (unhide HLB) ((unhide H2).below (unhide HB1))).mono ?_
    rintro e w2 ⟨rfl, hb⟩
    have HB2 := hide (fr (unhide HB1) hb)
    clear hb c0 c1 c2 c3
    cases hib : imB mb
    · have HE : Hid (dfA ma mb = ([], 1)) := hide (by rw [dfA, if_neg (by simp [hib])])
      have HF : Hid (UpS w w2 none 0 0 []) := hide ⟨.inl ⟨rfl, rfl, _, rfl⟩, fr (unhide HA) (unhide HB2)⟩
      go_wp2
      go_ret2
      rw [unhide HE]
      exact ⟨_, _, rfl, unhide HF⟩
    · have HE : Hid (dfA ma mb = (difU ma mb, 0)) := hide (by rw [dfA, if_pos ⟨unhide HIA, hib⟩])
      have HRA := hide (imB_iff.1 (unhide HIA))
      have HRB := hide (imB_iff.1 hib)
      clear hib
      go_upto_region 3 with fail
      have HBD : Hid (Below w2.heap.size w2 w2.drew) := hide (Below.refl _ _).drew
      have hS0 := unhide HBD
      have HVA := hide ((unhide HV).below (unhide HB2))
      have HVB := hide ((unhide HU).below (unhide HB2))
      have HSA := hide ((unhide H1).below (unhide HB2))
      have HSB := hide ((unhide H2).below (unhide HB2))
      refine wp_region_ord (fun w' => Below w2.heap.size w2 w') [0, 1, 2, 3, 4, 5, 6] [(0, 0), (2, 0), (1, 2), (3, 2), (4, 2), (5, 0), (6, 0)] (by kernel_rfl) (by kernel_rfl) rfl (by kernel_rfl) ?_
      refine ord_read (imV a ma) rfl rfl hS0 (fun W hW => by obtain ⟨k0, k1, k2, k3⟩ := ((unhide HVA).below hW).cells; go_simp) ?_
      refine ord_read (imV b mb) rfl rfl hS0 (fun W hW => by obtain ⟨k0, k1, k2, k3⟩ := ((unhide HVB).below hW).cells; go_simp) ?_
      clear hS0
      refine ord_held rfl rfl ?_
      intro K hK
      unfold Oper.wp
      go_simp
      refine (recordsOf_any a ma _ (unhide HRA) ((unhide HSA).below (unhide HBD))).mono ?_
      rintro e w3 ⟨B1, n1, D1, rfl, hn1, _, hm1, hb⟩
      have HM1 := hide hm1
      have HB3 := hide (fr (unhide HBD) hb)
      clear hm1 hb
      refine hK _ _ (unhide HB3) ?_
      clear hK K
      refine ord_held rfl rfl ?_
      intro K hK
      unfold Oper.wp
      go_simp
      refine (recordsOf_any b mb _ (unhide HRB) ((unhide HSB).below (unhide HB3))).mono ?_
      rintro e w4 ⟨B2, n2, D2, rfl, hn2, _, hm2, hb⟩
      have HM2 := hide hm2
      have HM3 := hide ((unhide HM1).below hb)
      have HB4 := hide (fr (unhide HB3) hb)
      clear hm2 hb
      refine hK _ _ (unhide HB4) ?_
      clear hK K
      refine ord_held rfl rfl ?_
      intro K hK
      unfold Oper.wp
      go_simp
      have HCA : Hid (Calls Tryz.prog 21 #[.map (some B1), .map (some B2)] w4 fun e w' => ∃ qo qa, e = .returned (.slice qo (difU ma mb).length qa) ∧ UpS w4 w' qo (difU ma mb).length qa (difU ma mb)) := hide (by
        have := updatesFrom_any (some B1) B2 n2 D2 (rcAt ma) (rcAt mb) w4 (.inr ⟨B1, n1, D1, rfl, unhide HM3⟩) (unhide HM2) hn2 (fun p _ => rcG_len (unhide HRA) p) (fun p _ => rcG_len (unhide HRB) p)
        rwa [upsF_dif (unhide HRA) (unhide HRB)] at this)
      refine (unhide HCA).mono ?_
      rintro e w5 ⟨qo, qa, rfl, hu⟩
      have HB5 := hide (fr (unhide HB4) hu.k)
      have HU5 : Hid (UpS w w5 qo (difU ma mb).length qa (difU ma mb)) := hide ⟨hu.o.base (fr (unhide HA) (fr (unhide HB2) (unhide HB4))).size, fr (unhide HA) (fr (unhide HB2) (fr (unhide HB4) hu.k))⟩
      clear hu
      generalize difU ma mb = L at *
      refine hK _ _ (unhide HB5) ?_
      clear hK K
      refine ord_read (.slice qo L.length qa) rfl rfl (unhide HB5) (fun W hW => by go_simp) ?_
      refine ord_read (.int .i64 0) rfl rfl (unhide HB5) (fun W hW => by go_simp) ?_
      refine ord_done ?_
      go_wp2
      go_ret2
      rw [unhide HE]
      exact ⟨qo, qa, rfl, unhide HU5⟩

end Go.Proofs.YthnpooffhopnkacGreatDoor
