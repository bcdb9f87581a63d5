import Derived.Test.YtjjkppknojecjaaGreatRows
import Derived.Test.YtjjkppknojecjaaGreatXPlainWorldPart1
import Derived.Test.YtjjkppknojecjaaGreatXPlainWorldPart8
import Derived.Test.YtjjkppknojecjaaGreatXPlainWorldPart9
import Derived.Test.YtjjkppknojecjaaGreatXPlainWorldPart11
import Derived.WalkKit
import Derived.WalkSpells
import Derived.KernelRfl
import Derived.LoopN
import Derived.Test.YtjjkppknojecjaaGreatXPlainWorldPart2
import Derived.Test.YtjjkppknojecjaaGreatXPlainWorldPart5
import Derived.Test.YtjjkppknojecjaaGreatXPlainWorldPart10
import Derived.Test.YtjjkppknojecjaaGreatXPlainWorldPart6
import Derived.Test.YtjjkppknojecjaaGreatXPlainWorldPart7
import Derived.Lib.SmallJoins
import Derived.Deep.RegionHeld3
import Derived.Deep.RegionWith
import Derived.BigQuiet
import Derived.Deep.QuietTactic
import Derived.Test.YtjjkppknojecjaaGreatXPlainWorldPart4

namespace Go.Proofs.YtjjkppknojecjaaGreat
open Go.RowKit Go.Maps
set_option linter.unusedVariables false
set_option maxRecDepth 100000

def MpO (w : World) (o : Option Nat) (f : Nat → Option Rc) : Prop := (o = none ∧ f = fun _ => none) ∨ ∃ B n D, o = some B ∧ MpR w B n D f
theorem MpO.below {w w' : World} {o : Option Nat} {f : Nat → Option Rc} (h : MpO w o f) (hb : Below w.heap.size w w') : MpO w' o f := by
  rcases h with h | ⟨B, n, D, e, h⟩
  · exact .inl h
  · exact .inr ⟨B, n, D, e, h.below hb⟩
def rcG (f : Nat → Option Rc) (p : Nat) : Rc := (f p).getD (0, [])
theorem MpO.look {w : World} {o : Option Nat} {f : Nat → Option Rc} (h : MpO w o f) {p : Nat} (hp : p < 64) : ∃ ao cap, (Instr.lookup 73 (.map o) (.int .i64 (p : Int)) false).run Tryz.prog w = .ok (rcV (rcG f p) ao cap) w ∧ Is w ao (rcG f p).2 := by
  rcases h with ⟨rfl, rfl⟩ | ⟨B, n, D, rfl, h⟩
  · exact ⟨none, 0, miss_nil hp w, fun i hi => by simp [rcG] at hi⟩
  · cases hf : f p with
    | none => exact ⟨none, 0, by rw [rcG, hf]; exact h.miss hp hf, fun i hi => by simp [rcG, hf] at hi⟩
    | some r =>
      obtain ⟨ao, cap, h1, h2⟩ := h.look hp hf
      exact ⟨ao, cap, by rw [rcG, hf]; exact h1, by rw [rcG, hf]; exact h2⟩
def upO (fw fn : Nat → Option Rc) (p : Nat) : List Up := if rcEq (rcG fn p) (rcG fw p) = true then [] else [⟨(p : Int), rcT (rcG fn p)⟩]
def upsF (fw fn : Nat → Option Rc) : List Up := (plcN fn).flatMap (upO fw fn)
theorem take_flat {α β : Type} (g : α → List β) {l : List α} {k : Nat} (hk : k < l.length) : (l.take (k + 1)).flatMap g = (l.take k).flatMap g ++ g l[k] := by
  rw [List.take_succ_eq_append_getElem hk, List.flatMap_append]; simp
theorem plcN_len (f : Nat → Option Rc) : (plcN f).length ≤ 64 := by
  have := List.length_filter_le (fun p => (f p).isSome) (List.range 64)
  simpa [plcN] using this

set_option maxHeartbeats 3200000 in
theorem updatesFrom_any (ow : Option Nat) (B n : Nat) (D : DataW Value) (fw fn : Nat → Option Rc) (w : World) (hw : MpO w ow fw) (hn : MpR w B n D fn) (hn2 : n ≤ 1000)
    (hlw : ∀ p, p < 64 → (rcG fw p).2.length ≤ 1000) (hln : ∀ p, p < 64 → (rcG fn p).2.length ≤ 1000) :
    Calls Tryz.prog 43 #[.map ow, .map (some B)] w fun e w' => ∃ qo qa, e = .returned (.slice qo (upsF fw fn).length qa) ∧ UpS w w' qo (upsF fw fn).length qa (upsF fw fn) := by
  have HW := hide hw
  have HN := hide hn
  have HLW := hide hlw
  have HLN := hide hln
  have HPL := hide (plcN_len fn)
  have HLL : Hid ((plcL fn).length = (plcN fn).length) := hide (by simp [plcL])
  have HAT : Hid (∀ k (h : k < (plcL fn).length) (h2 : k < (plcN fn).length), (plcL fn)[k] = ((plcN fn)[k] : Int)) := hide (fun k h h2 => by simp [plcL])
  have HLT : Hid (∀ k (h2 : k < (plcN fn).length), (plcN fn)[k] < 64) := hide (fun k h2 => (plcN_lt (List.getElem_mem h2)).1)
  have HTK : Hid (∀ k (h2 : k < (plcN fn).length), ((plcN fn).take (k + 1)).flatMap (upO fw fn) = ((plcN fn).take k).flatMap (upO fw fn) ++ upO fw fn (plcN fn)[k]) := hide (fun k h2 => take_flat _ h2)
  have HEN : Hid (((plcN fn).take (plcN fn).length).flatMap (upO fw fn) = upsF fw fn) := hide (by rw [List.take_length]; rfl)
  clear hw hn hlw hln
  obtain ⟨j0, hj, hy0, hy1, hy2⟩ := info_parts infoUs
  go_enter Tryz.func43, Tryz.ntmps43
  go_wp2_with fail
  refine (mapsKeys_any (some B) _).mono ?_
  rintro e w1 ⟨rfl, rfl⟩
  go_wp2_with fail
  refine (sorted_any B n D fn w (unhide HN) (by omega)).mono ?_
  rintro e w2 ⟨v, rfl, ⟨ko, ka, rfl, hok⟩, hb2⟩
  have HB2 := hide hb2
  have HKI : Hid (Is w2 ko (plcL fn)) := hide (ownRN hok)
  have HW2 := hide ((unhide HW).below hb2)
  have HN2 : Hid (MpO w2 (some B) fn) := hide (.inr ⟨B, n, D, rfl, (unhide HN).below hb2⟩)
  clear hok hb2 HW HN
  have HU0 : Hid (UpS w2 w2 none 0 0 []) := hide ⟨.inl ⟨rfl, rfl, none, rfl⟩, Below.refl _ _⟩
  generalize plcL fn = KL at *
  generalize hKN : plcN fn = KN at *
  clear hKN
  have hKLN := unhide HPL
  go_wp2
  go_loopw [5, 12] (fun o i wr => ∃ (k N : Nat) (qo : Option Addr) (qa : Nat), k ≤ KL.length ∧ N ≤ k ∧ i = .int .i64 k ∧ o = .slice qo N qa ∧ Hid (UpS w2 wr qo N qa ((KN.take k).flatMap (upO fw fn)))) (fun _ i _ => KL.length - (intOf i).toNat)
  case atStart => exact ⟨0, 0, none, 0, Nat.zero_le _, Nat.le_refl _, rfl, rfl, HU0⟩
  case round =>
    clear HU0
    obtain ⟨k, N, qo, qa, hk, hNk, rfl, rfl, HU⟩ := hrel
    by_cases hlt : k < KL.length
    · have hkN : k < KN.length := by have := unhide HLL; omega
      obtain ⟨b, off, rfl, hck⟩ := ((unhide HKI).below (unhide HU).k) k hlt
      rw [unhide HAT k hlt hkN] at hck
      have hp64 := unhide HLT k hkN
      have HST := hide (unhide HTK k hkN)
      have hlti : (k : Int) < (KL.length : Int) := by omega
      generalize KN[k] = p at *
      obtain ⟨ao, ca, hl1, hi1⟩ := (unhide HN2).below (unhide HU).k |>.look hp64
      obtain ⟨bo, cb, hl2, hi2⟩ := (unhide HW2).below (unhide HU).k |>.look hp64
      have HI1 := hide hi1
      have HI2 := hide hi2
      have HA1 := hide (unhide HLN p hp64)
      have HA2 := hide (unhide HLW p hp64)
      clear hi1 hi2
      have hN64 : N ≤ 64 := by have := unhide HPL; have := unhide HLL; omega
      go_wp2_with fail
      refine (like_any (rcG fn p) (rcG fw p) ao bo ca cb _ (by have := unhide HA1; unfold maxLen; omega) (by have := unhide HA2; unfold maxLen; omega) (unhide HI1) (unhide HI2)).mono ?_
      rintro e w3 ⟨rfl, hb3⟩
      have HU3 := hide ((unhide HU).next hb3)
      clear hb3 hl1 hl2 HI1 HI2 hck
      cases hlk : rcEq (rcG fn p) (rcG fw p)
      · have HSN : Hid ((KN.take (k + 1)).flatMap (upO fw fn) = (KN.take k).flatMap (upO fw fn) ++ [⟨(p : Int), rcT (rcG fn p)⟩]) := hide (by rw [unhide HST, upO, hlk]; rfl)
        clear hlk HST
        obtain ⟨ao, ca, hl1, hi1⟩ := (unhide HN2).below (unhide HU3).k |>.look hp64
        have HI1 := hide hi1
        clear hi1
        go_wp2_with fail
        refine (textR_any (rcG fn p) ao ca _ (by have := unhide HA1; omega) (unhide HI1)).mono ?_
        rintro e w5 ⟨rfl, hb5⟩
        have HU5 := hide ((unhide HU3).next hb5)
        clear hb5 hl1 HI1 HU3 HU
        generalize rcT (rcG fn p) = TX at *
        generalize (KN.take k).flatMap (upO fw fn) = LS at *
        have HUA := hide ((unhide HU5).next (Joins.below_alloc1 w5 (.cells #[.int .i64 (p : Int), .string TX] 77)))
        have HSZ := hide (unhide HUA).sz
        go_wp2_with (at_builtin; refine wpList_append_one rfl _ _ 71 rfl w2.heap.size 77 j0 (.agg #[.int .i64 0, .string ⟨#[]⟩]) 2 24 Tryz.underlying71 hj hy0 hy1 hy2 rfl (by omega) qo N qa (upsV LS) rfl (unhide HUA).o (unhide HSZ) ⟨w5.heap.size, 0, none⟩ _ (upV ⟨(p : Int), TX⟩) rfl rfl (news2_at w5 _ ⟨(p : Int), TX⟩ _ rfl) (upV_one _) (by unfold maxLen; omega) (by omega) ?_; intro g2 cap2 wA hoA hkA; have HU6 := hide (UpS.one (unhide HUA) hoA hkA); clear hoA hkA)
        go_roundw
        case rel => exact ⟨k + 1, N + 1, some ⟨g2, 0, none⟩, cap2, by omega, by omega, by go_num, rfl, by rw [unhide HSN]; exact HU6⟩
        case measure => simp [intOf]; omega
      · have HSN : Hid ((KN.take (k + 1)).flatMap (upO fw fn) = (KN.take k).flatMap (upO fw fn)) := hide (by rw [unhide HST, upO, hlk]; simp)
        clear hlk HST
        go_wp2
        go_roundw
        case rel => exact ⟨k + 1, N, qo, qa, by omega, by omega, by go_num, rfl, by rw [unhide HSN]; exact HU3⟩
        case measure => simp [intOf]; omega
    · have hNl := (unhide HU).len
      have hkk : k = KN.length := by have := unhide HLL; omega
      have HF : Hid (UpS w wr qo (upsF fw fn).length qa (upsF fw fn)) := hide (by
        have h := unhide HU
        rw [hNl, hkk, unhide HEN] at h
        exact ⟨h.o.base (unhide HB2).size, fr (unhide HB2) h.k⟩)
      have HL2 : Hid (N = (upsF fw fn).length) := hide (by rw [hNl, hkk, unhide HEN])
      clear hNl HU hkk
      go_wp2
      go_ret
      rw [unhide HL2]
      exact ⟨qo, qa, rfl, unhide HF⟩

end Go.Proofs.YtjjkppknojecjaaGreat

namespace Go.Proofs.YtjjkppknojecjaaGreat
open Go.RowKit
set_option linter.unusedVariables false
set_option maxRecDepth 100000

def RcR (r : Rc) : Prop := (1 ≤ r.1 ∧ r.1 ≤ 9) ∧ allB r.2 = true ∧ r.2.length ≤ 16
theorem rcR_text {r : Rc} (h : RcR r) : rcT r = sealS r.1 r.2 := by
  obtain ⟨hk, ha, hl⟩ := h
  exact sealT_ok (sealC_ok (listC_ok (by omega) (intsB_small ha (by omega))) (by simp [kindB, inB]; omega))
theorem rcAt_right {m : Img} (h : ImR m) {p : Nat} {r : Rc} (hr : rcAt m p = some r) : RcR r := by
  unfold rcAt at hr
  have hf := h.few
  split at hr
  · cases hr
    exact ⟨by simp, allB_snm h, by simp [supL]; omega⟩
  · split at hr
    · cases hr
      refine ⟨by simp, allB_true (fun j hj => ?_), by simp [ctNs]⟩
      have := ctNs_in h.refs j hj
      simp [numB, inB]; omega
    · split at hr
      · rw [Option.map_eq_some_iff] at hr
        obtain ⟨t, ht, rfl⟩ := hr
        have hm : tbB t = true := h.tabs t (List.mem_of_getElem? ht)
        exact ⟨by simp, tb_all hm, by have := tbB_len hm; simp; omega⟩
      · split at hr
        · rename_i hc
          cases hr
          have hcl : p - 15 < m.data.length := by rw [h.len]; omega
          refine ⟨by simp, ?_, by simp⟩
          simp only [allB, List.all_cons, List.all_nil, Bool.and_true]
          rw [show m.data.getD (p - 15) 0 = m.data[p - 15] by simp [List.getD, hcl]]
          exact h.nums _ (List.getElem_mem hcl)
        · cases hr
def onU (f : Nat → Option Rc) (p : Nat) : List Up := match f p with
  | none => []
  | some r => [⟨(p : Int), rcT r⟩]
theorem flat_filter {α β : Type} (q : α → Bool) (g : α → List β) : ∀ l : List α, (l.filter q).flatMap g = l.flatMap (fun x => if q x = true then g x else [])
  | [] => rfl
  | x :: l => by
    rw [List.filter_cons, List.flatMap_cons, ← flat_filter q g l]
    by_cases h : q x = true
    · rw [if_pos h, if_pos h, List.flatMap_cons]
    · rw [if_neg h, if_neg h]; rfl
theorem flat_congr {α β : Type} {g k : α → List β} : ∀ {l : List α}, (∀ x ∈ l, g x = k x) → l.flatMap g = l.flatMap k
  | [], _ => rfl
  | x :: l, h => by rw [List.flatMap_cons, List.flatMap_cons, h x (by simp), flat_congr (fun y hy => h y (by simp [hy]))]
theorem flat_none {α β : Type} {g : α → List β} : ∀ {l : List α}, (∀ x ∈ l, g x = []) → l.flatMap g = []
  | [], _ => rfl
  | x :: l, h => by rw [List.flatMap_cons, h x (by simp), flat_none (fun y hy => h y (by simp [hy]))]; rfl
theorem flat_map' {α β γ : Type} (u : α → β) (g : β → List γ) : ∀ l : List α, (l.map u).flatMap g = l.flatMap (fun x => g (u x))
  | [] => rfl
  | x :: l => by rw [List.map_cons, List.flatMap_cons, List.flatMap_cons, flat_map' u g l]
theorem range_parts : List.range 64 = List.range 9 ++ ([9, 10] ++ ((List.range 4).map (fun k => 11 + k) ++ ((List.range 24).map (fun c => 15 + c) ++ (List.range 25).map (fun q => 39 + q)))) := by decide
theorem onU_tabs {m : Img} (h : ImR m) : (List.range 4).flatMap (fun k => onU (rcAt m) (11 + k)) = ⟨11, encTb m.table⟩ :: tabU 0 m.snaps := by
  have hT : ∀ k, k < 4 → onU (rcAt m) (11 + k) = match (imTabs m)[k]? with
      | none => []
      | some t => [⟨11 + (k : Int), encTb t⟩] := fun k hk => by
    unfold onU
    rw [rcAt_tab hk]
    cases ht : (imTabs m)[k]? with
    | none => rfl
    | some t =>
      have hm : tbB t = true := h.tabs t (List.mem_of_getElem? ht)
      simp only [Option.map_some]
      rw [show rcT (3, t) = encTb t from (tb_seal hm).2]
      simp
  have hf := h.few
  rw [flat_congr (k := fun k => match (imTabs m)[k]? with
      | none => []
      | some t => [⟨11 + (k : Int), encTb t⟩]) (fun k hk => hT k (List.mem_range.1 hk))]
  unfold imTabs
  match hs : m.snaps, hf with
  | [], _ => simp [List.range_succ, tabU]
  | [s1], _ => simp [List.range_succ, tabU]
  | [s1, s2], _ => simp [List.range_succ, tabU]
  | [s1, s2, s3], _ => simp [List.range_succ, tabU]
  | s1 :: s2 :: s3 :: s4 :: r, hf => exact absurd hf (by simp)
theorem allU_places {m : Img} (h : ImR m) : allU m = (List.range 64).flatMap (onU (rcAt m)) := by
  rw [range_parts, List.flatMap_append, List.flatMap_append, List.flatMap_append, List.flatMap_append, flat_map', flat_map', flat_map']
  rw [flat_none (l := List.range 9) (fun p hp => by unfold onU; rw [rcAt_none (.inl (List.mem_range.1 hp))]), List.nil_append]
  rw [flat_none (l := List.range 25) (fun p hp => by unfold onU; rw [rcAt_none (.inr (by omega))]), List.append_nil]
  rw [onU_tabs h]
  have h9 : ([9, 10] : List Nat).flatMap (onU (rcAt m)) = [⟨9, sealS 1 (supL m)⟩, ⟨10, encT m.refs⟩] := by
    have e1 : rcT (1, supL m) = sealS 1 (supL m) := rcR_text ⟨by simp, allB_snm h, by have := h.few; simp [supL]; omega⟩
    have e2 : rcT (2, ctNs m.refs) = encT m.refs := (ct_seal h.refs).2
    have a1 : rcAt m 9 = some (1, supL m) := by simp [rcAt]
    have a2 : rcAt m 10 = some (2, ctNs m.refs) := by simp [rcAt]
    simp only [List.flatMap_cons, List.flatMap_nil, onU, a1, a2, e1, e2]
    rfl
  rw [h9]
  have hd : (List.range 24).flatMap (fun c => onU (rcAt m) (15 + c)) = dataU m 24 := flat_congr (fun c hc => by
    have hc' := List.mem_range.1 hc
    unfold onU
    rw [rcAt_dat hc', datU]
    by_cases hp : 0 < m.refs.getD c 0
    · rw [if_pos hp, if_pos hp]
      have hcl : c < m.data.length := by rw [h.len]; exact hc'
      have hnum : numB (m.data.getD c 0) = true := by
        rw [show m.data.getD c 0 = m.data[c] by simp [List.getD, hcl]]
        exact h.nums _ (List.getElem_mem hcl)
      have e4 : rcT (4, [m.data.getD c 0]) = sealS 4 [m.data.getD c 0] := rcR_text ⟨by simp, by simp only [allB, List.all_cons, List.all_nil, hnum, Bool.and_true], by simp⟩
      simp only [e4]
      simp
    · rw [if_neg hp, if_neg hp])
  rw [hd]
  simp [allU, headU]
theorem upsF_range (fw fn : Nat → Option Rc) : upsF fw fn = (List.range 64).flatMap (fun p => if (fn p).isSome = true then upO fw fn p else []) := flat_filter _ _ _
theorem upsF_all {m : Img} (h : ImR m) : upsF (fun _ => none) (rcAt m) = allU m := by
  rw [upsF_range, allU_places h]
  refine flat_congr (fun p _ => ?_)
  cases hr : rcAt m p with
  | none => simp [onU, hr]
  | some r =>
    have hk := (rcAt_right h hr).1
    simp only [Option.isSome_some, if_true, upO, onU, rcG, hr, Option.getD_some, Option.getD_none]
    rw [if_neg (by intro h2; rw [rcEq_iff] at h2; rw [h2] at hk; simp at hk)]
theorem rcG_len {m : Img} (h : ImR m) (p : Nat) : (rcG (rcAt m) p).2.length ≤ 1000 := by
  unfold rcG
  cases hr : rcAt m p with
  | none => simp
  | some r => have := (rcAt_right h hr).2.2; simp; omega

end Go.Proofs.YtjjkppknojecjaaGreat

namespace Go.Proofs.YtjjkppknojecjaaGreat
open Go.RowKit Go.Maps
set_option linter.unusedVariables false
set_option maxRecDepth 100000

theorem recUps_any (a : Img) (h : ImR a) (B n : Nat) (D : DataW Value) (w : World) (hm : MpR w B n D (rcAt a)) (hn : n ≤ 1000) :
    Calls Tryz.prog 43 #[.map none, .map (some B)] w fun e w' => ∃ qo qa, e = .returned (.slice qo (allU a).length qa) ∧ UpS w w' qo (allU a).length qa (allU a) := by
  have := updatesFrom_any none B n D (fun _ => none) (rcAt a) w (.inl ⟨rfl, rfl⟩) hm hn (fun p _ => by simp [rcG]) (fun p _ => rcG_len h p)
  rwa [upsF_all h] at this

end Go.Proofs.YtjjkppknojecjaaGreat

namespace Go.Proofs.YtjjkppknojecjaaGreat
open Go.RowKit Go.Maps
set_option linter.unusedVariables false
set_option maxRecDepth 100000

def VarU1 (w : World) (x : Nat) (u : Up) : Prop := w.heap[x]? = some (.cells #[.int .i64 u.at_, .string u.data] 77 (0, 0))
theorem VarU1.cells {w : World} {x : Nat} {u : Up} (k : VarU1 w x u) : w.cell? ⟨x, 0, none⟩ = some (.int .i64 u.at_) ∧ w.cell? ⟨x, 1, none⟩ = some (.string u.data) := ⟨by rw [Joins.cell_of_block k]; rfl, by rw [Joins.cell_of_block k]; rfl⟩
theorem take_right {ss : List ByteArray} {xs : List Wr} {F : List Wr} (hd : diskB ss (xs ++ F) = true) (k : Nat) : diskB ss (xs ++ F.take k) = true := by
  obtain ⟨⟨a1, a2⟩, a3, a4⟩ := diskB_parts.1 hd
  refine diskB_parts.2 ⟨⟨a1, a2⟩, ?_, fun y hy => a4 y ?_⟩
  · rw [List.length_append] at a3 ⊢
    rw [List.length_take]
    omega
  · rcases List.mem_append.1 hy with h1 | h1
    · exact List.mem_append_left _ h1
    · exact List.mem_append_right _ (List.mem_of_mem_take h1)

set_option maxHeartbeats 6400000 in
theorem format_impl (ao bo : Option Addr) (ca cb : Nat) (ss : List ByteArray) (xs : List Wr) (h k : Int) (w : World) (hl : ss.length ≤ maxLen) (hm : xs.length ≤ maxLen) (h1 : Ss w ao ss) (h2 : Ios w bo xs) :
    Calls Tryz.prog 18 #[.agg #[.slice ao ss.length ca, .slice bo xs.length cb], .int .i64 h, .int .i64 k] w fun e w' => ∃ po pa qo qa, e = .returned (.tuple #[.agg #[.slice po (foS ss xs h k).length pa, .slice qo (foX ss xs h k).length qa], .int .i64 (foC ss xs h k)]) ∧ OwnD w' w.heap.size po (foS ss xs h k).length pa qo (foX ss xs h k).length qa (foS ss xs h k) (foX ss xs h k) ∧ Below w.heap.size w w' := by
  have HA := hide (Joins.below_alloc2 w (.cells #[.slice ao ss.length ca, .slice bo xs.length cb] 27) (.cells #[.slice none 0 0, .slice none 0 0] 27))
  have HR : Hid (VarD ((w.alloc (.cells #[.slice ao ss.length ca, .slice bo xs.length cb] 27)).alloc (.cells #[.slice none 0 0, .slice none 0 0] 27)) (w.heap.size + 1) (.slice none 0 0) (.slice none 0 0)) := hide (by have := VarD.new (w.alloc (.cells #[.slice ao ss.length ca, .slice bo xs.length cb] 27)) (.slice none 0 0) (.slice none 0 0); simpa using this)
  have H0 : Hid (DkA w ((w.alloc (.cells #[.slice ao ss.length ca, .slice bo xs.length cb] 27)).alloc (.cells #[.slice none 0 0, .slice none 0 0] 27)) w.heap.size ao ca bo cb ss xs) := hide ⟨(VarD.new w _ _).below (Joins.below_alloc1 _ _), h1.below (unhide HA), h2.below (unhide HA), unhide HA⟩
  have HL := hide hl
  have HM := hide hm
  clear h1 h2 hl hm
  go_enter Tryz.func18, Tryz.ntmps18
  go_upto_region 1 with fail
  revert H0
  revert HR
  revert HA
  generalize hW0 : ((w.alloc _).alloc _) = W0
  have hsz0 : w.heap.size + 1 < W0.heap.size := by rw [← hW0]; simp
  clear hW0
  intro HA HR H0
  obtain ⟨v0, v1⟩ := (unhide H0).v.cells
  go_wp2_with fail
  refine (hostFault_any ao bo ca cb ss xs h _ (unhide HL) (unhide HM) (unhide H0).s (unhide H0).i).mono ?_
  rintro e w1 ⟨rfl, hb⟩
  have HD1 := hide ((unhide H0).next hb)
  have HR1 := hide ((unhide HR).below hb)
  have hsz1 : w.heap.size + 1 < w1.heap.size := Nat.lt_of_lt_of_le hsz0 hb.size
  clear hb v0 v1 H0 HR HA hsz0
  by_cases hc : hostC ss xs h = 0
  case neg =>
    have hbn : (hostC ss xs h != 0) = true := by simp [hc]
    have HE := hide (fo_bad (n := k) hc)
    clear hc
    obtain ⟨r0, r1⟩ := (unhide HR1).cells
    have rf0 := (unhide HR1).free 0
    have rf1 := (unhide HR1).free 1
    have HZ := hide (zero_end (w := w) (wL := w1) (unhide HD1).k (.slice none 0 0) (.slice none 0 0))
    go_wp2
    refine bodyPost_ret (v := .tuple #[.agg #[.slice none 0 0, .slice none 0 0], .int .i64 (hostC ss xs h)]) (by simp [results, Tryz.results18, go_sem, r0, r1]) rfl ?_
    rw [(unhide HE).1, (unhide HE).2.1, (unhide HE).2.2]
    exact ⟨none, 0, none, 0, rfl, zeroD_own, unhide HZ⟩
  have hbn : (hostC ss xs h != 0) = false := by simp [hc]
  have HDB := hide (hostC_eq hc).1
  obtain ⟨hh0, hh3⟩ := (hostC_eq hc).2
  have HC := hide hc
  have hlx := (diskB_len (unhide HDB)).2
  have HLS : Hid (ss.length ≤ 1048576) := hide (by have := (diskB_len (unhide HDB)).1; omega)
  clear hc
  have HNE : Hid (niF k = if inB k 0 12 = true then 0 else 4) := hide rfl
  go_wp2_with fail
  refine (newImage_impl k _).mono ?_
  rintro e w2 ⟨a, ts, rfl, ho, hb⟩
  have HD2 := hide ((unhide HD1).next hb)
  have HR2 := hide ((unhide HR1).below hb)
  have HIS := hide (ho.shows (fun s hs => by unfold niI imNew im0 at hs; split at hs <;> cases hs))
  have hsz2 : w.heap.size + 1 < w2.heap.size := Nat.lt_of_lt_of_le hsz1 hb.size
  clear ho hb HD1 HR1
  simp only
  generalize hNI : niI k = NI at *
  have HNI := hide hNI
  clear hNI
  have HVI := hide (VarM.new w2 68 (.slice a.ro NI.refs.length a.rc) (.slice a.tq NI.table.length a.tc) (.slice a.so NI.snaps.length a.sc) (.slice a.dq NI.data.length a.dc))
  have HAI := hide (Joins.below_alloc1 w2 (.cells #[.slice a.ro NI.refs.length a.rc, .slice a.tq NI.table.length a.tc, .slice a.so NI.snaps.length a.sc, .slice a.dq NI.data.length a.dc] 68))
  have HD3 := hide ((unhide HD2).next (unhide HAI))
  have HR3 := hide ((unhide HR2).below (unhide HAI))
  have HI3 := hide ((unhide HIS).below (unhide HAI))
  have hsz3 := Nat.lt_of_lt_of_le hsz2 (unhide HAI).size
  clear HD2 HR2 HIS
  go_upto_region 5 with fail
  revert hsz3
  revert HI3
  revert HR3
  revert HD3
  revert HAI
  revert HVI
  generalize w2.heap.size = xi
  generalize (w2.alloc _) = w3
  intro HVI HAI HD3 HR3 HI3 hsz3
  clear HAI hsz2 hsz1
  cases hp : inB k 0 12
  · have HE := hide (fo_range (unhide HC) hp)
    have HN4 : Hid (niF k = 4) := hide (by rw [unhide HNE, hp]; rfl)
    rw [unhide HN4]
    obtain ⟨r0, r1⟩ := (unhide HR3).cells
    have rf0 := (unhide HR3).free 0
    have rf1 := (unhide HR3).free 1
    have HZ := hide (zero_end (w := w) (wL := w3) (unhide HD3).k (.slice none 0 0) (.slice none 0 0))
    clear hp
    go_wp2
    refine bodyPost_ret (v := .tuple #[.agg #[.slice none 0 0, .slice none 0 0], .int .i64 4]) (by simp [results, Tryz.results18, go_sem, r0, r1]) rfl ?_
    rw [(unhide HE).1, (unhide HE).2.1, (unhide HE).2.2]
    exact ⟨none, 0, none, 0, rfl, zeroD_own, unhide HZ⟩
  obtain ⟨hk0, hk1⟩ := inB_eq hp
  obtain ⟨n, rfl⟩ : ∃ n : Nat, k = (n : Int) := ⟨k.toNat, by omega⟩
  have hn : n ≤ 12 := by omega
  have HN0 : Hid (niF (n : Int) = 0) := hide (by rw [unhide HNE, hp]; rfl)
  have HNM : Hid (NI = imNew n) := hide (by rw [← unhide HNI, niI, if_pos (unhide HN0)]; simp)
  rw [unhide HN0]
  have HIR := hide (ImR.new hn)
  have HP := hide hp
  clear hp HNI HNE
  replace HNM := unhide HNM
  subst HNM
  obtain ⟨i0, i1, i2, i3⟩ := (unhide HVI).cells
  go_wp2_with fail
  refine (recordsOf_any a (imNew n) _ (unhide HIR) (unhide HI3)).mono ?_
  rintro e w4 ⟨B, nb, D, rfl, hnb, hge, hmp, hb⟩
  have HD4 := hide ((unhide HD3).next hb)
  have HR4 := hide ((unhide HR3).below hb)
  have HMP := hide hmp
  have hsz4 := Nat.lt_of_lt_of_le hsz3 hb.size
  clear hmp hb i0 i1 i2 i3 HD3 HR3 hge hsz3
  go_wp2_with fail
  refine (recUps_any (imNew n) (unhide HIR) B nb D _ (unhide HMP) hnb).mono ?_
  rintro e w5 ⟨uo, ua, rfl, hu⟩
  have HD5 := hide ((unhide HD4).next hu.k)
  have HR5 := hide ((unhide HR4).below hu.k)
  have HU5 := hide hu.o
  clear hu HD4 HR4
  have HUL : Hid ((allU (imNew n)).length = 3) := hide (by rw [allU_new]; rfl)
  have HUZ : Hid (∀ u ∈ allU (imNew n), u.data.size ≤ maxLen) := hide (fun u hu => by have := allU_sz (unhide HIR) u hu; unfold maxLen; omega)
  have HUA : Hid (∀ u ∈ allU (imNew n), u.data.size ≤ 80 ∧ 0 ≤ u.at_ ∧ u.at_ ≤ 63) := hide (fun u hu => by
    refine ⟨allU_sz (unhide HIR) u hu, ?_⟩
    rw [allU_new] at hu
    simp only [headU, List.mem_cons, List.not_mem_nil, or_false] at hu
    rcases hu with rfl | rfl | rfl <;> simp)
  have HFU : Hid (fuW h n = fmW h (allU (imNew n))) := hide rfl
  obtain ⟨v0, v1⟩ := (unhide HD5).v.cells
  have wr1 : IntKind.i64.wrap ((xs.length : Int) + 3) = (xs.length : Int) + 3 := by rw [IntKind.wrap_i64]; omega
  rw [unhide HUL] at HU5 ⊢
  by_cases hf : 200 < xs.length + 3
  · have HW := hide (fo_full (unhide HC) (unhide HP) hf)
    have hfi : (xs.length : Int) + 3 > 200 := by omega
    go_wp2_with fail
    refine (copyDisk_any ao bo ca cb ss xs _ (unhide HLS) (by omega) (unhide HD5).s (unhide HD5).i).mono ?_
    rintro e w6 ⟨po, pa, qo, qa, rfl, ho, hb⟩
    have HR6 := hide ((unhide HR5).below hb)
    obtain ⟨r0, r1⟩ := (unhide HR6).cells
    have rf0 := (unhide HR6).free 0
    have rf1 := (unhide HR6).free 1
    have HO := hide (fun u v => md_end (unhide HR6) (fr (unhide HD5).k hb) (Nat.le_succ _) (ho.base (unhide HD5).k.size) u v)
    clear ho hb v0 v1
    go_wp2
    refine bodyPost_ret (v := .tuple #[.agg #[.slice po ss.length pa, .slice qo xs.length qa], .int .i64 7]) (by simp [results, Tryz.results18, go_sem, r0, r1]) rfl ?_
    rw [(unhide HW).1, (unhide HW).2.1, (unhide HW).2.2]
    exact ⟨po, pa, qo, qa, rfl, unhide HO _ _⟩
  have HW := hide (fo_ok (unhide HC) (unhide HP) hf)
  have hfi : ¬ ((xs.length : Int) + 3 > 200) := by omega
  have HRG := hide (fuW_right (n := n) (unhide HDB) ⟨hh0, hh3⟩ hn (by omega))
  rw [unhide HFU] at HRG HW
  clear HFU HMP HIR HI3 HVI
  generalize allU (imNew n) = us at *
  go_wp2
  clear v0 v1
  go_loopw [44] (fun i wr => ∃ (j : Nat) (XX : List Wr) (po : Option Addr) (pa : Nat) (qo : Option Addr) (qa : Nat), j ≤ 3 ∧ i = .int .i64 j ∧ Hid (xs ++ (fmW h us).take j = XX) ∧ Hid (DkA w wr w.heap.size po pa qo qa ss XX) ∧ Hid (VarD wr (w.heap.size + 1) (.slice none 0 0) (.slice none 0 0)) ∧ Hid (OwnR wr w4.heap.size 77 2 (.slice uo 3 ua) 3 (upsV us))) (fun i _ => 3 - (intOf i).toNat)
  case atStart => exact ⟨0, xs, ao, ca, bo, cb, by omega, rfl, hide (by simp), HD5, HR5, HU5⟩
  case round =>
    clear HD5 HR5 HU5
    obtain ⟨j, XX, po, pa, qo, qa, hj, rfl, HEX, HD, HR, HU⟩ := hrel
    by_cases hlt : j < 3
    · have hju : j < us.length := by rw [unhide HUL]; exact hlt
      have hji : (j : Int) < 3 := by omega
      have HUS : Hid (Ups wr uo us) := hide (by
        have h := unhide HU
        rw [← unhide HUL] at h
        exact ownUps h (unhide HUZ))
      obtain ⟨b, off, rfl, hu0, hu1, _⟩ := unhide HUS j hju
      have HX := hide (heap_alloc_new wr (.cells #[.int .i64 us[j].at_, .string us[j].data] 77))
      have HBX := hide (Joins.below_alloc1 wr (.cells #[.int .i64 us[j].at_, .string us[j].data] 77))
      go_upto_region 13 with fail
      revert HX
      revert HBX
      generalize (wr.alloc _) = w6
      intro HBX HX
      obtain ⟨x0, x1⟩ := VarU1.cells (u := us[j]) (unhide HX)
      have HD6 := hide ((unhide HD).next (unhide HBX))
      have HR6 := hide ((unhide HR).below (unhide HBX))
      have HU6 := hide ((unhide HU).below (unhide HBX))
      clear HX HBX hu0 hu1 HUS HD HR HU
      obtain ⟨d0, d1⟩ := (unhide HD6).v.cells
      obtain ⟨az, a0, a1⟩ := unhide HUA us[j] (List.getElem_mem hju)
      obtain ⟨X7, HX7⟩ : ∃ X7, Hid (xs ++ (fmW h us).take (j + 1) = X7) := ⟨_, hide rfl⟩
      have HN : Hid (XX ++ [⟨h, us[j].at_, us[j].data⟩] = X7) := hide (by rw [← unhide HX7, ← unhide HEX]; exact (fmW_succ hju xs).symm)
      have hXl : XX.length < 200 := by rw [← unhide HEX, List.length_append, List.length_take, fmW_len, unhide HUL]; omega
      have HDK : Hid (diskB ss XX = true) := hide (by rw [← unhide HEX]; exact take_right (unhide HRG) j)
      have HZK : Hid ((∀ s ∈ ss, s.size ≤ maxLen) ∧ ∀ x ∈ X7, x.data.size ≤ maxLen) := hide (by rw [← unhide HX7]; exact right_sz2 (take_right (unhide HRG) (j + 1)))
      go_wp2_with fail
      refine (write_own po qo pa qa ss XX h us[j].at_ us[j].data X7 _ (unhide HN) (unhide HDK) hXl az hh0 hh3 a0 a1 (unhide HD6).s (unhide HD6).i).mono ?_
      rintro e w7 ⟨po7, pa7, qo7, qa7, rfl, ho, hb⟩
      have HS7 := hide (ho.ss (unhide HZK).1)
      have HI7 := hide (ho.ios (unhide HZK).2)
      have HD7 := hide ((unhide HD6).next hb)
      have HR7 := hide ((unhide HR6).below hb)
      have HU7 := hide ((unhide HU6).below hb)
      clear ho hb d0 d1 x0 x1 HD6 HR6 HU6 HDK HZK HN
      obtain ⟨t0, t1⟩ := (unhide HD7).v.cells
      have tf0 := (unhide HD7).v.free 0
      have tf1 := (unhide HD7).v.free 1
      have HDn := hide ((unhide HD7).put (pa' := pa7) (qa' := qa7) (Nat.le_refl _) rfl rfl (unhide HS7) (unhide HI7))
      have HRn := hide (((unhide HR7).apart (y := w.heap.size) (by omega) 0 (.slice po7 ss.length pa7)).apart (y := w.heap.size) (by omega) 1 (.slice qo7 X7.length qa7))
      have HUn := hide (UpS.setC (unhide HU7) (x := w.heap.size) (by omega) (.slice po7 ss.length pa7) (.slice qo7 X7.length qa7))
      go_wp2
      go_roundw
      case rel => exact ⟨j + 1, X7, po7, pa7, qo7, qa7, by omega, by go_num, HX7, HDn, HRn, HUn⟩
      case measure => simp [intOf]; omega
    · obtain rfl : j = 3 := by omega
      have HDE := HD
      have HXE : Hid (xs ++ fmW h us = XX) := hide (by
        have := unhide HEX
        rwa [List.take_of_length_le (by rw [fmW_len, unhide HUL]; exact Nat.le_refl _)] at this)
      clear HD HU
      rw [unhide HXE] at HW HRG
      obtain ⟨S, HES⟩ : ∃ S, Hid (putW ss (ofH h XX) = S) := ⟨_, hide rfl⟩
      obtain ⟨Y, HEY⟩ : ∃ Y, Hid (dropF h XX = Y) := ⟨_, hide rfl⟩
      rw [unhide HES, unhide HEY] at HW
      obtain ⟨d0, d1⟩ := (unhide HDE).v.cells
      go_wp2_with fail
      refine (flush_own po qo pa qa ss XX h S Y _ (unhide HES) (unhide HEY) (unhide HRG) hh0 hh3 (unhide HDE).s (unhide HDE).i).mono ?_
      rintro e w8 ⟨po8, pa8, qo8, qa8, rfl, ho, hb⟩
      have HR8 := hide ((unhide HR).below hb)
      obtain ⟨r0, r1⟩ := (unhide HR8).cells
      have rf0 := (unhide HR8).free 0
      have rf1 := (unhide HR8).free 1
      have HO := hide (fun u v => md_end (unhide HR8) (fr (unhide HDE).k hb) (Nat.le_succ _) (ho.base (unhide HDE).k.size) u v)
      clear ho hb d0 d1
      go_wp2
      refine bodyPost_ret (v := .tuple #[.agg #[.slice po8 S.length pa8, .slice qo8 Y.length qa8], .int .i64 0]) (by simp [results, Tryz.results18, go_sem, r0, r1]) rfl ?_
      rw [(unhide HW).1, (unhide HW).2.1, (unhide HW).2.2]
      exact ⟨po8, pa8, qo8, qa8, rfl, unhide HO _ _⟩

end Go.Proofs.YtjjkppknojecjaaGreat

namespace Go.Proofs.YtjjkppknojecjaaGreat
open Go.RowKit
set_option linter.unusedVariables false
set_option maxRecDepth 100000

theorem AnsW.bad {w w' : World} {R : Wld × Int} {c : Int} (h : R = (wl0, c)) (hb : Below w.heap.size w w') : AnsW w w' (.returned (.tuple #[wlV wa0 wl0, .int .i64 c])) R := by
  subst h; exact ⟨wa0, [], rfl, OwnWl.zero _ _, hb⟩

theorem nwS_mem {s : ByteArray} (h : s ∈ noSs) : s.size ≤ 80 := by rw [List.eq_of_mem_replicate h]; decide
theorem nw_foC {n : Int} (hn : betw n 0 12 = true) (hd : diskB noSs [] = true) : foC noSs [] 0 n = 0 := by
  obtain ⟨l0, l1⟩ := betw_iff.1 hn
  obtain ⟨q, rfl⟩ := Int.eq_ofNat_of_zero_le l0
  exact (fo_ok (n := q) (hostC_ok hd (by simp [inB])) (by simp [inB]; omega) (by simp)).2.2
theorem formatN (g : Nat) (n : Int) (W : World) (hf : foC noSs [] 0 n = 0) (h1 : Ss W (some ⟨g, 0, none⟩) noSs) :
    Calls Tryz.prog 18 #[.agg #[.slice (some ⟨g, 0, none⟩) 64 64, .slice none 0 0], .int .i64 0, .int .i64 n] W fun e w' => ∃ po pa qo qa, e = .returned (.tuple #[.agg #[.slice po (foS noSs [] 0 n).length pa, .slice qo (foX noSs [] 0 n).length qa], .int .i64 0]) ∧ OwnD w' W.heap.size po (foS noSs [] 0 n).length pa qo (foX noSs [] 0 n).length qa (foS noSs [] 0 n) (foX noSs [] 0 n) ∧ Below W.heap.size W w' := by
  have := format_impl (some ⟨g, 0, none⟩) none 64 0 noSs [] 0 n W (by rw [noSs_len]; unfold maxLen; omega) (by simp) h1 (fun i hi => absurd hi (Nat.not_lt_zero _))
  rw [hf, noSs_len] at this
  exact this

theorem oper_make {P : Program} (w : World) {o : Oper} {a : Act} {K : Act → World → Prop} {Q : Exit → Act → World → Prop} (l c : Operand) (t : TypeId) (hop : o.op = Op.makeSlice t l c)
    (base : Nat) (e : TypeId) (i : TypeInfo) (z : Value) (size : Nat) (h1 : P.underlying t = some (.slice e)) (h2 : P.info? e = some i) (h3 : i.zero = some z) (h4 : i.size = size)
    (kl kc : IntKind) (L C : Int) (n : Nat) (hl : a.eval l = .int kl L) (hc : a.eval c = .int kc C) (hL : L = (n : Int)) (hC : C = (n : Int)) (b2 : i.bytes * n ≤ 281474976710656) (b3 : n ≤ maxLen) (b4 : base ≤ w.heap.size)
    (hK : ∀ w', w'.ownsRow base e size (.slice (some ⟨w.heap.size, 0, none⟩) n n) n (madeCells z.cells (n * size)).toList → w.grownBy w' none → K (a.put o.dst (.slice (some ⟨w.heap.size, 0, none⟩) n n)) w') : o.wp P a w K Q := by
  obtain ⟨w', hr, r1, r2⟩ := run_make_full (P := P) w base t e i z size h1 h2 h3 h4 kl kc n b2 b3 b4
  subst hL hC
  unfold Oper.wp
  simp [execOp, hop, hl, hc, hr, Result.andThen]
  exact hK w' r1 r2

theorem keep_put (w : World) (x : Nat) (b : Wl4) (n : Wld) : Keep (fun k => k = x) w (put15 w x b n) :=
  ((((((((((((((Keep.setCell (Keep.refl (fun k => k = x) w) (p := ⟨x, 0, none⟩) rfl _).setCell (p := ⟨x, 1, none⟩) rfl _).setCell (p := ⟨x, 2, none⟩) rfl _).setCell (p := ⟨x, 3, none⟩) rfl _).setCell (p := ⟨x, 4, none⟩) rfl _).setCell (p := ⟨x, 5, none⟩) rfl _).setCell (p := ⟨x, 6, none⟩) rfl _).setCell (p := ⟨x, 7, none⟩) rfl _).setCell (p := ⟨x, 8, none⟩) rfl _).setCell (p := ⟨x, 9, none⟩) rfl _).setCell (p := ⟨x, 10, none⟩) rfl _).setCell (p := ⟨x, 11, none⟩) rfl _).setCell (p := ⟨x, 12, none⟩) rfl _).setCell (p := ⟨x, 13, none⟩) rfl _).setCell (p := ⟨x, 14, none⟩) rfl _
theorem oper_storeW {w : World} {o : Oper} {act : Act} {K : Act → World → Prop} {Q : Exit → Act → World → Prop} {l r : Operand} {x : Nat} {a b : Wl4} {m n : Wld} (hop : o.op = Op.store 37 l r) (hdst : o.dst = none)
    (hv : VarW w x 37 a m) (hl : act.eval l = .pointer (some ⟨x, 0, none⟩)) (hr : act.eval r = wlV b n) (hK : K act (put15 w x b n)) : o.wp Tryz.prog act w K Q := by
  obtain ⟨c0, c1, c2, c3, c4, c5, c6, c7, c8, c9, c10, c11, c12, c13, c14⟩ := hv.cells
  have f0 := hv.free 0
  have f1 := hv.free 1
  have f2 := hv.free 2
  have f3 := hv.free 3
  have f4 := hv.free 4
  have f5 := hv.free 5
  have f6 := hv.free 6
  have f7 := hv.free 7
  have f8 := hv.free 8
  have f9 := hv.free 9
  have f10 := hv.free 10
  have f11 := hv.free 11
  have f12 := hv.free 12
  have f13 := hv.free 13
  have f14 := hv.free 14
  unfold Oper.wp
  simp only [execOp, hop, hl, hr]
  simp [go_sem, hdst, c0, c1, c2, c3, c4, c5, c6, c7, c8, c9, c10, c11, c12, c13, c14, f0, f1, f2, f3, f4, f5, f6, f7, f8, f9, f10, f11, f12, f13, f14]
  exact hK
theorem keepG {S : Nat → Prop} {w w' : World} {x t : Nat} {v0 v1 : Value} (h : VarG w x t v0 v1) (hk : Keep S w w') (hs : ¬ S x) : VarG w' x t v0 v1 := by
  unfold VarG at h ⊢; rw [hk.block x (Array.getElem?_eq_some_iff.1 h).1 hs]; exact h
theorem madeHs : (madeCells (Value.agg #[Value.int .i64 0, Value.int .i64 0, Value.int .i64 0]).cells (4 * 3)).toList = hssV (List.replicate 4 hst0) := by kernel_rfl
theorem nwOwn {W5 : World} {B q : Nat} {po qo : Option Addr} {pa qa : Nat} {f d l r n : Int} {g2 : Gs4} {G : Gst} {ts : List Value}
    (hd : OwnD W5 B po (foS noSs [] 0 n).length pa qo (foX noSs [] 0 n).length qa (foS noSs [] 0 n) (foX noSs [] 0 n)) (hg : OwnGs W5 B g2 G ts)
    (hh : W5.ownsRow B 84 3 (.slice (some ⟨q, 0, none⟩) 4 4) 4 (madeCells (Value.agg #[Value.int .i64 0, Value.int .i64 0, Value.int .i64 0]).cells (4 * 3)).toList) :
    OwnWl W5 B ⟨po, pa, qo, qa, some ⟨q, 0, none⟩, 4, g2⟩ ⟨foS noSs [] 0 n, foX noSs [] 0 n, f, d, l, r, List.replicate 4 hst0, 0, G, rq0, true⟩ ts :=
  ⟨hd, OwnR.of (by rw [← madeHs]; exact hh) (fun e => by cases e), hg⟩

set_option maxHeartbeats 12800000 in
theorem newWorld_impl (f d l r n : Int) (w : World) :
    Calls Tryz.prog 7 #[cfgV f d l r, .int .i64 n] w fun e w' => AnsW w w' e (nwA f d l r n) := by
  have HB0 : Hid (Below w.heap.size w ((w.alloc (.cells #[.int .i64 f, .int .i64 d, .int .i64 l, .int .i64 r] 28)).alloc (.cells #[.slice none 0 0, .slice none 0 0, .int .i64 0, .int .i64 0, .int .i64 0, .int .i64 0, .slice none 0 0, .int .i64 0, .slice none 0 0, .slice none 0 0, .int .i64 0, .int .i64 0, .int .i64 0, .string ⟨#[]⟩, .bool false] 37))) := hide (Joins.below_alloc2 w _ _)
  have HC0 : Hid (VarCg ((w.alloc (.cells #[.int .i64 f, .int .i64 d, .int .i64 l, .int .i64 r] 28)).alloc (.cells #[.slice none 0 0, .slice none 0 0, .int .i64 0, .int .i64 0, .int .i64 0, .int .i64 0, .slice none 0 0, .int .i64 0, .slice none 0 0, .slice none 0 0, .int .i64 0, .int .i64 0, .int .i64 0, .string ⟨#[]⟩, .bool false] 37)) w.heap.size 28 f d l r) := hide ((VarCg.new w 28 f d l r).below (Joins.below_alloc1 _ _))
  have HV0 : Hid (VarW ((w.alloc (.cells #[.int .i64 f, .int .i64 d, .int .i64 l, .int .i64 r] 28)).alloc (.cells #[.slice none 0 0, .slice none 0 0, .int .i64 0, .int .i64 0, .int .i64 0, .int .i64 0, .slice none 0 0, .int .i64 0, .slice none 0 0, .slice none 0 0, .int .i64 0, .int .i64 0, .int .i64 0, .string ⟨#[]⟩, .bool false] 37)) (w.heap.size + 1) 37 wa0 wl0) := hide ((VarW.new (w.alloc (.cells #[.int .i64 f, .int .i64 d, .int .i64 l, .int .i64 r] 28)) 37 wa0 wl0).at (show _ = w.heap.size + 1 by simp))
  obtain ⟨R, HR⟩ : ∃ R, Hid (R = nwA f d l r n) := ⟨_, hide rfl⟩
  rw [← unhide HR]
  go_enter Tryz.func7, Tryz.ntmps7
  go_upto_region 1 with fail
  revert HB0 HC0 HV0
  generalize ((w.alloc _).alloc _) = W0
  intro HB0 HC0 HV0
  obtain ⟨k0, k1, k2, k3⟩ := (unhide HC0).cells
  go_wp2_with fail
  refine (configOK_impl f d l r _).mono ?_
  rintro e w1 ⟨rfl, hb⟩
  have HB1 := hide (fr (unhide HB0) hb)
  have HC1 := hide ((unhide HC0).below hb)
  have HV1 := hide ((unhide HV0).below hb)
  clear hb HB0 HC0 HV0 k0 k1 k2 k3
  cases hk : cokB f d l r
  · have HF : Hid (R = (wl0, 1)) := hide ((unhide HR).trans (if_neg (by rw [hk]; decide)))
    clear hk
    obtain ⟨c0, c1, c2, c3, c4, c5, c6, c7, c8, c9, c10, c11, c12, c13, c14⟩ := (unhide HV1).cells
    have f0 := (unhide HV1).free 0
    have f1 := (unhide HV1).free 1
    have f2 := (unhide HV1).free 2
    have f3 := (unhide HV1).free 3
    have f4 := (unhide HV1).free 4
    have f5 := (unhide HV1).free 5
    have f6 := (unhide HV1).free 6
    have f7 := (unhide HV1).free 7
    have f8 := (unhide HV1).free 8
    have f9 := (unhide HV1).free 9
    have f10 := (unhide HV1).free 10
    have f11 := (unhide HV1).free 11
    have f12 := (unhide HV1).free 12
    have f13 := (unhide HV1).free 13
    have f14 := (unhide HV1).free 14
    have HP := hide ((unhide HV1).put wa0 wl0)
    have HQ := hide (below_put (unhide HB1) (show w.heap.size ≤ w.heap.size + 1 by omega) wa0 wl0)
    go_wp2
    refine bodyPost_ret (res_wi (a := wa0) (m := wl0) Tryz.results7 rfl rfl (unhide HP)) rfl ?_
    exact AnsW.bad (unhide HF) (unhide HQ)
  have HR1 : Hid (R = if betw n 0 12 = true then (nwW f d l r n, 0) else (wl0, 4)) := hide ((unhide HR).trans (if_pos hk))
  clear hk HR
  go_wp2_with fail
  refine (newGuest_impl n _).mono ?_
  cases hn : betw n 0 12
  · have HF : Hid (R = (wl0, 4)) := hide ((unhide HR1).trans (if_neg (by rw [hn]; decide)))
    rw [show ngA n = (gs0, 4) by rw [ngA, hn]; rfl]
    clear hn
    rintro e w2 ⟨g2, ts2, rfl, ho2, hb⟩
    have HBG := hide (Joins.below_alloc1 w2 (.cells #[.slice g2.vo gs0.vals.length g2.vc, .slice g2.so gs0.shots.length g2.sc] 33))
    have HB2 := hide (fr (fr (unhide HB1) hb) (unhide HBG))
    have HV2 := hide (((unhide HV1).below hb).below (unhide HBG))
    clear hb ho2 HB1 HV1 HC1 HBG
    go_upto_region 4 with fail
    revert HB2 HV2
    generalize (w2.alloc _) = W2
    intro HB2 HV2
    obtain ⟨c0, c1, c2, c3, c4, c5, c6, c7, c8, c9, c10, c11, c12, c13, c14⟩ := (unhide HV2).cells
    have f0 := (unhide HV2).free 0
    have f1 := (unhide HV2).free 1
    have f2 := (unhide HV2).free 2
    have f3 := (unhide HV2).free 3
    have f4 := (unhide HV2).free 4
    have f5 := (unhide HV2).free 5
    have f6 := (unhide HV2).free 6
    have f7 := (unhide HV2).free 7
    have f8 := (unhide HV2).free 8
    have f9 := (unhide HV2).free 9
    have f10 := (unhide HV2).free 10
    have f11 := (unhide HV2).free 11
    have f12 := (unhide HV2).free 12
    have f13 := (unhide HV2).free 13
    have f14 := (unhide HV2).free 14
    have HP := hide ((unhide HV2).put wa0 wl0)
    have HQ := hide (below_put (unhide HB2) (show w.heap.size ≤ w.heap.size + 1 by omega) wa0 wl0)
    go_wp2
    refine bodyPost_ret (res_wi (a := wa0) (m := wl0) Tryz.results7 rfl rfl (unhide HP)) rfl ?_
    exact AnsW.bad (unhide HF) (unhide HQ)
  have HF : Hid (R = (nwW f d l r n, 0)) := hide ((unhide HR1).trans (if_pos hn))
  have HFC := hide (nw_foC hn (diskB_parts.2 ⟨⟨noSs_len, fun s hs => nwS_mem hs⟩, by simp, fun x hx => by cases hx⟩))
  obtain ⟨G, hG⟩ : ∃ G, G = (ngA n).1 := ⟨_, rfl⟩
  have hGA : ngA n = (G, 0) := by rw [hG, ngA, hn]; rfl
  have HF1 : Hid (R = (⟨foS noSs [] 0 n, foX noSs [] 0 n, f, d, l, r, List.replicate 4 hst0, 0, G, rq0, true⟩, 0)) := hide (by rw [unhide HF, hG]; rfl)
  rw [hGA]
  clear hn HF HR1 hG hGA
  rintro e w2 ⟨g2, ts2, rfl, ho2, hb⟩
  simp only at ho2 ⊢
  have HBG := hide (Joins.below_alloc1 w2 (.cells #[.slice g2.vo G.vals.length g2.vc, .slice g2.so G.shots.length g2.sc] 33))
  have HN2 := hide (LwG.new w2 g2 G ho2 hb.size)
  have HB2 := hide (fr (fr (unhide HB1) hb) (unhide HBG))
  have HC2 := hide (((unhide HC1).below hb).below (unhide HBG))
  have HV2 := hide (((unhide HV1).below hb).below (unhide HBG))
  have HL1 := hide (unhide HV1).lt
  clear hb ho2 HB1 HV1 HC1 HBG
  go_upto_region 4 with fail
  revert HN2 HB2 HC2 HV2
  generalize (w2.alloc _) = W2
  generalize w2.heap.size = pg
  intro HN2 HB2 HC2 HV2
  go_wp2_with fail
  refine (newDisk_impl _).mono ?_
  rintro e w3 ⟨g3, rfl, ho, hb⟩
  have HSS := hide (ho.ss (fun s hs => by have := nwS_mem hs; unfold maxLen; omega))
  have HN3 := hide ((unhide HN2).below hb)
  have HC3 := hide ((unhide HC2).below hb)
  have HV3 := hide ((unhide HV2).below hb)
  have HB3 := hide (fr (unhide HB2) hb)
  have HL3 := hide (unhide HV3).lt
  clear ho hb HN2 HC2 HV2 HB2
  go_wp2_with fail
  refine (formatN g3 n _ (unhide HFC) (unhide HSS)).mono ?_
  rintro e w4 ⟨po, pa, qo, qa, rfl, hod, hb⟩
  have HBD := hide (Joins.below_alloc1 w4 (.cells #[.slice po (foS noSs [] 0 n).length pa, .slice qo (foX noSs [] 0 n).length qa] 27))
  have HD4 := hide (VarD.new w4 (.slice po (foS noSs [] 0 n).length pa) (.slice qo (foX noSs [] 0 n).length qa))
  have HO4 := hide (hod.below (unhide HBD))
  have HN4 := hide (((unhide HN3).below hb).below (unhide HBD))
  have HC4 := hide (((unhide HC3).below hb).below (unhide HBD))
  have HV4 := hide (((unhide HV3).below hb).below (unhide HBD))
  have HB4 := hide (fr (fr (unhide HB3) hb) (unhide HBD))
  clear hod hb HBD HN3 HC3 HV3 HB3
  go_upto_region 7 with fail
  revert HD4 HO4 HN4 HC4 HV4 HB4
  generalize (w4.alloc _) = W4
  generalize w4.heap.size = pd
  intro HD4 HO4 HN4 HC4 HV4 HB4
  go_upto_region 9 with fail
  have hS0 : VarD W4.drew pd (.slice po (foS noSs [] 0 n).length pa) (.slice qo (foX noSs [] 0 n).length qa) ∧ VarCg W4.drew w.heap.size 28 f d l r ∧ VarG W4.drew pg 33 (.slice g2.vo G.vals.length g2.vc) (.slice g2.so G.shots.length g2.sc) := ⟨(unhide HD4).below (Below.refl _ _).drew, (unhide HC4).below (Below.refl _ _).drew, (unhide HN4).v.below (Below.refl _ _).drew⟩
  have HO5 := hide ((unhide HO4).below (Below.refl _ _).drew)
  have HG5 := hide ((unhide HN4).o.below (Below.refl _ _).drew)
  have HV5 := hide ((unhide HV4).below (Below.refl _ _).drew)
  have HB5 := hide (fr (unhide HB4) (Below.refl _ _).drew)
  clear HD4 HC4 HN4 HO4 HV4 HB4
  revert hS0 HO5 HG5 HV5 HB5
  refine fun hS0 HO5 HG5 HV5 HB5 => wp_region_ord (fun w' => VarD w' pd (.slice po (foS noSs [] 0 n).length pa) (.slice qo (foX noSs [] 0 n).length qa) ∧ VarCg w' w.heap.size 28 f d l r ∧ VarG w' pg 33 (.slice g2.vo G.vals.length g2.vc) (.slice g2.so G.shots.length g2.sc)) [0, 1, 2, 3, 4, 5, 6] [(0, 0), (1, 0), (3, 0), (2, 2), (4, 0), (5, 2), (6, 0)] (by kernel_rfl) (by kernel_rfl) rfl (by kernel_rfl) ?_
  refine ord_read (.agg #[.slice po (foS noSs [] 0 n).length pa, .slice qo (foX noSs [] 0 n).length qa]) rfl rfl hS0 (fun W hW => by obtain ⟨c0, c1⟩ := hW.1.cells; go_simp) ?_
  refine ord_read (cfgV f d l r) rfl rfl hS0 (fun W hW => by obtain ⟨c0, c1, c2, c3⟩ := hW.2.1.cells; go_simp) ?_
  refine ord_read (gsV g2 G) rfl rfl hS0 (fun W hW => by obtain ⟨c0, c1⟩ := hW.2.2.cells; go_simp) ?_
  refine ord_held rfl rfl ?_
  intro K hK
  obtain ⟨j0, hj, hy0, hy1, hy2⟩ := info_parts infoHs
  refine oper_make W4.drew _ _ 29 rfl W4.drew.heap.size 84 j0 _ 3 Tryz.underlying29 hj hy0 hy1 .i64 .i64 4 4 4 rfl rfl rfl rfl (by rw [hy2]; omega) (by unfold maxLen; omega) (Nat.le_refl _) ?_
  intro w5 hown hgrow
  have hb : Below W4.drew.heap.size W4.drew w5 := (Below.refl _ _).grown hgrow (Nat.le_refl _) (fun _ h => by cases h)
  refine hK _ _ ⟨hS0.1.below hb, hS0.2.1.below hb, hS0.2.2.below hb⟩ ?_
  have hS5 : VarD w5 pd (.slice po (foS noSs [] 0 n).length pa) (.slice qo (foX noSs [] 0 n).length qa) ∧ VarCg w5 w.heap.size 28 f d l r ∧ VarG w5 pg 33 (.slice g2.vo G.vals.length g2.vc) (.slice g2.so G.shots.length g2.sc) := ⟨hS0.1.below hb, hS0.2.1.below hb, hS0.2.2.below hb⟩
  refine ord_read (wlV ⟨po, pa, qo, qa, some ⟨W4.drew.heap.size, 0, none⟩, 4, g2⟩ ⟨foS noSs [] 0 n, foX noSs [] 0 n, f, d, l, r, List.replicate 4 hst0, 0, G, rq0, true⟩) rfl rfl hS5 (fun W hW => by go_simp; exact ⟨rfl, rfl, rfl, rfl⟩) ?_
  refine ord_held rfl rfl ?_
  intro K2 hK2
  have HV6 := hide ((unhide HV5).below hb)
  have HB6 := hide (fr (unhide HB5) hb)
  have HO6 := hide (nwOwn (f := f) (d := d) (l := l) (r := r) (((unhide HO5).below hb).base (show w.heap.size + 2 ≤ _ from (unhide HL3))) (((unhide HG5).below hb).base (show w.heap.size + 2 ≤ _ from (unhide HL1))) ((OwnR.base (.inr ⟨by omega, hown⟩) (show w.heap.size + 2 ≤ _ from (unhide HV5).lt)).elim (fun e => absurd e.1 (by decide)) (fun e => e.2)))
  have n0 : pd ≠ w.heap.size + 1 := fun e => by have h1 := hS5.1; have h2 := unhide HV6; unfold VarD at h1; unfold VarW at h2; rw [e, h2] at h1; simp at h1
  have n1 : pg ≠ w.heap.size + 1 := fun e => by have h1 := hS5.2.2; have h2 := unhide HV6; unfold VarG at h1; unfold VarW at h2; rw [e, h2] at h1; simp at h1
  clear hb hown hgrow hK K HO5 HG5 HV5 HB5
  refine oper_storeW (b := ⟨po, pa, qo, qa, some ⟨W4.drew.heap.size, 0, none⟩, 4, g2⟩) (n := ⟨foS noSs [] 0 n, foX noSs [] 0 n, f, d, l, r, List.replicate 4 hst0, 0, G, rq0, true⟩) rfl rfl (unhide HV6) (by go_simp) (by go_simp) ?_
  have hk := keep_put w5 (w.heap.size + 1) ⟨po, pa, qo, qa, some ⟨W4.drew.heap.size, 0, none⟩, 4, g2⟩ ⟨foS noSs [] 0 n, foX noSs [] 0 n, f, d, l, r, List.replicate 4 hst0, 0, G, rq0, true⟩
  have HP := hide ((unhide HV6).put ⟨po, pa, qo, qa, some ⟨W4.drew.heap.size, 0, none⟩, 4, g2⟩ ⟨foS noSs [] 0 n, foX noSs [] 0 n, f, d, l, r, List.replicate 4 hst0, 0, G, rq0, true⟩)
  have HQ := hide (below_put (unhide HB6) (show w.heap.size ≤ w.heap.size + 1 by omega) ⟨po, pa, qo, qa, some ⟨W4.drew.heap.size, 0, none⟩, 4, g2⟩ ⟨foS noSs [] 0 n, foX noSs [] 0 n, f, d, l, r, List.replicate 4 hst0, 0, G, rq0, true⟩)
  have HW := hide ((unhide HO6).put (show w.heap.size + 1 < w.heap.size + 2 by omega) ⟨po, pa, qo, qa, some ⟨W4.drew.heap.size, 0, none⟩, 4, g2⟩ ⟨foS noSs [] 0 n, foX noSs [] 0 n, f, d, l, r, List.replicate 4 hst0, 0, G, rq0, true⟩)
  have hS6 := And.intro (hS5.1.keep hk n0) (And.intro (hS5.2.1.keep hk (show ¬ (w.heap.size = w.heap.size + 1) by omega)) (keepG hS5.2.2 hk n1))
  refine hK2 _ _ hS6 ?_
  clear hK2 K2
  refine ord_read (.int .i64 0) rfl rfl hS6 (fun W hW => by go_simp) ?_
  refine ord_done ?_
  clear hS6 hk hS5 hS0
  revert HP HQ HW
  generalize put15 w5 (w.heap.size + 1) _ _ = W7
  intro HP HQ HW
  go_wp2
  refine bodyPost_ret (res_wi (a := ⟨po, pa, qo, qa, some ⟨W4.drew.heap.size, 0, none⟩, 4, g2⟩) (m := ⟨foS noSs [] 0 n, foX noSs [] 0 n, f, d, l, r, List.replicate 4 hst0, 0, G, rq0, true⟩) Tryz.results7 rfl rfl (unhide HP)) rfl ?_
  exact ⟨_, _, by rw [unhide HF1], by rw [unhide HF1]; exact (unhide HW).base (by omega), unhide HQ⟩
end Go.Proofs.YtjjkppknojecjaaGreat

namespace Go.Proofs.YtjjkppknojecjaaGreat
open Go.RowKit
set_option linter.unusedVariables false
set_option maxRecDepth 100000

end Go.Proofs.YtjjkppknojecjaaGreat

namespace Go.Proofs.YtjjkppknojecjaaGreat
open Go.RowKit
set_option linter.unusedVariables false
set_option maxRecDepth 100000

end Go.Proofs.YtjjkppknojecjaaGreat

namespace Go.Proofs.YtjjkppknojecjaaGreat
open Go.RowKit
set_option linter.unusedVariables false
set_option maxRecDepth 100000

end Go.Proofs.YtjjkppknojecjaaGreat

namespace Go.Proofs.YtjjkppknojecjaaGreat
open Go.RowKit
set_option linter.unusedVariables false
set_option maxRecDepth 100000

structure NwK (Wq : World) (B : Nat) (n : Int) (CF GV : Value) (SS : List ByteArray) (XX : List Wr) (m : Wld) (ts : List Value) (D : Nat → Bool) (w : World) (s12 s13 s14 s15 s16 s17 s18 : Value) : Prop where
  bw : Below Wq.heap.size Wq w
  p0 : D 0 = true → ∃ g k, s12 = .agg #[.slice (some ⟨g, 0, none⟩) 64 64, .slice (some ⟨k, 0, none⟩) 0 0] ∧ OwnD w Wq.heap.size (some ⟨g, 0, none⟩) 64 64 (some ⟨k, 0, none⟩) 0 0 noSs []
  f1 : D 1 = true → s13 = .int .i64 n
  p2 : D 2 = true → ∃ po pa qo qa, s14 = .agg #[.slice po SS.length pa, .slice qo XX.length qa] ∧ OwnD w Wq.heap.size po SS.length pa qo XX.length qa SS XX
  f3 : D 3 = true → s15 = CF
  p4 : D 4 = true → ∃ q, s16 = .slice (some ⟨q, 0, none⟩) 4 4 ∧ OwnR w Wq.heap.size 84 3 (.slice (some ⟨q, 0, none⟩) 4 4) 4 (hssV (List.replicate 4 hst0))
  f5 : D 5 = true → s17 = GV
  p6 : D 6 = true → ∃ a, s18 = wlV a m ∧ OwnWl w B a m ts

theorem NwK.grow {Wq : World} {B : Nat} {n : Int} {CF GV : Value} {SS : List ByteArray} {XX : List Wr} {m : Wld} {ts : List Value} {D : Nat → Bool} {w w2 : World} {s12 s13 s14 s15 s16 s17 s18 : Value} (I : NwK Wq B n CF GV SS XX m ts D w s12 s13 s14 s15 s16 s17 s18) (hb : Below w.heap.size w w2) : NwK Wq B n CF GV SS XX m ts D w2 s12 s13 s14 s15 s16 s17 s18 where
  bw := fr I.bw hb
  p0 := fun h => (I.p0 h).imp fun g h1 => h1.imp fun k h2 => ⟨h2.1, h2.2.below hb⟩
  f1 := I.f1
  p2 := fun h => (I.p2 h).imp fun a h1 => h1.imp fun b h2 => h2.imp fun c h3 => h3.imp fun e h4 => ⟨h4.1, h4.2.below hb⟩
  f3 := I.f3
  p4 := fun h => (I.p4 h).imp fun q h1 => ⟨h1.1, OwnR.below h1.2 hb⟩
  f5 := I.f5
  p6 := fun h => (I.p6 h).imp fun a h1 => ⟨h1.1, h1.2.below hb⟩

theorem NwK.s0 {Wq : World} {B : Nat} {n : Int} {CF GV : Value} {SS : List ByteArray} {XX : List Wr} {m : Wld} {ts : List Value} {D : Nat → Bool} {w : World} {s12 s13 s14 s15 s16 s17 s18 v : Value} (I : NwK Wq B n CF GV SS XX m ts D w s12 s13 s14 s15 s16 s17 s18) (hd : D 0 = false) (hv : ∃ g k, v = .agg #[.slice (some ⟨g, 0, none⟩) 64 64, .slice (some ⟨k, 0, none⟩) 0 0] ∧ OwnD w Wq.heap.size (some ⟨g, 0, none⟩) 64 64 (some ⟨k, 0, none⟩) 0 0 noSs []) : NwK Wq B n CF GV SS XX m ts (updD D 0) w v s13 s14 s15 s16 s17 s18 where
  bw := I.bw
  p0 := fun _ => hv
  f1 := fun h => I.f1 (upd_ne (by decide) h)
  p2 := fun h => I.p2 (upd_ne (by decide) h)
  f3 := fun h => I.f3 (upd_ne (by decide) h)
  p4 := fun h => I.p4 (upd_ne (by decide) h)
  f5 := fun h => I.f5 (upd_ne (by decide) h)
  p6 := fun h => I.p6 (upd_ne (by decide) h)

theorem NwK.s1 {Wq : World} {B : Nat} {n : Int} {CF GV : Value} {SS : List ByteArray} {XX : List Wr} {m : Wld} {ts : List Value} {D : Nat → Bool} {w : World} {s12 s13 s14 s15 s16 s17 s18 v : Value} (I : NwK Wq B n CF GV SS XX m ts D w s12 s13 s14 s15 s16 s17 s18) (hd : D 1 = false) (hv : v = .int .i64 n) : NwK Wq B n CF GV SS XX m ts (updD D 1) w s12 v s14 s15 s16 s17 s18 where
  bw := I.bw
  p0 := fun h => I.p0 (upd_ne (by decide) h)
  f1 := fun _ => hv
  p2 := fun h => I.p2 (upd_ne (by decide) h)
  f3 := fun h => I.f3 (upd_ne (by decide) h)
  p4 := fun h => I.p4 (upd_ne (by decide) h)
  f5 := fun h => I.f5 (upd_ne (by decide) h)
  p6 := fun h => I.p6 (upd_ne (by decide) h)

theorem NwK.s2 {Wq : World} {B : Nat} {n : Int} {CF GV : Value} {SS : List ByteArray} {XX : List Wr} {m : Wld} {ts : List Value} {D : Nat → Bool} {w : World} {s12 s13 s14 s15 s16 s17 s18 v : Value} (I : NwK Wq B n CF GV SS XX m ts D w s12 s13 s14 s15 s16 s17 s18) (hd : D 2 = false) (hv : ∃ po pa qo qa, v = .agg #[.slice po SS.length pa, .slice qo XX.length qa] ∧ OwnD w Wq.heap.size po SS.length pa qo XX.length qa SS XX) : NwK Wq B n CF GV SS XX m ts (updD D 2) w s12 s13 v s15 s16 s17 s18 where
  bw := I.bw
  p0 := fun h => I.p0 (upd_ne (by decide) h)
  f1 := fun h => I.f1 (upd_ne (by decide) h)
  p2 := fun _ => hv
  f3 := fun h => I.f3 (upd_ne (by decide) h)
  p4 := fun h => I.p4 (upd_ne (by decide) h)
  f5 := fun h => I.f5 (upd_ne (by decide) h)
  p6 := fun h => I.p6 (upd_ne (by decide) h)

theorem NwK.s3 {Wq : World} {B : Nat} {n : Int} {CF GV : Value} {SS : List ByteArray} {XX : List Wr} {m : Wld} {ts : List Value} {D : Nat → Bool} {w : World} {s12 s13 s14 s15 s16 s17 s18 v : Value} (I : NwK Wq B n CF GV SS XX m ts D w s12 s13 s14 s15 s16 s17 s18) (hd : D 3 = false) (hv : v = CF) : NwK Wq B n CF GV SS XX m ts (updD D 3) w s12 s13 s14 v s16 s17 s18 where
  bw := I.bw
  p0 := fun h => I.p0 (upd_ne (by decide) h)
  f1 := fun h => I.f1 (upd_ne (by decide) h)
  p2 := fun h => I.p2 (upd_ne (by decide) h)
  f3 := fun _ => hv
  p4 := fun h => I.p4 (upd_ne (by decide) h)
  f5 := fun h => I.f5 (upd_ne (by decide) h)
  p6 := fun h => I.p6 (upd_ne (by decide) h)

theorem NwK.s4 {Wq : World} {B : Nat} {n : Int} {CF GV : Value} {SS : List ByteArray} {XX : List Wr} {m : Wld} {ts : List Value} {D : Nat → Bool} {w : World} {s12 s13 s14 s15 s16 s17 s18 v : Value} (I : NwK Wq B n CF GV SS XX m ts D w s12 s13 s14 s15 s16 s17 s18) (hd : D 4 = false) (hv : ∃ q, v = .slice (some ⟨q, 0, none⟩) 4 4 ∧ OwnR w Wq.heap.size 84 3 (.slice (some ⟨q, 0, none⟩) 4 4) 4 (hssV (List.replicate 4 hst0))) : NwK Wq B n CF GV SS XX m ts (updD D 4) w s12 s13 s14 s15 v s17 s18 where
  bw := I.bw
  p0 := fun h => I.p0 (upd_ne (by decide) h)
  f1 := fun h => I.f1 (upd_ne (by decide) h)
  p2 := fun h => I.p2 (upd_ne (by decide) h)
  f3 := fun h => I.f3 (upd_ne (by decide) h)
  p4 := fun _ => hv
  f5 := fun h => I.f5 (upd_ne (by decide) h)
  p6 := fun h => I.p6 (upd_ne (by decide) h)

theorem NwK.s5 {Wq : World} {B : Nat} {n : Int} {CF GV : Value} {SS : List ByteArray} {XX : List Wr} {m : Wld} {ts : List Value} {D : Nat → Bool} {w : World} {s12 s13 s14 s15 s16 s17 s18 v : Value} (I : NwK Wq B n CF GV SS XX m ts D w s12 s13 s14 s15 s16 s17 s18) (hd : D 5 = false) (hv : v = GV) : NwK Wq B n CF GV SS XX m ts (updD D 5) w s12 s13 s14 s15 s16 v s18 where
  bw := I.bw
  p0 := fun h => I.p0 (upd_ne (by decide) h)
  f1 := fun h => I.f1 (upd_ne (by decide) h)
  p2 := fun h => I.p2 (upd_ne (by decide) h)
  f3 := fun h => I.f3 (upd_ne (by decide) h)
  p4 := fun h => I.p4 (upd_ne (by decide) h)
  f5 := fun _ => hv
  p6 := fun h => I.p6 (upd_ne (by decide) h)

theorem NwK.s6 {Wq : World} {B : Nat} {n : Int} {CF GV : Value} {SS : List ByteArray} {XX : List Wr} {m : Wld} {ts : List Value} {D : Nat → Bool} {w : World} {s12 s13 s14 s15 s16 s17 s18 v : Value} (I : NwK Wq B n CF GV SS XX m ts D w s12 s13 s14 s15 s16 s17 s18) (hd : D 6 = false) (hv : ∃ a, v = wlV a m ∧ OwnWl w B a m ts) : NwK Wq B n CF GV SS XX m ts (updD D 6) w s12 s13 s14 s15 s16 s17 v where
  bw := I.bw
  p0 := fun h => I.p0 (upd_ne (by decide) h)
  f1 := fun h => I.f1 (upd_ne (by decide) h)
  p2 := fun h => I.p2 (upd_ne (by decide) h)
  f3 := fun h => I.f3 (upd_ne (by decide) h)
  p4 := fun h => I.p4 (upd_ne (by decide) h)
  f5 := fun h => I.f5 (upd_ne (by decide) h)
  p6 := fun _ => hv

theorem updD7 {D : Nat → Bool} {i : Nat} (h : i ≠ 7) : updD D i 7 = D 7 := by
  unfold updD
  rw [decide_eq_false (Ne.symm h)]
  simp
abbrev nwFr (t0 t1 t2 t3 t4 t5 t6 t7 t8 t9 t10 t11 s12 s13 s14 s15 s16 s17 s18 : Value) : Act := ⟨#[t0, t1, t2, t3, t4, t5, t6, t7, t8, t9, t10, t11, s12, s13, s14, s15, s16, s17, s18], []⟩
theorem nwFr_region {P : Program} {id : Nat} {Q : Exit → Act → World → Prop} {l : List Oper} {t0 t1 t2 t3 t4 t5 t6 t7 t8 t9 t10 t11 s12 s13 s14 s15 s16 s17 s18 : Value} {W : World} (J : (Nat → Bool) → World → Value → Value → Value → Value → Value → Value → Value → Prop) (hm : P.follows .mixedOrders = true) (hl : linB l = true)
    (hg : ∀ (i : Nat) (o : Oper), l[i]? = some o → o.guard = none) (h0 : J (fun _ => false) { W with drawn := W.drawn + 1 } s12 s13 s14 s15 s16 s17 s18)
    (hs : ∀ (d : Nat → Bool) (w : World) (i : Nat) (o : Oper) (r12 r13 r14 r15 r16 r17 r18 : Value), Closed l d → J d w r12 r13 r14 r15 r16 r17 r18 → l[i]? = some o → d i = false → (∀ e ∈ o.after, Region.binds .any e = true → d e.on = true) → ∀ K : Act → World → Prop, (∀ (w' : World) (q12 q13 q14 q15 q16 q17 q18 : Value), J (updD d i) w' q12 q13 q14 q15 q16 q17 q18 → K (nwFr t0 t1 t2 t3 t4 t5 t6 t7 t8 t9 t10 t11 q12 q13 q14 q15 q16 q17 q18) w') → o.wp P (nwFr t0 t1 t2 t3 t4 t5 t6 t7 t8 t9 t10 t11 r12 r13 r14 r15 r16 r17 r18) w K Q)
    (he : ∀ (d : Nat → Bool) (w : World) (r12 r13 r14 r15 r16 r17 r18 : Value), J d w r12 r13 r14 r15 r16 r17 r18 → (∀ i, i < l.length → d i = true) → Q .normal (nwFr t0 t1 t2 t3 t4 t5 t6 t7 t8 t9 t10 t11 r12 r13 r14 r15 r16 r17 r18) w) : (Code.region id l.toArray true).wp P Q (nwFr t0 t1 t2 t3 t4 t5 t6 t7 t8 t9 t10 t11 s12 s13 s14 s15 s16 s17 s18) W := by
  refine wp_region_inv2 (fun d f w => ∃ r12 r13 r14 r15 r16 r17 r18, f = nwFr t0 t1 t2 t3 t4 t5 t6 t7 t8 t9 t10 t11 r12 r13 r14 r15 r16 r17 r18 ∧ J d w r12 r13 r14 r15 r16 r17 r18) hm hl hg ⟨s12, s13, s14, s15, s16, s17, s18, rfl, h0⟩ ?_ ?_
  · intro d f w i o hc hI ho hd hp K hK
    obtain ⟨r12, r13, r14, r15, r16, r17, r18, rfl, hJ⟩ := hI
    exact hs d w i o r12 r13 r14 r15 r16 r17 r18 hc hJ ho hd hp K (fun w' q12 q13 q14 q15 q16 q17 q18 hJ' => hK _ _ ⟨q12, q13, q14, q15, q16, q17, q18, rfl, hJ'⟩)
  · intro d f w hI hall
    obtain ⟨r12, r13, r14, r15, r16, r17, r18, rfl, hJ⟩ := hI
    exact he d w r12 r13 r14 r15 r16 r17 r18 hJ hall

def NwJ (Wq : World) (B x : Nat) (n : Int) (CF GV : Value) (SS : List ByteArray) (XX : List Wr) (m : Wld) (ts : List Value) (D : Nat → Bool) (w : World) (s12 s13 s14 s15 s16 s17 s18 : Value) : Prop :=
  (D 7 = false → NwK Wq B n CF GV SS XX m ts D w s12 s13 s14 s15 s16 s17 s18) ∧ (D 7 = true → ∃ W5 a, w = put15 W5 x a m ∧ Below Wq.heap.size Wq W5 ∧ VarW W5 x 37 wa0 wl0 ∧ OwnWl W5 B a m ts)
theorem NwJ.of {Wq : World} {B : Nat} {n : Int} {CF GV : Value} {SS : List ByteArray} {XX : List Wr} {m : Wld} {ts : List Value} {D : Nat → Bool} {x i : Nat} {w : World} {s12 s13 s14 s15 s16 s17 s18 : Value} (h7 : D 7 = false) (hi : i ≠ 7) (h : NwK Wq B n CF GV SS XX m ts (updD D i) w s12 s13 s14 s15 s16 s17 s18) : NwJ Wq B x n CF GV SS XX m ts (updD D i) w s12 s13 s14 s15 s16 s17 s18 :=
  ⟨fun _ => h, fun h2 => by rw [updD7 hi, h7] at h2; cases h2⟩
theorem res_w1 {fn : Func} {p : Tmp} {x : Nat} {W : World} {tmps : Array Value} {a : Wl4} {m : Wld} (h : fn.results = #[.cell p 37]) (hp : tmps.getD p undef = .pointer (some ⟨x, 0, none⟩)) (hv : VarW W x 37 a m) :
    (results fn tmps).run Tryz.prog W = .ok (wlV a m) W := by
  obtain ⟨c0, c1, c2, c3, c4, c5, c6, c7, c8, c9, c10, c11, c12, c13, c14⟩ := hv.cells
  rw [Array.getD_eq_getD_getElem?] at hp
  simp [results, h, hp, go_sem, c0, c1, c2, c3, c4, c5, c6, c7, c8, c9, c10, c11, c12, c13, c14]

theorem nw_hyp {n : Nat} (hn : n ≤ 12) : diskB noSs ([] ++ fmW 0 (allU (imNew n))) = true ∧ putW noSs (ofH 0 ([] ++ fmW 0 (allU (imNew n)))) = foS noSs [] 0 n ∧ dropF 0 ([] ++ fmW 0 (allU (imNew n))) = foX noSs [] 0 n := by
  have hd : diskB noSs [] = true := diskB_parts.2 ⟨⟨noSs_len, fun s hs => nwS_mem hs⟩, by simp, fun x hx => by cases hx⟩
  have ho := fo_ok (n := n) (hostC_ok hd (h := 0) (by simp [inB])) (by simp [inB]; omega) (by simp)
  exact ⟨fuW_right hd (by omega) hn (by simp), ho.1.symm, ho.2.1.symm⟩

theorem formatM (n : Nat) (hn : n ≤ 12) (W : World) (g k B : Nat) (ho : OwnD W B (some ⟨g, 0, none⟩) 64 64 (some ⟨k, 0, none⟩) 0 0 noSs []) :
    Calls Tryz.prog 35 #[.agg #[.slice (some ⟨g, 0, none⟩) 64 64, .slice (some ⟨k, 0, none⟩) 0 0], .int .i64 0, .int .i64 n] W fun e w' => ∃ po pa qo qa, e = .returned (.agg #[.slice po (foS noSs [] 0 n).length pa, .slice qo (foX noSs [] 0 n).length qa]) ∧ OwnD w' W.heap.size po (foS noSs [] 0 n).length pa qo (foX noSs [] 0 n).length qa (foS noSs [] 0 n) (foX noSs [] 0 n) ∧ Below W.heap.size W w' := by
  obtain ⟨h1, h2, h3⟩ := nw_hyp hn
  have hl : (foS noSs [] 0 n).length = 64 := by rw [← h2, put_len, noSs_len]
  have := l11Format_any (some ⟨g, 0, none⟩) (some ⟨k, 0, none⟩) 64 0 noSs [] 0 n _ _ W (by omega) (ImR.new hn) h1 h2 h3 (ho.ss (fun s hs => by have := nwS_mem hs; unfold maxLen; omega)) (ho.ios (fun x hx => by cases hx))
  rw [noSs_len] at this
  rw [hl]
  exact this

set_option maxHeartbeats 12800000 in
theorem l15New_any (f d l r : Int) (n : Nat) (w : World) (hn : n ≤ 12) :
    Calls Tryz.prog 15 #[cfgV f d l r, .int .i64 n] w fun e w' => ∃ a ts, e = .returned (wlV a (nwW f d l r n)) ∧ OwnWl w' w.heap.size a (nwW f d l r n) ts ∧ Below w.heap.size w w' := by
  have HB0 : Hid (Below w.heap.size w ((w.alloc (.cells #[.int .i64 f, .int .i64 d, .int .i64 l, .int .i64 r] 28)).alloc (.cells #[.slice none 0 0, .slice none 0 0, .int .i64 0, .int .i64 0, .int .i64 0, .int .i64 0, .slice none 0 0, .int .i64 0, .slice none 0 0, .slice none 0 0, .int .i64 0, .int .i64 0, .int .i64 0, .string ⟨#[]⟩, .bool false] 37))) := hide (Joins.below_alloc2 w _ _)
  have HC0 : Hid (VarCg ((w.alloc (.cells #[.int .i64 f, .int .i64 d, .int .i64 l, .int .i64 r] 28)).alloc (.cells #[.slice none 0 0, .slice none 0 0, .int .i64 0, .int .i64 0, .int .i64 0, .int .i64 0, .slice none 0 0, .int .i64 0, .slice none 0 0, .slice none 0 0, .int .i64 0, .int .i64 0, .int .i64 0, .string ⟨#[]⟩, .bool false] 37)) w.heap.size 28 f d l r) := hide ((VarCg.new w 28 f d l r).below (Joins.below_alloc1 _ _))
  have HV0 : Hid (VarW ((w.alloc (.cells #[.int .i64 f, .int .i64 d, .int .i64 l, .int .i64 r] 28)).alloc (.cells #[.slice none 0 0, .slice none 0 0, .int .i64 0, .int .i64 0, .int .i64 0, .int .i64 0, .slice none 0 0, .int .i64 0, .slice none 0 0, .slice none 0 0, .int .i64 0, .int .i64 0, .int .i64 0, .string ⟨#[]⟩, .bool false] 37)) (w.heap.size + 1) 37 wa0 wl0) := hide ((VarW.new (w.alloc (.cells #[.int .i64 f, .int .i64 d, .int .i64 l, .int .i64 r] 28)) 37 wa0 wl0).at (show _ = w.heap.size + 1 by simp))
  have HFM := hide (formatM n hn)
  obtain ⟨M, hM⟩ : ∃ M, M = nwW f d l r n := ⟨_, rfl⟩
  have HM1 : Hid (M = ⟨foS noSs [] 0 n, foX noSs [] 0 n, f, d, l, r, List.replicate 4 hst0, 0, (ngA n).1, rq0, true⟩) := hide hM
  rw [← hM]
  have HGB := hide (show (ngA n).2 = 0 by rw [ngA, show betw (n : Int) 0 12 = true from betw_yes (by omega) (by omega)]; rfl)
  clear hM hn
  go_enter Tryz.func15, Tryz.ntmps15
  go_upto_region 1 with fail
  revert HB0 HC0 HV0
  generalize ((w.alloc _).alloc _) = W0
  intro HB0 HC0 HV0
  revert HFM HM1 HGB
  generalize foS noSs [] 0 n = SS
  generalize foX noSs [] 0 n = XX
  have HNG := hide (newGuest_spec n W0)
  revert HNG
  generalize ngA n = NG
  obtain ⟨G, C⟩ := NG
  intro HNG HFM HM1 HGB
  obtain rfl : C = 0 := unhide HGB
  go_wp2_with fail
  refine (unhide HNG).mono ?_
  rintro e w2 ⟨g2, ts2, rfl, ho2, hb⟩
  simp only at ho2 ⊢
  have HBG := hide (Joins.below_alloc1 w2 (.cells #[.slice g2.vo G.vals.length g2.vc, .slice g2.so G.shots.length g2.sc] 33))
  have HN2 := hide (LwG.new w2 g2 G ho2 hb.size)
  have HB2 := hide (fr (fr (unhide HB0) hb) (unhide HBG))
  have HC2 := hide (((unhide HC0).below hb).below (unhide HBG))
  have HV2 := hide (((unhide HV0).below hb).below (unhide HBG))
  have HL1 := hide (unhide HV0).lt
  clear hb ho2 HB0 HC0 HV0 HBG HNG HGB
  go_upto_region 2 with fail
  revert HN2 HB2 HC2 HV2
  generalize (w2.alloc _) = W2
  generalize w2.heap.size = pg
  intro HN2 HB2 HC2 HV2
  have HLW := hide (unhide HV2).lt
  obtain ⟨j0, hj, hy0, hy1, hy2⟩ := info_parts infoHs
  refine nwFr_region (fun D wz r12 r13 r14 r15 r16 r17 r18 => NwJ W2 (w.heap.size + 2) (w.heap.size + 1) n (cfgV f d l r) (gsV g2 G) SS XX M ts2 D wz r12 r13 r14 r15 r16 r17 r18) (by kernel_rfl) (by kernel_rfl) (noG_spec (by kernel_rfl)) ?h0 ?hs ?he
  case h0 => exact ⟨fun _ => ⟨(Below.refl _ W2).drew, fun h => (by cases h), fun h => (by cases h), fun h => (by cases h), fun h => (by cases h), fun h => (by cases h), fun h => (by cases h), fun h => (by cases h)⟩, fun h => (by cases h)⟩
  case hs =>
    intro D wz i o r12 r13 r14 r15 r16 r17 r18 hc J ho hd hp K hK
    have hi : i < 8 := (List.getElem?_eq_some_iff.1 ho).1
    rcases (show i = 0 ∨ i = 1 ∨ i = 2 ∨ i = 3 ∨ i = 4 ∨ i = 5 ∨ i = 6 ∨ i = 7 by omega) with rfl | rfl | rfl | rfl | rfl | rfl | rfl | rfl
    · have h7 := not_yet hc 9 (j := 7) (i := 0) (by kernel_rfl) hd
      have I := J.1 h7
      cases ho
      unfold Oper.wp
      go_simp
      refine (l01New_any _).mono ?_
      rintro e w3 ⟨g, k, rfl, ho1, hb1⟩
      exact hK _ _ _ _ _ _ _ _ (NwJ.of h7 (by decide) ((I.grow hb1).s0 hd ⟨g, k, rfl, ho1.base I.bw.size⟩))
    · have h7 := not_yet hc 9 (j := 7) (i := 1) (by kernel_rfl) hd
      have I := J.1 h7
      cases ho
      unfold Oper.wp
      go_simp
      exact hK _ _ _ _ _ _ _ _ (NwJ.of h7 (by decide) (I.s1 hd rfl))
    · have h7 := not_yet hc 9 (j := 7) (i := 2) (by kernel_rfl) hd
      have I := J.1 h7
      cases ho
      obtain ⟨g, k, e0, ho0⟩ := I.p0 (hp ⟨0, .data⟩ (by simp) rfl)
      have e1 := I.f1 (hp ⟨1, .data⟩ (by simp) rfl)
      subst e0 e1
      unfold Oper.wp
      go_simp
      refine (unhide HFM _ g k _ ho0).mono ?_
      rintro e w3 ⟨po, pa, qo, qa, rfl, ho1, hb1⟩
      exact hK _ _ _ _ _ _ _ _ (NwJ.of h7 (by decide) ((I.grow hb1).s2 hd ⟨po, pa, qo, qa, rfl, ho1.base I.bw.size⟩))
    · have h7 := not_yet hc 9 (j := 7) (i := 3) (by kernel_rfl) hd
      have I := J.1 h7
      obtain ⟨k0, k1, k2, k3⟩ := ((unhide HC2).below I.bw).cells
      cases ho
      unfold Oper.wp
      go_simp
      exact hK _ _ _ _ _ _ _ _ (NwJ.of h7 (by decide) (I.s3 hd rfl))
    · have h7 := not_yet hc 9 (j := 7) (i := 4) (by kernel_rfl) hd
      have I := J.1 h7
      cases ho
      refine oper_make wz _ _ 29 rfl wz.heap.size 84 j0 _ 3 Tryz.underlying29 hj hy0 hy1 .i64 .i64 4 4 4 rfl rfl rfl rfl (by rw [hy2]; omega) (by unfold maxLen; omega) (Nat.le_refl _) ?_
      intro w5 hown hgrow
      have hb : Below wz.heap.size wz w5 := (Below.refl _ _).grown hgrow (Nat.le_refl _) (fun _ h => by cases h)
      exact hK _ _ _ _ _ _ _ _ (NwJ.of h7 (by decide) ((I.grow hb).s4 hd ⟨_, rfl, OwnR.base (OwnR.of (by rw [← madeHs]; exact hown) (fun e => by cases e)) I.bw.size⟩))
    · have h7 := not_yet hc 9 (j := 7) (i := 5) (by kernel_rfl) hd
      have I := J.1 h7
      obtain ⟨k0, k1⟩ := ((unhide HN2).v.below I.bw).cells
      cases ho
      unfold Oper.wp
      go_simp
      exact hK _ _ _ _ _ _ _ _ (NwJ.of h7 (by decide) (I.s5 hd rfl))
    · have h7 := not_yet hc 9 (j := 7) (i := 6) (by kernel_rfl) hd
      have I := J.1 h7
      cases ho
      obtain ⟨po, pa, qo, qa, e2, ho2⟩ := I.p2 (hp ⟨2, .data⟩ (by simp) rfl)
      have e3 := I.f3 (hp ⟨3, .data⟩ (by simp) rfl)
      obtain ⟨q, e4, ho4⟩ := I.p4 (hp ⟨4, .data⟩ (by simp) rfl)
      have e5 := I.f5 (hp ⟨5, .data⟩ (by simp) rfl)
      subst e2 e3 e4 e5
      unfold Oper.wp
      go_simp
      refine hK _ _ _ _ _ _ _ _ (NwJ.of h7 (by decide) (I.s6 hd ⟨⟨po, pa, qo, qa, some ⟨q, 0, none⟩, 4, g2⟩, ?_, ?_⟩))
      · rw [unhide HM1]; rfl
      · rw [unhide HM1]
        exact ⟨ho2.base (show w.heap.size + 2 ≤ _ from unhide HLW), OwnR.base ho4 (show w.heap.size + 2 ≤ _ from unhide HLW), ((unhide HN2).o.below I.bw).base (unhide HL1)⟩
    · have I := J.1 hd
      cases ho
      obtain ⟨a6, e6, ho6⟩ := I.p6 (hp ⟨6, .data⟩ (by simp) rfl)
      subst e6
      have hv := (unhide HV2).below I.bw
      refine oper_storeW (b := a6) (n := M) rfl rfl hv (by go_simp) (by go_simp) ?_
      exact hK _ _ _ _ _ _ _ _ ⟨fun h => (by rw [show updD D 7 7 = true by simp [updD]] at h; cases h), fun _ => ⟨wz, a6, rfl, I.bw, hv, ho6⟩⟩
  case he =>
    intro D w7 r12 r13 r14 r15 r16 r17 r18 J hall
    obtain ⟨W5, a5, rfl, hb5, hv5, ho5⟩ := J.2 (hall 7 (by decide))
    have HP := hide (hv5.put a5 M)
    have HQ := hide (below_put (fr (unhide HB2) hb5) (show w.heap.size ≤ w.heap.size + 1 by omega) a5 M)
    have HO := hide ((ho5.put (show w.heap.size + 1 < w.heap.size + 2 by omega) a5 M).base (show w.heap.size ≤ w.heap.size + 2 by omega))
    clear J hb5 hv5 ho5 hall
    revert HP HQ HO
    generalize put15 W5 (w.heap.size + 1) a5 M = W7
    intro HP HQ HO
    go_wp2
    exact bodyPost_ret (res_w1 Tryz.results15 rfl (unhide HP)) rfl ⟨a5, ts2, rfl, unhide HO, unhide HQ⟩

end Go.Proofs.YtjjkppknojecjaaGreat

namespace Go.Proofs.YtjjkppknojecjaaGreat
open Go.RowKit
set_option linter.unusedVariables false
set_option maxRecDepth 100000

theorem nw_right {n : Nat} (hn : n ≤ 12) : diskB (foS noSs [] 0 n) (foX noSs [] 0 n) = true := by
  obtain ⟨h1, h2, h3⟩ := nw_hyp hn
  rw [← h2, ← h3]
  exact diskB_put h1 (fun x hx => of_mem hx) (fun x hx => drop_mem hx) (drop_le 0 _)
theorem nwA_ok (f d l r n : Int) : WlBd (nwA f d l r n).1 ∧ WlZ (nwA f d l r n).1 := by
  have h0 : WlBd wl0 ∧ WlZ wl0 := ⟨⟨by simp [wl0], by simp [wl0], by simp [wl0], GsBd.zero, by decide⟩, ⟨fun s hs => by simp [wl0] at hs, fun x hx => by simp [wl0] at hx, fun s hs => by simp [wl0, gs0] at hs⟩⟩
  unfold nwA
  split
  · split
    · rename_i hn
      obtain ⟨l0, l1⟩ := betw_iff.1 hn
      obtain ⟨q, rfl⟩ := Int.eq_ofNat_of_zero_le l0
      have hd := nw_right (n := q) (by omega)
      have hl := diskB_len hd
      have hz := right_sz2 hd
      have hg := ngA_bd (q : Int)
      exact ⟨⟨by show (foS noSs [] 0 q).length ≤ _; omega, by show (foX noSs [] 0 q).length ≤ _; omega, by show (List.replicate 4 hst0).length ≤ _; simp, hg, by show noB.size ≤ _; decide⟩, ⟨hz.1, hz.2, hg.zs⟩⟩
    · exact h0
  · exact h0
def pwW : Wld := nwW 10 60 2 10 6
theorem pw_eq : nwA 10 60 2 10 6 = (pwW, 0) := by
  rw [nwA, if_pos (by decide), if_pos (by decide)]; rfl

set_option maxHeartbeats 12800000 in
theorem plainWorld_impl (w : World) : Calls Tryz.prog 12 #[] w fun e w' => ∃ a ts, e = .returned (wlV a pwW) ∧ OwnWl w' w.heap.size a pwW ts ∧ Below w.heap.size w w' := by
  have HB0 : Hid (Below w.heap.size w (w.alloc (.cells #[.slice none 0 0, .slice none 0 0, .int .i64 0, .int .i64 0, .int .i64 0, .int .i64 0, .slice none 0 0, .int .i64 0, .slice none 0 0, .slice none 0 0, .int .i64 0, .int .i64 0, .int .i64 0, .string ⟨#[]⟩, .bool false] 37))) := hide (Joins.below_alloc1 w _)
  have HV0 : Hid (VarW (w.alloc (.cells #[.slice none 0 0, .slice none 0 0, .int .i64 0, .int .i64 0, .int .i64 0, .int .i64 0, .slice none 0 0, .int .i64 0, .slice none 0 0, .slice none 0 0, .int .i64 0, .int .i64 0, .int .i64 0, .string ⟨#[]⟩, .bool false] 37)) w.heap.size 37 wa0 wl0) := hide (VarW.new w 37 wa0 wl0)
  obtain ⟨M, hM⟩ : ∃ M, M = pwW := ⟨_, rfl⟩
  have HNA : Hid (nwA 10 60 2 10 6 = (M, 0)) := hide (by rw [hM]; exact pw_eq)
  rw [← hM]
  clear hM
  go_enter Tryz.func12, Tryz.ntmps12
  go_upto_region 1 with fail
  revert HB0 HV0
  generalize (w.alloc _) = W0
  intro HB0 HV0
  have HNW := hide (newWorld_impl 10 60 2 10 6 W0)
  rw [unhide HNA] at HNW
  clear HNA
  go_wp2_with fail
  refine (unhide HNW).mono ?_
  rintro e w1 ⟨a1, ts1, rfl, ho1, hb⟩
  simp only at ho1 ⊢
  have HBa := hide (Joins.below_alloc1 w1 (.cells (wlC a1 M) 37))
  have HN2 := hide (LwW.new w1 a1 M ho1 hb.size)
  have HB2 := hide (fr (fr (unhide HB0) hb) (unhide HBa))
  have HV2 := hide (((unhide HV0).below hb).below (unhide HBa))
  have HL := hide (unhide HV0).lt
  clear hb ho1 HB0 HV0 HBa HNW
  go_upto_region 2 with fail
  revert HN2 HB2 HV2
  generalize (w1.alloc _) = W2
  generalize w1.heap.size = p1
  intro HN2 HB2 HV2
  obtain ⟨c0, c1, c2, c3, c4, c5, c6, c7, c8, c9, c10, c11, c12, c13, c14⟩ := (unhide HN2).v.cells
  obtain ⟨d0, d1, d2, d3, d4, d5, d6, d7, d8, d9, d10, d11, d12, d13, d14⟩ := (unhide HV2).cells
  have f0 := (unhide HV2).free 0
  have f1 := (unhide HV2).free 1
  have f2 := (unhide HV2).free 2
  have f3 := (unhide HV2).free 3
  have f4 := (unhide HV2).free 4
  have f5 := (unhide HV2).free 5
  have f6 := (unhide HV2).free 6
  have f7 := (unhide HV2).free 7
  have f8 := (unhide HV2).free 8
  have f9 := (unhide HV2).free 9
  have f10 := (unhide HV2).free 10
  have f11 := (unhide HV2).free 11
  have f12 := (unhide HV2).free 12
  have f13 := (unhide HV2).free 13
  have f14 := (unhide HV2).free 14
  have HP := hide ((unhide HV2).put a1 M)
  have HQ := hide (below_put (unhide HB2) (Nat.le_refl w.heap.size) a1 M)
  have HO := hide (((unhide HN2).o.put (unhide HL) a1 M).base (Nat.le_of_lt (unhide HL)))
  go_wp2
  exact bodyPost_ret (res_w1 (a := a1) (m := M) Tryz.results12 rfl (unhide HP)) rfl ⟨a1, ts1, rfl, unhide HO, unhide HQ⟩

set_option maxHeartbeats 12800000 in
theorem plainWorld_spec (w : World) : Calls Tryz.prog 11 #[] w fun e w' => ∃ a ts, e = .returned (wlV a pwW) ∧ OwnWl w' w.heap.size a pwW ts ∧ Below w.heap.size w w' := by
  have HB0 : Hid (Below w.heap.size w (w.alloc (.cells #[.slice none 0 0, .slice none 0 0, .int .i64 0, .int .i64 0, .int .i64 0, .int .i64 0, .slice none 0 0, .int .i64 0, .slice none 0 0, .slice none 0 0, .int .i64 0, .int .i64 0, .int .i64 0, .string ⟨#[]⟩, .bool false] 37))) := hide (Joins.below_alloc1 w _)
  have HV0 : Hid (VarW (w.alloc (.cells #[.slice none 0 0, .slice none 0 0, .int .i64 0, .int .i64 0, .int .i64 0, .int .i64 0, .slice none 0 0, .int .i64 0, .slice none 0 0, .slice none 0 0, .int .i64 0, .int .i64 0, .int .i64 0, .string ⟨#[]⟩, .bool false] 37)) w.heap.size 37 wa0 wl0) := hide (VarW.new w 37 wa0 wl0)
  obtain ⟨M, hM⟩ : ∃ M, M = pwW := ⟨_, rfl⟩
  have HM := hide hM
  rw [← hM]
  clear hM
  go_enter Tryz.func11, Tryz.ntmps11
  go_upto_region 1 with fail
  revert HB0 HV0
  generalize (w.alloc _) = W0
  intro HB0 HV0
  have HNW : Hid (Calls Tryz.prog 15 #[cfgV 10 60 2 10, .int .i64 6] W0 fun e w' => ∃ a ts, e = .returned (wlV a M) ∧ OwnWl w' W0.heap.size a M ts ∧ Below W0.heap.size W0 w') := hide (by rw [unhide HM]; exact l15New_any 10 60 2 10 6 W0 (by omega))
  clear HM
  go_wp2_with fail
  refine (unhide HNW).mono ?_
  rintro e w1 ⟨a1, ts1, rfl, ho1, hb⟩
  have HO1 := hide ho1
  have HB2 := hide (fr (unhide HB0) hb)
  have HV2 := hide ((unhide HV0).below hb)
  have HL := hide (unhide HV0).lt
  clear hb ho1 HB0 HV0 HNW
  obtain ⟨d0, d1, d2, d3, d4, d5, d6, d7, d8, d9, d10, d11, d12, d13, d14⟩ := (unhide HV2).cells
  have f0 := (unhide HV2).free 0
  have f1 := (unhide HV2).free 1
  have f2 := (unhide HV2).free 2
  have f3 := (unhide HV2).free 3
  have f4 := (unhide HV2).free 4
  have f5 := (unhide HV2).free 5
  have f6 := (unhide HV2).free 6
  have f7 := (unhide HV2).free 7
  have f8 := (unhide HV2).free 8
  have f9 := (unhide HV2).free 9
  have f10 := (unhide HV2).free 10
  have f11 := (unhide HV2).free 11
  have f12 := (unhide HV2).free 12
  have f13 := (unhide HV2).free 13
  have f14 := (unhide HV2).free 14
  have HP := hide ((unhide HV2).put a1 M)
  have HQ := hide (below_put (unhide HB2) (Nat.le_refl w.heap.size) a1 M)
  have HO := hide (((unhide HO1).put (unhide HL) a1 M).base (Nat.le_of_lt (unhide HL)))
  go_wp2
  exact bodyPost_ret (res_w1 (a := a1) (m := M) Tryz.results11 rfl (unhide HP)) rfl ⟨a1, ts1, rfl, unhide HO, unhide HQ⟩

end Go.Proofs.YtjjkppknojecjaaGreat
