import Derived.Test.YtefnapcegeojoaaDoorLReplayPart1
import Derived.Test.YtefnapcegeojoaaDoorLReplayPart3
import Derived.Test.YtefnapcegeojoaaDoorLReplayPart2
import Derived.WalkKit
import Derived.Test.YtefnapcegeojoaaDoorRows
import Derived.WalkSpells
import Derived.Deep.RegionLawGrows
import Derived.Deep.RegionLaw
import Derived.Deep.AppendLies
import Derived.Deep.RegionWith
import Derived.BigQuiet
import Derived.Deep.QuietTactic
import Derived.Laws.StructEq
import Derived.KernelRfl
import Derived.Lib.SmallJoins
import Derived.Deep.RegionHeld3
import Derived.LoopN
import Derived.Deep.CutRange

namespace Go.Proofs.YtefnapcegeojoaaDoor
open Go.RowKit
set_option linter.unusedVariables false

def e64 : List ByteArray := List.replicate 64 ⟨#[]⟩
theorem e64_length : e64.length = 64 := by simp [e64]
theorem e64_get (a : Nat) : e64.getD a ⟨#[]⟩ = ⟨#[]⟩ := by
  simp only [e64, List.getD_eq_getElem?_getD, List.getElem?_replicate]
  split <;> rfl
theorem put_app (ss : List ByteArray) (a b : List Wr) : putW ss (a ++ b) = putW (putW ss a) b := by simp [putW]
theorem put_cons (ss : List ByteArray) (x : Wr) (fs : List Wr) : putW ss (x :: fs) = putW (ss.set x.at_.toNat x.data) fs := rfl
def reH (h : Int) (m : Wr) : Wr := ⟨h, m.at_, m.data⟩
theorem put_host (h : Int) : ∀ (fs : List Wr) (ss : List ByteArray), putW ss (fs.map (reH h)) = putW ss fs
  | [], ss => rfl
  | x :: fs, ss => by rw [List.map_cons, put_cons, put_cons]; exact put_host h fs _
theorem put_miss {a : Nat} : ∀ (fs : List Wr) (ss : List ByteArray), (∀ x ∈ fs, x.at_.toNat ≠ a) → (putW ss fs).getD a ⟨#[]⟩ = ss.getD a ⟨#[]⟩
  | [], ss, _ => rfl
  | x :: fs, ss, h => by
    rw [put_cons, put_miss fs _ (fun y hy => h y (List.mem_cons_of_mem _ hy))]
    have := h x List.mem_cons_self
    simp [List.getD_eq_getElem?_getD, List.getElem?_set_ne this]
theorem put_alike {a : Nat} : ∀ (fs : List Wr) (S S' : List ByteArray), S.length = S'.length → (S.getD a ⟨#[]⟩ = S'.getD a ⟨#[]⟩ ∨ ∃ x ∈ fs, x.at_.toNat = a) → (putW S fs).getD a ⟨#[]⟩ = (putW S' fs).getD a ⟨#[]⟩
  | [], S, S', _, h => by
    rcases h with h | ⟨x, hx, _⟩
    · exact h
    · cases hx
  | x :: fs, S, S', hl, h => by
    rw [put_cons, put_cons]
    refine put_alike fs _ _ (by simp [hl]) ?_
    by_cases hx : x.at_.toNat = a
    · left
      simp [List.getD_eq_getElem?_getD, List.getElem?_set, hl, hx]
    · rcases h with h | ⟨y, hy, hya⟩
      · left
        simp only [List.getD_eq_getElem?_getD, List.getElem?_set_ne hx] at h ⊢
        exact h
      · rcases List.mem_cons.1 hy with rfl | hy'
        · exact absurd hya hx
        · exact .inr ⟨y, hy', hya⟩
theorem put_last (ss : List ByteArray) (fs : List Wr) (x : Wr) (h : x.at_.toNat < ss.length) : (putW ss (fs ++ [x])).getD x.at_.toNat ⟨#[]⟩ = x.data := by
  rw [put_snoc]
  simp [List.getD_eq_getElem?_getD, put_len, h]
def wrs (ms : List Wr) : List Wr := ms.filter fun m => !decide (m.host = 2)
theorem wrs_app (a b : List Wr) : wrs (a ++ b) = wrs a ++ wrs b := by simp [wrs]
theorem wrs_hit {m : Wr} (ms : List Wr) (h : m.host ≠ 2) : wrs (m :: ms) = m :: wrs ms := by simp [wrs, h]
theorem wrs_miss {m : Wr} (ms : List Wr) (h : m.host = 2) : wrs (m :: ms) = wrs ms := by simp [wrs, h]
theorem wrs_all {ms : List Wr} (h : ∀ x ∈ ms, x.host = 1) : wrs ms = ms := List.filter_eq_self.2 (fun x hx => by simp [h x hx])
theorem wrs_take (ms : List Wr) (k : Nat) : ∃ j, wrs (ms.take k) = (wrs ms).take j :=
  ⟨_, List.prefix_iff_eq_take.1 ((List.take_prefix k ms).filter _)⟩
theorem of_re (h : Int) (Y : List Wr) : ofH h (Y.map (reH h)) = Y.map (reH h) := List.filter_eq_self.2 (fun x hx => by
  obtain ⟨y, _, rfl⟩ := List.mem_map.1 hx
  simp [reH])
theorem drop_re (h : Int) (Y : List Wr) : dropF h (Y.map (reH h)) = [] := by
  have h1 := drop_len h (Y.map (reH h))
  rw [of_re] at h1
  exact List.length_eq_zero_iff.1 (by omega)
theorem dm_cut (h : Int) : ∀ (ms : List Wr) (S : List ByteArray) (Y : List Wr), ∃ c, dmL h S (Y.map (reH h)) ms = (putW S ((Y ++ wrs ms).take c), ((Y ++ wrs ms).drop c).map (reH h))
  | [], S, Y => ⟨0, by simp [dmL, wrs, putW]⟩
  | m :: ms, S, Y => by
    by_cases hm : m.host = 2
    · obtain ⟨c, e⟩ := dm_cut h ms (putW S Y) []
      refine ⟨Y.length + c, ?_⟩
      show dmL h (dm1 h (S, Y.map (reH h)) m).1 (dm1 h (S, Y.map (reH h)) m).2 ms = _
      rw [dm1_flush hm, of_re, drop_re, put_host]
      show dmL h (putW S Y) [] ms = _
      rw [wrs_miss ms hm, List.take_length_add_append, List.drop_length_add_append, put_app]
      exact e
    · obtain ⟨c, e⟩ := dm_cut h ms S (Y ++ [m])
      refine ⟨c, ?_⟩
      show dmL h (dm1 h (S, Y.map (reH h)) m).1 (dm1 h (S, Y.map (reH h)) m).2 ms = _
      rw [dm1_write hm, wrs_hit ms hm]
      rw [List.map_append, List.append_assoc] at e
      exact e
theorem dm_full (h : Int) (ms : List Wr) (S : List ByteArray) : dmL h S [] (ms ++ [mvF]) = (putW S (wrs (ms ++ [mvF])), []) := by
  obtain ⟨c, e⟩ := dm_cut h ms S []
  have e' : dmL h S [] ms = _ := e
  have : dmL h S [] (ms ++ [mvF]) = dm1 h (dmL h S [] ms) mvF := by simp [dmL]
  rw [this, e', dm1_flush rfl, of_re, drop_re, put_host, ← put_app, List.nil_append, List.take_append_drop, wrs_app]
  rw [wrs_miss (m := mvF) [] rfl]
  simp [wrs]
theorem dm_crash (h : Int) (ms : List Wr) (S : List ByteArray) (k n : Nat) : ∃ j, putW (dmL h S [] (ms.take k)).1 ((ofH h (dmL h S [] (ms.take k)).2).take n) = putW S ((wrs ms).take j) ∧ dropF h (dmL h S [] (ms.take k)).2 = [] := by
  obtain ⟨c, e⟩ := dm_cut h (ms.take k) S []
  obtain ⟨d, ed⟩ := wrs_take ms k
  have e' : dmL h S [] (ms.take k) = _ := e
  rw [e', List.nil_append, ed]
  refine ⟨min (c + n) d, ?_, drop_re h _⟩
  simp only [of_re]
  rw [← List.map_take, put_host, ← put_app, ← List.take_add, List.take_take]
def apW (slot seq : Int) (us : List Up) : List Wr := chL us ++ [mvH slot 0 seq]
def bgW (slot seq : Int) (us : List Up) : List Wr := txL slot us ++ [mvH slot us.length seq]
theorem ch_one (us : List Up) : ∀ x ∈ chL us, x.host = 1 := fun x hx => by
  simp only [chL, List.mem_map] at hx
  obtain ⟨u, _, rfl⟩ := hx; rfl
theorem tx_one (slot : Int) (us : List Up) : ∀ x ∈ txL slot us, x.host = 1 := fun x hx => by
  obtain ⟨i, hi, rfl⟩ := List.mem_iff_getElem.1 hx
  simp [txL, mvT]
theorem wrs_F : wrs [mvF] = [] := by simp [wrs, mvF]
theorem wrs_H (slot n seq : Int) : wrs [mvH slot n seq] = [mvH slot n seq] := by simp [wrs, mvH]
theorem wrs_ap (slot seq : Int) (us : List Up) : wrs (apL slot seq us) = apW slot seq us := by
  simp only [apL, wrs_app, wrs_F, wrs_H, wrs_all (ch_one us), apW, List.append_nil]
theorem wrs_bg (slot seq : Int) (us : List Up) : wrs (bgL slot seq us) = bgW slot seq us := by
  simp only [bgL, wrs_app, wrs_F, wrs_H, wrs_all (tx_one slot us), bgW, List.append_nil]
theorem wrs_pl {slot seq : Int} {us : List Up} (h : us.length ≠ 0) : wrs (plL slot seq us) = bgW slot seq us ++ apW slot seq us := by
  rw [plL, if_neg h, wrs_app, wrs_bg, wrs_ap]
theorem ap_do (o slot seq : Int) (us : List Up) (S : List ByteArray) : dmL o S [] (apL slot seq us) = (putW S (apW slot seq us), []) := by
  have := dm_full o (chL us ++ [mvF] ++ [mvH slot 0 seq]) S
  rw [← wrs_ap]
  exact this
theorem ch_place {us : List Up} (h : upsB us = true) : ∀ x ∈ chL us, 9 ≤ x.at_.toNat ∧ x.at_.toNat ≤ 38 := fun x hx => by
  simp only [chL, List.mem_map] at hx
  obtain ⟨u, hu, rfl⟩ := hx
  have := (upB_iff.1 (List.all_eq_true.1 h u hu)).1
  show 9 ≤ u.at_.toNat ∧ u.at_.toNat ≤ 38
  omega
theorem tx_place {slot : Int} (us : List Up) (hs : 39 ≤ slot) : ∀ x ∈ txL slot us, slot.toNat < x.at_.toNat := fun x hx => by
  obtain ⟨i, hi, rfl⟩ := List.mem_iff_getElem.1 hx
  simp only [txL, List.getElem_mapIdx, mvT]
  omega
theorem tx_read {slot : Int} {us : List Up} (hs : 39 ≤ slot ∧ slot ≤ 57) (h5 : us.length ≤ 5) {S : List ByteArray} (hS : S.length = 64) : ∀ k, k ≤ us.length → ∀ i (hi : i < us.length), i < k → (putW S ((txL slot us).take k)).getD (slot + 1 + i).toNat ⟨#[]⟩ = encU us[i] := by
  intro k
  induction k with
  | zero => intro _ i hi h; exact absurd h (Nat.not_lt_zero _)
  | succ k ih =>
    intro hk i hi hik
    have hk' : k < us.length := by omega
    rw [txL_take hk']
    by_cases e : i = k
    · subst e
      exact put_last S _ (mvT slot i us[i]) (by rw [hS]; simp only [mvT]; omega)
    · rw [put_snoc]
      have hne : (mvT slot k us[k]).at_.toNat ≠ (slot + 1 + i).toNat := by simp only [mvT]; omega
      rw [List.getD_eq_getElem?_getD, List.getElem?_set_ne hne, ← List.getD_eq_getElem?_getD]
      exact ih (by omega) i hi (by omega)
structure Jf (S : List ByteArray) (slot seq : Int) (us : List Up) : Prop where
  hd : S.getD slot.toNat ⟨#[]⟩ = hdT us.length seq
  tx : ∀ i (hi : i < us.length), S.getD (slot + 1 + i).toNat ⟨#[]⟩ = encU us[i]
def Je (S : List ByteArray) (slot : Int) : Prop := S.getD slot.toNat ⟨#[]⟩ = ⟨#[]⟩ ∨ ∃ seq, numB seq = true ∧ S.getD slot.toNat ⟨#[]⟩ = hdT 0 seq
def due (us : List Up) : List ByteArray := putW e64 (chL us)
theorem bg_jf {slot seq : Int} {us : List Up} (hs : 39 ≤ slot ∧ slot ≤ 57) (h5 : us.length ≤ 5) : Jf (putW e64 (bgW slot seq us)) slot seq us := by
  constructor
  · exact put_last e64 _ (mvH slot us.length seq) (by rw [e64_length]; simp only [mvH]; omega)
  · intro i hi
    rw [bgW, put_snoc]
    have hne : (mvH slot us.length seq).at_.toNat ≠ (slot + 1 + i).toNat := by simp only [mvH]; omega
    rw [List.getD_eq_getElem?_getD, List.getElem?_set_ne hne, ← List.getD_eq_getElem?_getD]
    have := tx_read hs h5 (us := us) e64_length us.length (Nat.le_refl _) i hi hi
    rwa [txL_done (Nat.le_refl _)] at this
theorem jf_ch {S : List ByteArray} {slot seq : Int} {us : List Up} (h : Jf S slot seq us) (hs : 39 ≤ slot) (fs : List Wr) (hf : ∀ x ∈ fs, x.at_.toNat ≤ 38) : Jf (putW S fs) slot seq us := by
  constructor
  · rw [put_miss fs S (fun x hx => by have := hf x hx; omega)]; exact h.hd
  · intro i hi
    rw [put_miss fs S (fun x hx => by have := hf x hx; omega)]; exact h.tx i hi
theorem ap_je {S : List ByteArray} {slot seq : Int} {us : List Up} (hs : 39 ≤ slot ∧ slot ≤ 57) (hq : numB seq = true) (hS : S.length = 64) : Je (putW S (apW slot seq us)) slot :=
  .inr ⟨seq, hq, put_last S _ (mvH slot 0 seq) (by rw [hS]; simp only [mvH]; omega)⟩
theorem ap_due {S : List ByteArray} {slot seq : Int} {us : List Up} (hs : 39 ≤ slot) (hS : S.length = 64) (h : ∀ a, 9 ≤ a → a < 39 → S.getD a ⟨#[]⟩ = ⟨#[]⟩ ∨ ∃ x ∈ chL us, x.at_.toNat = a) : ∀ a, 9 ≤ a → a < 39 → (putW S (apW slot seq us)).getD a ⟨#[]⟩ = (due us).getD a ⟨#[]⟩ := by
  intro a a0 a1
  rw [apW, put_app, put_miss [mvH slot 0 seq] _ (fun x hx => by simp at hx; subst hx; simp only [mvH]; omega)]
  refine put_alike _ _ _ (by rw [hS, e64_length]) ?_
  rw [e64_get]
  exact h a a0 a1
theorem bg_none {slot seq : Int} {us : List Up} (hs : 39 ≤ slot) : ∀ a, a < 39 → (putW e64 (bgW slot seq us)).getD a ⟨#[]⟩ = ⟨#[]⟩ := by
  intro a ha
  rw [put_miss _ _ (fun x hx => ?_), e64_get]
  rcases List.mem_append.1 hx with h | h
  · have := tx_place us hs x h; omega
  · simp at h; subst h; simp only [mvH]; omega
theorem jr_crash {slot seq : Int} {us : List Up} (hs : 39 ≤ slot ∧ slot ≤ 57) (hq : numB seq = true) (hu : upsB us = true) (h5 : us.length ≤ 5) (j : Nat) :
    let S := putW e64 ((wrs (plL slot seq us)).take j)
    (Je S slot ∧ ∀ a, 9 ≤ a → a < 39 → S.getD a ⟨#[]⟩ = ⟨#[]⟩) ∨ (Jf S slot seq us ∧ us.length ≠ 0 ∧ ∀ a, 9 ≤ a → a < 39 → S.getD a ⟨#[]⟩ = ⟨#[]⟩ ∨ ∃ x ∈ chL us, x.at_.toNat = a) ∨ (Je S slot ∧ ∀ a, 9 ≤ a → a < 39 → S.getD a ⟨#[]⟩ = (due us).getD a ⟨#[]⟩) := by
  intro S
  by_cases h0 : us.length = 0
  · have : S = e64 := by show putW e64 ((wrs (plL slot seq us)).take j) = e64; rw [plL, if_pos h0]; simp [wrs, putW]
    rw [this]
    exact .inl ⟨.inl (e64_get _), fun a _ _ => e64_get a⟩
  have hS : S = putW e64 ((bgW slot seq us ++ apW slot seq us).take j) := by rw [← wrs_pl h0]
  have hbl : (bgW slot seq us).length = us.length + 1 := by simp [bgW, txL_length]
  by_cases h1 : j ≤ us.length
  · have e : (bgW slot seq us ++ apW slot seq us).take j = (txL slot us).take j := by
      rw [List.take_append_of_le_length (by omega), bgW, List.take_append_of_le_length (by rw [txL_length]; exact h1)]
    rw [hS, e]
    have hm : ∀ a, a ≤ slot.toNat → (putW e64 ((txL slot us).take j)).getD a ⟨#[]⟩ = ⟨#[]⟩ := fun a ha => by
      rw [put_miss _ _ (fun x hx => by have := tx_place us hs.1 x (List.mem_of_mem_take hx); omega), e64_get]
    exact .inl ⟨.inl (hm _ (Nat.le_refl _)), fun a _ h => hm a (by omega)⟩
  obtain ⟨m, rfl⟩ : ∃ m, j = (us.length + 1) + m := ⟨j - (us.length + 1), by omega⟩
  have e : (bgW slot seq us ++ apW slot seq us).take ((us.length + 1) + m) = bgW slot seq us ++ (apW slot seq us).take m := by
    rw [← hbl, List.take_length_add_append]
  rw [hS, e]
  by_cases h2 : m ≤ us.length
  · have e2 : (apW slot seq us).take m = (chL us).take m := by rw [apW, List.take_append_of_le_length (by rw [chL_length]; exact h2)]
    rw [e2, put_app]
    refine .inr (.inl ⟨jf_ch (bg_jf hs h5) hs.1 _ (fun x hx => (ch_place hu x (List.mem_of_mem_take hx)).2), h0, fun a a0 a1 => ?_⟩)
    by_cases hx : ∃ x ∈ chL us, x.at_.toNat = a
    · exact .inr hx
    · left
      rw [put_miss _ _ (fun x hx' e => hx ⟨x, List.mem_of_mem_take hx', e⟩)]
      exact bg_none hs.1 a a1
  · have e2 : (apW slot seq us).take m = apW slot seq us := List.take_of_length_le (by simp [apW, chL_length]; omega)
    rw [e2, put_app]
    exact .inr (.inr ⟨ap_je hs hq (by rw [put_len, e64_length]), ap_due hs.1 (by rw [put_len, e64_length]) (fun a _ a1 => .inl (bg_none hs.1 a a1))⟩)
theorem hd_sd {n seq : Int} (h : 0 ≤ n ∧ n ≤ 5) (hq : numB seq = true) : sdB (hdT n seq) = true ∧ sdN (hdT n seq) = n.toNat ∧ sdS (hdT n seq) = seq := by
  have h2 : 0 ≤ seq ∧ seq ≤ 2147483647 := by simpa [numB, inB] using hq
  have hall : allB [n, seq] = true := by simp [allB, numB, inB]; omega
  have h0 : (hdT n seq).size ≠ 0 := by rw [hdT_size]; omega
  have ho : openB (hdT n seq) 7 = true := openB_yes (rec_seal (by decide) hall (by simp)) (seal_kind (by decide) (by simp))
  have hL : sdL (hdT n seq) = [n, seq] := by
    show openL (hdT n seq) 7 = _
    rw [openL_yes ho, hdT, body_seal, un_pack hall]
  obtain ⟨r1, r2, _, r4, _⟩ := sd_yes h0 ho hL h.2
  exact ⟨r1, by omega, r4⟩
theorem read_free (S : List ByteArray) (o a : Int) : readV S [] o a = S.getD a.toNat ⟨#[]⟩ := rfl
theorem je_read {S : List ByteArray} {o h : Int} (hd : diskB S [] = true) (ho : 0 ≤ o ∧ o ≤ 3) (hh : 0 ≤ h ∧ h ≤ 3) (he : Je S (slN h)) : joC S [] o h = 0 ∧ joL S [] o h = [] ∧ joM S [] o h = [] := by
  have hz : sdB (joH S [] o h) = true ∧ sdN (joH S [] o h) = 0 := by
    rw [joH, read_free]
    rcases he with e | ⟨q, hq, e⟩
    · rw [e]; exact ⟨(sd_empty rfl).1, (sd_empty rfl).2.1⟩
    · rw [e]; exact ⟨(hd_sd (by omega) hq).1, (hd_sd (n := 0) (by omega) hq).2.1⟩
  have hf : fuB (joF S [] o h) (sdN (joH S [] o h)) = true := by rw [hz.2]; rfl
  obtain ⟨k1, k2, _⟩ := jk_yes hz.1 hf
  have hc : joC S [] o h = 0 := joC_ok (hostC_ok hd (by simp [inB]; omega)) (by simp [inB]; omega) k1
  have hl : joL S [] o h = [] := by rw [(jo_yes hc).1, k2, hz.2]; rfl
  exact ⟨hc, hl, by rw [joM, hl]; rfl⟩
theorem jf_read {S : List ByteArray} {o h seq : Int} {us : List Up} (hd : diskB S [] = true) (ho : 0 ≤ o ∧ o ≤ 3) (hh : 0 ≤ h ∧ h ≤ 3) (hq : numB seq = true) (hu : upsB us = true) (h5 : us.length ≤ 5) (h0 : us.length ≠ 0) (he : Jf S (slN h) seq us) : joC S [] o h = 0 ∧ joL S [] o h = us ∧ joM S [] o h = apL (slN h) seq us := by
  obtain ⟨z1, z2, z3⟩ := hd_sd (n := us.length) (by omega) hq
  have hH : joH S [] o h = hdT us.length seq := by rw [joH, read_free]; exact he.hd
  have hN : sdN (joH S [] o h) = us.length := by rw [hH, z2]; simp
  have hF : ∀ i (hi : i < us.length), joF S [] o h i = encU us[i] := fun i hi => by rw [joF, read_free]; exact he.tx i hi
  have hf : fuB (joF S [] o h) (sdN (joH S [] o h)) = true := by
    rw [hN]
    exact fuB_yes (fun i hi => by rw [hF i hi]; exact (enc_dec (upsB_at hu hi)).1)
  obtain ⟨k1, k2, k3⟩ := jk_yes (T := joH S [] o h) (by rw [hH]; exact z1) hf
  have hc : joC S [] o h = 0 := joC_ok (hostC_ok hd (by simp [inB]; omega)) (by simp [inB]; omega) k1
  have hl : joL S [] o h = us := by
    rw [(jo_yes hc).1, k2, hN]
    refine List.ext_getElem (by rw [fuL_length]) (fun i h1 h2 => ?_)
    simp only [fuL, List.getElem_map, List.getElem_range]
    rw [hF i h2, (enc_dec (upsB_at hu h2)).2]
  have hsq : joS S [] o h = seq := by rw [(jo_yes hc).2, k3, hH, z3]
  exact ⟨hc, hl, by rw [joM, hl, hsq, rpL, if_neg h0]⟩
def mid (S : List ByteArray) : List ByteArray := (S.drop 9).take 30
theorem mid_eq {S T : List ByteArray} (hS : S.length = 64) (hT : T.length = 64) (h : ∀ a, 9 ≤ a → a < 39 → S.getD a ⟨#[]⟩ = T.getD a ⟨#[]⟩) : mid S = mid T := by
  refine List.ext_getElem (by simp [mid, hS, hT]) (fun i h1 h2 => ?_)
  simp only [mid, List.getElem_take, List.getElem_drop]
  have hi : i < 30 := by simp [mid, hS] at h1; omega
  have := h (9 + i) (by omega) (by omega)
  rw [List.getD_eq_getElem?_getD, List.getD_eq_getElem?_getD, List.getElem?_eq_getElem (by omega), List.getElem?_eq_getElem (by omega)] at this
  exact this
end Go.Proofs.YtefnapcegeojoaaDoor

namespace Go.Proofs.YtefnapcegeojoaaDoor
open Go.RowKit
set_option linter.unusedVariables false

theorem e64_disk : diskB e64 [] = true :=
  diskB_parts.2 ⟨⟨e64_length, fun s hs => by rw [List.eq_of_mem_replicate hs]; decide⟩, by simp, fun x hx => by cases hx⟩
theorem put_disk {S : List ByteArray} {fs : List Wr} (hd : diskB S [] = true) (hf : ∀ x ∈ fs, x.data.size ≤ 80) : diskB (putW S fs) [] = true := by
  obtain ⟨⟨h1, h2⟩, h3, h4⟩ := diskB_parts.1 hd
  exact diskB_parts.2 ⟨⟨by rw [put_len]; exact h1, put_mem (P := fun s => s.size ≤ 80) fs S h2 hf⟩, h3, h4⟩
theorem ms_app {a b : List Wr} (h : msB a = true) (k : msB b = true) : msB (a ++ b) = true := by simp only [msB, List.all_append, Bool.and_eq_true]; exact ⟨h, k⟩
theorem ms_take {a : List Wr} (h : msB a = true) (k : Nat) : msB (a.take k) = true := List.all_eq_true.2 (fun x hx => List.all_eq_true.1 h x (List.mem_of_mem_take hx))
theorem ms_F : msB [mvF] = true := by decide
theorem ms_H {slot : Int} (n seq : Int) (h : 0 ≤ slot ∧ slot ≤ 63) : msB [mvH slot n seq] = true := by
  simp [msB, mvB, mvH, inB, hdT_size]; omega
theorem ms_ch {us : List Up} (hu : upsB us = true) : msB (chL us) = true := List.all_eq_true.2 (fun x hx => by
  simp only [chL, List.mem_map] at hx
  obtain ⟨u, hu', rfl⟩ := hx
  have := upB_iff.1 (List.all_eq_true.1 hu u hu')
  have e : mvB (mvW u) = (inB u.at_ 0 63 && decide (u.data.size ≤ 80)) := if_pos rfl
  rw [e, show inB u.at_ 0 63 = true by simp [inB]; omega, show decide (u.data.size ≤ 80) = true by simp; omega]
  rfl)
theorem ms_tx {slot : Int} {us : List Up} (hs : 39 ≤ slot ∧ slot ≤ 57) (hu : upsB us = true) (h5 : us.length ≤ 5) : msB (txL slot us) = true := List.all_eq_true.2 (fun x hx => by
  obtain ⟨i, hi, rfl⟩ := List.mem_iff_getElem.1 hx
  have hi' : i < us.length := by rwa [txL_length] at hi
  have := (upB_iff.1 (upsB_at hu hi')).2
  simp [txL, mvT, mvB, inB, encU_size]; omega)
theorem ms_ap {slot : Int} (seq : Int) {us : List Up} (hs : 39 ≤ slot ∧ slot ≤ 57) (hu : upsB us = true) : msB (apL slot seq us) = true := ms_app (ms_app (ms_app (ms_ch hu) ms_F) (ms_H _ _ (by omega))) ms_F
theorem ms_bg {slot : Int} (seq : Int) {us : List Up} (hs : 39 ≤ slot ∧ slot ≤ 57) (hu : upsB us = true) (h5 : us.length ≤ 5) : msB (bgL slot seq us) = true := ms_app (ms_app (ms_app (ms_tx hs hu h5) ms_F) (ms_H _ _ (by omega))) ms_F
theorem ms_pl {slot : Int} (seq : Int) {us : List Up} (hs : 39 ≤ slot ∧ slot ≤ 57) (hu : upsB us = true) (h5 : us.length ≤ 5) : msB (plL slot seq us) = true := by
  unfold plL; split
  · rfl
  · exact ms_app (ms_bg seq hs hu h5) (ms_ap seq hs hu)
theorem pl_len (slot seq : Int) (us : List Up) (h5 : us.length ≤ 5) : (plL slot seq us).length ≤ 16 := by
  unfold plL; split
  · simp
  · rw [List.length_append, bgL_length, apL_length]; omega
theorem md_free {S : List ByteArray} {o : Int} {ms : List Wr} (hd : diskB S [] = true) (ho : 0 ≤ o ∧ o ≤ 3) (hm : msB ms = true) (hl : ms.length ≤ 200) : mdC S [] o ms = 0 ∧ mdS S [] o ms = (dmL o S [] ms).1 ∧ mdX S [] o ms = (dmL o S [] ms).2 :=
  md_ok (by omega) (hostC_ok hd (by simp [inB]; omega)) hm (by simp; omega)
theorem slN_lo {h : Int} (hh : 0 ≤ h ∧ h ≤ 3) : 39 ≤ slN h ∧ slN h ≤ 57 := by unfold slN; omega
theorem jp_yes {h q : Int} {us : List Up} (hh : 0 ≤ h ∧ h ≤ 3) (hq : numB q = true) (hu : upsB us = true) (h5 : us.length ≤ 5) : jpC h q us = 0 ∧ jpL h q us = plL (slN h) q us := by
  have e : jpC h q us = 0 := by rw [jpC_list (by omega) (by simp [inB]; omega) hq, fuC_ok (by omega) hu]
  exact ⟨e, jpL_yes e⟩
theorem short_of {ms : List Wr} (h : short ms) : ∀ x ∈ wrs ms, x.data.size ≤ 80 := fun x hx => h x (List.mem_filter.1 hx).1
theorem own_64 {w : World} {B n pa : Nat} {po : Option Addr} {ss : List ByteArray} (h : OwnR w B 9 1 (.slice po n pa) n (strV ss)) (hn : n = 64) : ∃ g, po = some ⟨g, 0, none⟩ ∧ 64 ≤ pa ∧ B ≤ g ∧ g < w.heap.size := by
  subst hn
  rcases h with ⟨h0, _⟩ | ⟨h0, h⟩
  · cases h0
  · rcases h.2 with ⟨e, h1⟩ | ⟨g, cap, cur, e, hB, hg, hc, _⟩
    · cases h1
    · simp only [Value.slice.injEq, true_and] at e
      obtain ⟨rfl, rfl⟩ := e
      exact ⟨g, rfl, hc, hB, (Array.getElem?_eq_some_iff.1 hg).1⟩
theorem ss_mid {w : World} {g : Nat} {S : List ByteArray} (h : Ss w (some ⟨g, 0, none⟩) S) (hS : S.length = 64) : Ss w (some ⟨g, 9, none⟩) (mid S) := fun i hi => by
  have hi' : i < 30 := by simp [mid, hS] at hi; omega
  obtain ⟨b, off, e, hc, hz⟩ := h (9 + i) (by omega)
  simp only [Option.some.injEq, Addr.mk.injEq, and_true] at e
  obtain ⟨rfl, rfl⟩ := e
  refine ⟨g, 9, rfl, ?_, ?_⟩
  · simp only [mid, List.getElem_take, List.getElem_drop]
    rw [Nat.zero_add] at hc; exact hc
  · simp only [mid, List.getElem_take, List.getElem_drop]; exact hz
theorem mid_len {S : List ByteArray} (hS : S.length = 64) : (mid S).length = 30 := by simp [mid, hS]
end Go.Proofs.YtefnapcegeojoaaDoor

namespace Go.Proofs.YtefnapcegeojoaaDoor
open Go.RowKit
set_option linter.unusedVariables false

structure Rpl (S : List ByteArray) (o h : Int) (R : List Wr) (Z : List ByteArray) : Prop where
  c : joC S [] o h = 0
  m : joM S [] o h = R
  l : R.length ≤ 8
  s : short R
  dc : mdC S [] o R = 0
  ds : mdS S [] o R = Z
  dx : mdX S [] o R = []
  d : diskB Z [] = true
  e : Je Z (slN h)
theorem rpl_none {S : List ByteArray} {o h : Int} (hd : diskB S [] = true) (ho : 0 ≤ o ∧ o ≤ 3) (hh : 0 ≤ h ∧ h ≤ 3) (he : Je S (slN h)) : Rpl S o h [] S := by
  obtain ⟨k1, _, k3⟩ := je_read hd ho hh he
  obtain ⟨m1, m2, m3⟩ := md_free (ms := []) hd ho rfl (by simp)
  exact ⟨k1, k3, by simp, short_nil, m1, m2, m3, hd, he⟩
theorem rpl_some {S : List ByteArray} {o h q : Int} {us : List Up} (hd : diskB S [] = true) (ho : 0 ≤ o ∧ o ≤ 3) (hh : 0 ≤ h ∧ h ≤ 3) (hq : numB q = true) (hu : upsB us = true) (h5 : us.length ≤ 5) (h0 : us.length ≠ 0) (he : Jf S (slN h) q us) :
    Rpl S o h (apL (slN h) q us) (putW S (apW (slN h) q us)) := by
  have hs := slN_lo hh
  obtain ⟨k1, _, k3⟩ := jf_read hd ho hh hq hu h5 h0 he
  have hl : (apL (slN h) q us).length ≤ 8 := by rw [apL_length]; omega
  obtain ⟨m1, m2, m3⟩ := md_free (o := o) (ms := apL (slN h) q us) hd ho (ms_ap q hs hu) (by omega)
  rw [ap_do] at m2 m3
  exact ⟨k1, k3, hl, short_ap hu, m1, m2, m3, put_disk hd (fun x hx => by rw [← wrs_ap] at hx; exact short_of (short_ap hu) x hx), ap_je hs hq (diskB_len hd).1⟩
structure Crs (S : List ByteArray) (h : Int) (ms : List Wr) (n : Nat) (X1 : List ByteArray) (X2 : List Wr) (T : List ByteArray) : Prop where
  dc : mdC S [] h ms = 0
  ds : mdS S [] h ms = X1
  dx : mdX S [] h ms = X2
  d : diskB X1 X2 = true
  t : putW X1 ((ofH h X2).take n) = T
  x : dropF h X2 = []
  dt : diskB T [] = true
theorem crs {S : List ByteArray} {h : Int} {ms : List Wr} (hd : diskB S [] = true) (hh : 0 ≤ h ∧ h ≤ 3) (hm : msB ms = true) (hl : ms.length ≤ 200) (hs : short ms) (k n : Nat) : ∃ X1 X2 j, Crs S h (ms.take k) n X1 X2 (putW S ((wrs ms).take j)) := by
  have hl' : (ms.take k).length ≤ 200 := by rw [List.length_take]; omega
  obtain ⟨m1, m2, m3⟩ := md_free hd hh (ms_take hm k) hl'
  obtain ⟨j, e1, e2⟩ := dm_crash h ms S k n
  have hr := (dmL_right hh hd (ms_take hm k) (by simp only [List.length_nil]; omega) (ms.take k).length (Nat.le_refl _)).1
  rw [List.take_of_length_le (Nat.le_refl _)] at hr
  exact ⟨_, _, j, m1, m2, m3, hr, e1, e2, put_disk hd (fun x hx => short_of hs x (List.mem_of_mem_take hx))⟩
theorem jr_replay {h o p q : Int} {us : List Up} (hh : 0 ≤ h ∧ h ≤ 3) (ho : 0 ≤ o ∧ o ≤ 3) (hp : 0 ≤ p ∧ p ≤ 3) (hq : numB q = true) (hu : upsB us = true) (h5 : us.length ≤ 5) (k n : Nat) :
    ∃ X1 X2 S R Z, Crs e64 h ((plL (slN h) q us).take k) n X1 X2 S ∧ Rpl S o h R Z ∧ ∀ k' n', ∃ Y1 Y2 T R' Z', Crs S o (R.take k') n' Y1 Y2 T ∧ Rpl T p h R' Z' ∧ mid Z' = mid Z := by
  have hs := slN_lo hh
  obtain ⟨X1, X2, j, hc⟩ := crs e64_disk hh (ms_pl q hs hu h5) (Nat.le_trans (pl_len (slN h) q us h5) (by omega)) (short_pl hu) k n
  have hl := (diskB_len hc.dt).1
  have none : ∀ {S : List ByteArray}, diskB S [] = true → Je S (slN h) → ∀ k' n', ∃ Y1 Y2 T R' Z', Crs S o (([] : List Wr).take k') n' Y1 Y2 T ∧ Rpl T p h R' Z' ∧ mid Z' = mid S := fun {S} hd he k' n' => by
    obtain ⟨Y1, Y2, j', hc'⟩ := crs (S := S) (ms := []) hd ho rfl (by simp) short_nil k' n'
    have e : putW S ((wrs ([] : List Wr)).take j') = S := by simp [wrs, putW]
    rw [e] at hc'
    exact ⟨Y1, Y2, S, _, _, hc', rpl_none hd hp hh he, rfl⟩
  rcases jr_crash (seq := q) hs hq hu h5 j with ⟨a1, a2⟩ | ⟨b1, b2, b3⟩ | ⟨c1, c2⟩
  · exact ⟨X1, X2, _, _, _, hc, rpl_none hc.dt ho hh a1, none hc.dt a1⟩
  · refine ⟨X1, X2, _, _, _, hc, rpl_some hc.dt ho hh hq hu h5 b2 b1, fun k' n' => ?_⟩
    generalize putW e64 ((wrs (plL (slN h) q us)).take j) = S at *
    obtain ⟨Y1, Y2, j', hc'⟩ := crs (S := S) (ms := apL (slN h) q us) hc.dt ho (ms_ap q hs hu) (by rw [apL_length]; omega) (short_ap hu) k' n'
    rw [wrs_ap] at hc'
    by_cases h2 : j' ≤ us.length
    · have e2 : (apW (slN h) q us).take j' = (chL us).take j' := by rw [apW, List.take_append_of_le_length (by rw [chL_length]; exact h2)]
      rw [e2] at hc'
      have hl' := (diskB_len hc'.dt).1
      have hf : Jf (putW S ((chL us).take j')) (slN h) q us := jf_ch b1 hs.1 _ (fun x hx => (ch_place hu x (List.mem_of_mem_take hx)).2)
      refine ⟨Y1, Y2, _, _, _, hc', rpl_some hc'.dt hp hh hq hu h5 b2 hf, mid_eq (by rw [put_len]; exact hl') (by rw [put_len]; exact hl) (fun a a0 a1 => ?_)⟩
      refine (ap_due hs.1 hl' (fun a a0 a1 => ?_) a a0 a1).trans (ap_due hs.1 hl b3 a a0 a1).symm
      by_cases hx : ∃ x ∈ chL us, x.at_.toNat = a
      · exact .inr hx
      · left
        rw [put_miss _ _ (fun x hx' e => hx ⟨x, List.mem_of_mem_take hx', e⟩)]
        exact (b3 a a0 a1).resolve_right hx
    · have e2 : (apW (slN h) q us).take j' = apW (slN h) q us := List.take_of_length_le (by simp [apW, chL_length]; omega)
      rw [e2] at hc'
      exact ⟨Y1, Y2, _, _, _, hc', rpl_none hc'.dt hp hh (ap_je hs hq hl), rfl⟩
  · exact ⟨X1, X2, _, _, _, hc, rpl_none hc.dt ho hh c1, none hc.dt c1⟩
end Go.Proofs.YtefnapcegeojoaaDoor

namespace Go.Proofs.YtefnapcegeojoaaDoor
open Go.RowKit
set_option linter.unusedVariables false
set_option maxRecDepth 100000

set_option maxHeartbeats 1600000 in
theorem placeFault_any (ao bo : Option Addr) (ca cb : Nat) (ss : List ByteArray) (xs : List Wr) (h a : Int) (w : World) (hl : ss.length ≤ maxLen) (hm : xs.length ≤ maxLen) (h1 : Ss w ao ss) (h2 : Ios w bo xs) :
    Calls Tryd.prog 65 #[.agg #[.slice ao ss.length ca, .slice bo xs.length cb], .int .i64 h, .int .i64 a] w fun e w' => e = .returned (.int .i64 (askC ss xs h a)) ∧ Below w.heap.size w w' := by
  have HA := hide (Joins.below_alloc1 w (.cells #[.slice ao ss.length ca, .slice bo xs.length cb] 32))
  have H1 := hide (h1.below (unhide HA))
  have H2 := hide (h2.below (unhide HA))
  have HL := hide hl
  have HM := hide hm
  clear h1 h2 hl hm
  by_cases hc : hostC ss xs h = 0
  · have hb : (hostC ss xs h != 0) = false := by simp [hc]
    cases hh : inB a 0 63
    · have H := hide (askC_place hc hh)
      clear hc
      go_enter Tryd.func65, Tryd.ntmps65
      go_wp2_with fail
      refine (hostFault_any _ _ _ _ ss xs h _ (unhide HL) (unhide HM) (unhide H1) (unhide H2)).mono ?_
      rintro e w1 ⟨rfl, hb⟩
      have HB := hide (fr (unhide HA) hb)
      clear hb
      go_wp2_with (go_at_call 64; refine (placeOK_any _ _).mono ?_; rintro e w' ⟨rfl, rfl⟩)
      go_ret
      exact ⟨ret_int (unhide H).symm, unhide HB⟩
    · have H := hide (askC_ok hc hh)
      clear hc
      go_enter Tryd.func65, Tryd.ntmps65
      go_wp2_with fail
      refine (hostFault_any _ _ _ _ ss xs h _ (unhide HL) (unhide HM) (unhide H1) (unhide H2)).mono ?_
      rintro e w1 ⟨rfl, hb⟩
      have HB := hide (fr (unhide HA) hb)
      clear hb
      go_wp2_with (go_at_call 64; refine (placeOK_any _ _).mono ?_; rintro e w' ⟨rfl, rfl⟩)
      go_ret
      exact ⟨ret_int (unhide H).symm, unhide HB⟩
  · have H := hide (askC_host (a := a) hc)
    have hb : (hostC ss xs h != 0) = true := by simp [hc]
    clear hc
    go_enter Tryd.func65, Tryd.ntmps65
    go_wp2_with fail
    refine (hostFault_any _ _ _ _ ss xs h _ (unhide HL) (unhide HM) (unhide H1) (unhide H2)).mono ?_
    rintro e w1 ⟨rfl, hb⟩
    have HB := hide (fr (unhide HA) hb)
    clear hb
    go_wp2
    go_ret
    exact ⟨ret_int (unhide H).symm, unhide HB⟩

end Go.Proofs.YtefnapcegeojoaaDoor

namespace Go.Proofs.YtefnapcegeojoaaDoor
open Go.RowKit
set_option linter.unusedVariables false
set_option maxRecDepth 100000

theorem ret_rs {a b : ByteArray} (h : a = b) : Ending.returned (.string a) = .returned (.string b) := by rw [h]
theorem no_succ {xs : List Wr} {h a : Int} {k : Nat} (hk : k < xs.length) (hn : ∀ j (hj : j < xs.length), (k : Int) < j → ¬ mat xs[j] h a) (hx : ¬ mat xs[k] h a) : ∀ j (hj : j < xs.length), (k : Int) - 1 < j → ¬ mat xs[j] h a := by
  intro j hj hlt
  by_cases e : j = k
  · subst e; exact hx
  · exact hn j hj (by omega)

set_option maxHeartbeats 1600000 in
theorem seenBy_any (ao bo : Option Addr) (ca cb : Nat) (ss : List ByteArray) (xs : List Wr) (h : Int) (n : Nat) (w : World) (hlx : xs.length ≤ 200) (hn : n < ss.length) (hq : ss.length ≤ 1048576) (h1 : Ss w ao ss) (h2 : Ios w bo xs) :
    Calls Tryd.prog 46 #[.agg #[.slice ao ss.length ca, .slice bo xs.length cb], .int .i64 h, .int .i64 n] w fun e w' => e = .returned (.string (readV ss xs h n)) ∧ Below w.heap.size w w' := by
  have HA := hide (Joins.below_alloc1 w (.cells #[.slice ao ss.length ca, .slice bo xs.length cb] 32))
  have H1' := hide (h1.below (unhide HA))
  have H2' := hide (h2.below (unhide HA))
  have hc0 : (w.alloc (.cells #[.slice ao ss.length ca, .slice bo xs.length cb] 32)).cell? ⟨w.heap.size, 0, none⟩ = some (.slice ao ss.length ca) := by simp [go_sem]
  have hc1 : (w.alloc (.cells #[.slice ao ss.length ca, .slice bo xs.length cb] 32)).cell? ⟨w.heap.size, 1, none⟩ = some (.slice bo xs.length cb) := by simp [go_sem]
  have HC0 := hide hc0
  have HC1 := hide hc1
  have hlt : w.heap.size < (w.alloc (.cells #[.slice ao ss.length ca, .slice bo xs.length cb] 32)).heap.size := by simp
  clear h1 h2 hc0 hc1
  go_enter Tryd.func46, Tryd.ntmps46
  go_wp2
  revert HA H1' H2' HC0 HC1 hlt
  generalize w.alloc (.cells #[.slice ao ss.length ca, .slice bo xs.length cb] 32) = w1
  intro HA H1' H2' HC0 HC1 hlt
  go_loopw [7, 8] (fun i _ wr => ∃ m : Int, i = .int .i64 m ∧ -1 ≤ m ∧ m < xs.length ∧ Hid (∀ j (hj : j < xs.length), m < j → ¬ mat xs[j] h n) ∧ Hid (Below w1.heap.size w1 wr)) (fun i _ _ => (intOf i + 1).toNat)
  case atStart => exact ⟨_, rfl, by omega, by omega, hide (fun j hj hlt => by omega), hide (Below.refl _ _)⟩
  case round =>
    obtain ⟨m, rfl, hm0, hm1, HN, HB⟩ := hrel
    have hc0 : wr.cell? ⟨w.heap.size, 0, none⟩ = some (.slice ao ss.length ca) := ((unhide HB).cell (World.block_lt_of_cell? _ _ (unhide HC0))).trans (unhide HC0)
    have hc1 : wr.cell? ⟨w.heap.size, 1, none⟩ = some (.slice bo xs.length cb) := ((unhide HB).cell (World.block_lt_of_cell? _ _ (unhide HC1))).trans (unhide HC1)
    by_cases hge : 0 ≤ m
    · obtain ⟨k, rfl⟩ := Int.eq_ofNat_of_zero_le hge
      have hk : k < xs.length := by omega
      obtain ⟨b, off, rfl, hd0, hd1, hd2, hz⟩ := (unhide H2').below (unhide HB) k hk
      clear hz
      have HBA := hide (fun o => (unhide HB).alloc (unhide HB).size o)
      by_cases e0 : xs[k].host = h
      · have b0 : (xs[k].host == h) = true := by simp [e0]
        by_cases e1 : xs[k].at_ = n
        · have b1 : (xs[k].at_ == (n : Int)) = true := by simp [e1]
          have H := hide (readV_hit (ss := ss) hk ⟨e0, e1⟩ (fun j hj hlt => unhide HN j hj (by omega)))
          clear e0 e1
          go_wp2
          go_ret
          exact ⟨ret_rs (unhide H).symm, fr (unhide HA) (unhide HBA _)⟩
        · have b1 : (xs[k].at_ == (n : Int)) = false := by simp [e1]
          have HX := hide (no_succ hk (unhide HN) (fun hx => e1 hx.2))
          clear e0 e1
          go_wp2
          go_roundw
          case rel => exact ⟨_, rfl, by omega, by omega, HX, hide (unhide HBA _)⟩
          case measure => simp [intOf]
      · have b0 : (xs[k].host == h) = false := by simp [e0]
        have HX := hide (no_succ hk (unhide HN) (fun hx => e0 hx.1))
        clear e0
        go_wp2
        go_roundw
        case rel => exact ⟨_, rfl, by omega, by omega, HX, hide (unhide HBA _)⟩
        case measure => simp [intOf]
    · obtain ⟨b, off, rfl, hc, hz⟩ := (unhide H1').below (unhide HB) n hn
      clear hz
      have hg : ss.getD ((n : Int).toNat) ⟨#[]⟩ = ss[n] := by simp [List.getD, hn]
      have H := hide ((readV_none (ss := ss) (fun j hj => unhide HN j hj (by omega))).trans hg)
      clear hg
      go_wp2
      go_ret
      exact ⟨ret_rs (unhide H).symm, fr (unhide HA) (unhide HB)⟩

end Go.Proofs.YtefnapcegeojoaaDoor

namespace Go.Proofs.YtefnapcegeojoaaDoor
open Go.RowKit
set_option linter.unusedVariables false

def wrC (ss : List ByteArray) (xs : List Wr) (h a : Int) (d : ByteArray) : Int := if 65536 < d.size then 2 else if askC ss xs h a = 0 then (if 80 < d.size then 4 else if xs.length = 200 then 7 else 0) else askC ss xs h a
def wrS (ss : List ByteArray) (xs : List Wr) (h a : Int) (d : ByteArray) : List ByteArray := if 65536 < d.size then [] else if askC ss xs h a = 0 then ss else []
def wrX (ss : List ByteArray) (xs : List Wr) (h a : Int) (d : ByteArray) : List Wr := if 65536 < d.size then [] else if askC ss xs h a = 0 then (if 80 < d.size then xs else if xs.length = 200 then xs else xs ++ [⟨h, a, d⟩]) else []
theorem wr_long {ss : List ByteArray} {xs : List Wr} {h a : Int} {d : ByteArray} (h1 : 65536 < d.size) : wrS ss xs h a d = [] ∧ wrX ss xs h a d = [] ∧ wrC ss xs h a d = 2 := by simp [wrS, wrX, wrC, h1]
theorem wr_ask {ss : List ByteArray} {xs : List Wr} {h a : Int} {d : ByteArray} (h1 : ¬ 65536 < d.size) (h2 : askC ss xs h a ≠ 0) : wrS ss xs h a d = [] ∧ wrX ss xs h a d = [] ∧ wrC ss xs h a d = askC ss xs h a := by simp [wrS, wrX, wrC, h1, h2]
theorem wr_range {ss : List ByteArray} {xs : List Wr} {h a : Int} {d : ByteArray} (h1 : ¬ 65536 < d.size) (h2 : askC ss xs h a = 0) (h3 : 80 < d.size) : wrS ss xs h a d = ss ∧ wrX ss xs h a d = xs ∧ wrC ss xs h a d = 4 := by simp [wrS, wrX, wrC, h1, h2, h3]
theorem wr_full {ss : List ByteArray} {xs : List Wr} {h a : Int} {d : ByteArray} (h1 : ¬ 65536 < d.size) (h2 : askC ss xs h a = 0) (h3 : ¬ 80 < d.size) (h4 : xs.length = 200) : wrS ss xs h a d = ss ∧ wrX ss xs h a d = xs ∧ wrC ss xs h a d = 7 := by simp [wrS, wrX, wrC, h1, h2, h3, h4]
theorem wr_ok {ss : List ByteArray} {xs : List Wr} {h a : Int} {d : ByteArray} (h1 : ¬ 65536 < d.size) (h2 : askC ss xs h a = 0) (h3 : ¬ 80 < d.size) (h4 : ¬ xs.length = 200) : wrS ss xs h a d = ss ∧ wrX ss xs h a d = xs ++ [⟨h, a, d⟩] ∧ wrC ss xs h a d = 0 := by simp [wrS, wrX, wrC, h1, h2, h3, h4]
end Go.Proofs.YtefnapcegeojoaaDoor

namespace Go.Proofs.YtefnapcegeojoaaDoor
open Go.RowKit
set_option linter.unusedVariables false

theorem wi_end {w w3 : World} {v g k cap n pa : Nat} {po : Option Addr} {ss : List ByteArray} {xs' : List Wr} {x y : Value} (hS : OwnR w3 (w.heap.size + 2) 9 1 (.slice po n pa) n (strV ss)) (hI : OwnR w3 (w.heap.size + 2) 78 3 (.slice (some ⟨g, 0, none⟩) k cap) k (ioV xs')) (hv : VarD w3 v x y) (hb : Below w.heap.size w w3) (hvw : w.heap.size ≤ v) (a b c : Value) :
    OwnD (((w3.setCell ⟨v, 1, none⟩ a).setCell ⟨w.heap.size + 1, 0, none⟩ b).setCell ⟨w.heap.size + 1, 1, none⟩ c) w.heap.size po n pa (some ⟨g, 0, none⟩) k cap ss xs' ∧ Below w.heap.size w (((w3.setCell ⟨v, 1, none⟩ a).setCell ⟨w.heap.size + 1, 0, none⟩ b).setCell ⟨w.heap.size + 1, 1, none⟩ c) := by
  have hk : Keep (fun j => j = v) w3 (w3.setCell ⟨v, 1, none⟩ a) := Keep.setCell (S := fun j => j = v) (Keep.refl _ _) (p := ⟨v, 1, none⟩) rfl a
  have h1 : OwnD (w3.setCell ⟨v, 1, none⟩ a) (w.heap.size + 2) po n pa (some ⟨g, 0, none⟩) k cap ss xs' := ⟨hS.keep hk (fun j hj e => hS.other hv (by decide) (e ▸ hj)), hI.keep hk (fun j hj e => hI.other hv (by decide) (e ▸ hj))⟩
  exact copyD_end h1 (hb.setCell (p := ⟨v, 1, none⟩) hvw a) b c

set_option maxRecDepth 100000 in
set_option maxHeartbeats 800000 in
theorem writeSector_impl_range (ao bo : Option Addr) (ca cb : Nat) (ss : List ByteArray) (xs : List Wr) (h a : Int) (d : ByteArray) (w : World) (hz : d.size ≤ maxLen) (hl : ss.length ≤ maxLen) (hm : xs.length ≤ maxLen) (h1 : Ss w ao ss) (h2 : Ios w bo xs) (hlong : ¬ 65536 < d.size) (hask : askC ss xs h a = 0) (hbig : 80 < d.size) :
    Calls Tryd.prog 44 #[.agg #[.slice ao ss.length ca, .slice bo xs.length cb], .int .i64 h, .int .i64 a, .string d] w fun e w' => ∃ po pa qo qa, e = .returned (.tuple #[.agg #[.slice po (wrS ss xs h a d).length pa, .slice qo (wrX ss xs h a d).length qa], .int .i64 (wrC ss xs h a d)]) ∧ OwnD w' w.heap.size po (wrS ss xs h a d).length pa qo (wrX ss xs h a d).length qa (wrS ss xs h a d) (wrX ss xs h a d) ∧ Below w.heap.size w w' := by
  have HA := hide (Joins.below_alloc2 w (.cells #[.slice ao ss.length ca, .slice bo xs.length cb] 32) (.cells #[.slice none 0 0, .slice none 0 0] 32))
  have H1 := hide (h1.below (unhide HA))
  have H2 := hide (h2.below (unhide HA))
  have HV := hide ((VarD.new w (.slice ao ss.length ca) (.slice bo xs.length cb)).below (Joins.below_alloc1 _ (.cells #[.slice none 0 0, .slice none 0 0] 32)))
  have HR : Hid (VarD ((w.alloc (.cells #[.slice ao ss.length ca, .slice bo xs.length cb] 32)).alloc (.cells #[.slice none 0 0, .slice none 0 0] 32)) (w.heap.size + 1) (.slice none 0 0) (.slice none 0 0)) := hide (by have := VarD.new (w.alloc (.cells #[.slice ao ss.length ca, .slice bo xs.length cb] 32)) (.slice none 0 0) (.slice none 0 0); simp only [World.size_alloc] at this; exact this)
  have HS0 := hide h1
  have HX0 := hide h2
  have HL := hide hl
  have HM := hide hm
  clear h1 h2 hl hm
  unfold maxLen at hz
  have hb : (askC ss xs h a != 0) = false := by simp [hask]
  obtain ⟨hh, ha0, ha1⟩ := askC_eq hask
  obtain ⟨hlen, hlx⟩ := diskB_len (hostC_eq hh).1
  have HLS : Hid (ss.length ≤ 1048576) := hide (by omega)
  have HLX : Hid (xs.length ≤ 1048576) := hide (by omega)
  have HASK := hide hask
  clear hask hh hlen
  have HW := hide (wr_range (h := h) (a := a) (d := d) hlong (unhide HASK) hbig)
  go_enter Tryd.func44, Tryd.ntmps44
  go_wp2_with fail
  refine (placeFault_any _ _ _ _ ss xs h a _ (unhide HL) (unhide HM) (unhide H1) (unhide H2)).mono ?_
  rintro e w1 ⟨rfl, hb1⟩
  have HV1 := hide ((unhide HV).below hb1)
  have HR1 := hide ((unhide HR).below hb1)
  have HB1 := hide (fr (unhide HA) hb1)
  have HS1 := hide ((unhide H1).below hb1)
  have HX1 := hide ((unhide H2).below hb1)
  have HZ1 := hide hb1.size
  clear hb1
  obtain ⟨hv0, hv1⟩ := (unhide HV1).cells
  go_wp2_with fail
  refine (copyDisk_any _ _ _ _ ss xs _ (unhide HLS) (unhide HLX) (unhide HS1) (unhide HX1)).mono ?_
  rintro e w2 ⟨po, pa, qo, qa, rfl, ho2, hb2⟩
  have HO2 := hide (ho2.base (B' := w.heap.size + 2) (by have z1 := unhide HZ1; simp at z1; omega))
  have HR2 := hide ((unhide HR1).below hb2)
  have HB2 := hide (fr (unhide HB1) hb2)
  have hlt2 : w.heap.size + 1 < w2.heap.size := (unhide HR2).lt
  clear ho2 hb2 hv0 hv1
  obtain ⟨hr0, hr1⟩ := (unhide HR2).cells
  have hr2 := (unhide HR2).free 0
  have hr3 := (unhide HR2).free 1
  have HE := hide (copyD_end (w := w) (wL := w2) (unhide HO2) (unhide HB2) (.slice po ss.length pa) (.slice qo xs.length qa))
  have HE1 := hide ((unhide HE).1.below (Joins.below_alloc1 _ (.cells #[.slice po ss.length pa, .slice qo xs.length qa] 32)))
  have HE2 := hide (fr (unhide HE).2 (Joins.below_alloc1 _ (.cells #[.slice po ss.length pa, .slice qo xs.length qa] 32)))
  go_wp2
  obtain ⟨e1, e2, e3⟩ := unhide HW
  rw [e1, e2, e3]
  exact bodyPost_ret (v := .tuple #[.agg #[.slice po ss.length pa, .slice qo xs.length qa], .int .i64 4]) (by simp [results, Tryd.results44, go_sem, hr0, hr1, hlt2]) rfl ⟨po, pa, qo, qa, rfl, unhide HE1, unhide HE2⟩

set_option maxRecDepth 100000 in
set_option maxHeartbeats 800000 in
theorem writeSector_impl_full (ao bo : Option Addr) (ca cb : Nat) (ss : List ByteArray) (xs : List Wr) (h a : Int) (d : ByteArray) (w : World) (hz : d.size ≤ maxLen) (hl : ss.length ≤ maxLen) (hm : xs.length ≤ maxLen) (h1 : Ss w ao ss) (h2 : Ios w bo xs) (hlong : ¬ 65536 < d.size) (hask : askC ss xs h a = 0) (hbig : ¬ 80 < d.size) (hfull : xs.length = 200) :
    Calls Tryd.prog 44 #[.agg #[.slice ao ss.length ca, .slice bo xs.length cb], .int .i64 h, .int .i64 a, .string d] w fun e w' => ∃ po pa qo qa, e = .returned (.tuple #[.agg #[.slice po (wrS ss xs h a d).length pa, .slice qo (wrX ss xs h a d).length qa], .int .i64 (wrC ss xs h a d)]) ∧ OwnD w' w.heap.size po (wrS ss xs h a d).length pa qo (wrX ss xs h a d).length qa (wrS ss xs h a d) (wrX ss xs h a d) ∧ Below w.heap.size w w' := by
  have HA := hide (Joins.below_alloc2 w (.cells #[.slice ao ss.length ca, .slice bo xs.length cb] 32) (.cells #[.slice none 0 0, .slice none 0 0] 32))
  have H1 := hide (h1.below (unhide HA))
  have H2 := hide (h2.below (unhide HA))
  have HV := hide ((VarD.new w (.slice ao ss.length ca) (.slice bo xs.length cb)).below (Joins.below_alloc1 _ (.cells #[.slice none 0 0, .slice none 0 0] 32)))
  have HR : Hid (VarD ((w.alloc (.cells #[.slice ao ss.length ca, .slice bo xs.length cb] 32)).alloc (.cells #[.slice none 0 0, .slice none 0 0] 32)) (w.heap.size + 1) (.slice none 0 0) (.slice none 0 0)) := hide (by have := VarD.new (w.alloc (.cells #[.slice ao ss.length ca, .slice bo xs.length cb] 32)) (.slice none 0 0) (.slice none 0 0); simp only [World.size_alloc] at this; exact this)
  have HS0 := hide h1
  have HX0 := hide h2
  have HL := hide hl
  have HM := hide hm
  clear h1 h2 hl hm
  unfold maxLen at hz
  have hb : (askC ss xs h a != 0) = false := by simp [hask]
  obtain ⟨hh, ha0, ha1⟩ := askC_eq hask
  obtain ⟨hlen, hlx⟩ := diskB_len (hostC_eq hh).1
  have HLS : Hid (ss.length ≤ 1048576) := hide (by omega)
  have HLX : Hid (xs.length ≤ 1048576) := hide (by omega)
  have HASK := hide hask
  clear hask hh hlen
  have HW := hide (wr_full (h := h) (a := a) (d := d) hlong (unhide HASK) hbig hfull)
  have hge : 200 ≤ xs.length := by omega
  clear hfull
  go_enter Tryd.func44, Tryd.ntmps44
  go_wp2_with fail
  refine (placeFault_any _ _ _ _ ss xs h a _ (unhide HL) (unhide HM) (unhide H1) (unhide H2)).mono ?_
  rintro e w1 ⟨rfl, hb1⟩
  have HV1 := hide ((unhide HV).below hb1)
  have HR1 := hide ((unhide HR).below hb1)
  have HB1 := hide (fr (unhide HA) hb1)
  have HS1 := hide ((unhide H1).below hb1)
  have HX1 := hide ((unhide H2).below hb1)
  have HZ1 := hide hb1.size
  clear hb1
  obtain ⟨hv0, hv1⟩ := (unhide HV1).cells
  go_wp2_with fail
  refine (copyDisk_any _ _ _ _ ss xs _ (unhide HLS) (unhide HLX) (unhide HS1) (unhide HX1)).mono ?_
  rintro e w2 ⟨po, pa, qo, qa, rfl, ho2, hb2⟩
  have HO2 := hide (ho2.base (B' := w.heap.size + 2) (by have z1 := unhide HZ1; simp at z1; omega))
  have HR2 := hide ((unhide HR1).below hb2)
  have HB2 := hide (fr (unhide HB1) hb2)
  have hlt2 : w.heap.size + 1 < w2.heap.size := (unhide HR2).lt
  clear ho2 hb2 hv0 hv1
  obtain ⟨hr0, hr1⟩ := (unhide HR2).cells
  have hr2 := (unhide HR2).free 0
  have hr3 := (unhide HR2).free 1
  have HE := hide (copyD_end (w := w) (wL := w2) (unhide HO2) (unhide HB2) (.slice po ss.length pa) (.slice qo xs.length qa))
  have HE1 := hide ((unhide HE).1.below (Joins.below_alloc1 _ (.cells #[.slice po ss.length pa, .slice qo xs.length qa] 32)))
  have HE2 := hide (fr (unhide HE).2 (Joins.below_alloc1 _ (.cells #[.slice po ss.length pa, .slice qo xs.length qa] 32)))
  go_wp2
  obtain ⟨e1, e2, e3⟩ := unhide HW
  rw [e1, e2, e3]
  exact bodyPost_ret (v := .tuple #[.agg #[.slice po ss.length pa, .slice qo xs.length qa], .int .i64 7]) (by simp [results, Tryd.results44, go_sem, hr0, hr1, hlt2]) rfl ⟨po, pa, qo, qa, rfl, unhide HE1, unhide HE2⟩

set_option maxRecDepth 100000 in
set_option maxHeartbeats 800000 in
theorem writeSector_impl_ok (ao bo : Option Addr) (ca cb : Nat) (ss : List ByteArray) (xs : List Wr) (h a : Int) (d : ByteArray) (w : World) (hz : d.size ≤ maxLen) (hl : ss.length ≤ maxLen) (hm : xs.length ≤ maxLen) (h1 : Ss w ao ss) (h2 : Ios w bo xs) (hlong : ¬ 65536 < d.size) (hask : askC ss xs h a = 0) (hbig : ¬ 80 < d.size) (hfull : ¬ xs.length = 200) :
    Calls Tryd.prog 44 #[.agg #[.slice ao ss.length ca, .slice bo xs.length cb], .int .i64 h, .int .i64 a, .string d] w fun e w' => ∃ po pa qo qa, e = .returned (.tuple #[.agg #[.slice po (wrS ss xs h a d).length pa, .slice qo (wrX ss xs h a d).length qa], .int .i64 (wrC ss xs h a d)]) ∧ OwnD w' w.heap.size po (wrS ss xs h a d).length pa qo (wrX ss xs h a d).length qa (wrS ss xs h a d) (wrX ss xs h a d) ∧ Below w.heap.size w w' := by
  have HA := hide (Joins.below_alloc2 w (.cells #[.slice ao ss.length ca, .slice bo xs.length cb] 32) (.cells #[.slice none 0 0, .slice none 0 0] 32))
  have H1 := hide (h1.below (unhide HA))
  have H2 := hide (h2.below (unhide HA))
  have HV := hide ((VarD.new w (.slice ao ss.length ca) (.slice bo xs.length cb)).below (Joins.below_alloc1 _ (.cells #[.slice none 0 0, .slice none 0 0] 32)))
  have HR : Hid (VarD ((w.alloc (.cells #[.slice ao ss.length ca, .slice bo xs.length cb] 32)).alloc (.cells #[.slice none 0 0, .slice none 0 0] 32)) (w.heap.size + 1) (.slice none 0 0) (.slice none 0 0)) := hide (by have := VarD.new (w.alloc (.cells #[.slice ao ss.length ca, .slice bo xs.length cb] 32)) (.slice none 0 0) (.slice none 0 0); simp only [World.size_alloc] at this; exact this)
  have HS0 := hide h1
  have HX0 := hide h2
  have HL := hide hl
  have HM := hide hm
  clear h1 h2 hl hm
  unfold maxLen at hz
  have hb : (askC ss xs h a != 0) = false := by simp [hask]
  obtain ⟨hh, ha0, ha1⟩ := askC_eq hask
  obtain ⟨hlen, hlx⟩ := diskB_len (hostC_eq hh).1
  have HLS : Hid (ss.length ≤ 1048576) := hide (by omega)
  have HLX : Hid (xs.length ≤ 1048576) := hide (by omega)
  have HASK := hide hask
  clear hask hh hlen
  have HW := hide (wr_ok (h := h) (a := a) (d := d) hlong (unhide HASK) hbig hfull)
  have HN := hide (show xs.length + 1 = (xs ++ [(⟨h, a, d⟩ : Wr)]).length by simp)
  have hge : xs.length < 200 := by omega
  obtain ⟨j0, hj, hy0, hy1, hy2⟩ := info_parts infoW
  clear hfull
  go_enter Tryd.func44, Tryd.ntmps44
  go_wp2_with fail
  refine (placeFault_any _ _ _ _ ss xs h a _ (unhide HL) (unhide HM) (unhide H1) (unhide H2)).mono ?_
  rintro e w1 ⟨rfl, hb1⟩
  have HV1 := hide ((unhide HV).below hb1)
  have HR1 := hide ((unhide HR).below hb1)
  have HB1 := hide (fr (unhide HA) hb1)
  have HS1 := hide ((unhide H1).below hb1)
  have HX1 := hide ((unhide H2).below hb1)
  have HZ1 := hide hb1.size
  clear hb1
  obtain ⟨hv0, hv1⟩ := (unhide HV1).cells
  go_wp2_with fail
  refine (copyDisk_any _ _ _ _ ss xs _ (unhide HLS) (unhide HLX) (unhide HS1) (unhide HX1)).mono ?_
  rintro e w2 ⟨po, pa, qo, qa, rfl, ho2, hb2⟩
  have HO2 := hide (ho2.base (B' := w.heap.size + 2) (by have z1 := unhide HZ1; simp at z1; omega))
  have HR2 := hide ((unhide HR1).below hb2)
  have HB2 := hide (fr (unhide HB1) hb2)
  have hlt2 : w.heap.size + 1 < w2.heap.size := (unhide HR2).lt
  clear ho2 hb2 hv0 hv1
  obtain ⟨hr0, hr1⟩ := (unhide HR2).cells
  have hr2 := (unhide HR2).free 0
  have hr3 := (unhide HR2).free 1
  have HA2 := hide (Joins.below_alloc2 w2 (.cells #[.slice po ss.length pa, .slice qo xs.length qa] 32) (.cells #[.int .i64 h, .int .i64 a, .string d] 78))
  have HO3 := hide ((unhide HO2).below (unhide HA2))
  have HR3 := hide ((unhide HR2).below (unhide HA2))
  have HV3 := hide ((VarD.new w2 (.slice po ss.length pa) (.slice qo xs.length qa)).below (Joins.below_alloc1 _ (.cells #[.int .i64 h, .int .i64 a, .string d] 78)))
  have HB3 := hide (fr (unhide HB2) (unhide HA2))
  have HI3 : Hid (VarI ((w2.alloc (.cells #[.slice po ss.length pa, .slice qo xs.length qa] 32)).alloc (.cells #[.int .i64 h, .int .i64 a, .string d] 78)) (w2.heap.size + 1) ⟨h, a, d⟩) := hide (VarI.top (x := ⟨h, a, d⟩) (by simp))
  go_wp2_with (at_builtin; refine wpList_append_one rfl _ _ 30 rfl (w.heap.size + 2) 78 j0 (.agg #[.int .i64 0, .int .i64 0, .string ⟨#[]⟩]) 3 32 Tryd.underlying30 hj hy0 hy1 hy2 rfl (by omega) qo xs.length qa (ioV xs) rfl (unhide HO3).i (by simp; omega) ⟨w2.heap.size + 1, 0, none⟩ _ (wrV ⟨h, a, d⟩) rfl rfl (unhide HI3).news (wrV_one _) (by unfold maxLen; omega) (by omega) ?_; intro g cap w3 ho3 hk3; have HV4 := hide ((unhide HV3).keep hk3 ((unhide HO3).i.other (unhide HV3) (by decide))); have HR4 := hide ((unhide HR3).keep hk3 ((unhide HO3).i.other (unhide HR3) (by decide))); have HW4 := hide (wi_end (w := w) (w3 := w3) (v := w2.heap.size) (g := g) (k := xs.length + 1) (cap := cap) (xs' := xs ++ [⟨h, a, d⟩]) ((unhide HO3).s.keep hk3 (own_apart (unhide HO3).s (unhide HO3).i (by decide))) (.inr ⟨Nat.succ_pos _, by rw [ioV_snoc]; exact ho3⟩) (unhide HV4) ((unhide HB3).trans (hk3.below (B := w.heap.size) (unhide HB3).size (fun j hj => Nat.le_trans (show w.heap.size ≤ w.heap.size + 2 from by omega) ((unhide HO3).i.ge j hj).1))) (by omega) (.slice (some ⟨g, 0, none⟩) (xs.length + 1) cap) (.slice po ss.length pa) (.slice (some ⟨g, 0, none⟩) (xs.length + 1) cap)); obtain ⟨q0, q1⟩ := (unhide HV4).cells; have q2 := (unhide HV4).free 1; obtain ⟨q3, q4⟩ := (unhide HR4).cells; have q5 := (unhide HR4).free 0; have q6 := (unhide HR4).free 1; clear ho3 hk3)
  obtain ⟨e1, e2, e3⟩ := unhide HW
  rw [e1, e2, e3, ← unhide HN]
  exact bodyPost_ret (v := .tuple #[.agg #[.slice po ss.length pa, .slice (some ⟨g, 0, none⟩) (xs.length + 1) cap], .int .i64 0]) (by simp [results, Tryd.results44, go_sem, q3, q4]) rfl ⟨po, pa, _, _, rfl, (unhide HW4).1, (unhide HW4).2⟩

set_option maxRecDepth 100000 in
set_option maxHeartbeats 1600000 in
theorem writeSector_impl (ao bo : Option Addr) (ca cb : Nat) (ss : List ByteArray) (xs : List Wr) (h a : Int) (d : ByteArray) (w : World) (hz : d.size ≤ maxLen) (hl : ss.length ≤ maxLen) (hm : xs.length ≤ maxLen) (h1 : Ss w ao ss) (h2 : Ios w bo xs) :
    Calls Tryd.prog 44 #[.agg #[.slice ao ss.length ca, .slice bo xs.length cb], .int .i64 h, .int .i64 a, .string d] w fun e w' => ∃ po pa qo qa, e = .returned (.tuple #[.agg #[.slice po (wrS ss xs h a d).length pa, .slice qo (wrX ss xs h a d).length qa], .int .i64 (wrC ss xs h a d)]) ∧ OwnD w' w.heap.size po (wrS ss xs h a d).length pa qo (wrX ss xs h a d).length qa (wrS ss xs h a d) (wrX ss xs h a d) ∧ Below w.heap.size w w' := by
  have HA := hide (Joins.below_alloc2 w (.cells #[.slice ao ss.length ca, .slice bo xs.length cb] 32) (.cells #[.slice none 0 0, .slice none 0 0] 32))
  have H1 := hide (h1.below (unhide HA))
  have H2 := hide (h2.below (unhide HA))
  have HV := hide ((VarD.new w (.slice ao ss.length ca) (.slice bo xs.length cb)).below (Joins.below_alloc1 _ (.cells #[.slice none 0 0, .slice none 0 0] 32)))
  have HR : Hid (VarD ((w.alloc (.cells #[.slice ao ss.length ca, .slice bo xs.length cb] 32)).alloc (.cells #[.slice none 0 0, .slice none 0 0] 32)) (w.heap.size + 1) (.slice none 0 0) (.slice none 0 0)) := hide (by have := VarD.new (w.alloc (.cells #[.slice ao ss.length ca, .slice bo xs.length cb] 32)) (.slice none 0 0) (.slice none 0 0); simp only [World.size_alloc] at this; exact this)
  have HS0 := hide h1
  have HX0 := hide h2
  have HL := hide hl
  have HM := hide hm
  clear h1 h2 hl hm
  unfold maxLen at hz
  by_cases hlong : 65536 < d.size
  · obtain ⟨e1, e2, e3⟩ := wr_long (ss := ss) (xs := xs) (h := h) (a := a) hlong
    rw [e1, e2, e3]
    clear e1 e2 e3
    go_enter Tryd.func44, Tryd.ntmps44
    go_wp2
    exact bodyPost_ret (v := .tuple #[.agg #[.slice none 0 0, .slice none 0 0], .int .i64 2]) (by simp [results, Tryd.results44, go_sem]) rfl ⟨none, 0, none, 0, rfl, zeroD_own, unhide HA⟩
  by_cases hask : askC ss xs h a = 0
  · by_cases hbig : 80 < d.size
    · exact writeSector_impl_range ao bo ca cb ss xs h a d w (by unfold maxLen; exact hz) (unhide HL) (unhide HM) (unhide HS0) (unhide HX0) hlong hask hbig
    · by_cases hfull : xs.length = 200
      · exact writeSector_impl_full ao bo ca cb ss xs h a d w (by unfold maxLen; exact hz) (unhide HL) (unhide HM) (unhide HS0) (unhide HX0) hlong hask hbig hfull
      · exact writeSector_impl_ok ao bo ca cb ss xs h a d w (by unfold maxLen; exact hz) (unhide HL) (unhide HM) (unhide HS0) (unhide HX0) hlong hask hbig hfull
  · have hb : (askC ss xs h a != 0) = true := by simp [hask]
    obtain ⟨e1, e2, e3⟩ := wr_ask (ss := ss) (xs := xs) (h := h) (a := a) hlong hask
    rw [e1, e2, e3]
    clear e1 e2 e3 hask
    go_enter Tryd.func44, Tryd.ntmps44
    go_wp2_with fail
    refine (placeFault_any _ _ _ _ ss xs h a _ (unhide HL) (unhide HM) (unhide H1) (unhide H2)).mono ?_
    rintro e w1 ⟨rfl, hb1⟩
    have HR1 := hide ((unhide HR).below hb1)
    have HB1 := hide (fr (unhide HA) hb1)
    clear hb1
    obtain ⟨hr0, hr1⟩ := (unhide HR1).cells
    have hr2 := (unhide HR1).free 0
    have hr3 := (unhide HR1).free 1
    have HE := hide (zero_end (w := w) (wL := w1) (unhide HB1) (.slice none 0 0) (.slice none 0 0))
    go_wp2
    exact bodyPost_ret (v := .tuple #[.agg #[.slice none 0 0, .slice none 0 0], .int .i64 (askC ss xs h a)]) (by simp [results, Tryd.results44, go_sem, hr0, hr1]) rfl ⟨none, 0, none, 0, rfl, zeroD_own, unhide HE⟩

end Go.Proofs.YtefnapcegeojoaaDoor

namespace Go.Proofs.YtefnapcegeojoaaDoor
open Go.RowKit
set_option linter.unusedVariables false

end Go.Proofs.YtefnapcegeojoaaDoor

namespace Go.Proofs.YtefnapcegeojoaaDoor
open Go.RowKit
set_option linter.unusedVariables false
set_option maxRecDepth 100000

theorem keep_new {w w1 w2 : World} {b : Nat} {S : Nat → Prop} (h : Keep (fun k => k = b) w w1) (hk : Keep S w1 w2) (hs : ∀ k, S k → w.heap.size ≤ k ∨ k = b) : Keep (fun k => k = b) w w2 :=
  ⟨hk.os.trans h.os, hk.tape.trans h.tape, hk.output.trans h.output, Nat.le_trans h.size hk.size, fun k hl hn => (hk.block k (Nat.lt_of_lt_of_le hl h.size) (fun hS => by
    rcases hs k hS with h1 | h1
    · omega
    · exact hn h1)).trans (h.block k hl hn)⟩
theorem SrcK.other {w w1 w2 : World} {b : Nat} {ao : Option Addr} {n cap m m0 : Nat} {S : Nat → Prop} (h0 : SrcK w b ao n cap m0) (h : SrcK w1 b ao n cap m) (hw : Keep (fun k => k = b) w w2) (hk : Keep S w1 w2) (hs : ¬ S b) : SrcK w2 b ao n cap m := by
  obtain ⟨x0, y0, _, _, _, _, hblk0⟩ := h0.src
  obtain ⟨x, y, c0, c1, c2, c3, c4⟩ := h.src
  refine ⟨⟨x, y, c0, c1, c2, c3, ?_⟩, h0.bytes.keep hblk0 (fun z h => by cases h) hw⟩
  rw [hk.block b (Array.getElem?_eq_some_iff.1 c4).1 hs]; exact c4

theorem source_any (ao : Option Addr) (n cap : Nat) (w : World) (hn : n ≤ 1048576) (hB : Bs w ao n) :
    Calls Tryd.prog 15 #[.slice ao n cap] w fun e w' => e = .returned (.pointer (some ⟨w.heap.size, 0, none⟩)) ∧ SrcK w' w.heap.size ao n cap 0 ∧ Below w.heap.size w w' ∧ w'.heap.size = w.heap.size + 1 := by
  go_enter Tryd.func15, Tryd.ntmps15
  go_wp2
  go_ret
  exact ⟨rfl, ⟨⟨0, (n : Int) % 1000, by omega, by omega, by omega, by omega, heap_alloc_new w _⟩, hB.below (Joins.below_alloc1 _ _)⟩, Joins.below_alloc1 _ _, by simp⟩

theorem blk_keep {S : Nat → Prop} {w w' : World} {k : Nat} {o : Obj} (hk : Keep S w w') (hs : ¬ S k) (h : w.heap[k]? = some o) : w'.heap[k]? = some o := by
  rw [hk.block k (Array.getElem?_eq_some_iff.1 h).1 hs]; exact h
end Go.Proofs.YtefnapcegeojoaaDoor

namespace Go.Proofs.YtefnapcegeojoaaDoor
open Go.RowKit
set_option linter.unusedVariables false

end Go.Proofs.YtefnapcegeojoaaDoor

namespace Go.Proofs.YtefnapcegeojoaaDoor
open Go.RowKit
set_option linter.unusedVariables false

end Go.Proofs.YtefnapcegeojoaaDoor

namespace Go.Proofs.YtefnapcegeojoaaDoor
open Go.RowKit
set_option linter.unusedVariables false
set_option maxRecDepth 100000

theorem infoU : (Tryd.prog.info? 5).map (fun i => (i.zero, i.size, i.bytes)) = some (some (.int .u8 0), 1, 1) := by kernel_rfl
theorem keep_newT {w w1 w2 : World} {b : Nat} {S : Nat → Prop} (h : Keep (fun k => k = b) w w1) (hk : Keep S w1 w2) (hs : ∀ k, S k → w.heap.size ≤ k ∨ k = b) : Keep (fun k => k = b) w w2 :=
  ⟨hk.os.trans h.os, hk.tape.trans h.tape, hk.output.trans h.output, Nat.le_trans h.size hk.size, fun k hl hn => (hk.block k (Nat.lt_of_lt_of_le hl h.size) (fun hS => by
    rcases hs k hS with h1 | h1
    · omega
    · exact hn h1)).trans (h.block k hl hn)⟩
theorem SrcK.otherT {w w1 w2 : World} {b : Nat} {ao : Option Addr} {n cap m m0 : Nat} {S : Nat → Prop} (h0 : SrcK w b ao n cap m0) (h : SrcK w1 b ao n cap m) (hw : Keep (fun k => k = b) w w2) (hk : Keep S w1 w2) (hs : ¬ S b) : SrcK w2 b ao n cap m := by
  obtain ⟨x0, y0, _, _, _, _, hblk0⟩ := h0.src
  obtain ⟨x, y, c0, c1, c2, c3, c4⟩ := h.src
  refine ⟨⟨x, y, c0, c1, c2, c3, ?_⟩, h0.bytes.keep hblk0 (fun z h => by cases h) hw⟩
  rw [hk.block b (Array.getElem?_eq_some_iff.1 c4).1 hs]; exact c4

set_option maxHeartbeats 3200000 in
theorem some_k (b : Nat) (ao : Option Addr) (n cap m k : Nat) (w : World) (hk : k ≤ 100) (hm : m ≤ 700000) (hn : n ≤ 1048576) (hs : SrcK w b ao n cap m) :
    Calls Tryd.prog 56 #[.pointer (some ⟨b, 0, none⟩), .int .i64 k] w fun e w' => ∃ t : ByteArray, e = .returned (.string t) ∧ t.size = k ∧ SrcK w' b ao n cap (m + 3 * k) ∧ Keep (fun j => j = b) w w' := by
  have hbl := hs.lt
  have HS0 := hide hs
  clear hs
  obtain ⟨j0, hj, hy0, hy1, hy2⟩ := info_parts infoU
  have HSA := hide ((unhide HS0).below (Joins.below_alloc1 w (.cells #[] 5)))
  have HKA : Hid (Keep (fun j => j = b) w (w.alloc (.cells #[] 5))) := hide (Keep.of_below (Joins.below_alloc1 _ _))
  go_enter Tryd.func56, Tryd.ntmps56
  go_wp2
  go_loopw [5, 6] (fun o i wr => ∃ (j : Nat) (ns : List Int) (qo : Option Addr) (qa : Nat), j ≤ k ∧ ns.length = j ∧ i = .int .i64 j ∧ o = .slice qo j qa ∧ Hid (OwnR wr w.heap.size 5 1 (.slice qo j qa) j (byteV ns)) ∧ Hid (Keep (fun x => x = b) w wr) ∧ Hid (SrcK wr b ao n cap (m + 3 * j))) (fun _ i _ => k - (intOf i).toNat)
  case atStart => exact ⟨0, [], _, _, Nat.zero_le _, rfl, rfl, rfl, hide (.inl ⟨rfl, rfl, _, rfl⟩), HKA, HSA⟩
  case round =>
    obtain ⟨j, ns, qo, qa, hjk, hns, rfl, rfl, HO, HK, HS⟩ := hrel
    by_cases hlt : j < k
    · go_wp2_with fail
      refine (next_k b ao n cap _ 26 _ (by omega) (by omega) (by omega) hn (unhide HS)).mono ?_
      rintro e w2 ⟨r, rfl, hr0, hr1, hs2, hk2⟩
      have HO2 := hide ((unhide HO).keep hk2 (fun g hg e => by have := ((unhide HO).ge g hg).1; omega))
      have HK2 := hide ((unhide HK).trans hk2)
      have HS2 := hide hs2
      clear hs2 hk2
      have HOA := hide ((unhide HO2).below (Joins.below_alloc1 _ (.cells #[.int .u8 (97 + r)] 5)))
      have HKB := hide ((unhide HK2).trans (Keep.of_below (Joins.below_alloc1 _ (.cells #[.int .u8 (97 + r)] 5))))
      have HSB := hide ((unhide HS2).below (Joins.below_alloc1 _ (.cells #[.int .u8 (97 + r)] 5)))
      have HSZ := hide (unhide HK2).size
      go_wp2_with (at_builtin; refine wpList_append_one rfl _ _ 22 rfl w.heap.size 5 j0 (.int .u8 0) 1 1 Tryd.underlying22 hj hy0 hy1 hy2 rfl (by omega) qo j qa (byteV ns) rfl (unhide HOA) (by have := unhide HSZ; simp; omega) ⟨w2.heap.size, 0, none⟩ _ [.int .u8 (97 + r)] rfl rfl (byte_news w2 _ _) (byte_one _) (by unfold maxLen; omega) (by omega) ?_; intro g2 cap2 wA hoA hkA; have HSF := hide (And.intro hoA (keep_newT (unhide HKB) hkA (fun k hk => .inl ((unhide HOA).ge k hk).1))); have HSC := hide ((unhide HS0).otherT (unhide HSB) (unhide HSF).2 hkA (fun hk => by have := ((unhide HOA).ge _ hk).1; omega)); clear hoA hkA)
      go_roundw
      case rel => exact ⟨j + 1, ns ++ [97 + r], some ⟨g2, 0, none⟩, cap2, by omega, by simp [hns], by go_num, rfl, hide (.inr ⟨by omega, by rw [byteV_snoc]; exact (unhide HSF).1⟩), hide (unhide HSF).2, hide ((unhide HSC).more (by omega))⟩
      case measure => simp [intOf]; omega
    · have hcv := convert_own (P := Tryd.prog) Tryd.underlying22 Tryd.underlying5 Tryd.underlying9 (unhide HO)
      have HJK : Hid (j = k) := hide (by omega)
      have hlt' : ¬ (j : Int) < (k : Int) := by omega
      go_wp2
      go_ret
      exact ⟨strOfNums ns, rfl, by rw [strOfNums_size, hns]; exact unhide HJK, (unhide HS).more (by omega), unhide HK⟩

end Go.Proofs.YtefnapcegeojoaaDoor

namespace Go.Proofs.YtefnapcegeojoaaDoor
open Go.RowKit
set_option linter.unusedVariables false
set_option maxRecDepth 100000

end Go.Proofs.YtefnapcegeojoaaDoor

namespace Go.Proofs.YtefnapcegeojoaaDoor
open Go.RowKit
set_option linter.unusedVariables false
set_option maxRecDepth 100000

set_option maxHeartbeats 800000 in
theorem sameTexts_same (ao bo : Option Addr) (ca cb : Nat) (ss : List ByteArray) (w : World) (hl : ss.length ≤ maxLen) (hc : Ss w ao ss) (hd : Ss w bo ss) :
    Calls Tryd.prog 14 #[.slice ao ss.length ca, .slice bo ss.length cb] w fun e w' => e = .returned (.bool true) ∧ Below w.heap.size w w' := by
  have HC := hide hc
  have HD := hide hd
  clear hc hd
  unfold maxLen at hl
  have hb : ((ss.length : Int) != (ss.length : Int)) = false := by simp
  go_enter Tryd.func14, Tryd.ntmps14
  go_wp2
  go_loopw [5] (fun i wr => ∃ k : Nat, k ≤ ss.length ∧ i = .int .i64 k ∧ Hid (Below w.heap.size w wr)) (fun i _ => ss.length - (intOf i).toNat)
  case atStart => exact ⟨0, Nat.zero_le _, rfl, hide (Below.refl _ _)⟩
  case round =>
    obtain ⟨k, hk, rfl, HB⟩ := hrel
    by_cases hlt : k < ss.length
    · obtain ⟨b, off, rfl, hc, hz⟩ := (unhide HC).below (unhide HB) k hlt
      obtain ⟨b', off', rfl, hc', hz'⟩ := (unhide HD).below (unhide HB) k hlt
      clear hz hz'
      have be : (ss[k].toList == ss[k].toList) = true := by simp
      go_wp2
      go_quiet (fail)
      go_wp2
      go_roundw
      case rel => exact ⟨k + 1, by omega, by go_num, hide ((unhide HB).trans (Joins.below_draws _ _ _))⟩
      case measure => simp [intOf]; omega
    · go_wp2
      go_ret
      exact ⟨rfl, unhide HB⟩

end Go.Proofs.YtefnapcegeojoaaDoor

namespace Go.Proofs.YtefnapcegeojoaaDoor
open Go.RowKit
set_option linter.unusedVariables false

section
variable (ao bo : Option Addr) (ca cb : Nat) (ss : List ByteArray) (xs : List Wr) (w : World)
theorem len_in {ss : List ByteArray} {xs : List Wr} (hd : diskB ss xs = true) : ss.length ≤ maxLen ∧ xs.length ≤ maxLen := by
  have := diskB_len hd
  unfold maxLen
  omega
theorem lost {h : Int} {ss : List ByteArray} {xs : List Wr} {k : Nat} (hk : k ≤ 200) (hd : diskB ss xs = true) (ha : hostC ss xs h = 0) : loS ss xs h k = putW ss ((ofH h xs).take k) ∧ loX ss xs h k = dropF h xs ∧ loC ss xs h k = 0 ∧ diskB (putW ss ((ofH h xs).take k)) (dropF h xs) = true := by
  obtain ⟨e1, e2, e3⟩ := lo_ok (k := (k : Int)) ha (by simp [inB]; omega)
  obtain ⟨p1, p2⟩ := landF_gone h ss xs k
  exact ⟨e1.trans p1, e2.trans p2, e3, diskB_put hd (fun x hx => of_mem (List.mem_of_mem_take hx)) (fun x hx => drop_mem hx) (drop_le h xs)⟩
end

end Go.Proofs.YtefnapcegeojoaaDoor

namespace Go.Proofs.YtefnapcegeojoaaDoor
open Go.RowKit
set_option linter.unusedVariables false
set_option maxRecDepth 100000

theorem codes_right {ss : List ByteArray} {xs : List Wr} {h a : Int} (hd : diskB ss xs = true) (h0 : 0 ≤ h) (h3 : h ≤ 3) (a0 : 0 ≤ a) (a1 : a ≤ 63) : hostC ss xs h = 0 ∧ askC ss xs h a = 0 := by
  have e := hostC_ok hd (show inB h 0 3 = true by simp [inB]; omega)
  exact ⟨e, askC_ok e (by simp [inB]; omega)⟩
theorem right_sz {ss : List ByteArray} {xs : List Wr} (hd : diskB ss xs = true) : (ss.length ≤ maxLen ∧ xs.length ≤ maxLen) ∧ (∀ s ∈ ss, s.size ≤ maxLen) ∧ ∀ x ∈ xs, x.data.size ≤ maxLen := by
  have hl := diskB_len hd
  refine ⟨by unfold maxLen; omega, fun s hs => Nat.le_trans ((diskB_parts.1 hd).1.2 s hs) (by decide), fun x hx => Nat.le_trans (ioB_parts.1 ((diskB_parts.1 hd).2.2 x hx)).2.2 (by decide)⟩

theorem write_own (ao bo : Option Addr) (ca cb : Nat) (ss : List ByteArray) (xs : List Wr) (h a : Int) (t : ByteArray) (X : List Wr) (w : World) (hX : xs ++ [⟨h, a, t⟩] = X) (hd : diskB ss xs = true) (hl : xs.length < 200) (ht : t.size ≤ 80) (h0 : 0 ≤ h) (h3 : h ≤ 3) (a0 : 0 ≤ a) (a1 : a ≤ 63) (h1 : Ss w ao ss) (h2 : Ios w bo xs) :
    Calls Tryd.prog 44 #[.agg #[.slice ao ss.length ca, .slice bo xs.length cb], .int .i64 h, .int .i64 a, .string t] w fun e w' => ∃ po pa qo qa, e = .returned (.tuple #[.agg #[.slice po ss.length pa, .slice qo X.length qa], .int .i64 0]) ∧ OwnD w' w.heap.size po ss.length pa qo X.length qa ss X ∧ Below w.heap.size w w' := by
  subst hX
  obtain ⟨⟨l1, l2⟩, _⟩ := right_sz hd
  obtain ⟨_, ha⟩ := codes_right (h := h) (a := a) hd h0 h3 a0 a1
  obtain ⟨e1, e2, e3⟩ := wr_ok (ss := ss) (xs := xs) (h := h) (a := a) (d := t) (by omega) ha (by omega) (by omega)
  refine (writeSector_impl ao bo ca cb ss xs h a t w (by unfold maxLen; omega) l1 l2 h1 h2).mono ?_
  rintro e w' ⟨po, pa, qo, qa, he, ho, hb⟩
  rw [e1, e2] at ho
  rw [e1, e2, e3] at he
  exact ⟨po, pa, qo, qa, he, ho, hb⟩
theorem flush_put {h : Int} {ss : List ByteArray} {xs : List Wr} (hd : diskB ss xs = true) (ha : hostC ss xs h = 0) : flS ss xs h = putW ss (ofH h xs) ∧ flX ss xs h = dropF h xs := by
  obtain ⟨e1, e2⟩ := fl_ok ha
  have hc : (ofH h xs).length ≤ 200 := Nat.le_trans (List.length_filter_le _ _) (diskB_len hd).2
  obtain ⟨p1, p2⟩ := landF_put h ss xs 200
  have p1' : (landF h false ss xs 200).1 = putW ss ((ofH h xs).take 200) := p1
  have p2' : (landF h false ss xs 200).2.1 = remH h 200 xs := p2
  rw [List.take_of_length_le hc] at p1'
  rw [rem_all 200 xs hc] at p2'
  exact ⟨e1.trans p1', e2.trans p2'⟩
theorem flush_own (ao bo : Option Addr) (ca cb : Nat) (ss : List ByteArray) (xs : List Wr) (h : Int) (S : List ByteArray) (X : List Wr) (w : World) (hS : putW ss (ofH h xs) = S) (hX : dropF h xs = X) (hd : diskB ss xs = true) (h0 : 0 ≤ h) (h3 : h ≤ 3) (h1 : Ss w ao ss) (h2 : Ios w bo xs) :
    Calls Tryd.prog 43 #[.agg #[.slice ao ss.length ca, .slice bo xs.length cb], .int .i64 h] w fun e w' => ∃ po pa qo qa, e = .returned (.tuple #[.agg #[.slice po S.length pa, .slice qo X.length qa], .int .i64 0]) ∧ OwnD w' w.heap.size po S.length pa qo X.length qa S X ∧ Below w.heap.size w w' := by
  subst hS hX
  obtain ⟨⟨l1, l2⟩, _⟩ := right_sz hd
  obtain ⟨ha, _⟩ := codes_right (h := h) (a := 0) hd h0 h3 (by omega) (by omega)
  obtain ⟨e1, e2⟩ := flush_put hd ha
  refine (flush_impl ao bo ca cb ss xs h w l1 l2 h1 h2).mono ?_
  rintro e w' ⟨po, pa, qo, qa, he, ho, hb⟩
  rw [e1, e2] at ho
  rw [e1, e2, ha] at he
  exact ⟨po, pa, qo, qa, he, ho, hb⟩

end Go.Proofs.YtefnapcegeojoaaDoor

namespace Go.Proofs.YtefnapcegeojoaaDoor
open Go.RowKit
set_option linter.unusedVariables false
set_option maxRecDepth 100000

end Go.Proofs.YtefnapcegeojoaaDoor

namespace Go.Proofs.YtefnapcegeojoaaDoor
open Go.RowKit
set_option linter.unusedVariables false
set_option maxRecDepth 100000

end Go.Proofs.YtefnapcegeojoaaDoor

namespace Go.Proofs.YtefnapcegeojoaaDoor
open Go.RowKit
set_option linter.unusedVariables false
set_option maxRecDepth 100000

end Go.Proofs.YtefnapcegeojoaaDoor

namespace Go.Proofs.YtefnapcegeojoaaDoor
open Go.RowKit
set_option linter.unusedVariables false
set_option maxRecDepth 100000

abbrev wV (x : Wr) : Value := .agg #[.int .i64 x.host, .int .i64 x.at_, .string x.data]
end Go.Proofs.YtefnapcegeojoaaDoor
