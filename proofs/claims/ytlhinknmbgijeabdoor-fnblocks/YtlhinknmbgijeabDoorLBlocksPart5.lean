import Derived.Test.YtlhinknmbgijeabDoorRows
import Derived.Test.YtlhinknmbgijeabDoorLBlocksPart1
import Derived.Test.YtlhinknmbgijeabDoorLBlocksPart2
import Derived.WalkKit
import Derived.WalkSpells
import Derived.Test.YtlhinknmbgijeabDoorLBlocksPart4
import Derived.BigQuiet
import Derived.Deep.QuietTactic
import Derived.Deep.RegionWith
import Derived.Defers
import Derived.Recover
import Derived.Test.YtlhinknmbgijeabDoorLBlocksPart3

/- Contract of impl.readNumbers. -/
namespace Go.Proofs.YtlhinknmbgijeabDoor
open Go.RowKit
set_option linter.unusedVariables false
set_option maxRecDepth 100000

def txt : Value → ByteArray
  | .string s => s
  | _ => ⟨#[]⟩
/-- What is left of a text behind some bytes. -/
def Rest (s u : ByteArray) (k : Nat) : Prop := u.size + k = s.size ∧ ∀ j, j < u.size → byteAt u j = byteAt s (k + j)
theorem Rest.zero (s : ByteArray) : Rest s s 0 := ⟨rfl, fun j _ => by rw [Nat.zero_add]⟩
theorem Rest.num {s u : ByteArray} {k : Nat} (h : Rest s u k) (h4 : 4 ≤ u.size) : numAt u 0 = numAt s k := by
  unfold numAt
  rw [h.2 0 (by omega), h.2 (0 + 1) (by omega), h.2 (0 + 2) (by omega), h.2 (0 + 3) (by omega)]
  simp

theorem cut_size {u : ByteArray} (a : Nat) : (u.extract a u.size).size = u.size - a := by simp
theorem cut_byte {u : ByteArray} {a j : Nat} (h : a + j < u.size) : byteAt (u.extract a u.size) j = byteAt u (a + j) := by
  have h' : a + j < u.data.size := h
  have e : (u.extract a u.size).data = u.data.extract a u.size := by simp
  unfold byteAt
  rw [e, Array.getElem?_extract]
  have : j < u.size - a := by omega
  simp [this]
theorem Rest.cut {s u : ByteArray} {k : Nat} (h : Rest s u k) (h4 : 4 ≤ u.size) : Rest s (u.extract 4 u.size) (k + 4) := by
  refine ⟨by rw [cut_size]; have := h.1; omega, fun j hj => ?_⟩
  rw [cut_size] at hj
  rw [cut_byte (by omega), h.2 (4 + j) (by omega), Nat.add_assoc]

set_option maxHeartbeats 1600000 in
theorem readNumbers_ok (s : ByteArray) (w : World) (h4 : s.size % 4 = 0) (hl : s.size ≤ 64) (hn : ∀ k, k < s.size / 4 → numB (numAt s (k * 4)) = true) :
    Calls Tryd.prog 105 #[.string s] w fun e w' => ∃ v, e = .returned v ∧ OwnN w' w.heap.size v (unL s) ∧ Below w.heap.size w w' := by
  obtain ⟨j0, hj, hy0, hy1, hy2⟩ := info_parts infoM
  have hb4 : ((s.size : Int) % 4 == 0) = true := by simp; omega
  have hli : (s.size : Int) ≤ 64 := by omega
  have HN := hide hn
  clear hn
  go_enter Tryd.func105, Tryd.ntmps105
  go_wp2_with (go_at_call 78; refine (demand_true _).mono ?_; rintro e w' ⟨rfl, hw⟩; replace hw := hw.symm; subst hw)
  go_loopw [0, 3] (fun t o wr => ∃ (k : Nat) (u : ByteArray) (qo : Option Addr) (qa : Nat), k ≤ s.size / 4 ∧ t = .string u ∧ o = .slice qo k qa ∧ u.size + k * 4 = s.size ∧ Hid (Rest s u (k * 4)) ∧ Hid (OwnR wr w.heap.size 3 1 (.slice qo k qa) k (intV ((unL s).take k))) ∧ Hid (Below w.heap.size w wr)) (fun t _ _ => (txt t).size)
  case atStart => exact ⟨0, s, _, _, Nat.zero_le _, rfl, rfl, rfl, hide (Rest.zero s), hide (.inl ⟨rfl, rfl, _, rfl⟩), hide (Below.refl _ _)⟩
  case round =>
    obtain ⟨k, u, qo, qa, hk, rfl, rfl, hu, HR, HO, HB⟩ := hrel
    by_cases hlt : k < s.size / 4
    · have hu4 : 4 ≤ u.size := by omega
      have HNU : Hid (numB (numAt u 0) = true) := hide (by rw [(unhide HR).num hu4]; exact unhide HN k hlt)
      have HNE := hide ((unhide HR).num hu4)
      have hu0 : 0 < u.size := by omega
      have HSZU := hide (cut_size (u := u) 4)
      go_wp2_with fail
      refine (readNumber_ok u _ hu4 (unhide HNU)).mono ?_
      rintro e w1 ⟨rfl, hb1⟩
      have HB1 := hide (fr (unhide HB) hb1)
      have HO1 := hide ((unhide HO).below hb1)
      clear hb1
      have HOA := hide ((unhide HO1).below (Joins.below_alloc1 _ (.cells #[.int .i64 (numAt u 0)] 3)))
      have HBA := hide (fr (unhide HB1) (Joins.below_alloc1 _ (.cells #[.int .i64 (numAt u 0)] 3)))
      have HSZ := hide (unhide HB1).size
      go_wp2_with (at_builtin; refine wpList_append_one rfl _ _ 70 rfl w.heap.size 3 j0 (.int .i64 0) 1 8 Tryd.underlying70 hj hy0 hy1 hy2 rfl (by omega) qo k qa (intV ((unL s).take k)) rfl (unhide HOA) (by have := unhide HSZ; simp; omega) ⟨w1.heap.size, 0, none⟩ _ [.int .i64 (numAt u 0)] rfl rfl (byte_news w1 _ _) (int_one _) (by unfold maxLen; omega) (by omega) ?_; intro g2 cap2 wA hoA hkA; have HSF := hide (And.intro hoA (keep_below (unhide HBA) (unhide HOA) (Nat.le_refl _) hkA)); clear hoA hkA)
      go_roundw
      case rel => exact ⟨k + 1, _, _, _, by omega, rfl, rfl, by rw [unhide HSZU]; omega, hide (by rw [show (k + 1) * 4 = k * 4 + 4 by omega]; exact (unhide HR).cut hu4), hide (.inr ⟨by omega, by rw [unL_succ hlt, intV_snoc, ← unhide HNE]; exact (unhide HSF).1⟩), hide (unhide HSF).2⟩
      case measure => show (u.extract 4 u.size).size < u.size; rw [unhide HSZU]; omega
    · have hke : k = (unL s).length := by rw [unL_length]; omega
      have hu0 : u.size = 0 := by omega
      have HT : Hid ((unL s).take k = unL s) := hide (List.take_of_length_le (by omega))
      have HON : Hid (OwnR wr w.heap.size 3 1 (.slice qo (unL s).length qa) (unL s).length (intV (unL s))) := hide (by have := unhide HO; rw [unhide HT, hke] at this; exact this)
      subst hke
      go_wp2
      go_ret
      exact ⟨.slice qo (unL s).length qa, rfl, ⟨qo, qa, rfl, unhide HON⟩, unhide HB⟩

set_option maxHeartbeats 1600000 in
theorem readNumbers_bad (s : ByteArray) (w : World) (k0 : Nat) (h4 : s.size % 4 = 0) (hl : s.size ≤ 64) (hk0 : k0 < s.size / 4) (hn : ∀ k, k < k0 → numB (numAt s (k * 4)) = true) (hn0 : numB (numAt s (k0 * 4)) = false) (hE : ErrW w) :
    Calls Tryd.prog 105 #[.string s] w fun e w' => (∃ u pv, e = .panicked [{ v := .iface u pv, recovered := false }]) ∧ Below w.heap.size w w' := by
  obtain ⟨j0, hj, hy0, hy1, hy2⟩ := info_parts infoM
  have hb4 : ((s.size : Int) % 4 == 0) = true := by simp; omega
  have hli : (s.size : Int) ≤ 64 := by omega
  have HN := hide hn
  have HN0 := hide hn0
  have HE := hide hE
  clear hn hn0 hE
  go_enter Tryd.func105, Tryd.ntmps105
  go_wp2_with (go_at_call 78; refine (demand_true _).mono ?_; rintro e w' ⟨rfl, hw⟩; replace hw := hw.symm; subst hw)
  go_loopw [0, 3] (fun t o wr => ∃ (k : Nat) (u : ByteArray) (qo : Option Addr) (qa : Nat), k ≤ k0 ∧ t = .string u ∧ o = .slice qo k qa ∧ u.size + k * 4 = s.size ∧ Hid (Rest s u (k * 4)) ∧ Hid (OwnR wr w.heap.size 3 1 (.slice qo k qa) k (intV ((unL s).take k))) ∧ Hid (Below w.heap.size w wr)) (fun t _ _ => (txt t).size)
  case atStart => exact ⟨0, s, _, _, Nat.zero_le _, rfl, rfl, rfl, hide (Rest.zero s), hide (.inl ⟨rfl, rfl, _, rfl⟩), hide (Below.refl _ _)⟩
  case round =>
    obtain ⟨k, u, qo, qa, hk, rfl, rfl, hu, HR, HO, HB⟩ := hrel
    have hlt0 : k < s.size / 4 := by omega
    by_cases hlt : k < k0
    · have hu4 : 4 ≤ u.size := by omega
      have HNU : Hid (numB (numAt u 0) = true) := hide (by rw [(unhide HR).num hu4]; exact unhide HN k hlt)
      have HNE := hide ((unhide HR).num hu4)
      have hu0 : 0 < u.size := by omega
      have HSZU := hide (cut_size (u := u) 4)
      go_wp2_with fail
      refine (readNumber_ok u _ hu4 (unhide HNU)).mono ?_
      rintro e w1 ⟨rfl, hb1⟩
      have HB1 := hide (fr (unhide HB) hb1)
      have HO1 := hide ((unhide HO).below hb1)
      clear hb1
      have HOA := hide ((unhide HO1).below (Joins.below_alloc1 _ (.cells #[.int .i64 (numAt u 0)] 3)))
      have HBA := hide (fr (unhide HB1) (Joins.below_alloc1 _ (.cells #[.int .i64 (numAt u 0)] 3)))
      have HSZ := hide (unhide HB1).size
      go_wp2_with (at_builtin; refine wpList_append_one rfl _ _ 70 rfl w.heap.size 3 j0 (.int .i64 0) 1 8 Tryd.underlying70 hj hy0 hy1 hy2 rfl (by omega) qo k qa (intV ((unL s).take k)) rfl (unhide HOA) (by have := unhide HSZ; simp; omega) ⟨w1.heap.size, 0, none⟩ _ [.int .i64 (numAt u 0)] rfl rfl (byte_news w1 _ _) (int_one _) (by unfold maxLen; omega) (by omega) ?_; intro g2 cap2 wA hoA hkA; have HSF := hide (And.intro hoA (keep_below (unhide HBA) (unhide HOA) (Nat.le_refl _) hkA)); clear hoA hkA)
      go_roundw
      case rel => exact ⟨k + 1, _, _, _, by omega, rfl, rfl, by rw [unhide HSZU]; omega, hide (by rw [show (k + 1) * 4 = k * 4 + 4 by omega]; exact (unhide HR).cut hu4), hide (.inr ⟨by omega, by rw [unL_succ hlt0, intV_snoc, ← unhide HNE]; exact (unhide HSF).1⟩), hide (unhide HSF).2⟩
      case measure => show (u.extract 4 u.size).size < u.size; rw [unhide HSZU]; omega
    · have hu4 : 4 ≤ u.size := by omega
      have hu0 : 0 < u.size := by omega
      have hke : k = k0 := by omega
      have HNU : Hid (numB (numAt u 0) = false) := hide (by rw [(unhide HR).num hu4, hke]; exact unhide HN0)
      go_wp2_with fail
      refine (readNumber_no u _ hu4 (unhide HNU) ((unhide HE).below (unhide HB))).mono ?_
      rintro e w1 ⟨⟨u1, pv, rfl⟩, hb1⟩
      have HB1 := hide (fr (unhide HB) hb1)
      clear hb1
      go_wp2
      exact ⟨rfl, ⟨u1, pv, rfl⟩, unhide HB1⟩

set_option maxHeartbeats 800000 in
theorem readNumbers_form (s : ByteArray) (w : World) (h : s.size % 4 ≠ 0 ∨ 64 < s.size) (hE : ErrW w) :
    Calls Tryd.prog 105 #[.string s] w fun e w' => (∃ u pv, e = .panicked [{ v := .iface u pv, recovered := false }]) ∧ Below w.heap.size w w' := by
  have HE := hide hE
  clear hE
  by_cases h4 : s.size % 4 = 0
  · have hb4 : ((s.size : Int) % 4 == 0) = true := by simp; omega
    have hli : ¬ (s.size : Int) ≤ 64 := by omega
    go_enter Tryd.func105, Tryd.ntmps105
    go_wp2_with (go_at_call 78; refine (demand_false _ (unhide HE)).mono ?_; rintro e w' ⟨⟨u1, pv, rfl⟩, hw⟩; replace hw := hw.symm; subst hw)
    exact ⟨rfl, ⟨_, _, rfl⟩, Below.refl _ _⟩
  · have hb4 : ((s.size : Int) % 4 == 0) = false := by simp; omega
    go_enter Tryd.func105, Tryd.ntmps105
    go_wp2_with (go_at_call 78; refine (demand_false _ (unhide HE)).mono ?_; rintro e w' ⟨⟨u1, pv, rfl⟩, hw⟩; replace hw := hw.symm; subst hw)
    exact ⟨rfl, ⟨_, _, rfl⟩, Below.refl _ _⟩

theorem first_bad {p : Nat → Bool} : ∀ n, (∀ k, k < n → p k = true) ∨ ∃ k0, k0 < n ∧ (∀ k, k < k0 → p k = true) ∧ p k0 = false
  | 0 => .inl (fun k hk => by omega)
  | n + 1 => by
    rcases first_bad (p := p) n with h | ⟨k0, h0, h1, h2⟩
    · cases hp : p n with
      | true => exact .inl (fun k hk => by
          by_cases e : k = n
          · subst e; exact hp
          · exact h k (by omega))
      | false => exact .inr ⟨n, by omega, h, hp⟩
    · exact .inr ⟨k0, by omega, h1, h2⟩

/-- readNumbers, by what the text is. -/
theorem readNumbers_yes (s : ByteArray) (w : World) (h : okU s = true) :
    Calls Tryd.prog 105 #[.string s] w fun e w' => ∃ v, e = .returned v ∧ OwnN w' w.heap.size v (unL s) ∧ Below w.heap.size w w' := by
  have h4 : s.size % 4 = 0 := by
    by_cases h4 : s.size % 4 = 0
    · exact h4
    · rw [okU_rest h4] at h; cases h
  have hl : s.size ≤ 64 := by
    by_cases hl : 64 < s.size
    · rw [okU_long hl] at h; cases h
    · omega
  refine readNumbers_ok s w h4 hl (fun k hk => ?_)
  cases hb : numB (numAt s (k * 4)) with
  | true => rfl
  | false => rw [okU_bad hk hb] at h; cases h
theorem readNumbers_no (s : ByteArray) (w : World) (h : okU s = false) (hE : ErrW w) :
    Calls Tryd.prog 105 #[.string s] w fun e w' => (∃ u pv, e = .panicked [{ v := .iface u pv, recovered := false }]) ∧ Below w.heap.size w w' := by
  by_cases h4 : s.size % 4 = 0
  · by_cases hl : s.size ≤ 64
    · rcases first_bad (p := fun k => numB (numAt s (k * 4))) (s.size / 4) with hg | ⟨k0, h0, h1, h2⟩
      · rw [okU_true h4 hl hg] at h; cases h
      · exact readNumbers_bad s w k0 h4 hl h0 h1 h2 hE
    · exact readNumbers_form s w (.inr (by omega)) hE
  · exact readNumbers_form s w (.inl h4) hE

end Go.Proofs.YtlhinknmbgijeabDoor

/- Contract of impl.readRecord. -/
namespace Go.Proofs.YtlhinknmbgijeabDoor
open Go.RowKit
set_option linter.unusedVariables false
set_option maxRecDepth 100000

/-- The world when the head has been read: the result's variable, the head's. -/
structure HeadSt (w W : World) : Prop where
  blk : W.heap[w.heap.size]? = some (.cells #[.int .i64 0, .slice none 0 0] 118 (0, 0))
  size : w.heap.size + 2 ≤ W.heap.size
  below : Below w.heap.size w W
theorem HeadSt.mk' (w : World) (a b : Obj) (n : Nat) (ha : a = .cells #[.int .i64 0, .slice none 0 0] 118) : HeadSt w (((w.alloc a).alloc b).drewN n) := by
  subst ha
  have h : Below w.heap.size w ((w.alloc (.cells #[.int .i64 0, .slice none 0 0] 118)).alloc b) := Joins.below_alloc2 _ _ _
  refine ⟨?_, by simp, h.trans (Joins.below_draws _ _ _)⟩
  show ((w.alloc _).alloc b).heap[w.heap.size]? = _
  rw [(Joins.below_alloc1 _ b).block _ (by simp)]
  exact heap_alloc_new w _

theorem sum_rec (s : ByteArray) (n : Int) (w : World) (hs : s.size ≤ 65536) (h4 : 4 ≤ s.size) (hn : sumC (headT s ++ bodyT s) = n) : Calls Tryd.prog 75 #[.string (s.extract 0 2 ++ s.extract 4 s.size)] w fun e w' => e = .returned (.int .i64 n) ∧ w' = w := by
  subst hn
  exact sumOf_impl (headT s ++ bodyT s) w (by rw [ByteArray.size_append, bodyT_size, headT_size h4]; omega)

set_option maxHeartbeats 1600000 in
theorem readRecord_yes (s : ByteArray) (w : World) (hs : s.size ≤ 65536) (hr : RecP s) : Calls Tryd.prog 95 #[.string s] w fun e w' => ∃ v, e = .returned (.agg #[.int .i64 (byteAt s 0), v]) ∧ OwnN w' w.heap.size v (unL (bodyT s)) ∧ Below w.heap.size w w' := by
  obtain ⟨h4, hk, h3, hcnt, hsum, hok⟩ := hr
  have hc4 := copy4_at (w.alloc (.cells #[.int .i64 0, .slice none 0 0] 118)) (w.heap.size + 1) s (by simp) h4
  have h4i : (4 : Int) ≤ (s.size : Int) := by omega
  have b0 := byteAt_in s 0
  have b1 := byteAt_in s 1
  have b2 := byteAt_in s 2
  have HBZ := hide (bodyT_size s)
  have HHZ := hide (headT_size h4)
  have b3 : (byteAt s 3 == 0) = true := by simp [h3]
  have HSM : Hid (sumC (headT s ++ bodyT s) = byteAt s 2) := hide (by rw [hsum]; exact sumC_short (by rw [ByteArray.size_append, bodyT_size, headT_size h4]; omega))
  have HOK := hide hok
  have hlen : (((s.size - 4 : Nat) : Int) == byteAt s 1 * 4) = true := by rw [bodyT_size] at hcnt; simp [hcnt]
  clear h3 hcnt hsum hok
  go_enter Tryd.func95, Tryd.ntmps95
  go_wp2_with (first | (go_at_call 78; refine (demand_true _).mono ?_; rintro e w' ⟨rfl, hw⟩; replace hw := hw.symm; subst hw))
  go_quiet (fail)
  have HH := hide (HeadSt.mk' w (.cells #[.int .i64 0, .slice none 0 0] 118) (.cells #[.int .u8 (byteAt s 0), .int .u8 (byteAt s 1), .int .u8 (byteAt s 2), .int .u8 (byteAt s 3)] 102) nq rfl)
  revert HH
  generalize (((w.alloc (.cells #[.int .i64 0, .slice none 0 0] 118)).alloc (.cells #[.int .u8 (byteAt s 0), .int .u8 (byteAt s 1), .int .u8 (byteAt s 2), .int .u8 (byteAt s 3)] 102)).drewN nq) = W
  intro HH
  clear hc4
  go_wp2_with (first | (go_at_call 73; refine (kindOK_any _ _).mono ?_; rintro e w' ⟨rfl, hw⟩; replace hw := hw.symm; subst hw) | (go_at_call 78; refine (demand_true _).mono ?_; rintro e w' ⟨rfl, hw⟩; replace hw := hw.symm; subst hw) | (go_at_call 75; refine (sum_rec s _ _ hs h4 (unhide HSM)).mono ?_; rintro e w' ⟨rfl, hw⟩; replace hw := hw.symm; subst hw))
  refine (readNumbers_yes (bodyT s) _ (unhide HOK)).mono ?_
  rintro e w1 ⟨v, rfl, ⟨qo, qa, rfl, ho⟩, hb⟩
  have hblk : w1.heap[w.heap.size]? = some (.cells #[.int .i64 0, .slice none 0 0] 118 (0, 0)) := by
    rw [hb.block _ (by have := (unhide HH).size; omega)]; exact (unhide HH).blk
  have hc0 : w1.cell? ⟨w.heap.size, 0, none⟩ = some (.int .i64 0) := by rw [Joins.cell_of_block hblk]; rfl
  have hc1 : w1.cell? ⟨w.heap.size, 1, none⟩ = some (.slice none 0 0) := by rw [Joins.cell_of_block hblk]; rfl
  have hf0 := Joins.unfrozen_of_block hblk 0
  have hf1 := Joins.unfrozen_of_block hblk 1
  have HO := hide (ho.base (B' := w.heap.size + 1) (by have := (unhide HH).size; omega))
  have HB := hide (fr (unhide HH).below hb)
  clear ho hb hblk
  go_wp2
  exact bodyPost_ret (v := .agg #[.int .i64 (byteAt s 0), .slice qo (unL (bodyT s)).length qa]) (by simp [results, Tryd.results95, go_sem, hc0, hc1]) rfl
    ⟨.slice qo (unL (bodyT s)).length qa, rfl, ⟨qo, qa, rfl, (((unhide HO).setCell (a := ⟨w.heap.size, 0, none⟩) (Nat.lt_succ_self _) _).setCell (a := ⟨w.heap.size, 1, none⟩) (Nat.lt_succ_self _) _).base (Nat.le_succ _)⟩, ((unhide HB).setCell (p := ⟨w.heap.size, 0, none⟩) (Nat.le_refl _) _).setCell (p := ⟨w.heap.size, 1, none⟩) (Nat.le_refl _) _⟩

theorem readRecord_short (s : ByteArray) (w : World) (h4 : ¬ 4 ≤ s.size) (hE : ErrW w) : Calls Tryd.prog 95 #[.string s] w fun e w' => (∃ u pv, e = .panicked [{ v := .iface u pv, recovered := false }]) ∧ Below w.heap.size w w' := by
  have HE := hide (hE.below (Joins.below_alloc1 w (.cells #[.int .i64 0, .slice none 0 0] 118)))
  have h4i : ¬ (4 : Int) ≤ (s.size : Int) := by omega
  clear hE
  go_enter Tryd.func95, Tryd.ntmps95
  go_wp2_with (go_at_call 78; refine (demand_false _ (unhide HE)).mono ?_; rintro e w' ⟨⟨u, pv, rfl⟩, hw⟩; replace hw := hw.symm; subst hw)
  exact ⟨rfl, ⟨_, _, rfl⟩, Joins.below_alloc1 _ _⟩

set_option maxHeartbeats 1600000 in
theorem readRecord_kind (s : ByteArray) (w : World) (hs : s.size ≤ 65536) (h4 : 4 ≤ s.size) (hk : kindB (byteAt s 0) = false) (hE : ErrW w) : Calls Tryd.prog 95 #[.string s] w fun e w' => (∃ u pv, e = .panicked [{ v := .iface u pv, recovered := false }]) ∧ Below w.heap.size w w' := by
  have HE := hide hE
  clear hE
  have hc4 := copy4_at (w.alloc (.cells #[.int .i64 0, .slice none 0 0] 118)) (w.heap.size + 1) s (by simp) h4
  have h4i : (4 : Int) ≤ (s.size : Int) := by omega
  have b0 := byteAt_in s 0
  have b1 := byteAt_in s 1
  have b2 := byteAt_in s 2
  have HBZ := hide (bodyT_size s)
  have HHZ := hide (headT_size h4)
  go_enter Tryd.func95, Tryd.ntmps95
  go_wp2_with (first | (go_at_call 78; refine (demand_true _).mono ?_; rintro e w' ⟨rfl, hw⟩; replace hw := hw.symm; subst hw))
  go_quiet (fail)
  have HH := hide (HeadSt.mk' w (.cells #[.int .i64 0, .slice none 0 0] 118) (.cells #[.int .u8 (byteAt s 0), .int .u8 (byteAt s 1), .int .u8 (byteAt s 2), .int .u8 (byteAt s 3)] 102) nq rfl)
  revert HH
  generalize (((w.alloc (.cells #[.int .i64 0, .slice none 0 0] 118)).alloc (.cells #[.int .u8 (byteAt s 0), .int .u8 (byteAt s 1), .int .u8 (byteAt s 2), .int .u8 (byteAt s 3)] 102)).drewN nq) = W
  intro HH
  clear hc4
  go_wp2_with (first | (go_at_call 73; refine (kindOK_any _ _).mono ?_; rintro e w' ⟨rfl, hw⟩; replace hw := hw.symm; subst hw) | (go_at_call 78; refine (demand_false _ ((unhide HE).below (unhide HH).below)).mono ?_; rintro e w' ⟨⟨u, pv, rfl⟩, hw⟩; replace hw := hw.symm; subst hw))
  exact ⟨rfl, ⟨_, _, rfl⟩, (unhide HH).below⟩

set_option maxHeartbeats 1600000 in
theorem readRecord_last (s : ByteArray) (w : World) (hs : s.size ≤ 65536) (h4 : 4 ≤ s.size) (hk : kindB (byteAt s 0) = true) (h3 : byteAt s 3 ≠ 0) (hE : ErrW w) : Calls Tryd.prog 95 #[.string s] w fun e w' => (∃ u pv, e = .panicked [{ v := .iface u pv, recovered := false }]) ∧ Below w.heap.size w w' := by
  have HE := hide hE
  clear hE
  have hc4 := copy4_at (w.alloc (.cells #[.int .i64 0, .slice none 0 0] 118)) (w.heap.size + 1) s (by simp) h4
  have h4i : (4 : Int) ≤ (s.size : Int) := by omega
  have b0 := byteAt_in s 0
  have b1 := byteAt_in s 1
  have b2 := byteAt_in s 2
  have HBZ := hide (bodyT_size s)
  have HHZ := hide (headT_size h4)
  have b3 : (byteAt s 3 == 0) = false := by simp [h3]
  clear h3
  go_enter Tryd.func95, Tryd.ntmps95
  go_wp2_with (first | (go_at_call 78; refine (demand_true _).mono ?_; rintro e w' ⟨rfl, hw⟩; replace hw := hw.symm; subst hw))
  go_quiet (fail)
  have HH := hide (HeadSt.mk' w (.cells #[.int .i64 0, .slice none 0 0] 118) (.cells #[.int .u8 (byteAt s 0), .int .u8 (byteAt s 1), .int .u8 (byteAt s 2), .int .u8 (byteAt s 3)] 102) nq rfl)
  revert HH
  generalize (((w.alloc (.cells #[.int .i64 0, .slice none 0 0] 118)).alloc (.cells #[.int .u8 (byteAt s 0), .int .u8 (byteAt s 1), .int .u8 (byteAt s 2), .int .u8 (byteAt s 3)] 102)).drewN nq) = W
  intro HH
  clear hc4
  go_wp2_with (first | (go_at_call 73; refine (kindOK_any _ _).mono ?_; rintro e w' ⟨rfl, hw⟩; replace hw := hw.symm; subst hw) | (go_at_call 78; refine (demand_false _ ((unhide HE).below (unhide HH).below)).mono ?_; rintro e w' ⟨⟨u, pv, rfl⟩, hw⟩; replace hw := hw.symm; subst hw))
  exact ⟨rfl, ⟨_, _, rfl⟩, (unhide HH).below⟩

set_option maxHeartbeats 1600000 in
theorem readRecord_count (s : ByteArray) (w : World) (hs : s.size ≤ 65536) (h4 : 4 ≤ s.size) (hk : kindB (byteAt s 0) = true) (h3 : byteAt s 3 = 0) (hcnt : ((bodyT s).size : Int) ≠ byteAt s 1 * 4) (hE : ErrW w) : Calls Tryd.prog 95 #[.string s] w fun e w' => (∃ u pv, e = .panicked [{ v := .iface u pv, recovered := false }]) ∧ Below w.heap.size w w' := by
  have HE := hide hE
  clear hE
  have hc4 := copy4_at (w.alloc (.cells #[.int .i64 0, .slice none 0 0] 118)) (w.heap.size + 1) s (by simp) h4
  have h4i : (4 : Int) ≤ (s.size : Int) := by omega
  have b0 := byteAt_in s 0
  have b1 := byteAt_in s 1
  have b2 := byteAt_in s 2
  have HBZ := hide (bodyT_size s)
  have HHZ := hide (headT_size h4)
  have b3 : (byteAt s 3 == 0) = true := by simp [h3]
  have hlen : (((s.size - 4 : Nat) : Int) == byteAt s 1 * 4) = false := by rw [bodyT_size] at hcnt; simp [hcnt]
  clear h3 hcnt
  go_enter Tryd.func95, Tryd.ntmps95
  go_wp2_with (first | (go_at_call 78; refine (demand_true _).mono ?_; rintro e w' ⟨rfl, hw⟩; replace hw := hw.symm; subst hw))
  go_quiet (fail)
  have HH := hide (HeadSt.mk' w (.cells #[.int .i64 0, .slice none 0 0] 118) (.cells #[.int .u8 (byteAt s 0), .int .u8 (byteAt s 1), .int .u8 (byteAt s 2), .int .u8 (byteAt s 3)] 102) nq rfl)
  revert HH
  generalize (((w.alloc (.cells #[.int .i64 0, .slice none 0 0] 118)).alloc (.cells #[.int .u8 (byteAt s 0), .int .u8 (byteAt s 1), .int .u8 (byteAt s 2), .int .u8 (byteAt s 3)] 102)).drewN nq) = W
  intro HH
  clear hc4
  go_wp2_with (first | (go_at_call 73; refine (kindOK_any _ _).mono ?_; rintro e w' ⟨rfl, hw⟩; replace hw := hw.symm; subst hw) | (go_at_call 78; refine (demand_true _).mono ?_; rintro e w' ⟨rfl, hw⟩; replace hw := hw.symm; subst hw) | (go_at_call 78; refine (demand_false _ ((unhide HE).below (unhide HH).below)).mono ?_; rintro e w' ⟨⟨u, pv, rfl⟩, hw⟩; replace hw := hw.symm; subst hw))
  exact ⟨rfl, ⟨_, _, rfl⟩, (unhide HH).below⟩

set_option maxHeartbeats 1600000 in
theorem readRecord_sum (s : ByteArray) (w : World) (hs : s.size ≤ 65536) (h4 : 4 ≤ s.size) (hk : kindB (byteAt s 0) = true) (h3 : byteAt s 3 = 0) (hcnt : ((bodyT s).size : Int) = byteAt s 1 * 4) (hsum : byteAt s 2 ≠ sumS (headT s ++ bodyT s)) (hE : ErrW w) : Calls Tryd.prog 95 #[.string s] w fun e w' => (∃ u pv, e = .panicked [{ v := .iface u pv, recovered := false }]) ∧ Below w.heap.size w w' := by
  have HE := hide hE
  clear hE
  have hc4 := copy4_at (w.alloc (.cells #[.int .i64 0, .slice none 0 0] 118)) (w.heap.size + 1) s (by simp) h4
  have h4i : (4 : Int) ≤ (s.size : Int) := by omega
  have b0 := byteAt_in s 0
  have b1 := byteAt_in s 1
  have b2 := byteAt_in s 2
  have HBZ := hide (bodyT_size s)
  have HHZ := hide (headT_size h4)
  have b3 : (byteAt s 3 == 0) = true := by simp [h3]
  have hlen : (((s.size - 4 : Nat) : Int) == byteAt s 1 * 4) = true := by rw [bodyT_size] at hcnt; simp [hcnt]
  have HSM : Hid (sumC (headT s ++ bodyT s) = sumS (headT s ++ bodyT s)) := hide (sumC_short (by rw [ByteArray.size_append, bodyT_size, headT_size h4]; omega))
  have hsb : (byteAt s 2 == sumS (headT s ++ bodyT s)) = false := by simp [hsum]
  clear h3 hcnt hsum
  go_enter Tryd.func95, Tryd.ntmps95
  go_wp2_with (first | (go_at_call 78; refine (demand_true _).mono ?_; rintro e w' ⟨rfl, hw⟩; replace hw := hw.symm; subst hw))
  go_quiet (fail)
  have HH := hide (HeadSt.mk' w (.cells #[.int .i64 0, .slice none 0 0] 118) (.cells #[.int .u8 (byteAt s 0), .int .u8 (byteAt s 1), .int .u8 (byteAt s 2), .int .u8 (byteAt s 3)] 102) nq rfl)
  revert HH
  generalize (((w.alloc (.cells #[.int .i64 0, .slice none 0 0] 118)).alloc (.cells #[.int .u8 (byteAt s 0), .int .u8 (byteAt s 1), .int .u8 (byteAt s 2), .int .u8 (byteAt s 3)] 102)).drewN nq) = W
  intro HH
  clear hc4
  go_wp2_with (first | (go_at_call 73; refine (kindOK_any _ _).mono ?_; rintro e w' ⟨rfl, hw⟩; replace hw := hw.symm; subst hw) | (go_at_call 78; refine (demand_true _).mono ?_; rintro e w' ⟨rfl, hw⟩; replace hw := hw.symm; subst hw) | (go_at_call 75; refine (sum_rec s _ _ hs h4 (unhide HSM)).mono ?_; rintro e w' ⟨rfl, hw⟩; replace hw := hw.symm; subst hw) | (go_at_call 78; refine (demand_false _ ((unhide HE).below (unhide HH).below)).mono ?_; rintro e w' ⟨⟨u, pv, rfl⟩, hw⟩; replace hw := hw.symm; subst hw))
  exact ⟨rfl, ⟨_, _, rfl⟩, (unhide HH).below⟩

set_option maxHeartbeats 1600000 in
theorem readRecord_nums (s : ByteArray) (w : World) (hs : s.size ≤ 65536) (h4 : 4 ≤ s.size) (hk : kindB (byteAt s 0) = true) (h3 : byteAt s 3 = 0) (hcnt : ((bodyT s).size : Int) = byteAt s 1 * 4) (hsum : byteAt s 2 = sumS (headT s ++ bodyT s)) (hok : okU (bodyT s) = false) (hE : ErrW w) : Calls Tryd.prog 95 #[.string s] w fun e w' => (∃ u pv, e = .panicked [{ v := .iface u pv, recovered := false }]) ∧ Below w.heap.size w w' := by
  have HE := hide hE
  clear hE
  have hc4 := copy4_at (w.alloc (.cells #[.int .i64 0, .slice none 0 0] 118)) (w.heap.size + 1) s (by simp) h4
  have h4i : (4 : Int) ≤ (s.size : Int) := by omega
  have b0 := byteAt_in s 0
  have b1 := byteAt_in s 1
  have b2 := byteAt_in s 2
  have HBZ := hide (bodyT_size s)
  have HHZ := hide (headT_size h4)
  have b3 : (byteAt s 3 == 0) = true := by simp [h3]
  have hlen : (((s.size - 4 : Nat) : Int) == byteAt s 1 * 4) = true := by rw [bodyT_size] at hcnt; simp [hcnt]
  have HSM : Hid (sumC (headT s ++ bodyT s) = byteAt s 2) := hide (by rw [hsum]; exact sumC_short (by rw [ByteArray.size_append, bodyT_size, headT_size h4]; omega))
  have HOK := hide hok
  clear h3 hcnt hsum hok
  go_enter Tryd.func95, Tryd.ntmps95
  go_wp2_with (first | (go_at_call 78; refine (demand_true _).mono ?_; rintro e w' ⟨rfl, hw⟩; replace hw := hw.symm; subst hw))
  go_quiet (fail)
  have HH := hide (HeadSt.mk' w (.cells #[.int .i64 0, .slice none 0 0] 118) (.cells #[.int .u8 (byteAt s 0), .int .u8 (byteAt s 1), .int .u8 (byteAt s 2), .int .u8 (byteAt s 3)] 102) nq rfl)
  revert HH
  generalize (((w.alloc (.cells #[.int .i64 0, .slice none 0 0] 118)).alloc (.cells #[.int .u8 (byteAt s 0), .int .u8 (byteAt s 1), .int .u8 (byteAt s 2), .int .u8 (byteAt s 3)] 102)).drewN nq) = W
  intro HH
  clear hc4
  go_wp2_with (first | (go_at_call 73; refine (kindOK_any _ _).mono ?_; rintro e w' ⟨rfl, hw⟩; replace hw := hw.symm; subst hw) | (go_at_call 78; refine (demand_true _).mono ?_; rintro e w' ⟨rfl, hw⟩; replace hw := hw.symm; subst hw) | (go_at_call 75; refine (sum_rec s _ _ hs h4 (unhide HSM)).mono ?_; rintro e w' ⟨rfl, hw⟩; replace hw := hw.symm; subst hw))
  refine (readNumbers_no (bodyT s) _ (unhide HOK) ((unhide HE).below (unhide HH).below)).mono ?_
  rintro e w1 ⟨⟨u, pv, rfl⟩, hb⟩
  have HB := hide (fr (unhide HH).below hb)
  clear hb
  go_wp2
  exact ⟨rfl, ⟨u, pv, rfl⟩, unhide HB⟩

/-- readRecord panics at what is none. -/
theorem readRecord_no (s : ByteArray) (w : World) (hs : s.size ≤ 65536) (hr : ¬ RecP s) (hE : ErrW w) : Calls Tryd.prog 95 #[.string s] w fun e w' => (∃ u pv, e = .panicked [{ v := .iface u pv, recovered := false }]) ∧ Below w.heap.size w w' := by
  by_cases h4 : 4 ≤ s.size
  · cases hk : kindB (byteAt s 0) with
    | false => exact readRecord_kind s w hs h4 hk hE
    | true =>
      by_cases h3 : byteAt s 3 = 0
      · by_cases hcnt : ((bodyT s).size : Int) = byteAt s 1 * 4
        · by_cases hsum : byteAt s 2 = sumS (headT s ++ bodyT s)
          · cases hok : okU (bodyT s) with
            | false => exact readRecord_nums s w hs h4 hk h3 hcnt hsum hok hE
            | true => exact absurd ⟨h4, hk, h3, hcnt, hsum, hok⟩ hr
          · exact readRecord_sum s w hs h4 hk h3 hcnt hsum hE
        · exact readRecord_count s w hs h4 hk h3 hcnt hE
      · exact readRecord_last s w hs h4 hk h3 hE
  · exact readRecord_short s w h4 hE

end Go.Proofs.YtlhinknmbgijeabDoor

/- Contract of impl.readKind. -/
namespace Go.Proofs.YtlhinknmbgijeabDoor
open Go.RowKit
set_option linter.unusedVariables false
set_option maxRecDepth 100000

set_option maxHeartbeats 1600000 in
theorem readKind_yes (s : ByteArray) (k : Int) (w : World) (hs : s.size ≤ 65536) (hr : RecP s) (hk : byteAt s 0 = k) :
    Calls Tryd.prog 77 #[.string s, .int .i64 k] w fun e w' => ∃ v, e = .returned v ∧ OwnN w' w.heap.size v (unL (bodyT s)) ∧ Below w.heap.size w w' := by
  subst hk
  go_enter Tryd.func77, Tryd.ntmps77
  go_wp2_with fail
  refine (readRecord_yes s _ hs hr).mono ?_
  rintro e w1 ⟨v, rfl, ⟨qo, qa, rfl, ho⟩, hb⟩
  have HO := hide (ho.below (Joins.below_alloc1 _ (.cells #[.int .i64 (byteAt s 0), .slice qo (unL (bodyT s)).length qa] 118)))
  have HB := hide (fr hb (Joins.below_alloc1 _ (.cells #[.int .i64 (byteAt s 0), .slice qo (unL (bodyT s)).length qa] 118)))
  clear ho hb
  go_wp2_with (go_at_call 78; refine (demand_true _).mono ?_; rintro e w' ⟨rfl, hw⟩; replace hw := hw.symm; subst hw)
  go_ret
  exact ⟨.slice qo (unL (bodyT s)).length qa, rfl, ⟨qo, qa, rfl, unhide HO⟩, unhide HB⟩

set_option maxHeartbeats 1600000 in
theorem readKind_no (s : ByteArray) (k : Int) (w : World) (hs : s.size ≤ 65536) (hr : ¬ (RecP s ∧ byteAt s 0 = k)) (hE : ErrW w) :
    Calls Tryd.prog 77 #[.string s, .int .i64 k] w fun e w' => (∃ u pv, e = .panicked [{ v := .iface u pv, recovered := false }]) ∧ Below w.heap.size w w' := by
  by_cases hp : RecP s
  · have hkb : (byteAt s 0 == k) = false := by rw [beq_eq_false_iff_ne]; exact fun e => hr ⟨hp, e⟩
    have HE := hide hE
    clear hr hE
    go_enter Tryd.func77, Tryd.ntmps77
    go_wp2_with fail
    refine (readRecord_yes s _ hs hp).mono ?_
    rintro e w1 ⟨v, rfl, ⟨qo, qa, rfl, ho⟩, hb⟩
    have HB := hide (fr hb (Joins.below_alloc1 _ (.cells #[.int .i64 (byteAt s 0), .slice qo (unL (bodyT s)).length qa] 118)))
    clear ho hb
    go_wp2_with (go_at_call 78; refine (demand_false _ ((unhide HE).below (unhide HB))).mono ?_; rintro e w' ⟨⟨u, pv, rfl⟩, hw⟩; replace hw := hw.symm; subst hw)
    exact ⟨rfl, ⟨_, _, rfl⟩, unhide HB⟩
  · go_enter Tryd.func77, Tryd.ntmps77
    go_wp2_with fail
    refine (readRecord_no s _ hs hp hE).mono ?_
    rintro e w1 ⟨⟨u, pv, rfl⟩, hb⟩
    have HB := hide hb
    clear hb
    go_wp2
    exact ⟨rfl, ⟨_, _, rfl⟩, unhide HB⟩

end Go.Proofs.YtlhinknmbgijeabDoor

/- Contracts of impl.readBlock, of the recovering closure of impl.readText at a block. -/
namespace Go.Proofs.YtlhinknmbgijeabDoor
open Go.RowKit
set_option linter.unusedVariables false
set_option maxRecDepth 100000

theorem openB_rec {t : ByteArray} {k : Int} : openB t k = true ↔ RecP t ∧ byteAt t 0 = k := by
  simp only [openB, Bool.and_eq_true, decide_eq_true_eq, recB_iff]
theorem bd_open {t : ByteArray} (h : bdB t = true) : (RecP t ∧ byteAt t 0 = 5) ∧ ∃ a b c d, unL (bodyT t) = [a, b, c, d] ∧ bkB ⟨a, b, c, d⟩ = true ∧ bdK t = ⟨a, b, c, d⟩ := by
  have h' := h
  simp only [bdB, Bool.and_eq_true, decide_eq_true_eq] at h'
  obtain ⟨ho, hl, hd⟩ := h'
  obtain ⟨a, b, c, d, e⟩ := fourK hl
  rw [e] at hd
  refine ⟨openB_rec.1 ho, a, b, c, d, ?_, hd, bd_yes h e⟩
  rw [← e, bdL, openL_yes ho]
theorem bd_shut {t : ByteArray} (h : bdB t = false) (ho : RecP t ∧ byteAt t 0 = 5) (hl : (unL (bodyT t)).length = 4) : ∃ a b c d, unL (bodyT t) = [a, b, c, d] ∧ bkB ⟨a, b, c, d⟩ = false := by
  have ho' := openB_rec.2 ho
  obtain ⟨a, b, c, d, e⟩ := fourK hl
  refine ⟨a, b, c, d, e, ?_⟩
  have e' : bdL t = [a, b, c, d] := by rw [← e, bdL, openL_yes ho']
  rw [← bdB_at ho' e']; exact h

set_option maxHeartbeats 1600000 in
theorem readBlock_yes (t : ByteArray) (w : World) (hs : t.size ≤ 65536) (hd : bdB t = true) :
    Calls Tryd.prog 51 #[.string t] w fun e w' => e = .returned (bV (bdK t)) ∧ Below w.heap.size w w' := by
  obtain ⟨⟨hr, hk⟩, a, b, c, d, hl, hdd, e1⟩ := bd_open hd
  rw [e1]
  have HL := hide hl
  have HDD := hide hdd
  have HR := hide hr
  have HK := hide hk
  clear hl hdd e1 hr hk hd
  have HA := hide (Joins.below_alloc1 w (.cells #[.int .i64 0, .int .i64 0, .int .i64 0, .int .i64 0] 42))
  have HV := hide (VarB.new0 w 42)
  go_enter Tryd.func51, Tryd.ntmps51
  go_wp2_with fail
  refine (readKind_yes t 5 _ hs (unhide HR) (unhide HK)).mono ?_
  rintro e w1 ⟨v, rfl, ⟨qo, qa, rfl, ho⟩, hb⟩
  have HB := hide (fr (unhide HA) hb)
  have HB1 := hide hb
  have hI := ownRN ho
  rw [unhide HL] at hI ⊢
  obtain ⟨g, off, rfl, hi0⟩ := hI 0 (by simp)
  obtain ⟨g', off', he, hi1⟩ := hI 1 (by simp)
  cases he
  obtain ⟨g', off', he, hi2⟩ := hI 2 (by simp)
  cases he
  obtain ⟨g', off', he, hi3⟩ := hI 3 (by simp)
  cases he
  simp only [List.getElem_cons_zero, List.getElem_cons_succ, Nat.add_zero] at hi0 hi1 hi2 hi3
  have hg := World.block_lt_of_cell? _ _ hi0
  clear hI ho hb
  simp only [List.length_cons, List.length_nil, Nat.zero_add, Nat.reduceAdd]
  go_wp2_with (go_at_call 78; refine (demand_true _).mono ?_; rintro e w' ⟨rfl, hw⟩; replace hw := hw.symm; subst hw)
  have HA2 := hide (Joins.below_alloc1 w1 (.cells #[.int .i64 a, .int .i64 b, .int .i64 c, .int .i64 d] 42)).drew
  have HV2 := hide (((unhide HV).below (unhide HB1)).below (unhide HA2))
  have HV3 : Hid (VarB (w1.alloc (.cells #[.int .i64 a, .int .i64 b, .int .i64 c, .int .i64 d] 42)).drew w1.heap.size 42 ⟨a, b, c, d⟩) := hide ((VarB.new w1 42 ⟨a, b, c, d⟩).below (Below.refl _ _).drew)
  have HB2 := hide (fr (unhide HB) (unhide HA2))
  go_region
  go_wp2_with fail
  refine (blockOK_impl ⟨a, b, c, d⟩ _).mono ?_
  rintro e w2 ⟨rfl, hb2⟩
  rw [unhide HDD]
  have HB3 := hide (fr (unhide HB2) hb2)
  obtain ⟨hc0, hc1, hc2, hc3⟩ := ((unhide HV2).below hb2).cells
  obtain ⟨hf0, hf1, hf2, hf3⟩ := ((unhide HV2).below hb2).free
  obtain ⟨hx0, hx1, hx2, hx3⟩ := ((unhide HV3).below hb2).cells
  have HR3 := hide (fun u v x y => below4 (unhide HB3) (Nat.le_refl _) 0 1 2 3 u v x y)
  clear hb2 hi0 hi1 hi2 hi3
  go_wp2_with (go_at_call 78; refine (demand_true _).mono ?_; rintro e w' ⟨rfl, hw⟩; replace hw := hw.symm; subst hw)
  exact bodyPost_ret (v := bV ⟨a, b, c, d⟩) (by simp [results, Tryd.results51, go_sem, hc0, hc1, hc2, hc3]) rfl ⟨rfl, unhide HR3 _ _ _ _⟩

set_option maxHeartbeats 1600000 in
theorem readBlock_no (t : ByteArray) (w : World) (hs : t.size ≤ 65536) (hd : bdB t = false) (hE : ErrW w) :
    Calls Tryd.prog 51 #[.string t] w fun e w' => (∃ u pv, e = .panicked [{ v := .iface u pv, recovered := false }]) ∧ Below w.heap.size w w' := by
  have HA := hide (Joins.below_alloc1 w (.cells #[.int .i64 0, .int .i64 0, .int .i64 0, .int .i64 0] 42))
  have HE := hide (hE.below (unhide HA))
  clear hE
  by_cases hr : RecP t ∧ byteAt t 0 = 5
  · obtain ⟨hr1, hr2⟩ := hr
    by_cases hl : (unL (bodyT t)).length = 4
    · obtain ⟨a, b, c, d, hl, hdd⟩ := bd_shut hd ⟨hr1, hr2⟩ hl
      have HL := hide hl
      have HDD := hide hdd
      have HR := hide hr1
      have HK := hide hr2
      clear hl hdd hr1 hr2 hd
      go_enter Tryd.func51, Tryd.ntmps51
      go_wp2_with fail
      refine (readKind_yes t 5 _ hs (unhide HR) (unhide HK)).mono ?_
      rintro e w1 ⟨v, rfl, ⟨qo, qa, rfl, ho⟩, hb⟩
      have HB := hide (fr (unhide HA) hb)
      have HE1 := hide ((unhide HE).below hb)
      have hI := ownRN ho
      rw [unhide HL] at hI ⊢
      obtain ⟨g, off, rfl, hi0⟩ := hI 0 (by simp)
      obtain ⟨g', off', he, hi1⟩ := hI 1 (by simp)
      cases he
      obtain ⟨g', off', he, hi2⟩ := hI 2 (by simp)
      cases he
      obtain ⟨g', off', he, hi3⟩ := hI 3 (by simp)
      cases he
      simp only [List.getElem_cons_zero, List.getElem_cons_succ, Nat.add_zero] at hi0 hi1 hi2 hi3
      have hg := World.block_lt_of_cell? _ _ hi0
      clear hI ho hb
      simp only [List.length_cons, List.length_nil, Nat.zero_add, Nat.reduceAdd]
      go_wp2_with (go_at_call 78; refine (demand_true _).mono ?_; rintro e w' ⟨rfl, hw⟩; replace hw := hw.symm; subst hw)
      have HA2 := hide (Joins.below_alloc1 w1 (.cells #[.int .i64 a, .int .i64 b, .int .i64 c, .int .i64 d] 42)).drew
      have HV3 : Hid (VarB (w1.alloc (.cells #[.int .i64 a, .int .i64 b, .int .i64 c, .int .i64 d] 42)).drew w1.heap.size 42 ⟨a, b, c, d⟩) := hide ((VarB.new w1 42 ⟨a, b, c, d⟩).below (Below.refl _ _).drew)
      have HB2 := hide (fr (unhide HB) (unhide HA2))
      go_region
      go_wp2_with fail
      refine (blockOK_impl ⟨a, b, c, d⟩ _).mono ?_
      rintro e w2 ⟨rfl, hb2⟩
      rw [unhide HDD]
      have HB3 := hide (fr (unhide HB2) hb2)
      have HE2 := hide (((unhide HE1).below (unhide HA2)).below hb2)
      clear hb2 hi0 hi1 hi2 hi3
      go_wp2_with (go_at_call 78; refine (demand_false _ (unhide HE2)).mono ?_; rintro e w' ⟨⟨u, pv, rfl⟩, hw⟩; replace hw := hw.symm; subst hw)
      exact ⟨rfl, ⟨_, _, rfl⟩, unhide HB3⟩
    · have hl3 : ((((unL (bodyT t)).length : Nat) : Int) == 4) = false := by rw [beq_eq_false_iff_ne]; omega
      have HR := hide hr1
      have HK := hide hr2
      clear hl hr1 hr2 hd
      go_enter Tryd.func51, Tryd.ntmps51
      go_wp2_with fail
      refine (readKind_yes t 5 _ hs (unhide HR) (unhide HK)).mono ?_
      rintro e w1 ⟨v, rfl, ⟨qo, qa, rfl, ho⟩, hb⟩
      have HB := hide (fr (unhide HA) hb)
      have HE1 := hide ((unhide HE).below hb)
      clear ho hb
      go_wp2_with (go_at_call 78; refine (demand_false _ (unhide HE1)).mono ?_; rintro e w' ⟨⟨u, pv, rfl⟩, hw⟩; replace hw := hw.symm; subst hw)
      exact ⟨rfl, ⟨_, _, rfl⟩, unhide HB⟩
  · go_enter Tryd.func51, Tryd.ntmps51
    go_wp2_with fail
    refine (readKind_no t 5 _ hs hr (unhide HE)).mono ?_
    rintro e w1 ⟨⟨u, pv, rfl⟩, hb⟩
    have HB := hide (fr (unhide HA) hb)
    clear hb
    go_wp2
    exact ⟨rfl, ⟨_, _, rfl⟩, unhide HB⟩

theorem catchB_panicking (p : Addr) (x : Int) (u : TypeId) (pv : Value) (older : List PanicEntry) (w : World) (hc : w.cell? p = some (.int .i64 x)) (hz : w.frozen? p = false) :
    CallsD Tryd.prog 83 #[.pointer (some p)] (.panicking ({ v := .iface u pv, recovered := false } :: older)) w fun e u' w' =>
      e = .returned (.tuple #[]) ∧ u' = .panicking ({ v := .iface u pv, recovered := true } :: older) ∧ w' = w.setCell p (.int .i64 3) := by
  refine callsD_of_wpS Tryd.func83 rfl fun c₀ cs hu => ?_
  apply wpS_seq
  apply wpS_region
  simp [wpOpsS, go_sem, recoverD, hu, Tryd.ntmps83, Exit.thenS]
  refine wpS_cond (t := true) (by simp [Act.eval, Array.replicate]) ?_
  simp only [if_true]
  apply wpS_region
  simp [wpOpsS, go_sem, hc, hz, bodyPostS, results, Tryd.results83]

theorem catchB_idle (p : Addr) (w : World) :
    CallsD Tryd.prog 83 #[.pointer (some p)] .returning w fun e u' w' => e = .returned (.tuple #[]) ∧ u' = .returning ∧ w' = w := by
  refine callsD_of_wpS Tryd.func83 rfl fun c₀ cs hu => ?_
  apply wpS_seq
  apply wpS_region
  simp [wpOpsS, go_sem, recoverD, hu, Tryd.ntmps83, Exit.thenS]
  refine wpS_cond (t := false) (by simp [Act.eval, Array.replicate]) ?_
  simp only [Bool.false_eq_true, if_false]
  refine wpS_of_wp (wp_skip ?_)
  cases c₀
  simp_all [bodyPostS, results, Tryd.results83]

end Go.Proofs.YtlhinknmbgijeabDoor

/- Contracts of impl.readText at a block, impl.DecodeBlock. -/
namespace Go.Proofs.YtlhinknmbgijeabDoor
open Go.RowKit
set_option linter.unusedVariables false
set_option maxRecDepth 100000

theorem two_newB {w w1 : World} (hb : Below ((w.alloc (.cells #[.int .i64 0, .int .i64 0, .int .i64 0, .int .i64 0] 42)).alloc (.cells #[.int .i64 0] 3)).heap.size ((w.alloc (.cells #[.int .i64 0, .int .i64 0, .int .i64 0, .int .i64 0] 42)).alloc (.cells #[.int .i64 0] 3)) w1) : VarB w1 w.heap.size 42 bk0 ∧ w1.heap[w.heap.size + 1]? = some (.cells #[.int .i64 0] 3 (0, 0)) := by
  constructor
  · exact ((VarB.new0 w _).below (Joins.below_alloc1 _ _)).below hb
  · rw [hb.block _ (by simp)]
    have := heap_alloc_new (w.alloc (.cells #[.int .i64 0, .int .i64 0, .int .i64 0, .int .i64 0] 42)) (.cells #[.int .i64 0] 3)
    simp only [World.size_alloc] at this
    exact this

set_option maxHeartbeats 1600000 in
theorem readTextB_yes (s : ByteArray) (w : World) (hs : s.size ≤ 65536) (hd : bdB s = true) :
    Calls Tryd.prog 50 #[.string s, .func (.func 51) #[] #[]] w fun e w' => e = .returned (.tuple #[bV (bdK s), .int .i64 0]) ∧ Below w.heap.size w w' := by
  have hmf : ∀ (fn : Fn) (first cap : Array Value) (w : World), (Instr.makeFunc fn first cap).run Tryd.prog w = .ok (.func fn first cap) w := fun _ _ _ _ => rfl
  have HD := hide hd
  clear hd
  go_enter_defers Tryd.func50, Tryd.ntmps50
  go_wp2_with fail
  refine (readBlock_yes s _ hs (unhide HD)).mono ?_
  rintro e w1 ⟨rfl, hb1⟩
  obtain ⟨hv, hblk⟩ := two_newB hb1
  obtain ⟨v0, v1, v2, v3⟩ := hv.cells
  obtain ⟨f0, f1, f2, f3⟩ := hv.free
  have hc0 := Joins.cell_of_block hblk 0
  have hf0 := Joins.unfrozen_of_block hblk 0
  simp only [List.size_toArray, List.length_cons, List.length_nil, Nat.zero_add, Nat.lt_add_one, getElem?_pos, List.getElem_toArray, List.getElem_cons_zero] at hc0
  have HB := hide (fr (Joins.below_alloc2 w _ _) hb1)
  clear hb1 hblk hv
  go_wp2
  refine leaves_cons (f := 83) (args := #[.pointer (some ⟨w.heap.size + 1, 0, none⟩)]) (by simp) (by simp [go_sem]) ?_
  refine (catchB_idle ⟨w.heap.size + 1, 0, none⟩ _).mono ?_
  rintro e u' w'' ⟨rfl, rfl, rfl⟩
  simp [Leaves, settle, results, Tryd.results50, go_sem, v0, v1, v2, v3, hc0, bk0]
  exact (below4 (unhide HB) (Nat.le_refl _) 0 1 2 3 _ _ _ _).setCell (p := ⟨w.heap.size + 1, 0, none⟩) (Nat.le_succ _) _

set_option maxHeartbeats 1600000 in
theorem readTextB_no (s : ByteArray) (w : World) (hs : s.size ≤ 65536) (hd : bdB s = false) (hE : ErrW w) :
    Calls Tryd.prog 50 #[.string s, .func (.func 51) #[] #[]] w fun e w' => e = .returned (.tuple #[bV bk0, .int .i64 3]) ∧ Below w.heap.size w w' := by
  have hmf : ∀ (fn : Fn) (first cap : Array Value) (w : World), (Instr.makeFunc fn first cap).run Tryd.prog w = .ok (.func fn first cap) w := fun _ _ _ _ => rfl
  have HD := hide hd
  have HE := hide (hE.below (Joins.below_alloc2 w (.cells #[.int .i64 0, .int .i64 0, .int .i64 0, .int .i64 0] 42) (.cells #[.int .i64 0] 3)))
  clear hd hE
  go_enter_defers Tryd.func50, Tryd.ntmps50
  go_wp2_with fail
  refine (readBlock_no s _ hs (unhide HD) (unhide HE)).mono ?_
  rintro e w1 ⟨⟨u, pv, rfl⟩, hb1⟩
  obtain ⟨hv, hblk⟩ := two_newB hb1
  obtain ⟨v0, v1, v2, v3⟩ := hv.cells
  have hc0 := Joins.cell_of_block hblk 0
  have hf0 := Joins.unfrozen_of_block hblk 0
  simp only [List.size_toArray, List.length_cons, List.length_nil, Nat.zero_add, Nat.lt_add_one, getElem?_pos, List.getElem_toArray, List.getElem_cons_zero] at hc0
  have HB := hide (fr (Joins.below_alloc2 w _ _) hb1)
  clear hb1 hblk hv
  go_wp2
  refine leaves_cons (f := 83) (args := #[.pointer (some ⟨w.heap.size + 1, 0, none⟩)]) (by simp) (by simp [go_sem]) ?_
  refine (catchB_panicking ⟨w.heap.size + 1, 0, none⟩ 0 u pv [] _ hc0 hf0).mono ?_
  rintro e u' w'' ⟨rfl, rfl, rfl⟩
  simp [Leaves, settle, results, Tryd.results50, go_sem, v0, v1, v2, v3, hc0, bk0]
  exact (unhide HB).setCell (p := ⟨w.heap.size + 1, 0, none⟩) (Nat.le_succ _) _

theorem readTextB_long (s : ByteArray) (w : World) (hs : 65536 < s.size) (f : Value) :
    Calls Tryd.prog 50 #[.string s, f] w fun e w' => e = .returned (.tuple #[bV bk0, .int .i64 2]) ∧ Below w.heap.size w w' := by
  go_enter_defers Tryd.func50, Tryd.ntmps50
  go_wp2
  simp [bodyPostD, Leaves, results, Tryd.results50, go_sem, bk0]
  exact Joins.below_alloc2 _ _ _

set_option maxHeartbeats 1600000 in
theorem decodeBlock_impl (t : ByteArray) (w : World) (hE : ErrW w) : Calls Tryd.prog 18 #[.string t] w fun e w' => e = .returned (.tuple #[bV (bcK t), .int .i64 (bcC t)]) ∧ Below w.heap.size w w' := by
  have hmf : ∀ (fn : Fn) (first cap : Array Value) (w : World), (Instr.makeFunc fn first cap).run Tryd.prog w = .ok (.func fn first cap) w := fun _ _ _ _ => rfl
  have HA := hide (Joins.below_alloc1 w (.cells #[.int .i64 0, .int .i64 0, .int .i64 0, .int .i64 0] 42))
  have HE := hide (hE.below (unhide HA))
  have HV := hide (VarB.new0 w 42)
  clear hE
  obtain ⟨K, HK⟩ : ∃ K : Prop, Hid K := ⟨True, trivial⟩
  have key : ∀ (K1 : Bk) (d : Int), (bcK t = K1 ∧ bcC t = d) → (∀ W, ErrW W → Calls Tryd.prog 50 #[.string t, .func (.func 51) #[] #[]] W fun e w' => e = .returned (.tuple #[bV K1, .int .i64 d]) ∧ Below W.heap.size W w') →
      Calls Tryd.prog 18 #[.string t] w fun e w' => e = .returned (.tuple #[bV (bcK t), .int .i64 (bcC t)]) ∧ Below w.heap.size w w' := by
    intro K1 d hq hc
    have HQ := hide hq
    have HC := hide hc
    clear hq hc
    go_enter Tryd.func18, Tryd.ntmps18
    go_wp2_with fail
    refine (unhide HC _ (unhide HE)).mono ?_
    rintro e w1 ⟨rfl, hb⟩
    have HV1 := hide ((unhide HV).below hb)
    obtain ⟨hc0, hc1, hc2, hc3⟩ := (unhide HV1).cells
    obtain ⟨hf0, hf1, hf2, hf3⟩ := (unhide HV1).free
    have HB := hide (fun u v x y => below4 (fr (unhide HA) hb) (Nat.le_refl _) 0 1 2 3 u v x y)
    clear hb
    go_wp2
    refine bodyPost_ret (v := .tuple #[bV K1, .int .i64 d]) (by simp [results, Tryd.results18, go_sem, hc0, hc1, hc2, hc3]) rfl ⟨?_, unhide HB _ _ _ _⟩
    exact ret_bi (unhide HQ).1.symm (unhide HQ).2.symm
  by_cases h1 : 65536 < t.size
  · exact key _ _ (bc_long h1) (fun W _ => readTextB_long t W h1 _)
  · by_cases hd : bdB t = true
    · exact key _ _ (bc_yes h1 hd) (fun W _ => readTextB_yes t W (by omega) hd)
    · rw [Bool.not_eq_true] at hd
      exact key _ _ (bc_no h1 hd) (fun W hW => readTextB_no t W (by omega) hd hW)

end Go.Proofs.YtlhinknmbgijeabDoor

/- What stays beside a source of choices; contract of spec.l00Source. -/
namespace Go.Proofs.YtlhinknmbgijeabDoor
open Go.RowKit
set_option linter.unusedVariables false
set_option maxRecDepth 100000

theorem keep_cell {S : Nat → Prop} {w w' : World} {a : Addr} {v : Value} (hk : Keep S w w') (ha : ¬ S a.block) (h : w.cell? a = some v) : w'.cell? a = some v := by
  have hl := World.block_lt_of_cell? _ _ h
  rw [← h]
  unfold World.cell?
  simp only [hk.block a.block hl ha]
theorem keep_new {w w1 w2 : World} {b : Nat} {S : Nat → Prop} (h : Keep (fun k => k = b) w w1) (hk : Keep S w1 w2) (hs : ∀ k, S k → w.heap.size ≤ k ∨ k = b) : Keep (fun k => k = b) w w2 :=
  ⟨hk.os.trans h.os, hk.tape.trans h.tape, hk.output.trans h.output, Nat.le_trans h.size hk.size, fun k hl hn => (hk.block k (Nat.lt_of_lt_of_le hl h.size) (fun hS => by
    rcases hs k hS with h1 | h1
    · omega
    · exact hn h1)).trans (h.block k hl hn)⟩
theorem SrcK.other {w w1 w2 : World} {b : Nat} {ao : Option Addr} {n cap m m0 : Nat} {S : Nat → Prop} (h0 : SrcK w b ao n cap m0) (h : SrcK w1 b ao n cap m) (hw : Keep (fun k => k = b) w w2) (hk : Keep S w1 w2) (hs : ¬ S b) : SrcK w2 b ao n cap m := by
  obtain ⟨x0, y0, _, _, _, _, hblk0⟩ := h0.src
  obtain ⟨x, y, c0, c1, c2, c3, c4⟩ := h.src
  refine ⟨⟨x, y, c0, c1, c2, c3, ?_⟩, h0.bytes.keep hblk0 (fun z h => by cases h) hw⟩
  rw [hk.block b (Array.getElem?_eq_some_iff.1 c4).1 hs]; exact c4

theorem source_any (ao : Option Addr) (n cap : Nat) (w : World) (hn : n ≤ 1048576) (hB : Bs w ao n) :
    Calls Tryd.prog 25 #[.slice ao n cap] w fun e w' => e = .returned (.pointer (some ⟨w.heap.size, 0, none⟩)) ∧ SrcK w' w.heap.size ao n cap 0 ∧ Below w.heap.size w w' ∧ w'.heap.size = w.heap.size + 1 := by
  go_enter Tryd.func25, Tryd.ntmps25
  go_wp2
  go_ret
  exact ⟨rfl, ⟨⟨0, (n : Int) % 1000, by omega, by omega, by omega, by omega, heap_alloc_new w _⟩, hB.below (Joins.below_alloc1 _ _)⟩, Joins.below_alloc1 _ _, by simp⟩

theorem keep_drop {w w' : World} {b : Nat} (h : Keep (fun k => k = b ∨ w.heap.size ≤ k) w w') : Keep (fun k => k = b) w w' :=
  ⟨h.os, h.tape, h.output, h.size, fun k hl hn => h.block k hl (fun e => by
    rcases e with e | e
    · exact hn e
    · omega)⟩
theorem blk_keep {S : Nat → Prop} {w w' : World} {k : Nat} {o : Obj} (hk : Keep S w w') (hs : ¬ S k) (h : w.heap[k]? = some o) : w'.heap[k]? = some o := by
  rw [hk.block k (Array.getElem?_eq_some_iff.1 h).1 hs]; exact h
theorem blk_below {w w' : World} {k : Nat} {o : Obj} (hk : Below w.heap.size w w') (h : w.heap[k]? = some o) : w'.heap[k]? = some o := by
  rw [hk.block k (Array.getElem?_eq_some_iff.1 h).1]; exact h
theorem blk_lt {w : World} {k : Nat} {o : Obj} (h : w.heap[k]? = some o) : k < w.heap.size := (Array.getElem?_eq_some_iff.1 h).1

end Go.Proofs.YtlhinknmbgijeabDoor
