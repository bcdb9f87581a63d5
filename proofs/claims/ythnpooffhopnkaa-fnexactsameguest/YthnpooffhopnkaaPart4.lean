import Derived.Test.YthnpooffhopnkaaPart1
import Derived.Test.YthnpooffhopnkaaPart3
import Derived.WalkKit
import Derived.Laws.OwnMore
import Derived.Test.YthnpooffhopnkaaRows
import Derived.WalkSpells
import Derived.BigQuiet
import Derived.Deep.QuietTactic
import Derived.Deep.RegionWith
import Derived.KernelRfl
import Derived.LoopN
import Derived.Deep.CutRange

/- Images that are owned: their rows of numbers lie apart from each other. (Made ahead of stage 10.) -/
namespace Go.Proofs.Ythnpooffhopnkaa
open Go.RowKit
set_option linter.unusedVariables false
set_option maxRecDepth 100000

/-- Rows of numbers of the call's own, none of which lies in another's block. -/
structure OwnA (w : World) (B : Nat) (rs : List (Value × List Int)) : Prop where
  own : ∀ r ∈ rs, OwnN w B r.1 r.2
  apart : rs.Pairwise (fun a b => ∀ g, Own a.1 g → ¬ Own b.1 g)
theorem OwnN.ge {w : World} {B : Nat} {v : Value} {xs : List Int} (h : OwnN w B v xs) : ∀ k, Own v k → B ≤ k ∧ k < w.heap.size := by
  obtain ⟨ao, cap, rfl, ho⟩ := h
  exact ho.ge
theorem OwnN.keep {S : Nat → Prop} {w w' : World} {B : Nat} {v : Value} {xs : List Int} (h : OwnN w B v xs) (hk : Keep S w w') (hs : ∀ g, Own v g → ¬ S g) : OwnN w' B v xs := by
  obtain ⟨ao, cap, rfl, ho⟩ := h
  exact ⟨ao, cap, rfl, ho.keep hk hs⟩
theorem OwnA.below {w w' : World} {B : Nat} {rs : List (Value × List Int)} (h : OwnA w B rs) (hb : Below w.heap.size w w') : OwnA w' B rs := ⟨fun r hr => (h.own r hr).below hb, h.apart⟩
theorem OwnA.keep {S : Nat → Prop} {w w' : World} {B : Nat} {rs : List (Value × List Int)} (h : OwnA w B rs) (hk : Keep S w w') (hs : ∀ r ∈ rs, ∀ g, Own r.1 g → ¬ S g) : OwnA w' B rs := ⟨fun r hr => (h.own r hr).keep hk (hs r hr), h.apart⟩
theorem OwnA.base {w : World} {B B' : Nat} {rs : List (Value × List Int)} (h : OwnA w B rs) (hB : B' ≤ B) : OwnA w B' rs := ⟨fun r hr => (h.own r hr).base hB, h.apart⟩
theorem OwnA.nil (w : World) (B : Nat) : OwnA w B [] := ⟨fun _ h => (by cases h), List.Pairwise.nil⟩
/-- A row that was made later lies apart from all. -/
theorem OwnA.snoc {w w' : World} {B : Nat} {rs : List (Value × List Int)} {v : Value} {xs : List Int} (h : OwnA w B rs) (hb : Below w.heap.size w w') (hv : OwnN w' w.heap.size v xs) (hB : B ≤ w.heap.size) : OwnA w' B (rs ++ [(v, xs)]) := by
  refine ⟨fun r hr => ?_, ?_⟩
  · rcases List.mem_append.1 hr with h1 | h1
    · exact (h.own r h1).below hb
    · rw [List.mem_singleton] at h1
      subst h1
      exact hv.base hB
  · rw [List.pairwise_append]
    refine ⟨h.apart, List.pairwise_singleton _ _, fun a ha b hb' g hg hg' => ?_⟩
    rw [List.mem_singleton] at hb'
    subst hb'
    have h1 := ((h.own a ha).ge g hg).2
    have h2 := (hv.ge g hg').1
    omega
/-- The cells of a row of snapshots, its tables' slices given. -/
def snC : List Snp → List Value → List Value
  | s :: ss, t :: ts => .string s.name :: t :: snC ss ts
  | _, _ => []
theorem snC_length : ∀ (ss : List Snp) (ts : List Value), ss.length = ts.length → (snC ss ts).length = ss.length * 2
  | [], [], _ => rfl
  | s :: ss, t :: ts, h => by
    have := snC_length ss ts (by simpa using h)
    simp only [snC, List.length_cons, this]; omega
theorem snC_snoc : ∀ (ss : List Snp) (ts : List Value) (s : Snp) (t : Value), ss.length = ts.length → snC (ss ++ [s]) (ts ++ [t]) = snC ss ts ++ [.string s.name, t]
  | [], [], s, t, _ => rfl
  | a :: ss, b :: ts, s, t, h => by
    have := snC_snoc ss ts s t (by simpa using h)
    simp only [List.cons_append, snC, this]
/-- Its rows. -/
def imRows (a : Im4) (m : Img) (ts : List Value) : List (Value × List Int) := (.slice a.ro m.refs.length a.rc, m.refs) :: (.slice a.tq m.table.length a.tc, m.table) :: (.slice a.dq m.data.length a.dc, m.data) :: ts.zip (m.snaps.map (·.table))
/-- A row as OwnR's, but that one of no element may have room. -/
def OwnS (w : World) (B e size : Nat) (v : Value) (n : Nat) (xs : List Value) : Prop := (n = 0 ∧ xs = [] ∧ ∃ ao c, v = .slice ao 0 c) ∨ (0 < n ∧ w.ownsRow B e size v n xs)
theorem OwnR.toS {w : World} {B e size n : Nat} {v : Value} {xs : List Value} (h : OwnR w B e size v n xs) : OwnS w B e size v n xs := h.imp (fun ⟨h1, h2, ao, h3⟩ => ⟨h1, h2, ao, 0, h3⟩) id
theorem OwnS.toR {w : World} {B e size n c : Nat} {ao : Option Addr} {xs : List Value} (h : OwnS w B e size (.slice ao n c) n xs) (hc : n = 0 → c = 0) : OwnR w B e size (.slice ao n c) n xs := h.imp (fun ⟨h1, h2, _⟩ => ⟨h1, h2, ao, by rw [h1, hc h1]⟩) id
/-- What holds of OwnR's rows, whatever room one of no element has. -/
theorem OwnS.as {w : World} {B e size n : Nat} {v : Value} {xs : List Value} (h : OwnS w B e size v n xs) : ∃ v', OwnR w B e size v' n xs ∧ (∀ k, Own v k ↔ Own v' k) := by
  rcases h with ⟨h1, h2, ao, c, rfl⟩ | h
  · exact ⟨.slice ao 0 0, .inl ⟨h1, h2, ao, rfl⟩, fun k => ⟨fun hk => absurd hk own_no, fun hk => absurd hk own_no⟩⟩
  · exact ⟨v, .inr h, fun _ => Iff.rfl⟩
theorem OwnS.keep {S : Nat → Prop} {w w' : World} {B e size n : Nat} {v : Value} {xs : List Value} (h : OwnS w B e size v n xs) (hk : Keep S w w') (hs : ∀ g, Own v g → ¬ S g) : OwnS w' B e size v n xs := by
  rcases h with h | h
  · exact .inl h
  · exact (OwnR.keep (.inr h) hk hs).toS
theorem OwnS.below {w w' : World} {B e size n : Nat} {v : Value} {xs : List Value} (h : OwnS w B e size v n xs) (hb : Below w.heap.size w w') : OwnS w' B e size v n xs :=
  h.keep (S := fun _ => False) (Keep.of_below hb) (fun _ _ h => h)
theorem OwnS.base {w : World} {B B' e size n : Nat} {v : Value} {xs : List Value} (h : OwnS w B e size v n xs) (hB : B' ≤ B) : OwnS w B' e size v n xs := by
  rcases h with h | h
  · exact .inl h
  · exact (OwnR.base (.inr h) hB).toS
theorem OwnS.ge {w : World} {B e size n : Nat} {v : Value} {xs : List Value} (h : OwnS w B e size v n xs) : ∀ k, Own v k → B ≤ k ∧ k < w.heap.size := fun k hk => by
  obtain ⟨v', h1, h2⟩ := h.as
  exact h1.ge k ((h2 k).1 hk)
theorem OwnS.other {w : World} {B e size n : Nat} {v : Value} {xs : List Value} (h : OwnS w B e size v n xs) {x t : Nat} {c : Array Value} {f : Nat × Nat} (hx : w.heap[x]? = some (.cells c t f)) (he : t ≠ e) : ¬ Own v x := fun hk => by
  obtain ⟨v', h1, h2⟩ := h.as
  exact h1.other hx he ((h2 x).1 hk)
theorem OwnS.setCell {w : World} {B e size n : Nat} {v : Value} {xs : List Value} (h : OwnS w B e size v n xs) {a : Addr} (ha : a.block < B) (u : Value) : OwnS (w.setCell a u) B e size v n xs := by
  rcases h with h | h
  · exact .inl h
  · exact (OwnR.setCell (.inr h) ha u).toS
theorem OwnS.row {w : World} {B e size n : Nat} {v : Value} {xs : List Value} (h : OwnS w B e size v n xs) (h0 : 0 < n) : w.ownsRow B e size v n xs := by
  rcases h with ⟨h1, _⟩ | h
  · omega
  · exact h.2
theorem own_apartS {w : World} {B B' e e' size size' n n' : Nat} {v v' : Value} {xs xs' : List Value} (h : OwnR w B e size v n xs) (h' : OwnS w B' e' size' v' n' xs') (he : e ≠ e') : ∀ g, Own v g → ¬ Own v' g := fun g hg hg' => by
  obtain ⟨v2, h1, h2⟩ := h'.as
  exact own_apart h h1 he g hg ((h2 g).1 hg')
theorem own_apartT {w : World} {B B' e e' size size' n n' : Nat} {v v' : Value} {xs xs' : List Value} (h : OwnS w B e size v n xs) (h' : OwnR w B' e' size' v' n' xs') (he : e ≠ e') : ∀ g, Own v g → ¬ Own v' g := fun g hg hg' => by
  obtain ⟨v2, h1, h2⟩ := h.as
  exact own_apart h1 h' he g ((h2 g).1 hg) hg'
/-- An image of the call's own. -/
structure OwnIm (w : World) (B : Nat) (a : Im4) (m : Img) (ts : List Value) : Prop where
  len : m.snaps.length = ts.length
  s : OwnS w B 83 2 (.slice a.so m.snaps.length a.sc) m.snaps.length (snC m.snaps ts)
  rows : OwnA w B (imRows a m ts)
/-- .. whose row of snapshots has no room where it has no element. -/
def OwnF (w : World) (B : Nat) (a : Im4) (m : Img) (ts : List Value) : Prop := OwnIm w B a m ts ∧ (m.snaps.length = 0 → a.sc = 0)
theorem OwnR.cap0 {w : World} {B e size n c : Nat} {ao : Option Addr} {xs : List Value} (h : OwnR w B e size (.slice ao n c) n xs) (h0 : n = 0) : c = 0 := by
  rcases h with ⟨_, _, ao', e0⟩ | ⟨hp, _⟩
  · simp only [Value.slice.injEq] at e0
    exact e0.2.2
  · omega
theorem OwnIm.below {w w' : World} {B : Nat} {a : Im4} {m : Img} {ts : List Value} (h : OwnIm w B a m ts) (hb : Below w.heap.size w w') : OwnIm w' B a m ts := ⟨h.len, h.s.below hb, h.rows.below hb⟩

end Go.Proofs.Ythnpooffhopnkaa

/- Contract of the laws' comparison of lists of numbers (eqIntS). -/
namespace Go.Proofs.Ythnpooffhopnkaa
open Go.RowKit
set_option linter.unusedVariables false
set_option maxRecDepth 100000

set_option maxHeartbeats 800000 in
theorem eqIntS_any (ao bo : Option Addr) (ca cb : Nat) (ss tt : List Int) (w : World) (hl : ss.length ≤ maxLen) (hc : Is w ao ss) (hd : Is w bo tt) :
    Calls Try.prog 40 #[.slice ao ss.length ca, .slice bo tt.length cb] w fun e w' => e = .returned (.bool (eqNB ss tt)) ∧ Below w.heap.size w w' := by
  have HC := hide hc
  have HD := hide hd
  clear hc hd
  unfold maxLen at hl
  by_cases hle : ss.length = tt.length
  · have hb : ((ss.length : Int) != (tt.length : Int)) = false := by simp [hle]
    have HLE := hide hle
    clear hle
    go_enter Try.func40, Try.ntmps40
    go_wp2
    go_loopw [5] (fun i wr => ∃ k : Nat, k ≤ ss.length ∧ i = .int .i64 k ∧ Hid (∀ j (h : j < ss.length) (h' : j < tt.length), j < k → ss[j] = tt[j]) ∧ Hid (Below w.heap.size w wr)) (fun i _ => ss.length - (intOf i).toNat)
    case atStart => exact ⟨0, Nat.zero_le _, rfl, hide (fun j _ _ h => by omega), hide (Below.refl _ _)⟩
    case round =>
      obtain ⟨k, hk, rfl, HA, HB⟩ := hrel
      by_cases hlt : k < ss.length
      · have hlt' : k < tt.length := by rw [← unhide HLE]; exact hlt
        obtain ⟨b, off, rfl, hc⟩ := (unhide HC).below (unhide HB) k hlt
        obtain ⟨b', off', rfl, hc'⟩ := (unhide HD).below (unhide HB) k hlt'
        by_cases he : ss[k] = tt[k]
        · have HN := hide (eq_succ hlt hlt' (unhide HA) he)
          have be : (ss[k] != tt[k]) = false := by simp [he]
          clear he
          go_wp2
          go_quiet (fail)
          go_wp2
          go_roundw
          case rel => exact ⟨k + 1, by omega, by go_num, HN, hide ((unhide HB).trans (Joins.below_draws _ _ _))⟩
          case measure => simp [intOf]; omega
        · have H := hide (eqNB_false hlt hlt' he)
          have be : (ss[k] != tt[k]) = true := by simp [he]
          clear he
          go_wp2
          go_quiet (fail)
          go_wp2
          go_ret
          exact ⟨ret_bool (unhide H).symm, (unhide HB).trans (Joins.below_draws _ _ _)⟩
      · have H := hide (eqNB_true (unhide HLE) (fun j h h' => unhide HA j h h' (by omega)))
        go_wp2
        go_ret
        exact ⟨ret_bool (unhide H).symm, unhide HB⟩
  · have hb : ((ss.length : Int) != (tt.length : Int)) = true := by simp; omega
    have H := hide (eqNB_false_len hle)
    clear hle
    go_enter Try.func40, Try.ntmps40
    go_wp2
    go_ret
    exact ⟨ret_bool (unhide H).symm, Below.refl _ _⟩

end Go.Proofs.Ythnpooffhopnkaa

/- Contract of the laws' own copies of lists of numbers (toIntS). -/
namespace Go.Proofs.Ythnpooffhopnkaa
open Go.RowKit
set_option linter.unusedVariables false
set_option maxRecDepth 100000

theorem infoN : (Try.prog.info? 3).map (fun i => (i.zero, i.size, i.bytes)) = some (some (.int .i64 0), 1, 8) := by kernel_rfl

set_option maxHeartbeats 800000 in
theorem toIntS_any (ao : Option Addr) (cap : Nat) (ss : List Int) (w : World) (hl : ss.length ≤ 1048576) (hc : Is w ao ss) :
    Calls Try.prog 36 #[.slice ao ss.length cap] w fun e w' => ∃ g, e = .returned (.slice (some ⟨g, 0, none⟩) ss.length ss.length) ∧ w'.ownsRow w.heap.size 3 1 (.slice (some ⟨g, 0, none⟩) ss.length ss.length) ss.length (intV ss) ∧ Below w.heap.size w w' := by
  have HC := hide hc
  clear hc
  obtain ⟨i0, hi, hz0, hz1, hz2⟩ := info_parts infoN
  go_enter Try.func36, Try.ntmps36
  go_wp2_with (first | (at_make; refine wpList_make_full _ rfl _ _ 22 rfl w.heap.size 3 i0 _ 1 Try.underlying22 hi hz0 hz1 _ _ _ _ ss.length rfl rfl rfl rfl ?c1 ?c2 ?c3 ?_))
  case c1 => rw [hz2]; omega
  case c2 => unfold maxLen; omega
  case c3 => exact Nat.le_refl _
  intro w1 hown hgrow
  have hB : Below w.heap.size w w1 := (Below.refl _ _).grown hgrow (Nat.le_refl _) (fun _ h => by cases h)
  have HO := hide hown
  have HB := hide hB
  clear hown hB hgrow
  go_wp2
  go_loopw [4] (fun i wr => ∃ (k : Nat) (xs : List Value), k ≤ ss.length ∧ i = .int .i64 k ∧ Hid (xs.length = ss.length) ∧ Hid (xs.take k = (intV ss).take k) ∧ Hid (wr.ownsRow w.heap.size 3 1 (.slice (some ⟨w.heap.size, 0, none⟩) ss.length ss.length) ss.length xs) ∧ Hid (Below w.heap.size w wr)) (fun i _ => ss.length - (intOf i).toNat)
  case atStart => exact ⟨0, _, Nat.zero_le _, rfl, hide (by rw [(unhide HO).1]; omega), hide (by simp), HO, HB⟩
  case round =>
    obtain ⟨k, xs, hk, rfl, HL, HT, HO, HB⟩ := hrel
    by_cases hlt : k < ss.length
    · obtain ⟨b, off, rfl, hc⟩ := (unhide HC).below (unhide HB) k hlt
      have hfr := (unhide HO).frozenAt k
      obtain ⟨x0, hcx⟩ : ∃ x, wr.cell? ⟨w.heap.size, k, none⟩ = some x := ⟨_, ((unhide HO).cellAt k (by omega)).trans (List.getElem?_eq_getElem (by rw [unhide HL]; exact hlt))⟩
      have HST := hide ((unhide HO).stored k (.int .i64 ss[k]))
      go_wp2
      go_roundw
      case rel =>
        refine ⟨k + 1, xs.set k (.int .i64 ss[k]), by omega, by go_num, hide (by rw [List.length_set]; exact unhide HL), hide ?_, hide (unhide HST).1, hide ?_⟩
        · exact set_take' (by rw [unhide HL, intV_length]) (intV_get hlt) (unhide HT)
        · exact (unhide HB).grown (unhide HST).2 (unhide HB).size (fun k h => by cases h; exact Nat.le_refl _)
      case measure => simp [intOf]; omega
    · go_wp2
      go_ret
      have hkn : k = ss.length := by omega
      subst hkn
      have hxs : xs = intV ss := by
        have := unhide HT
        rwa [List.take_of_length_le (by rw [unhide HL]; exact Nat.le_refl _), List.take_of_length_le (by simp [intV])] at this
      subst hxs
      exact ⟨_, rfl, unhide HO, unhide HB⟩

end Go.Proofs.Ythnpooffhopnkaa

/- Contracts of the laws' own copies of images: toSnap. (Made ahead of stage 10.) -/
namespace Go.Proofs.Ythnpooffhopnkaa
open Go.RowKit
set_option linter.unusedVariables false
set_option maxRecDepth 100000

set_option maxHeartbeats 1600000 in
theorem toSnap_any (s : Snp) (tq : Option Addr) (tc : Nat) (w : World) (hl : s.table.length ≤ 1048576) (hc : Is w tq s.table) :
    Calls Try.prog 84 #[snV s tq tc] w fun e w' => ∃ g, e = .returned (snV s (some ⟨g, 0, none⟩) s.table.length) ∧ OwnN w' w.heap.size (.slice (some ⟨g, 0, none⟩) s.table.length s.table.length) s.table ∧ Below w.heap.size w w' := by
  have HA := hide (Joins.below_alloc3 w (.cells #[.string s.name, .slice tq s.table.length tc] 107) (.cells #[.string ⟨#[]⟩, .slice none 0 0] 83) (.cells #[.string s.name, .slice none 0 0] 83))
  have HC := hide (hc.below (unhide HA))
  clear hc
  go_enter Try.func84, Try.ntmps84
  go_wp2_with fail
  refine (toIntS_any tq tc s.table _ hl (unhide HC)).mono ?_
  rintro e w1 ⟨g, rfl, ho1, hb1⟩
  have hz1 : w.heap.size + 1 + 1 < w1.heap.size := by have := hb1.size; simp at this; omega
  have hc1 : w1.cell? ⟨w.heap.size + 1 + 1, 0, none⟩ = some (.string s.name) := (hb1.cell (by simp)).trans (by simp [go_sem])
  have hc2 : w1.cell? ⟨w.heap.size + 1 + 1, 1, none⟩ = some (.slice none 0 0) := (hb1.cell (by simp)).trans (by simp [go_sem])
  have hc3 : w1.cell? ⟨w.heap.size + 1, 0, none⟩ = some (.string ⟨#[]⟩) := (hb1.cell (by simp)).trans (by simp [go_sem])
  have hc4 : w1.cell? ⟨w.heap.size + 1, 1, none⟩ = some (.slice none 0 0) := (hb1.cell (by simp)).trans (by simp [go_sem])
  have hf0 : w1.frozen? ⟨w.heap.size + 1 + 1, 0, none⟩ = false := (hb1.frozen (by simp)).trans (by simp [go_sem])
  have hf1 : w1.frozen? ⟨w.heap.size + 1 + 1, 1, none⟩ = false := (hb1.frozen (by simp)).trans (by simp [go_sem])
  have hf2 : w1.frozen? ⟨w.heap.size + 1, 0, none⟩ = false := (hb1.frozen (by simp)).trans (by simp [go_sem])
  have hf3 : w1.frozen? ⟨w.heap.size + 1, 1, none⟩ = false := (hb1.frozen (by simp)).trans (by simp [go_sem])
  have HO1 := hide (OwnR.of ho1 (fun e => ⟨_, by rw [e]⟩))
  have HB1 := hide (fr (unhide HA) hb1)
  clear ho1 hb1
  have HO2 := hide ((((unhide HO1).setCell (a := ⟨w.heap.size + 1 + 1, 1, none⟩) (by simp) (.slice (some ⟨g, 0, none⟩) s.table.length s.table.length)).setCell (a := ⟨w.heap.size + 1, 0, none⟩) (by simp) (.string s.name)).setCell (a := ⟨w.heap.size + 1, 1, none⟩) (by simp) (.slice (some ⟨g, 0, none⟩) s.table.length s.table.length))
  have HB2 := hide ((((unhide HB1).setCell (p := ⟨w.heap.size + 1 + 1, 1, none⟩) (by simp; omega) (.slice (some ⟨g, 0, none⟩) s.table.length s.table.length)).setCell (p := ⟨w.heap.size + 1, 0, none⟩) (by simp) (.string s.name)).setCell (p := ⟨w.heap.size + 1, 1, none⟩) (by simp) (.slice (some ⟨g, 0, none⟩) s.table.length s.table.length))
  go_wp2
  refine bodyPost_ret (v := snV s (some ⟨g, 0, none⟩) s.table.length) (by simp [results, Try.results84, go_sem, hc3, hc4]) rfl ⟨g, rfl, ?_, unhide HB2⟩
  exact ⟨some ⟨g, 0, none⟩, s.table.length, rfl, (unhide HO2).base (by simp; omega)⟩

end Go.Proofs.Ythnpooffhopnkaa

/- Contracts of the laws' own copies of images: toSnapS. (Made ahead of stage 10.) -/
namespace Go.Proofs.Ythnpooffhopnkaa
open Go.RowKit
set_option linter.unusedVariables false
set_option maxRecDepth 100000

theorem infoSn : (Try.prog.info? 83).map (fun i => (i.zero, i.size, i.bytes)) = some (some (.agg #[.string ⟨#[]⟩, .slice none 0 0]), 2, 40) := by kernel_rfl
theorem sn_put2 {w : World} {B e size g n cap : Nat} {xs : List Value} (h : w.ownsRow B e size (.slice (some ⟨g, 0, none⟩) n cap) n xs) (i j : Nat) (u v : Value) :
    ((w.setCell ⟨g, i, none⟩ u).setCell ⟨g, j, none⟩ v).ownsRow B e size (.slice (some ⟨g, 0, none⟩) n cap) n ((xs.set i u).set j v) :=
  ((h.stored i u).1.stored j v).1
theorem sn_below2 {w0 w : World} {B g : Nat} (h : Below B w0 w) (hg : B ≤ g) (i j : Nat) (u v : Value) : Below B w0 ((w.setCell ⟨g, i, none⟩ u).setCell ⟨g, j, none⟩ v) :=
  (h.setCell (p := ⟨g, i, none⟩) hg u).setCell (p := ⟨g, j, none⟩) hg v
theorem OwnA.setCell {w : World} {B : Nat} {rs : List (Value × List Int)} (h : OwnA w B rs) {a : Addr} (ha : a.block < B) (u : Value) : OwnA (w.setCell a u) B rs := ⟨fun r hr => (h.own r hr).setCell ha u, h.apart⟩
theorem sn_take {ys : List Value} {ss : List Snp} {ts : List Value} {k : Nat} (hk : k < ss.length) (hl : ys.length = ss.length * 2) (ht : ts.length = k) (h : ys.take (k * 2) = snC (ss.take k) ts) (v : Value) :
    ((ys.set (k * 2) (.string ss[k].name)).set (k * 2 + 1) v).take ((k + 1) * 2) = snC (ss.take (k + 1)) (ts ++ [v]) := by
  rw [List.take_succ_eq_append_getElem hk, snC_snoc _ _ _ _ (by rw [List.length_take, ht]; omega), ← h]
  rw [show (k + 1) * 2 = k * 2 + 1 + 1 by omega, List.take_succ_eq_append_getElem (by rw [List.length_set, List.length_set]; omega), List.getElem_set_self, List.take_set_of_le (Nat.le_refl _), List.take_succ_eq_append_getElem (by rw [List.length_set]; omega), List.getElem_set_self, List.take_set_of_le (Nat.le_refl _), List.append_assoc]
  rfl
theorem sn_zip {ss : List Snp} {ts : List Value} {k : Nat} (hk : k < ss.length) (ht : ts.length = k) (v : Value) :
    (ts ++ [v]).zip ((ss.take (k + 1)).map (·.table)) = ts.zip ((ss.take k).map (·.table)) ++ [(v, ss[k].table)] := by
  rw [List.take_succ_eq_append_getElem hk, List.map_append, List.zip_append (by rw [List.length_map, List.length_take, ht]; omega)]
  rfl

set_option maxHeartbeats 1600000 in
theorem toSnapS_any (ao : Option Addr) (cap : Nat) (ss : List Snp) (w : World) (hl : ss.length ≤ 1048576) (hm : ∀ s ∈ ss, s.table.length ≤ 1048576) (hc : Sns w ao ss) :
    Calls Try.prog 51 #[.slice ao ss.length cap] w fun e w' => ∃ g ts, e = .returned (.slice (some ⟨g, 0, none⟩) ss.length ss.length) ∧ ts.length = ss.length ∧ w'.ownsRow w.heap.size 83 2 (.slice (some ⟨g, 0, none⟩) ss.length ss.length) ss.length (snC ss ts) ∧ OwnA w' w.heap.size (ts.zip (ss.map (·.table))) ∧ Below w.heap.size w w' := by
  have HC := hide hc
  have HM := hide hm
  clear hc hm
  obtain ⟨i0, hi, hz0, hz1, hz2⟩ := info_parts infoSn
  go_enter Try.func51, Try.ntmps51
  go_wp2_with (first | (at_make; refine wpList_make_full _ rfl _ _ 43 rfl w.heap.size 83 i0 _ 2 Try.underlying43 hi hz0 hz1 _ _ _ _ ss.length rfl rfl rfl rfl ?c1 ?c2 ?c3 ?_))
  case c1 => rw [hz2]; omega
  case c2 => unfold maxLen; omega
  case c3 => exact Nat.le_refl _
  intro w1 hown hgrow
  have hB : Below w.heap.size w w1 := (Below.refl _ _).grown hgrow (Nat.le_refl _) (fun _ h => by cases h)
  have hsz : w.heap.size + 1 ≤ w1.heap.size := by
    rcases hown.2 with ⟨h, _⟩ | ⟨g, cap, cur, h, _, hg, _⟩
    · cases h
    · cases h
      exact (Array.getElem?_eq_some_iff.1 hg).1
  have HO := hide hown
  have HB := hide hB
  have HZ := hide hsz
  clear hown hB hgrow hsz
  go_wp2
  go_loopw [4] (fun i wr => ∃ (k : Nat) (ys ts : List Value), k ≤ ss.length ∧ i = .int .i64 k ∧ Hid (ys.length = ss.length * 2) ∧ Hid (ts.length = k) ∧ Hid (ys.take (k * 2) = snC (ss.take k) ts) ∧ Hid (wr.ownsRow w.heap.size 83 2 (.slice (some ⟨w.heap.size, 0, none⟩) ss.length ss.length) ss.length ys) ∧ Hid (OwnA wr (w.heap.size + 1) (ts.zip ((ss.take k).map (·.table)))) ∧ Hid (w.heap.size + 1 ≤ wr.heap.size) ∧ Hid (Below w.heap.size w wr)) (fun i _ => ss.length - (intOf i).toNat)
  case atStart => exact ⟨0, _, [], Nat.zero_le _, rfl, hide (by rw [(unhide HO).1]), hide rfl, hide (by simp [snC]), HO, hide (OwnA.nil _ _), HZ, HB⟩
  case round =>
    obtain ⟨k, ys, ts, hk, rfl, HL, HK, HT, HO, HA, HZ, HB⟩ := hrel
    by_cases hlt : k < ss.length
    · obtain ⟨b, off, tq, tc, rfl, hc0, hc1, hd, hz, hm⟩ := (unhide HC).below (unhide HB) k hlt
      have HD := hide hd
      clear hz hm hd
      go_wp2_with fail
      refine (toSnap_any ss[k] tq tc _ (unhide HM _ (List.getElem_mem hlt)) (unhide HD)).mono ?_
      rintro e w2 ⟨g, rfl, ho2, hb2⟩
      have HO2 := hide (own_below (unhide HO) hb2)
      have HA2 := hide ((unhide HA).snoc hb2 ho2 (unhide HZ))
      have HZ2 := hide (Nat.le_trans (unhide HZ) hb2.size)
      have HB2 := hide ((unhide HB).trans (hb2.mono (unhide HB).size))
      clear hb2 ho2
      have hf0 := (unhide HO2).frozenAt (k * 2)
      have hf1 := (unhide HO2).frozenAt (k * 2 + 1)
      obtain ⟨x0, hx0⟩ : ∃ x, w2.cell? ⟨w.heap.size, k * 2, none⟩ = some x := ⟨_, ((unhide HO2).cellAt (k * 2) (by omega)).trans (List.getElem?_eq_getElem (by rw [unhide HL]; omega))⟩
      obtain ⟨x1, hx1⟩ : ∃ x, w2.cell? ⟨w.heap.size, k * 2 + 1, none⟩ = some x := ⟨_, ((unhide HO2).cellAt (k * 2 + 1) (by omega)).trans (List.getElem?_eq_getElem (by rw [unhide HL]; omega))⟩
      have HST := hide (sn_put2 (unhide HO2) (k * 2) (k * 2 + 1) (.string ss[k].name) (.slice (some ⟨g, 0, none⟩) ss[k].table.length ss[k].table.length))
      have HBT := hide (sn_below2 (unhide HB2) (Nat.le_refl _) (k * 2) (k * 2 + 1) (.string ss[k].name) (.slice (some ⟨g, 0, none⟩) ss[k].table.length ss[k].table.length))
      have HAT := hide (((unhide HA2).setCell (a := ⟨w.heap.size, k * 2, none⟩) (Nat.lt_succ_self _) (.string ss[k].name)).setCell (a := ⟨w.heap.size, k * 2 + 1, none⟩) (Nat.lt_succ_self _) (.slice (some ⟨g, 0, none⟩) ss[k].table.length ss[k].table.length))
      rw [← sn_zip hlt (unhide HK)] at HAT
      go_wp2
      go_roundw
      case rel => exact ⟨k + 1, _, ts ++ [.slice (some ⟨g, 0, none⟩) ss[k].table.length ss[k].table.length], by omega, by go_num, hide (by rw [List.length_set, List.length_set]; exact unhide HL), hide (by rw [List.length_append, unhide HK]; rfl), hide (sn_take hlt (unhide HL) (unhide HK) (unhide HT) _), HST, HAT, hide (by simpa using unhide HZ2), HBT⟩
      case measure => simp [intOf]; omega
    · go_wp2
      go_ret
      have hkn : k = ss.length := by omega
      subst hkn
      have hxs : ys = snC ss ts := by
        have := unhide HT
        rwa [List.take_of_length_le (by rw [unhide HL]; exact Nat.le_refl _), List.take_of_length_le (Nat.le_refl _)] at this
      subst hxs
      have ha := unhide HA
      rw [List.take_of_length_le (Nat.le_refl _)] at ha
      exact ⟨_, ts, rfl, unhide HK, unhide HO, ha.base (Nat.le_succ _), unhide HB⟩

end Go.Proofs.Ythnpooffhopnkaa

/- Contracts of the laws' own copies of images: toImage. (Made ahead of stage 10.) -/
namespace Go.Proofs.Ythnpooffhopnkaa
open Go.RowKit
set_option linter.unusedVariables false
set_option maxRecDepth 100000

/-- Rows that were made later lie apart from all. -/
theorem OwnA.append {w w' : World} {B : Nat} {rs qs : List (Value × List Int)} (h : OwnA w B rs) (hb : Below w.heap.size w w') (hv : OwnA w' w.heap.size qs) (hB : B ≤ w.heap.size) : OwnA w' B (rs ++ qs) := by
  refine ⟨fun r hr => ?_, ?_⟩
  · rcases List.mem_append.1 hr with h1 | h1
    · exact (h.own r h1).below hb
    · exact (hv.own r h1).base hB
  · rw [List.pairwise_append]
    refine ⟨h.apart, hv.apart, fun a ha b hb' g hg hg' => ?_⟩
    have h1 := ((h.own a ha).ge g hg).2
    have h2 := ((hv.own b hb').ge g hg').1
    omega
theorem OwnA.perm {w : World} {B : Nat} {rs qs : List (Value × List Int)} (h : OwnA w B rs) (hp : rs.Perm qs) : OwnA w B qs :=
  ⟨fun r hr => h.own r (hp.mem_iff.2 hr), (hp.pairwise_iff (fun {a b} hab g hb ha => hab g ha hb)).1 h.apart⟩
theorem OwnA.one {w : World} {B : Nat} {v : Value} {xs : List Int} (h : OwnN w B v xs) : OwnA w B [(v, xs)] := ⟨fun r hr => by rw [List.mem_singleton] at hr; subst hr; exact h, List.pairwise_singleton _ _⟩
/-- A variable of four lists. -/
def VarM (w : World) (x : Nat) (t : TypeId) (v0 v1 v2 v3 : Value) : Prop := w.heap[x]? = some (.cells #[v0, v1, v2, v3] t (0, 0))
theorem VarM.lt {w : World} {x t : Nat} {v0 v1 v2 v3 : Value} (k : VarM w x t v0 v1 v2 v3) : x < w.heap.size := (Array.getElem?_eq_some_iff.1 k).1
theorem VarM.cells {w : World} {x t : Nat} {v0 v1 v2 v3 : Value} (k : VarM w x t v0 v1 v2 v3) : w.cell? ⟨x, 0, none⟩ = some v0 ∧ w.cell? ⟨x, 1, none⟩ = some v1 ∧ w.cell? ⟨x, 2, none⟩ = some v2 ∧ w.cell? ⟨x, 3, none⟩ = some v3 := ⟨by rw [Joins.cell_of_block k]; rfl, by rw [Joins.cell_of_block k]; rfl, by rw [Joins.cell_of_block k]; rfl, by rw [Joins.cell_of_block k]; rfl⟩
theorem VarM.free {w : World} {x t : Nat} {v0 v1 v2 v3 : Value} (k : VarM w x t v0 v1 v2 v3) : w.frozen? ⟨x, 0, none⟩ = false ∧ w.frozen? ⟨x, 1, none⟩ = false ∧ w.frozen? ⟨x, 2, none⟩ = false ∧ w.frozen? ⟨x, 3, none⟩ = false := ⟨Joins.unfrozen_of_block k 0, Joins.unfrozen_of_block k 1, Joins.unfrozen_of_block k 2, Joins.unfrozen_of_block k 3⟩
theorem VarM.below {w w' : World} {x t : Nat} {v0 v1 v2 v3 : Value} (k : VarM w x t v0 v1 v2 v3) (hb : Below w.heap.size w w') : VarM w' x t v0 v1 v2 v3 := by
  unfold VarM; rw [hb.block x k.lt]; exact k
theorem VarM.new (w : World) (t : TypeId) (v0 v1 v2 v3 : Value) : VarM (w.alloc (.cells #[v0, v1, v2, v3] t)) w.heap.size t v0 v1 v2 v3 := heap_alloc_new w _
theorem VarM.other {w : World} {x t : Nat} {v0 v1 v2 v3 : Value} (h : VarM w x t v0 v1 v2 v3) {p : Addr} (hp : x ≠ p.block) (u : Value) : VarM (w.setCell p u) x t v0 v1 v2 v3 := by
  unfold VarM; rw [Below.heap_setCell w p u x hp]; exact h
theorem VarM.set0 {w : World} {x t : Nat} {v0 v1 v2 v3 : Value} (h : VarM w x t v0 v1 v2 v3) (u : Value) : VarM (w.setCell ⟨x, 0, none⟩ u) x t u v1 v2 v3 := Joins.block_setCell (i := 0) h u
theorem VarM.set1 {w : World} {x t : Nat} {v0 v1 v2 v3 : Value} (h : VarM w x t v0 v1 v2 v3) (u : Value) : VarM (w.setCell ⟨x, 1, none⟩ u) x t v0 u v2 v3 := Joins.block_setCell (i := 1) h u
theorem VarM.set2 {w : World} {x t : Nat} {v0 v1 v2 v3 : Value} (h : VarM w x t v0 v1 v2 v3) (u : Value) : VarM (w.setCell ⟨x, 2, none⟩ u) x t v0 v1 u v3 := Joins.block_setCell (i := 2) h u
theorem VarM.set3 {w : World} {x t : Nat} {v0 v1 v2 v3 : Value} (h : VarM w x t v0 v1 v2 v3) (u : Value) : VarM (w.setCell ⟨x, 3, none⟩ u) x t v0 v1 v2 u := Joins.block_setCell (i := 3) h u
theorem VarM.at {w : World} {x y t : Nat} {v0 v1 v2 v3 : Value} (h : VarM w x t v0 v1 v2 v3) (e : x = y) : VarM w y t v0 v1 v2 v3 := e ▸ h
/-- Three of them, one behind another, as an image's copy has them. -/
structure Var3 (w0 w : World) (a0 a1 a2 a3 v0 v1 v2 v3 : Value) : Prop where
  a : VarM w w0.heap.size 40 a0 a1 a2 a3
  r : VarM w (w0.heap.size + 1) 45 (.slice none 0 0) (.slice none 0 0) (.slice none 0 0) (.slice none 0 0)
  o : VarM w (w0.heap.size + 1 + 1) 45 v0 v1 v2 v3
  b : Below w0.heap.size w0 w
theorem Var3.new (w : World) (a0 a1 a2 a3 : Value) : Var3 w (((w.alloc (.cells #[a0, a1, a2, a3] 40)).alloc (.cells #[.slice none 0 0, .slice none 0 0, .slice none 0 0, .slice none 0 0] 45)).alloc (.cells #[.slice none 0 0, .slice none 0 0, .slice none 0 0, .slice none 0 0] 45)) a0 a1 a2 a3 (.slice none 0 0) (.slice none 0 0) (.slice none 0 0) (.slice none 0 0) :=
  ⟨((VarM.new w _ _ _ _ _).below (Joins.below_alloc1 _ _)).below (Joins.below_alloc1 _ _), ((VarM.new (w.alloc _) _ _ _ _ _).below (Joins.below_alloc1 _ _)).at (by simp), (VarM.new ((w.alloc _).alloc _) _ _ _ _ _).at (by simp), Joins.below_alloc3 w _ _ _⟩
theorem Var3.below {w0 w w' : World} {a0 a1 a2 a3 v0 v1 v2 v3 : Value} (h : Var3 w0 w a0 a1 a2 a3 v0 v1 v2 v3) (hb : Below w.heap.size w w') : Var3 w0 w' a0 a1 a2 a3 v0 v1 v2 v3 := ⟨h.a.below hb, h.r.below hb, h.o.below hb, h.b.trans (hb.mono h.b.size)⟩
theorem Var3.set0 {w0 w : World} {a0 a1 a2 a3 v0 v1 v2 v3 : Value} (h : Var3 w0 w a0 a1 a2 a3 v0 v1 v2 v3) (u : Value) : Var3 w0 (w.setCell ⟨w0.heap.size + 1 + 1, 0, none⟩ u) a0 a1 a2 a3 u v1 v2 v3 := ⟨h.a.other (by simp; omega) u, h.r.other (by simp) u, h.o.set0 u, h.b.setCell (p := ⟨w0.heap.size + 1 + 1, 0, none⟩) (by simp; omega) u⟩
theorem Var3.set1 {w0 w : World} {a0 a1 a2 a3 v0 v1 v2 v3 : Value} (h : Var3 w0 w a0 a1 a2 a3 v0 v1 v2 v3) (u : Value) : Var3 w0 (w.setCell ⟨w0.heap.size + 1 + 1, 1, none⟩ u) a0 a1 a2 a3 v0 u v2 v3 := ⟨h.a.other (by simp; omega) u, h.r.other (by simp) u, h.o.set1 u, h.b.setCell (p := ⟨w0.heap.size + 1 + 1, 1, none⟩) (by simp; omega) u⟩
theorem Var3.set2 {w0 w : World} {a0 a1 a2 a3 v0 v1 v2 v3 : Value} (h : Var3 w0 w a0 a1 a2 a3 v0 v1 v2 v3) (u : Value) : Var3 w0 (w.setCell ⟨w0.heap.size + 1 + 1, 2, none⟩ u) a0 a1 a2 a3 v0 v1 u v3 := ⟨h.a.other (by simp; omega) u, h.r.other (by simp) u, h.o.set2 u, h.b.setCell (p := ⟨w0.heap.size + 1 + 1, 2, none⟩) (by simp; omega) u⟩
theorem Var3.lt {w0 w : World} {a0 a1 a2 a3 v0 v1 v2 v3 : Value} (h : Var3 w0 w a0 a1 a2 a3 v0 v1 v2 v3) : w0.heap.size + 3 ≤ w.heap.size := h.o.lt

set_option maxHeartbeats 3200000 in
theorem toImage_any (a : Im4) (m : Img) (w : World) (hr : m.refs.length ≤ 1048576) (ht : m.table.length ≤ 1048576) (hs : m.snaps.length ≤ 1048576) (hd : m.data.length ≤ 1048576) (hm : ∀ s ∈ m.snaps, s.table.length ≤ 1048576) (hc : ImS w a m) :
    Calls Try.prog 19 #[imV a m] w fun e w' => ∃ a' ts, e = .returned (imV a' m) ∧ OwnIm w' w.heap.size a' m ts ∧ Below w.heap.size w w' := by
  have HV0 := hide (Var3.new w (.slice a.ro m.refs.length a.rc) (.slice a.tq m.table.length a.tc) (.slice a.so m.snaps.length a.sc) (.slice a.dq m.data.length a.dc))
  have HC := hide hc
  have HM := hide hm
  have HR := hide hr
  have HT := hide ht
  have HS := hide hs
  have HD := hide hd
  clear hc hm hr ht hs hd
  go_enter Try.func19, Try.ntmps19
  go_wp2_with fail
  refine (toIntS_any a.ro a.rc m.refs _ (unhide HR) ((unhide HC).below (unhide HV0).b).r).mono ?_
  rintro e w1 ⟨g1, rfl, ho1, hb1⟩
  have HA1 := hide (OwnA.one (B := w.heap.size + 3) ⟨_, _, rfl, (OwnR.of ho1 (fun e => ⟨_, by rw [e]⟩)).base (unhide HV0).lt⟩)
  have HV1 := hide ((unhide HV0).below hb1)
  clear ho1 hb1 HV0
  obtain ⟨ca0p, ca1p, ca2p, ca3p⟩ := (unhide HV1).a.cells
  obtain ⟨cr0p, cr1p, cr2p, cr3p⟩ := (unhide HV1).r.cells
  obtain ⟨co0p, co1p, co2p, co3p⟩ := (unhide HV1).o.cells
  obtain ⟨fo0p, fo1p, fo2p, fo3p⟩ := (unhide HV1).o.free
  obtain ⟨fr0p, fr1p, fr2p, fr3p⟩ := (unhide HV1).r.free
  have HV1s := hide ((unhide HV1).set0 (.slice (some ⟨g1, 0, none⟩) m.refs.length m.refs.length))
  have HA1s := hide ((unhide HA1).setCell (a := ⟨w.heap.size + 1 + 1, 0, none⟩) (by simp) (.slice (some ⟨g1, 0, none⟩) m.refs.length m.refs.length))
  clear HV1 HA1
  go_wp2_with fail
  refine (toIntS_any a.tq a.tc m.table _ (unhide HT) ((unhide HC).below (unhide HV1s).b).t).mono ?_
  rintro e w2 ⟨g2, rfl, ho2, hb2⟩
  have HA2 := hide ((unhide HA1s).append hb2 (OwnA.one ⟨_, _, rfl, OwnR.of ho2 (fun e => ⟨_, by rw [e]⟩)⟩) (unhide HV1s).lt)
  have HV2 := hide ((unhide HV1s).below hb2)
  clear ho2 hb2 HV1s HA1s
  clear ca0p ca1p ca2p ca3p cr0p cr1p cr2p cr3p co0p co1p co2p co3p fo0p fo1p fo2p fo3p fr0p fr1p fr2p fr3p
  obtain ⟨ca0q, ca1q, ca2q, ca3q⟩ := (unhide HV2).a.cells
  obtain ⟨cr0q, cr1q, cr2q, cr3q⟩ := (unhide HV2).r.cells
  obtain ⟨co0q, co1q, co2q, co3q⟩ := (unhide HV2).o.cells
  obtain ⟨fo0q, fo1q, fo2q, fo3q⟩ := (unhide HV2).o.free
  obtain ⟨fr0q, fr1q, fr2q, fr3q⟩ := (unhide HV2).r.free
  have HV2s := hide ((unhide HV2).set1 (.slice (some ⟨g2, 0, none⟩) m.table.length m.table.length))
  have HA2s := hide ((unhide HA2).setCell (a := ⟨w.heap.size + 1 + 1, 1, none⟩) (by simp) (.slice (some ⟨g2, 0, none⟩) m.table.length m.table.length))
  clear HV2 HA2
  go_wp2_with fail
  refine (toSnapS_any a.so a.sc m.snaps _ (unhide HS) (unhide HM) ((unhide HC).below (unhide HV2s).b).s).mono ?_
  rintro e w3 ⟨g3, ts, rfl, hts, ho3, ha3, hb3⟩
  have HA3 := hide ((unhide HA2s).append hb3 ha3 (unhide HV2s).lt)
  have HO3 := hide ((OwnR.of ho3 (fun e => ⟨_, by rw [e]⟩)).base (unhide HV2s).lt)
  have HV3 := hide ((unhide HV2s).below hb3)
  have HTS := hide hts
  clear ho3 hb3 ha3 hts HV2s HA2s
  clear ca0q ca1q ca2q ca3q cr0q cr1q cr2q cr3q co0q co1q co2q co3q fo0q fo1q fo2q fo3q fr0q fr1q fr2q fr3q
  obtain ⟨ca0r, ca1r, ca2r, ca3r⟩ := (unhide HV3).a.cells
  obtain ⟨cr0r, cr1r, cr2r, cr3r⟩ := (unhide HV3).r.cells
  obtain ⟨co0r, co1r, co2r, co3r⟩ := (unhide HV3).o.cells
  obtain ⟨fo0r, fo1r, fo2r, fo3r⟩ := (unhide HV3).o.free
  obtain ⟨fr0r, fr1r, fr2r, fr3r⟩ := (unhide HV3).r.free
  have HV3s := hide ((unhide HV3).set2 (.slice (some ⟨g3, 0, none⟩) m.snaps.length m.snaps.length))
  have HA3s := hide ((unhide HA3).setCell (a := ⟨w.heap.size + 1 + 1, 2, none⟩) (by simp) (.slice (some ⟨g3, 0, none⟩) m.snaps.length m.snaps.length))
  have HO3s := hide ((unhide HO3).setCell (a := ⟨w.heap.size + 1 + 1, 2, none⟩) (by simp) (.slice (some ⟨g3, 0, none⟩) m.snaps.length m.snaps.length))
  clear HV3 HA3 HO3
  go_wp2_with fail
  refine (toIntS_any a.dq a.dc m.data _ (unhide HD) ((unhide HC).below (unhide HV3s).b).d).mono ?_
  rintro e w4 ⟨g4, rfl, ho4, hb4⟩
  have HA4 := hide ((unhide HA3s).append hb4 (OwnA.one ⟨_, _, rfl, OwnR.of ho4 (fun e => ⟨_, by rw [e]⟩)⟩) (unhide HV3s).lt)
  have HO4 := hide ((unhide HO3s).below hb4)
  have HV4 := hide ((unhide HV3s).below hb4)
  clear ho4 hb4 HV3s HA3s HO3s
  clear ca0r ca1r ca2r ca3r cr0r cr1r cr2r cr3r co0r co1r co2r co3r fo0r fo1r fo2r fo3r fr0r fr1r fr2r fr3r
  obtain ⟨ca0s, ca1s, ca2s, ca3s⟩ := (unhide HV4).a.cells
  obtain ⟨cr0s, cr1s, cr2s, cr3s⟩ := (unhide HV4).r.cells
  obtain ⟨co0s, co1s, co2s, co3s⟩ := (unhide HV4).o.cells
  obtain ⟨fo0s, fo1s, fo2s, fo3s⟩ := (unhide HV4).o.free
  obtain ⟨fr0s, fr1s, fr2s, fr3s⟩ := (unhide HV4).r.free
  have HA5 := hide ((((((unhide HA4).setCell (a := ⟨w.heap.size + 1 + 1, 3, none⟩) (by simp; try omega) (.slice (some ⟨g4, 0, none⟩) m.data.length m.data.length)).setCell (a := ⟨w.heap.size + 1, 0, none⟩) (by simp; try omega) (.slice (some ⟨g1, 0, none⟩) m.refs.length m.refs.length)).setCell (a := ⟨w.heap.size + 1, 1, none⟩) (by simp; try omega) (.slice (some ⟨g2, 0, none⟩) m.table.length m.table.length)).setCell (a := ⟨w.heap.size + 1, 2, none⟩) (by simp; try omega) (.slice (some ⟨g3, 0, none⟩) m.snaps.length m.snaps.length)).setCell (a := ⟨w.heap.size + 1, 3, none⟩) (by simp; try omega) (.slice (some ⟨g4, 0, none⟩) m.data.length m.data.length))
  have HO5 := hide ((((((unhide HO4).setCell (a := ⟨w.heap.size + 1 + 1, 3, none⟩) (by simp; try omega) (.slice (some ⟨g4, 0, none⟩) m.data.length m.data.length)).setCell (a := ⟨w.heap.size + 1, 0, none⟩) (by simp; try omega) (.slice (some ⟨g1, 0, none⟩) m.refs.length m.refs.length)).setCell (a := ⟨w.heap.size + 1, 1, none⟩) (by simp; try omega) (.slice (some ⟨g2, 0, none⟩) m.table.length m.table.length)).setCell (a := ⟨w.heap.size + 1, 2, none⟩) (by simp; try omega) (.slice (some ⟨g3, 0, none⟩) m.snaps.length m.snaps.length)).setCell (a := ⟨w.heap.size + 1, 3, none⟩) (by simp; try omega) (.slice (some ⟨g4, 0, none⟩) m.data.length m.data.length))
  have HB5 := hide ((((((unhide HV4).b.setCell (p := ⟨w.heap.size + 1 + 1, 3, none⟩) (by simp; try omega) (.slice (some ⟨g4, 0, none⟩) m.data.length m.data.length)).setCell (p := ⟨w.heap.size + 1, 0, none⟩) (by simp; try omega) (.slice (some ⟨g1, 0, none⟩) m.refs.length m.refs.length)).setCell (p := ⟨w.heap.size + 1, 1, none⟩) (by simp; try omega) (.slice (some ⟨g2, 0, none⟩) m.table.length m.table.length)).setCell (p := ⟨w.heap.size + 1, 2, none⟩) (by simp; try omega) (.slice (some ⟨g3, 0, none⟩) m.snaps.length m.snaps.length)).setCell (p := ⟨w.heap.size + 1, 3, none⟩) (by simp; try omega) (.slice (some ⟨g4, 0, none⟩) m.data.length m.data.length))
  clear HV4 HA4 HO4
  go_wp2
  refine bodyPost_ret (v := imV ⟨some ⟨g1, 0, none⟩, m.refs.length, some ⟨g2, 0, none⟩, m.table.length, some ⟨g3, 0, none⟩, m.snaps.length, some ⟨g4, 0, none⟩, m.data.length⟩ m) (by simp [results, Try.results19, go_sem, cr0s, cr1s, cr2s, cr3s]) rfl ⟨⟨some ⟨g1, 0, none⟩, m.refs.length, some ⟨g2, 0, none⟩, m.table.length, some ⟨g3, 0, none⟩, m.snaps.length, some ⟨g4, 0, none⟩, m.data.length⟩, ts, rfl, ?_, unhide HB5⟩
  refine ⟨(unhide HTS).symm, ((unhide HO5).base (by omega)).toS, ((unhide HA5).base (by omega)).perm ?_⟩
  unfold imRows
  refine (List.Perm.cons _ (List.Perm.cons _ ?_))
  exact List.perm_append_singleton _ _

end Go.Proofs.Ythnpooffhopnkaa
