/- Contracts of the program's packNames; of records that are held against each other, and of their texts. -/
import Derived.Test.YthnpooffhopnkacGreatDoorRows
import Derived.Test.YthnpooffhopnkacGreatDoorPart1
import Derived.Test.YthnpooffhopnkacGreatDoorPart2
import Derived.Test.YthnpooffhopnkacGreatDoorPart3
import Derived.Test.YthnpooffhopnkacGreatDoorPart30
import Derived.Test.YthnpooffhopnkacGreatDoorPart8
import Derived.Test.YthnpooffhopnkacGreatDoorPart15
import Derived.Test.YthnpooffhopnkacGreatDoorPart22
import Derived.Test.YthnpooffhopnkacGreatDoorPart25
import Derived.Test.YthnpooffhopnkacGreatDoorPart26
import Derived.Test.YthnpooffhopnkacGreatDoorPart27
import Derived.WalkKit
import Derived.WalkSpells
import Derived.KernelRfl
import Derived.LoopN

namespace Go.Proofs.YthnpooffhopnkacGreatDoor
open Go.RowKit
set_option linter.unusedVariables false
set_option maxRecDepth 100000

set_option maxHeartbeats 1600000 in
theorem packNames_any (so : Option Addr) (sc : Nat) (m : Img) (w : World) (hR : ImR m) (hc : Sns w so m.snaps) :
    Calls Tryz.prog 60 #[.slice so m.snaps.length sc] w fun e w' => ∃ qo qa, e = .returned (.slice qo (supL m).length qa) ∧ Is w' qo (supL m) ∧ Below w.heap.size w w' := by
  have HC := hide hc
  have HNS : Hid (∀ k (h : k < m.snaps.length), snmB m.snaps[k].name = true) := hide (fun k h => (hR.snaps _ (List.getElem_mem h)).1)
  have hs3 := hR.few
  have HSL : Hid ((supL m).length = m.snaps.length + 1) := hide (by simp [supL])
  clear hc hR
  obtain ⟨j0, hj, hy0, hy1, hy2⟩ := info_parts infoM
  go_enter Tryz.func60, Tryz.ntmps60
  go_upto_region 1 with fail
  have H0 : Hid (OwnR (w.alloc (.cells #[.int .i64 (m.snaps.length : Int)] 3)) w.heap.size 3 1 (.slice (some ⟨w.heap.size, 0, none⟩) 1 1) 1 (intV ((supL m).take 1)) ∧ Below w.heap.size w (w.alloc (.cells #[.int .i64 (m.snaps.length : Int)] 3))) := hide
    ⟨.inr ⟨by omega, by have := World.ownsRow_lit (base := w.heap.size) (e := 3) (size := 1) w #[.int .i64 (m.snaps.length : Int)] 1 (Nat.le_refl _) (by unfold maxLen; omega) rfl; simpa [supL, intV] using this⟩, Joins.below_alloc1 _ _⟩
  go_wp2
  go_loopw [3, 11] (fun o i wr => ∃ (k : Nat) (qo : Option Addr) (qa : Nat), k ≤ m.snaps.length ∧ i = .int .i64 k ∧ o = .slice qo (k + 1) qa ∧ Hid (OwnR wr w.heap.size 3 1 (.slice qo (k + 1) qa) (k + 1) (intV ((supL m).take (k + 1))) ∧ Below w.heap.size w wr)) (fun _ i _ => m.snaps.length - (intOf i).toNat)
  case atStart => exact ⟨0, _, _, Nat.zero_le _, rfl, rfl, H0⟩
  case round =>
    clear H0
    obtain ⟨k, qo, qa, hk, rfl, rfl, HO⟩ := hrel
    by_cases hlt : k < m.snaps.length
    · obtain ⟨b, off, tq, tc, eb, hn0, ht0, _, _, _⟩ := ((unhide HC).below (unhide HO).2) k hlt
      have hlti : (k : Int) < (m.snaps.length : Int) := by omega
      have HST : Hid (intV ((supL m).take (k + 1 + 1)) = intV ((supL m).take (k + 1)) ++ [.int .i64 (nmN m.snaps[k].name)]) := hide (by rw [supL_take hlt]; simp [intV])
      have HX := hide (VarN.new wr m.snaps[k].name (.slice tq m.snaps[k].table.length tc))
      have HBX := hide (Joins.below_alloc1 wr (.cells #[.string m.snaps[k].name, .slice tq m.snaps[k].table.length tc] 75))
      go_upto_region 5 with fail
      revert HX HBX
      generalize (wr.alloc _) = w2
      intro HX HBX
      obtain ⟨x0, x1⟩ := (unhide HX).cells
      have HO2 := hide ((unhide HO).1.below (unhide HBX))
      have HB2 := hide (fr (unhide HO).2 (unhide HBX))
      clear HX HBX hn0 ht0 eb HO
      go_wp2_with fail
      refine (packLetters_any m.snaps[k].name _ (unhide HNS k hlt)).mono ?_
      rintro e w3 ⟨rfl, hb3⟩
      generalize nmN m.snaps[k].name = NN at *
      have HO3 := hide ((unhide HO2).below hb3)
      have HB3 := hide (fr (unhide HB2) hb3)
      clear hb3 HO2 HB2 x0 x1
      have HOA := hide ((unhide HO3).below (Joins.below_alloc1 _ (.cells #[.int .i64 NN] 3)))
      have HBA := hide (fr (unhide HB3) (Joins.below_alloc1 _ (.cells #[.int .i64 NN] 3)))
      have HSZ := hide (unhide HB3).size
      go_wp2_with (at_builtin; refine wpList_append_one rfl _ _ 23 rfl w.heap.size 3 j0 (.int .i64 0) 1 8 Tryz.underlying23 hj hy0 hy1 hy2 rfl (by omega) qo (k + 1) qa (intV ((supL m).take (k + 1))) rfl (unhide HOA) (by have := unhide HSZ; simp; omega) ⟨w3.heap.size, 0, none⟩ _ [.int .i64 NN] rfl rfl (byte_news w3 _ _) (int_one _) (by unfold maxLen; omega) (by omega) ?_; intro g2 cap2 wA hoA hkA; have HSF := hide (And.intro hoA (keep_below (unhide HBA) (unhide HOA) (Nat.le_refl _) hkA)); clear hoA hkA)
      go_roundw
      case rel => exact ⟨k + 1, some ⟨g2, 0, none⟩, cap2, by omega, by go_num, rfl, hide ⟨.inr ⟨by omega, by rw [unhide HST]; exact (unhide HSF).1⟩, (unhide HSF).2⟩⟩
      case measure => simp [intOf]; omega
    · obtain rfl : k = m.snaps.length := by omega
      have HIS : Hid (Is wr qo (supL m)) := hide (by
        have h := (unhide HO).1
        rw [List.take_of_length_le (by rw [unhide HSL]; exact Nat.le_refl _), ← unhide HSL] at h
        exact ownRN h)
      go_wp2
      go_ret
      exact ⟨qo, qa, by rw [unhide HSL]; rfl, unhide HIS, (unhide HO).2⟩

theorem eqN_at {xs ys : List Int} {k : Nat} (h1 : k < xs.length) (h2 : k < ys.length) (h : xs[k] ≠ ys[k]) : eqNB xs ys = false := by
  simp only [eqNB, decide_eq_false_iff_not]
  intro e; subst e; exact h rfl
theorem eqN_len {xs ys : List Int} (h : xs.length ≠ ys.length) : eqNB xs ys = false := by
  simp only [eqNB, decide_eq_false_iff_not]
  intro e; subst e; exact h rfl
theorem eqN_all {xs ys : List Int} (hl : xs.length = ys.length) (h : ∀ j (h1 : j < xs.length) (h2 : j < ys.length), xs[j] = ys[j]) : eqNB xs ys = true := by
  simp only [eqNB, decide_eq_true_eq]
  exact List.ext_getElem hl (fun j h1 h2 => h j h1 h2)

set_option maxHeartbeats 1600000 in
theorem slicesEqual_any (ao bo : Option Addr) (ca cb : Nat) (xs ys : List Int) (w : World) (h1 : xs.length ≤ maxLen) (h2 : ys.length ≤ maxLen) (hx : Is w ao xs) (hy : Is w bo ys) :
    Calls Tryz.prog 107 #[.slice ao xs.length ca, .slice bo ys.length cb] w fun e w' => e = .returned (.bool (eqNB xs ys)) ∧ Below w.heap.size w w' := by
  have HX := hide hx
  have HY := hide hy
  clear hx hy
  unfold maxLen at h1 h2
  by_cases hl : xs.length = ys.length
  · have HL := hide hl
    have hlb : ((xs.length : Int) != (ys.length : Int)) = false := by simp [hl]
    clear hl
    go_enter Tryz.func107, Tryz.ntmps107
    go_wp2
    go_loopw [13] (fun i wr => ∃ k : Nat, k ≤ xs.length ∧ i = .int .i64 k ∧ Hid (∀ j (h1 : j < xs.length) (h2 : j < ys.length), j < k → xs[j] = ys[j]) ∧ Hid (Below w.heap.size w wr)) (fun i _ => xs.length - (intOf i).toNat)
    case atStart => exact ⟨0, Nat.zero_le _, rfl, hide (fun j _ _ h => by omega), hide (Below.refl _ _)⟩
    case round =>
      obtain ⟨k, hk, rfl, HA, HB⟩ := hrel
      by_cases hlt : k < xs.length
      · have hly : k < ys.length := by have := unhide HL; omega
        obtain ⟨b, off, rfl, hcx⟩ := ((unhide HX).below (unhide HB)) k hlt
        obtain ⟨b', off', rfl, hcy⟩ := ((unhide HY).below (unhide HB)) k hly
        have hi1 : (k : Int) < (xs.length : Int) := by omega
        have hi2 : (k : Int) < (ys.length : Int) := by omega
        have hi0 : (0 : Int) ≤ (k : Int) := by omega
        by_cases he : xs[k] = ys[k]
        · have HN : Hid (∀ j (h1 : j < xs.length) (h2 : j < ys.length), j < k + 1 → xs[j] = ys[j]) := hide (fun j h1 h2 hj => by
            by_cases e : j = k
            · subst e; exact he
            · exact unhide HA j h1 h2 (by omega))
          rw [← he] at hcy
          generalize xs[k] = X at *
          have hbe : (X != X) = false := by simp
          go_wp2
          go_region
          all_goals
            go_wp2
            go_roundw
            case rel => exact ⟨k + 1, by omega, by go_num, HN, hide (by exact (unhide HB).drew)⟩
            case measure => simp [intOf]; omega
        · have HF := hide (eqN_at hlt hly he)
          have hbe : (xs[k] != ys[k]) = true := by simp [he]
          generalize xs[k] = X at *
          generalize ys[k] = Y at *
          go_wp2
          go_region
          all_goals
            go_wp2
            go_ret
            exact ⟨ret_bool (unhide HF).symm, (by exact (unhide HB).drew)⟩
      · have HF := hide (eqN_all (unhide HL) (fun j h1 h2 => unhide HA j h1 h2 (by omega)))
        go_wp2
        go_ret
        exact ⟨ret_bool (unhide HF).symm, unhide HB⟩
  · have HF := hide (eqN_len hl)
    have hlb : ((xs.length : Int) != (ys.length : Int)) = true := by simp; omega
    clear hl
    go_enter Tryz.func107, Tryz.ntmps107
    go_wp2
    go_ret
    exact ⟨ret_bool (unhide HF).symm, Below.refl _ _⟩

/-- A record in a variable. -/
def VarR (w : World) (x : Nat) (r : Rc) (ao : Option Addr) (cap : Nat) : Prop := w.heap[x]? = some (.cells #[.int .i64 r.1, .slice ao r.2.length cap] 97 (0, 0))
theorem VarR.cells {w : World} {x : Nat} {r : Rc} {ao : Option Addr} {cap : Nat} (k : VarR w x r ao cap) : w.cell? ⟨x, 0, none⟩ = some (.int .i64 r.1) ∧ w.cell? ⟨x, 1, none⟩ = some (.slice ao r.2.length cap) := ⟨by rw [Joins.cell_of_block k]; rfl, by rw [Joins.cell_of_block k]; rfl⟩
theorem VarR.new (w : World) (r : Rc) (ao : Option Addr) (cap : Nat) : VarR (w.alloc (.cells #[.int .i64 r.1, .slice ao r.2.length cap] 97)) w.heap.size r ao cap := heap_alloc_new w _
theorem VarR.below {w w' : World} {x : Nat} {r : Rc} {ao : Option Addr} {cap : Nat} (h : VarR w x r ao cap) (hb : Below w.heap.size w w') : VarR w' x r ao cap := block_of_below h hb
def rcEq (r s : Rc) : Bool := decide (r.1 = s.1) && eqNB r.2 s.2
theorem rcEq_iff {r s : Rc} : rcEq r s = true ↔ r = s := by
  simp only [rcEq, eqNB, Bool.and_eq_true, decide_eq_true_eq]
  exact ⟨fun h => Prod.ext h.1 h.2, fun h => by rw [h]; exact ⟨rfl, rfl⟩⟩

set_option maxHeartbeats 1600000 in
theorem like_any (r s : Rc) (ao bo : Option Addr) (ca cb : Nat) (w : World) (h1 : r.2.length ≤ maxLen) (h2 : s.2.length ≤ maxLen) (hx : Is w ao r.2) (hy : Is w bo s.2) :
    Calls Tryz.prog 58 #[rcV r ao ca, rcV s bo cb] w fun e w' => e = .returned (.bool (rcEq r s)) ∧ Below w.heap.size w w' := by
  have HV1 := hide ((VarR.new w r ao ca).below (Joins.below_alloc1 _ (.cells #[.int .i64 s.1, .slice bo s.2.length cb] 97)))
  have HV2 : Hid (VarR ((w.alloc (.cells #[.int .i64 r.1, .slice ao r.2.length ca] 97)).alloc (.cells #[.int .i64 s.1, .slice bo s.2.length cb] 97)) (w.heap.size + 1) s bo cb) := hide (by
    have := VarR.new (w.alloc (.cells #[.int .i64 r.1, .slice ao r.2.length ca] 97)) s bo cb
    rwa [World.size_alloc] at this)
  have HB := hide (Joins.below_alloc2 w (.cells #[.int .i64 r.1, .slice ao r.2.length ca] 97) (.cells #[.int .i64 s.1, .slice bo s.2.length cb] 97))
  have H1 := hide h1
  have H2 := hide h2
  have HX := hide (hx.below (unhide HB))
  have HY := hide (hy.below (unhide HB))
  clear hx hy h1 h2
  unfold rcV
  go_enter Tryz.func58, Tryz.ntmps58
  go_upto_region 1 with fail
  revert HV1 HV2 HB HX HY
  generalize ((w.alloc _).alloc _) = W
  intro HV1 HV2 HB HX HY
  obtain ⟨c0, c1⟩ := (unhide HV1).cells
  obtain ⟨d0, d1⟩ := (unhide HV2).cells
  by_cases he : r.1 = s.1
  · have HF : Hid (rcEq r s = eqNB r.2 s.2) := hide (by simp [rcEq, he])
    have hbe : (r.1 == s.1) = true := by simp [he]
    go_wp2_with fail
    refine (slicesEqual_any ao bo ca cb r.2 s.2 _ (unhide H1) (unhide H2) (unhide HX) (unhide HY)).mono ?_
    rintro e w1 ⟨rfl, hb⟩
    have HB1 := hide (fr (unhide HB) hb)
    clear hb
    go_wp2
    go_ret
    exact ⟨ret_bool (unhide HF).symm, unhide HB1⟩
  · have HF : Hid (rcEq r s = false) := hide (by simp [rcEq, he])
    have hbe : (r.1 == s.1) = false := by simp [he]
    go_wp2
    go_ret
    exact ⟨ret_bool (unhide HF).symm, unhide HB⟩

/-- A record's text. -/
def rcT (r : Rc) : ByteArray := sealT r.1 r.2

set_option maxHeartbeats 1600000 in
theorem textR_any (r : Rc) (ao : Option Addr) (ca : Nat) (w : World) (h1 : r.2.length ≤ 1048576) (hx : Is w ao r.2) :
    Calls Tryz.prog 59 #[rcV r ao ca] w fun e w' => e = .returned (.string (rcT r)) ∧ Below w.heap.size w w' := by
  have HV := hide (VarR.new w r ao ca)
  have HB := hide (Joins.below_alloc1 w (.cells #[.int .i64 r.1, .slice ao r.2.length ca] 97))
  have HX := hide (hx.below (unhide HB))
  have H1 := hide h1
  have HT : Hid (rcT r = sealT r.1 r.2) := hide rfl
  clear hx h1
  unfold rcV
  go_enter Tryz.func59, Tryz.ntmps59
  go_upto_region 1 with fail
  revert HV HB HX
  generalize (w.alloc _) = W
  intro HV HB HX
  obtain ⟨c0, c1⟩ := (unhide HV).cells
  go_wp2_with fail
  refine (sealRecord_impl r.1 ao ca r.2 _ (unhide H1) (unhide HX)).mono ?_
  rintro e w1 ⟨rfl, hb⟩
  have HB1 := hide (fr (unhide HB) hb)
  clear hb
  go_wp2
  go_ret
  exact ⟨rfl, unhide HB1⟩

end Go.Proofs.YthnpooffhopnkacGreatDoor
