import Derived.Test.YtpdpnepnfhbonaaGreatDoorRows
import Derived.Test.YtpdpnepnfhbonaaGreatDoorXReadImagePart1
import Derived.Test.YtpdpnepnfhbonaaGreatDoorXReadImagePart2
import Derived.WalkKit
import Derived.WalkSpells
import Derived.BigQuiet
import Derived.Deep.QuietTactic
import Derived.Deep.RegionWith
import Derived.LoopN
import Derived.KernelRfl
import Derived.Laws.MakeOwn
import Derived.Laws.OwnMore
import Derived.Deep.MidRow
import Derived.Deep.RegionLawGrows
import Derived.Deep.RegionHeld3

namespace Go.Proofs.YtpdpnepnfhbonaaGreatDoor
open Go.RowKit
set_option linter.unusedVariables false
set_option maxRecDepth 100000

def snK (ss : List Snp) : Nat := (ss.map (fun s => 1 + s.table.length)).sum
theorem snK_take {ss : List Snp} {k : Nat} (h : k < ss.length) : snK (ss.take (k + 1)) = snK (ss.take k) + (1 + ss[k].table.length) := by
  unfold snK
  rw [List.take_succ_eq_append_getElem h, List.map_append, List.sum_append]; simp
theorem snK_le (ss : List Snp) (n : Nat) : snK (ss.take n) ≤ snK ss := by
  have h2 : snK ss = snK (ss.take n) + snK (ss.drop n) := by
    unfold snK
    rw [← List.sum_append, ← List.map_append, List.take_append_drop]
  omega
def mk1 (k : Nat) (s : Snp) : Snp := ⟨mtB k, mkN (k + 1) s.table.length⟩
def mkSn : Nat → List Snp → List Snp
  | _, [] => []
  | k, s :: ss => mk1 k s :: mkSn (k + (1 + s.table.length)) ss
theorem mkSn_length : ∀ (k : Nat) (ss : List Snp), (mkSn k ss).length = ss.length
  | _, [] => rfl
  | k, s :: ss => by rw [mkSn, List.length_cons, mkSn_length, List.length_cons]
theorem mkSn_snoc : ∀ (k : Nat) (ss : List Snp) (s : Snp), mkSn k (ss ++ [s]) = mkSn k ss ++ [mk1 (k + snK ss) s]
  | k, [], s => rfl
  | k, x :: ss, s => by
    rw [List.cons_append, mkSn, mkSn_snoc, mkSn, List.cons_append]
    congr 4
    simp only [snK, List.map_cons, List.sum_cons]; omega
def snMid (k : Nat) (ss : List Snp) (j : Nat) : List Snp := mkSn k (ss.take j) ++ ss.drop j
theorem snMid_zero (k : Nat) (ss : List Snp) : snMid k ss 0 = ss := by simp [snMid, mkSn]
theorem snMid_all (k : Nat) (ss : List Snp) : snMid k ss ss.length = mkSn k ss := by simp [snMid]
theorem snMid_get {k : Nat} {ss : List Snp} {j : Nat} (h : j < ss.length) : (snMid k ss j)[j]? = some ss[j] := by
  rw [snMid, List.getElem?_append_right (by rw [mkSn_length, List.length_take]; omega), mkSn_length, List.length_take, Nat.min_eq_left (by omega), Nat.sub_self, List.getElem?_drop, Nat.add_zero, List.getElem?_eq_getElem h]
theorem snMid_succ {k : Nat} {ss : List Snp} {j : Nat} (h : j < ss.length) : (snMid k ss j).set j (mk1 (k + snK (ss.take j)) ss[j]) = snMid k ss (j + 1) := by
  rw [snMid, snMid, List.take_succ_eq_append_getElem h, mkSn_snoc, List.set_append_right _ _ (by rw [mkSn_length, List.length_take]; omega), mkSn_length, List.length_take, Nat.min_eq_left (by omega), Nat.sub_self, List.drop_eq_getElem_cons h, List.set_cons_zero, List.append_assoc]
  rfl
theorem snC_get : ∀ {cs : List Snp} {ts : List Value} {j : Nat} {s : Snp} {t : Value}, cs[j]? = some s → ts[j]? = some t → (snC cs ts)[j * 2]? = some (.string s.name) ∧ (snC cs ts)[j * 2 + 1]? = some t
  | [], _, _, _, _, h, _ => by simp at h
  | _ :: _, [], _, _, _, _, h => by simp at h
  | c :: cs, b :: ts, 0, s, t, h, h' => by
    simp at h h'
    subst h; subst h'
    exact ⟨rfl, rfl⟩
  | c :: cs, b :: ts, j + 1, s, t, h, h' => by
    rw [List.getElem?_cons_succ] at h h'
    have := snC_get h h'
    rw [show (j + 1) * 2 = j * 2 + 1 + 1 by omega]
    exact this
theorem snC_set : ∀ (cs : List Snp) (ts : List Value) (j : Nat) (s : Snp), j < ts.length → snC (cs.set j s) ts = (snC cs ts).set (j * 2) (.string s.name)
  | [], [], _, _, _ => rfl
  | [], _ :: _, _, _, _ => rfl
  | c :: cs, [], j, s, h => by simp at h
  | c :: cs, b :: ts, 0, s, _ => rfl
  | c :: cs, b :: ts, j + 1, s, h => by
    rw [List.set_cons_succ, snC, snC, snC_set cs ts j s (by simpa using h), show (j + 1) * 2 = j * 2 + 1 + 1 by omega]
    rfl
theorem zip_set1 : ∀ (ts : List Value) (cs : List Snp) (j : Nat) (s : Snp) (t : Value), ts[j]? = some t → ts.zip ((cs.set j s).map (·.table)) = (ts.zip (cs.map (·.table))).set j (t, s.table)
  | [], cs, j, s, t, h => by simp at h
  | b :: ts, [], j, s, t, h => by simp
  | b :: ts, c :: cs, 0, s, t, h => by
    simp at h
    subst h
    rfl
  | b :: ts, c :: cs, j + 1, s, t, h => by
    rw [List.getElem?_cons_succ] at h
    have := zip_set1 ts cs j s t h
    rw [List.set_cons_succ, List.map_cons, List.zip_cons_cons, this]
    rfl
theorem OwnA.turn {w w' : World} {B : Nat} {rs : List (Value × List Int)} {j : Nat} {v : Value} {xs ys : List Int} (h : OwnA w B rs) (hj : rs[j]? = some (v, xs)) (hk : Keep (Own v) w w') (hn : OwnN w' B v ys) : OwnA w' B (rs.set j (v, ys)) := by
  obtain ⟨hjl, hje⟩ := List.getElem?_eq_some_iff.1 hj
  refine ⟨fun r hr => ?_, ?_⟩
  · obtain ⟨i, hi, rfl⟩ := List.mem_iff_getElem.1 hr
    rw [List.length_set] at hi
    rw [List.getElem_set]
    split
    · exact hn
    · rename_i hne
      refine (h.own _ (List.getElem_mem hi)).keep hk (fun g hg hv => ?_)
      have hp := List.pairwise_iff_getElem.1 h.apart
      rcases Nat.lt_or_gt_of_ne hne with hlt | hlt
      · exact hp j i hjl hi hlt g (by rw [hje]; exact hv) hg
      · exact hp i j hi hjl hlt g hg (by rw [hje]; exact hv)
  · have e : (rs.set j (v, ys)).map Prod.fst = rs.map Prod.fst := by
      rw [List.map_set]
      have : (rs.map Prod.fst)[j]'(by simpa using hjl) = v := by rw [List.getElem_map, hje]
      conv => lhs; rw [show (v, ys).1 = (rs.map Prod.fst)[j]'(by simpa using hjl) from this.symm]
      rw [List.set_getElem_self]
    have hp := List.pairwise_map (f := Prod.fst) (R := fun a b => ∀ g, Own a g → ¬ Own b g) |>.2 h.apart
    rw [← e] at hp
    exact List.pairwise_map.1 hp
theorem OwnR.row {w : World} {B e size n : Nat} {v : Value} {xs : List Value} (h : OwnR w B e size v n xs) (hp : 0 < n) : w.ownsRow B e size v n xs := by
  rcases h with ⟨h0, _⟩ | ⟨_, h⟩
  · omega
  · exact h

end Go.Proofs.YtpdpnepnfhbonaaGreatDoor

namespace Go.Proofs.YtpdpnepnfhbonaaGreatDoor
open Go.RowKit
set_option linter.unusedVariables false
set_option maxRecDepth 100000

set_option maxHeartbeats 3200000 in
theorem markSnapS_any (v : Value) (k B : Nat) (ss : List Snp) (ts : List Value) (w : World) (hn : ss.length ≤ 4194304) (hm : ∀ s ∈ ss, s.table.length ≤ 4194304) (hk0 : 0 < k) (hk1 : k + snK ss ≤ 268435456) (hl : ss.length = ts.length)
    (ho : OwnS w B 72 2 v ss.length (snC ss ts)) (ha : OwnA w B (ts.zip (ss.map (·.table)))) :
    Calls Tryz.prog 33 #[v, .int .i64 k] w fun e w' => e = .returned (.int .i64 ((k + snK ss : Nat) : Int)) ∧ OwnS w' B 72 2 v ss.length (snC (mkSn k ss) ts) ∧ OwnA w' B (ts.zip ((mkSn k ss).map (·.table))) ∧ Keep (fun g => Own v g ∨ ∃ t ∈ ts, Own t g) w w' := by
  rcases Nat.eq_zero_or_pos ss.length with h0 | hpos
  · have e0 : ss = [] := List.eq_nil_of_length_eq_zero h0
    subst e0
    rcases ho with ⟨_, _, ao, c0, rfl⟩ | ⟨h, _⟩
    · go_enter Tryz.func33, Tryz.ntmps33
      go_wp2
      refine wp_loop_rounds 1 ?_
      rw [rounds_succ]
      go_wp2
      go_ret
      exact ⟨ret_int (by simp [snK]), .inl ⟨rfl, by simp [mkSn, snC], ao, c0, rfl⟩, ha, Keep.refl _ _⟩
    · simp at h
  · obtain ⟨g, cap, cur, rfl, _, _⟩ := own_form hpos (ho.row hpos)
    have HO := hide (ho.toR (fun h => absurd h (by omega)))
    have HA := hide ha
    have HM := hide hm
    have HK1 := hide hk1
    have HLL := hide hl
    clear ho ha hm hk1 hl
    go_enter Tryz.func33, Tryz.ntmps33
    go_wp2
    go_loopw [1, 5] (fun kk i wr => ∃ (j : Nat), j ≤ ss.length ∧ i = .int .i64 j ∧ kk = .int .i64 ((k + snK (ss.take j) : Nat) : Int) ∧ Hid (OwnR wr B 72 2 (.slice (some ⟨g, 0, none⟩) ss.length cap) ss.length (snC (snMid k ss j) ts)) ∧ Hid (OwnA wr B (ts.zip ((snMid k ss j).map (·.table)))) ∧ Hid (Keep (fun x => Own (.slice (some ⟨g, 0, none⟩) ss.length cap) x ∨ ∃ t ∈ ts, Own t x) w wr)) (fun _ i _ => ss.length - (intOf i).toNat)
    case atStart => exact ⟨0, Nat.zero_le _, rfl, by simp [snK], by rw [snMid_zero]; exact HO, by rw [snMid_zero]; exact HA, hide (Keep.refl _ _)⟩
    case round =>
      obtain ⟨j, hj, rfl, rfl, HO, HA, HK⟩ := hrel
      by_cases hlt : j < ss.length
      · have HJ := hide (snK_take hlt)
        have HJL := hide (snK_le ss (j + 1))
        obtain ⟨q, hq, hq0, hqb⟩ : ∃ q : Nat, q = k + snK (ss.take j) ∧ 0 < q ∧ q + 1 + ss[j].table.length ≤ 268435456 := ⟨_, rfl, by omega, by have a := unhide HJ; have b := unhide HJL; have c := unhide HK1; omega⟩
        rw [← hq]
        have HQ := hide hq
        clear hq
        have hlj : j < ts.length := by rw [← unhide HLL]; exact hlt
        have hmj : ss[j].table.length ≤ 4194304 := unhide HM _ (List.getElem_mem hlt)
        have HRJ := hide (show (ts.zip ((snMid k ss j).map (·.table)))[j]? = some (ts[j], ss[j].table) by
          rw [List.getElem?_zip_eq_some]
          exact ⟨List.getElem?_eq_getElem hlj, by rw [List.getElem?_map, snMid_get hlt]; rfl⟩)
        go_wp2_with fail
        refine (markText_any q _ (by omega) (by omega)).mono ?_
        rintro e w2 ⟨rfl, hb2⟩
        have HO2 := hide ((unhide HO).below hb2)
        have HA2 := hide ((unhide HA).below hb2)
        have HK2 := hide ((unhide HK).trans (Keep.of_below hb2))
        clear hb2
        obtain ⟨qo, qa, hts, hrow⟩ := (unhide HA2).own _ (List.mem_of_getElem? (unhide HRJ))
        simp only at hts
        have HTS := hide hts
        have hcell := ((unhide HO2).row hpos).cellAt
        have hgs := snC_get (snMid_get (k := k) hlt) (List.getElem?_eq_getElem hlj)
        have hx0 : w2.cell? ⟨g, j * 2, none⟩ = some (.string ss[j].name) := (hcell (j * 2) (by omega)).trans hgs.1
        have hx1 : w2.cell? ⟨g, j * 2 + 1, none⟩ = some (.slice qo ss[j].table.length qa) := (hcell (j * 2 + 1) (by omega)).trans (by rw [hgs.2, hts])
        have hf0 := ((unhide HO2).row hpos).frozenAt (j * 2)
        clear hcell hgs hts hrow
        have HOS : Hid (OwnR (w2.setCell ⟨g, j * 2, none⟩ (.string (mtB q))) B 72 2 (.slice (some ⟨g, 0, none⟩) ss.length cap) ss.length (snC (snMid k ss (j + 1)) ts)) := hide (by
          rw [← snMid_succ hlt, snC_set _ _ _ _ hlj, ← unhide HQ]
          exact .inr ⟨hpos, (((unhide HO2).row hpos).stored (j * 2) (.string (mtB q))).1⟩)
        have HAS := hide ((unhide HA2).keep (S := fun x => x = g) ((Keep.refl (fun x => x = g) w2).setCell (p := ⟨g, j * 2, none⟩) rfl (.string (mtB q))) (fun r hr x hx he => by
          obtain ⟨_, _, e, hr'⟩ := (unhide HA2).own r hr
          rw [e] at hx
          exact own_apart (unhide HO2) hr' (by decide) x (own_of hpos he.symm) hx))
        have HKS := hide ((unhide HK2).setCell (p := ⟨g, j * 2, none⟩) (.inl (own_of hpos rfl)) (.string (mtB q)))
        obtain ⟨ro, rc, hre, hrow⟩ := (unhide HAS).own _ (List.mem_of_getElem? (unhide HRJ))
        simp only at hre hrow
        have hee : Value.slice qo ss[j].table.length qa = .slice ro ss[j].table.length rc := (unhide HTS).symm.trans hre
        rw [← hee] at hrow
        have HW := hide hrow
        clear hrow hre hee
        go_wp2_with fail
        refine (markIntS_any (.slice qo ss[j].table.length qa) ss[j].table.length (q + 1) _ B _ hmj (by omega) (by omega) (unhide HW)).mono ?_
        rintro e w4 ⟨rfl, ho4, hk4⟩
        have HA4 : Hid (OwnA w4 B (ts.zip ((snMid k ss (j + 1)).map (·.table)))) := hide (by
          rw [← snMid_succ hlt, zip_set1 _ _ _ _ _ (List.getElem?_eq_getElem hlj), ← unhide HQ]
          refine (unhide HAS).turn (unhide HRJ) (by rw [unhide HTS]; exact hk4) ?_
          rw [unhide HTS]
          exact ⟨qo, qa, by simp [mk1, mkN_length], by simpa only [mk1, mkN_length] using ho4⟩)
        have HO4 := hide ((unhide HOS).keep hk4 (own_apart (unhide HOS) (unhide HW) (by decide)))
        have HK4 := hide ((unhide HKS).trans (hk4.mono (fun x hx => Or.inr ⟨ts[j], List.getElem_mem hlj, by rw [unhide HTS]; exact hx⟩)))
        have hqn : q + 1 + ss[j].table.length = k + snK (ss.take (j + 1)) := by rw [unhide HJ, unhide HQ]; omega
        clear ho4 hk4
        go_wp2
        go_roundw
        case rel => exact ⟨j + 1, by omega, by go_num, by go_num, HO4, HA4, HK4⟩
        case measure => simp [intOf]; omega
      · have hjn : j = ss.length := by omega
        subst hjn
        have ho := unhide HO
        have ha := unhide HA
        rw [snMid_all] at ho ha
        have HO' := hide ho
        have HA' := hide ha
        have he : snK (ss.take ss.length) = snK ss := by rw [List.take_length]
        clear ho ha
        go_wp2
        go_ret
        exact ⟨by rw [he]; rfl, (unhide HO').toS, unhide HA', unhide HK⟩

theorem mkSn_get : ∀ {k : Nat} {ss : List Snp} {j : Nat} (h : j < ss.length), (mkSn k ss)[j]? = some (mk1 (k + snK (ss.take j)) ss[j])
  | k, [], j, h => by simp at h
  | k, s :: ss, 0, h => by simp [mkSn, snK]
  | k, s :: ss, j + 1, h => by
    rw [mkSn, List.getElem?_cons_succ, mkSn_get (by simpa using h)]
    simp only [List.take_succ_cons, List.getElem_cons_succ, snK, List.map_cons, List.sum_cons, Nat.add_assoc]

set_option maxHeartbeats 3200000 in
theorem heldSnapS_any (v : Value) (k B : Nat) (ss : List Snp) (ts : List Value) (w : World) (hn : ss.length ≤ 4194304) (hm : ∀ s ∈ ss, s.table.length ≤ 4194304) (hk0 : 0 < k) (hk1 : k + snK ss ≤ 268435456) (hl : ss.length = ts.length)
    (ho : OwnS w B 72 2 v ss.length (snC (mkSn k ss) ts)) (ha : OwnA w B (ts.zip ((mkSn k ss).map (·.table)))) :
    Calls Tryz.prog 35 #[v, .int .i64 k] w fun e w' => e = .returned (.int .i64 ((k + snK ss : Nat) : Int)) ∧ Below w.heap.size w w' := by
  rcases Nat.eq_zero_or_pos ss.length with h0 | hpos
  · have e0 : ss = [] := List.eq_nil_of_length_eq_zero h0
    subst e0
    rcases ho with ⟨_, _, ao, c0, rfl⟩ | ⟨h, _⟩
    · go_enter Tryz.func35, Tryz.ntmps35
      go_wp2
      refine wp_loop_rounds 1 ?_
      rw [rounds_succ]
      go_wp2
      go_ret
      exact ⟨ret_int (by simp [snK]), Below.refl _ _⟩
    · simp at h
  · obtain ⟨g, cap, cur, rfl, _, _⟩ := own_form hpos (ho.row hpos)
    have HO := hide (ho.toR (fun h => absurd h (by omega)))
    have HA := hide ha
    have HM := hide hm
    have HK1 := hide hk1
    have HLL := hide hl
    clear ho ha hm hk1 hl
    go_enter Tryz.func35, Tryz.ntmps35
    go_wp2
    go_loopw [1, 5] (fun kk i wr => ∃ (j : Nat), j ≤ ss.length ∧ i = .int .i64 j ∧ kk = .int .i64 ((k + snK (ss.take j) : Nat) : Int) ∧ Hid (Below w.heap.size w wr)) (fun _ i _ => ss.length - (intOf i).toNat)
    case atStart => exact ⟨0, Nat.zero_le _, rfl, by simp [snK], hide (Below.refl _ _)⟩
    case round =>
      obtain ⟨j, hj, rfl, rfl, HB⟩ := hrel
      by_cases hlt : j < ss.length
      · have HJ := hide (snK_take hlt)
        have HJL := hide (snK_le ss (j + 1))
        have HG := hide (mkSn_get (k := k) hlt)
        obtain ⟨q, hq, hq0, hqb⟩ : ∃ q : Nat, q = k + snK (ss.take j) ∧ 0 < q ∧ q + 1 + ss[j].table.length ≤ 268435456 := ⟨_, rfl, by omega, by have a := unhide HJ; have b := unhide HJL; have c := unhide HK1; omega⟩
        rw [← hq] at HG ⊢
        have HQ := hide hq
        clear hq
        have hlj : j < ts.length := by rw [← unhide HLL]; exact hlt
        have hmj : ss[j].table.length ≤ 4194304 := unhide HM _ (List.getElem_mem hlt)
        have HRJ := hide (show (ts.zip ((mkSn k ss).map (·.table)))[j]? = some (ts[j], mkN (q + 1) ss[j].table.length) by
          rw [List.getElem?_zip_eq_some]
          exact ⟨List.getElem?_eq_getElem hlj, by rw [List.getElem?_map, unhide HG]; rfl⟩)
        have HOr := hide ((unhide HO).below (unhide HB |>.mono (Nat.le_refl _)))
        have hgs := snC_get (unhide HG) (List.getElem?_eq_getElem hlj)
        have hx0 : wr.cell? ⟨g, j * 2, none⟩ = some (.string (mtB q)) := (((unhide HOr).row hpos).cellAt (j * 2) (by omega)).trans hgs.1
        clear hgs
        have hgl : g < wr.heap.size := World.block_lt_of_cell? _ _ hx0
        go_wp2
        go_region_with (go_at_call 60; refine (markText_any q _ hq0 (by omega)).mono ?_; rintro e w2 ⟨rfl, hb2⟩; have hcy := (hb2.cell (p := ⟨g, j * 2, none⟩) hgl).trans hx0)
        all_goals
          have HB2 : Hid (Below w.heap.size w w2) := hide (Below.trans (by repeat (first | exact unhide HB | apply Below.drew)) (hb2.mono (unhide HB).size))
          have HO2 := hide ((unhide HO).below (unhide HB2))
          have HA2 := hide ((unhide HA).below (unhide HB2))
          clear hb2 hcy hx0 hgl
          obtain ⟨qo, qa, hts, hrow⟩ := (unhide HA2).own _ (List.mem_of_getElem? (unhide HRJ))
          simp only [mkN_length] at hts hrow
          have HW := hide hrow
          have hgs := snC_get (unhide HG) (List.getElem?_eq_getElem hlj)
          have hx1 : w2.cell? ⟨g, j * 2 + 1, none⟩ = some (.slice qo ss[j].table.length qa) := (((unhide HO2).row hpos).cellAt (j * 2 + 1) (by omega)).trans (by rw [hgs.2, hts])
          clear hgs hts hrow
          go_wp2_with fail
          refine (heldIntS_any (.slice qo ss[j].table.length qa) ss[j].table.length (q + 1) B _ hmj (by omega) (by omega) (unhide HW)).mono ?_
          rintro e w4 ⟨rfl, hb4⟩
          have HB4 := hide ((unhide HB2).trans (hb4.mono (unhide HB2).size))
          have HQN : Hid (q + 1 + ss[j].table.length = k + snK (ss.take (j + 1))) := hide (by rw [unhide HJ, unhide HQ]; omega)
          clear hb4 hx1
          go_wp2
          go_roundw
          case rel => exact ⟨j + 1, by omega, by go_num, by rw [← unhide HQN]; go_num, HB4⟩
          case measure => simp [intOf]; omega
      · have hjn : j = ss.length := by omega
        subst hjn
        have he : snK (ss.take ss.length) = snK ss := by rw [List.take_length]
        go_wp2
        go_ret
        exact ⟨by rw [he]; rfl, unhide HB⟩

end Go.Proofs.YtpdpnepnfhbonaaGreatDoor

namespace Go.Proofs.YtpdpnepnfhbonaaGreatDoor
open Go.RowKit
set_option linter.unusedVariables false
set_option maxRecDepth 100000

def mkIm (k : Nat) (m : Img) : Img := ⟨mkN k m.refs.length, mkN (k + m.refs.length) m.table.length, mkSn (k + m.refs.length + m.table.length) m.snaps, mkN (k + m.refs.length + m.table.length + snK m.snaps) m.data.length⟩
def imK (m : Img) : Nat := m.refs.length + m.table.length + snK m.snaps + m.data.length
theorem OwnN.row {w : World} {B : Nat} {v : Value} {xs : List Int} (h : OwnN w B v xs) : OwnR w B 3 1 v xs.length (intV xs) := by
  obtain ⟨qo, qa, rfl, ho⟩ := h
  exact ho
theorem OwnN.mk' {w : World} {B n c : Nat} {ao : Option Addr} {xs : List Int} (h : OwnR w B 3 1 (.slice ao n c) n (intV xs)) (hn : xs.length = n) : OwnN w B (.slice ao n c) xs := by
  subst hn
  exact ⟨ao, c, rfl, h⟩
theorem blk_belowI {w w' : World} {k : Nat} {o : Obj} (h : w.heap[k]? = some o) (hb : Below w.heap.size w w') : w'.heap[k]? = some o := (hb.block k (Array.getElem?_eq_some_iff.1 h).1).trans h
theorem OwnA.retail {w w' : World} {B : Nat} {r0 r1 r2 : Value × List Int} {qs qs' : List (Value × List Int)} {S : Nat → Prop} (h : OwnA w B (r0 :: r1 :: r2 :: qs)) (hk : Keep S w w') (hs : ∀ r ∈ [r0, r1, r2], ∀ g, Own r.1 g → ¬ S g) (hq : OwnA w' B qs') (he : qs'.map Prod.fst = qs.map Prod.fst) : OwnA w' B (r0 :: r1 :: r2 :: qs') := by
  refine ⟨fun r hr => ?_, ?_⟩
  · simp only [List.mem_cons] at hr
    rcases hr with e | e | e | hr
    · subst e; exact (h.own _ (by simp)).keep hk (hs _ (by simp))
    · subst e; exact (h.own _ (by simp)).keep hk (hs _ (by simp))
    · subst e; exact (h.own _ (by simp)).keep hk (hs _ (by simp))
    · exact hq.own r hr
  · have hp := List.pairwise_map (f := Prod.fst) (R := fun a b => ∀ g, Own a g → ¬ Own b g) |>.2 h.apart
    refine List.pairwise_map (f := Prod.fst) (R := fun a b => ∀ g, Own a g → ¬ Own b g) |>.1 ?_
    simp only [List.map_cons, he] at hp ⊢
    exact hp
theorem zip_fst {α β : Type} : ∀ (xs : List α) (ys : List β), xs.length = ys.length → (xs.zip ys).map Prod.fst = xs
  | [], [], _ => rfl
  | x :: xs, y :: ys, h => by rw [List.zip_cons_cons, List.map_cons, zip_fst xs ys (by simpa using h)]
theorem OwnA.apart3 {w : World} {B : Nat} {r0 r1 r2 : Value × List Int} {ts : List Value} {xs : List (List Int)} (h : OwnA w B (r0 :: r1 :: r2 :: ts.zip xs)) (hl : ts.length = xs.length) : ∀ r ∈ [r0, r1, r2], ∀ g, Own r.1 g → ¬ ∃ t ∈ ts, Own t g := by
  intro r hr g hg ⟨t, ht, hx⟩
  have hm : t ∈ (ts.zip xs).map Prod.fst := by rw [zip_fst _ _ hl]; exact ht
  obtain ⟨p, hp, rfl⟩ := List.mem_map.1 hm
  have ha := h.apart
  simp only [List.pairwise_cons, List.mem_cons] at ha
  simp only [List.mem_cons, List.not_mem_nil, or_false] at hr
  rcases hr with rfl | rfl | rfl
  · exact ha.1 p (.inr (.inr hp)) g hg hx
  · exact ha.2.1 p (.inr hp) g hg hx
  · exact ha.2.2.1 p hp g hg hx
theorem OwnA.tail {w : World} {B : Nat} {r0 r1 r2 : Value × List Int} {qs : List (Value × List Int)} (h : OwnA w B (r0 :: r1 :: r2 :: qs)) : OwnA w B qs := by
  refine ⟨fun r hr => h.own r (by simp [hr]), ?_⟩
  have ha := h.apart
  simp only [List.pairwise_cons] at ha
  exact ha.2.2.2
def ImB (a : Im4) (m : Img) (ts : List Value) (g : Nat) : Prop := Own (.slice a.ro m.refs.length a.rc) g ∨ Own (.slice a.tq m.table.length a.tc) g ∨ Own (.slice a.dq m.data.length a.dc) g ∨ Own (.slice a.so m.snaps.length a.sc) g ∨ ∃ t ∈ ts, Own t g
theorem OwnIm.ge {w : World} {B : Nat} {a : Im4} {m : Img} {ts : List Value} (h : OwnIm w B a m ts) : ∀ g, ImB a m ts g → B ≤ g ∧ g < w.heap.size := by
  intro g hg
  rcases hg with h1 | h1 | h1 | h1 | ⟨t, ht, h1⟩
  · exact (h.rows.own (.slice a.ro m.refs.length a.rc, m.refs) (by simp [imRows])).ge g h1
  · exact (h.rows.own (.slice a.tq m.table.length a.tc, m.table) (by simp [imRows])).ge g h1
  · exact (h.rows.own (.slice a.dq m.data.length a.dc, m.data) (by simp [imRows])).ge g h1
  · exact h.s.ge g h1
  · have hm : t ∈ (ts.zip (m.snaps.map (·.table))).map Prod.fst := by rw [zip_fst _ _ (by rw [List.length_map, h.len])]; exact ht
    obtain ⟨p, hp, rfl⟩ := List.mem_map.1 hm
    exact (h.rows.own p (by simp [imRows, hp])).ge g h1
theorem OwnIm.keep {w w' : World} {B : Nat} {a : Im4} {m : Img} {ts : List Value} {S : Nat → Prop} (h : OwnIm w B a m ts) (hk : Keep S w w') (hs : ∀ g, ImB a m ts g → ¬ S g) : OwnIm w' B a m ts := by
  refine ⟨h.len, h.s.keep hk (fun g hg => hs g (.inr (.inr (.inr (.inl hg))))), h.rows.keep hk (fun r hr g hg => hs g ?_)⟩
  unfold imRows at hr
  simp only [List.mem_cons] at hr
  rcases hr with rfl | rfl | rfl | hr
  · exact .inl hg
  · exact .inr (.inl hg)
  · exact .inr (.inr (.inl hg))
  · exact .inr (.inr (.inr (.inr ⟨r.1, (List.of_mem_zip (a := r.1) (b := r.2) hr).1, hg⟩)))
theorem OwnIm.base {w : World} {B B' : Nat} {a : Im4} {m : Img} {ts : List Value} (h : OwnIm w B a m ts) (hB : B' ≤ B) : OwnIm w B' a m ts := ⟨h.len, h.s.base hB, h.rows.base hB⟩

set_option maxHeartbeats 3200000 in
theorem markImage_any (a : Im4) (m : Img) (ts : List Value) (k B : Nat) (w : World) (hr : m.refs.length ≤ 1048576) (ht : m.table.length ≤ 1048576) (hsn : m.snaps.length ≤ 1048576) (hd : m.data.length ≤ 1048576) (hm : ∀ s ∈ m.snaps, s.table.length ≤ 1048576) (hsk : snK m.snaps ≤ 4194304) (hk0 : 0 < k) (hk1 : k ≤ 1000) (ho : OwnIm w B a m ts) :
    Calls Tryz.prog 11 #[imV a m, .int .i64 k] w fun e w' => e = .returned (.int .i64 ((k + imK m : Nat) : Int)) ∧ OwnIm w' B a (mkIm k m) ts ∧ Keep (ImB a m ts) w w' := by
  have HA := hide (Joins.below_alloc1 w (.cells #[.slice a.ro m.refs.length a.rc, .slice a.tq m.table.length a.tc, .slice a.so m.snaps.length a.sc, .slice a.dq m.data.length a.dc] 30))
  have HX := hide (heap_alloc_new w (.cells #[.slice a.ro m.refs.length a.rc, .slice a.tq m.table.length a.tc, .slice a.so m.snaps.length a.sc, .slice a.dq m.data.length a.dc] 30))
  have HO := hide (ho.below (unhide HA))
  have HM := hide hm
  have HLN := hide ho.len
  have HR : Hid (OwnA _ B (imRows a m ts)) := hide (unhide HO).rows
  have HS := hide (unhide HO).s
  clear ho hm
  obtain ⟨nr, hnr⟩ : ∃ n, n = m.refs.length := ⟨_, rfl⟩
  obtain ⟨nt, hnt⟩ : ∃ n, n = m.table.length := ⟨_, rfl⟩
  obtain ⟨nd, hnd⟩ : ∃ n, n = m.data.length := ⟨_, rfl⟩
  have H0 := hide (unhide HR |>.own _ (List.mem_cons_self)).row
  go_enter Tryz.func11, Tryz.ntmps11
  go_wp2_with fail
  refine (markIntS_any _ m.refs.length k _ B _ (by omega) hk0 (by omega) (unhide H0)).mono ?_
  rintro e w1 ⟨rfl, ho1, hk1'⟩
  have HR1 := hide ((unhide HR).turn (j := 0) rfl hk1' (OwnN.mk' ho1 (mkN_length _ _)))
  have HS1 := hide ((unhide HS).keep hk1' (own_apartT (unhide HS) (unhide H0) (by decide)))
  have hX1 : w1.heap[w.heap.size]? = _ := (hk1'.block _ (by simp) ((unhide H0).other (unhide HX) (by decide))).trans (unhide HX)
  have HX1 := hide hX1
  have hc1 : w1.cell? ⟨w.heap.size, 1, none⟩ = some (.slice a.tq m.table.length a.tc) := by rw [Joins.cell_of_block hX1]; rfl
  have HK1 := hide (Keep.trans (S := ImB a m ts) (Keep.of_below (unhide HA)) (hk1'.mono (fun g h => .inl h)))
  clear ho1 hk1' hX1
  have H1 := hide (unhide HR1 |>.own (.slice a.tq m.table.length a.tc, m.table) (by simp [imRows])).row
  go_wp2_with fail
  refine (markIntS_any _ m.table.length (k + m.refs.length) _ B _ (by omega) (by omega) (by omega) (unhide H1)).mono ?_
  rintro e w2 ⟨rfl, ho2, hk2'⟩
  have HR2 := hide ((unhide HR1).turn (j := 1) rfl hk2' (OwnN.mk' ho2 (mkN_length _ _)))
  have HS2 := hide ((unhide HS1).keep hk2' (own_apartT (unhide HS1) (unhide H1) (by decide)))
  have hX2 : w2.heap[w.heap.size]? = _ := (hk2'.block _ (Array.getElem?_eq_some_iff.1 (unhide HX1)).1 ((unhide H1).other (unhide HX1) (by decide))).trans (unhide HX1)
  have HX2 := hide hX2
  have hc2 : w2.cell? ⟨w.heap.size, 2, none⟩ = some (.slice a.so m.snaps.length a.sc) := by rw [Joins.cell_of_block hX2]; rfl
  have HK2 := hide ((unhide HK1).trans (hk2'.mono (fun g h => .inr (.inl h))))
  clear ho2 hk2' hX2 hc1
  have HR2' : Hid (OwnA w2 B ((.slice a.ro m.refs.length a.rc, mkN k m.refs.length) :: (.slice a.tq m.table.length a.tc, mkN (k + m.refs.length) m.table.length) :: (.slice a.dq m.data.length a.dc, m.data) :: ts.zip (m.snaps.map (·.table)))) := hide (unhide HR2)
  go_wp2_with fail
  refine (markSnapS_any _ (k + m.refs.length + m.table.length) B m.snaps ts _ (by omega) (fun s hs => by have := unhide HM s hs; omega) (by omega) (by omega) (unhide HLN) (unhide HS2) (unhide HR2').tail).mono ?_
  rintro e w3 ⟨rfl, ho3, ha3, hk3⟩
  have HLM : Hid (ts.length = ((mkSn (k + m.refs.length + m.table.length) m.snaps).map (·.table)).length) := hide (by rw [List.length_map, mkSn_length, unhide HLN])
  have HR3 : Hid (OwnA w3 B ((.slice a.ro m.refs.length a.rc, mkN k m.refs.length) :: (.slice a.tq m.table.length a.tc, mkN (k + m.refs.length) m.table.length) :: (.slice a.dq m.data.length a.dc, m.data) :: ts.zip ((mkSn (k + m.refs.length + m.table.length) m.snaps).map (·.table)))) := hide ((unhide HR2').retail hk3 (fun r hr g hg hS => by
    rcases hS with hS | hS
    · exact own_apartS ((unhide HR2').own r (by simp only [List.mem_cons, List.not_mem_nil, or_false] at hr; rcases hr with rfl | rfl | rfl <;> simp)).row (unhide HS2) (by decide) g hg hS
    · exact (unhide HR2').apart3 (by rw [List.length_map, unhide HLN]) r hr g hg hS) ha3 (by rw [zip_fst _ _ (unhide HLM), zip_fst _ _ (by rw [List.length_map, unhide HLN])]))
  have HS3 := hide ho3
  have hX3 : w3.heap[w.heap.size]? = _ := (hk3.block _ (Array.getElem?_eq_some_iff.1 (unhide HX2)).1 (fun hS => by
    rcases hS with hS | ⟨t, ht, hS⟩
    · exact (unhide HS2).other (unhide HX2) (by decide) hS
    · have hm : t ∈ (ts.zip (m.snaps.map (·.table))).map Prod.fst := by rw [zip_fst _ _ (by rw [List.length_map, unhide HLN])]; exact ht
      obtain ⟨p, hp, rfl⟩ := List.mem_map.1 hm
      exact ((unhide HR2').own p (by simp [hp])).row.other (unhide HX2) (by decide) hS)).trans (unhide HX2)
  have HX3 := hide hX3
  have hc3 : w3.cell? ⟨w.heap.size, 3, none⟩ = some (.slice a.dq m.data.length a.dc) := by rw [Joins.cell_of_block hX3]; rfl
  have HK3 := hide ((unhide HK2).trans (hk3.mono (fun g h => h.elim (fun h => .inr (.inr (.inr (.inl h)))) (fun h => .inr (.inr (.inr (.inr h)))))))
  clear ho3 ha3 hk3 hX3 hc2 HR2
  have H3 := hide (unhide HR3 |>.own (.slice a.dq m.data.length a.dc, m.data) (by simp)).row
  go_wp2_with fail
  refine (markIntS_any _ m.data.length (k + m.refs.length + m.table.length + snK m.snaps) _ B _ (by omega) (by omega) (by omega) (unhide H3)).mono ?_
  rintro e w4 ⟨rfl, ho4, hk4⟩
  have HR4 := hide ((unhide HR3).turn (j := 2) rfl hk4 (OwnN.mk' ho4 (mkN_length _ _)))
  have HS4 := hide ((unhide HS3).keep hk4 (own_apartT (unhide HS3) (unhide H3) (by decide)))
  have HK4 := hide ((unhide HK3).trans (hk4.mono (fun g h => .inr (.inr (.inl h)))))
  clear ho4 hk4 hc3
  go_wp2
  go_ret
  refine ⟨ret_int (by unfold imK; omega), ⟨?_, ?_, ?_⟩, unhide HK4⟩
  · simp only [mkIm, mkSn_length]; exact unhide HLN
  · simp only [mkIm, mkSn_length]; exact unhide HS4
  · simp only [imRows, mkIm, mkN_length]
    exact unhide HR4

set_option maxHeartbeats 3200000 in
theorem heldImage_any (a : Im4) (m : Img) (ts : List Value) (k B : Nat) (w : World) (hr : m.refs.length ≤ 1048576) (ht : m.table.length ≤ 1048576) (hsn : m.snaps.length ≤ 1048576) (hd : m.data.length ≤ 1048576) (hm : ∀ s ∈ m.snaps, s.table.length ≤ 1048576) (hsk : snK m.snaps ≤ 4194304) (hk0 : 0 < k) (hk1 : k ≤ 1000) (ho : OwnIm w B a (mkIm k m) ts) :
    Calls Tryz.prog 12 #[imV a m, .int .i64 k] w fun e w' => e = .returned (.int .i64 ((k + imK m : Nat) : Int)) ∧ Below w.heap.size w w' := by
  have HA := hide (Joins.below_alloc1 w (.cells #[.slice a.ro m.refs.length a.rc, .slice a.tq m.table.length a.tc, .slice a.so m.snaps.length a.sc, .slice a.dq m.data.length a.dc] 30))
  have HX := hide (heap_alloc_new w (.cells #[.slice a.ro m.refs.length a.rc, .slice a.tq m.table.length a.tc, .slice a.so m.snaps.length a.sc, .slice a.dq m.data.length a.dc] 30))
  have HO := hide (ho.below (unhide HA))
  have HM := hide hm
  have HLN : Hid (m.snaps.length = ts.length) := hide (by have := ho.len; simpa only [mkIm, mkSn_length] using this)
  have HR : Hid (OwnA _ B (imRows a (mkIm k m) ts)) := hide (unhide HO).rows
  have HS : Hid (OwnS _ B 72 2 (.slice a.so m.snaps.length a.sc) m.snaps.length (snC (mkSn (k + m.refs.length + m.table.length) m.snaps) ts)) := hide (by have := (unhide HO).s; simpa only [mkIm, mkSn_length] using this)
  have H0 : Hid (OwnR _ B 3 1 (.slice a.ro m.refs.length a.rc) m.refs.length (intV (mkN k m.refs.length))) := hide (by have := (unhide HR |>.own _ (List.mem_cons_self)).row; simpa only [mkIm, mkN_length] using this)
  have H1 : Hid (OwnR _ B 3 1 (.slice a.tq m.table.length a.tc) m.table.length (intV (mkN (k + m.refs.length) m.table.length))) := hide (by have := (unhide HR |>.own (.slice a.tq (mkIm k m).table.length a.tc, (mkIm k m).table) (by simp [imRows])).row; simpa only [mkIm, mkN_length] using this)
  have H3 : Hid (OwnR _ B 3 1 (.slice a.dq m.data.length a.dc) m.data.length (intV (mkN (k + m.refs.length + m.table.length + snK m.snaps) m.data.length))) := hide (by have := (unhide HR |>.own (.slice a.dq (mkIm k m).data.length a.dc, (mkIm k m).data) (by simp [imRows])).row; simpa only [mkIm, mkN_length] using this)
  have HT : Hid (OwnA _ B (ts.zip ((mkSn (k + m.refs.length + m.table.length) m.snaps).map (·.table)))) := hide (unhide HR).tail
  clear ho hm
  go_enter Tryz.func12, Tryz.ntmps12
  go_wp2_with fail
  refine (heldIntS_any _ m.refs.length k B _ (by omega) hk0 (by omega) (unhide H0)).mono ?_
  rintro e w1 ⟨rfl, hb1⟩
  have hX1 := blk_belowI (unhide HX) hb1
  have HX1 := hide hX1
  have hc1 : w1.cell? ⟨w.heap.size, 1, none⟩ = some (.slice a.tq m.table.length a.tc) := by rw [Joins.cell_of_block hX1]; rfl
  have HB1 := hide (fr (unhide HA) hb1)
  have H11 := hide ((unhide H1).below hb1)
  have H31 := hide ((unhide H3).below hb1)
  have HS1 := hide ((unhide HS).below hb1)
  have HT1 := hide ((unhide HT).below hb1)
  clear hb1 hX1
  go_wp2_with fail
  refine (heldIntS_any _ m.table.length (k + m.refs.length) B _ (by omega) (by omega) (by omega) (unhide H11)).mono ?_
  rintro e w2 ⟨rfl, hb2⟩
  have hX2 := blk_belowI (unhide HX1) hb2
  have HX2 := hide hX2
  have hc2 : w2.cell? ⟨w.heap.size, 2, none⟩ = some (.slice a.so m.snaps.length a.sc) := by rw [Joins.cell_of_block hX2]; rfl
  have HB2 := hide (fr (unhide HB1) hb2)
  have H32 := hide ((unhide H31).below hb2)
  have HS2 := hide ((unhide HS1).below hb2)
  have HT2 := hide ((unhide HT1).below hb2)
  clear hb2 hX2 hc1
  go_wp2_with fail
  refine (heldSnapS_any _ (k + m.refs.length + m.table.length) B m.snaps ts _ (by omega) (fun s hs => by have := unhide HM s hs; omega) (by omega) (by omega) (unhide HLN) (unhide HS2) (unhide HT2)).mono ?_
  rintro e w3 ⟨rfl, hb3⟩
  have hX3 := blk_belowI (unhide HX2) hb3
  have hc3 : w3.cell? ⟨w.heap.size, 3, none⟩ = some (.slice a.dq m.data.length a.dc) := by rw [Joins.cell_of_block hX3]; rfl
  have HB3 := hide (fr (unhide HB2) hb3)
  have H33 := hide ((unhide H32).below hb3)
  clear hb3 hX3 hc2
  go_wp2_with fail
  refine (heldIntS_any _ m.data.length (k + m.refs.length + m.table.length + snK m.snaps) B _ (by omega) (by omega) (by omega) (unhide H33)).mono ?_
  rintro e w4 ⟨rfl, hb4⟩
  have HB4 := hide (fr (unhide HB3) hb4)
  clear hb4 hc3
  go_wp2
  go_ret
  exact ⟨ret_int (by unfold imK; omega), unhide HB4⟩

end Go.Proofs.YtpdpnepnfhbonaaGreatDoor

namespace Go.Proofs.YtpdpnepnfhbonaaGreatDoor
open Go.RowKit
set_option linter.unusedVariables false
set_option maxRecDepth 100000

theorem nums_no {xs : List Int} {k : Nat} (hk : k < xs.length) (h : numB xs[k] = false) : xs.all numB = false := all_not (p := numB) hk h
theorem nums_all {xs : List Int} (h : ∀ j (hj : j < xs.length), numB xs[j] = true) : xs.all numB = true := all_of (p := numB) (fun i hi _ => h i hi)

set_option maxHeartbeats 800000 in
theorem areNumbers_any (ao : Option Addr) (cap : Nat) (xs : List Int) (w : World) (hl : xs.length ≤ maxLen) (hc : Is w ao xs) :
    Calls Tryz.prog 96 #[.slice ao xs.length cap] w fun e w' => e = .returned (.bool (xs.all numB)) ∧ w' = w := by
  have HC := hide hc
  clear hc
  unfold maxLen at hl
  obtain ⟨R, HR⟩ : ∃ R, Hid (R = xs.all numB) := ⟨_, hide rfl⟩
  rw [← unhide HR]
  go_enter Tryz.func96, Tryz.ntmps96
  go_wp2
  go_loop [7] (fun i => ∃ k : Nat, k ≤ xs.length ∧ i = .int .i64 k ∧ Hid (∀ j (h : j < xs.length), j < k → numB xs[j] = true)) (fun i => xs.length - (intOf i).toNat)
  case atStart => exact ⟨0, Nat.zero_le _, rfl, hide (fun j _ h => by omega)⟩
  case round =>
    obtain ⟨k, hk, rfl, HA⟩ := hrel
    by_cases hlt : k < xs.length
    · obtain ⟨b, off, rfl, hc⟩ := unhide HC k hlt
      cases hn : numB xs[k]
      · have HF := hide (nums_no hlt hn)
        go_wp2_with (go_at_call 100; refine (isNumber_any _ _).mono ?_; rintro e w' ⟨rfl, hw⟩; replace hw := hw.symm; subst hw; rw [hn])
        go_ret
        exact ⟨ret_bool (by rw [unhide HR, unhide HF]), rfl⟩
      · have HN := hide (all_succ hlt (unhide HA) hn)
        go_wp2_with (go_at_call 100; refine (isNumber_any _ _).mono ?_; rintro e w' ⟨rfl, hw⟩; replace hw := hw.symm; subst hw; rw [hn])
        go_round
        case rel => exact ⟨k + 1, by omega, by go_num, HN⟩
        case measure => simp [intOf]; omega
    · have HF := hide (nums_all (fun j h => unhide HA j h (by omega)))
      go_wp2
      go_ret
      exact ⟨ret_bool (by rw [unhide HR, unhide HF]), rfl⟩

end Go.Proofs.YtpdpnepnfhbonaaGreatDoor

namespace Go.Proofs.YtpdpnepnfhbonaaGreatDoor
open Go.RowKit
set_option linter.unusedVariables false
set_option maxRecDepth 100000

end Go.Proofs.YtpdpnepnfhbonaaGreatDoor

namespace Go.Proofs.YtpdpnepnfhbonaaGreatDoor
set_option linter.unusedVariables false

end Go.Proofs.YtpdpnepnfhbonaaGreatDoor

namespace Go.Proofs.YtpdpnepnfhbonaaGreatDoor
open Go.RowKit
set_option linter.unusedVariables false
set_option maxRecDepth 100000

set_option maxHeartbeats 800000 in
theorem tableOK_spec (ao : Option Addr) (cap : Nat) (xs : List Int) (w : World) (hl : xs.length ≤ maxLen) (hc : Is w ao xs) :
    Calls Tryz.prog 65 #[.slice ao xs.length cap] w fun e w' => e = .returned (.bool (tbB xs)) ∧ w' = w := by
  have HC := hide hc
  clear hc
  unfold maxLen at hl
  by_cases hlong : 4096 < xs.length
  · have HF := hide (tbB_nolen (xs := xs) (by omega))
    go_enter Tryz.func65, Tryz.ntmps65
    go_wp2
    go_ret
    exact ⟨ret_bool (unhide HF).symm, rfl⟩
  go_enter Tryz.func65, Tryz.ntmps65
  go_wp2
  go_loop [3] (fun i => ∃ k : Nat, k ≤ xs.length ∧ i = .int .i64 k ∧ Hid (∀ j (h : j < xs.length), j < k → ent1 xs[j] = true)) (fun i => xs.length - (intOf i).toNat)
  case atStart => exact ⟨0, Nat.zero_le _, rfl, hide (fun j _ h => by omega)⟩
  case round =>
    obtain ⟨k, hk, rfl, HA⟩ := hrel
    by_cases hlt : k < xs.length
    · obtain ⟨b, off, rfl, hc⟩ := unhide HC k hlt
      by_cases hn : ent1 xs[k] = true
      · have HN := hide (all_succ hlt (unhide HA) hn)
        have hn' : betw xs[k] 0 25 = true := hn
        clear hn
        go_wp2_with (go_at_call 38; refine (in_any _ _ _ _).mono ?_; rintro e w' ⟨rfl, rfl⟩)
        go_round
        case rel => exact ⟨k + 1, by omega, by go_num, HN⟩
        case measure => simp [intOf]; omega
      · have hn0 : ent1 xs[k] = false := by simpa using hn
        have hn' : betw xs[k] 0 25 = false := hn0
        have HF := hide (tbB_noat hlt hn0)
        clear hn hn0
        go_wp2_with (go_at_call 38; refine (in_any _ _ _ _).mono ?_; rintro e w' ⟨rfl, rfl⟩)
        go_ret
        exact ⟨ret_bool (unhide HF).symm, rfl⟩
    · have HF := hide (tbB_all (fun j h => unhide HA j h (by omega)))
      go_wp2
      go_ret
      exact ⟨ret_bool (by rw [unhide HF, Bool.eq_iff_iff]; simp; omega), rfl⟩

def tdO (s : ByteArray) : List Int := if tdB s = true then openL s 3 else []
set_option maxHeartbeats 1600000 in
theorem l09Decode_any (s : ByteArray) (w : World) (hs : s.size ≤ 65536) :
    Calls Tryz.prog 42 #[.string s] w fun e w' => ∃ v, e = .returned (.tuple #[v, .bool (tdB s)]) ∧ OwnN w' w.heap.size v (tdO s) ∧ Below w.heap.size w w' := by
  have HOL : Hid ((openL s 3).length ≤ maxLen) := hide (by
    have h1 := unL_length (bodyT s)
    have h2 := bodyT_size s
    unfold openL maxLen
    split
    · rw [h1]; omega
    · simp)
  go_enter Tryz.func42, Tryz.ntmps42
  go_wp2_with fail
  refine (l02Open_any s 3 _ hs).mono ?_
  rintro e w1 ⟨v, rfl, ⟨qo, qa, rfl, ho⟩, hb1⟩
  have HB1 := hide hb1
  have HI := hide (ownRN ho)
  have HO := hide ho
  clear ho hb1
  cases hop : openB s 3
  · have HE : Hid (tdB s = false ∧ tdO s = []) := hide ⟨by rw [tdB, hop]; rfl, by rw [tdO, tdB, hop]; rfl⟩
    clear hop
    go_wp2
    go_ret2
    exact ⟨.slice (some ⟨w1.heap.size, 0, none⟩) 0 0, ret_nb rfl (unhide HE).1.symm, by rw [(unhide HE).2]; exact OwnN.nil _ _ _, fr (unhide HB1) (Joins.below_alloc1 _ _)⟩
  · cases hb : tbB (openL s 3)
    · have HE : Hid (tdB s = false ∧ tdO s = []) := hide ⟨by rw [tdB, hop, hb]; rfl, by rw [tdO, tdB, hop, hb]; rfl⟩
      clear hop
      generalize openL s 3 = xs at *
      go_wp2_with (go_at_call 65; refine (tableOK_spec _ _ xs _ (unhide HOL) (unhide HI)).mono ?_; rintro e w' ⟨rfl, hw⟩; replace hw := hw.symm; subst hw; rw [hb])
      go_ret2
      exact ⟨.slice (some ⟨w1.heap.size, 0, none⟩) 0 0, ret_nb rfl (unhide HE).1.symm, by rw [(unhide HE).2]; exact OwnN.nil _ _ _, fr (unhide HB1) (Joins.below_alloc1 _ _)⟩
    · have HE : Hid (tdB s = true ∧ tdO s = openL s 3) := hide ⟨by rw [tdB, hop, hb]; rfl, by rw [tdO, tdB, hop, hb]; rfl⟩
      clear hop
      generalize openL s 3 = xs at *
      go_wp2_with (go_at_call 65; refine (tableOK_spec _ _ xs _ (unhide HOL) (unhide HI)).mono ?_; rintro e w' ⟨rfl, hw⟩; replace hw := hw.symm; subst hw; rw [hb])
      go_ret2
      exact ⟨.slice qo xs.length qa, ret_nb rfl (unhide HE).1.symm, by rw [(unhide HE).2]; exact ⟨qo, qa, rfl, unhide HO⟩, unhide HB1⟩

set_option maxHeartbeats 1600000 in
theorem l09Clusters_any (ao : Option Addr) (cap : Nat) (xs : List Int) (w : World) (hl : xs.length ≤ 1048576) (hi : ∀ j (h : j < xs.length), -1000 ≤ xs[j] ∧ xs[j] ≤ 1000) (hc : Is w ao xs) :
    Calls Tryz.prog 84 #[.slice ao xs.length cap] w fun e w' => ∃ v, e = .returned v ∧ OwnN w' w.heap.size v (clA xs) ∧ Below w.heap.size w w' := by
  obtain ⟨j0, hj, hy0, hy1, hy2⟩ := info_parts infoM
  have HC := hide hc
  have HI := hide hi
  have HA : Hid (Below w.heap.size w (w.alloc (.cells #[] 3))) := hide (Joins.below_alloc1 _ _)
  clear hc hi
  go_enter Tryz.func84, Tryz.ntmps84
  go_wp2
  go_loopw [3, 4] (fun o i wr => ∃ (k : Nat) (ys : List Int) (qo : Option Addr) (qa : Nat), k ≤ xs.length ∧ i = .int .i64 k ∧ o = .slice qo ys.length qa ∧ Hid (ys = clTo xs k) ∧ Hid (OwnR wr w.heap.size 3 1 (.slice qo ys.length qa) ys.length (intV ys)) ∧ Hid (Below w.heap.size w wr)) (fun _ i _ => xs.length - (intOf i).toNat)
  case atStart => exact ⟨0, [], _, _, Nat.zero_le _, rfl, rfl, hide rfl, hide (.inl ⟨rfl, rfl, _, rfl⟩), HA⟩
  case round =>
    obtain ⟨k, ys, qo, qa, hk, rfl, rfl, HE, HO, HB⟩ := hrel
    by_cases hlt : k < xs.length
    · obtain ⟨b, off, rfl, hcl⟩ := (unhide HC).below (unhide HB) k hlt
      obtain ⟨i0, i1⟩ := unhide HI k hlt
      by_cases h2 : 2 ≤ xs[k]
      · have HS := hide (clTo_data hlt h2)
        have HYL : Hid (ys.length ≤ 1048576) := hide (by rw [unhide HE]; have := clTo_len xs k; omega)
        have hyl := unhide HYL
        have HOA := hide ((unhide HO).below (Joins.below_alloc1 _ (.cells #[.int .i64 (xs[k] - 2)] 3)))
        have HBA := hide (fr (unhide HB) (Joins.below_alloc1 _ (.cells #[.int .i64 (xs[k] - 2)] 3)))
        have HSZ := hide (unhide HB).size
        go_wp2_with (at_builtin; refine wpList_append_one rfl _ _ 27 rfl w.heap.size 3 j0 (.int .i64 0) 1 8 Tryz.underlying27 hj hy0 hy1 hy2 rfl (by omega) qo ys.length qa (intV ys) rfl (unhide HOA) (by have := unhide HSZ; simp; omega) ⟨wr.heap.size, 0, none⟩ _ [.int .i64 (xs[k] - 2)] rfl rfl (byte_news wr _ _) (int_one _) (by unfold maxLen; omega) (by omega) ?_; intro g2 cap2 wA hoA hkA; have HSF := hide (And.intro hoA (keep_below (unhide HBA) (unhide HOA) (Nat.le_refl _) hkA)); clear hoA hkA)
        go_roundw
        case rel => exact ⟨k + 1, ys ++ [xs[k] - 2], some ⟨g2, 0, none⟩, cap2, by omega, by go_num, by simp, hide (by rw [unhide HS, unhide HE]), hide (by rw [List.length_append, intV_snoc]; exact .inr ⟨by simp, (unhide HSF).1⟩), hide (unhide HSF).2⟩
        case measure => simp [intOf]; omega
      · have HS := hide (clTo_none hlt h2)
        go_wp2
        go_roundw
        case rel => exact ⟨k + 1, ys, qo, qa, by omega, by go_num, rfl, hide (by rw [unhide HS, unhide HE]), HO, HB⟩
        case measure => simp [intOf]; omega
    · have HS : Hid (clA xs = ys) := hide (by rw [unhide HE, clA, show k = xs.length by omega])
      go_wp2
      go_ret
      exact ⟨.slice qo ys.length qa, rfl, by rw [unhide HS]; exact ⟨qo, qa, rfl, unhide HO⟩, unhide HB⟩

end Go.Proofs.YtpdpnepnfhbonaaGreatDoor

namespace Go.Proofs.YtpdpnepnfhbonaaGreatDoor
open Go.RowKit
set_option linter.unusedVariables false
set_option maxRecDepth 100000

theorem infoTb : (Tryz.prog.info? 27).map (fun i => (i.zero, i.size, i.bytes)) = some (some (.slice none 0 0), 1, 24) := by kernel_rfl
theorem infoIn : (Tryz.prog.info? 3).map (fun i => (i.zero, i.size, i.bytes)) = some (some (.int .i64 0), 1, 8) := by kernel_rfl
theorem slice_one (ao : Option Addr) (n c : Nat) : ∀ u ∈ [Value.slice ao n c], u.oneCell' = true := by
  intro u hu
  simp at hu
  subst hu
  rfl
def TabV (w : World) (vs : List Value) (ts : List (List Int)) : Prop := vs.length = ts.length ∧ ∀ j (h : j < ts.length), ∃ tq tc, vs[j]? = some (.slice tq ts[j].length tc) ∧ Is w tq ts[j]
theorem TabV.snoc {w : World} {vs : List Value} {ts : List (List Int)} {t : List Int} {tq : Option Addr} {tc : Nat} (h : TabV w vs ts) (ht : Is w tq t) : TabV w (vs ++ [.slice tq t.length tc]) (ts ++ [t]) := by
  refine ⟨by simp [h.1], fun j hj => ?_⟩
  rw [List.length_append, List.length_singleton] at hj
  by_cases e : j < ts.length
  · obtain ⟨a, b, h1, h2⟩ := h.2 j e
    refine ⟨a, b, ?_, ?_⟩
    · rw [List.getElem?_append_left (by rw [h.1]; exact e), List.getElem_append_left e]; exact h1
    · rw [List.getElem_append_left e]; exact h2
  · obtain rfl : j = ts.length := by omega
    refine ⟨tq, tc, ?_, ?_⟩
    · rw [List.getElem?_append_right (by rw [h.1]; exact Nat.le_refl _), h.1]; simp
    · simpa using ht
theorem imTabs_len (m : Img) : (imTabs m).length = m.snaps.length + 1 := by simp [imTabs]
theorem imTabs_take {m : Img} {k : Nat} (h : k < m.snaps.length) : (imTabs m).take (k + 1 + 1) = (imTabs m).take (k + 1) ++ [m.snaps[k].table] := by
  rw [List.take_succ_eq_append_getElem (by rw [imTabs_len]; omega)]
  simp [imTabs]
theorem clA_in {t : List Int} (h : tbB t = true) : ∀ j (hj : j < (clA t).length), 0 ≤ (clA t)[j] ∧ (clA t)[j] ≤ 23 := by
  intro j hj
  have hm := List.getElem_mem hj
  unfold clA clTo at hm
  rw [List.mem_filterMap] at hm
  obtain ⟨e, he, h2⟩ := hm
  rw [List.take_length] at he
  obtain ⟨i, hi, rfl⟩ := List.mem_iff_getElem.1 he
  have := tbB_at h i hi
  by_cases h3 : 2 ≤ t[i]
  · rw [if_pos h3] at h2
    have e : (clA t)[j] = t[i] - 2 := by unfold clA clTo; exact (Option.some.inj h2).symm
    omega
  · rw [if_neg h3] at h2; cases h2
theorem clA_len {t : List Int} (h : tbB t = true) : (clA t).length ≤ 12 := by
  have := clTo_len t t.length
  have := tbB_len h
  unfold clA
  omega
def CtI (ns : List Int) (b : Int) : Prop := ns.length = 24 ∧ ∀ i (h : i < ns.length), 0 ≤ ns[i] ∧ ns[i] ≤ b
theorem incr_set (ns : List Int) (c : Nat) : incr ns (c : Int) = ns.set c (ns.getD c 0 + 1) := by unfold incr; rw [Int.toNat_natCast]
theorem CtI.up {ns : List Int} {b : Int} {c : Nat} (h : CtI ns b) (hc : c < 24) : CtI (incr ns c) (b + 1) := by
  rw [incr_set]
  refine ⟨by rw [List.length_set]; exact h.1, fun i hi => ?_⟩
  rw [List.length_set] at hi
  have hb := h.2 i hi
  rw [List.getElem_set]
  by_cases e : c = i
  · have h2 : ns.getD c 0 = ns[i] := by simp [List.getD, e, hi]
    rw [if_pos e, h2]
    omega
  · rw [if_neg e]
    omega
theorem made_rep (q : Nat) (v : Value) : (madeCells #[v] q).toList = List.replicate q v := by
  apply List.ext_getElem?
  intro i
  simp [madeCells, List.getElem?_replicate, Nat.mod_one]
  by_cases hi : i < q <;> simp [hi]
theorem CtI.mono {ns : List Int} {b b' : Int} (h : CtI ns b) (hb : b ≤ b') : CtI ns b' := ⟨h.1, fun i hi => ⟨(h.2 i hi).1, by have := (h.2 i hi).2; omega⟩⟩
theorem CtI.zero : CtI zero24 0 := ⟨rfl, by decide⟩
theorem incr_take {L : List Int} {k : Nat} (h : k < L.length) (ns : List Int) : (L.take (k + 1)).foldl incr ns = incr ((L.take k).foldl incr ns) L[k] := by
  rw [List.take_succ_eq_append_getElem h, List.foldl_append]; rfl
theorem cntT_take {ts : List (List Int)} {k : Nat} (h : k < ts.length) (ns : List Int) : (ts.take (k + 1)).foldl cnt1T ns = cnt1T ((ts.take k).foldl cnt1T ns) ts[k] := by
  rw [List.take_succ_eq_append_getElem h, List.foldl_append]; rfl
theorem own_setI {w : World} {B n cap g j : Nat} {xs : List Int} (h : OwnR w B 3 1 (.slice (some ⟨g, 0, none⟩) n cap) n (intV xs)) (hp : 0 < n) (y : Int) : OwnR (w.setCell ⟨g, j, none⟩ (.int .i64 y)) B 3 1 (.slice (some ⟨g, 0, none⟩) n cap) n (intV (xs.set j y)) := by
  refine .inr ⟨hp, ?_⟩
  have := ((h.row hp).stored j (.int .i64 y)).1
  rwa [show (intV xs).set j (.int .i64 y) = intV (xs.set j y) by simp [intV, List.map_set]] at this

set_option maxHeartbeats 3200000 in
theorem l10Count_any (a : Im4) (m : Img) (w : World) (hs : m.snaps.length ≤ 3) (htb : ∀ t ∈ imTabs m, tbB t = true) (hc : ImS w a m) :
    Calls Tryz.prog 68 #[imV a m] w fun e w' => ∃ v, e = .returned v ∧ OwnN w' w.heap.size v (imCnt m) ∧ Below w.heap.size w w' := by
  have HA := hide (Joins.below_alloc1 w (.cells #[.slice a.ro m.refs.length a.rc, .slice a.tq m.table.length a.tc, .slice a.so m.snaps.length a.sc, .slice a.dq m.data.length a.dc] 30))
  have HV := hide (VarM.new w 30 (.slice a.ro m.refs.length a.rc) (.slice a.tq m.table.length a.tc) (.slice a.so m.snaps.length a.sc) (.slice a.dq m.data.length a.dc))
  have HC := hide hc
  have HTB := hide htb
  clear hc htb
  obtain ⟨i0, hi, hz0, hz1, hz2⟩ := info_parts infoIn
  obtain ⟨j0, hj, hy0, hy1, hy2⟩ := info_parts infoTb
  go_enter Tryz.func68, Tryz.ntmps68
  go_upto_region 1 with fail
  revert HA HV
  generalize (w.alloc _) = W0
  intro HA HV
  have HSZ0 : Hid (w.heap.size < W0.heap.size) := hide (unhide HV).lt
  go_wp2_with (first | (at_make; refine wpList_make_full _ rfl _ _ 27 rfl W0.heap.size 3 i0 _ 1 Tryz.underlying27 hi hz0 hz1 _ _ _ _ 24 rfl rfl rfl rfl ?c1 ?c2 ?c3 ?_))
  case c1 => rw [hz2]; omega
  case c2 => unfold maxLen; omega
  case c3 => exact Nat.le_refl _
  intro w1 hown hgrow
  have hB1 : Below W0.heap.size W0 w1 := (Below.refl _ _).grown hgrow (Nat.le_refl _) (fun _ h => by cases h)
  have HO1 : Hid (OwnR w1 W0.heap.size 3 1 (.slice (some ⟨W0.heap.size, 0, none⟩) 24 24) 24 (intV zero24)) := hide (by
    rw [show intV zero24 = (madeCells #[Value.int .i64 0] 24).toList from (made_rep 24 _).symm]
    exact OwnR.of hown (fun h => by cases h))
  have HB1 := hide (fr (unhide HA) hB1)
  have HV1 := hide ((unhide HV).below hB1)
  have HG : Hid (W0.heap.size < w1.heap.size) := hide ((unhide HO1).ge _ (own_of (by omega) rfl)).2
  clear hown hgrow hB1 HV HA
  generalize hGG : W0.heap.size = G at *
  clear hGG
  obtain ⟨c0, c1, c2, c3⟩ := (unhide HV1).cells
  have HOT : Hid (OwnR (w1.alloc (.cells #[.slice a.tq m.table.length a.tc] 27)) w1.heap.size 27 1 (.slice (some ⟨w1.heap.size, 0, none⟩) 1 1) 1 [.slice a.tq m.table.length a.tc]) := hide (.inr ⟨by omega, rfl, .inr ⟨w1.heap.size, 1, #[.slice a.tq m.table.length a.tc], rfl, Nat.le_refl _, heap_alloc_new w1 _, Nat.le_refl _, by unfold maxLen; omega, rfl, rfl⟩⟩)
  have HBA := hide (Joins.below_alloc1 w1 (.cells #[.slice a.tq m.table.length a.tc] 27))
  go_upto_region 4 with fail
  revert HOT HBA
  generalize (w1.alloc _) = W1
  intro HOT HBA
  clear c0 c1 c2 c3
  go_loopw [4, 5] (fun o i wr => ∃ (k : Nat) (qo : Option Addr) (qa : Nat) (vs : List Value), k ≤ m.snaps.length ∧ i = .int .i64 k ∧ o = .slice qo (k + 1) qa ∧ Hid (OwnR wr w1.heap.size 27 1 (.slice qo (k + 1) qa) (k + 1) vs) ∧ Hid (TabV w vs ((imTabs m).take (k + 1))) ∧ Hid (Below w1.heap.size w1 wr)) (fun _ i _ => m.snaps.length - (intOf i).toNat)
  case atStart => exact ⟨0, _, _, [.slice a.tq m.table.length a.tc], Nat.zero_le _, rfl, rfl, HOT, hide (by
    have h0 : TabV w [] [] := ⟨rfl, fun j h => by simp at h⟩
    have := h0.snoc (tc := a.tc) (unhide HC).t
    simpa [imTabs] using this), HBA⟩
  case round =>
    clear HOT HBA
    obtain ⟨k, qo, qa, vs, hk, rfl, rfl, HO, HT, HB⟩ := hrel
    obtain ⟨c0, c1, c2, c3⟩ := ((unhide HV1).below (unhide HB)).cells
    by_cases hlt : k < m.snaps.length
    · obtain ⟨b, off, tq, tc, eb, hn0, ht0, hIs, hz, htl⟩ := ((unhide HC).s.below (fr (unhide HB1) (unhide HB))) k hlt
      obtain ⟨b', off', tq', tc', eb', _, ht0', hIs', _, _⟩ := (unhide HC).s k hlt
      rw [eb] at eb'
      cases eb'
      have ett : Value.slice tq' m.snaps[k].table.length tc' = .slice tq m.snaps[k].table.length tc := by
        have h1 := ((fr (unhide HB1) (unhide HB)).cell (p := ⟨b, off + k * 2 + 1, none⟩) (World.block_lt_of_cell? _ _ ht0')).trans ht0'
        rw [ht0] at h1
        exact (Option.some.inj h1).symm
      rw [eb] at c2
      clear eb
      have hlti : (k : Int) < (m.snaps.length : Int) := by omega
      have HT' : Hid (TabV w (vs ++ [.slice tq m.snaps[k].table.length tc]) ((imTabs m).take (k + 1 + 1))) := hide (by
        rw [imTabs_take hlt, ← ett]
        exact (unhide HT).snoc hIs')
      have HOA := hide ((unhide HO).below (Joins.below_alloc1 _ (.cells #[.slice tq m.snaps[k].table.length tc] 27)))
      have HBA := hide (fr (unhide HB) (Joins.below_alloc1 _ (.cells #[.slice tq m.snaps[k].table.length tc] 27)))
      have HSZ := hide (unhide HB).size
      clear hIs hIs' ht0' ett hz htl
      go_wp2_with (at_builtin; refine wpList_append_one rfl _ _ 103 rfl w1.heap.size 27 j0 (.slice none 0 0) 1 24 Tryz.underlying103 hj hy0 hy1 hy2 rfl (by omega) qo (k + 1) qa vs rfl (unhide HOA) (by have := unhide HSZ; simp; omega) ⟨wr.heap.size, 0, none⟩ _ [.slice tq m.snaps[k].table.length tc] rfl rfl (byte_news wr _ _) (slice_one _ _ _) (by unfold maxLen; omega) (by omega) ?_; intro g2 cap2 wA hoA hkA; have HSF := hide (And.intro hoA (keep_below (unhide HBA) (unhide HOA) (Nat.le_refl _) hkA)); clear hoA hkA)
      go_roundw
      case rel => exact ⟨k + 1, some ⟨g2, 0, none⟩, cap2, vs ++ [.slice tq m.snaps[k].table.length tc], by omega, by go_num, rfl, hide (.inr ⟨by omega, (unhide HSF).1⟩), HT', hide (unhide HSF).2⟩
      case measure => simp [intOf]; omega
    · obtain rfl : k = m.snaps.length := by omega
      have HTT : Hid (TabV w vs (imTabs m)) := hide (by
        have := unhide HT
        rwa [List.take_of_length_le (by rw [imTabs_len]; exact Nat.le_refl _)] at this)
      have HLT := hide (imTabs_len m)
      have HO2 := hide ((unhide HO1).below (unhide HB))
      have HB2 := hide (fr (unhide HB1) (unhide HB))
      have HSZ1 := hide (unhide HB).size
      have HCN : Hid (imCnt m = (imTabs m).foldl cnt1T zero24) := hide rfl
      clear HT HV1 HO1 HB1
      generalize imTabs m = ts at *
      generalize hNN : m.snaps.length + 1 = N at *
      have hN4 : N ≤ 4 := by omega
      have HNN : Hid ((m.snaps.length : Int) + 1 = (N : Int)) := hide (by omega)
      clear hNN
      go_wp2
      clear c0 c1 c2 c3
      go_loopw [6] (fun i wq => ∃ k : Nat, k ≤ N ∧ i = .int .i64 k ∧ Hid (CtI ((ts.take k).foldl cnt1T zero24) (20 * k)) ∧ Hid (OwnR wq G 3 1 (.slice (some ⟨G, 0, none⟩) 24 24) 24 (intV ((ts.take k).foldl cnt1T zero24))) ∧ Hid (OwnR wq w1.heap.size 27 1 (.slice qo N qa) N vs) ∧ Hid (Below w.heap.size w wq)) (fun i _ => N - (intOf i).toNat)
      case atStart => exact ⟨0, Nat.zero_le _, rfl, hide (by simpa using CtI.zero), by simpa using HO2, HO, HB2⟩
      case round =>
        clear HO HO2 HB2 HB
        obtain ⟨k, hk, rfl, HI, HO, HQ, HB⟩ := hrel
        by_cases hlt : k < N
        · have hkt : k < ts.length := by rw [unhide HLT]; exact hlt
          obtain ⟨tq, tc, hvk, hIs⟩ := (unhide HTT).2 k hkt
          obtain ⟨q2, cap2, cur2, eq2, _, _⟩ := own_form (by omega) ((unhide HQ).row (by omega))
          have hcell := ((unhide HQ).row (by omega))
          rw [eq2] at hcell
          have hck := (hcell.cellAt k (by omega)).trans hvk
          cases eq2
          have HIS := hide (hIs.below (unhide HB))
          have htk := unhide HTB ts[k] (List.getElem_mem hkt)
          have HTX := hide (tbB_len htk)
          have HIN : Hid (∀ j (h : j < ts[k].length), -1000 ≤ ts[k][j] ∧ ts[k][j] ≤ 1000) := hide (fun j h => by have := tbB_at htk j h; omega)
          have HCI := hide (clA_in htk)
          have HCL := hide (clA_len htk)
          have HCT := hide (cntT_take hkt zero24)
          clear hIs hcell hvk htk
          go_wp2_with fail
          refine (l09Clusters_any tq tc ts[k] _ (by have := unhide HTX; omega) (unhide HIN) (unhide HIS)).mono ?_
          rintro e w3 ⟨v, rfl, ⟨lo, la, rfl, hol⟩, hb3⟩
          have HB3 := hide (fr (unhide HB) hb3)
          have HO3 := hide ((unhide HO).below hb3)
          have HQ3 := hide ((unhide HQ).below hb3)
          have HL3 := hide hol
          have HGS : Hid (G < wr.heap.size) := hide ((unhide HO).ge _ (own_of (by omega) rfl)).2
          have HC1 : Hid (cnt1T ((ts.take k).foldl cnt1T zero24) ts[k] = (clA ts[k]).foldl incr ((ts.take k).foldl cnt1T zero24)) := hide rfl
          clear hol hb3 hck
          generalize clA ts[k] = L at *
          generalize hNS : (ts.take k).foldl cnt1T zero24 = ns at *
          clear hNS
          have hL12 := unhide HCL
          go_wp2
          go_loopw [8] (fun i wq => ∃ j : Nat, j ≤ L.length ∧ i = .int .i64 j ∧ Hid (CtI ((L.take j).foldl incr ns) (20 * k + j)) ∧ Hid (OwnR wq G 3 1 (.slice (some ⟨G, 0, none⟩) 24 24) 24 (intV ((L.take j).foldl incr ns))) ∧ Hid (Keep (fun g => g = G) w3 wq)) (fun i _ => L.length - (intOf i).toNat)
          case atStart => exact ⟨0, Nat.zero_le _, rfl, hide (by simpa using unhide HI), by simpa using HO3, hide (Keep.refl _ _)⟩
          case round =>
            obtain ⟨j, hj', rfl, HJ, HOJ, HKJ⟩ := hrel
            by_cases hjl : j < L.length
            · have HLJ := hide ((unhide HL3).keep (unhide HKJ) (fun g hg he => by have h1 := ((unhide HL3).ge g hg).1; have h2 := unhide HGS; omega))
              obtain ⟨b, off, rfl, hcl⟩ := (ownRN (unhide HLJ)) j hjl
              obtain ⟨l0, l1⟩ := unhide HCI j hjl
              obtain ⟨c, hcc⟩ := Int.eq_ofNat_of_zero_le l0
              rw [hcc] at hcl
              have hc24 : c < 24 := by omega
              have hc24i : (c : Int) < 24 := by omega
              have HST := hide (incr_take hjl ns)
              rw [hcc] at HST
              clear hcc l0 l1
              generalize hMS : (L.take j).foldl incr ns = ms at *
              clear hMS
              have hlen := (unhide HJ).1
              have hcm : c < ms.length := by omega
              obtain ⟨x0, x1⟩ := (unhide HJ).2 c hcm
              have hx := ((unhide HOJ).row (by omega)).cellAt c (by omega)
              rw [intV_get hcm] at hx
              have hf := ((unhide HOJ).row (by omega)).frozenAt c
              have HJ' : Hid (CtI ((L.take (j + 1)).foldl incr ns) (20 * k + (j + 1 : Nat))) := hide (by rw [unhide HST]; exact ((unhide HJ).up hc24).mono (by omega))
              have HO' : Hid (OwnR (wr.setCell ⟨G, c, none⟩ (.int .i64 (ms[c] + 1))) G 3 1 (.slice (some ⟨G, 0, none⟩) 24 24) 24 (intV ((L.take (j + 1)).foldl incr ns))) := hide (by
                rw [unhide HST]
                have e : incr ms (c : Int) = ms.set c (ms[c] + 1) := by rw [incr_set]; simp [List.getD, hcm]
                rw [e]
                exact own_setI (unhide HOJ) (by omega) _)
              have HK' := hide ((unhide HKJ).setCell (p := ⟨G, c, none⟩) rfl (.int .i64 (ms[c] + 1)))
              clear hlen
              generalize ms[c] = X at *
              have hw1 : IntKind.i64.wrap (X + 1) = X + 1 := by rw [IntKind.wrap_i64]; omega
              go_wp2
              go_roundw
              case rel => exact ⟨j + 1, by omega, by go_num, HJ', HO', HK'⟩
              case measure => simp [intOf]; omega
            · obtain rfl : j = L.length := by omega
              have HTL : Hid (L.take L.length = L) := hide (List.take_length)
              rw [List.take_length] at HJ HOJ
              have HQ4 := hide ((unhide HQ3).keep (unhide HKJ) (fun g hg he => own_apart (unhide HQ3) (unhide HO3) (by decide) g hg (own_of (by omega) he.symm)))
              have HB4 := hide ((unhide HB3).trans ((unhide HKJ).below (unhide HB3).size (fun g hg => by have := unhide HSZ0; omega)))
              have HI' : Hid (CtI ((ts.take (k + 1)).foldl cnt1T zero24) (20 * (k + 1 : Nat))) := hide (by rw [unhide HCT, unhide HC1]; exact (unhide HJ).mono (by omega))
              have HO' : Hid (OwnR wr G 3 1 (.slice (some ⟨G, 0, none⟩) 24 24) 24 (intV ((ts.take (k + 1)).foldl cnt1T zero24))) := hide (by rw [unhide HCT, unhide HC1]; exact unhide HOJ)
              go_wp2
              go_roundw
              case rel => exact ⟨k + 1, by omega, by go_num, HI', HO', HQ4, HB4⟩
              case measure => simp [intOf]; omega
        · have hkN : k = N := by omega
          subst hkN
          have HTK : Hid ((ts.take k).foldl cnt1T zero24 = imCnt m) := hide (by rw [unhide HCN, List.take_of_length_le (by rw [unhide HLT]; exact Nat.le_refl _)])
          have HLC := hide (imCnt_len m)
          go_wp2
          go_ret
          refine ⟨.slice (some ⟨G, 0, none⟩) 24 24, rfl, ?_, unhide HB⟩
          have h := unhide HO
          rw [unhide HTK] at h
          refine ⟨some ⟨G, 0, none⟩, 24, by rw [unhide HLC], ?_⟩
          rw [unhide HLC]
          exact h.base (by have := unhide HSZ0; omega)

end Go.Proofs.YtpdpnepnfhbonaaGreatDoor

namespace Go.Proofs.YtpdpnepnfhbonaaGreatDoor
open Go.RowKit
set_option linter.unusedVariables false
set_option maxRecDepth 100000

def imNew (n : Nat) : Img := ⟨zero24, List.replicate n 0, [], zero24⟩
def im0 : Img := ⟨[], [], [], []⟩
theorem mkZ (n : Nat) (hn : n ≤ 1000) : ∀ W : World, (Instr.makeSlice 27 (.int .i64 (n : Int)) (.int .i64 (n : Int))).run Tryz.prog W = .ok (.slice (some ⟨W.heap.size, 0, none⟩) n n) (W.alloc (.cells (intV (List.replicate n 0)).toArray 3)) := by
  obtain ⟨i0, hi, hz0, hz1, hz2⟩ := info_parts infoIn
  intro W
  have := run_make (P := Tryz.prog) W 27 3 i0 (.int .i64 0) Tryz.underlying27 hi hz0 .i64 .i64 n n (by omega) (by omega) (by rw [hz2]; omega) (by omega)
  rw [hz1] at this
  have e : madeCells #[Value.int .i64 0] n = (intV (List.replicate n 0)).toArray := by
    apply Array.toList_inj.1
    rw [made_rep]
    simp [intV]
  rw [show (Value.int .i64 0).cells = #[Value.int .i64 0] from rfl, Int.toNat_natCast, Nat.mul_one, e] at this
  exact this
section
variable (w : World) (r a b c d : Obj)
end
theorem own_made {W : World} {B g n : Nat} {xs : List Int} (h : W.heap[g]? = some (.cells (intV xs).toArray 3 (0, 0))) (hB : B ≤ g) (hn : xs.length = n) (hl : n ≤ 1000) : OwnN W B (.slice (some ⟨g, 0, none⟩) n n) xs := by
  refine OwnN.mk' ?_ hn
  subst hn
  rcases Nat.eq_zero_or_pos xs.length with h0 | h0
  · refine .inl ⟨h0, ?_, some ⟨g, 0, none⟩, by rw [h0]⟩
    rw [List.eq_nil_of_length_eq_zero h0]; rfl
  · exact .inr ⟨h0, by rw [intV_length]; omega, .inr ⟨g, xs.length, (intV xs).toArray, rfl, hB, h, Nat.le_refl _, by unfold maxLen; omega, by simp [intV_length], by rw [List.take_of_length_le (by simp [intV_length])]⟩⟩
theorem own_ne {v : Value} {g h n m c d : Nat} (hne : g ≠ h) : ∀ x, Own (.slice (some ⟨g, 0, none⟩) n c) x → ¬ Own (.slice (some ⟨h, 0, none⟩) m d) x := by
  rintro x ⟨a, k, e, h1, h2⟩ ⟨a', k', e', h1', h2'⟩
  cases h1
  cases h1'
  simp only at h2 h2'
  omega
theorem new_leaf {w W : World} {n g0 g1 gs g3 : Nat} (hn : n ≤ 1000) (h0 : W.heap[g0]? = some (.cells (intV zero24).toArray 3 (0, 0))) (h1 : W.heap[g1]? = some (.cells (intV (List.replicate n 0)).toArray 3 (0, 0))) (h3 : W.heap[g3]? = some (.cells (intV zero24).toArray 3 (0, 0)))
    (n1 : g0 ≠ g1) (n2 : g0 ≠ g3) (n3 : g1 ≠ g3) (b0 : w.heap.size ≤ g0) (b1 : w.heap.size ≤ g1) (b3 : w.heap.size ≤ g3) (hb : Below w.heap.size w W) :
    ∃ a, Ending.returned (.agg #[.slice (some ⟨g0, 0, none⟩) 24 24, .slice (some ⟨g1, 0, none⟩) n n, .slice (some ⟨gs, 0, none⟩) 0 0, .slice (some ⟨g3, 0, none⟩) 24 24]) = .returned (imV a (imNew n)) ∧ OwnIm W w.heap.size a (imNew n) [] ∧ Below w.heap.size w W := by
  have hl : (imNew n).table.length = n := by simp [imNew]
  refine ⟨⟨some ⟨g0, 0, none⟩, 24, some ⟨g1, 0, none⟩, n, some ⟨gs, 0, none⟩, 0, some ⟨g3, 0, none⟩, 24⟩, by simp only [imV, hl]; rfl, ⟨rfl, .inl ⟨rfl, rfl, _, _, rfl⟩, ?_⟩, hb⟩
  have o0 := own_made (B := w.heap.size) (n := 24) h0 b0 rfl (by omega)
  have o1 := own_made (B := w.heap.size) (n := n) h1 b1 (by simp) hn
  have o3 := own_made (B := w.heap.size) (n := 24) h3 b3 rfl (by omega)
  have e : imRows ⟨some ⟨g0, 0, none⟩, 24, some ⟨g1, 0, none⟩, n, some ⟨gs, 0, none⟩, 0, some ⟨g3, 0, none⟩, 24⟩ (imNew n) [] = [(.slice (some ⟨g0, 0, none⟩) 24 24, zero24), (.slice (some ⟨g1, 0, none⟩) n n, List.replicate n 0), (.slice (some ⟨g3, 0, none⟩) 24 24, zero24)] := by
    simp only [imRows, hl]; rfl
  rw [e]
  refine ⟨fun r hr => ?_, ?_⟩
  · simp only [List.mem_cons, List.not_mem_nil, or_false] at hr
    rcases hr with rfl | rfl | rfl
    · exact o0
    · exact o1
    · exact o3
  · simp only [List.pairwise_cons, List.mem_cons, List.not_mem_nil, or_false, forall_eq_or_imp, forall_eq, List.Pairwise.nil, and_true]
    exact ⟨⟨own_ne (v := undef) n1, own_ne (v := undef) n2⟩, own_ne (v := undef) n3, fun _ h => h.elim⟩
theorem res_im {fn : Func} {p : Tmp} {v0 v1 v2 v3 : Value} {x : Nat} {W : World} {tmps : Array Value} (h : fn.results = #[.cell p 30]) (hp : tmps.getD p undef = .pointer (some ⟨x, 0, none⟩)) (hv : W.heap[x]? = some (.cells #[v0, v1, v2, v3] 30 (0, 0))) :
    (results fn tmps).run Tryz.prog W = .ok (.agg #[v0, v1, v2, v3]) W := by
  obtain ⟨c0, c1, c2, c3⟩ := VarM.cells (t := 30) hv
  rw [Array.getD_eq_getD_getElem?] at hp
  simp [results, h, hp, go_sem, c0, c1, c2, c3]

theorem res_ic {fn : Func} {p u : Tmp} {v0 v1 v2 v3 z : Value} {x : Nat} {W : World} {tmps : Array Value} (h : fn.results = #[.cell p 30, .tmp u]) (hp : tmps.getD p undef = .pointer (some ⟨x, 0, none⟩)) (hu : tmps.getD u undef = z) (hv : W.heap[x]? = some (.cells #[v0, v1, v2, v3] 30 (0, 0))) :
    (results fn tmps).run Tryz.prog W = .ok (.tuple #[.agg #[v0, v1, v2, v3], z]) W := by
  obtain ⟨c0, c1, c2, c3⟩ := VarM.cells (t := 30) hv
  rw [Array.getD_eq_getD_getElem?] at hp hu
  simp [results, h, hp, hu, go_sem, c0, c1, c2, c3]
theorem OwnIm.zero (w : World) (B : Nat) : OwnIm w B ⟨none, 0, none, 0, none, 0, none, 0⟩ im0 [] := ⟨rfl, .inl ⟨rfl, rfl, _, _, rfl⟩, by
  unfold imRows
  refine ⟨fun r hr => ?_, ?_⟩
  · simp only [im0, List.map_nil, List.zip_nil_right, List.mem_cons, List.not_mem_nil, or_false] at hr
    rcases hr with rfl | rfl | rfl <;> exact OwnN.nil _ _ _
  · simp only [im0, List.map_nil, List.zip_nil_right, List.pairwise_cons, List.mem_cons, List.not_mem_nil, or_false, List.Pairwise.nil, and_true]
    exact ⟨fun a ha g hg => absurd hg own_no, fun a ha g hg => absurd hg own_no, fun _ h => h.elim⟩⟩

theorem OwnA.setCell' {w : World} {B : Nat} {rs : List (Value × List Int)} (h : OwnA w B rs) {a : Addr} (ha : a.block < B) (u : Value) : OwnA (w.setCell a u) B rs := ⟨fun r hr => (h.own r hr).setCell ha u, h.apart⟩
theorem OwnIm.setCell {w : World} {B : Nat} {a : Im4} {m : Img} {ts : List Value} (h : OwnIm w B a m ts) {p : Addr} (hp : p.block < B) (u : Value) : OwnIm (w.setCell p u) B a m ts := ⟨h.len, h.s.setCell hp u, h.rows.setCell' hp u⟩
theorem ImSt.put {w0 w : World} {x B : Nat} {t : TypeId} {v0 v1 v2 v3 : Value} {a : Im4} {m : Img} {ts : List Value} (hv : VarM w x t v0 v1 v2 v3) (ho : OwnIm w B a m ts) (hb : Below w0.heap.size w0 w) (hx : w0.heap.size ≤ x) (hB : x < B) (a' : Im4) (m' : Img) :
    VarM ((((w.setCell ⟨x, 0, none⟩ (.slice a'.ro m'.refs.length a'.rc)).setCell ⟨x, 1, none⟩ (.slice a'.tq m'.table.length a'.tc)).setCell ⟨x, 2, none⟩ (.slice a'.so m'.snaps.length a'.sc)).setCell ⟨x, 3, none⟩ (.slice a'.dq m'.data.length a'.dc)) x t (.slice a'.ro m'.refs.length a'.rc) (.slice a'.tq m'.table.length a'.tc) (.slice a'.so m'.snaps.length a'.sc) (.slice a'.dq m'.data.length a'.dc) ∧
    OwnIm ((((w.setCell ⟨x, 0, none⟩ (.slice a'.ro m'.refs.length a'.rc)).setCell ⟨x, 1, none⟩ (.slice a'.tq m'.table.length a'.tc)).setCell ⟨x, 2, none⟩ (.slice a'.so m'.snaps.length a'.sc)).setCell ⟨x, 3, none⟩ (.slice a'.dq m'.data.length a'.dc)) B a m ts ∧
    Below w0.heap.size w0 ((((w.setCell ⟨x, 0, none⟩ (.slice a'.ro m'.refs.length a'.rc)).setCell ⟨x, 1, none⟩ (.slice a'.tq m'.table.length a'.tc)).setCell ⟨x, 2, none⟩ (.slice a'.so m'.snaps.length a'.sc)).setCell ⟨x, 3, none⟩ (.slice a'.dq m'.data.length a'.dc)) :=
  ⟨(((hv.set0 _).set1 _).set2 _).set3 _, (((ho.setCell (p := ⟨x, 0, none⟩) hB _).setCell (p := ⟨x, 1, none⟩) hB _).setCell (p := ⟨x, 2, none⟩) hB _).setCell (p := ⟨x, 3, none⟩) hB _, (((hb.setCell (p := ⟨x, 0, none⟩) hx _).setCell (p := ⟨x, 1, none⟩) hx _).setCell (p := ⟨x, 2, none⟩) hx _).setCell (p := ⟨x, 3, none⟩) hx _⟩

end Go.Proofs.YtpdpnepnfhbonaaGreatDoor

namespace Go.Proofs.YtpdpnepnfhbonaaGreatDoor
open Go.RowKit
set_option linter.unusedVariables false

theorem set_block {w : World} {b i : Nat} {c : Array Value} {t : TypeId} (h : w.heap[b]? = some (.cells c t (0, 0))) (v : Value) : (w.setCell ⟨b, i, none⟩ v).heap[b]? = some (.cells (c.setIfInBounds i v) t (0, 0)) := by
  have hb : b < w.heap.size := (Array.getElem?_eq_some_iff.1 h).1
  have hg : w.heap[b] = .cells c t (0, 0) := by rw [Array.getElem?_eq_getElem hb] at h; simpa using h
  have hm : b < (w.setCell ⟨b, i, none⟩ v).heap.size := by simpa using hb
  rw [Array.getElem?_eq_getElem hm]
  congr 1
  unfold World.setCell
  simp only [Array.getElem_modify, if_true, hg]
  simp
end Go.Proofs.YtpdpnepnfhbonaaGreatDoor

namespace Go.Proofs.YtpdpnepnfhbonaaGreatDoor
open Go.RowKit
set_option linter.unusedVariables false
set_option maxRecDepth 100000

section
variable {P : Program}
theorem wpList_store_arr {ops : Array Oper} {rest : List Oper} {op : Oper} {a : Act} {w : World} {Q : Exit → Act → World → Prop} (hgd : op.guard = none) (ty : TypeId) (x y : Operand) (ho : op.op = .store ty x y)
    (g : Nat) (hx : a.eval x = .pointer (some ⟨g, 0, none⟩)) (c' : Array Value) (hy : a.eval y = .agg c') (c : Array Value) (t : TypeId) (hb : w.heap[g]? = some (.cells c t (0, 0)))
    (hi : (P.info? ty).map (·.size) = some c'.size) (hs : c.size = c'.size) (h1 : c'.all (·.oneCell') = true)
    (h : ∀ w', w'.heap[g]? = some (.cells c' t (0, 0)) → Keep (fun k => k = g) w w' → w'.heap.size = w.heap.size → wpList P ops Q rest (a.put op.dst undef) w') : wpList P ops Q (op :: rest) a w :=
  wpList_plain hgd fun _ hK => by
    unfold Oper.wp execOp
    simp only [ho, hx, hy, Instr.storeAt, Instr.sureAddr, Sem.run_bind, Sem.run_pure, Result.andThen_ok, run_storeVar_row w g t ty c c' hb hi hs h1]
    exact hK _ _ (h _ (setRow_heap w g c c' t (0, 0) hb) ⟨rfl, rfl, rfl, by simp, fun k _ hk => setRow_other w g k c' hk⟩ (setRow_size w g c'))
theorem wpList_load_arr {ops : Array Oper} {rest : List Oper} {op : Oper} {a : Act} {w : World} {Q : Exit → Act → World → Prop} (hgd : op.guard = none) (ty : TypeId) (x : Operand) (ho : op.op = .load ty x)
    (g : Nat) (hx : a.eval x = .pointer (some ⟨g, 0, none⟩)) (c : Array Value) (t : TypeId) (d : TypeDesc) (hb : w.heap[g]? = some (.cells c t (0, 0)))
    (hu : P.underlying ty = some d) (hd : (match d with | .struct _ | .array _ _ => true | _ => false) = true) (hi : (P.info? ty).map (·.size) = some c.size)
    (h : wpList P ops Q rest (a.put op.dst (.agg c)) w) : wpList P ops Q (op :: rest) a w :=
  wpList_plain hgd fun _ hK => by
    unfold Oper.wp execOp
    simp only [ho, hx, Instr.loadAt, Instr.sureAddr, Sem.run_bind, Sem.run_pure, Result.andThen_ok, run_loadVar_row w g t ty c (0, 0) d hb hu hd hi]
    exact hK _ _ h
end

theorem intV_one (xs : List Int) : (intV xs).toArray.all (·.oneCell') = true := by
  apply all_oneCell_toArray
  intro v hv
  simp only [intV, List.mem_map] at hv
  obtain ⟨n, _, rfl⟩ := hv
  rfl
theorem intV_size (xs : List Int) : (intV xs).toArray.size = xs.length := by simp [intV]
theorem arr_cell {w : World} {g : Nat} {t : TypeId} {xs : List Int} (h : w.heap[g]? = some (.cells (intV xs).toArray t (0, 0))) {k : Nat} (hk : k < xs.length) : w.cell? ⟨g, k, none⟩ = some (.int .i64 xs[k]) := by
  rw [Joins.cell_of_block h]; simpa using intV_get hk
theorem intV_set (xs : List Int) (k : Nat) (n : Int) : (intV xs).toArray.setIfInBounds k (.int .i64 n) = (intV (xs.set k n)).toArray := by simp [intV, List.map_set]
theorem arr_set {w : World} {g : Nat} {t : TypeId} {xs : List Int} (h : w.heap[g]? = some (.cells (intV xs).toArray t (0, 0))) (k : Nat) (n : Int) : (w.setCell ⟨g, k, none⟩ (.int .i64 n)).heap[g]? = some (.cells (intV (xs.set k n)).toArray t (0, 0)) := by
  rw [set_block (i := k) h (.int .i64 n), intV_set]
theorem block_of_below {w w' : World} {g : Nat} {o : Obj} (h : w.heap[g]? = some o) (hb : Below w.heap.size w w') : w'.heap[g]? = some o := by
  rw [hb.block g (Array.getElem?_eq_some_iff.1 h).1]; exact h
theorem keep_one {w0 w w' : World} {g : Nat} (h : Below w0.heap.size w0 w) (hk : Keep (fun k => k = g) w w') (hg : w0.heap.size ≤ g) : Below w0.heap.size w0 w' :=
  h.trans (hk.below h.size (fun k e => by omega))

end Go.Proofs.YtpdpnepnfhbonaaGreatDoor

namespace Go.Proofs.YtpdpnepnfhbonaaGreatDoor
open Go.RowKit
set_option linter.unusedVariables false
set_option maxRecDepth 100000

section
variable {P : Program}
end

end Go.Proofs.YtpdpnepnfhbonaaGreatDoor

namespace Go.Proofs.YtpdpnepnfhbonaaGreatDoor
open Go.RowKit
set_option linter.unusedVariables false
section
variable {P : Program}
end
end Go.Proofs.YtpdpnepnfhbonaaGreatDoor
