import Derived.Test.YtjjkppknojecjaaGreatRows
import Derived.Test.YtjjkppknojecjaaGreatXPlainWorldPart1
import Derived.Test.YtjjkppknojecjaaGreatXPlainWorldPart2
import Derived.Test.YtjjkppknojecjaaGreatXPlainWorldPart3
import Derived.WalkKit
import Derived.WalkSpells
import Derived.KernelRfl
import Derived.LoopN
import Derived.BigQuiet
import Derived.Deep.QuietTactic
import Derived.Deep.CutRange
import Derived.Deep.RegionWith
import Derived.Deep.RegionHeld3
import Derived.Orders
import Derived.Still

namespace Go.Proofs.YtjjkppknojecjaaGreat
open Go.RowKit
set_option linter.unusedVariables false
set_option maxRecDepth 100000

set_option maxHeartbeats 800000 in
theorem eqShot_same (s : Snp) (p q : Option Addr) (pc qc : Nat) (w : World) (hn : s.table.length ≤ maxLen) (h1 : Is w p s.table) (h2 : Is w q s.table) :
    Calls Tryz.prog 83 #[snV s p pc, snV s q qc] w fun e w' => e = .returned (.bool true) ∧ Below w.heap.size w w' := by
  have HA := hide (Joins.below_alloc2 w (.cells #[.string s.name, .slice p s.table.length pc] 119) (.cells #[.string s.name, .slice q s.table.length qc] 119))
  have H1 := hide (h1.below (unhide HA))
  have H2 := hide (h2.below (unhide HA))
  have HN := hide hn
  clear h1 h2 hn
  go_enter Tryz.func83, Tryz.ntmps83
  go_wp2_with fail
  refine (eqInts_same p q pc qc s.table _ (unhide HN) (unhide H1) (unhide H2)).mono ?_
  rintro e w1 ⟨rfl, hb⟩
  have HB := hide (fr (unhide HA) hb)
  clear hb
  go_wp2
  go_ret
  exact ⟨rfl, unhide HB⟩

set_option maxHeartbeats 1600000 in
theorem eqShotS_same (ao bo : Option Addr) (ca cb : Nat) (ss : List Snp) (w : World) (hn : ss.length ≤ maxLen) (h1 : Sns w ao ss) (h2 : Sns w bo ss) :
    Calls Tryz.prog 52 #[.slice ao ss.length ca, .slice bo ss.length cb] w fun e w' => e = .returned (.bool true) ∧ Below w.heap.size w w' := by
  have H1 := hide h1
  have H2 := hide h2
  clear h1 h2
  unfold maxLen at hn
  go_enter Tryz.func52, Tryz.ntmps52
  go_wp2
  go_loopw [5] (fun i wr => ∃ k : Nat, k ≤ ss.length ∧ i = .int .i64 k ∧ Hid (Below w.heap.size w wr)) (fun i _ => ss.length - (intOf i).toNat)
  case atStart => exact ⟨0, Nat.zero_le _, rfl, hide (Below.refl _ _)⟩
  case round =>
    obtain ⟨k, hk, rfl, HB⟩ := hrel
    by_cases hlt : k < ss.length
    · obtain ⟨b, off, tq, tc, rfl, hc0, hc1, i1, _, hm⟩ := (unhide H1).below (unhide HB) k hlt
      obtain ⟨b', off', tq', tc', rfl, hd0, hd1, i2, _, _⟩ := (unhide H2).below (unhide HB) k hlt
      have hki : (k : Int) < (ss.length : Int) := by omega
      have hk0 : (0 : Int) ≤ (k : Int) := by omega
      have HCALL : Hid (∀ W, Below wr.heap.size wr W → Calls Tryz.prog 83 #[snV ss[k] tq tc, snV ss[k] tq' tc'] W fun e w' => e = .returned (.bool true) ∧ Below W.heap.size W w') := hide (fun W hW => eqShot_same ss[k] tq tq' tc tc' W hm (i1.below hW) (i2.below hW))
      have l1 := World.block_lt_of_cell? _ _ hc0
      have l2 := World.block_lt_of_cell? _ _ hd0
      clear i1 i2 hm
      go_wp2_with fail
      go_region_held3 (fun w' => w'.cell? ⟨b, off + k * 2, none⟩ = some (.string ss[k].name) ∧ w'.cell? ⟨b, off + k * 2 + 1, none⟩ = some (.slice tq ss[k].table.length tc) ∧ w'.cell? ⟨b', off' + k * 2, none⟩ = some (.string ss[k].name) ∧ w'.cell? ⟨b', off' + k * 2 + 1, none⟩ = some (.slice tq' ss[k].table.length tc')) (go_keep)
        ((go_at_call 83; refine (unhide HCALL _ (by exact (Below.refl _ wr).drew)).mono ?_; rintro e w1 ⟨rfl, hb⟩; have HB1 := hide (fr (Below.refl _ wr).drew hb); have m0 := ((unhide HB1).cell (p := ⟨b, off + k * 2, none⟩) l1).trans hc0; have m1 := ((unhide HB1).cell (p := ⟨b, off + k * 2 + 1, none⟩) l1).trans hc1; have m2 := ((unhide HB1).cell (p := ⟨b', off' + k * 2, none⟩) l2).trans hd0; have m3 := ((unhide HB1).cell (p := ⟨b', off' + k * 2 + 1, none⟩) l2).trans hd1; clear hb))
      all_goals
        go_wp2
        go_roundw
        case rel => exact ⟨k + 1, by omega, by go_num, hide (fr (unhide HB) (unhide HB1))⟩
        case measure => simp [intOf]; omega
    · go_wp2
      go_ret
      exact ⟨rfl, unhide HB⟩

set_option maxHeartbeats 1600000 in
theorem eqGuest_same (a b : Gs4) (g : Gst) (w : World) (hv : g.vals.length ≤ maxLen) (hs : g.shots.length ≤ maxLen) (h1 : GsS w a g) (h2 : GsS w b g) :
    Calls Tryz.prog 23 #[gsV a g, gsV b g] w fun e w' => e = .returned (.bool true) ∧ Below w.heap.size w w' := by
  have HA := hide (Joins.below_alloc2 w (.cells #[.slice a.vo g.vals.length a.vc, .slice a.so g.shots.length a.sc] 33) (.cells #[.slice b.vo g.vals.length b.vc, .slice b.so g.shots.length b.sc] 33))
  have HV := hide ((VarG.new w 33 (.slice a.vo g.vals.length a.vc) (.slice a.so g.shots.length a.sc)).below (Joins.below_alloc1 _ (.cells #[.slice b.vo g.vals.length b.vc, .slice b.so g.shots.length b.sc] 33)))
  have HU := hide ((VarG.new (w.alloc (.cells #[.slice a.vo g.vals.length a.vc, .slice a.so g.shots.length a.sc] 33)) 33 (.slice b.vo g.vals.length b.vc) (.slice b.so g.shots.length b.sc)).at (show _ = w.heap.size + 1 by simp))
  have H1 := hide (h1.below (unhide HA))
  have H2 := hide (h2.below (unhide HA))
  have HR := hide hv
  have HS := hide hs
  clear h1 h2 hv hs
  go_enter Tryz.func23, Tryz.ntmps23
  go_upto_region 1 with fail
  revert HA HV HU H1 H2
  generalize ((w.alloc _).alloc _) = W0
  intro HA HV HU H1 H2
  obtain ⟨c0, c1⟩ := (unhide HV).cells
  obtain ⟨d0, d1⟩ := (unhide HU).cells
  go_wp2_with fail
  refine (eqInts_same a.vo b.vo a.vc b.vc g.vals _ (unhide HR) (unhide H1).v (unhide H2).v).mono ?_
  rintro e w1 ⟨rfl, hb⟩
  have HB1 := hide hb
  clear hb c0 c1 d0 d1
  obtain ⟨c0, c1⟩ := ((unhide HV).below (unhide HB1)).cells
  obtain ⟨d0, d1⟩ := ((unhide HU).below (unhide HB1)).cells
  go_wp2_with fail
  refine (eqShotS_same a.so b.so a.sc b.sc g.shots _ (unhide HS) ((unhide H1).below (unhide HB1)).s ((unhide H2).below (unhide HB1)).s).mono ?_
  rintro e w3 ⟨rfl, hb⟩
  have HB4 := hide (fr (unhide HA) (fr (unhide HB1) hb))
  clear hb c0 c1 d0 d1
  go_wp2
  go_ret
  exact ⟨rfl, unhide HB4⟩

end Go.Proofs.YtjjkppknojecjaaGreat

namespace Go.Proofs.YtjjkppknojecjaaGreat
open Go.RowKit
set_option linter.unusedVariables false
set_option maxRecDepth 100000

set_option maxHeartbeats 3200000 in
theorem markShotS_any (v : Value) (k B : Nat) (ss : List Snp) (ts : List Value) (w : World) (hn : ss.length ≤ 4194304) (hm : ∀ s ∈ ss, s.table.length ≤ 4194304) (hk0 : 0 < k) (hk1 : k + snK ss ≤ 268435456) (hl : ss.length = ts.length)
    (ho : OwnS w B 119 2 v ss.length (snC ss ts)) (ha : OwnA w B (ts.zip (ss.map (·.table)))) :
    Calls Tryz.prog 56 #[v, .int .i64 k] w fun e w' => e = .returned (.int .i64 ((k + snK ss : Nat) : Int)) ∧ OwnS w' B 119 2 v ss.length (snC (mkSn k ss) ts) ∧ OwnA w' B (ts.zip ((mkSn k ss).map (·.table))) ∧ Keep (fun g => Own v g ∨ ∃ t ∈ ts, Own t g) w w' := by
  rcases Nat.eq_zero_or_pos ss.length with h0 | hpos
  · have e0 : ss = [] := List.eq_nil_of_length_eq_zero h0
    subst e0
    rcases ho with ⟨_, _, ao, c0, rfl⟩ | ⟨h, _⟩
    · go_enter Tryz.func56, Tryz.ntmps56
      go_wp2
      refine wp_loop_rounds 1 ?_
      rw [rounds_succ]
      go_wp2
      go_ret
      exact ⟨ret_int (by simp [snK]), .inl ⟨rfl, by simp [mkSn, snC], ao, c0, rfl⟩, ha, Keep.refl _ _⟩
    · simp at h
  · obtain ⟨g, cap, cur, rfl, _, _⟩ := own_form hpos (ho.row hpos)
    have HO := hide (ho.toR (fun h => absurd h (by omega)))
    have HA := hide ha
    have HM := hide hm
    have HK1 := hide hk1
    have HLL := hide hl
    clear ho ha hm hk1 hl
    go_enter Tryz.func56, Tryz.ntmps56
    go_wp2
    go_loopw [1, 5] (fun kk i wr => ∃ (j : Nat), j ≤ ss.length ∧ i = .int .i64 j ∧ kk = .int .i64 ((k + snK (ss.take j) : Nat) : Int) ∧ Hid (OwnR wr B 119 2 (.slice (some ⟨g, 0, none⟩) ss.length cap) ss.length (snC (snMid k ss j) ts)) ∧ Hid (OwnA wr B (ts.zip ((snMid k ss j).map (·.table)))) ∧ Hid (Keep (fun x => Own (.slice (some ⟨g, 0, none⟩) ss.length cap) x ∨ ∃ t ∈ ts, Own t x) w wr)) (fun _ i _ => ss.length - (intOf i).toNat)
    case atStart => exact ⟨0, Nat.zero_le _, rfl, by simp [snK], by rw [snMid_zero]; exact HO, by rw [snMid_zero]; exact HA, hide (Keep.refl _ _)⟩
    case round =>
      obtain ⟨j, hj, rfl, rfl, HO, HA, HK⟩ := hrel
      by_cases hlt : j < ss.length
      · have HJ := hide (snK_take hlt)
        have HJL := hide (snK_le ss (j + 1))
        obtain ⟨q, hq, hq0, hqb⟩ : ∃ q : Nat, q = k + snK (ss.take j) ∧ 0 < q ∧ q + 1 + ss[j].table.length ≤ 268435456 := ⟨_, rfl, by omega, by have a := unhide HJ; have b := unhide HJL; have c := unhide HK1; omega⟩
        rw [← hq]
        have HQ := hide hq
        clear hq
        have hlj : j < ts.length := by rw [← unhide HLL]; exact hlt
        have hmj : ss[j].table.length ≤ 4194304 := unhide HM _ (List.getElem_mem hlt)
        have HRJ := hide (show (ts.zip ((snMid k ss j).map (·.table)))[j]? = some (ts[j], ss[j].table) by
          rw [List.getElem?_zip_eq_some]
          exact ⟨List.getElem?_eq_getElem hlj, by rw [List.getElem?_map, snMid_get hlt]; rfl⟩)
        go_wp2_with fail
        refine (markText_any q _ (by omega) (by omega)).mono ?_
        rintro e w2 ⟨rfl, hb2⟩
        have HO2 := hide ((unhide HO).below hb2)
        have HA2 := hide ((unhide HA).below hb2)
        have HK2 := hide ((unhide HK).trans (Keep.of_below hb2))
        clear hb2
        obtain ⟨qo, qa, hts, hrow⟩ := (unhide HA2).own _ (List.mem_of_getElem? (unhide HRJ))
        simp only at hts
        have HTS := hide hts
        have hcell := ((unhide HO2).row hpos).cellAt
        have hgs := snC_get (snMid_get (k := k) hlt) (List.getElem?_eq_getElem hlj)
        have hx0 : w2.cell? ⟨g, j * 2, none⟩ = some (.string ss[j].name) := (hcell (j * 2) (by omega)).trans hgs.1
        have hx1 : w2.cell? ⟨g, j * 2 + 1, none⟩ = some (.slice qo ss[j].table.length qa) := (hcell (j * 2 + 1) (by omega)).trans (by rw [hgs.2, hts])
        have hf0 := ((unhide HO2).row hpos).frozenAt (j * 2)
        clear hcell hgs hts hrow
        have HOS : Hid (OwnR (w2.setCell ⟨g, j * 2, none⟩ (.string (mtB q))) B 119 2 (.slice (some ⟨g, 0, none⟩) ss.length cap) ss.length (snC (snMid k ss (j + 1)) ts)) := hide (by
          rw [← snMid_succ hlt, snC_set _ _ _ _ hlj, ← unhide HQ]
          exact .inr ⟨hpos, (((unhide HO2).row hpos).stored (j * 2) (.string (mtB q))).1⟩)
        have HAS := hide ((unhide HA2).keep (S := fun x => x = g) ((Keep.refl (fun x => x = g) w2).setCell (p := ⟨g, j * 2, none⟩) rfl (.string (mtB q))) (fun r hr x hx he => by
          obtain ⟨_, _, e, hr'⟩ := (unhide HA2).own r hr
          rw [e] at hx
          exact own_apart (unhide HO2) hr' (by decide) x (own_of hpos he.symm) hx))
        have HKS := hide ((unhide HK2).setCell (p := ⟨g, j * 2, none⟩) (.inl (own_of hpos rfl)) (.string (mtB q)))
        obtain ⟨ro, rc, hre, hrow⟩ := (unhide HAS).own _ (List.mem_of_getElem? (unhide HRJ))
        simp only at hre hrow
        have hee : Value.slice qo ss[j].table.length qa = .slice ro ss[j].table.length rc := (unhide HTS).symm.trans hre
        rw [← hee] at hrow
        have HW := hide hrow
        clear hrow hre hee
        go_wp2_with fail
        refine (markIntS_any (.slice qo ss[j].table.length qa) ss[j].table.length (q + 1) _ B _ hmj (by omega) (by omega) (unhide HW)).mono ?_
        rintro e w4 ⟨rfl, ho4, hk4⟩
        have HA4 : Hid (OwnA w4 B (ts.zip ((snMid k ss (j + 1)).map (·.table)))) := hide (by
          rw [← snMid_succ hlt, zip_set1 _ _ _ _ _ (List.getElem?_eq_getElem hlj), ← unhide HQ]
          refine (unhide HAS).turn (unhide HRJ) (by rw [unhide HTS]; exact hk4) ?_
          rw [unhide HTS]
          exact ⟨qo, qa, by simp [mk1, mkN_length], by simpa only [mk1, mkN_length] using ho4⟩)
        have HO4 := hide ((unhide HOS).keep hk4 (own_apart (unhide HOS) (unhide HW) (by decide)))
        have HK4 := hide ((unhide HKS).trans (hk4.mono (fun x hx => Or.inr ⟨ts[j], List.getElem_mem hlj, by rw [unhide HTS]; exact hx⟩)))
        have hqn : q + 1 + ss[j].table.length = k + snK (ss.take (j + 1)) := by rw [unhide HJ, unhide HQ]; omega
        clear ho4 hk4
        go_wp2
        go_roundw
        case rel => exact ⟨j + 1, by omega, by go_num, by go_num, HO4, HA4, HK4⟩
        case measure => simp [intOf]; omega
      · have hjn : j = ss.length := by omega
        subst hjn
        have ho := unhide HO
        have ha := unhide HA
        rw [snMid_all] at ho ha
        have HO' := hide ho
        have HA' := hide ha
        have he : snK (ss.take ss.length) = snK ss := by rw [List.take_length]
        clear ho ha
        go_wp2
        go_ret
        exact ⟨by rw [he]; rfl, (unhide HO').toS, unhide HA', unhide HK⟩

set_option maxHeartbeats 3200000 in
theorem heldShotS_any (v : Value) (k B : Nat) (ss : List Snp) (ts : List Value) (w : World) (hn : ss.length ≤ 4194304) (hm : ∀ s ∈ ss, s.table.length ≤ 4194304) (hk0 : 0 < k) (hk1 : k + snK ss ≤ 268435456) (hl : ss.length = ts.length)
    (ho : OwnS w B 119 2 v ss.length (snC (mkSn k ss) ts)) (ha : OwnA w B (ts.zip ((mkSn k ss).map (·.table)))) :
    Calls Tryz.prog 60 #[v, .int .i64 k] w fun e w' => e = .returned (.int .i64 ((k + snK ss : Nat) : Int)) ∧ Below w.heap.size w w' := by
  rcases Nat.eq_zero_or_pos ss.length with h0 | hpos
  · have e0 : ss = [] := List.eq_nil_of_length_eq_zero h0
    subst e0
    rcases ho with ⟨_, _, ao, c0, rfl⟩ | ⟨h, _⟩
    · go_enter Tryz.func60, Tryz.ntmps60
      go_wp2
      refine wp_loop_rounds 1 ?_
      rw [rounds_succ]
      go_wp2
      go_ret
      exact ⟨ret_int (by simp [snK]), Below.refl _ _⟩
    · simp at h
  · obtain ⟨g, cap, cur, rfl, _, _⟩ := own_form hpos (ho.row hpos)
    have HO := hide (ho.toR (fun h => absurd h (by omega)))
    have HA := hide ha
    have HM := hide hm
    have HK1 := hide hk1
    have HLL := hide hl
    clear ho ha hm hk1 hl
    go_enter Tryz.func60, Tryz.ntmps60
    go_wp2
    go_loopw [1, 5] (fun kk i wr => ∃ (j : Nat), j ≤ ss.length ∧ i = .int .i64 j ∧ kk = .int .i64 ((k + snK (ss.take j) : Nat) : Int) ∧ Hid (Below w.heap.size w wr)) (fun _ i _ => ss.length - (intOf i).toNat)
    case atStart => exact ⟨0, Nat.zero_le _, rfl, by simp [snK], hide (Below.refl _ _)⟩
    case round =>
      obtain ⟨j, hj, rfl, rfl, HB⟩ := hrel
      by_cases hlt : j < ss.length
      · have HJ := hide (snK_take hlt)
        have HJL := hide (snK_le ss (j + 1))
        have HG := hide (mkSn_get (k := k) hlt)
        obtain ⟨q, hq, hq0, hqb⟩ : ∃ q : Nat, q = k + snK (ss.take j) ∧ 0 < q ∧ q + 1 + ss[j].table.length ≤ 268435456 := ⟨_, rfl, by omega, by have a := unhide HJ; have b := unhide HJL; have c := unhide HK1; omega⟩
        rw [← hq] at HG ⊢
        have HQ := hide hq
        clear hq
        have hlj : j < ts.length := by rw [← unhide HLL]; exact hlt
        have hmj : ss[j].table.length ≤ 4194304 := unhide HM _ (List.getElem_mem hlt)
        have HRJ := hide (show (ts.zip ((mkSn k ss).map (·.table)))[j]? = some (ts[j], mkN (q + 1) ss[j].table.length) by
          rw [List.getElem?_zip_eq_some]
          exact ⟨List.getElem?_eq_getElem hlj, by rw [List.getElem?_map, unhide HG]; rfl⟩)
        have HOr := hide ((unhide HO).below (unhide HB |>.mono (Nat.le_refl _)))
        have hgs := snC_get (unhide HG) (List.getElem?_eq_getElem hlj)
        have hx0 : wr.cell? ⟨g, j * 2, none⟩ = some (.string (mtB q)) := (((unhide HOr).row hpos).cellAt (j * 2) (by omega)).trans hgs.1
        clear hgs
        have hgl : g < wr.heap.size := World.block_lt_of_cell? _ _ hx0
        go_wp2
        go_region_with (go_at_call 84; refine (markText_any q _ hq0 (by omega)).mono ?_; rintro e w2 ⟨rfl, hb2⟩; have hcy := (hb2.cell (p := ⟨g, j * 2, none⟩) hgl).trans hx0)
        all_goals
          have HB2 : Hid (Below w.heap.size w w2) := hide (Below.trans (by repeat (first | exact unhide HB | apply Below.drew)) (hb2.mono (unhide HB).size))
          have HO2 := hide ((unhide HO).below (unhide HB2))
          have HA2 := hide ((unhide HA).below (unhide HB2))
          clear hb2 hcy hx0 hgl
          obtain ⟨qo, qa, hts, hrow⟩ := (unhide HA2).own _ (List.mem_of_getElem? (unhide HRJ))
          simp only [mkN_length] at hts hrow
          have HW := hide hrow
          have hgs := snC_get (unhide HG) (List.getElem?_eq_getElem hlj)
          have hx1 : w2.cell? ⟨g, j * 2 + 1, none⟩ = some (.slice qo ss[j].table.length qa) := (((unhide HO2).row hpos).cellAt (j * 2 + 1) (by omega)).trans (by rw [hgs.2, hts])
          clear hgs hts hrow
          go_wp2_with fail
          refine (heldIntS_any (.slice qo ss[j].table.length qa) ss[j].table.length (q + 1) B _ hmj (by omega) (by omega) (unhide HW)).mono ?_
          rintro e w4 ⟨rfl, hb4⟩
          have HB4 := hide ((unhide HB2).trans (hb4.mono (unhide HB2).size))
          have HQN : Hid (q + 1 + ss[j].table.length = k + snK (ss.take (j + 1))) := hide (by rw [unhide HJ, unhide HQ]; omega)
          clear hb4 hx1
          go_wp2
          go_roundw
          case rel => exact ⟨j + 1, by omega, by go_num, by rw [← unhide HQN]; go_num, HB4⟩
          case measure => simp [intOf]; omega
      · have hjn : j = ss.length := by omega
        subst hjn
        have he : snK (ss.take ss.length) = snK ss := by rw [List.take_length]
        go_wp2
        go_ret
        exact ⟨by rw [he]; rfl, unhide HB⟩

def mkGs (k : Nat) (g : Gst) : Gst := ⟨mkN k g.vals.length, mkSn (k + g.vals.length) g.shots⟩
def gsK (g : Gst) : Nat := g.vals.length + snK g.shots

set_option maxHeartbeats 3200000 in
theorem markGuest_any (a : Gs4) (g : Gst) (ts : List Value) (k B : Nat) (w : World) (hv : g.vals.length ≤ 1048576) (hsn : g.shots.length ≤ 1048576) (hm : ∀ s ∈ g.shots, s.table.length ≤ 1048576) (hsk : snK g.shots ≤ 4194304) (hk0 : 0 < k) (hk1 : k ≤ 16777216) (ho : OwnGs w B a g ts) :
    Calls Tryz.prog 27 #[gsV a g, .int .i64 k] w fun e w' => e = .returned (.int .i64 ((k + gsK g : Nat) : Int)) ∧ OwnGs w' B a (mkGs k g) ts ∧ Keep (GsB a g ts) w w' := by
  have HA := hide (Joins.below_alloc1 w (.cells #[.slice a.vo g.vals.length a.vc, .slice a.so g.shots.length a.sc] 33))
  have HX := hide (heap_alloc_new w (.cells #[.slice a.vo g.vals.length a.vc, .slice a.so g.shots.length a.sc] 33))
  have HO := hide (ho.below (unhide HA))
  have HM := hide hm
  have HLN := hide ho.len
  have HR : Hid (OwnA _ B (gsRows a g ts)) := hide (unhide HO).rows
  have HS := hide (unhide HO).s
  clear ho hm
  have H0 := hide (unhide HR |>.own _ (List.mem_cons_self)).row
  go_enter Tryz.func27, Tryz.ntmps27
  go_wp2_with fail
  refine (markIntS_any _ g.vals.length k _ B _ (by omega) hk0 (by omega) (unhide H0)).mono ?_
  rintro e w1 ⟨rfl, ho1, hk1'⟩
  have HR1 := hide ((unhide HR).turn (j := 0) rfl hk1' (OwnN.mk' ho1 (mkN_length _ _)))
  have HS1 := hide ((unhide HS).keep hk1' (own_apartT (unhide HS) (unhide H0) (by decide)))
  have hX1 : w1.heap[w.heap.size]? = _ := (hk1'.block _ (by simp) ((unhide H0).other (unhide HX) (by decide))).trans (unhide HX)
  have HX1 := hide hX1
  have hc1 : w1.cell? ⟨w.heap.size, 1, none⟩ = some (.slice a.so g.shots.length a.sc) := by rw [Joins.cell_of_block hX1]; rfl
  have HK1 := hide (Keep.trans (S := GsB a g ts) (Keep.of_below (unhide HA)) (hk1'.mono (fun x h => .inl h)))
  clear ho1 hk1' hX1
  have HR1' : Hid (OwnA w1 B ((.slice a.vo g.vals.length a.vc, mkN k g.vals.length) :: ts.zip (g.shots.map (·.table)))) := hide (unhide HR1)
  have HT1 : Hid (OwnA w1 B (ts.zip (g.shots.map (·.table)))) := hide ⟨fun r hr => (unhide HR1').own r (by simp [hr]), by have := (unhide HR1').apart; simp only [List.pairwise_cons] at this; exact this.2⟩
  go_wp2_with fail
  refine (markShotS_any _ (k + g.vals.length) B g.shots ts _ (by omega) (fun s hs => by have := unhide HM s hs; omega) (by omega) (by omega) (unhide HLN) (unhide HS1) (unhide HT1)).mono ?_
  rintro e w3 ⟨rfl, ho3, ha3, hk3⟩
  have HR3 : Hid (OwnA w3 B ((.slice a.vo g.vals.length a.vc, mkN k g.vals.length) :: ts.zip ((mkSn (k + g.vals.length) g.shots).map (·.table)))) := hide (by
    have hz : ∀ qs : List Snp, ts.length = qs.length → (ts.zip (qs.map (·.table))).map Prod.fst = ts := fun qs h => zip_fst _ _ (by rw [List.length_map, h])
    have e0 := hz g.shots (unhide HLN).symm
    have e1 := hz (mkSn (k + g.vals.length) g.shots) (by rw [mkSn_length, unhide HLN])
    have hap := (unhide HR1').apart
    simp only [List.pairwise_cons] at hap
    refine ⟨fun r hr => ?_, ?_⟩
    · simp only [List.mem_cons] at hr
      rcases hr with e | hr
      · subst e
        refine ((unhide HR1').own _ (by simp)).keep hk3 (fun x hx hS => ?_)
        rcases hS with hS | ⟨t, ht, hS⟩
        · exact own_apartS ((unhide HR1').own (.slice a.vo g.vals.length a.vc, mkN k g.vals.length) (by simp)).row (unhide HS1) (by decide) x hx hS
        · rw [← e0] at ht
          obtain ⟨p, hp, rfl⟩ := List.mem_map.1 ht
          exact hap.1 p hp x hx hS
      · exact ha3.own r hr
    · simp only [List.pairwise_cons]
      refine ⟨fun r hr x hx hy => ?_, ha3.apart⟩
      have ht : r.1 ∈ ts := by rw [← e1]; exact List.mem_map_of_mem hr
      rw [← e0] at ht
      obtain ⟨p, hp, e⟩ := List.mem_map.1 ht
      exact hap.1 p hp x hx (by rw [e]; exact hy))
  have HS3 := hide ho3
  have HK3 := hide ((unhide HK1).trans (hk3.mono (fun x h => .inr h)))
  clear ho3 ha3 hk3 hc1
  go_wp2
  go_ret
  refine ⟨ret_int (by unfold gsK; omega), ⟨?_, ?_, ?_⟩, unhide HK3⟩
  · simp only [mkGs, mkSn_length]; exact unhide HLN
  · simp only [mkGs, mkSn_length]; exact unhide HS3
  · simp only [gsRows, mkGs, mkN_length]
    exact unhide HR3

set_option maxHeartbeats 3200000 in
theorem heldGuest_any (a : Gs4) (g : Gst) (ts : List Value) (k B : Nat) (w : World) (hv : g.vals.length ≤ 1048576) (hsn : g.shots.length ≤ 1048576) (hm : ∀ s ∈ g.shots, s.table.length ≤ 1048576) (hsk : snK g.shots ≤ 4194304) (hk0 : 0 < k) (hk1 : k ≤ 16777216) (ho : OwnGs w B a (mkGs k g) ts) :
    Calls Tryz.prog 30 #[gsV a g, .int .i64 k] w fun e w' => e = .returned (.int .i64 ((k + gsK g : Nat) : Int)) ∧ Below w.heap.size w w' := by
  have HA := hide (Joins.below_alloc1 w (.cells #[.slice a.vo g.vals.length a.vc, .slice a.so g.shots.length a.sc] 33))
  have HX := hide (heap_alloc_new w (.cells #[.slice a.vo g.vals.length a.vc, .slice a.so g.shots.length a.sc] 33))
  have HO := hide (ho.below (unhide HA))
  have HM := hide hm
  have HLN : Hid (g.shots.length = ts.length) := hide (by have := ho.len; simpa only [mkGs, mkSn_length] using this)
  have HR : Hid (OwnA _ B (gsRows a (mkGs k g) ts)) := hide (unhide HO).rows
  have HS : Hid (OwnS _ B 119 2 (.slice a.so g.shots.length a.sc) g.shots.length (snC (mkSn (k + g.vals.length) g.shots) ts)) := hide (by have := (unhide HO).s; simpa only [mkGs, mkSn_length] using this)
  have H0 : Hid (OwnR _ B 3 1 (.slice a.vo g.vals.length a.vc) g.vals.length (intV (mkN k g.vals.length))) := hide (by have := (unhide HR |>.own _ (List.mem_cons_self)).row; simpa only [mkGs, mkN_length] using this)
  have HT : Hid (OwnA _ B (ts.zip ((mkSn (k + g.vals.length) g.shots).map (·.table)))) := hide ⟨fun r hr => (unhide HR).own r (by simp [gsRows, mkGs, hr]), by have := (unhide HR).apart; simp only [gsRows, List.pairwise_cons] at this; exact this.2⟩
  clear ho hm
  go_enter Tryz.func30, Tryz.ntmps30
  go_wp2_with fail
  refine (heldIntS_any _ g.vals.length k B _ (by omega) hk0 (by omega) (unhide H0)).mono ?_
  rintro e w1 ⟨rfl, hb1⟩
  have hX1 := blk_belowI (unhide HX) hb1
  have hc1 : w1.cell? ⟨w.heap.size, 1, none⟩ = some (.slice a.so g.shots.length a.sc) := by rw [Joins.cell_of_block hX1]; rfl
  have HB1 := hide (fr (unhide HA) hb1)
  have HS1 := hide ((unhide HS).below hb1)
  have HT1 := hide ((unhide HT).below hb1)
  clear hb1 hX1
  go_wp2_with fail
  refine (heldShotS_any _ (k + g.vals.length) B g.shots ts _ (by omega) (fun s hs => by have := unhide HM s hs; omega) (by omega) (by omega) (unhide HLN) (unhide HS1) (unhide HT1)).mono ?_
  rintro e w3 ⟨rfl, hb3⟩
  have HB3 := hide (fr (unhide HB1) hb3)
  clear hb3 hc1
  go_wp2
  go_ret
  exact ⟨ret_int (by unfold gsK; omega), unhide HB3⟩

end Go.Proofs.YtjjkppknojecjaaGreat

namespace Go.Proofs.YtjjkppknojecjaaGreat
open Go.RowKit
set_option linter.unusedVariables false
set_option maxRecDepth 100000

end Go.Proofs.YtjjkppknojecjaaGreat

namespace Go.Proofs.YtjjkppknojecjaaGreat
open Go.RowKit
set_option linter.unusedVariables false

section
variable {P : Program}
def linB (l : List Oper) : Bool := (List.range l.length).all fun i => ((l[i]?).map fun o => o.after.all fun e => decide (e.on < i)).getD true
theorem linB_spec {l : List Oper} (h : linB l = true) {i : Nat} {o : Oper} (hi : l[i]? = some o) {e : Edge} (he : e ∈ o.after) : e.on < i := by
  have hl := (List.getElem?_eq_some_iff.1 hi).1
  have := List.all_eq_true.1 h i (List.mem_range.2 hl)
  rw [hi] at this
  simp only [Option.map_some, Option.getD_some] at this
  have := Array.all_eq_true_iff_forall_mem.1 this e he
  exact of_decide_eq_true this

def noG (l : List Oper) : Bool := l.all fun o => o.guard.isNone
theorem noG_spec {l : List Oper} (h : noG l = true) (i : Nat) (o : Oper) (hi : l[i]? = some o) : o.guard = none := by
  have := List.all_eq_true.1 h o (List.mem_of_getElem? hi)
  simpa using this
def updD (d : Nat → Bool) (i : Nat) : Nat → Bool := fun j => d j || decide (j = i)

theorem wp_region_inv {id : Nat} {Q : Exit → Act → World → Prop} {a : Act} {w : World} {l : List Oper} (I : (Nat → Bool) → Act → World → Prop) (hm : P.follows .mixedOrders = true) (hl : linB l = true)
    (hg : ∀ (i : Nat) (o : Oper), l[i]? = some o → o.guard = none)
    (h0 : I (fun _ => false) a { w with drawn := w.drawn + 1 })
    (hs : ∀ (d : Nat → Bool) (a : Act) (w : World) (i : Nat) (o : Oper), I d a w → l[i]? = some o → d i = false → (∀ e ∈ o.after, Region.binds .any e = true → d e.on = true) → ∀ K : Act → World → Prop, (∀ a' w', I (updD d i) a' w' → K a' w') → o.wp P a w K Q)
    (he : ∀ (d : Nat → Bool) (a : Act) (w : World), I d a w → (∀ i, i < l.length → d i = true) → Q .normal a w) : (Code.region id l.toArray true).wp P Q a w := by
  refine wp_region_any hm ?_
  have key : ∀ (fuel : Nat) (listed : Array Bool) (a : Act) (w : World), listed.size = l.length → ((List.range l.length).filter fun i => !listed.getD i true).length ≤ fuel → I (fun j => listed.getD j true && decide (j < l.length)) a w → wpAny P .any l.toArray Q fuel listed a w := by
    intro fuel
    induction fuel with
    | zero =>
      intro listed a w hsz hn hI
      have hall : ∀ i, i < l.length → listed.getD i true = true := fun i hi => by
        cases h : listed.getD i true with
        | true => rfl
        | false =>
          have : i ∈ (List.range l.length).filter fun i => !listed.getD i true := List.mem_filter.2 ⟨List.mem_range.2 hi, by rw [h]; rfl⟩
          have := List.length_pos_of_mem this
          omega
      refine ⟨?_, he _ _ _ hI (fun i hi => by rw [hall i hi]; simp [hi])⟩
      rw [List.eq_nil_iff_forall_not_mem]
      intro i hi
      obtain ⟨h1, o, ho, _⟩ := mem_ready.1 hi
      have hil : i < l.length := by have := (Array.getElem?_eq_some_iff.1 ho).1; simpa using this
      rw [hall i hil] at h1
      cases h1
    | succ fuel ih =>
      intro listed a w hsz hn hI
      refine ⟨fun hr => he _ _ _ hI ?_, fun i hi => ?_⟩
      · have : ∀ n, ∀ i, i < n → i < l.length → listed.getD i true = true := by
          intro n
          induction n with
          | zero => intro i hi; omega
          | succ n ihn =>
            intro i hi hil
            by_cases hin : i < n
            · exact ihn i hin hil
            obtain rfl : i = n := by omega
            cases h : listed.getD i true with
            | true => rfl
            | false =>
              have hm' : i ∈ Region.ready .any l.toArray listed := mem_ready.2 ⟨h, l[i], by simp [hil], fun e he hb => by
                have hlt := linB_spec hl (List.getElem?_eq_getElem hil) he
                have h1 := ihn e.on hlt (by omega)
                have hz : e.on < listed.size := by omega
                rw [Array.getD_eq_getD_getElem?, Array.getElem?_eq_getElem hz] at h1 ⊢
                simpa only [Option.getD_some] using h1⟩
              rw [hr] at hm'
              cases hm'
        intro i hil
        rw [this (i + 1) i (by omega) hil]
        simp [hil]
      · obtain ⟨h1, o, ho, hp⟩ := mem_ready.1 hi
        have hil : i < l.length := by have := (Array.getElem?_eq_some_iff.1 ho).1; simpa using this
        have hoL : l[i]? = some o := by simpa using ho
        unfold wpOp
        simp only [ho]
        have hw : Region.wanted o (yielded l.toArray a.tmps) = true := by simp [Region.wanted, hg i o hoL]
        rw [if_pos hw]
        refine .inl (hs _ a w i o hI hoL (by rw [h1]; rfl) (fun e he hb => ?_) _ (fun a' w' hI' => ?_))
        · have h2 := hp e he hb
          have hlt := linB_spec hl hoL he
          have : e.on < listed.size := by omega
          rw [Array.getD_eq_getD_getElem?, Array.getElem?_eq_getElem this] at h2 ⊢
          simp only [Option.getD_some] at h2 ⊢
          rw [h2]
          simp
          omega
        · refine ih _ a' w' (by simpa using hsz) ?_ ?_
          · have hlt : ((List.range l.length).filter fun j => !(listed.setIfInBounds i true).getD j true).length < ((List.range l.length).filter fun j => !listed.getD j true).length := by
              have hsub : ((List.range l.length).filter fun j => !(listed.setIfInBounds i true).getD j true) = ((List.range l.length).filter fun j => !listed.getD j true).filter fun j => decide (j ≠ i) := by
                rw [List.filter_filter]
                congr 1
                funext j
                by_cases hji : j = i
                · subst hji
                  simp [Array.getD_eq_getD_getElem?, hsz, hil]
                · have : i ≠ j := fun e => hji e.symm
                  simp [Array.getD_eq_getD_getElem?, this, hji]
              rw [hsub]
              refine Nat.lt_of_le_of_ne (List.length_filter_le _ _) (fun e => ?_)
              have := List.length_filter_eq_length_iff.1 e i (List.mem_filter.2 ⟨List.mem_range.2 hil, by rw [h1]; rfl⟩)
              simp at this
            omega
          · have e : (fun j => (listed.setIfInBounds i true).getD j true && decide (j < l.length)) = updD (fun j => listed.getD j true && decide (j < l.length)) i := by
              funext j
              unfold updD
              by_cases hji : j = i
              · subst hji
                simp [Array.getD_eq_getD_getElem?, hsz, hil]
              · have : i ≠ j := fun e => hji e.symm
                simp [Array.getD_eq_getD_getElem?, this, hji]
            rw [e]
            exact hI'
  refine key _ _ _ _ (by simp) ?_ ?_
  · refine Nat.le_trans (List.length_filter_le _ _) ?_
    simp
  · have e : (fun j => (Array.replicate l.toArray.size false).getD j true && decide (j < l.length)) = fun _ => false := by
      funext j
      by_cases hj : j < l.length
      · simp [Array.getD_eq_getD_getElem?, hj]
      · simp [hj]
    rw [e]
    exact h0
def Closed (l : List Oper) (d : Nat → Bool) : Prop := ∀ (j : Nat) (o : Oper), l[j]? = some o → d j = true → ∀ e ∈ o.after, Region.binds .any e = true → d e.on = true
def reachB (l : List Oper) : Nat → Nat → Nat → Bool
  | 0, j, i => decide (j = i)
  | f + 1, j, i => decide (j = i) || ((l[j]?).map fun o => o.after.any fun e => Region.binds .any e && reachB l f e.on i).getD false
theorem reach_done {l : List Oper} {d : Nat → Bool} (hc : Closed l d) : ∀ {f j i : Nat}, reachB l f j i = true → d j = true → d i = true
  | 0, j, i, h, hj => by
    simp only [reachB, decide_eq_true_eq] at h
    rwa [← h]
  | f + 1, j, i, h, hj => by
    simp only [reachB, Bool.or_eq_true, decide_eq_true_eq] at h
    rcases h with h | h
    · rwa [← h]
    · cases ho : l[j]? with
      | none => rw [ho] at h; simp at h
      | some o =>
        rw [ho] at h
        simp only [Option.map_some, Option.getD_some] at h
        rw [Array.any_eq_true] at h
        obtain ⟨n, hn, he⟩ := h
        rw [Bool.and_eq_true] at he
        exact reach_done hc he.2 (hc j o ho hj o.after[n] (Array.getElem_mem hn) he.1)
theorem not_yet {l : List Oper} {d : Nat → Bool} (hc : Closed l d) (f : Nat) {j i : Nat} (hr : reachB l f j i = true) (hi : d i = false) : d j = false := by
  cases h : d j with
  | false => rfl
  | true => rw [reach_done hc hr h] at hi; cases hi
theorem wp_region_inv2 {id : Nat} {Q : Exit → Act → World → Prop} {a : Act} {w : World} {l : List Oper} (I : (Nat → Bool) → Act → World → Prop) (hm : P.follows .mixedOrders = true) (hl : linB l = true)
    (hg : ∀ (i : Nat) (o : Oper), l[i]? = some o → o.guard = none)
    (h0 : I (fun _ => false) a { w with drawn := w.drawn + 1 })
    (hs : ∀ (d : Nat → Bool) (a : Act) (w : World) (i : Nat) (o : Oper), Closed l d → I d a w → l[i]? = some o → d i = false → (∀ e ∈ o.after, Region.binds .any e = true → d e.on = true) → ∀ K : Act → World → Prop, (∀ a' w', I (updD d i) a' w' → K a' w') → o.wp P a w K Q)
    (he : ∀ (d : Nat → Bool) (a : Act) (w : World), I d a w → (∀ i, i < l.length → d i = true) → Q .normal a w) : (Code.region id l.toArray true).wp P Q a w := by
  refine wp_region_inv (fun d a w => Closed l d ∧ I d a w) hm hl hg ⟨fun j o _ h => (by cases h), h0⟩ (fun d a w i o hI ho hd hp K hK => ?_) (fun d a w hI hall => he d a w hI.2 hall)
  refine hs d a w i o hI.1 hI.2 ho hd hp K (fun a' w' hI' => hK a' w' ⟨fun j oj hj hd' e he' hb => ?_, hI'⟩)
  simp only [updD, Bool.or_eq_true, decide_eq_true_eq] at hd' ⊢
  rcases hd' with hd' | rfl
  · exact .inl (hI.1 j oj hj hd' e he' hb)
  · rw [ho] at hj
    cases hj
    exact .inl (hp e he' hb)
end

end Go.Proofs.YtjjkppknojecjaaGreat

namespace Go.Proofs.YtjjkppknojecjaaGreat
open Go.RowKit
set_option linter.unusedVariables false
set_option maxRecDepth 100000

def Emp (s : Value) : Prop := ∃ g, s = .slice (some ⟨g, 0, none⟩) 0 0
def Apt (s t : Value) : Prop := ∀ g, Own s g → ¬ Own t g
theorem upd_ne {d : Nat → Bool} {i k : Nat} (hk : k ≠ i) (h : updD d i k = true) : d k = true := by
  simp only [updD, Bool.or_eq_true, decide_eq_true_eq] at h
  exact h.resolve_right hk
theorem upd_nf {d : Nat → Bool} {i k : Nat} (h : updD d i k = false) : d k = false := by
  simp only [updD, Bool.or_eq_false_iff] at h
  exact h.1
theorem upd_up {d : Nat → Bool} {i k : Nat} (h : d k = true) : updD d i k = true := by simp [updD, h]
theorem upd_at {d : Nat → Bool} {i : Nat} : updD d i i = true := by simp [updD]
theorem no_d {d : Nat → Bool} {k : Nat} {p : Prop} (h : d k = true) (hf : d k = false) : p := by rw [h] at hf; cases hf
theorem fresh_apart {w w' : World} {B : Nat} {s t : Value} {xs ys : List Int} (h : OwnN w B s xs) (k : OwnN w' w.heap.size t ys) : Apt s t := fun g hg ht => by
  have h1 := (h.ge g hg).2
  have h2 := (k.ge g ht).1
  omega
structure OwI (W0 : World) (x : Nat) (a : Im4) (m : Img) (d : Nat → Bool) (w : World) (s3 s5 s6 s7 s8 s9 s10 s11 s12 s13 s14 s15 s16 s17 s18 : Value) : Prop where
  b : Below W0.heap.size W0 w
  f0 : d 0 = true → Emp s5
  f1 : d 1 = true → s6 = .pointer (some ⟨x, 0, none⟩)
  f2 : d 2 = true → s7 = .slice a.ro m.refs.length a.rc
  f3 : d 3 = true → OwnN w W0.heap.size s8 m.refs
  f4 : d 4 = true → Emp s9
  f5 : d 5 = true → s10 = .pointer (some ⟨x, 1, none⟩)
  f6 : d 6 = true → s11 = .slice a.tq m.table.length a.tc
  f7 : d 7 = true → OwnN w W0.heap.size s12 m.table ∧ Apt s8 s12
  f8 : d 8 = true → Emp s13
  f9 : d 9 = true → Emp s14
  f10 : d 10 = true → s15 = .pointer (some ⟨x, 3, none⟩)
  f11 : d 11 = true → s16 = .slice a.dq m.data.length a.dc
  f12 : d 12 = true → OwnN w W0.heap.size s17 m.data ∧ Apt s8 s17 ∧ Apt s12 s17
  f13 : d 13 = true → s18 = .agg #[s8, s12, s13, s17]
  f14 : d 14 = true → d 15 = false → ∃ y, s3 = .pointer (some ⟨y, 0, none⟩) ∧ W0.heap.size ≤ y ∧ VarM w y 68 (.slice none 0 0) (.slice none 0 0) (.slice none 0 0) (.slice none 0 0)
  f15 : d 15 = true → ∃ y, s3 = .pointer (some ⟨y, 0, none⟩) ∧ W0.heap.size ≤ y ∧ VarM w y 68 s8 s12 s13 s17
  c7 : d 7 = true → d 3 = true
  c12 : d 12 = true → d 7 = true
  c13 : d 13 = true → d 8 = true ∧ d 12 = true
  c15 : d 15 = true → d 13 = true ∧ d 14 = true

theorem OwI.s0 {W0 w w2 : World} {x : Nat} {a : Im4} {m : Img} {d : Nat → Bool} {s3 s5 s6 s7 s8 s9 s10 s11 s12 s13 s14 s15 s16 s17 s18 v : Value} (I : OwI W0 x a m d w s3 s5 s6 s7 s8 s9 s10 s11 s12 s13 s14 s15 s16 s17 s18) (hd : d 0 = false) (hb : Below w.heap.size w w2) (hv : Emp v) : OwI W0 x a m (updD d 0) w2 s3 v s6 s7 s8 s9 s10 s11 s12 s13 s14 s15 s16 s17 s18 where
  b := fr I.b hb
  f0 := fun _ => hv
  f1 := fun h => I.f1 (upd_ne (by decide) h)
  f2 := fun h => I.f2 (upd_ne (by decide) h)
  f3 := fun h => (I.f3 (upd_ne (by decide) h)).below hb
  f4 := fun h => I.f4 (upd_ne (by decide) h)
  f5 := fun h => I.f5 (upd_ne (by decide) h)
  f6 := fun h => I.f6 (upd_ne (by decide) h)
  f7 := fun h => ⟨(I.f7 (upd_ne (by decide) h)).1.below hb, (I.f7 (upd_ne (by decide) h)).2⟩
  f8 := fun h => I.f8 (upd_ne (by decide) h)
  f9 := fun h => I.f9 (upd_ne (by decide) h)
  f10 := fun h => I.f10 (upd_ne (by decide) h)
  f11 := fun h => I.f11 (upd_ne (by decide) h)
  f12 := fun h => ⟨(I.f12 (upd_ne (by decide) h)).1.below hb, (I.f12 (upd_ne (by decide) h)).2⟩
  f13 := fun h => I.f13 (upd_ne (by decide) h)
  f14 := fun h h' => (I.f14 (upd_ne (by decide) h) (upd_nf h')).imp fun y hy => ⟨hy.1, hy.2.1, hy.2.2.below hb⟩
  f15 := fun h => (I.f15 (upd_ne (by decide) h)).imp fun y hy => ⟨hy.1, hy.2.1, hy.2.2.below hb⟩
  c7 := fun h => upd_up (I.c7 (upd_ne (by decide) h))
  c12 := fun h => upd_up (I.c12 (upd_ne (by decide) h))
  c13 := fun h => ⟨upd_up (I.c13 (upd_ne (by decide) h)).1, upd_up (I.c13 (upd_ne (by decide) h)).2⟩
  c15 := fun h => ⟨upd_up (I.c15 (upd_ne (by decide) h)).1, upd_up (I.c15 (upd_ne (by decide) h)).2⟩

theorem OwI.s4 {W0 w w2 : World} {x : Nat} {a : Im4} {m : Img} {d : Nat → Bool} {s3 s5 s6 s7 s8 s9 s10 s11 s12 s13 s14 s15 s16 s17 s18 v : Value} (I : OwI W0 x a m d w s3 s5 s6 s7 s8 s9 s10 s11 s12 s13 s14 s15 s16 s17 s18) (hd : d 4 = false) (hb : Below w.heap.size w w2) (hv : Emp v) : OwI W0 x a m (updD d 4) w2 s3 s5 s6 s7 s8 v s10 s11 s12 s13 s14 s15 s16 s17 s18 where
  b := fr I.b hb
  f0 := fun h => I.f0 (upd_ne (by decide) h)
  f1 := fun h => I.f1 (upd_ne (by decide) h)
  f2 := fun h => I.f2 (upd_ne (by decide) h)
  f3 := fun h => (I.f3 (upd_ne (by decide) h)).below hb
  f4 := fun _ => hv
  f5 := fun h => I.f5 (upd_ne (by decide) h)
  f6 := fun h => I.f6 (upd_ne (by decide) h)
  f7 := fun h => ⟨(I.f7 (upd_ne (by decide) h)).1.below hb, (I.f7 (upd_ne (by decide) h)).2⟩
  f8 := fun h => I.f8 (upd_ne (by decide) h)
  f9 := fun h => I.f9 (upd_ne (by decide) h)
  f10 := fun h => I.f10 (upd_ne (by decide) h)
  f11 := fun h => I.f11 (upd_ne (by decide) h)
  f12 := fun h => ⟨(I.f12 (upd_ne (by decide) h)).1.below hb, (I.f12 (upd_ne (by decide) h)).2⟩
  f13 := fun h => I.f13 (upd_ne (by decide) h)
  f14 := fun h h' => (I.f14 (upd_ne (by decide) h) (upd_nf h')).imp fun y hy => ⟨hy.1, hy.2.1, hy.2.2.below hb⟩
  f15 := fun h => (I.f15 (upd_ne (by decide) h)).imp fun y hy => ⟨hy.1, hy.2.1, hy.2.2.below hb⟩
  c7 := fun h => upd_up (I.c7 (upd_ne (by decide) h))
  c12 := fun h => upd_up (I.c12 (upd_ne (by decide) h))
  c13 := fun h => ⟨upd_up (I.c13 (upd_ne (by decide) h)).1, upd_up (I.c13 (upd_ne (by decide) h)).2⟩
  c15 := fun h => ⟨upd_up (I.c15 (upd_ne (by decide) h)).1, upd_up (I.c15 (upd_ne (by decide) h)).2⟩

theorem OwI.s8 {W0 w w2 : World} {x : Nat} {a : Im4} {m : Img} {d : Nat → Bool} {s3 s5 s6 s7 s8 s9 s10 s11 s12 s13 s14 s15 s16 s17 s18 v : Value} (I : OwI W0 x a m d w s3 s5 s6 s7 s8 s9 s10 s11 s12 s13 s14 s15 s16 s17 s18) (hd : d 8 = false) (hb : Below w.heap.size w w2) (hv : Emp v) : OwI W0 x a m (updD d 8) w2 s3 s5 s6 s7 s8 s9 s10 s11 s12 v s14 s15 s16 s17 s18 where
  b := fr I.b hb
  f0 := fun h => I.f0 (upd_ne (by decide) h)
  f1 := fun h => I.f1 (upd_ne (by decide) h)
  f2 := fun h => I.f2 (upd_ne (by decide) h)
  f3 := fun h => (I.f3 (upd_ne (by decide) h)).below hb
  f4 := fun h => I.f4 (upd_ne (by decide) h)
  f5 := fun h => I.f5 (upd_ne (by decide) h)
  f6 := fun h => I.f6 (upd_ne (by decide) h)
  f7 := fun h => ⟨(I.f7 (upd_ne (by decide) h)).1.below hb, (I.f7 (upd_ne (by decide) h)).2⟩
  f8 := fun _ => hv
  f9 := fun h => I.f9 (upd_ne (by decide) h)
  f10 := fun h => I.f10 (upd_ne (by decide) h)
  f11 := fun h => I.f11 (upd_ne (by decide) h)
  f12 := fun h => ⟨(I.f12 (upd_ne (by decide) h)).1.below hb, (I.f12 (upd_ne (by decide) h)).2⟩
  f13 := fun h => no_d ((I.c13 (upd_ne (by decide) h)).1) hd
  f14 := fun h h' => (I.f14 (upd_ne (by decide) h) (upd_nf h')).imp fun y hy => ⟨hy.1, hy.2.1, hy.2.2.below hb⟩
  f15 := fun h => no_d ((I.c13 (I.c15 (upd_ne (by decide) h)).1).1) hd
  c7 := fun h => upd_up (I.c7 (upd_ne (by decide) h))
  c12 := fun h => upd_up (I.c12 (upd_ne (by decide) h))
  c13 := fun h => ⟨upd_at, upd_up (I.c13 (upd_ne (by decide) h)).2⟩
  c15 := fun h => ⟨upd_up (I.c15 (upd_ne (by decide) h)).1, upd_up (I.c15 (upd_ne (by decide) h)).2⟩

theorem OwI.s9 {W0 w w2 : World} {x : Nat} {a : Im4} {m : Img} {d : Nat → Bool} {s3 s5 s6 s7 s8 s9 s10 s11 s12 s13 s14 s15 s16 s17 s18 v : Value} (I : OwI W0 x a m d w s3 s5 s6 s7 s8 s9 s10 s11 s12 s13 s14 s15 s16 s17 s18) (hd : d 9 = false) (hb : Below w.heap.size w w2) (hv : Emp v) : OwI W0 x a m (updD d 9) w2 s3 s5 s6 s7 s8 s9 s10 s11 s12 s13 v s15 s16 s17 s18 where
  b := fr I.b hb
  f0 := fun h => I.f0 (upd_ne (by decide) h)
  f1 := fun h => I.f1 (upd_ne (by decide) h)
  f2 := fun h => I.f2 (upd_ne (by decide) h)
  f3 := fun h => (I.f3 (upd_ne (by decide) h)).below hb
  f4 := fun h => I.f4 (upd_ne (by decide) h)
  f5 := fun h => I.f5 (upd_ne (by decide) h)
  f6 := fun h => I.f6 (upd_ne (by decide) h)
  f7 := fun h => ⟨(I.f7 (upd_ne (by decide) h)).1.below hb, (I.f7 (upd_ne (by decide) h)).2⟩
  f8 := fun h => I.f8 (upd_ne (by decide) h)
  f9 := fun _ => hv
  f10 := fun h => I.f10 (upd_ne (by decide) h)
  f11 := fun h => I.f11 (upd_ne (by decide) h)
  f12 := fun h => ⟨(I.f12 (upd_ne (by decide) h)).1.below hb, (I.f12 (upd_ne (by decide) h)).2⟩
  f13 := fun h => I.f13 (upd_ne (by decide) h)
  f14 := fun h h' => (I.f14 (upd_ne (by decide) h) (upd_nf h')).imp fun y hy => ⟨hy.1, hy.2.1, hy.2.2.below hb⟩
  f15 := fun h => (I.f15 (upd_ne (by decide) h)).imp fun y hy => ⟨hy.1, hy.2.1, hy.2.2.below hb⟩
  c7 := fun h => upd_up (I.c7 (upd_ne (by decide) h))
  c12 := fun h => upd_up (I.c12 (upd_ne (by decide) h))
  c13 := fun h => ⟨upd_up (I.c13 (upd_ne (by decide) h)).1, upd_up (I.c13 (upd_ne (by decide) h)).2⟩
  c15 := fun h => ⟨upd_up (I.c15 (upd_ne (by decide) h)).1, upd_up (I.c15 (upd_ne (by decide) h)).2⟩

theorem OwI.s1 {W0 w : World} {x : Nat} {a : Im4} {m : Img} {d : Nat → Bool} {s3 s5 s6 s7 s8 s9 s10 s11 s12 s13 s14 s15 s16 s17 s18 v : Value} (I : OwI W0 x a m d w s3 s5 s6 s7 s8 s9 s10 s11 s12 s13 s14 s15 s16 s17 s18) (hd : d 1 = false) (hv : v = .pointer (some ⟨x, 0, none⟩)) : OwI W0 x a m (updD d 1) w s3 s5 v s7 s8 s9 s10 s11 s12 s13 s14 s15 s16 s17 s18 where
  b := I.b
  f0 := fun h => I.f0 (upd_ne (by decide) h)
  f1 := fun _ => hv
  f2 := fun h => I.f2 (upd_ne (by decide) h)
  f3 := fun h => I.f3 (upd_ne (by decide) h)
  f4 := fun h => I.f4 (upd_ne (by decide) h)
  f5 := fun h => I.f5 (upd_ne (by decide) h)
  f6 := fun h => I.f6 (upd_ne (by decide) h)
  f7 := fun h => I.f7 (upd_ne (by decide) h)
  f8 := fun h => I.f8 (upd_ne (by decide) h)
  f9 := fun h => I.f9 (upd_ne (by decide) h)
  f10 := fun h => I.f10 (upd_ne (by decide) h)
  f11 := fun h => I.f11 (upd_ne (by decide) h)
  f12 := fun h => I.f12 (upd_ne (by decide) h)
  f13 := fun h => I.f13 (upd_ne (by decide) h)
  f14 := fun h h' => I.f14 (upd_ne (by decide) h) (upd_nf h')
  f15 := fun h => I.f15 (upd_ne (by decide) h)
  c7 := fun h => upd_up (I.c7 (upd_ne (by decide) h))
  c12 := fun h => upd_up (I.c12 (upd_ne (by decide) h))
  c13 := fun h => ⟨upd_up (I.c13 (upd_ne (by decide) h)).1, upd_up (I.c13 (upd_ne (by decide) h)).2⟩
  c15 := fun h => ⟨upd_up (I.c15 (upd_ne (by decide) h)).1, upd_up (I.c15 (upd_ne (by decide) h)).2⟩

theorem OwI.s5 {W0 w : World} {x : Nat} {a : Im4} {m : Img} {d : Nat → Bool} {s3 s5 s6 s7 s8 s9 s10 s11 s12 s13 s14 s15 s16 s17 s18 v : Value} (I : OwI W0 x a m d w s3 s5 s6 s7 s8 s9 s10 s11 s12 s13 s14 s15 s16 s17 s18) (hd : d 5 = false) (hv : v = .pointer (some ⟨x, 1, none⟩)) : OwI W0 x a m (updD d 5) w s3 s5 s6 s7 s8 s9 v s11 s12 s13 s14 s15 s16 s17 s18 where
  b := I.b
  f0 := fun h => I.f0 (upd_ne (by decide) h)
  f1 := fun h => I.f1 (upd_ne (by decide) h)
  f2 := fun h => I.f2 (upd_ne (by decide) h)
  f3 := fun h => I.f3 (upd_ne (by decide) h)
  f4 := fun h => I.f4 (upd_ne (by decide) h)
  f5 := fun _ => hv
  f6 := fun h => I.f6 (upd_ne (by decide) h)
  f7 := fun h => I.f7 (upd_ne (by decide) h)
  f8 := fun h => I.f8 (upd_ne (by decide) h)
  f9 := fun h => I.f9 (upd_ne (by decide) h)
  f10 := fun h => I.f10 (upd_ne (by decide) h)
  f11 := fun h => I.f11 (upd_ne (by decide) h)
  f12 := fun h => I.f12 (upd_ne (by decide) h)
  f13 := fun h => I.f13 (upd_ne (by decide) h)
  f14 := fun h h' => I.f14 (upd_ne (by decide) h) (upd_nf h')
  f15 := fun h => I.f15 (upd_ne (by decide) h)
  c7 := fun h => upd_up (I.c7 (upd_ne (by decide) h))
  c12 := fun h => upd_up (I.c12 (upd_ne (by decide) h))
  c13 := fun h => ⟨upd_up (I.c13 (upd_ne (by decide) h)).1, upd_up (I.c13 (upd_ne (by decide) h)).2⟩
  c15 := fun h => ⟨upd_up (I.c15 (upd_ne (by decide) h)).1, upd_up (I.c15 (upd_ne (by decide) h)).2⟩

theorem OwI.s10 {W0 w : World} {x : Nat} {a : Im4} {m : Img} {d : Nat → Bool} {s3 s5 s6 s7 s8 s9 s10 s11 s12 s13 s14 s15 s16 s17 s18 v : Value} (I : OwI W0 x a m d w s3 s5 s6 s7 s8 s9 s10 s11 s12 s13 s14 s15 s16 s17 s18) (hd : d 10 = false) (hv : v = .pointer (some ⟨x, 3, none⟩)) : OwI W0 x a m (updD d 10) w s3 s5 s6 s7 s8 s9 s10 s11 s12 s13 s14 v s16 s17 s18 where
  b := I.b
  f0 := fun h => I.f0 (upd_ne (by decide) h)
  f1 := fun h => I.f1 (upd_ne (by decide) h)
  f2 := fun h => I.f2 (upd_ne (by decide) h)
  f3 := fun h => I.f3 (upd_ne (by decide) h)
  f4 := fun h => I.f4 (upd_ne (by decide) h)
  f5 := fun h => I.f5 (upd_ne (by decide) h)
  f6 := fun h => I.f6 (upd_ne (by decide) h)
  f7 := fun h => I.f7 (upd_ne (by decide) h)
  f8 := fun h => I.f8 (upd_ne (by decide) h)
  f9 := fun h => I.f9 (upd_ne (by decide) h)
  f10 := fun _ => hv
  f11 := fun h => I.f11 (upd_ne (by decide) h)
  f12 := fun h => I.f12 (upd_ne (by decide) h)
  f13 := fun h => I.f13 (upd_ne (by decide) h)
  f14 := fun h h' => I.f14 (upd_ne (by decide) h) (upd_nf h')
  f15 := fun h => I.f15 (upd_ne (by decide) h)
  c7 := fun h => upd_up (I.c7 (upd_ne (by decide) h))
  c12 := fun h => upd_up (I.c12 (upd_ne (by decide) h))
  c13 := fun h => ⟨upd_up (I.c13 (upd_ne (by decide) h)).1, upd_up (I.c13 (upd_ne (by decide) h)).2⟩
  c15 := fun h => ⟨upd_up (I.c15 (upd_ne (by decide) h)).1, upd_up (I.c15 (upd_ne (by decide) h)).2⟩

theorem OwI.s2 {W0 w : World} {x : Nat} {a : Im4} {m : Img} {d : Nat → Bool} {s3 s5 s6 s7 s8 s9 s10 s11 s12 s13 s14 s15 s16 s17 s18 v : Value} (I : OwI W0 x a m d w s3 s5 s6 s7 s8 s9 s10 s11 s12 s13 s14 s15 s16 s17 s18) (hd : d 2 = false) (hv : v = .slice a.ro m.refs.length a.rc) : OwI W0 x a m (updD d 2) w s3 s5 s6 v s8 s9 s10 s11 s12 s13 s14 s15 s16 s17 s18 where
  b := I.b
  f0 := fun h => I.f0 (upd_ne (by decide) h)
  f1 := fun h => I.f1 (upd_ne (by decide) h)
  f2 := fun _ => hv
  f3 := fun h => I.f3 (upd_ne (by decide) h)
  f4 := fun h => I.f4 (upd_ne (by decide) h)
  f5 := fun h => I.f5 (upd_ne (by decide) h)
  f6 := fun h => I.f6 (upd_ne (by decide) h)
  f7 := fun h => I.f7 (upd_ne (by decide) h)
  f8 := fun h => I.f8 (upd_ne (by decide) h)
  f9 := fun h => I.f9 (upd_ne (by decide) h)
  f10 := fun h => I.f10 (upd_ne (by decide) h)
  f11 := fun h => I.f11 (upd_ne (by decide) h)
  f12 := fun h => I.f12 (upd_ne (by decide) h)
  f13 := fun h => I.f13 (upd_ne (by decide) h)
  f14 := fun h h' => I.f14 (upd_ne (by decide) h) (upd_nf h')
  f15 := fun h => I.f15 (upd_ne (by decide) h)
  c7 := fun h => upd_up (I.c7 (upd_ne (by decide) h))
  c12 := fun h => upd_up (I.c12 (upd_ne (by decide) h))
  c13 := fun h => ⟨upd_up (I.c13 (upd_ne (by decide) h)).1, upd_up (I.c13 (upd_ne (by decide) h)).2⟩
  c15 := fun h => ⟨upd_up (I.c15 (upd_ne (by decide) h)).1, upd_up (I.c15 (upd_ne (by decide) h)).2⟩

theorem OwI.s6 {W0 w : World} {x : Nat} {a : Im4} {m : Img} {d : Nat → Bool} {s3 s5 s6 s7 s8 s9 s10 s11 s12 s13 s14 s15 s16 s17 s18 v : Value} (I : OwI W0 x a m d w s3 s5 s6 s7 s8 s9 s10 s11 s12 s13 s14 s15 s16 s17 s18) (hd : d 6 = false) (hv : v = .slice a.tq m.table.length a.tc) : OwI W0 x a m (updD d 6) w s3 s5 s6 s7 s8 s9 s10 v s12 s13 s14 s15 s16 s17 s18 where
  b := I.b
  f0 := fun h => I.f0 (upd_ne (by decide) h)
  f1 := fun h => I.f1 (upd_ne (by decide) h)
  f2 := fun h => I.f2 (upd_ne (by decide) h)
  f3 := fun h => I.f3 (upd_ne (by decide) h)
  f4 := fun h => I.f4 (upd_ne (by decide) h)
  f5 := fun h => I.f5 (upd_ne (by decide) h)
  f6 := fun _ => hv
  f7 := fun h => I.f7 (upd_ne (by decide) h)
  f8 := fun h => I.f8 (upd_ne (by decide) h)
  f9 := fun h => I.f9 (upd_ne (by decide) h)
  f10 := fun h => I.f10 (upd_ne (by decide) h)
  f11 := fun h => I.f11 (upd_ne (by decide) h)
  f12 := fun h => I.f12 (upd_ne (by decide) h)
  f13 := fun h => I.f13 (upd_ne (by decide) h)
  f14 := fun h h' => I.f14 (upd_ne (by decide) h) (upd_nf h')
  f15 := fun h => I.f15 (upd_ne (by decide) h)
  c7 := fun h => upd_up (I.c7 (upd_ne (by decide) h))
  c12 := fun h => upd_up (I.c12 (upd_ne (by decide) h))
  c13 := fun h => ⟨upd_up (I.c13 (upd_ne (by decide) h)).1, upd_up (I.c13 (upd_ne (by decide) h)).2⟩
  c15 := fun h => ⟨upd_up (I.c15 (upd_ne (by decide) h)).1, upd_up (I.c15 (upd_ne (by decide) h)).2⟩

theorem OwI.s11 {W0 w : World} {x : Nat} {a : Im4} {m : Img} {d : Nat → Bool} {s3 s5 s6 s7 s8 s9 s10 s11 s12 s13 s14 s15 s16 s17 s18 v : Value} (I : OwI W0 x a m d w s3 s5 s6 s7 s8 s9 s10 s11 s12 s13 s14 s15 s16 s17 s18) (hd : d 11 = false) (hv : v = .slice a.dq m.data.length a.dc) : OwI W0 x a m (updD d 11) w s3 s5 s6 s7 s8 s9 s10 s11 s12 s13 s14 s15 v s17 s18 where
  b := I.b
  f0 := fun h => I.f0 (upd_ne (by decide) h)
  f1 := fun h => I.f1 (upd_ne (by decide) h)
  f2 := fun h => I.f2 (upd_ne (by decide) h)
  f3 := fun h => I.f3 (upd_ne (by decide) h)
  f4 := fun h => I.f4 (upd_ne (by decide) h)
  f5 := fun h => I.f5 (upd_ne (by decide) h)
  f6 := fun h => I.f6 (upd_ne (by decide) h)
  f7 := fun h => I.f7 (upd_ne (by decide) h)
  f8 := fun h => I.f8 (upd_ne (by decide) h)
  f9 := fun h => I.f9 (upd_ne (by decide) h)
  f10 := fun h => I.f10 (upd_ne (by decide) h)
  f11 := fun _ => hv
  f12 := fun h => I.f12 (upd_ne (by decide) h)
  f13 := fun h => I.f13 (upd_ne (by decide) h)
  f14 := fun h h' => I.f14 (upd_ne (by decide) h) (upd_nf h')
  f15 := fun h => I.f15 (upd_ne (by decide) h)
  c7 := fun h => upd_up (I.c7 (upd_ne (by decide) h))
  c12 := fun h => upd_up (I.c12 (upd_ne (by decide) h))
  c13 := fun h => ⟨upd_up (I.c13 (upd_ne (by decide) h)).1, upd_up (I.c13 (upd_ne (by decide) h)).2⟩
  c15 := fun h => ⟨upd_up (I.c15 (upd_ne (by decide) h)).1, upd_up (I.c15 (upd_ne (by decide) h)).2⟩

theorem OwI.s3 {W0 w w2 : World} {x : Nat} {a : Im4} {m : Img} {d : Nat → Bool} {s3 s5 s6 s7 s8 s9 s10 s11 s12 s13 s14 s15 s16 s17 s18 v : Value} (I : OwI W0 x a m d w s3 s5 s6 s7 s8 s9 s10 s11 s12 s13 s14 s15 s16 s17 s18) (hd : d 3 = false) (hb : Below w.heap.size w w2) (hv : OwnN w2 w.heap.size v m.refs) : OwI W0 x a m (updD d 3) w2 s3 s5 s6 s7 v s9 s10 s11 s12 s13 s14 s15 s16 s17 s18 where
  b := fr I.b hb
  f0 := fun h => I.f0 (upd_ne (by decide) h)
  f1 := fun h => I.f1 (upd_ne (by decide) h)
  f2 := fun h => I.f2 (upd_ne (by decide) h)
  f3 := fun _ => hv.base I.b.size
  f4 := fun h => I.f4 (upd_ne (by decide) h)
  f5 := fun h => I.f5 (upd_ne (by decide) h)
  f6 := fun h => I.f6 (upd_ne (by decide) h)
  f7 := fun h => no_d (I.c7 (upd_ne (by decide) h)) hd
  f8 := fun h => I.f8 (upd_ne (by decide) h)
  f9 := fun h => I.f9 (upd_ne (by decide) h)
  f10 := fun h => I.f10 (upd_ne (by decide) h)
  f11 := fun h => I.f11 (upd_ne (by decide) h)
  f12 := fun h => no_d (I.c7 (I.c12 (upd_ne (by decide) h))) hd
  f13 := fun h => no_d (I.c7 (I.c12 (I.c13 (upd_ne (by decide) h)).2)) hd
  f14 := fun h h' => (I.f14 (upd_ne (by decide) h) (upd_nf h')).imp fun y hy => ⟨hy.1, hy.2.1, hy.2.2.below hb⟩
  f15 := fun h => no_d (I.c7 (I.c12 (I.c13 (I.c15 (upd_ne (by decide) h)).1).2)) hd
  c7 := fun h => upd_at
  c12 := fun h => upd_up (I.c12 (upd_ne (by decide) h))
  c13 := fun h => ⟨upd_up (I.c13 (upd_ne (by decide) h)).1, upd_up (I.c13 (upd_ne (by decide) h)).2⟩
  c15 := fun h => ⟨upd_up (I.c15 (upd_ne (by decide) h)).1, upd_up (I.c15 (upd_ne (by decide) h)).2⟩

theorem OwI.s7 {W0 w w2 : World} {x : Nat} {a : Im4} {m : Img} {d : Nat → Bool} {s3 s5 s6 s7 s8 s9 s10 s11 s12 s13 s14 s15 s16 s17 s18 v : Value} (I : OwI W0 x a m d w s3 s5 s6 s7 s8 s9 s10 s11 s12 s13 s14 s15 s16 s17 s18) (hd : d 7 = false) (hb : Below w.heap.size w w2) (p3 : d 3 = true) (hv : OwnN w2 w.heap.size v m.table) : OwI W0 x a m (updD d 7) w2 s3 s5 s6 s7 s8 s9 s10 s11 v s13 s14 s15 s16 s17 s18 where
  b := fr I.b hb
  f0 := fun h => I.f0 (upd_ne (by decide) h)
  f1 := fun h => I.f1 (upd_ne (by decide) h)
  f2 := fun h => I.f2 (upd_ne (by decide) h)
  f3 := fun h => (I.f3 (upd_ne (by decide) h)).below hb
  f4 := fun h => I.f4 (upd_ne (by decide) h)
  f5 := fun h => I.f5 (upd_ne (by decide) h)
  f6 := fun h => I.f6 (upd_ne (by decide) h)
  f7 := fun _ => ⟨hv.base I.b.size, fresh_apart (I.f3 p3) hv⟩
  f8 := fun h => I.f8 (upd_ne (by decide) h)
  f9 := fun h => I.f9 (upd_ne (by decide) h)
  f10 := fun h => I.f10 (upd_ne (by decide) h)
  f11 := fun h => I.f11 (upd_ne (by decide) h)
  f12 := fun h => no_d (I.c12 (upd_ne (by decide) h)) hd
  f13 := fun h => no_d (I.c12 (I.c13 (upd_ne (by decide) h)).2) hd
  f14 := fun h h' => (I.f14 (upd_ne (by decide) h) (upd_nf h')).imp fun y hy => ⟨hy.1, hy.2.1, hy.2.2.below hb⟩
  f15 := fun h => no_d (I.c12 (I.c13 (I.c15 (upd_ne (by decide) h)).1).2) hd
  c7 := fun h => upd_up p3
  c12 := fun h => upd_at
  c13 := fun h => ⟨upd_up (I.c13 (upd_ne (by decide) h)).1, upd_up (I.c13 (upd_ne (by decide) h)).2⟩
  c15 := fun h => ⟨upd_up (I.c15 (upd_ne (by decide) h)).1, upd_up (I.c15 (upd_ne (by decide) h)).2⟩

theorem OwI.s12 {W0 w w2 : World} {x : Nat} {a : Im4} {m : Img} {d : Nat → Bool} {s3 s5 s6 s7 s8 s9 s10 s11 s12 s13 s14 s15 s16 s17 s18 v : Value} (I : OwI W0 x a m d w s3 s5 s6 s7 s8 s9 s10 s11 s12 s13 s14 s15 s16 s17 s18) (hd : d 12 = false) (hb : Below w.heap.size w w2) (p7 : d 7 = true) (hv : OwnN w2 w.heap.size v m.data) : OwI W0 x a m (updD d 12) w2 s3 s5 s6 s7 s8 s9 s10 s11 s12 s13 s14 s15 s16 v s18 where
  b := fr I.b hb
  f0 := fun h => I.f0 (upd_ne (by decide) h)
  f1 := fun h => I.f1 (upd_ne (by decide) h)
  f2 := fun h => I.f2 (upd_ne (by decide) h)
  f3 := fun h => (I.f3 (upd_ne (by decide) h)).below hb
  f4 := fun h => I.f4 (upd_ne (by decide) h)
  f5 := fun h => I.f5 (upd_ne (by decide) h)
  f6 := fun h => I.f6 (upd_ne (by decide) h)
  f7 := fun h => ⟨(I.f7 (upd_ne (by decide) h)).1.below hb, (I.f7 (upd_ne (by decide) h)).2⟩
  f8 := fun h => I.f8 (upd_ne (by decide) h)
  f9 := fun h => I.f9 (upd_ne (by decide) h)
  f10 := fun h => I.f10 (upd_ne (by decide) h)
  f11 := fun h => I.f11 (upd_ne (by decide) h)
  f12 := fun _ => ⟨hv.base I.b.size, fresh_apart (I.f3 (I.c7 p7)) hv, fresh_apart (I.f7 p7).1 hv⟩
  f13 := fun h => no_d ((I.c13 (upd_ne (by decide) h)).2) hd
  f14 := fun h h' => (I.f14 (upd_ne (by decide) h) (upd_nf h')).imp fun y hy => ⟨hy.1, hy.2.1, hy.2.2.below hb⟩
  f15 := fun h => no_d ((I.c13 (I.c15 (upd_ne (by decide) h)).1).2) hd
  c7 := fun h => upd_up (I.c7 (upd_ne (by decide) h))
  c12 := fun h => upd_up p7
  c13 := fun h => ⟨upd_up (I.c13 (upd_ne (by decide) h)).1, upd_at⟩
  c15 := fun h => ⟨upd_up (I.c15 (upd_ne (by decide) h)).1, upd_up (I.c15 (upd_ne (by decide) h)).2⟩

theorem OwI.s13 {W0 w : World} {x : Nat} {a : Im4} {m : Img} {d : Nat → Bool} {s3 s5 s6 s7 s8 s9 s10 s11 s12 s13 s14 s15 s16 s17 s18 v : Value} (I : OwI W0 x a m d w s3 s5 s6 s7 s8 s9 s10 s11 s12 s13 s14 s15 s16 s17 s18) (hd : d 13 = false) (p8 : d 8 = true) (p12 : d 12 = true) (hv : v = .agg #[s8, s12, s13, s17]) : OwI W0 x a m (updD d 13) w s3 s5 s6 s7 s8 s9 s10 s11 s12 s13 s14 s15 s16 s17 v where
  b := I.b
  f0 := fun h => I.f0 (upd_ne (by decide) h)
  f1 := fun h => I.f1 (upd_ne (by decide) h)
  f2 := fun h => I.f2 (upd_ne (by decide) h)
  f3 := fun h => I.f3 (upd_ne (by decide) h)
  f4 := fun h => I.f4 (upd_ne (by decide) h)
  f5 := fun h => I.f5 (upd_ne (by decide) h)
  f6 := fun h => I.f6 (upd_ne (by decide) h)
  f7 := fun h => I.f7 (upd_ne (by decide) h)
  f8 := fun h => I.f8 (upd_ne (by decide) h)
  f9 := fun h => I.f9 (upd_ne (by decide) h)
  f10 := fun h => I.f10 (upd_ne (by decide) h)
  f11 := fun h => I.f11 (upd_ne (by decide) h)
  f12 := fun h => I.f12 (upd_ne (by decide) h)
  f13 := fun _ => hv
  f14 := fun h h' => I.f14 (upd_ne (by decide) h) (upd_nf h')
  f15 := fun h => no_d ((I.c15 (upd_ne (by decide) h)).1) hd
  c7 := fun h => upd_up (I.c7 (upd_ne (by decide) h))
  c12 := fun h => upd_up (I.c12 (upd_ne (by decide) h))
  c13 := fun h => ⟨upd_up p8, upd_up p12⟩
  c15 := fun h => ⟨upd_at, upd_up (I.c15 (upd_ne (by decide) h)).2⟩

theorem OwI.s14 {W0 w w2 : World} {x : Nat} {a : Im4} {m : Img} {d : Nat → Bool} {s3 s5 s6 s7 s8 s9 s10 s11 s12 s13 s14 s15 s16 s17 s18 v : Value} (I : OwI W0 x a m d w s3 s5 s6 s7 s8 s9 s10 s11 s12 s13 s14 s15 s16 s17 s18) (hd : d 14 = false) (hb : Below w.heap.size w w2) {y : Nat} (hv : v = .pointer (some ⟨y, 0, none⟩)) (hy : W0.heap.size ≤ y) (hn : VarM w2 y 68 (.slice none 0 0) (.slice none 0 0) (.slice none 0 0) (.slice none 0 0)) : OwI W0 x a m (updD d 14) w2 v s5 s6 s7 s8 s9 s10 s11 s12 s13 s14 s15 s16 s17 s18 where
  b := fr I.b hb
  f0 := fun h => I.f0 (upd_ne (by decide) h)
  f1 := fun h => I.f1 (upd_ne (by decide) h)
  f2 := fun h => I.f2 (upd_ne (by decide) h)
  f3 := fun h => (I.f3 (upd_ne (by decide) h)).below hb
  f4 := fun h => I.f4 (upd_ne (by decide) h)
  f5 := fun h => I.f5 (upd_ne (by decide) h)
  f6 := fun h => I.f6 (upd_ne (by decide) h)
  f7 := fun h => ⟨(I.f7 (upd_ne (by decide) h)).1.below hb, (I.f7 (upd_ne (by decide) h)).2⟩
  f8 := fun h => I.f8 (upd_ne (by decide) h)
  f9 := fun h => I.f9 (upd_ne (by decide) h)
  f10 := fun h => I.f10 (upd_ne (by decide) h)
  f11 := fun h => I.f11 (upd_ne (by decide) h)
  f12 := fun h => ⟨(I.f12 (upd_ne (by decide) h)).1.below hb, (I.f12 (upd_ne (by decide) h)).2⟩
  f13 := fun h => I.f13 (upd_ne (by decide) h)
  f14 := fun _ _ => ⟨y, hv, hy, hn⟩
  f15 := fun h => no_d ((I.c15 (upd_ne (by decide) h)).2) hd
  c7 := fun h => upd_up (I.c7 (upd_ne (by decide) h))
  c12 := fun h => upd_up (I.c12 (upd_ne (by decide) h))
  c13 := fun h => ⟨upd_up (I.c13 (upd_ne (by decide) h)).1, upd_up (I.c13 (upd_ne (by decide) h)).2⟩
  c15 := fun h => ⟨upd_up (I.c15 (upd_ne (by decide) h)).1, upd_at⟩

theorem OwnN.other {w : World} {B : Nat} {v : Value} {xs : List Int} (h : OwnN w B v xs) {x t : Nat} {c : Array Value} (hx : w.heap[x]? = some (.cells c t (0, 0))) (he : t ≠ 3) : ¬ Own v x := h.row.other hx he
theorem OwI.s15 {W0 w w2 : World} {x y : Nat} {a : Im4} {m : Img} {d : Nat → Bool} {s3 s5 s6 s7 s8 s9 s10 s11 s12 s13 s14 s15 s16 s17 s18 : Value} (I : OwI W0 x a m d w s3 s5 s6 s7 s8 s9 s10 s11 s12 s13 s14 s15 s16 s17 s18) (hd : d 15 = false) (p13 : d 13 = true) (p14 : d 14 = true) (hy : s3 = .pointer (some ⟨y, 0, none⟩)) (hB : W0.heap.size ≤ y) (hv : w.heap[y]? = some (.cells #[.slice none 0 0, .slice none 0 0, .slice none 0 0, .slice none 0 0] 68 (0, 0))) (hk : Keep (fun k => k = y) w w2) (hn : VarM w2 y 68 s8 s12 s13 s17) : OwI W0 x a m (updD d 15) w2 s3 s5 s6 s7 s8 s9 s10 s11 s12 s13 s14 s15 s16 s17 s18 where
  b := I.b.trans (hk.below I.b.size (fun k e => by omega))
  f0 := fun h => I.f0 (upd_ne (by decide) h)
  f1 := fun h => I.f1 (upd_ne (by decide) h)
  f2 := fun h => I.f2 (upd_ne (by decide) h)
  f3 := fun h => (I.f3 (upd_ne (by decide) h)).keep hk (fun g hg e => (I.f3 (upd_ne (by decide) h)).other hv (by decide) (e ▸ hg))
  f4 := fun h => I.f4 (upd_ne (by decide) h)
  f5 := fun h => I.f5 (upd_ne (by decide) h)
  f6 := fun h => I.f6 (upd_ne (by decide) h)
  f7 := fun h => ⟨(I.f7 (upd_ne (by decide) h)).1.keep hk (fun g hg e => (I.f7 (upd_ne (by decide) h)).1.other hv (by decide) (e ▸ hg)), (I.f7 (upd_ne (by decide) h)).2⟩
  f8 := fun h => I.f8 (upd_ne (by decide) h)
  f9 := fun h => I.f9 (upd_ne (by decide) h)
  f10 := fun h => I.f10 (upd_ne (by decide) h)
  f11 := fun h => I.f11 (upd_ne (by decide) h)
  f12 := fun h => ⟨(I.f12 (upd_ne (by decide) h)).1.keep hk (fun g hg e => (I.f12 (upd_ne (by decide) h)).1.other hv (by decide) (e ▸ hg)), (I.f12 (upd_ne (by decide) h)).2⟩
  f13 := fun h => I.f13 (upd_ne (by decide) h)
  f14 := fun h h' => no_d (k := 15) upd_at h'
  f15 := fun h => ⟨y, hy, hB, hn⟩
  c7 := fun h => upd_up (I.c7 (upd_ne (by decide) h))
  c12 := fun h => upd_up (I.c12 (upd_ne (by decide) h))
  c13 := fun h => ⟨upd_up (I.c13 (upd_ne (by decide) h)).1, upd_up (I.c13 (upd_ne (by decide) h)).2⟩
  c15 := fun h => ⟨upd_up p13, upd_up p14⟩

end Go.Proofs.YtjjkppknojecjaaGreat
