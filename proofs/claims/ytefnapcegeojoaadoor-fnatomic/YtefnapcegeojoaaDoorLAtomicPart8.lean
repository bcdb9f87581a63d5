import Derived.Test.YtefnapcegeojoaaDoorRows
import Derived.Test.YtefnapcegeojoaaDoorLAtomicPart1
import Derived.Test.YtefnapcegeojoaaDoorLAtomicPart3
import Derived.Test.YtefnapcegeojoaaDoorLAtomicPart2
import Derived.Test.YtefnapcegeojoaaDoorLAtomicPart6
import Derived.Test.YtefnapcegeojoaaDoorLAtomicPart7
import Derived.WalkKit
import Derived.WalkSpells
import Derived.KernelRfl
import Derived.LoopN
import Derived.Lib.Walk
import Derived.Lib.SliceRun
import Derived.Lib.SmallJoins
import Derived.Lib.AppendZerosOnto
import Derived.Deep.RegionWith
import Derived.Deep.RegionHeld3
import Derived.Deep.RegionLawGrows
import Derived.Test.YtefnapcegeojoaaDoorLAtomicPart5
import Derived.Test.YtefnapcegeojoaaDoorLAtomicPart4
import Derived.BigQuiet
import Derived.Deep.QuietTactic
import Derived.Deep.CutRange
import Derived.Laws.StructEq

namespace Go.Proofs.YtefnapcegeojoaaDoor
open Go.RowKit
set_option linter.unusedVariables false
set_option maxRecDepth 100000

set_option maxHeartbeats 3200000 in
theorem grow_nil (n : Nat) (w : World) (h0 : 0 < n) (hn : n ≤ 100) :
    Calls Tryd.prog 58 #[.slice none 0 0, .int .i64 n] w fun e w' => ∃ g G, e = .returned (.slice (some ⟨g, 0, none⟩) 0 G) ∧ w'.ownsRow w.heap.size 57 3 (.slice (some ⟨g, 0, none⟩) 0 G) 0 [] ∧ Below w.heap.size w w' := by
  obtain ⟨i0, hi, hz0, hz1, hz2⟩ := info_parts infoMx
  have h1 : ¬ ((n : Int) < 0) := by omega
  have h4 : (n : Int) > 0 := by omega
  have hrz : ∀ ty, (Builtin.append_ #[26, 3] ty #[.slice none 0 0, .int .i64 (n : Int)]).run Tryd.prog w =
      .ok (.slice (some ⟨w.heap.size, 0, none⟩) n (grownCap w n 0 57)) (w.drew.alloc (.cells (Builtin.zeroCells (Value.agg #[.int .i64 0, .int .i64 0, .string ⟨#[]⟩]).cells n ++ Builtin.zeroCells (Value.agg #[.int .i64 0, .int .i64 0, .string ⟨#[]⟩]).cells (grownCap w n 0 57 - n)) 57)) := fun ty => by
    have h := Lib.run_append_grow_zeros w 26 3 ty 57 i0 _ .i64 .i64 Tryd.underlying26 Tryd.underlying3 hi hz0 none 0 0 [] (run_firstCells_none w.drew i0.size 0 0 0) n h0 (by rw [hz1]; omega) (by omega) (by omega) (by rw [hz2]; omega) (growslice_fits (by omega) (by rw [hz2]; omega))
    simpa using h
  have hGn : n ≤ grownCap w n 0 57 := grownCap_ge w _ _ _
  have hGm : grownCap w n 0 57 ≤ maxLen := grownCap_le_maxLen w n 0 57 (by unfold maxLen; omega)
  obtain ⟨G, hG⟩ : ∃ G, G = grownCap w n 0 57 := ⟨_, rfl⟩
  rw [← hG] at hrz hGn hGm
  obtain ⟨Z, hZ⟩ : ∃ Z, Z = Builtin.zeroCells (Value.agg #[.int .i64 0, .int .i64 0, .string ⟨#[]⟩]).cells n ++ Builtin.zeroCells (Value.agg #[.int .i64 0, .int .i64 0, .string ⟨#[]⟩]).cells (G - n) := ⟨_, rfl⟩
  have hZs : Z.size = G * 3 := by rw [hZ, Array.size_append, size_zeroCells, size_zeroCells, show (Value.agg #[.int .i64 0, .int .i64 0, .string ⟨#[]⟩]).cells.size = 3 from rfl]; omega
  rw [← hZ] at hrz
  have HO : Hid ((w.drew.alloc (.cells Z 57)).ownsRow w.heap.size 57 3 (.slice (some ⟨w.heap.size, 0, none⟩) 0 G) 0 []) := hide ⟨rfl, .inr ⟨w.heap.size, G, Z, rfl, Nat.le_refl _, heap_alloc_new w.drew _, Nat.zero_le _, hGm, hZs, by simp⟩⟩
  have hG63 : (G : Int) ≤ 9223372036854775807 := by unfold maxLen at hGm; omega
  have HR := hide hrz
  clear hG hZ hZs hrz hGm
  go_enter Tryd.func58, Tryd.ntmps58
  go_wp2_with (at_builtin; refine Lib.wpList_append_run _ rfl _ _ _ _ rfl _ _ rfl rfl _ _ (unhide HR _) ?_)
  go_ret
  exact ⟨_, _, rfl, unhide HO, belowAl (Below.refl _ _).drew _⟩

def catL (ps : List Part) : List Wr := ps.flatMap fun q => q.ws
theorem catL_succ {ps : List Part} {k : Nat} (h : k < ps.length) : catL (ps.take (k + 1)) = catL (ps.take k) ++ ps[k].ws := by
  unfold catL
  rw [List.take_succ_eq_append_getElem h, List.flatMap_append]
  simp only [List.flatMap_cons, List.flatMap_nil, List.append_nil]
theorem owns_ge {w : World} {B e size g n cap : Nat} {xs : List Value} (h : w.ownsRow B e size (.slice (some ⟨g, 0, none⟩) n cap) n xs) : B ≤ g := by
  rcases h.2 with ⟨e0, _⟩ | ⟨g', cap', cur, e0, hB, _⟩
  · cases e0
  · cases e0; exact hB

set_option maxHeartbeats 3200000 in
theorem concat_any (p cap : Nat) (ps : List Part) (w : World) (hl : ps.length ≤ 2) (h0 : 0 < ps.length) (hp : Parts w p ps) :
    Calls Tryd.prog 35 #[.slice (some ⟨p, 0, none⟩) ps.length cap] w fun e w' => ∃ qo n qa, e = .returned (.slice qo n qa) ∧ ApS w w' qo n qa (catL ps) := by
  have HP := hide hp
  clear hp
  obtain ⟨i0, hi, hz0, hz1, hz2⟩ := info_parts infoMx
  go_enter Tryd.func35, Tryd.ntmps35
  go_wp2
  go_loopw [3, 11] (fun s i wr => ∃ (k n : Nat), k ≤ ps.length ∧ i = .int .i64 k ∧ s = .int .i64 n ∧ n ≤ k * 20 ∧ Hid (0 < k → 0 < n) ∧ Hid (Below w.heap.size w wr)) (fun _ i _ => ps.length - (intOf i).toNat)
  case atStart => exact ⟨0, 0, Nat.zero_le _, rfl, rfl, Nat.zero_le _, hide (fun h => absurd h (Nat.lt_irrefl _)), hide (Below.refl _ _)⟩
  case round =>
    obtain ⟨k, n, hk, rfl, rfl, hn, HN, HB⟩ := hrel
    by_cases hlt : k < ps.length
    · obtain ⟨hc, hios, hp0, hp5⟩ := unhide HP k hlt
      have hcr := ((unhide HB).cell (p := ⟨p, k, none⟩) (World.block_lt_of_cell? _ _ hc)).trans hc
      obtain ⟨M, hM⟩ : ∃ M, M = ps[k].ws.length := ⟨_, rfl⟩
      rw [← hM] at hcr hp0 hp5
      clear hios hM hc
      have hq : k * 20 ≤ 40 := by omega
      have hng : ¬ ((n : Int) + (M : Int) < 0) := by omega
      have wr1 : IntKind.i64.wrap ((n : Int) + (M : Int)) = (n : Int) + (M : Int) := by rw [IntKind.wrap_i64]; omega
      go_wp2
      go_roundw
      case rel => exact ⟨k + 1, n + M, by omega, by go_num, by go_num, by omega, hide (fun _ => by omega), HB⟩
      case measure => simp [intOf]; omega
    · have hke : k = ps.length := by omega
      have hn0 : 0 < n := unhide HN (by omega)
      have hq : k * 20 ≤ 40 := by omega
      go_wp2_with fail
      refine (grow_nil n _ hn0 (by omega)).mono ?_
      rintro e w1 ⟨g1, G1, rfl, ho, hb⟩
      have HO : Hid (w1.ownsRow w.heap.size 57 3 (.slice (some ⟨g1, 0, none⟩) 0 G1) 0 (ioV (catL (ps.take 0)))) := hide (own_base ho (unhide HB).size)
      have HB1 := hide (fr (unhide HB) hb)
      clear ho hb
      go_wp2
      go_loopw [6, 27] (fun o i wr' => ∃ (j g m qa : Nat), j ≤ ps.length ∧ i = .int .i64 j ∧ o = .slice (some ⟨g, 0, none⟩) m qa ∧ m ≤ j * 20 ∧ Hid (wr'.ownsRow w.heap.size 57 3 (.slice (some ⟨g, 0, none⟩) m qa) m (ioV (catL (ps.take j)))) ∧ Hid (0 < j → 0 < m) ∧ Hid (Below w.heap.size w wr')) (fun _ i _ => ps.length - (intOf i).toNat)
      case atStart => exact ⟨0, g1, 0, G1, Nat.zero_le _, rfl, rfl, Nat.zero_le _, HO, hide (fun h => absurd h (Nat.lt_irrefl _)), HB1⟩
      case round =>
        obtain ⟨j, g, m, qa, hj, rfl, rfl, hm, HO, HM0, HB⟩ := hrel
        by_cases hlt2 : j < ps.length
        · obtain ⟨hc, hios, hp0, hp5⟩ := unhide HP j hlt2
          have hcr := ((unhide HB).cell (p := ⟨p, j, none⟩) (World.block_lt_of_cell? _ _ hc)).trans hc
          have HI := hide ((hios.below (unhide HB)).src hp0)
          have HL : Hid ((ioV ps[j].ws).length = ps[j].ws.length * 3) := hide (ioV_length _)
          have HG := hide (owns_ge (unhide HO))
          have HSZ := hide (unhide HB).size
          obtain ⟨M, hM⟩ : ∃ M, M = ps[j].ws.length := ⟨_, rfl⟩
          rw [← hM] at hcr hp0 hp5 HL
          clear hios hM hc
          have hq2 : j * 20 ≤ 40 := by omega
          go_wp2_with (at_builtin; refine wpList_append_room rfl _ _ 26 rfl w.heap.size 57 i0 (.agg #[.int .i64 0, .int .i64 0, .string ⟨#[]⟩]) 3 32 Tryd.underlying26 hi hz0 hz1 hz2 rfl (by omega) g m qa (ioV (catL (ps.take j))) rfl (unhide HO) (unhide HSZ) ps[j].ao M ps[j].cap (ioV ps[j].ws) rfl hp0 (unhide HL) (fun _ => unhide HI) (ioV_one _) (by unfold maxLen; omega) (by omega) ?_; intro g2 cap2 wA hoA hkA; have HO2 : Hid (wA.ownsRow w.heap.size 57 3 (.slice (some ⟨g2, 0, none⟩) (m + M) cap2) (m + M) (ioV (catL (ps.take (j + 1))))) := hide (by rw [catL_succ hlt2, ioV_append]; exact hoA); have HB2 := hide (belowKp (unhide HB) hkA (fun q hq => by rw [hq]; exact unhide HG)); clear hoA hkA)
          go_roundw
          case rel => exact ⟨j + 1, g2, m + M, cap2, by omega, by go_num, rfl, by omega, HO2, hide (fun _ => by omega), HB2⟩
          case measure => simp [intOf]; omega
        · have hje : j = ps.length := by omega
          have hm0 : 0 < m := unhide HM0 (by omega)
          have HF : Hid (ApS w wr (some ⟨g, 0, none⟩) m qa (catL ps)) := hide ⟨.inr ⟨hm0, by have := unhide HO; rwa [List.take_of_length_le (by omega)] at this⟩, unhide HB⟩
          go_wp2
          go_ret
          exact ⟨_, _, _, rfl, unhide HF⟩

set_option maxHeartbeats 3200000 in
theorem texts_any (slot seq : Int) (ao : Option Addr) (cap : Nat) (us : List Up) (w : World) (hsl : 0 ≤ slot ∧ slot ≤ 1000) (hl : us.length ≤ 5) (hub : upsB us = true) (hu : Ups w ao us) :
    Calls Tryd.prog 37 #[jV slot seq ao us.length cap] w fun e w' => ∃ qo qa, e = .returned (.slice qo us.length qa) ∧ ApS w w' qo us.length qa (txL slot us) := by
  have HU := hide hu
  have HUB := hide hub
  clear hu hub
  obtain ⟨i0, hi, hz0, hz1, hz2⟩ := info_parts infoMx
  have HV := hide (VarJ.new w 51 slot seq (.slice ao us.length cap))
  have HVA := hide (Joins.below_alloc1 w (.cells #[.int .i64 slot, .int .i64 seq, .slice ao us.length cap] 51))
  have H0 : Hid (ApS w (w.alloc (.cells #[.int .i64 slot, .int .i64 seq, .slice ao us.length cap] 51)) none 0 0 [] ∧ Below (w.alloc (.cells #[.int .i64 slot, .int .i64 seq, .slice ao us.length cap] 51)).heap.size (w.alloc (.cells #[.int .i64 slot, .int .i64 seq, .slice ao us.length cap] 51)) (w.alloc (.cells #[.int .i64 slot, .int .i64 seq, .slice ao us.length cap] 51))) := hide ⟨⟨.inl ⟨rfl, rfl, _, rfl⟩, Joins.below_alloc1 _ _⟩, Below.refl _ _⟩
  go_enter Tryd.func37, Tryd.ntmps37
  go_wp2
  go_loopw [3, 9] (fun o i wr => ∃ (k : Nat) (qo : Option Addr) (qa : Nat), k ≤ us.length ∧ i = .int .i64 k ∧ o = .slice qo k qa ∧ Hid (ApS w wr qo k qa ((txL slot us).take k)) ∧ Hid (VarJ wr w.heap.size 51 slot seq (.slice ao us.length cap))) (fun _ i _ => us.length - (intOf i).toNat)
  case atStart => exact ⟨0, _, _, Nat.zero_le _, rfl, rfl, hide (unhide H0).1, HV⟩
  case round =>
    obtain ⟨k, qo, qa, hk, rfl, rfl, HA, HJ⟩ := hrel
    by_cases hlt : k < us.length
    · obtain ⟨b, off, rfl, hc0, hc1, hcz⟩ := (unhide HU).below (unhide HA).k k hlt
      have hbl := World.block_lt_of_cell? _ _ hc0
      have HUP := hide (upsB_at (unhide HUB) hlt)
      clear hcz
      have HAL := hide (Joins.below_alloc1 wr (.cells #[.int .i64 us[k].at_, .string us[k].data] 42))
      have HU1 := hide (VarU.new wr 42 us[k])
      have HA1 := hide ((unhide HA).next (unhide HAL))
      have HJ1 := hide ((unhide HJ).below (unhide HAL))
      obtain ⟨u0, u1⟩ := (unhide HU1).cells
      obtain ⟨j0, j1, j2⟩ := (unhide HJ1).cells
      have hjl := (unhide HJ).lt
      go_wp2
      go_region_held3 (fun w' => w'.cell? ⟨wr.heap.size, 0, none⟩ = some (.int .i64 us[k].at_) ∧ w'.cell? ⟨wr.heap.size, 1, none⟩ = some (.string us[k].data) ∧ w'.cell? ⟨w.heap.size, 0, none⟩ = some (.int .i64 slot) ∧ w'.cell? ⟨w.heap.size, 1, none⟩ = some (.int .i64 seq) ∧ w'.cell? ⟨w.heap.size, 2, none⟩ = some (.slice (some ⟨b, off, none⟩) us.length cap)) (go_keep)
        (first
          | (go_at_call 49; refine (place_any slot seq _ us.length cap k _ hsl (by omega)).mono ?_; rintro e w2 ⟨rfl, hb⟩; have HB2 := hide (fr (Below.refl _ _).drew hb); have HA2 := hide ((unhide HA1).next (unhide HB2)); have HJ2 := hide ((unhide HJ1).below (unhide HB2)); have HU2 := hide ((unhide HU1).below (unhide HB2)); obtain ⟨v0, v1⟩ := (unhide HU2).cells; obtain ⟨q0, q1, q2⟩ := (unhide HJ2).cells; clear hb)
          | (go_at_call 60; refine (text_any us[k] _ (unhide HUP)).mono ?_; rintro e w3 ⟨rfl, hb⟩; have HA3 := hide ((unhide HA2).next hb); have HJ3 := hide ((unhide HJ2).below hb); have HU3 := hide ((unhide HU2).below hb); obtain ⟨x0, x1⟩ := (unhide HU3).cells; obtain ⟨y0, y1, y2⟩ := (unhide HJ3).cells; have HAA := hide ((unhide HA3).next (Joins.below_alloc1 w3 (.cells #[.int .i64 1, .int .i64 (slot + 1 + (k : Int)), .string (encU us[k])] 57))); have HSZ := hide (unhide HAA).sz; have HJA := hide ((unhide HJ3).below (Joins.below_alloc1 w3 (.cells #[.int .i64 1, .int .i64 (slot + 1 + (k : Int)), .string (encU us[k])] 57))); have HUA := hide ((unhide HU3).below (Joins.below_alloc1 w3 (.cells #[.int .i64 1, .int .i64 (slot + 1 + (k : Int)), .string (encU us[k])] 57))); have hl1 := (unhide HU3).lt; have hl2 := (unhide HJ3).lt; clear hb)
          | (refine (step_append_at rfl (.tmp 14) (.tmp 21) 26 rfl w.heap.size 57 i0 (.agg #[.int .i64 0, .int .i64 0, .string ⟨#[]⟩]) 3 32 Tryd.underlying26 hi hz0 hz1 hz2 ?_ ?_ qo k qa (ioV ((txL slot us).take k)) ?_ ?_ ?_ (wrV (mvT slot k us[k])) ?_ ?_ ?_ ?_ ?_ ?_)
             · rfl
             · omega
             · rfl
             · exact (unhide HAA).o
             · exact unhide HSZ
             · exact ⟨_, _, rfl, news3 w3 (mvT slot k us[k]) _⟩
             · rfl
             · exact wrV_one _
             · unfold maxLen; omega
             · omega
             intro g2 cap2 wA hoA hkA
             have HN := hide (ApS.one (unhide HAA) hoA hkA)
             have HJN : Hid (VarJ wA w.heap.size 51 slot seq (.slice (some ⟨b, off, none⟩) us.length cap)) := hide (by unfold VarJ; rw [hkA.block _ (unhide HJA).lt ((unhide HAA).o.other (unhide HJA) (by decide))]; exact unhide HJA)
             have HUN : Hid (VarU wA wr.heap.size 42 us[k]) := hide (by unfold VarU; rw [hkA.block _ (unhide HUA).lt ((unhide HAA).o.other (unhide HUA) (by decide))]; exact unhide HUA)
             obtain ⟨z0, z1⟩ := (unhide HUN).cells
             obtain ⟨t0, t1, t2⟩ := (unhide HJN).cells
             clear hoA hkA))
      all_goals
        go_wp2
        go_roundw
        case rel => exact ⟨k + 1, _, _, by omega, by go_num, rfl, hide (by rw [txL_take hlt]; exact unhide HN), HJN⟩
        case measure => simp [intOf]; omega
    · have hke : k = us.length := by omega
      subst hke
      have HA1 : Hid (ApS w wr qo us.length qa (txL slot us)) := hide (by have := unhide HA; rwa [txL_done (Nat.le_refl _)] at this)
      go_wp2
      go_ret
      exact ⟨_, _, rfl, unhide HA1⟩

end Go.Proofs.YtefnapcegeojoaaDoor

namespace Go.Proofs.YtefnapcegeojoaaDoor
open Go.RowKit
set_option linter.unusedVariables false
set_option maxRecDepth 100000

theorem slN_inI {h : Int} (hh : inB h 0 3 = true) : 0 ≤ slN h ∧ slN h ≤ 1000 := by
  have : 0 ≤ h ∧ h ≤ 3 := by simpa [inB] using hh
  unfold slN; omega
theorem bg_parts (slot seq : Int) (us : List Up) (po qo : Option Addr) (pa qa : Nat) : plM [⟨po, pa, txL slot us⟩, ⟨qo, qa, [mvH slot us.length seq]⟩] = bgL slot seq us := by simp [plM, bgL]
theorem pl_parts (slot seq : Int) (us : List Up) (h : us.length ≠ 0) (po qo : Option Addr) (pa qa : Nat) : catL [⟨po, pa, bgL slot seq us⟩, ⟨qo, qa, apL slot seq us⟩] = plL slot seq us := by
  rw [plL, if_neg h]; simp [catL]
theorem ApS.ios {w W : World} {qo : Option Addr} {n qa : Nat} {ms : List Wr} (h : ApS w W qo n qa ms) (hz : short ms) : Ios W qo ms := by
  have e := h.len
  subst e
  exact ownMv h.o hz.sizes
theorem parts_two_of (w : World) (n : Nat) (t : TypeId) (p q : Part) (m k : Nat) (hm : m = p.ws.length) (hk : k = q.ws.length) (hn : w.heap.size = n) (hp : Ios w p.ao p.ws) (hp0 : 0 < m ∧ m ≤ 20) (hq : Ios w q.ao q.ws) (hq0 : 0 < k ∧ k ≤ 20) :
    Parts (w.alloc (.cells #[.slice p.ao m p.cap, .slice q.ao k q.cap] t)) n [p, q] := by
  subst hm hk
  exact parts_two w n t p q hn ⟨hp, hp0⟩ ⟨hq, hq0⟩
theorem planOf_two (p cap : Nat) (a b : Part) (w : World) (hp : Parts w p [a, b]) :
    Calls Tryd.prog 36 #[.slice (some ⟨p, 0, none⟩) 2 cap] w fun e w' => ∃ qo n qa, e = .returned (.slice qo n qa) ∧ ApS w w' qo n qa (plM [a, b]) := planOf_any p cap [a, b] w (by simp) hp
theorem concat_two (p cap : Nat) (a b : Part) (w : World) (hp : Parts w p [a, b]) :
    Calls Tryd.prog 35 #[.slice (some ⟨p, 0, none⟩) 2 cap] w fun e w' => ∃ qo n qa, e = .returned (.slice qo n qa) ∧ ApS w w' qo n qa (catL [a, b]) := concat_any p cap [a, b] w (by simp) (by simp) hp

set_option maxHeartbeats 6400000 in
theorem toBegin_any (slot seq : Int) (ao : Option Addr) (cap : Nat) (us : List Up) (w : World) (hsl : 0 ≤ slot ∧ slot ≤ 1000) (hl : us.length ≤ 5) (hs : numB seq = true) (hub : upsB us = true) (hu : Ups w ao us) :
    Calls Tryd.prog 19 #[jV slot seq ao us.length cap] w fun e w' => ∃ qo n qa, e = .returned (.slice qo n qa) ∧ ApS w w' qo n qa (plL slot seq us) := by
  have HA := hide (Joins.below_alloc1 w (.cells #[.int .i64 slot, .int .i64 seq, .slice ao us.length cap] 51))
  have HV := hide (VarJ.new w 51 slot seq (.slice ao us.length cap))
  by_cases h0 : us.length = 0
  · have hb0 : (((us.length : Nat) : Int) == 0) = true := by simp [h0]
    have HE : Hid (plL slot seq us = []) := hide (if_pos h0)
    clear h0 hs hu hub
    go_enter Tryd.func19, Tryd.ntmps19
    go_wp2
    go_ret
    exact ⟨_, _, _, rfl, by rw [unhide HE]; exact ⟨.inl ⟨rfl, rfl, _, rfl⟩, unhide HA⟩⟩
  have hb0 : (((us.length : Nat) : Int) == 0) = false := by rw [beq_eq_false_iff_ne]; omega
  have hp0 : 0 < us.length := by omega
  have HS := hide hs
  have HU := hide hu
  have HUB := hide hub
  have HPL := hide (pl_parts slot seq us h0)
  have HRP : Hid (rpL slot seq us = apL slot seq us) := hide (if_neg h0)
  clear hs hu hub h0
  obtain ⟨c0, c1, c2⟩ := (unhide HV).cells
  go_enter Tryd.func19, Tryd.ntmps19
  go_wp2
  go_region_held3 (fun w' => w'.cell? ⟨w.heap.size, 0, none⟩ = some (.int .i64 slot) ∧ w'.cell? ⟨w.heap.size, 1, none⟩ = some (.int .i64 seq) ∧ w'.cell? ⟨w.heap.size, 2, none⟩ = some (.slice ao us.length cap)) (go_keep)
    (first
      | (go_at_call 37; refine (texts_any slot seq ao cap us _ hsl hl (unhide HUB) (by exact ((unhide HU).below (unhide HA)).below (Below.refl _ _).drew)).mono ?_; rintro e w2 ⟨po, pa, rfl, hap⟩; have HB2 := hide (fr (Below.refl _ _).drew hap.k); have HI2 := hide (hap.ios (short_tx (unhide HUB))); obtain ⟨d0, d1, d2⟩ := ((unhide HV).below (unhide HB2)).cells; clear hap)
      | (go_at_call 38; refine (head_any slot seq ao us.length cap us.length _ (by omega) (unhide HS)).mono ?_; rintro e w3 ⟨qo, rfl, hi3, hb3⟩; have HB3 := hide (fr (unhide HB2) hb3); have HI3 := hide hi3; have HI23 := hide ((unhide HI2).below hb3); obtain ⟨e0, e1, e2⟩ := ((unhide HV).below (unhide HB3)).cells; have hlt3 := ((unhide HV).below (unhide HB3)).lt; clear hi3 hb3)
      | (go_at_call 36; refine (planOf_two w3.heap.size 2 ⟨po, pa, txL slot us⟩ ⟨qo, 1, [mvH slot us.length seq]⟩ _ (by exact parts_two_of w3 w3.heap.size 26 ⟨po, pa, txL slot us⟩ ⟨qo, 1, [mvH slot us.length seq]⟩ us.length 1 (txL_length slot us).symm rfl rfl (unhide HI23) (by omega) (unhide HI3) (by omega))).mono ?_; rintro e w4 ⟨ro, rn, ra, rfl, hap⟩; rw [bg_parts] at hap; have HB4 := hide (fr (unhide HB3) (fr (Joins.below_alloc1 _ _) hap.k)); have HI4 := hide (hap.ios (short_bg (unhide HUB))); have HN4 := hide (hap.len.trans (bgL_length _ _ _)); obtain ⟨f0, f1, f2⟩ := ((unhide HV).below (unhide HB4)).cells; clear hap)
      | (go_at_call 27; refine (toApply_any slot seq ao cap us _ hl (fun _ => unhide HS) (unhide HUB) (by exact ((unhide HU).below (unhide HA)).below (unhide HB4))).mono ?_; rintro e w5 ⟨so, sn, sa, rfl, hap⟩; rw [unhide HRP] at hap; have HB5 := hide (fr (unhide HB4) hap.k); have HI45 := hide ((unhide HI4).below hap.k); have HI5 := hide (hap.ios (short_ap (unhide HUB))); have HN5 := hide (hap.len.trans (apL_length _ _ _)); obtain ⟨g0, g1, g2⟩ := ((unhide HV).below (unhide HB5)).cells; have hlt5 := ((unhide HV).below (unhide HB5)).lt; clear hap)
      | (go_at_call 35; refine (concat_two w5.heap.size 2 ⟨ro, ra, bgL slot seq us⟩ ⟨so, sa, apL slot seq us⟩ _ (by exact parts_two_of w5 w5.heap.size 26 ⟨ro, ra, bgL slot seq us⟩ ⟨so, sa, apL slot seq us⟩ rn sn ((unhide HN4).trans (bgL_length _ _ _).symm) ((unhide HN5).trans (apL_length _ _ _).symm) rfl (unhide HI45) (by have := unhide HN4; omega) (unhide HI5) (by have := unhide HN5; omega))).mono ?_; rintro e w6 ⟨tq, tn, ta, rfl, hap⟩; rw [unhide HPL] at hap; have HB6 := hide (fr (unhide HB5) (fr (Joins.below_alloc1 _ _) hap.k)); have HAP := hide hap; obtain ⟨h0, h1, h2⟩ := ((unhide HV).below (unhide HB6)).cells; clear hap))
  all_goals
    have HF : Hid (ApS w w6 tq tn ta (plL slot seq us)) := hide ⟨(unhide HAP).o.base (by have h1 := (unhide HB5).size; have h2 := (unhide HA).size; simp at h1 ⊢; omega), fr (unhide HA) (unhide HB6)⟩
    go_wp2
    go_ret
    exact ⟨_, _, _, rfl, unhide HF⟩

set_option maxHeartbeats 1600000 in
theorem updatesFault_any (seq : Int) (ao : Option Addr) (cap : Nat) (us : List Up) (w : World) (hl : us.length ≤ 4096) (hu : Ups w ao us) :
    Calls Tryd.prog 18 #[.int .i64 seq, .slice ao us.length cap] w fun e w' => e = .returned (.int .i64 (if numB seq = false then 4 else fuC us)) ∧ Below w.heap.size w w' := by
  have HU := hide hu
  clear hu
  by_cases h3 : numB seq = false
  · rw [if_pos h3]
    go_enter Tryd.func18, Tryd.ntmps18
    go_wp2_with fail
    refine (isNumber_any seq _).mono ?_
    rintro e w1 ⟨rfl, rfl⟩
    rw [h3]
    go_wp2
    go_ret
    exact ⟨rfl, Below.refl _ _⟩
  rw [if_neg h3]
  rw [Bool.not_eq_false] at h3
  by_cases h5 : 5 < us.length
  · have HF := hide (fuC_many h5)
    go_enter Tryd.func18, Tryd.ntmps18
    go_wp2_with fail
    refine (isNumber_any seq _).mono ?_
    rintro e w1 ⟨rfl, rfl⟩
    rw [h3]
    go_wp2
    go_ret
    exact ⟨ret_int (unhide HF).symm, Below.refl _ _⟩
  go_enter Tryd.func18, Tryd.ntmps18
  go_wp2_with fail
  refine (isNumber_any seq _).mono ?_
  rintro e w1 ⟨rfl, hw⟩
  replace hw := hw.symm
  subst hw
  rw [h3]
  go_wp2
  go_loopw [15] (fun i wr => ∃ (k : Nat), k ≤ us.length ∧ i = .int .i64 k ∧ Hid (∀ j (h : j < us.length), j < k → upB us[j] = true) ∧ Hid (Below w.heap.size w wr)) (fun i _ => us.length - (intOf i).toNat)
  case atStart => exact ⟨0, Nat.zero_le _, rfl, hide (fun j h hj => by omega), hide (Below.refl _ _)⟩
  case round =>
    obtain ⟨k, hk, rfl, HP, HB⟩ := hrel
    by_cases hlt : k < us.length
    · obtain ⟨b, off, rfl, hc0, hc1, hcz⟩ := (unhide HU).below (unhide HB) k hlt
      have hbl := World.block_lt_of_cell? _ _ hc0
      have HZ := hide hcz
      clear hcz
      go_wp2_with fail
      refine (updateOK_any us[k] _ (unhide HZ)).mono ?_
      rintro e w2 ⟨rfl, hb⟩
      have HB2 := hide (fr (belowAl (unhide HB) _) hb)
      clear hb
      by_cases hp : upB us[k] = true
      · have HPP := hide (all_succ hlt (unhide HP) hp)
        go_wp2
        go_roundw
        case rel => exact ⟨k + 1, by omega, by go_num, HPP, HB2⟩
        case measure => simp [intOf]; omega
      · rw [Bool.not_eq_true] at hp
        have HF := hide (fuC_bad h5 (all_not hlt hp))
        go_wp2
        go_ret
        exact ⟨ret_int (unhide HF).symm, unhide HB2⟩
    · have HF := hide (fuC_ok h5 (all_of (fun i hi _ => unhide HP i hi (by omega))))
      go_wp2
      go_ret
      exact ⟨ret_int (unhide HF).symm, unhide HB⟩

set_option maxHeartbeats 1600000 in
theorem journalPlan_impl (h seq : Int) (ao : Option Addr) (cap : Nat) (us : List Up) (w : World) (hl : us.length ≤ 1048576) (hu : Ups w ao us) :
    Calls Tryd.prog 7 #[.int .i64 h, .int .i64 seq, .slice ao us.length cap] w fun e w' => ∃ qo qa n, e = .returned (.tuple #[.slice qo n qa, .int .i64 (jpC h seq us)]) ∧ ApS w w' qo n qa (jpL h seq us) := by
  have HU := hide hu
  have H0 : Hid (∀ W, Below w.heap.size w W → ApS w W none 0 0 []) := hide (fun W hb => ⟨.inl ⟨rfl, rfl, _, rfl⟩, hb⟩)
  clear hu
  by_cases h1 : 4096 < us.length
  · have HE : Hid (jpC h seq us = 2) := hide (jpC_long h1)
    have HL := hide (jpL_no (show jpC h seq us ≠ 0 by rw [unhide HE]; decide))
    go_enter Tryd.func7, Tryd.ntmps7
    go_wp2
    go_ret2
    exact ⟨_, _, _, ret_ni rfl (unhide HE).symm, by rw [unhide HL]; exact unhide H0 _ (Below.refl _ _)⟩
  by_cases h2 : inB h 0 3 = false
  · have HE : Hid (jpC h seq us = 4) := hide (jpC_host h1 h2)
    have HL := hide (jpL_no (show jpC h seq us ≠ 0 by rw [unhide HE]; decide))
    have hsc : slC h = 4 := by simp [slC, h2]
    go_enter Tryd.func7, Tryd.ntmps7
    go_wp2_with fail
    refine (slotOf_impl h _).mono ?_
    rintro e w1 ⟨rfl, hw⟩
    replace hw := hw.symm
    subst hw
    rw [hsc]
    go_wp2
    go_ret2
    exact ⟨_, _, _, ret_ni rfl (unhide HE).symm, by rw [unhide HL]; exact unhide H0 _ (Below.refl _ _)⟩
  rw [Bool.not_eq_false] at h2
  have hsc : slC h = 0 := by simp [slC, h2]
  have hsr : slR h = slN h := by simp [slR, h2]
  obtain ⟨C, hC⟩ : ∃ C : Int, C = if numB seq = false then 4 else fuC us := ⟨_, rfl⟩
  have HQ : Hid (jpC h seq us = C) := hide (by
    rw [hC]
    by_cases h3 : numB seq = false
    · rw [if_pos h3]; exact jpC_seq h1 h2 h3
    · rw [if_neg h3]; rw [Bool.not_eq_false] at h3; exact jpC_list h1 h2 h3)
  have HF : Hid (∀ W, Ups W ao us → Calls Tryd.prog 18 #[.int .i64 seq, .slice ao us.length cap] W fun e w' => e = .returned (.int .i64 C) ∧ Below W.heap.size W w') := hide (fun W hW => by rw [hC]; exact updatesFault_any seq ao cap us W (by omega) hW)
  have H2 := hide (slN_inI h2)
  have HCQ := hide hC
  clear hC
  go_enter Tryd.func7, Tryd.ntmps7
  go_wp2_with fail
  refine (slotOf_impl h _).mono ?_
  rintro e w1 ⟨rfl, hw⟩
  replace hw := hw.symm
  subst hw
  rw [hsc, hsr]
  go_wp2_with fail
  refine (unhide HF _ (unhide HU)).mono ?_
  rintro e w1 ⟨rfl, hb⟩
  have HB := hide hb
  clear hb
  by_cases hc : C = 0
  · have hcb : (C != 0) = false := by simp [hc]
    have HC : Hid (jpC h seq us = 0) := hide ((unhide HQ).trans hc)
    have hC := unhide HCQ
    have h3 : numB seq = true := by
      rw [hc] at hC
      cases h3 : numB seq with
      | true => rfl
      | false => rw [if_pos h3] at hC; cases hC
    have hfu : fuC us = 0 := by rw [hc, if_neg (by simp [h3])] at hC; exact hC.symm
    obtain ⟨h5, hub⟩ := fuC_zero hfu
    have HUB := hide hub
    have H3 := hide h3
    have HL := hide (jpL_yes (unhide HC))
    clear hub hfu h3 hC
    go_wp2_with fail
    refine (toBegin_any (slN h) seq ao cap us _ (unhide H2) h5 (unhide H3) (unhide HUB) ((unhide HU).below (unhide HB))).mono ?_
    rintro e w2 ⟨qo, n, qa, rfl, ha⟩
    have HA : Hid (ApS w w2 qo n qa (plL (slN h) seq us)) := hide ⟨ha.o.base (unhide HB).size, fr (unhide HB) ha.k⟩
    clear ha
    go_wp2
    go_ret2
    exact ⟨_, _, _, ret_ni rfl (unhide HC).symm, by rw [unhide HL]; exact unhide HA⟩
  · have hcb : (C != 0) = true := by simp [hc]
    have HL := hide (jpL_no (show jpC h seq us ≠ 0 by rw [unhide HQ]; exact hc))
    clear hc
    go_wp2
    go_ret2
    exact ⟨_, _, _, ret_ni rfl (unhide HQ).symm, by rw [unhide HL]; exact unhide H0 _ (unhide HB)⟩

end Go.Proofs.YtefnapcegeojoaaDoor

namespace Go.Proofs.YtefnapcegeojoaaDoor
open Go.RowKit
set_option linter.unusedVariables false
set_option maxRecDepth 100000

theorem l07Slot_any (h : Int) (w : World) (hh : inB h 0 3 = true) : Calls Tryd.prog 74 #[.int .i64 h] w fun e w' => e = .returned (.int .i64 (slN h)) ∧ w' = w := by
  have h1 : 0 ≤ h ∧ h ≤ 3 := by simpa [inB] using hh
  have wr1 : IntKind.i64.wrap (6 * h) = 6 * h := by rw [IntKind.wrap_i64]; omega
  have wr2 : IntKind.i64.wrap (39 + 6 * h) = 39 + 6 * h := by rw [IntKind.wrap_i64]; omega
  clear hh h1
  go_enter Tryd.func74, Tryd.ntmps74
  go_wp2
  go_ret
  exact ⟨rfl, rfl⟩

set_option maxHeartbeats 1600000 in
theorem l07Update_any (u : Up) (w : World) (hz : u.data.size ≤ maxLen) : Calls Tryd.prog 89 #[uV u] w fun e w' => e = .returned (.bool (upB u)) ∧ Below w.heap.size w w' := by
  unfold maxLen at hz
  go_enter Tryd.func89, Tryd.ntmps89
  go_wp2_with fail
  refine (l01In_num u.at_ 9 38 _).mono ?_
  rintro e w1 ⟨rfl, rfl⟩
  by_cases h1 : inB u.at_ 9 38 = false
  · have hr : Hid (upB u = false) := hide (by simp [upB, h1])
    go_wp2
    go_ret
    rw [unhide hr]
    exact ⟨rfl, Joins.below_alloc1 _ _⟩
  rw [Bool.not_eq_false] at h1
  have hr : Hid (upB u = decide ((u.data.size : Int) ≤ 72)) := hide (by simp [upB, h1]; omega)
  go_wp2
  go_ret
  rw [unhide hr]
  exact ⟨rfl, Joins.below_alloc1 _ _⟩

end Go.Proofs.YtefnapcegeojoaaDoor

namespace Go.Proofs.YtefnapcegeojoaaDoor
open Go.RowKit
set_option linter.unusedVariables false
set_option maxRecDepth 100000

theorem infoMw : (Tryd.prog.info? 57).map (fun i => (i.zero, i.size, i.bytes)) = some (some (.agg #[.int .i64 0, .int .i64 0, .string ⟨#[]⟩]), 3, 32) := by kernel_rfl
abbrev mV (x : Wr) : Value := .agg #[.int .i64 x.host, .int .i64 x.at_, .string x.data]

set_option maxHeartbeats 1600000 in
theorem l07Head_any (h n seq : Int) (w : World) (hh : inB h 0 3 = true) (hn : 0 ≤ n ∧ n ≤ 5) (hs : numB seq = true) :
    Calls Tryd.prog 77 #[.int .i64 h, .int .i64 n, .int .i64 seq] w fun e w' => e = .returned (mV (mvH (slN h) n seq)) ∧ Below w.heap.size w w' := by
  have HN := hide (hd_nums hn hs)
  have HH := hide hh
  have HA := hide (Joins.below_alloc1 w (.cells #[.int .i64 0, .int .i64 0, .string ⟨#[]⟩] 57))
  have hblk := heap_alloc_new w (.cells #[.int .i64 0, .int .i64 0, .string ⟨#[]⟩] 57)
  have HV : Hid ((w.alloc (.cells #[.int .i64 0, .int .i64 0, .string ⟨#[]⟩] 57)).heap[w.heap.size]? = some (.cells #[.int .i64 0, .int .i64 0, .string ⟨#[]⟩] 57 (0, 0))) := hide hblk
  clear hh hn hs hblk
  go_enter Tryd.func77, Tryd.ntmps77
  go_wp2_with fail
  refine (l07Slot_any h _ (unhide HH)).mono ?_
  rintro e w1 ⟨rfl, rfl⟩
  go_wp2_with fail
  refine (l02Seal_any 7 _ 2 [n, seq] _ (by decide) (by simp) (unhide HN) (is2 _ _ _ _ _ (by simp))).mono ?_
  rintro e w1 ⟨rfl, hb⟩
  have hblk : w1.heap[w.heap.size]? = some (.cells #[.int .i64 0, .int .i64 0, .string ⟨#[]⟩] 57 (0, 0)) := by
    rw [hb.block _ (by simp; omega), (Joins.below_alloc1 (w.alloc (.cells #[.int .i64 0, .int .i64 0, .string ⟨#[]⟩] 57)) (.cells #[.int .i64 n, .int .i64 seq] 3)).block _ (by simp)]
    exact unhide HV
  have c0 := Joins.cell_of_block hblk 0
  have c1 := Joins.cell_of_block hblk 1
  have c2 := Joins.cell_of_block hblk 2
  have f0 := Joins.unfrozen_of_block hblk 0
  have f1 := Joins.unfrozen_of_block hblk 1
  have f2 := Joins.unfrozen_of_block hblk 2
  simp at c0 c1 c2
  have HB := hide (fun u v x => below3 (fr (unhide HA) (fr (Joins.below_alloc1 _ _) hb)) (Nat.le_refl _) 0 1 2 u v x)
  clear hb hblk
  go_wp2
  exact bodyPost_ret (v := mV (mvH (slN h) n seq)) (by simp [results, Tryd.results77, go_sem, c0, c1, c2, mvH, hdT]) rfl ⟨rfl, unhide HB _ _ _⟩

set_option maxHeartbeats 3200000 in
theorem l07Apply_any (h seq : Int) (ao : Option Addr) (cap : Nat) (us : List Up) (w : World) (hh : inB h 0 3 = true) (hs : numB seq = true) (hl : us.length ≤ 5) (hu : Ups w ao us) :
    Calls Tryd.prog 54 #[.int .i64 h, .int .i64 seq, .slice ao us.length cap] w fun e w' => ∃ qo qa, e = .returned (.slice qo (us.length + 3) qa) ∧ ApS w w' qo (us.length + 3) qa (apL (slN h) seq us) := by
  have HU := hide hu
  have HH := hide hh
  have HS := hide hs
  clear hu hh hs
  obtain ⟨i0, hi, hz0, hz1, hz2⟩ := info_parts infoMw
  have H0 : Hid (ApS w (w.alloc (.cells #[] 57)) (some ⟨w.heap.size, 0, none⟩) 0 0 []) := hide ⟨.inl ⟨rfl, rfl, _, rfl⟩, Joins.below_alloc1 _ _⟩
  go_enter Tryd.func54, Tryd.ntmps54
  go_wp2
  go_loopw [7, 8] (fun o i wr => ∃ (k : Nat) (qo : Option Addr) (qa : Nat), k ≤ us.length ∧ i = .int .i64 k ∧ o = .slice qo k qa ∧ Hid (ApS w wr qo k qa ((chL us).take k))) (fun _ i _ => us.length - (intOf i).toNat)
  case atStart => exact ⟨0, _, _, Nat.zero_le _, rfl, rfl, H0⟩
  case round =>
    obtain ⟨k, qo, qa, hk, rfl, rfl, HA⟩ := hrel
    by_cases hlt : k < us.length
    · obtain ⟨b, off, rfl, hc0, hc1, hcz⟩ := (unhide HU).below (unhide HA).k k hlt
      have hbl := World.block_lt_of_cell? _ _ hc0
      clear hcz
      have HAA := hide ((unhide HA).next ((Joins.below_alloc1 wr (.cells #[.int .i64 1, .int .i64 us[k].at_, .string us[k].data] 57)).drew))
      have HSZ := hide (unhide HAA).sz
      go_wp2
      go_region_law
        (refine (step_append_at ?_ (.tmp 16) (.tmp 28) 26 ?_ w.heap.size 57 i0 (.agg #[.int .i64 0, .int .i64 0, .string ⟨#[]⟩]) 3 32 Tryd.underlying26 hi hz0 hz1 hz2 ?_ ?_ qo k qa (ioV ((chL us).take k)) ?_ ?_ ?_ (wrV (mvW us[k])) ?_ ?_ ?_ ?_ ?_ ?_)
         · rfl
         · rfl
         · rfl
         · omega
         · rfl
         · exact (unhide HAA).o
         · exact unhide HSZ
         · exact ⟨_, _, rfl, news3 wr (mvW us[k]) _⟩
         · rfl
         · exact wrV_one _
         · unfold maxLen; omega
         · omega
         intro g2 cap2 wA hoA hkA
         have HN := hide (ApS.one (unhide HAA) hoA hkA)
         clear hoA hkA)
      all_goals
        go_wp2
        go_roundw
        case rel => exact ⟨k + 1, _, _, by omega, by go_num, rfl, hide (by rw [chL_take hlt]; exact unhide HN)⟩
        case measure => simp [intOf]; omega
    · have hke : k = us.length := by omega
      subst hke
      have HA1 : Hid (ApS w wr qo us.length qa (chL us)) := hide (by have := unhide HA; rwa [chL_done (Nat.le_refl _)] at this)
      clear HA
      have HAA := hide ((unhide HA1).next (Joins.below_alloc1 wr (.cells #[.int .i64 2, .int .i64 0, .string ⟨#[]⟩] 57)))
      have HSZ := hide (unhide HAA).sz
      go_wp2_with (at_builtin; refine wpList_append_one rfl _ _ 26 rfl w.heap.size 57 i0 (.agg #[.int .i64 0, .int .i64 0, .string ⟨#[]⟩]) 3 32 Tryd.underlying26 hi hz0 hz1 hz2 rfl (by omega) qo us.length qa (ioV (chL us)) rfl (unhide HAA).o (unhide HSZ) ⟨wr.heap.size, 0, none⟩ _ (wrV mvF) rfl rfl (news3 wr mvF _) (wrV_one _) (by unfold maxLen; omega) (by omega) ?_; intro g2 cap2 wA hoA hkA; have HB1 := hide (ApS.one (unhide HAA) hoA hkA); clear hoA hkA)
      refine (l07Head_any h 0 seq _ (unhide HH) (by omega) (unhide HS)).mono ?_
      rintro e w2 ⟨rfl, hb⟩
      have HB2 := hide ((unhide HB1).next hb)
      clear hb
      have HBB := hide ((unhide HB2).next (Joins.below_alloc1 w2 (.cells #[.int .i64 (mvH (slN h) 0 seq).host, .int .i64 (mvH (slN h) 0 seq).at_, .string (mvH (slN h) 0 seq).data] 57)))
      have HSZ2 := hide (unhide HBB).sz
      go_wp2_with (first | (at_builtin; refine wpList_append_one rfl _ _ 26 rfl w.heap.size 57 i0 (.agg #[.int .i64 0, .int .i64 0, .string ⟨#[]⟩]) 3 32 Tryd.underlying26 hi hz0 hz1 hz2 rfl (by omega) (some ⟨g2, 0, none⟩) (us.length + 1) cap2 (ioV (chL us ++ [mvF])) rfl (unhide HBB).o (unhide HSZ2) ⟨w2.heap.size, 0, none⟩ _ (wrV (mvH (slN h) 0 seq)) rfl rfl (news3 w2 _ _) (wrV_one _) (by unfold maxLen; omega) (by omega) ?_; intro g3 cap3 wB hoA hkA; have HC1 := hide (ApS.one (unhide HBB) hoA hkA); clear hoA hkA) | (at_builtin; have HCC := hide ((unhide HC1).next (Joins.below_alloc1 wB (.cells #[.int .i64 2, .int .i64 0, .string ⟨#[]⟩] 57))); have HSZ3 := hide (unhide HCC).sz; refine wpList_append_one rfl _ _ 26 rfl w.heap.size 57 i0 (.agg #[.int .i64 0, .int .i64 0, .string ⟨#[]⟩]) 3 32 Tryd.underlying26 hi hz0 hz1 hz2 rfl (by omega) (some ⟨g3, 0, none⟩) (us.length + 1 + 1) cap3 (ioV (chL us ++ [mvF] ++ [mvH (slN h) 0 seq])) rfl (unhide HCC).o (unhide HSZ3) ⟨wB.heap.size, 0, none⟩ _ (wrV mvF) rfl rfl (news3 wB mvF _) (wrV_one _) (by unfold maxLen; omega) (by omega) ?_; intro g4 cap4 wC hoA hkA; have HD1 := hide (ApS.one (unhide HCC) hoA hkA); clear hoA hkA))
      go_ret
      exact ⟨_, _, rfl, unhide HD1⟩

end Go.Proofs.YtefnapcegeojoaaDoor

namespace Go.Proofs.YtefnapcegeojoaaDoor
open Go.RowKit
set_option linter.unusedVariables false
set_option maxRecDepth 100000

set_option maxHeartbeats 1600000 in
theorem l07Decode_any (t : ByteArray) (w : World) (hs : t.size ≤ 65536) : Calls Tryd.prog 76 #[.string t] w fun e w' => e = .returned (.tuple #[uV (duU t), .bool (duB t)]) ∧ Below w.heap.size w w' := by
  have HA := hide (Joins.below_alloc1 w (.cells #[.int .i64 0, .string ⟨#[]⟩] 42))
  have HV := hide (VarU.new w 42 up0)
  by_cases h8 : t.size < 8
  · have HE := hide (duB_short h8)
    obtain ⟨hc0, hc1⟩ := (unhide HV).cells
    obtain ⟨hf0, hf1⟩ := (unhide HV).free
    simp only [up0] at hc0 hc1
    have HR := hide (fun u v => below2 (unhide HA) (Nat.le_refl _) 0 1 u v)
    go_enter Tryd.func76, Tryd.ntmps76
    go_wp2
    refine bodyPost_ret (v := .tuple #[uV up0, .bool false]) (by simp [results, Tryd.results76, go_sem, hc0, hc1, up0]) rfl ⟨?_, by first | exact unhide HR _ _ | exact unhide HA⟩
    exact ret_ub (du_no (unhide HE)).symm (unhide HE).symm
  go_enter Tryd.func76, Tryd.ntmps76
  go_wp2_with fail
  refine (l02Open_any (duH t) 8 _ (by rw [duH_size (by omega)]; omega)).mono ?_
  rintro e w1 ⟨v, rfl, ⟨qo, qa, rfl, ho⟩, hb⟩
  have HB := hide (fr (unhide HA) hb)
  have HB1 := hide hb
  have HO := hide ho
  obtain ⟨hc0, hc1⟩ := ((unhide HV).below hb).cells
  obtain ⟨hf0, hf1⟩ := ((unhide HV).below hb).free
  have HR := hide (fun u v => below2 (unhide HB) (Nat.le_refl _) 0 1 u v)
  clear hb ho
  by_cases hb : openB (duH t) 8 = false
  · have HE := hide (duB_open hb)
    go_wp2
    refine bodyPost_ret (v := .tuple #[uV up0, .bool false]) (by simp [results, Tryd.results76, go_sem, hc0, hc1, up0]) rfl ⟨?_, unhide HR _ _⟩
    exact ret_ub (du_no (unhide HE)).symm (unhide HE).symm
  rw [Bool.not_eq_false] at hb
  obtain ⟨a, hl⟩ : ∃ a, openL (t.extract 0 8) 8 = [a] := ⟨_, duL_eq (by omega) hb⟩
  have HX : Hid (duX t = ⟨a, t.extract 8 t.size⟩) := hide (duX_at hl)
  have HE := hide (duB_at (by omega) hb)
  rw [unhide HX] at HE
  have HZ : Hid ((t.extract 8 t.size).size ≤ maxLen) := hide (by rw [duT_size]; unfold maxLen; omega)
  have hI := ownRN (unhide HO)
  rw [hl] at hI ⊢
  obtain ⟨g, off, rfl, hi0⟩ := hI 0 (by simp)
  simp only [List.getElem_cons_zero, Nat.add_zero] at hi0
  have hg := World.block_lt_of_cell? _ _ hi0
  clear hI
  have HL := hide hl
  clear hl
  simp only [List.length_cons, List.length_nil, Nat.zero_add]
  go_wp2_with fail
  have HA2 := hide (Joins.below_alloc1 w1 (.cells #[.int .i64 a, .string (t.extract 8 t.size)] 42)).drew
  have HV2 := hide (((unhide HV).below (unhide HB1)).below (unhide HA2))
  have HV3 : Hid (VarU (w1.alloc (.cells #[.int .i64 a, .string (t.extract 8 t.size)] 42)).drew w1.heap.size 42 ⟨a, t.extract 8 t.size⟩) := hide ((VarU.new w1 42 ⟨a, t.extract 8 t.size⟩).below (Below.refl _ _).drew)
  have HB2 := hide (fr (unhide HB) (unhide HA2))
  clear hc0 hc1 hf0 hf1 HR
  go_region
  go_wp2_with fail
  refine (l07Update_any ⟨a, t.extract 8 t.size⟩ _ (unhide HZ)).mono ?_
  rintro e w2 ⟨rfl, hb2⟩
  have HB3 := hide (fr (unhide HB2) hb2)
  obtain ⟨hc0, hc1⟩ := ((unhide HV2).below hb2).cells
  obtain ⟨hf0, hf1⟩ := ((unhide HV2).below hb2).free
  obtain ⟨hx0, hx1⟩ := ((unhide HV3).below hb2).cells
  have HR := hide (fun u v => below2 (unhide HB3) (Nat.le_refl _) 0 1 u v)
  clear hb2 hi0
  by_cases hd : upB ⟨a, t.extract 8 t.size⟩ = true
  · go_wp2
    refine bodyPost_ret (v := .tuple #[uV ⟨a, t.extract 8 t.size⟩, .bool true]) (by simp [results, Tryd.results76, go_sem, hc0, hc1]) rfl ⟨?_, unhide HR _ _⟩
    exact ret_ub ((du_yes (by rw [unhide HE]; exact hd)).trans (unhide HX)).symm (by rw [unhide HE]; exact hd.symm)
  · rw [Bool.not_eq_true] at hd
    go_wp2
    refine bodyPost_ret (v := .tuple #[uV up0, .bool false]) (by simp [results, Tryd.results76, go_sem, hc0, hc1, up0]) rfl ⟨?_, unhide HR _ _⟩
    exact ret_ub (du_no (by rw [unhide HE]; exact hd)).symm (by rw [unhide HE]; exact hd.symm)

end Go.Proofs.YtefnapcegeojoaaDoor

namespace Go.Proofs.YtefnapcegeojoaaDoor
open Go.RowKit
set_option linter.unusedVariables false
set_option maxRecDepth 100000

theorem infoUx : (Tryd.prog.info? 42).map (fun i => (i.zero, i.size, i.bytes)) = some (some (.agg #[.int .i64 0, .string ⟨#[]⟩]), 2, 24) := by kernel_rfl
theorem l01ReadAt (ao bo : Option Addr) (ca cb : Nat) (ss : List ByteArray) (xs : List Wr) (h a : Int) (T : ByteArray) (w : World) (hd : diskB ss xs = true) (h0 : 0 ≤ a) (h3 : a ≤ 63) (hT : readV ss xs h a = T) (h1 : Ss w ao ss) (h2 : Ios w bo xs) :
    Calls Tryd.prog 73 #[.agg #[.slice ao ss.length ca, .slice bo xs.length cb], .int .i64 h, .int .i64 a] w fun e w' => e = .returned (.string T) ∧ Below w.heap.size w w' := by
  obtain ⟨l1, l2⟩ := diskB_len hd
  obtain ⟨n, rfl⟩ := Int.eq_ofNat_of_zero_le h0
  subst hT
  exact l01Read_any ao bo ca cb ss xs h n w (by omega) (by omega) (by unfold maxLen; omega) h1 h2
theorem slN_at {o : Int} (h : inB o 0 3 = true) : 39 ≤ slN o ∧ slN o ≤ 57 := by
  have : 0 ≤ o ∧ o ≤ 3 := by simpa [inB] using h
  unfold slN; omega

set_option maxHeartbeats 6400000 in
theorem l07Of_any (ao bo : Option Addr) (ca cb : Nat) (ss : List ByteArray) (xs : List Wr) (h o : Int) (w : World) (hd : diskB ss xs = true) (ho : inB o 0 3 = true) (h1 : Ss w ao ss) (h2 : Ios w bo xs) :
    Calls Tryd.prog 53 #[.agg #[.slice ao ss.length ca, .slice bo xs.length cb], .int .i64 h, .int .i64 o] w fun e w' =>
      ∃ qo qa n, e = .returned (.tuple #[.slice qo n qa, .int .i64 (jkS (joH ss xs h o) (joF ss xs h o)), .bool (jkB (joH ss xs h o) (joF ss xs h o))]) ∧ UpS w w' qo n qa (jkL (joH ss xs h o) (joF ss xs h o)) := by
  obtain ⟨i0, hi, hz0, hz1, hz2⟩ := info_parts infoUx
  obtain ⟨hs0, hs1⟩ := slN_at ho
  obtain ⟨T, HT⟩ : ∃ T, Hid (joH ss xs h o = T) := ⟨_, hide rfl⟩
  obtain ⟨F, HF⟩ : ∃ F, Hid (joF ss xs h o = F) := ⟨_, hide rfl⟩
  have HTS : Hid (T.size ≤ 65536) := hide (by rw [← unhide HT]; have := readV_size hd h (slN o); show (readV ss xs h (slN o)).size ≤ 65536; omega)
  have HFS : Hid (∀ i, (F i).size ≤ 65536) := hide (fun i => by rw [← unhide HF]; have := readV_size hd h (slN o + 1 + (i : Int)); show (readV ss xs h (slN o + 1 + (i : Int))).size ≤ 65536; omega)
  have HTR : Hid (readV ss xs h (slN o) = T) := HT
  have HFR : Hid (∀ i : Nat, readV ss xs h (slN o + 1 + (i : Int)) = F i) := hide (fun i => by rw [← unhide HF]; rfl)
  rw [unhide HT, unhide HF]
  have HD := hide hd
  have HH := hide ho
  have HA := hide (Joins.below_alloc2 w (.cells #[.slice ao ss.length ca, .slice bo xs.length cb] 32) (.cells #[] 42))
  have HV := hide ((VarD.new w (.slice ao ss.length ca) (.slice bo xs.length cb)).below (Joins.below_alloc1 _ (.cells #[] 42)))
  have H1 := hide (h1.below (unhide HA))
  have H2 := hide (h2.below (unhide HA))
  have HS1 := hide h1
  have HS2 := hide h2
  have H0 : Hid (∀ g W, Below w.heap.size w W → UpS w W (some ⟨g, 0, none⟩) 0 0 []) := hide (fun g W hb => ⟨.inl ⟨rfl, rfl, _, rfl⟩, hb⟩)
  have wr1 : IntKind.i64.wrap (slN o + 1) = slN o + 1 := by rw [IntKind.wrap_i64]; omega
  clear h1 h2 hd ho HT HF
  obtain ⟨c0, c1⟩ := (unhide HV).cells
  go_enter Tryd.func53, Tryd.ntmps53
  go_wp2_with fail
  go_region_held3 (fun w' => w'.cell? ⟨w.heap.size, 0, none⟩ = some (.slice ao ss.length ca) ∧ w'.cell? ⟨w.heap.size, 1, none⟩ = some (.slice bo xs.length cb)) (go_keep)
    (first
      | (go_at_call 74; refine (l07Slot_any o _ (unhide HH)).mono ?_; rintro e w1 ⟨rfl, hw⟩; replace hw := hw.symm; subst hw)
      | (go_at_call 73; refine (l01ReadAt ao bo ca cb ss xs h (slN o) T _ (unhide HD) (by omega) (by omega) (unhide HTR) (by exact (unhide H1).below (Below.refl _ _).drew) (by exact (unhide H2).below (Below.refl _ _).drew)).mono ?_; rintro e W1 ⟨rfl, hb⟩; have HBd := hide (fr (Below.refl _ _).drew hb); have HV1 := hide ((unhide HV).below (unhide HBd)); have HB1 := hide (fr (unhide HA) (unhide HBd)); obtain ⟨d0, d1⟩ := (unhide HV1).cells; clear hb))
  clear c0 c1 HV
  by_cases hT0 : T.size = 0
  · obtain rfl := bytes0 hT0
    obtain ⟨e1, e2, e3⟩ := sd_empty hT0
    have HE : Hid (jkB ⟨#[]⟩ F = true ∧ jkL ⟨#[]⟩ F = [] ∧ jkS ⟨#[]⟩ F = 0) := hide (by
      obtain ⟨k1, k2, k3⟩ := jk_yes (F := F) e1 (fuB_yes (fun i hi => by rw [e2] at hi; omega))
      rw [e2] at k2; rw [e3] at k3
      exact ⟨k1, k2.trans rfl, k3⟩)
    clear e1 e2 e3 hT0
    go_wp2
    refine bodyPost_ret (v := .tuple #[.slice (some ⟨w.heap.size + 1, 0, none⟩) 0 0, .int .i64 0, .bool true]) (by simp [results, Tryd.results53, go_sem]) rfl ⟨some ⟨w.heap.size + 1, 0, none⟩, 0, 0, ?_, ?_⟩
    · rw [(unhide HE).1, (unhide HE).2.2]
    · rw [(unhide HE).2.1]; exact unhide H0 _ _ (unhide HB1)
  have hTb := text_full hT0
  go_wp2_with fail
  refine (l02Open_any T 7 _ (unhide HTS)).mono ?_
  rintro e W2 ⟨v, rfl, ⟨qo, qa, rfl, hown⟩, hb⟩
  have HB2 := hide (fr (unhide HB1) hb)
  have HV2 := hide ((unhide HV1).below hb)
  have HO := hide hown
  clear hb hown d0 d1
  by_cases hop : openB T 7 = false
  · obtain ⟨e1, e2, e3⟩ := jk_shut (F := F) (sd_shut hT0 hop)
    have HE := hide (And.intro e1 (And.intro e2 e3))
    clear e1 e2 e3
    go_wp2
    refine bodyPost_ret (v := .tuple #[.slice (some ⟨w.heap.size + 1, 0, none⟩) 0 0, .int .i64 0, .bool false]) (by simp [results, Tryd.results53, go_sem]) rfl ⟨some ⟨w.heap.size + 1, 0, none⟩, 0, 0, ?_, ?_⟩
    · rw [(unhide HE).1, (unhide HE).2.2]
    · rw [(unhide HE).2.1]; exact unhide H0 _ _ (unhide HB2)
  rw [Bool.not_eq_false] at hop
  by_cases hl2 : (openL T 7).length = 2
  case neg =>
    obtain ⟨e1, e2, e3⟩ := jk_shut (F := F) (sd_len hT0 hl2)
    have HE := hide (And.intro e1 (And.intro e2 e3))
    have hl2b : (((openL T 7).length : Int) != 2) = true := by simp; omega
    clear e1 e2 e3
    go_wp2
    refine bodyPost_ret (v := .tuple #[.slice (some ⟨w.heap.size + 1, 0, none⟩) 0 0, .int .i64 0, .bool false]) (by simp [results, Tryd.results53, go_sem]) rfl ⟨some ⟨w.heap.size + 1, 0, none⟩, 0, 0, ?_, ?_⟩
    · rw [(unhide HE).1, (unhide HE).2.2]
    · rw [(unhide HE).2.1]; exact unhide H0 _ _ (unhide HB2)
  obtain ⟨a, b, hl⟩ := two_ofJ hl2
  have hI := ownRN (unhide HO)
  rw [hl] at hI ⊢
  obtain ⟨g, off, rfl, hi0⟩ := hI 0 (by simp)
  obtain ⟨g', off', he, hi1⟩ := hI 1 (by simp)
  cases he
  simp only [List.getElem_cons_zero, List.getElem_cons_succ, Nat.add_zero] at hi0 hi1
  simp only [List.length_cons, List.length_nil, Nat.zero_add, Nat.reduceAdd]
  have hg := World.block_lt_of_cell? _ _ hi0
  clear hI hl2
  by_cases ha5 : a ≤ 5
  case neg =>
    obtain ⟨e1, e2, e3⟩ := jk_shut (F := F) (sd_many hT0 hl ha5)
    have HE := hide (And.intro e1 (And.intro e2 e3))
    have ha5' : a > 5 := by omega
    clear e1 e2 e3 hl
    go_wp2
    refine bodyPost_ret (v := .tuple #[.slice (some ⟨w.heap.size + 1, 0, none⟩) 0 0, .int .i64 0, .bool false]) (by simp [results, Tryd.results53, go_sem]) rfl ⟨some ⟨w.heap.size + 1, 0, none⟩, 0, 0, ?_, ?_⟩
    · rw [(unhide HE).1, (unhide HE).2.2]
    · rw [(unhide HE).2.1]; exact unhide H0 _ _ (unhide HB2)
  obtain ⟨y1, y2, y3, y4, y5⟩ := sd_yes hT0 hop hl ha5
  have HY := hide (And.intro y1 y4)
  obtain ⟨N, hN⟩ : ∃ N, N = sdN T := ⟨_, rfl⟩
  have HN := hide hN
  rw [← hN] at y2 y3
  subst y2
  clear y1 y4 y5 hN hl
  have HC := hide (And.intro hi0 hi1)
  have HG := hide hg
  have ha5n : ¬ ((N : Int) > 5) := by omega
  go_wp2
  go_loopw [9, 13] (fun q i wr => ∃ (k : Nat) (ro : Option Addr) (ra : Nat), k ≤ N ∧ i = .int .i64 k ∧ q = .slice ro k ra ∧ Hid (UpS W2 wr ro k ra ((fuL F N).take k)) ∧ Hid (∀ j, j < k → duB (F j) = true)) (fun _ i _ => N - (intOf i).toNat)
  case atStart => exact ⟨0, _, _, Nat.zero_le _, rfl, rfl, hide ⟨.inl ⟨rfl, rfl, _, rfl⟩, Below.refl _ _⟩, hide (fun j hj => by omega)⟩
  case round =>
    obtain ⟨k, ro, ra, hk, rfl, rfl, HU, HP⟩ := hrel
    have HW := hide (unhide HU).k
    have r0 := ((unhide HW).cell (p := ⟨g, off, none⟩) (unhide HG)).trans (unhide HC).1
    by_cases hlt : k < N
    · have hki : (k : Int) < (N : Int) := by omega
      have HVr := hide ((unhide HV2).below (unhide HW))
      obtain ⟨d0, d1⟩ := (unhide HVr).cells
      have hvl := (unhide HVr).lt
      have hvn : w.heap.size ≠ wr.heap.size := Nat.ne_of_lt hvl
      have hvn' : wr.heap.size ≠ w.heap.size := Ne.symm hvn
      have wr2 : IntKind.i64.wrap (slN o + 1 + (k : Int)) = slN o + 1 + (k : Int) := by rw [IntKind.wrap_i64]; omega
      have HFk := hide (unhide HFS k)
      have HRk := hide (unhide HFR k)
      have HBr := hide (fr (unhide HB2) (unhide HU).k)
      go_upto_region 11 with fail
      go_cut [14, 15] from 44 to 69 (fun c q wx => ∃ C : Nat, c = .pointer (some ⟨C, 0, none⟩) ∧ q = .bool (duB (F k)) ∧ Hid (GotU wr wx C 42 (duU (F k))))
      case first =>
        go_region_held3 (fun w' => w'.cell? ⟨w.heap.size, 0, none⟩ = some (.slice ao ss.length ca) ∧ w'.cell? ⟨w.heap.size, 1, none⟩ = some (.slice bo xs.length cb)) (go_keep)
          (first
            | (go_at_call 74; refine (l07Slot_any o _ (unhide HH)).mono ?_; rintro e w1 ⟨rfl, hw⟩; replace hw := hw.symm; subst hw)
            | (go_at_call 73; refine (l01ReadAt ao bo ca cb ss xs h (slN o + 1 + (k : Int)) (F k) _ (unhide HD) (by omega) (by omega) (unhide HRk) (by first | exact ((unhide HS1).below (unhide HBr)).below (Below.refl _ _).drew | exact ((unhide HS1).below (unhide HBr)).below (Joins.below_alloc1 _ _).drew) (by first | exact ((unhide HS2).below (unhide HBr)).below (Below.refl _ _).drew | exact ((unhide HS2).below (unhide HBr)).below (Joins.below_alloc1 _ _).drew)).mono ?_; rintro e w3 ⟨rfl, hb⟩; (first | (have HV3 : Hid (VarU w3 wr.heap.size 42 up0) := (by exact hide (((VarU.new wr 42 up0).below (Below.refl _ _).drew).below hb)); have HB3 : Hid (Below wr.heap.size wr w3) := (by exact hide (fr (Joins.below_alloc1 wr _).drew hb)); clear hb) | (have HB3 : Hid (Below wr.heap.size wr w3) := (by exact hide (fr ((Below.refl _ wr).drew) hb)); clear hb)); obtain ⟨m0, m1⟩ := ((unhide HVr).below (unhide HB3)).cells; have hvl3 := ((unhide HVr).below (unhide HB3)).lt; have hvn3 : w.heap.size ≠ w3.heap.size := Nat.ne_of_lt hvl3; have hvn3' : w3.heap.size ≠ w.heap.size := Ne.symm hvn3)
            | (go_at_call 76; refine (l07Decode_any (F k) _ (unhide HFk)).mono ?_; rintro e w4 ⟨rfl, hb⟩; (first | (have HV4 : Hid (VarU w4 wr.heap.size 42 up0) := (by exact hide ((unhide HV3).below hb)); have HB4 : Hid (Below wr.heap.size wr w4) := (by exact hide (fr (unhide HB3) hb)); obtain ⟨z0, z1⟩ := (unhide HV4).cells; obtain ⟨q0, q1⟩ := (unhide HV4).free; clear hb) | (have HV4 : Hid (VarU w4 w3.heap.size 42 up0) := (by exact hide ((VarU.new w3 42 up0).below hb)); have HB4 : Hid (Below wr.heap.size wr w4) := (by exact hide (fr (belowAl (unhide HB3) _) hb)); obtain ⟨z0, z1⟩ := (unhide HV4).cells; obtain ⟨q0, q1⟩ := (unhide HV4).free; clear hb) | (have HB4 : Hid (Below wr.heap.size wr w4) := (by exact hide (fr (unhide HB3) hb)); clear hb)); obtain ⟨n0, n1⟩ := ((unhide HVr).below (unhide HB4)).cells; have hvl4 := ((unhide HVr).below (unhide HB4)).lt; have hvn4 : w.heap.size ≠ w4.heap.size := Nat.ne_of_lt hvl4; have hvn4' : w4.heap.size ≠ w.heap.size := Ne.symm hvn4))
        all_goals
          go_wp2_with fail
          go_meet
          first
            | exact ⟨_, rfl, rfl, hide (GotU.set (unhide HB4) (unhide HV4) (by first | exact Nat.le_refl _ | exact (unhide HB3).size))⟩
            | exact ⟨_, rfl, rfl, hide (GotU.top _ _ (unhide HB4))⟩
      case rest =>
        obtain ⟨C, rfl, rfl, HGU⟩ := hcut
        rename World => W3
        have HU3 := hide ((unhide HU).next (unhide HGU).k)
        obtain ⟨x0, x1⟩ := (unhide HGU).v.cells
        have hCl := (unhide HGU).v.lt
        clear d0 d1 r0 hvl hvn hvn'
        by_cases hdk : duB (F k) = true
        · have HPP : Hid (∀ j, j < k + 1 → duB (F j) = true) := hide (fun j hj => by
            by_cases e : j = k
            · rw [e]; exact hdk
            · exact unhide HP j (by omega))
          have HUA := hide ((unhide HU3).next (Joins.below_alloc1 W3 (.cells #[.int .i64 (duU (F k)).at_, .string (duU (F k)).data] 42)))
          have HSZ := hide (unhide HUA).sz
          rw [hdk]
          go_wp2_with (at_builtin; refine wpList_append_one rfl _ _ 23 rfl W2.heap.size 42 i0 (.agg #[.int .i64 0, .string ⟨#[]⟩]) 2 24 Tryd.underlying23 hi hz0 hz1 hz2 rfl (by omega) ro k ra (upsV ((fuL F N).take k)) rfl (unhide HUA).o (unhide HSZ) ⟨W3.heap.size, 0, none⟩ _ (upV (duU (F k))) rfl rfl (news2_at W3 _ _ _ rfl) (upV_one _) (by unfold maxLen; omega) (by omega) ?_; intro g2 cap2 wA hoA hkA; have HN2 := hide (UpS.one (unhide HUA) hoA hkA); clear hoA hkA)
          go_roundw
          case rel => exact ⟨k + 1, _, _, by omega, by go_num, rfl, hide (by rw [fuL_take hlt]; exact unhide HN2), HPP⟩
          case measure => simp [intOf]; omega
        · rw [Bool.not_eq_true] at hdk
          have HE := hide (jk_bad (T := T) (F := F) (by rw [← unhide HN]; exact fuB_no hlt hdk))
          rw [hdk]
          go_wp2
          refine bodyPost_ret (v := .tuple #[.slice (some ⟨W3.heap.size, 0, none⟩) 0 0, .int .i64 0, .bool false]) (by simp [results, Tryd.results53, go_sem]) rfl ⟨some ⟨W3.heap.size, 0, none⟩, 0, 0, ?_, ?_⟩
          · rw [(unhide HE).1, (unhide HE).2.2]
          · rw [(unhide HE).2.1]; exact unhide H0 _ _ (belowAl (fr (unhide HB2) (unhide HU3).k) _)
    · have hke : k = N := by omega
      subst hke
      have r1 := ((unhide HW).cell (p := ⟨g, off + 1, none⟩) (unhide HG)).trans (unhide HC).2
      have HE := hide (jk_yes (F := F) (unhide HY).1 (by rw [← unhide HN]; exact fuB_yes (unhide HP)))
      have hkn : ¬ ((k : Int) < (k : Int)) := by omega
      go_wp2
      go_region
      all_goals
        go_wp2
        refine bodyPost_ret (v := .tuple #[.slice ro k ra, .int .i64 b, .bool true]) (by simp [results, Tryd.results53, go_sem]) rfl ⟨ro, ra, k, ?_, ?_⟩
        · rw [(unhide HE).1, (unhide HE).2.2, (unhide HY).2]
        · rw [(unhide HE).2.1, ← unhide HN]
          have := unhide HU
          rw [fuL_done (Nat.le_refl _)] at this
          exact ⟨(this.o.base (unhide HB2).size).below (Below.refl _ _).drew, fr (fr (unhide HB2) this.k) (Below.refl _ _).drew⟩

end Go.Proofs.YtefnapcegeojoaaDoor

namespace Go.Proofs.YtefnapcegeojoaaDoor
open Go.RowKit
set_option linter.unusedVariables false
set_option maxRecDepth 100000

def jaC (ss : List ByteArray) (xs : List Wr) (h o : Int) : Int := if hostC ss xs h = 0 then (if inB o 0 3 = true then 0 else 4) else hostC ss xs h
theorem ja_host {ss : List ByteArray} {xs : List Wr} {h o : Int} (e : hostC ss xs h ≠ 0) : jaC ss xs h o = hostC ss xs h := if_neg e
theorem ja_range {ss : List ByteArray} {xs : List Wr} {h o : Int} (e : hostC ss xs h = 0) (e1 : inB o 0 3 = false) : jaC ss xs h o = 4 := by rw [jaC, if_pos e, if_neg (by simp [e1])]
theorem ja_ok {ss : List ByteArray} {xs : List Wr} {h o : Int} (e : hostC ss xs h = 0) (e1 : inB o 0 3 = true) : jaC ss xs h o = 0 := by rw [jaC, if_pos e, if_pos e1]
theorem ja_zero {ss : List ByteArray} {xs : List Wr} {h o : Int} (e : jaC ss xs h o = 0) : hostC ss xs h = 0 ∧ inB o 0 3 = true := by
  unfold jaC at e
  split at e
  · split at e
    · exact ⟨by assumption, by assumption⟩
    · cases e
  · rename_i h1; exact absurd e h1
theorem ja_jo {ss : List ByteArray} {xs : List Wr} {h o : Int} (e : jaC ss xs h o ≠ 0) : joC ss xs h o = jaC ss xs h o := by
  by_cases e0 : hostC ss xs h = 0
  · by_cases e1 : inB o 0 3 = true
    · exact absurd (ja_ok e0 e1) e
    · rw [Bool.not_eq_true] at e1; rw [ja_range e0 e1, joC_range e0 e1]
  · rw [ja_host e0, joC_host e0]
theorem ja_yes {ss : List ByteArray} {xs : List Wr} {h o : Int} (e : jaC ss xs h o = 0) : joC ss xs h o = if jkB (joH ss xs h o) (joF ss xs h o) = true then 0 else 18 := by
  obtain ⟨e0, e1⟩ := ja_zero e
  rw [joC, if_pos e0, if_pos e1]

set_option maxHeartbeats 1600000 in
theorem l07Ask_any (ao bo : Option Addr) (ca cb : Nat) (ss : List ByteArray) (xs : List Wr) (h o : Int) (w : World) (hl : ss.length ≤ maxLen) (hm : xs.length ≤ maxLen) (h1 : Ss w ao ss) (h2 : Ios w bo xs) :
    Calls Tryd.prog 28 #[.agg #[.slice ao ss.length ca, .slice bo xs.length cb], .int .i64 h, .int .i64 o] w fun e w' => e = .returned (.int .i64 (jaC ss xs h o)) ∧ Below w.heap.size w w' := by
  have HA := hide (Joins.below_alloc1 w (.cells #[.slice ao ss.length ca, .slice bo xs.length cb] 32))
  have H1 := hide (h1.below (unhide HA))
  have H2 := hide (h2.below (unhide HA))
  have HL := hide hl
  have HM := hide hm
  clear h1 h2 hl hm
  go_enter Tryd.func28, Tryd.ntmps28
  go_wp2_with fail
  refine (l01Ask_any ao bo ca cb ss xs h 0 _ (unhide HL) (unhide HM) (unhide H1) (unhide H2)).mono ?_
  rintro e w1 ⟨rfl, hb⟩
  have HB := hide (fr (unhide HA) hb)
  clear hb
  rw [ask_zero]
  by_cases e0 : hostC ss xs h = 0
  · have e0b : (hostC ss xs h != 0) = false := by simp [e0]
    go_wp2_with fail
    refine (l04Host_any o _).mono ?_
    rintro e w2 ⟨rfl, hw⟩
    replace hw := hw.symm
    subst hw
    by_cases e1 : inB o 0 3 = true
    · have HE := hide (ja_ok e0 e1)
      clear e0
      rw [e1]
      go_wp2
      go_ret
      exact ⟨ret_int (unhide HE).symm, unhide HB⟩
    · rw [Bool.not_eq_true] at e1
      have HE := hide (ja_range e0 e1)
      clear e0
      rw [e1]
      go_wp2
      go_ret
      exact ⟨ret_int (unhide HE).symm, unhide HB⟩
  · have e0b : (hostC ss xs h != 0) = true := by simp [e0]
    have HE := hide (ja_host (o := o) e0)
    clear e0
    go_wp2
    go_ret
    exact ⟨ret_int (unhide HE).symm, unhide HB⟩

theorem ret_vb {v u : Value} {a b : Bool} (h : v = u) (k : a = b) : Ending.returned (.tuple #[v, .bool a]) = .returned (.tuple #[u, .bool b]) := by rw [h, k]
def jkM (o : Int) (T : ByteArray) (F : Nat → ByteArray) : List Wr := rpL (slN o) (jkS T F) (jkL T F)

set_option maxHeartbeats 1600000 in
theorem l07Replay_any (ao bo : Option Addr) (ca cb : Nat) (ss : List ByteArray) (xs : List Wr) (h o : Int) (w : World) (hd : diskB ss xs = true) (ho : inB o 0 3 = true) (h1 : Ss w ao ss) (h2 : Ios w bo xs) :
    Calls Tryd.prog 29 #[.agg #[.slice ao ss.length ca, .slice bo xs.length cb], .int .i64 h, .int .i64 o] w fun e w' => ∃ qo qa n, e = .returned (.tuple #[.slice qo n qa, .bool (jkB (joH ss xs h o) (joF ss xs h o))]) ∧ ApS w w' qo n qa (jkM o (joH ss xs h o) (joF ss xs h o)) := by
  have HA := hide (Joins.below_alloc1 w (.cells #[.slice ao ss.length ca, .slice bo xs.length cb] 32))
  have H1 := hide (h1.below (unhide HA))
  have H2 := hide (h2.below (unhide HA))
  have HD := hide hd
  have HO := hide ho
  have H0 : Hid (∀ g W, Below w.heap.size w W → ApS w W (some ⟨g, 0, none⟩) 0 0 []) := hide (fun g W hb => ⟨.inl ⟨rfl, rfl, _, rfl⟩, hb⟩)
  obtain ⟨T, HT⟩ : ∃ T, Hid (joH ss xs h o = T) := ⟨_, hide rfl⟩
  obtain ⟨F, HF⟩ : ∃ F, Hid (joF ss xs h o = F) := ⟨_, hide rfl⟩
  have HOF : Hid (∀ W, Ss W ao ss → Ios W bo xs → Calls Tryd.prog 53 #[.agg #[.slice ao ss.length ca, .slice bo xs.length cb], .int .i64 h, .int .i64 o] W fun e w' =>
      ∃ qo qa n, e = .returned (.tuple #[.slice qo n qa, .int .i64 (jkS T F), .bool (jkB T F)]) ∧ UpS W w' qo n qa (jkL T F)) := hide (fun W k1 k2 => by
    have := l07Of_any ao bo ca cb ss xs h o W (unhide HD) (unhide HO) k1 k2
    rw [unhide HT, unhide HF] at this; exact this)
  rw [unhide HT, unhide HF]
  have HR := hide (jk_right T F)
  clear h1 h2 hd ho HT HF
  go_enter Tryd.func29, Tryd.ntmps29
  go_wp2_with fail
  refine (unhide HOF _ (unhide H1) (unhide H2)).mono ?_
  rintro e w2 ⟨qo, qa, n, rfl, hu⟩
  have HU := hide hu
  have HB := hide (fr (unhide HA) hu.k)
  have hnl := hu.len
  clear hu
  subst hnl
  by_cases hk : jkB T F = true
  · by_cases hn : (jkL T F).length = 0
    · have HM : Hid (jkM o T F = []) := hide (if_pos hn)
      have hnb : (((jkL T F).length : Int) == 0) = true := by simp [hn]
      clear hn
      rw [hk]
      go_wp2
      refine bodyPost_ret (v := .tuple #[.slice (some ⟨w2.heap.size, 0, none⟩) 0 0, .bool true]) (by simp [results, Tryd.results29, go_sem]) rfl ⟨_, _, _, ret_vb rfl hk.symm, ?_⟩
      rw [unhide HM]; exact unhide H0 _ _ (belowAl (unhide HB) _)
    · have hnb : (((jkL T F).length : Int) == 0) = false := by rw [beq_eq_false_iff_ne]; omega
      have HM : Hid (jkM o T F = apL (slN o) (jkS T F) (jkL T F)) := hide (if_neg hn)
      have HS := hide ((unhide HR).2.2 hn)
      have HUP := hide ((unhide HU).ups (unhide HR).1)
      have hl5 : (jkL T F).length ≤ 5 := (unhide HR).2.1
      rw [hk]
      clear hn
      go_wp2_with fail
      refine (l07Apply_any o (jkS T F) qo qa (jkL T F) _ (unhide HO) (unhide HS) hl5 (unhide HUP)).mono ?_
      rintro e w3 ⟨po, pa, rfl, ha⟩
      have HAP : Hid (ApS w w3 po ((jkL T F).length + 3) pa (jkM o T F)) := hide (by rw [unhide HM]; exact ⟨ha.o.base (unhide HB).size, fr (unhide HB) ha.k⟩)
      clear ha
      go_wp2
      exact bodyPost_ret (v := .tuple #[.slice po ((jkL T F).length + 3) pa, .bool true]) (by simp [results, Tryd.results29, go_sem]) rfl ⟨_, _, _, ret_vb rfl hk.symm, unhide HAP⟩
  · have HM : Hid (jkM o T F = []) := hide (by
      have e1 : jkL T F = [] := if_neg hk
      rw [jkM, e1]; rfl)
    rw [Bool.not_eq_true] at hk
    rw [hk]
    go_wp2
    refine bodyPost_ret (v := .tuple #[.slice (some ⟨w2.heap.size, 0, none⟩) 0 0, .bool false]) (by simp [results, Tryd.results29, go_sem]) rfl ⟨_, _, _, ret_vb rfl hk.symm, ?_⟩
    rw [unhide HM]; exact unhide H0 _ _ (belowAl (unhide HB) _)

set_option maxHeartbeats 1600000 in
theorem replayPlan_spec (ao bo : Option Addr) (ca cb : Nat) (ss : List ByteArray) (xs : List Wr) (h o : Int) (w : World) (hl : ss.length ≤ maxLen) (hm : xs.length ≤ maxLen) (h1 : Ss w ao ss) (h2 : Ios w bo xs) :
    Calls Tryd.prog 11 #[.agg #[.slice ao ss.length ca, .slice bo xs.length cb], .int .i64 h, .int .i64 o] w fun e w' => ∃ qo qa n, e = .returned (.tuple #[.slice qo n qa, .int .i64 (joC ss xs h o)]) ∧ ApS w w' qo n qa (joM ss xs h o) := by
  have HA := hide (Joins.below_alloc1 w (.cells #[.slice ao ss.length ca, .slice bo xs.length cb] 32))
  have HV := hide (VarD.new w (.slice ao ss.length ca) (.slice bo xs.length cb))
  have H1 := hide (h1.below (unhide HA))
  have H2 := hide (h2.below (unhide HA))
  have HL := hide hl
  have HM := hide hm
  have H0 : Hid (∀ g W, Below w.heap.size w W → ApS w W (some ⟨g, 0, none⟩) 0 0 []) := hide (fun g W hb => ⟨.inl ⟨rfl, rfl, _, rfl⟩, hb⟩)
  clear h1 h2 hl hm
  go_enter Tryd.func11, Tryd.ntmps11
  go_wp2_with fail
  refine (l07Ask_any ao bo ca cb ss xs h o _ (unhide HL) (unhide HM) (unhide H1) (unhide H2)).mono ?_
  rintro e w1 ⟨rfl, hb⟩
  have HB := hide (fr (unhide HA) hb)
  have HV1 := hide ((unhide HV).below hb)
  have H11 := hide ((unhide H1).below hb)
  have H21 := hide ((unhide H2).below hb)
  clear hb
  obtain ⟨d0, d1⟩ := (unhide HV1).cells
  by_cases e0 : jaC ss xs h o = 0
  · have e0b : (jaC ss xs h o != 0) = false := by simp [e0]
    obtain ⟨e1, e2⟩ := ja_zero e0
    have HD := hide (hostC_eq e1).1
    have HO := hide e2
    have HY := hide (ja_yes e0)
    clear e0 e1 e2
    go_wp2_with fail
    refine (l07Replay_any ao bo ca cb ss xs h o _ (unhide HD) (unhide HO) (unhide H11) (unhide H21)).mono ?_
    rintro e w2 ⟨qo, qa, n, rfl, hu⟩
    have HU : Hid (ApS w w2 qo n qa (jkM o (joH ss xs h o) (joF ss xs h o))) := hide ⟨hu.o.base (unhide HB).size, fr (unhide HB) hu.k⟩
    clear hu
    by_cases hk : jkB (joH ss xs h o) (joF ss xs h o) = true
    · have HC : Hid (joC ss xs h o = 0) := hide ((unhide HY).trans (if_pos hk))
      have HJ : Hid (joM ss xs h o = jkM o (joH ss xs h o) (joF ss xs h o)) := hide (by rw [joM, (jo_yes (unhide HC)).1, (jo_yes (unhide HC)).2]; rfl)
      rw [hk]
      go_wp2
      refine bodyPost_ret (v := .tuple #[.slice qo n qa, .int .i64 0]) (by simp [results, Tryd.results11, go_sem]) rfl ⟨qo, qa, n, ret_ni rfl (unhide HC).symm, ?_⟩
      rw [unhide HJ]; exact unhide HU
    · have HC : Hid (joC ss xs h o = 18) := hide ((unhide HY).trans (if_neg hk))
      have HJ := hide (jo_no (show joC ss xs h o ≠ 0 by rw [unhide HC]; decide))
      rw [Bool.not_eq_true] at hk
      rw [hk]
      go_wp2
      refine bodyPost_ret (v := .tuple #[.slice (some ⟨w2.heap.size, 0, none⟩) 0 0, .int .i64 18]) (by simp [results, Tryd.results11, go_sem]) rfl ⟨_, _, _, ret_ni rfl (unhide HC).symm, ?_⟩
      rw [(unhide HJ).2.2]; exact unhide H0 _ _ (belowAl (unhide HU).k _)
  · have e0b : (jaC ss xs h o != 0) = true := by simp [e0]
    have HC := hide (ja_jo e0)
    have HJ := hide (jo_no (show joC ss xs h o ≠ 0 by rw [unhide HC]; exact e0))
    clear e0
    go_wp2
    refine bodyPost_ret (v := .tuple #[.slice (some ⟨w1.heap.size, 0, none⟩) 0 0, .int .i64 (jaC ss xs h o)]) (by simp [results, Tryd.results11, go_sem]) rfl ⟨_, _, _, ret_ni rfl (unhide HC).symm, ?_⟩
    rw [(unhide HJ).2.2]; exact unhide H0 _ _ (belowAl (unhide HB) _)

end Go.Proofs.YtefnapcegeojoaaDoor

namespace Go.Proofs.YtefnapcegeojoaaDoor
open Go.RowKit
set_option linter.unusedVariables false
set_option maxRecDepth 100000

theorem eqMv_same (a b : Int) (s : ByteArray) (w : World) : (Op.equalIn 10000 57 (.agg #[.int .i64 a, .int .i64 b, .string s]) (.agg #[.int .i64 a, .int .i64 b, .string s])).run Tryd.prog w = .ok true w := by
  have u3 := Tryd.underlying3
  have u9 := Tryd.underlying9
  have a3 := Tryd.isAgg3
  have a9 := Tryd.isAgg9
  have z3 := Tryd.sizeOf3
  have z9 := Tryd.sizeOf9
  have hS : Tryd.prog.underlying 57 = some (.struct (Tryd.prog.fieldsOf 57)) := by kernel_rfl
  rw [show (10000 : Nat) = 9999 + 1 from rfl, run_equalIn_agg w 9999 57 _ _ hS (by kernel_rfl)]
  simp only [Program.fieldsOf, Tryd.underlying57]
  go_simp

set_option maxHeartbeats 800000 in
theorem sameMoves_same (ao bo : Option Addr) (ca cb : Nat) (xs : List Wr) (w : World) (hm : xs.length ≤ maxLen) (h1 : Ios w ao xs) (h2 : Ios w bo xs) :
    Calls Tryd.prog 12 #[.slice ao xs.length ca, .slice bo xs.length cb] w fun e w' => e = .returned (.bool true) ∧ Below w.heap.size w w' := by
  have P2 := hide h1
  have P4 := hide h2
  clear h1 h2
  have hb : ((xs.length : Int) != (xs.length : Int)) = false := by simp
  have heq := eqMv_same
  unfold maxLen at hm
  go_enter Tryd.func12, Tryd.ntmps12
  go_wp2
  go_loopw [5] (fun i wr => ∃ k : Nat, k ≤ xs.length ∧ i = .int .i64 k ∧ Hid (Below w.heap.size w wr)) (fun i _ => xs.length - (intOf i).toNat)
  case atStart => exact ⟨0, Nat.zero_le _, rfl, hide (Below.refl _ _)⟩
  case round =>
    obtain ⟨k, hk, rfl, HB⟩ := hrel
    by_cases hlt : k < xs.length
    · obtain ⟨b, off, rfl, c0, c1, c2, hz⟩ := (unhide P2).below (unhide HB) k hlt
      obtain ⟨b', off', rfl, d0, d1, d2, hz'⟩ := (unhide P4).below (unhide HB) k hlt
      clear hz hz'
      go_wp2
      go_quiet (fail)
      go_wp2
      go_roundw
      case rel => exact ⟨k + 1, by omega, by go_num, hide ((unhide HB).trans (Joins.below_draws _ _ _))⟩
      case measure => simp [intOf]; omega
    · go_wp2
      go_ret
      exact ⟨rfl, unhide HB⟩

end Go.Proofs.YtefnapcegeojoaaDoor

namespace Go.Proofs.YtefnapcegeojoaaDoor
open Go.RowKit
set_option linter.unusedVariables false
set_option maxRecDepth 100000

set_option maxHeartbeats 800000 in
theorem sameTexts_any (ao bo : Option Addr) (ca cb : Nat) (ss tt : List ByteArray) (w : World) (hl : ss.length ≤ maxLen) (he : ss.length = tt.length) (hc : Ss w ao ss) (hd : Ss w bo tt) :
    Calls Tryd.prog 14 #[.slice ao ss.length ca, .slice bo tt.length cb] w fun e w' => ∃ b : Bool, e = .returned (.bool b) ∧ (ss = tt → b = true) ∧ Below w.heap.size w w' := by
  have HC := hide hc
  have HD := hide hd
  have HE := hide he
  clear hc hd
  unfold maxLen at hl
  have hb : ((ss.length : Int) != (tt.length : Int)) = false := by simp [he]
  clear he
  go_enter Tryd.func14, Tryd.ntmps14
  go_wp2
  go_loopw [5] (fun i wr => ∃ k : Nat, k ≤ ss.length ∧ i = .int .i64 k ∧ Hid (Below w.heap.size w wr)) (fun i _ => ss.length - (intOf i).toNat)
  case atStart => exact ⟨0, Nat.zero_le _, rfl, hide (Below.refl _ _)⟩
  case round =>
    obtain ⟨k, hk, rfl, HB⟩ := hrel
    by_cases hlt : k < ss.length
    · have hlt' : k < tt.length := by have := unhide HE; omega
      obtain ⟨b, off, rfl, hc, hz⟩ := (unhide HC).below (unhide HB) k hlt
      obtain ⟨b', off', rfl, hc', hz'⟩ := (unhide HD).below (unhide HB) k hlt'
      clear hz hz'
      have hki : (k : Int) < (ss.length : Int) := by omega
      have hki' : (k : Int) < (tt.length : Int) := by omega
      by_cases h1 : ss[k] = tt[k]
      · have be : (ss[k].toList == tt[k].toList) = true := by simp [h1]
        clear h1
        go_wp2
        go_quiet (fail)
        go_wp2
        go_roundw
        case rel => exact ⟨k + 1, by omega, by go_num, hide ((unhide HB).trans (Joins.below_draws _ _ _))⟩
        case measure => simp [intOf]; omega
      · have be : (ss[k].toList == tt[k].toList) = false := str_beq_false h1
        have HN : Hid (ss ≠ tt) := hide (fun e => h1 (by subst e; rfl))
        clear h1
        go_wp2
        go_quiet (fail)
        go_wp2
        go_ret
        exact ⟨false, rfl, fun e => absurd e (unhide HN), (unhide HB).trans (Joins.below_draws _ _ _)⟩
    · go_wp2
      go_ret
      exact ⟨true, rfl, fun _ => rfl, unhide HB⟩

end Go.Proofs.YtefnapcegeojoaaDoor

namespace Go.Proofs.YtefnapcegeojoaaDoor
open Go.RowKit
set_option linter.unusedVariables false

end Go.Proofs.YtefnapcegeojoaaDoor

namespace Go.Proofs.YtefnapcegeojoaaDoor
open Go.RowKit
set_option linter.unusedVariables false
set_option maxRecDepth 100000

structure DrS (w W : World) (b : Nat) (ao : Option Addr) (n cap m : Nat) (o : Obj) : Prop where
  s : SrcK W b ao n cap m
  k : Keep (fun k => k = b) w W
  r : W.heap[w.heap.size]? = some o
theorem DrS.new {w : World} {b : Nat} {ao : Option Addr} {n cap m : Nat} (hs : SrcK w b ao n cap m) (c : Array Value) (t : TypeId) : DrS w (w.alloc (.cells c t)) b ao n cap m (.cells c t (0, 0)) :=
  ⟨hs.below (Joins.below_alloc1 _ _), Keep.of_below (Joins.below_alloc1 _ _), heap_alloc_new w _⟩
theorem DrS.src {w W W' : World} {b : Nat} {ao : Option Addr} {n cap m m' : Nat} {o : Obj} (h : DrS w W b ao n cap m o) (hb : b < w.heap.size) (hs : SrcK W' b ao n cap m') (hk : Keep (fun k => k = b) W W') : DrS w W' b ao n cap m' o :=
  ⟨hs, h.k.trans hk, blk_keep hk (by omega) h.r⟩
end Go.Proofs.YtefnapcegeojoaaDoor
