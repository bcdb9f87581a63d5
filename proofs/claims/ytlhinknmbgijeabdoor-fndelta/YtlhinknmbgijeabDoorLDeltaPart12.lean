import Derived.Test.YtlhinknmbgijeabDoorRows
import Derived.Test.YtlhinknmbgijeabDoorLDeltaPart1
import Derived.Test.YtlhinknmbgijeabDoorLDeltaPart2
import Derived.Test.YtlhinknmbgijeabDoorLDeltaPart9
import Derived.Test.YtlhinknmbgijeabDoorLDeltaPart10
import Derived.Test.YtlhinknmbgijeabDoorLDeltaPart11
import Derived.Test.YtlhinknmbgijeabDoorLDeltaPart7
import Derived.WalkKit
import Derived.WalkSpells
import Derived.KernelRfl
import Derived.Test.YtlhinknmbgijeabDoorLDeltaPart3
import Derived.Test.YtlhinknmbgijeabDoorLDeltaPart4
import Derived.Test.YtlhinknmbgijeabDoorLDeltaPart5
import Derived.Deep.RegionWith
import Derived.Deep.CutRange
import Derived.Test.YtlhinknmbgijeabDoorLDeltaPart6

/- Contracts of the model's draw of a leader; of l05Encode, l06Encode. -/
namespace Go.Proofs.YtlhinknmbgijeabDoor
open Go.RowKit
set_option linter.unusedVariables false
set_option maxRecDepth 100000

abbrev ldrV (v o g : Int) : Value := .agg #[.int .i64 v, .int .i64 o, .int .i64 g]

theorem ldr_cells {w : World} {k t : Nat} {x y z : Int} (h : w.heap[k]? = some (.cells #[.int .i64 x, .int .i64 y, .int .i64 z] t (0, 0))) : w.cell? ⟨k, 0, none⟩ = some (.int .i64 x) ∧ w.cell? ⟨k, 1, none⟩ = some (.int .i64 y) ∧ w.cell? ⟨k, 2, none⟩ = some (.int .i64 z) ∧ w.frozen? ⟨k, 0, none⟩ = false ∧ w.frozen? ⟨k, 1, none⟩ = false ∧ w.frozen? ⟨k, 2, none⟩ = false :=
  ⟨by rw [Joins.cell_of_block h]; rfl, by rw [Joins.cell_of_block h]; rfl, by rw [Joins.cell_of_block h]; rfl, Joins.unfrozen_of_block h 0, Joins.unfrozen_of_block h 1, Joins.unfrozen_of_block h 2⟩

set_option maxHeartbeats 1600000 in
theorem leader_k (b : Nat) (ao : Option Addr) (n cap m : Nat) (w : World) (hm : m ≤ 800000) (hn : n ≤ 1048576) (hs : SrcK w b ao n cap m) :
    Calls Tryd.prog 65 #[.pointer (some ⟨b, 0, none⟩)] w fun e w' => ∃ v o g : Int, e = .returned (ldrV v o g) ∧ (0 ≤ v ∧ v ≤ 3) ∧ (-1 ≤ o ∧ o ≤ 3) ∧ (0 ≤ g ∧ g ≤ 3) ∧ SrcK w' b ao n cap (m + 12) ∧ Keep (fun j => j = b) w w' := by
  have hlt := hs.lt
  have HS := hide hs
  have D0 := hide (DrS.new hs #[.int .i64 0, .int .i64 0, .int .i64 0] 90)
  clear hs
  go_enter Tryd.func65, Tryd.ntmps65
  go_wp2_with fail
  refine (chance_k b ao n cap m 3 _ (by omega) (by omega) (by omega) hn (unhide D0).s).mono ?_
  rintro e w1 ⟨q, rfl, hs1, hk1⟩
  have D1 := hide ((unhide D0).src hlt hs1 hk1)
  clear hs1 hk1
  cases q with
  | true =>
    go_wp2_with fail
    refine (next_k b ao n cap (m + 3) 3 _ (by omega) (by omega) (by omega) hn (unhide D1).s).mono ?_
    rintro e w2 ⟨q2, rfl, q20, q21, hs1, hk1⟩
    have D2 := hide ((unhide D1).src hlt hs1 hk1)
    clear hs1 hk1
    obtain ⟨c0, c1, c2, f0, f1, f2⟩ := ldr_cells (unhide D2).r
    have HE := hide (fun u v x => DrS.end3 (unhide D2) (.inr trivial) hlt ⟨m, unhide HS⟩ u v x)
    go_wp2
    exact bodyPost_ret (v := ldrV q2 (-1) 0) (by simp [results, Tryd.results65, go_sem, c0, c1, c2]) rfl ⟨q2, -1, 0, rfl, by omega, by omega, by omega, (unhide HE _ _ _).1.more (by omega), (unhide HE _ _ _).2⟩
  | false =>
    go_wp2_with fail
    refine (next_k b ao n cap (m + 3) 3 _ (by omega) (by omega) (by omega) hn (unhide D1).s).mono ?_
    rintro e w2 ⟨q2, rfl, q20, q21, hs1, hk1⟩
    have D2 := hide ((unhide D1).src hlt hs1 hk1)
    clear hs1 hk1
    go_wp2_with fail
    refine (next_k b ao n cap (m + 3 + 3) 4 _ (by omega) (by omega) (by omega) hn (unhide D2).s).mono ?_
    rintro e w3 ⟨q3, rfl, q30, q31, hs1, hk1⟩
    have D3 := hide ((unhide D2).src hlt hs1 hk1)
    clear hs1 hk1
    go_wp2_with fail
    refine (next_k b ao n cap (m + 3 + 3 + 3) 3 _ (by omega) (by omega) (by omega) hn (unhide D3).s).mono ?_
    rintro e w4 ⟨q4, rfl, q40, q41, hs1, hk1⟩
    have D4 := hide ((unhide D3).src hlt hs1 hk1)
    clear hs1 hk1
    obtain ⟨c0, c1, c2, f0, f1, f2⟩ := ldr_cells (unhide D4).r
    have HE := hide (fun u v x => DrS.end3 (unhide D4) (.inr trivial) hlt ⟨m, unhide HS⟩ u v x)
    go_wp2
    exact bodyPost_ret (v := ldrV (1 + q2) q3 (1 + q4)) (by simp [results, Tryd.results65, go_sem, c0, c1, c2]) rfl ⟨1 + q2, q3, 1 + q4, rfl, by omega, by omega, by omega, (unhide HE _ _ _).1.more (by omega), (unhide HE _ _ _).2⟩

/-- A leader's text, a block's. -/
def encLd (v o g : Int) : ByteArray := sealS 6 [v, o + 1, g]
def encBk (v m b i : Int) : ByteArray := sealS 5 [v, m, b, i]
theorem isL (w : World) (k : Nat) (t : TypeId) (a b c : Int) (hn : w.heap.size = k) : Is (w.alloc (.cells #[.int .i64 a, .int .i64 b, .int .i64 c] t)) (some ⟨k, 0, none⟩) [a, b, c] := by
  subst hn
  intro i hi
  have hi' : i < 3 := hi
  refine ⟨w.heap.size, 0, rfl, ?_⟩
  rcases (show i = 0 ∨ i = 1 ∨ i = 2 by omega) with rfl | rfl | rfl <;> simp [go_sem]
theorem isB (w : World) (k : Nat) (t : TypeId) (a b c d : Int) (hn : w.heap.size = k) : Is (w.alloc (.cells #[.int .i64 a, .int .i64 b, .int .i64 c, .int .i64 d] t)) (some ⟨k, 0, none⟩) [a, b, c, d] := by
  subst hn
  intro i hi
  have hi' : i < 4 := hi
  refine ⟨w.heap.size, 0, rfl, ?_⟩
  rcases (show i = 0 ∨ i = 1 ∨ i = 2 ∨ i = 3 by omega) with rfl | rfl | rfl | rfl <;> simp [go_sem]
theorem in_list {xs : List Int} (h : ∀ x ∈ xs, 0 ≤ x ∧ x ≤ 2147483647) : ∀ j (hj : j < xs.length), 0 ≤ xs[j] ∧ xs[j] ≤ 2147483647 := fun j hj => h _ (List.getElem_mem hj)

set_option maxHeartbeats 1600000 in
theorem l06Encode_any (v o g : Int) (w : World) (hv : 0 ≤ v ∧ v ≤ 1000000) (ho : -1 ≤ o ∧ o ≤ 1000000) (hg : 0 ≤ g ∧ g ≤ 1000000) : Calls Tryd.prog 64 #[ldrV v o g] w fun e w' => e = .returned (.string (encLd v o g)) ∧ Below w.heap.size w w' := by
  have wr1 : IntKind.i64.wrap (o + 1) = o + 1 := by rw [IntKind.wrap_i64]; omega
  have HN : Hid (∀ j (hj : j < [v, o + 1, g].length), 0 ≤ [v, o + 1, g][j] ∧ [v, o + 1, g][j] ≤ 2147483647) := hide (in_list (by simp; omega))
  go_enter Tryd.func64, Tryd.ntmps64
  go_wp2_with fail
  refine (l02Seal_any 6 _ 3 [v, o + 1, g] _ (by decide) (by simp) (unhide HN) (isL _ _ _ _ _ _ (by simp))).mono ?_
  rintro e w1 ⟨rfl, hb⟩
  have HB := hide hb
  clear hb
  go_wp2
  go_ret
  exact ⟨rfl, fr (Joins.below_alloc2 _ _ _) (unhide HB)⟩

set_option maxHeartbeats 1600000 in
theorem l05Encode_any (v m b i : Int) (w : World) (hv : 0 ≤ v ∧ v ≤ 2147483647) (hm : 0 ≤ m ∧ m ≤ 2147483647) (hb' : 0 ≤ b ∧ b ≤ 2147483647) (hi : 0 ≤ i ∧ i ≤ 2147483647) : Calls Tryd.prog 49 #[blkV v m b i] w fun e w' => e = .returned (.string (encBk v m b i)) ∧ Below w.heap.size w w' := by
  have HN : Hid (∀ j (hj : j < [v, m, b, i].length), 0 ≤ [v, m, b, i][j] ∧ [v, m, b, i][j] ≤ 2147483647) := hide (in_list (by simp; omega))
  go_enter Tryd.func49, Tryd.ntmps49
  go_wp2_with fail
  refine (l02Seal_any 5 _ 4 [v, m, b, i] _ (by decide) (by simp) (unhide HN) (isB _ _ _ _ _ _ _ (by simp))).mono ?_
  rintro e w1 ⟨rfl, hb⟩
  have HB := hide hb
  clear hb
  go_wp2
  go_ret
  exact ⟨rfl, fr (Joins.below_alloc2 _ _ _) (unhide HB)⟩

end Go.Proofs.YtlhinknmbgijeabDoor

/- Contract of the model's leaseDisk. -/
namespace Go.Proofs.YtlhinknmbgijeabDoor
open Go.RowKit
set_option linter.unusedVariables false
set_option maxRecDepth 100000

theorem drw_size {t : ByteArray} (h : Drw t) (hz : t.size ≤ maxLen) : Drw t ∧ t.size ≤ maxLen := ⟨h, hz⟩
theorem drw_leader {v o g : Int} (h1 : 0 ≤ v ∧ v ≤ 3) (h2 : -1 ≤ o ∧ o ≤ 3) (h3 : 0 ≤ g ∧ g ≤ 3) : Drw (encLd v o g) ∧ (encLd v o g).size ≤ maxLen := ⟨.inr (.inr ⟨6, [v, o + 1, g], rfl, by omega, by simp, by simp; omega⟩), by rw [encLd, sealS_size]; unfold maxLen; simp⟩
theorem drw_block {v m b i : Int} (h1 : 0 ≤ v ∧ v ≤ 2) (h2 : 0 ≤ m ∧ m ≤ 11) (h3 : 0 ≤ b ∧ b ≤ m) (h4 : 0 ≤ i ∧ i ≤ 8) : Drw (encBk v m b i) ∧ (encBk v m b i).size ≤ maxLen := ⟨.inr (.inr ⟨5, [v, m, b, i], rfl, by omega, by simp, by simp; omega⟩), by rw [encBk, sealS_size]; unfold maxLen; simp⟩
theorem LsD.below {W W' : World} {B pa qa : Nat} {po qo : Option Addr} {ss : List ByteArray} {xs : List Wr} (h : LsD W B po pa qo qa ss xs) (hb : Below W.heap.size W W') : LsD W' B po pa qo qa ss xs := ⟨h.s.below hb, h.i.below hb, h.t, fun e => (h.o e).below hb, h.l⟩
/-- Drawn, and not too great. -/
abbrev DrwZ (t : ByteArray) : Prop := Drw t ∧ t.size ≤ maxLen

set_option maxHeartbeats 3200000 in
theorem leaseDisk_k (b : Nat) (so : Option Addr) (n cap m : Nat) (w : World) (hm : m ≤ 300000) (hn : n ≤ 1048576) (hs : SrcK w b so n cap m) :
    Calls Tryd.prog 26 #[.pointer (some ⟨b, 0, none⟩)] w fun e w' => (∃ ss xs po pa qo qa, e = .returned (.agg #[.slice po ss.length pa, .slice qo xs.length qa]) ∧ LsD w' (w.heap.size + 1) po pa qo qa ss xs) ∧ Keep (fun k => k = b) w w' ∧ SrcK w' b so n cap (m + 3000) := by
  have HS := hide hs
  have hlt := hs.lt
  clear hs
  have HK0 : Hid (Keep (fun k => k = b ∨ w.heap.size ≤ k) w (w.alloc (.cells #[.slice none 0 0, .slice none 0 0] 26))) := hide (Keep.of_below (Joins.below_alloc1 _ _))
  have HS0 := hide ((unhide HS).below (Joins.below_alloc1 w (.cells #[.slice none 0 0, .slice none 0 0] 26)))
  have HR0 : Hid (VarD (w.alloc (.cells #[.slice none 0 0, .slice none 0 0] 26)) w.heap.size (.slice none 0 0) (.slice none 0 0)) := hide (heap_alloc_new w _)
  go_enter Tryd.func26, Tryd.ntmps26
  go_wp2_with fail
  refine (deltaDisk_k b so n cap m _ (by omega) hn (unhide HS0)).mono ?_
  rintro e w1 ⟨⟨ss0, xs0, po0, pa0, qo0, qa0, rfl, hL⟩, hk, hs1⟩
  have HL := hide hL
  have HR1 := hide ((unhide HR0).keep hk (by omega))
  have HK1 := hide ((unhide HK0).trans (hk.mono (fun k e => .inl e)))
  have HS1 := hide hs1
  have hz1 : w.heap.size < w1.heap.size := (unhide HR1).lt
  have hl0 := hL.l
  clear hL hk hs1
  by_cases h64 : ss0.length = 64
  · have D0 : Hid (DkO w (w1.alloc (.cells #[.slice po0 ss0.length pa0, .slice qo0 xs0.length qa0] 26)) b so n cap (m + 2000) w1.heap.size po0 pa0 qo0 qa0 ss0 xs0) := hide (by
      have hbA := Joins.below_alloc1 w1 (.cells #[.slice po0 ss0.length pa0, .slice qo0 xs0.length qa0] 26)
      exact ⟨VarD.new _ _ _, (((unhide HL).o h64).below hbA).base (by simp), (unhide HR1).below hbA, (unhide HK1).trans (Keep.of_below hbA), (unhide HS1).below hbA, hz1⟩)
    have HT0 : Hid (AllT DrwZ ss0 xs0) := hide ⟨fun s hs => ⟨(unhide HL).t.1 s hs, (unhide HL).s.sizes s hs⟩, fun x hx => ⟨(unhide HL).t.2 x hx, (unhide HL).i.sizes x hx⟩⟩
    have H64 := hide h64
    have hb64 : ((ss0.length : Int) != 64) = false := by rw [h64]; rfl
    clear h64 HL HR1 HK1 HS1 HK0 HS0 HR0
    go_wp2_with fail
    revert D0
    generalize w1.alloc (.cells #[.slice po0 ss0.length pa0, .slice qo0 xs0.length qa0] 26) = W1
    generalize hC : w1.heap.size = C at *
    clear hC
    intro D0
    refine (chance_k b so n cap (m + 2000) 2 _ (by omega) (by omega) (by omega) hn (unhide D0).s).mono ?_
    rintro e w2 ⟨q, rfl, hs2, hk2⟩
    have D1 := hide ((unhide D0).src hlt hs2 hk2)
    clear hs2 hk2 D0
    obtain ⟨v0, v1⟩ := (unhide D1).var.cells
    have hp0 : 0 < ss0.length := by have := unhide H64; omega
    cases q with
    | true =>
      go_wp2_with fail
      go_region_with (first
        | (go_at_call 65; refine (leader_k b so n cap (m + 2000 + 3) _ (by omega) hn ?_).mono ?_; exact (unhide D1).s.below ((Below.refl _ _).drew); rintro e wA ⟨lv, lo, lg, rfl, k1, k2, k3, hsA, hkA⟩; have DA := hide (((unhide D1).below ((Below.refl _ _).drew)).src hlt hsA hkA); obtain ⟨a0, a1⟩ := (unhide DA).var.cells; clear hsA hkA)
        | (go_at_call 64; refine (l06Encode_any lv lo lg _ (by omega) (by omega) (by omega)).mono ?_; rintro e wB ⟨rfl, hbB⟩; have DB := hide ((unhide DA).below hbB); have HDR := hide (drw_leader k1 k2 k3); obtain ⟨b0, b1⟩ := (unhide DB).var.cells; obtain ⟨g, xx, rfl, hgl, hgc, hgf, hgs⟩ := (unhide DB).cell (unhide HS) hp0; have HGS := hide hgs; clear hbB hgs))
      all_goals
        have D2 := hide ((unhide HGS (encLd lv lo lg)).more (m' := m + 2100) (by omega))
        have HT1 := hide ((unhide HT0).set (j := 0) (unhide HDR))
        have H65 : Hid ((ss0.set 0 (encLd lv lo lg)).length = 64) := hide (by rw [List.length_set]; exact unhide H64)
        clear HGS hgc hgf hgl a0 a1 b0 b1 v0 v1 DA DB D1 HDR HT0 H64 hb64 hp0
        revert D2 HT1 H65
        generalize wB.setCell ⟨g, 0, none⟩ (.string (encLd lv lo lg)) = W2
        generalize ss0.set 0 (encLd lv lo lg) = ss1
        intro D2 HT1 H65
        go_wp2
        go_loopw [4] (fun i wr => ∃ (j : Nat) (ss : List ByteArray) (po : Option Addr) (pa : Nat), j ≤ 4 ∧ i = .int .i64 j ∧ Hid (ss.length = 64) ∧ Hid (AllT DrwZ ss xs0) ∧ Hid (DkO w wr b so n cap (m + 2100 + 30 * j) C po pa qo0 qa0 ss xs0)) (fun i _ => 4 - (intOf i).toNat)
        case atStart => exact ⟨0, ss1, _, _, by omega, rfl, H65, HT1, hide ((unhide D2).more (by omega))⟩
        case round =>
          clear H65 HT1 D2
          obtain ⟨j, ss, po, pa, hj4, rfl, H6, HT, HD⟩ := hrel
          obtain ⟨v0, v1⟩ := (unhide HD).var.cells
          by_cases hj : j < 4
          · have hji : (j : Int) < 4 := by omega
            go_wp2_with fail
            refine (chance_k b so n cap _ 3 _ (by omega) (by omega) (by omega) hn (unhide HD).s).mono ?_
            rintro e w3 ⟨qc, rfl, hs3, hk3⟩
            have D3 := hide ((unhide HD).src hlt hs3 hk3)
            clear hs3 hk3 v0 v1 HD
            obtain ⟨v0, v1⟩ := (unhide D3).var.cells
            cases qc with
            | true =>
              have hjs : j + 1 < ss.length := by have := unhide H6; omega
              have hjs2 : (1 : Int) + j < ss.length := by omega
              have wr1 : IntKind.i64.wrap (1 + (j : Int)) = 1 + j := by rw [IntKind.wrap_i64]; omega
              have htn : (1 + (j : Int)).toNat = j + 1 := by omega
              go_wp2_with fail
              go_region_with (first
                | (go_at_call 46; refine (block_k b so n cap (m + 2100 + 30 * j + 3) _ (by omega) hn ?_).mono ?_; exact (unhide D3).s.below ((Below.refl _ _).drew); rintro e wA ⟨bv, bm, bb, bi, rfl, k1, k2, k3, k4, k5, hsA, hkA⟩; have DA := hide (((unhide D3).below ((Below.refl _ _).drew)).src hlt hsA hkA); obtain ⟨a0, a1⟩ := (unhide DA).var.cells; clear hsA hkA k5)
                | (go_at_call 49; refine (l05Encode_any bv bm bb bi _ (by omega) (by omega) (by omega) (by omega)).mono ?_; rintro e wB ⟨rfl, hbB⟩; have DB := hide ((unhide DA).below hbB); have HDR := hide (drw_block k1 k2 k3 k4); obtain ⟨b0, b1⟩ := (unhide DB).var.cells; obtain ⟨g, xx, rfl, hgl, hgc, hgf, hgs⟩ := (unhide DB).cell (unhide HS) hjs; have HGS := hide hgs; clear hbB hgs))
              all_goals
                have D4 := hide ((unhide HGS (encBk bv bm bb bi)).more (m' := m + 2100 + 30 * (j + 1)) (by omega))
                have HT4 := hide ((unhide HT).set (j := j + 1) (unhide HDR))
                have H64' : Hid ((ss.set (j + 1) (encBk bv bm bb bi)).length = 64) := hide (by rw [List.length_set]; exact unhide H6)
                clear HGS hgc hgf hgl a0 a1 b0 b1 v0 v1 DA DB D3 HDR HT H6
                revert D4 HT4 H64'
                generalize wB.setCell ⟨g, j + 1, none⟩ (.string (encBk bv bm bb bi)) = W4
                generalize ss.set (j + 1) (encBk bv bm bb bi) = ss4
                intro D4 HT4 H64'
                go_wp2
                go_roundw
                case rel => exact ⟨j + 1, ss4, _, _, by omega, by go_num, H64', HT4, D4⟩
                case measure => simp [intOf]; omega
            | false =>
              go_wp2
              go_roundw
              case rel => exact ⟨j + 1, ss, _, _, by omega, by go_num, H6, HT, hide ((unhide D3).more (by omega))⟩
              case measure => simp [intOf]; omega
          · have hji : ¬ (j : Int) < 4 := by omega
            obtain ⟨r0, r1⟩ := (unhide HD).r.cells
            have r2 := (unhide HD).r.free 0
            have r3 := (unhide HD).r.free 1
            have HE := hide (fun u v => (unhide HD).ret (unhide HS) u v)
            go_wp2
            exact bodyPost_ret (v := .agg #[.slice po ss.length pa, .slice qo0 xs0.length qa0]) (by simp [results, Tryd.results26, go_sem, r0, r1]) rfl ⟨⟨ss, xs0, _, _, _, _, rfl, LsD.of (unhide HE _ _).2.2 ((unhide HT).mono (fun t h => h.1)) ((unhide HT).sizes (fun t h => h.2)) ⟨by have := unhide H6; omega, hl0.2⟩⟩, (unhide HE _ _).2.1, (unhide HE _ _).1.more (by omega)⟩
    | false =>
      have D2 := hide ((unhide D1).more (m' := m + 2100) (by omega))
      have HT1 := HT0
      have H65 := H64
      clear v0 v1 D1 HT0 H64 hb64 hp0
      revert D2 HT1 H65
      generalize w2 = W2
      generalize ss0 = ss1
      intro D2 HT1 H65
      go_wp2
      go_loopw [4] (fun i wr => ∃ (j : Nat) (ss : List ByteArray) (po : Option Addr) (pa : Nat), j ≤ 4 ∧ i = .int .i64 j ∧ Hid (ss.length = 64) ∧ Hid (AllT DrwZ ss xs0) ∧ Hid (DkO w wr b so n cap (m + 2100 + 30 * j) C po pa qo0 qa0 ss xs0)) (fun i _ => 4 - (intOf i).toNat)
      case atStart => exact ⟨0, ss1, _, _, by omega, rfl, H65, HT1, hide ((unhide D2).more (by omega))⟩
      case round =>
        clear H65 HT1 D2
        obtain ⟨j, ss, po, pa, hj4, rfl, H6, HT, HD⟩ := hrel
        obtain ⟨v0, v1⟩ := (unhide HD).var.cells
        by_cases hj : j < 4
        · have hji : (j : Int) < 4 := by omega
          go_wp2_with fail
          refine (chance_k b so n cap _ 3 _ (by omega) (by omega) (by omega) hn (unhide HD).s).mono ?_
          rintro e w3 ⟨qc, rfl, hs3, hk3⟩
          have D3 := hide ((unhide HD).src hlt hs3 hk3)
          clear hs3 hk3 v0 v1 HD
          obtain ⟨v0, v1⟩ := (unhide D3).var.cells
          cases qc with
          | true =>
            have hjs : j + 1 < ss.length := by have := unhide H6; omega
            have hjs2 : (1 : Int) + j < ss.length := by omega
            have wr1 : IntKind.i64.wrap (1 + (j : Int)) = 1 + j := by rw [IntKind.wrap_i64]; omega
            have htn : (1 + (j : Int)).toNat = j + 1 := by omega
            go_wp2_with fail
            go_region_with (first
              | (go_at_call 46; refine (block_k b so n cap (m + 2100 + 30 * j + 3) _ (by omega) hn ?_).mono ?_; exact (unhide D3).s.below ((Below.refl _ _).drew); rintro e wA ⟨bv, bm, bb, bi, rfl, k1, k2, k3, k4, k5, hsA, hkA⟩; have DA := hide (((unhide D3).below ((Below.refl _ _).drew)).src hlt hsA hkA); obtain ⟨a0, a1⟩ := (unhide DA).var.cells; clear hsA hkA k5)
              | (go_at_call 49; refine (l05Encode_any bv bm bb bi _ (by omega) (by omega) (by omega) (by omega)).mono ?_; rintro e wB ⟨rfl, hbB⟩; have DB := hide ((unhide DA).below hbB); have HDR := hide (drw_block k1 k2 k3 k4); obtain ⟨b0, b1⟩ := (unhide DB).var.cells; obtain ⟨g, xx, rfl, hgl, hgc, hgf, hgs⟩ := (unhide DB).cell (unhide HS) hjs; have HGS := hide hgs; clear hbB hgs))
            all_goals
              have D4 := hide ((unhide HGS (encBk bv bm bb bi)).more (m' := m + 2100 + 30 * (j + 1)) (by omega))
              have HT4 := hide ((unhide HT).set (j := j + 1) (unhide HDR))
              have H64' : Hid ((ss.set (j + 1) (encBk bv bm bb bi)).length = 64) := hide (by rw [List.length_set]; exact unhide H6)
              clear HGS hgc hgf hgl a0 a1 b0 b1 v0 v1 DA DB D3 HDR HT H6
              revert D4 HT4 H64'
              generalize wB.setCell ⟨g, j + 1, none⟩ (.string (encBk bv bm bb bi)) = W4
              generalize ss.set (j + 1) (encBk bv bm bb bi) = ss4
              intro D4 HT4 H64'
              go_wp2
              go_roundw
              case rel => exact ⟨j + 1, ss4, _, _, by omega, by go_num, H64', HT4, D4⟩
              case measure => simp [intOf]; omega
          | false =>
            go_wp2
            go_roundw
            case rel => exact ⟨j + 1, ss, _, _, by omega, by go_num, H6, HT, hide ((unhide D3).more (by omega))⟩
            case measure => simp [intOf]; omega
        · have hji : ¬ (j : Int) < 4 := by omega
          obtain ⟨r0, r1⟩ := (unhide HD).r.cells
          have r2 := (unhide HD).r.free 0
          have r3 := (unhide HD).r.free 1
          have HE := hide (fun u v => (unhide HD).ret (unhide HS) u v)
          go_wp2
          exact bodyPost_ret (v := .agg #[.slice po ss.length pa, .slice qo0 xs0.length qa0]) (by simp [results, Tryd.results26, go_sem, r0, r1]) rfl ⟨⟨ss, xs0, _, _, _, _, rfl, LsD.of (unhide HE _ _).2.2 ((unhide HT).mono (fun t h => h.1)) ((unhide HT).sizes (fun t h => h.2)) ⟨by have := unhide H6; omega, hl0.2⟩⟩, (unhide HE _ _).2.1, (unhide HE _ _).1.more (by omega)⟩
  · have hb64 : ((ss0.length : Int) != 64) = true := by simp only [bne_iff_ne, ne_eq]; omega
    have HL2 := hide (LsD.ret ((unhide HL).base (B' := w.heap.size + 1) (by simp)) (unhide HR1) (Nat.lt_succ_self _))
    obtain ⟨r0, r1⟩ := (unhide HR1).cells
    have r2 := (unhide HR1).free 0
    have r3 := (unhide HR1).free 1
    clear h64
    go_wp2
    have hK := (unhide HK1).trans ((unhide HL2).2.mono (fun k e => .inr (by omega)))
    have hbA := Joins.below_alloc1 ((w1.setCell ⟨w.heap.size, 0, none⟩ (.slice po0 ss0.length pa0)).setCell ⟨w.heap.size, 1, none⟩ (.slice qo0 xs0.length qa0)) (.cells #[.slice po0 ss0.length pa0, .slice qo0 xs0.length qa0] 26)
    exact bodyPost_ret (v := .agg #[.slice po0 ss0.length pa0, .slice qo0 xs0.length qa0]) (by simp [results, Tryd.results26, go_sem, r0, r1, hz1]) rfl ⟨⟨ss0, xs0, _, _, _, _, rfl, (unhide HL2).1.below hbA⟩, (keep_drop hK).trans (Keep.of_below hbA), (((unhide HS).other (unhide HS1) (keep_drop hK) (unhide HL2).2 (by omega)).more (by omega)).below hbA⟩

end Go.Proofs.YtlhinknmbgijeabDoor

/- Contract of spec.LeaseDisk. -/
namespace Go.Proofs.YtlhinknmbgijeabDoor
open Go.RowKit
set_option linter.unusedVariables false
set_option maxRecDepth 100000

theorem right_none {ss : List ByteArray} {xs : List Wr} (h : diskB ss xs = true) : diskB ss [] = true := diskB_parts.2 ⟨(diskB_parts.1 h).1, by simp, fun x hx => by cases hx⟩
theorem row_ss {W : World} {B pa : Nat} {po : Option Addr} {ss : List ByteArray} (h : OwnR W B 9 1 (.slice po ss.length pa) ss.length (strV ss)) (hz : ∀ s ∈ ss, s.size ≤ maxLen) : Ss W po ss :=
  OwnD.ss (xs := []) (bo := none) (m := 0) (cb := 0) ⟨h, .inl ⟨rfl, rfl, none, rfl⟩⟩ hz

set_option maxHeartbeats 3200000 in
theorem leaseDisk_any (so : Option Addr) (n cap : Nat) (w : World) (hn : n ≤ 1048576) (hB : Bs w so n) :
    Calls Tryd.prog 6 #[.slice so n cap] w fun e w' => ∃ ss po pa qo qa, e = .returned (.agg #[.slice po ss.length pa, .slice qo 0 qa]) ∧ diskB ss [] = true ∧ (∀ s ∈ ss, Drw s) ∧ Ss w' po ss ∧ Below w.heap.size w w' := by
  have HB0 := hide (hB.below (Joins.below_alloc1 w (.cells #[.slice none 0 0, .slice none 0 0] 26)))
  have HW0 := hide (Joins.below_alloc1 w (.cells #[.slice none 0 0, .slice none 0 0] 26))
  have HR0 : Hid (VarD (w.alloc (.cells #[.slice none 0 0, .slice none 0 0] 26)) w.heap.size (.slice none 0 0) (.slice none 0 0)) := hide (heap_alloc_new w _)
  clear hB
  go_enter Tryd.func6, Tryd.ntmps6
  go_wp2_with fail
  refine (source_any so n cap _ hn (unhide HB0)).mono ?_
  rintro e w1 ⟨rfl, hs1, hb1, hz⟩
  have HR1 := hide ((unhide HR0).below hb1)
  have HW1 := hide (fr (unhide HW0) hb1)
  simp only [World.size_alloc] at hs1
  have hz1 : w1.heap.size = w.heap.size + 2 := by rw [hz]; simp
  clear hb1 hz
  go_wp2_with fail
  refine (leaseDisk_k _ so n cap 0 _ (by omega) hn hs1).mono ?_
  rintro e w2 ⟨⟨ss, xs, po, pa, qo, qa, rfl, hL⟩, hk, _⟩
  have HR2 := hide ((unhide HR1).keep hk (by omega))
  have HW2 := hide ((unhide HW1).trans (hk.below (B := w.heap.size) (by omega) (fun k hk => by rw [hk]; simp)))
  have HL := hide hL
  have hz2 : w.heap.size < w2.heap.size := (unhide HR2).lt
  have hl1 := hL.l.1
  have hl2 := hL.l.2
  clear hk hs1 hL HR0 HR1 HW0 HW1 HB0
  have hA2 := Joins.below_alloc1 w2 (.cells #[.slice po ss.length pa, .slice qo xs.length qa] 26)
  have HRA := hide ((unhide HR2).below hA2)
  have HWA := hide (fr (unhide HW2) hA2)
  have HLA := hide ((unhide HL).below hA2)
  have HVA := hide (VarD.new w2 (.slice po ss.length pa) (.slice qo xs.length qa))
  clear hA2
  by_cases h64 : ss.length = 64
  · have hb64 : ((ss.length : Int) != 64) = false := by rw [h64]; rfl
    have HM1 : Hid (ss.length ≤ maxLen) := hide (by unfold maxLen; omega)
    have HM2 : Hid (xs.length ≤ maxLen) := hide (by unfold maxLen; omega)
    have H64 := hide h64
    clear h64
    go_wp2_with fail
    refine (diskOK_spec po qo pa qa ss xs _ (unhide HM1) (unhide HM2) (unhide HLA).s (unhide HLA).i).mono ?_
    rintro e w3 ⟨rfl, hb3⟩
    have HR3 := hide ((unhide HRA).below hb3)
    have HW3 := hide (fr (unhide HWA) hb3)
    have HL3 := hide ((unhide HLA).below hb3)
    have HV3 := hide ((unhide HVA).below hb3)
    clear hb3
    cases hd : diskB ss xs with
    | true =>
      obtain ⟨v0, v1⟩ := (unhide HV3).cells
      go_wp2_with fail
      refine (l01Own_any po qo pa qa ss xs _ (by omega) (by omega) (unhide HL3).s (unhide HL3).i).mono ?_
      rintro e w4 ⟨po4, pa4, qo4, qa4, rfl, ho, hb4⟩
      have HR4 := hide ((unhide HR3).below hb4)
      have HW4 := hide (fr (unhide HW3) hb4)
      have HV4 := hide ((unhide HV3).below hb4)
      have HO4 := hide ho
      have hz4 := hb4.size
      clear ho hb4 v0 v1
      obtain ⟨v0, v1⟩ := (unhide HV4).cells
      have v2 := (unhide HV4).free 0
      have v3 := (unhide HV4).free 1
      obtain ⟨r0, r1⟩ := (unhide HR4).cells
      have r2 := (unhide HR4).free 0
      have r3 := (unhide HR4).free 1
      have n1 : w2.heap.size ≠ w.heap.size := by omega
      have n2 : w.heap.size ≠ w2.heap.size := by omega
      go_upto_region 5 with fail
      have hk : Keep (fun j => j = w2.heap.size) w4 ((w4.setCell ⟨w2.heap.size, 0, none⟩ (.slice po4 ss.length pa4)).setCell ⟨w2.heap.size, 1, none⟩ (.slice qo4 xs.length qa4)) := ((Keep.refl (fun j => j = w2.heap.size) w4).setCell (p := ⟨w2.heap.size, 0, none⟩) rfl _).setCell (p := ⟨w2.heap.size, 1, none⟩) rfl _
      have HV5 := hide (((unhide HV4).set0 (.slice po4 ss.length pa4)).set1 (.slice qo4 xs.length qa4))
      have HR5 := hide ((unhide HR4).keep hk (by omega))
      have HO5 := hide ((unhide HO4).s.keep hk (fun g hg e => (unhide HO4).s.other (unhide HV4) (by decide) (e ▸ hg)))
      have HW5 : Hid (Below w.heap.size w ((w4.setCell ⟨w2.heap.size, 0, none⟩ (.slice po4 ss.length pa4)).setCell ⟨w2.heap.size, 1, none⟩ (.slice qo4 xs.length qa4))) := hide (((unhide HW4).setCell (p := ⟨w2.heap.size, 0, none⟩) (Nat.le_of_lt hz2) _).setCell (p := ⟨w2.heap.size, 1, none⟩) (Nat.le_of_lt hz2) _)
      have hz3 : w2.heap.size < w3.heap.size := (unhide HV3).lt
      clear hk v0 v1 v2 v3 r0 r1 r2 r3 HV4 HR4 HO4 HW4 hz4
      revert HV5 HR5 HO5 HW5
      generalize (w4.setCell ⟨w2.heap.size, 0, none⟩ (.slice po4 ss.length pa4)).setCell ⟨w2.heap.size, 1, none⟩ (.slice qo4 xs.length qa4) = W5
      intro HV5 HR5 HO5 HW5
      obtain ⟨v0, v1⟩ := (unhide HV5).cells
      have v2 := (unhide HV5).free 0
      have v3 := (unhide HV5).free 1
      obtain ⟨r0, r1⟩ := (unhide HR5).cells
      have r2 := (unhide HR5).free 0
      have r3 := (unhide HR5).free 1
      have hC5 : w2.heap.size < W5.heap.size := (unhide HV5).lt
      have hR5 : w.heap.size < W5.heap.size := (unhide HR5).lt
      have HF := hide (fun (a u v : Value) => And.intro ((((unhide HO5).setCell (a := ⟨w2.heap.size, 1, none⟩) hz3 a).setCell (a := ⟨w.heap.size, 0, none⟩) (show w.heap.size < w3.heap.size by omega) u).setCell (a := ⟨w.heap.size, 1, none⟩) (show w.heap.size < w3.heap.size by omega) v) ((((unhide HW5).setCell (p := ⟨w2.heap.size, 1, none⟩) (Nat.le_of_lt hz2) a).setCell (p := ⟨w.heap.size, 0, none⟩) (Nat.le_refl _) u).setCell (p := ⟨w.heap.size, 1, none⟩) (Nat.le_refl _) v))
      go_wp2
      obtain ⟨f1, f2⟩ := unhide HF (.slice (some ⟨W5.heap.size, 0, none⟩) 0 0) (.slice po4 ss.length pa4) (.slice (some ⟨W5.heap.size, 0, none⟩) 0 0)
      exact bodyPost_ret (v := .agg #[.slice po4 ss.length pa4, .slice (some ⟨W5.heap.size, 0, none⟩) 0 0]) (by simp [results, Tryd.results6, go_sem, r0, r1, hR5]) rfl ⟨ss, po4, pa4, _, _, rfl, right_none hd, (unhide HL).t.1, (row_ss f1 (right_ss hd)).below (Joins.below_alloc1 _ _), fr f2 (Joins.below_alloc1 _ _)⟩
    | false =>
      go_wp2_with fail
      refine (l01New_any _).mono ?_
      rintro e w4 ⟨g, k, rfl, ho, hb4⟩
      have HR4 := hide ((unhide HR3).below hb4)
      have HW4 := hide (fr (unhide HW3) hb4)
      have HO4 := hide ho
      clear ho hb4
      obtain ⟨r0, r1⟩ := (unhide HR4).cells
      have r2 := (unhide HR4).free 0
      have r3 := (unhide HR4).free 1
      obtain ⟨hdv, hkr⟩ := DV.store (ca := 64) (cb := 0) (unhide HR4) ((unhide HO4).ss (right_ss new_right)) ((unhide HO4).ios (right_xs new_right))
      rw [noSs_len] at hdv
      have HDV := hide hdv.s
      have HWF := hide (((unhide HW4).setCell (p := ⟨w.heap.size, 0, none⟩) (Nat.le_refl _) (.slice (some ⟨g, 0, none⟩) 64 64)).setCell (p := ⟨w.heap.size, 1, none⟩) (Nat.le_refl _) (.slice (some ⟨k, 0, none⟩) 0 0))
      clear hdv hkr
      go_wp2
      exact bodyPost_ret (v := .agg #[.slice (some ⟨g, 0, none⟩) 64 64, .slice (some ⟨k, 0, none⟩) 0 0]) (by simp [results, Tryd.results6, go_sem, r0, r1]) rfl ⟨noSs, some ⟨g, 0, none⟩, 64, some ⟨k, 0, none⟩, 0, by rw [noSs_len], new_right, fun s hs => (AllT.new (P := Drw) (drw_short (Nat.zero_le _))).1 s hs, unhide HDV, unhide HWF⟩
  · have hb64 : ((ss.length : Int) != 64) = true := by simp only [bne_iff_ne, ne_eq]; omega
    clear h64
    go_wp2_with fail
    refine (l01New_any _).mono ?_
    rintro e w4 ⟨g, k, rfl, ho, hb4⟩
    have HR4 := hide ((unhide HRA).below hb4)
    have HW4 := hide (fr (unhide HWA) hb4)
    have HO4 := hide ho
    clear ho hb4
    obtain ⟨r0, r1⟩ := (unhide HR4).cells
    have r2 := (unhide HR4).free 0
    have r3 := (unhide HR4).free 1
    obtain ⟨hdv, hkr⟩ := DV.store (ca := 64) (cb := 0) (unhide HR4) ((unhide HO4).ss (right_ss new_right)) ((unhide HO4).ios (right_xs new_right))
    rw [noSs_len] at hdv
    have HDV := hide hdv.s
    have HWF := hide (((unhide HW4).setCell (p := ⟨w.heap.size, 0, none⟩) (Nat.le_refl _) (.slice (some ⟨g, 0, none⟩) 64 64)).setCell (p := ⟨w.heap.size, 1, none⟩) (Nat.le_refl _) (.slice (some ⟨k, 0, none⟩) 0 0))
    clear hdv hkr
    go_wp2
    exact bodyPost_ret (v := .agg #[.slice (some ⟨g, 0, none⟩) 64 64, .slice (some ⟨k, 0, none⟩) 0 0]) (by simp [results, Tryd.results6, go_sem, r0, r1]) rfl ⟨noSs, some ⟨g, 0, none⟩, 64, some ⟨k, 0, none⟩, 0, by rw [noSs_len], new_right, fun s hs => (AllT.new (P := Drw) (drw_short (Nat.zero_le _))).1 s hs, unhide HDV, unhide HWF⟩

end Go.Proofs.YtlhinknmbgijeabDoor

/- The walk of laws.FnDelta. -/
namespace Go.Proofs.YtlhinknmbgijeabDoor
open Go.RowKit
set_option linter.unusedVariables false
set_option maxRecDepth 100000

set_option maxHeartbeats 6400000 in
theorem lawDelta (ao : Option Addr) (ca n : Nat) (bo : Option Addr) (cb l : Nat) (w : World) (hn : n ≤ maxLen) (hB : Bs w ao n) (hl : l ≤ maxLen) (hC : Bs w bo l) (hE : ErrW w) :
    Calls Tryd.prog 3 #[.slice ao n ca, .slice bo l cb] w fun e w' => e = .returned (.bool true) ∧ Below w.heap.size w w' := by
  have HE := hide hE
  have HBS := hide hB
  have HCS := hide hC
  clear hE hB hC
  unfold maxLen at hn hl
  by_cases h : 1048576 < n
  · go_enter Tryd.func3, Tryd.ntmps3
    go_wp2
    go_ret
    exact ⟨rfl, Below.refl _ _⟩
  by_cases h2 : 1048576 < l
  · go_enter Tryd.func3, Tryd.ntmps3
    go_wp2
    go_ret
    exact ⟨rfl, Below.refl _ _⟩
  have hn' : n ≤ 1048576 := by omega
  have hl' : l ≤ 1048576 := by omega
  go_enter Tryd.func3, Tryd.ntmps3
  go_wp2_with fail
  refine (leaseDisk_any ao n ca _ hn' (unhide HBS)).mono ?_
  rintro e w1 ⟨ss, po, pa, qo, qa, rfl, hd, hdw, hs1, hb1⟩
  have HD0 := hide hd
  have HDW := hide hdw
  have HL0 := hide (diskB_len hd).1
  have E0 : Hid (Dl w w1 [] []) := hide ⟨hb1, fun p hp => (by cases hp), fun p hp => (by cases hp), (unhide HE).below hb1⟩
  have E1 := hide ((unhide E0).addD hs1 pa qo qa)
  have HC1 := hide ((unhide HCS).below (fr hb1 (Joins.below_alloc1 w1 (.cells #[.slice po ss.length pa, .slice qo 0 qa] 26))))
  clear hd hdw hs1 hb1 E0 HE HBS HCS
  go_wp2_with fail
  revert E1 HC1
  generalize w1.alloc (.cells #[.slice po ss.length pa, .slice qo 0 qa] 26) = W1
  generalize w1.heap.size = C0
  intro E1 HC1
  refine (at_any bo l cb 0 4 _ hl' (by omega) (by omega) (by omega) (by omega) (unhide HC1)).mono ?_
  rintro e w2 ⟨hh, rfl, hh0, hh1, hb2⟩
  have E2 := hide ((unhide E1).next hb2)
  have HC2 := hide ((unhide HC1).below hb2)
  clear hb2 E1 HC1
  go_wp2_with fail
  refine (at_any bo l cb 1 3 _ hl' (by omega) (by omega) (by omega) (by omega) (unhide HC2)).mono ?_
  rintro e w3 ⟨oo, rfl, oo0, oo1, hb3⟩
  have E3 := hide ((unhide E2).next hb3)
  clear hb3 E2 HC2
  obtain ⟨o, ho⟩ : ∃ o, (hh + 1 + oo) % 4 = o := ⟨_, rfl⟩
  have ho0 : 0 ≤ o := by omega
  have ho3 : o ≤ 3 := by omega
  have wr0 : IntKind.i64.wrap (hh + 1) = hh + 1 := by rw [IntKind.wrap_i64]; omega
  have wr1 : IntKind.i64.wrap (hh + 1 + oo) = hh + 1 + oo := by rw [IntKind.wrap_i64]; omega
  -- plain: what is read and written
  obtain ⟨G, HG⟩ : ∃ G, Hid (redG ss [] hh hh = G) := ⟨_, hide rfl⟩
  have hg0 : 0 ≤ G := by rw [← unhide HG]; exact (red_in ss [] hh hh).1
  have hg1 : G ≤ 20 := by rw [← unhide HG]; exact red_small (unhide HD0) (unhide HDW) (fun x hx => by cases hx)
  have hold := read_old (unhide HD0) hh0 (show hh ≤ 3 by omega)
  obtain ⟨RH, RT, RC, HRD⟩ : ∃ RH RT RC, Hid (rdH ss [] hh hh = RH ∧ rdG ss [] hh hh = G ∧ rdT ss [] hh hh = RT ∧ rdC ss [] hh hh = RC) := ⟨_, _, _, hide ⟨rfl, hold.1.trans (unhide HG), rfl, rfl⟩⟩
  have hRC : RC = 0 ∨ RC = 5 := by rw [← (unhide HRD).2.2.2]; exact hold.2
  clear hold
  have X1 : Hid (dltB hh (G + 1) 100 = true) := hide (dltB_iff.2 ⟨by omega, by omega, by omega⟩)
  have X2 : Hid (dltB hh (G + 1 + 1) 120 = true) := hide (dltB_iff.2 ⟨by omega, by omega, by omega⟩)
  have X3 : Hid (dltB hh (G + 1 + 1) 140 = true) := hide (dltB_iff.2 ⟨by omega, by omega, by omega⟩)
  obtain ⟨S1, HS1⟩ : ∃ S, Hid (pS ss [] hh (G + 1) 100 = S) := ⟨_, hide rfl⟩
  have HL1 : Hid (S1.length = 64) := hide (by rw [← unhide HS1, pS_len]; exact unhide HL0)
  have HD1 : Hid (diskB S1 [] = true) := hide (by rw [← unhide HS1]; exact right_nil (unhide HD0) (unhide X1))
  have P1 : Hid (redB S1 [] hh hh = true ∧ redG S1 [] hh hh = G + 1 ∧ redS S1 [] hh hh = 100) := hide (by rw [← unhide HS1]; exact red_put hh (unhide HL0) (unhide X1))
  obtain ⟨S2, HS2⟩ : ∃ S, Hid (pS S1 [] hh (G + 1 + 1) 120 = S) := ⟨_, hide rfl⟩
  have HL2 : Hid (S2.length = 64) := hide (by rw [← unhide HS2, pS_len]; exact unhide HL1)
  have HD2 : Hid (diskB S2 [] = true) := hide (by rw [← unhide HS2]; exact right_nil (unhide HD1) (unhide X2))
  have P2 : Hid (redB S2 [] hh hh = true ∧ redG S2 [] hh hh = G + 1 + 1 ∧ redS S2 [] hh hh = 120) := hide (by rw [← unhide HS2]; exact red_put hh (unhide HL1) (unhide X2))
  obtain ⟨S3, HS3⟩ : ∃ S, Hid (pS S2 [] hh (G + 1 + 1) 140 = S) := ⟨_, hide rfl⟩
  have HD3 : Hid (diskB S3 [] = true) := hide (by rw [← unhide HS3]; exact right_nil (unhide HD2) (unhide X3))
  have P3 : Hid (redB S3 [] hh hh = true ∧ redG S3 [] hh hh = G + 1 + 1 ∧ redS S3 [] hh hh = 140) := hide (by rw [← unhide HS3]; exact red_put hh (unhide HL2) (unhide X3))
  have Q3 : Hid (rdH S3 [] o hh = hh ∧ rdG S3 [] o hh = G + 1 + 1 ∧ rdT S3 [] o hh = 140 ∧ rdC S3 [] o hh = 0) := hide (by have k := unhide HD3; rw [← unhide HS3] at k ⊢; exact read_new (unhide HL2) k (unhide X3) ho0 ho3)
  have X3' : Hid (encR hh (G + 1 + 1) 140 = encD hh (G + 1 + 1) 140 ∧ encC hh (G + 1 + 1) 140 = 0) := hide ⟨if_pos (unhide X3), if_pos (unhide X3)⟩
  have X4 : Hid (dcH (encD hh (G + 1 + 1) 140) = hh ∧ dcG (encD hh (G + 1 + 1) 140) = G + 1 + 1 ∧ dcS (encD hh (G + 1 + 1) 140) = 140 ∧ dcC (encD hh (G + 1 + 1) 140) = 0) := hide (by
    obtain ⟨e1, e2, e3, e4⟩ := dec_enc (unhide X3)
    obtain ⟨y1, y2, y3, y4⟩ := dc_yes (t := encD hh (G + 1 + 1) 140) (by rw [encD_size]; omega) e1
    exact ⟨y1.trans e2, y2.trans e3, y3.trans e4, y4⟩)
  go_upto_region 6 with fail
  rw [ho]
  clear HDW HL0 HL1 HL2 wr0 wr1
  obtain ⟨a0, c0, b0, d0, hv, hs⟩ := (unhide E3).d (C0, ss) (by simp)
  obtain ⟨v0, v1⟩ := hv.cells
  have HSS := hide hs
  clear hv hs
  go_wp2_with fail
  refine (read_nil' a0 b0 c0 d0 ss hh hh RH G RT RC _ (unhide HSS) (unhide HD0) (unhide HRD) (unhide E3).e).mono ?_
  rintro e w5 ⟨rfl, hb5⟩
  have E4 := hide (((unhide E3).next hb5).addT RH G RT)
  clear hb5 v0 v1 HSS E3
  go_upto_region 7 with fail
  revert E4
  generalize w5.alloc (.cells #[.int .i64 RH, .int .i64 G, .int .i64 RT] 30) = W5
  generalize w5.heap.size = C1
  intro E4
  obtain ⟨a0, c0, b0, d0, hv, hs⟩ := (unhide E4).d (C0, ss) (by simp)
  obtain ⟨v0, v1⟩ := hv.cells
  have HSS := hide hs
  clear hv hs
  go_wp2_with fail
  refine (take_nil a0 b0 c0 d0 ss hh 100 G S1 _ (unhide HSS) (unhide HD0) hh0 (by omega) (by omega) (by omega) (unhide HG) (by omega) (unhide HS1) (unhide E4).e).mono ?_
  rintro e w5 ⟨p5, pa5, q5, qa5, rfl, hs5, hb5⟩
  have E5 := hide (((unhide E4).next hb5).add2 hs5 pa5 q5 qa5 hh (G + 1) 100)
  clear hb5 v0 v1 HSS E4
  go_upto_region 8 with fail
  revert E5
  generalize (w5.alloc (.cells #[.slice p5 S1.length pa5, .slice q5 0 qa5] 26)).alloc (.cells #[.int .i64 hh, .int .i64 (G + 1), .int .i64 100] 30) = W5
  generalize w5.heap.size = C2
  intro E5
  obtain ⟨a0, c0, b0, d0, hv, hs⟩ := (unhide E5).d (C2, S1) (by simp)
  obtain ⟨v0, v1⟩ := hv.cells
  have HSS := hide hs
  clear hv hs
  go_wp2_with fail
  refine (take_nil a0 b0 c0 d0 S1 hh 120 (G + 1) S2 _ (unhide HSS) (unhide HD1) hh0 (by omega) (by omega) (by omega) (unhide P1).2.1 (by omega) (unhide HS2) (unhide E5).e).mono ?_
  rintro e w5 ⟨p5, pa5, q5, qa5, rfl, hs5, hb5⟩
  have E6 := hide (((unhide E5).next hb5).add2 hs5 pa5 q5 qa5 hh (G + 1 + 1) 120)
  clear hb5 v0 v1 HSS E5
  go_upto_region 9 with fail
  revert E6
  generalize (w5.alloc (.cells #[.slice p5 S2.length pa5, .slice q5 0 qa5] 26)).alloc (.cells #[.int .i64 hh, .int .i64 (G + 1 + 1), .int .i64 120] 30) = W5
  generalize w5.heap.size = C4
  intro E6
  obtain ⟨a0, c0, b0, d0, hv, hs⟩ := (unhide E6).d (C4, S2) (by simp)
  obtain ⟨v0, v1⟩ := hv.cells
  have HSS := hide hs
  clear hv hs
  obtain ⟨t0, t1, t2⟩ := ((unhide E6).t (C4 + 1, hh, G + 1 + 1, 120) (by simp)).cells
  go_wp2_with fail
  refine (renew_nil a0 b0 c0 d0 S2 hh 140 (G + 1 + 1) 120 S3 _ (unhide HSS) (unhide HD2) (unhide X2) (by omega) (by omega) (unhide P2).1 (unhide P2).2.1 (unhide P2).2.2 (by omega) (unhide HS3) (unhide E6).e).mono ?_
  rintro e w5 ⟨p5, pa5, q5, qa5, rfl, hs5, hb5⟩
  have E7 := hide (((unhide E6).next hb5).add2 hs5 pa5 q5 qa5 hh (G + 1 + 1) 140)
  clear hb5 v0 v1 HSS E6
  go_upto_region 10 with fail
  revert E7
  generalize (w5.alloc (.cells #[.slice p5 S3.length pa5, .slice q5 0 qa5] 26)).alloc (.cells #[.int .i64 hh, .int .i64 (G + 1 + 1), .int .i64 140] 30) = W5
  generalize w5.heap.size = C6
  intro E7
  clear t0 t1 t2
  obtain ⟨a0, c0, b0, d0, hv, hs⟩ := (unhide E7).d (C6, S3) (by simp)
  obtain ⟨v0, v1⟩ := hv.cells
  have HSS := hide hs
  clear hv hs
  go_wp2_with fail
  refine (read_nil' a0 b0 c0 d0 S3 o hh hh (G + 1 + 1) 140 0 _ (unhide HSS) (unhide HD3) (unhide Q3) (unhide E7).e).mono ?_
  rintro e w5 ⟨rfl, hb5⟩
  have E8 := hide (((unhide E7).next hb5).addT hh (G + 1 + 1) 140)
  clear hb5 v0 v1 HSS E7
  go_upto_region 11 with fail
  revert E8
  generalize w5.alloc (.cells #[.int .i64 hh, .int .i64 (G + 1 + 1), .int .i64 140] 30) = W5
  generalize w5.heap.size = C8
  intro E8
  obtain ⟨a0, c0, b0, d0, hv, hs⟩ := (unhide E8).d (C6, S3) (by simp)
  obtain ⟨v0, v1⟩ := hv.cells
  have HSS := hide hs
  clear hv hs
  obtain ⟨t0, t1, t2⟩ := ((unhide E8).t (C2 + 1, hh, G + 1, 100) (by simp)).cells
  go_wp2_with fail
  refine (renew_not a0 b0 c0 d0 S3 hh (G + 1) 100 150 (G + 1 + 1) 140 13 _ (unhide HSS) (unhide HD3) (unhide X1) (by omega) (by omega) (unhide P3).1 (unhide P3).2.1 (unhide P3).2.2 (.inl ⟨rfl, by omega⟩) (unhide E8).e).mono ?_
  rintro e w5 ⟨p5, pa5, q5, qa5, rfl, hs5, hb5⟩
  have E9 := hide (((unhide E8).next hb5).add2 hs5 pa5 q5 qa5 hh (G + 1) 100)
  clear hb5 v0 v1 HSS E8
  go_upto_region 12 with fail
  revert E9
  generalize (w5.alloc (.cells #[.slice p5 S3.length pa5, .slice q5 0 qa5] 26)).alloc (.cells #[.int .i64 hh, .int .i64 (G + 1), .int .i64 100] 30) = W5
  generalize w5.heap.size = C9
  intro E9
  clear t0 t1 t2
  obtain ⟨a0, c0, b0, d0, hv, hs⟩ := (unhide E9).d (C6, S3) (by simp)
  obtain ⟨v0, v1⟩ := hv.cells
  have HSS := hide hs
  clear hv hs
  obtain ⟨t0, t1, t2⟩ := ((unhide E9).t (C6 + 1, hh, G + 1 + 1, 140) (by simp)).cells
  go_wp2_with fail
  refine (renew_not a0 b0 c0 d0 S3 hh (G + 1 + 1) 140 130 (G + 1 + 1) 140 17 _ (unhide HSS) (unhide HD3) (unhide X3) (by omega) (by omega) (unhide P3).1 (unhide P3).2.1 (unhide P3).2.2 (.inr ⟨rfl, rfl, rfl, by omega⟩) (unhide E9).e).mono ?_
  rintro e w5 ⟨p5, pa5, q5, qa5, rfl, hs5, hb5⟩
  have EA := hide (((unhide E9).next hb5).add2 hs5 pa5 q5 qa5 hh (G + 1 + 1) 140)
  clear hb5 v0 v1 HSS E9
  go_upto_region 13 with fail
  revert EA
  generalize (w5.alloc (.cells #[.slice p5 S3.length pa5, .slice q5 0 qa5] 26)).alloc (.cells #[.int .i64 hh, .int .i64 (G + 1 + 1), .int .i64 140] 30) = W5
  generalize w5.heap.size = C11
  intro EA
  clear t0 t1 t2
  obtain ⟨t0, t1, t2⟩ := ((unhide EA).t (C6 + 1, hh, G + 1 + 1, 140) (by simp)).cells
  go_wp2_with fail
  refine (encodeDelta_impl hh (G + 1 + 1) 140 _).mono ?_
  rintro e w5 ⟨rfl, hb5⟩
  rw [(unhide X3').1, (unhide X3').2]
  have EB := hide ((unhide EA).next hb5)
  clear hb5 EA t0 t1 t2
  go_wp2_with fail
  refine (decodeDelta_impl (encD hh (G + 1 + 1) 140) _ (unhide EB).e).mono ?_
  rintro e w6 ⟨rfl, hb6⟩
  rw [(unhide X4).1, (unhide X4).2.1, (unhide X4).2.2.1, (unhide X4).2.2.2]
  have EC := hide (((unhide EB).next hb6).addT hh (G + 1 + 1) 140)
  clear hb6 EB
  go_upto_region 15 with fail
  revert EC
  generalize w6.alloc (.cells #[.int .i64 hh, .int .i64 (G + 1 + 1), .int .i64 140] 30) = W5
  generalize w6.heap.size = C13
  intro EC
  obtain ⟨x0, x1, x2⟩ := ((unhide EC).t (C1, RH, G, RT) (by simp)).cells
  obtain ⟨f0, f1, f2⟩ := ((unhide EC).t (C2 + 1, hh, G + 1, 100) (by simp)).cells
  obtain ⟨g0, g1, g2⟩ := ((unhide EC).t (C4 + 1, hh, G + 1 + 1, 120) (by simp)).cells
  obtain ⟨t0, t1, t2⟩ := ((unhide EC).t (C6 + 1, hh, G + 1 + 1, 140) (by simp)).cells
  obtain ⟨s0, s1, s2⟩ := ((unhide EC).t (C8, hh, G + 1 + 1, 140) (by simp)).cells
  obtain ⟨k0, k1, k2⟩ := ((unhide EC).t (C13, hh, G + 1 + 1, 140) (by simp)).cells
  have HED := hide (unhide EC).e
  rcases hRC with rfl | rfl
  all_goals
    go_wp2_with fail
    refine (encodeDelta_spec hh (G + 1 + 1) 140 _).mono ?_
    rintro e w7 ⟨rfl, hb7⟩
    rw [(unhide X3').1, (unhide X3').2]
    have EF := hide ((unhide EC).next hb7)
    clear hb7 x0 x1 x2 f0 f1 f2 g0 g1 g2 t0 t1 t2 s0 s1 s2 k0 k1 k2
    obtain ⟨t0, t1, t2⟩ := ((unhide EF).t (C6 + 1, hh, G + 1 + 1, 140) (by simp)).cells
    obtain ⟨k0, k1, k2⟩ := ((unhide EF).t (C13, hh, G + 1 + 1, 140) (by simp)).cells
    go_wp2_with fail
    refine (deltaOK_impl hh (G + 1 + 1) 140 _).mono ?_
    rintro e w8 ⟨rfl, hb8⟩
    rw [unhide X3]
    have EG := hide ((unhide EF).next hb8).below
    clear hb8
    go_wp2
    go_ret
    exact ⟨rfl, unhide EG⟩

end Go.Proofs.YtlhinknmbgijeabDoor
