import Derived.Test.YtdfinapjgffjiaaGreatDoorRows
import Derived.Test.YtdfinapjgffjiaaGreatDoorPart1
import Derived.Test.YtdfinapjgffjiaaGreatDoorPart2
import Derived.Test.YtdfinapjgffjiaaGreatDoorPart3
import Derived.Test.YtdfinapjgffjiaaGreatDoorPart4
import Derived.Test.YtdfinapjgffjiaaGreatDoorPart5
import Derived.Test.YtdfinapjgffjiaaGreatDoorPart7
import Derived.Test.YtdfinapjgffjiaaGreatDoorPart8
import Derived.Test.YtdfinapjgffjiaaGreatDoorPart6
import Derived.WalkKit
import Derived.WalkSpells
import Derived.Deep.RegionWith
import Derived.Deep.CutRange
import Derived.KernelRfl
import Derived.Lib.SmallJoins
import Derived.Laws.BytesArg
import Derived.Laws.CopyRow
import Derived.Laws.CopyOwn
import Derived.Deep.RegionLaw
import Derived.Deep.AppendLies

/- Contract of the model's leaseDisk. -/
namespace Go.Proofs.YtdfinapjgffjiaaGreatDoor
open Go.RowKit
set_option linter.unusedVariables false
set_option maxRecDepth 100000

theorem drw_size {t : ByteArray} (h : Drw t) (hz : t.size ≤ maxLen) : Drw t ∧ t.size ≤ maxLen := ⟨h, hz⟩
theorem drw_leader {v o g : Int} (h1 : 0 ≤ v ∧ v ≤ 3) (h2 : -1 ≤ o ∧ o ≤ 3) (h3 : 0 ≤ g ∧ g ≤ 3) : Drw (encLd v o g) ∧ (encLd v o g).size ≤ maxLen := ⟨.inr (.inr ⟨6, [v, o + 1, g], rfl, by omega, by simp, by simp; omega⟩), by rw [encLd, sealS_size]; unfold maxLen; simp⟩
theorem drw_block {v m b i : Int} (h1 : 0 ≤ v ∧ v ≤ 2) (h2 : 0 ≤ m ∧ m ≤ 11) (h3 : 0 ≤ b ∧ b ≤ m) (h4 : 0 ≤ i ∧ i ≤ 8) : Drw (encBk v m b i) ∧ (encBk v m b i).size ≤ maxLen := ⟨.inr (.inr ⟨5, [v, m, b, i], rfl, by omega, by simp, by simp; omega⟩), by rw [encBk, sealS_size]; unfold maxLen; simp⟩
theorem LsD.below {W W' : World} {B pa qa : Nat} {po qo : Option Addr} {ss : List ByteArray} {xs : List Wr} (h : LsD W B po pa qo qa ss xs) (hb : Below W.heap.size W W') : LsD W' B po pa qo qa ss xs := ⟨h.s.below hb, h.i.below hb, h.t, fun e => (h.o e).below hb, h.l⟩
/-- Drawn, and not too great. -/
abbrev DrwZ (t : ByteArray) : Prop := Drw t ∧ t.size ≤ maxLen

set_option maxHeartbeats 3200000 in
theorem leaseDisk_k (b : Nat) (so : Option Addr) (n cap m : Nat) (w : World) (hm : m ≤ 300000) (hn : n ≤ 1048576) (hs : SrcK w b so n cap m) :
    Calls Tryz.prog 19 #[.pointer (some ⟨b, 0, none⟩)] w fun e w' => (∃ ss xs po pa qo qa, e = .returned (.agg #[.slice po ss.length pa, .slice qo xs.length qa]) ∧ LsD w' (w.heap.size + 1) po pa qo qa ss xs) ∧ Keep (fun k => k = b) w w' ∧ SrcK w' b so n cap (m + 3000) := by
  have HS := hide hs
  have hlt := hs.lt
  clear hs
  have HK0 : Hid (Keep (fun k => k = b ∨ w.heap.size ≤ k) w (w.alloc (.cells #[.slice none 0 0, .slice none 0 0] 26))) := hide (Keep.of_below (Joins.below_alloc1 _ _))
  have HS0 := hide ((unhide HS).below (Joins.below_alloc1 w (.cells #[.slice none 0 0, .slice none 0 0] 26)))
  have HR0 : Hid (VarD (w.alloc (.cells #[.slice none 0 0, .slice none 0 0] 26)) w.heap.size (.slice none 0 0) (.slice none 0 0)) := hide (heap_alloc_new w _)
  go_enter Tryz.func19, Tryz.ntmps19
  go_wp2_with fail
  refine (deltaDisk_k b so n cap m _ (by omega) hn (unhide HS0)).mono ?_
  rintro e w1 ⟨⟨ss0, xs0, po0, pa0, qo0, qa0, rfl, hL⟩, hk, hs1⟩
  have HL := hide hL
  have HR1 := hide ((unhide HR0).keep hk (by omega))
  have HK1 := hide ((unhide HK0).trans (hk.mono (fun k e => .inl e)))
  have HS1 := hide hs1
  have hz1 : w.heap.size < w1.heap.size := (unhide HR1).lt
  have hl0 := hL.l
  clear hL hk hs1
  by_cases h64 : ss0.length = 64
  · have D0 : Hid (DkO w (w1.alloc (.cells #[.slice po0 ss0.length pa0, .slice qo0 xs0.length qa0] 26)) b so n cap (m + 2000) w1.heap.size po0 pa0 qo0 qa0 ss0 xs0) := hide (by
      have hbA := Joins.below_alloc1 w1 (.cells #[.slice po0 ss0.length pa0, .slice qo0 xs0.length qa0] 26)
      exact ⟨VarD.new _ _ _, (((unhide HL).o h64).below hbA).base (by simp), (unhide HR1).below hbA, (unhide HK1).trans (Keep.of_below hbA), (unhide HS1).below hbA, hz1⟩)
    have HT0 : Hid (AllT DrwZ ss0 xs0) := hide ⟨fun s hs => ⟨(unhide HL).t.1 s hs, (unhide HL).s.sizes s hs⟩, fun x hx => ⟨(unhide HL).t.2 x hx, (unhide HL).i.sizes x hx⟩⟩
    have H64 := hide h64
    have hb64 : ((ss0.length : Int) != 64) = false := by rw [h64]; rfl
    clear h64 HL HR1 HK1 HS1 HK0 HS0 HR0
    go_wp2_with fail
    revert D0
    generalize w1.alloc (.cells #[.slice po0 ss0.length pa0, .slice qo0 xs0.length qa0] 26) = W1
    generalize hC : w1.heap.size = C at *
    clear hC
    intro D0
    refine (chance_k b so n cap (m + 2000) 2 _ (by omega) (by omega) (by omega) hn (unhide D0).s).mono ?_
    rintro e w2 ⟨q, rfl, hs2, hk2⟩
    have D1 := hide ((unhide D0).src hlt hs2 hk2)
    clear hs2 hk2 D0
    obtain ⟨v0, v1⟩ := (unhide D1).var.cells
    have hp0 : 0 < ss0.length := by have := unhide H64; omega
    cases q with
    | true =>
      go_wp2_with fail
      go_region_with (first
        | (go_at_call 48; refine (leader_k b so n cap (m + 2000 + 3) _ (by omega) hn ?_).mono ?_; exact (unhide D1).s.below ((Below.refl _ _).drew); rintro e wA ⟨lv, lo, lg, rfl, k1, k2, k3, hsA, hkA⟩; have DA := hide (((unhide D1).below ((Below.refl _ _).drew)).src hlt hsA hkA); obtain ⟨a0, a1⟩ := (unhide DA).var.cells; clear hsA hkA)
        | (go_at_call 45; refine (l06Encode_any lv lo lg _ (by omega) (by omega) (by omega)).mono ?_; rintro e wB ⟨rfl, hbB⟩; have DB := hide ((unhide DA).below hbB); have HDR := hide (drw_leader k1 k2 k3); obtain ⟨b0, b1⟩ := (unhide DB).var.cells; obtain ⟨g, xx, rfl, hgl, hgc, hgf, hgs⟩ := (unhide DB).cell (unhide HS) hp0; have HGS := hide hgs; clear hbB hgs))
      all_goals
        have D2 := hide ((unhide HGS (encLd lv lo lg)).more (m' := m + 2100) (by omega))
        have HT1 := hide ((unhide HT0).set (j := 0) (unhide HDR))
        have H65 : Hid ((ss0.set 0 (encLd lv lo lg)).length = 64) := hide (by rw [List.length_set]; exact unhide H64)
        clear HGS hgc hgf hgl a0 a1 b0 b1 v0 v1 DA DB D1 HDR HT0 H64 hb64 hp0
        revert D2 HT1 H65
        generalize wB.setCell ⟨g, 0, none⟩ (.string (encLd lv lo lg)) = W2
        generalize ss0.set 0 (encLd lv lo lg) = ss1
        intro D2 HT1 H65
        go_wp2
        go_loopw [4] (fun i wr => ∃ (j : Nat) (ss : List ByteArray) (po : Option Addr) (pa : Nat), j ≤ 4 ∧ i = .int .i64 j ∧ Hid (ss.length = 64) ∧ Hid (AllT DrwZ ss xs0) ∧ Hid (DkO w wr b so n cap (m + 2100 + 30 * j) C po pa qo0 qa0 ss xs0)) (fun i _ => 4 - (intOf i).toNat)
        case atStart => exact ⟨0, ss1, _, _, by omega, rfl, H65, HT1, hide ((unhide D2).more (by omega))⟩
        case round =>
          clear H65 HT1 D2
          obtain ⟨j, ss, po, pa, hj4, rfl, H6, HT, HD⟩ := hrel
          obtain ⟨v0, v1⟩ := (unhide HD).var.cells
          by_cases hj : j < 4
          · have hji : (j : Int) < 4 := by omega
            go_wp2_with fail
            refine (chance_k b so n cap _ 3 _ (by omega) (by omega) (by omega) hn (unhide HD).s).mono ?_
            rintro e w3 ⟨qc, rfl, hs3, hk3⟩
            have D3 := hide ((unhide HD).src hlt hs3 hk3)
            clear hs3 hk3 v0 v1 HD
            obtain ⟨v0, v1⟩ := (unhide D3).var.cells
            cases qc with
            | true =>
              have hjs : j + 1 < ss.length := by have := unhide H6; omega
              have hjs2 : (1 : Int) + j < ss.length := by omega
              have wr1 : IntKind.i64.wrap (1 + (j : Int)) = 1 + j := by rw [IntKind.wrap_i64]; omega
              have htn : (1 + (j : Int)).toNat = j + 1 := by omega
              go_wp2_with fail
              go_region_with (first
                | (go_at_call 50; refine (block_k b so n cap (m + 2100 + 30 * j + 3) _ (by omega) hn ?_).mono ?_; exact (unhide D3).s.below ((Below.refl _ _).drew); rintro e wA ⟨bv, bm, bb, bi, rfl, k1, k2, k3, k4, k5, hsA, hkA⟩; have DA := hide (((unhide D3).below ((Below.refl _ _).drew)).src hlt hsA hkA); obtain ⟨a0, a1⟩ := (unhide DA).var.cells; clear hsA hkA k5)
                | (go_at_call 49; refine (l05Encode_any bv bm bb bi _ (by omega) (by omega) (by omega) (by omega)).mono ?_; rintro e wB ⟨rfl, hbB⟩; have DB := hide ((unhide DA).below hbB); have HDR := hide (drw_block k1 k2 k3 k4); obtain ⟨b0, b1⟩ := (unhide DB).var.cells; obtain ⟨g, xx, rfl, hgl, hgc, hgf, hgs⟩ := (unhide DB).cell (unhide HS) hjs; have HGS := hide hgs; clear hbB hgs))
              all_goals
                have D4 := hide ((unhide HGS (encBk bv bm bb bi)).more (m' := m + 2100 + 30 * (j + 1)) (by omega))
                have HT4 := hide ((unhide HT).set (j := j + 1) (unhide HDR))
                have H64' : Hid ((ss.set (j + 1) (encBk bv bm bb bi)).length = 64) := hide (by rw [List.length_set]; exact unhide H6)
                clear HGS hgc hgf hgl a0 a1 b0 b1 v0 v1 DA DB D3 HDR HT H6
                revert D4 HT4 H64'
                generalize wB.setCell ⟨g, j + 1, none⟩ (.string (encBk bv bm bb bi)) = W4
                generalize ss.set (j + 1) (encBk bv bm bb bi) = ss4
                intro D4 HT4 H64'
                go_wp2
                go_roundw
                case rel => exact ⟨j + 1, ss4, _, _, by omega, by go_num, H64', HT4, D4⟩
                case measure => simp [intOf]; omega
            | false =>
              go_wp2
              go_roundw
              case rel => exact ⟨j + 1, ss, _, _, by omega, by go_num, H6, HT, hide ((unhide D3).more (by omega))⟩
              case measure => simp [intOf]; omega
          · have hji : ¬ (j : Int) < 4 := by omega
            obtain ⟨r0, r1⟩ := (unhide HD).r.cells
            have r2 := (unhide HD).r.free 0
            have r3 := (unhide HD).r.free 1
            have HE := hide (fun u v => (unhide HD).ret (unhide HS) u v)
            go_wp2
            exact bodyPost_ret (v := .agg #[.slice po ss.length pa, .slice qo0 xs0.length qa0]) (by simp [results, Tryz.results19, go_sem, r0, r1]) rfl ⟨⟨ss, xs0, _, _, _, _, rfl, LsD.of (unhide HE _ _).2.2 ((unhide HT).mono (fun t h => h.1)) ((unhide HT).sizes (fun t h => h.2)) ⟨by have := unhide H6; omega, hl0.2⟩⟩, (unhide HE _ _).2.1, (unhide HE _ _).1.more (by omega)⟩
    | false =>
      have D2 := hide ((unhide D1).more (m' := m + 2100) (by omega))
      have HT1 := HT0
      have H65 := H64
      clear v0 v1 D1 HT0 H64 hb64 hp0
      revert D2 HT1 H65
      generalize w2 = W2
      generalize ss0 = ss1
      intro D2 HT1 H65
      go_wp2
      go_loopw [4] (fun i wr => ∃ (j : Nat) (ss : List ByteArray) (po : Option Addr) (pa : Nat), j ≤ 4 ∧ i = .int .i64 j ∧ Hid (ss.length = 64) ∧ Hid (AllT DrwZ ss xs0) ∧ Hid (DkO w wr b so n cap (m + 2100 + 30 * j) C po pa qo0 qa0 ss xs0)) (fun i _ => 4 - (intOf i).toNat)
      case atStart => exact ⟨0, ss1, _, _, by omega, rfl, H65, HT1, hide ((unhide D2).more (by omega))⟩
      case round =>
        clear H65 HT1 D2
        obtain ⟨j, ss, po, pa, hj4, rfl, H6, HT, HD⟩ := hrel
        obtain ⟨v0, v1⟩ := (unhide HD).var.cells
        by_cases hj : j < 4
        · have hji : (j : Int) < 4 := by omega
          go_wp2_with fail
          refine (chance_k b so n cap _ 3 _ (by omega) (by omega) (by omega) hn (unhide HD).s).mono ?_
          rintro e w3 ⟨qc, rfl, hs3, hk3⟩
          have D3 := hide ((unhide HD).src hlt hs3 hk3)
          clear hs3 hk3 v0 v1 HD
          obtain ⟨v0, v1⟩ := (unhide D3).var.cells
          cases qc with
          | true =>
            have hjs : j + 1 < ss.length := by have := unhide H6; omega
            have hjs2 : (1 : Int) + j < ss.length := by omega
            have wr1 : IntKind.i64.wrap (1 + (j : Int)) = 1 + j := by rw [IntKind.wrap_i64]; omega
            have htn : (1 + (j : Int)).toNat = j + 1 := by omega
            go_wp2_with fail
            go_region_with (first
              | (go_at_call 50; refine (block_k b so n cap (m + 2100 + 30 * j + 3) _ (by omega) hn ?_).mono ?_; exact (unhide D3).s.below ((Below.refl _ _).drew); rintro e wA ⟨bv, bm, bb, bi, rfl, k1, k2, k3, k4, k5, hsA, hkA⟩; have DA := hide (((unhide D3).below ((Below.refl _ _).drew)).src hlt hsA hkA); obtain ⟨a0, a1⟩ := (unhide DA).var.cells; clear hsA hkA k5)
              | (go_at_call 49; refine (l05Encode_any bv bm bb bi _ (by omega) (by omega) (by omega) (by omega)).mono ?_; rintro e wB ⟨rfl, hbB⟩; have DB := hide ((unhide DA).below hbB); have HDR := hide (drw_block k1 k2 k3 k4); obtain ⟨b0, b1⟩ := (unhide DB).var.cells; obtain ⟨g, xx, rfl, hgl, hgc, hgf, hgs⟩ := (unhide DB).cell (unhide HS) hjs; have HGS := hide hgs; clear hbB hgs))
            all_goals
              have D4 := hide ((unhide HGS (encBk bv bm bb bi)).more (m' := m + 2100 + 30 * (j + 1)) (by omega))
              have HT4 := hide ((unhide HT).set (j := j + 1) (unhide HDR))
              have H64' : Hid ((ss.set (j + 1) (encBk bv bm bb bi)).length = 64) := hide (by rw [List.length_set]; exact unhide H6)
              clear HGS hgc hgf hgl a0 a1 b0 b1 v0 v1 DA DB D3 HDR HT H6
              revert D4 HT4 H64'
              generalize wB.setCell ⟨g, j + 1, none⟩ (.string (encBk bv bm bb bi)) = W4
              generalize ss.set (j + 1) (encBk bv bm bb bi) = ss4
              intro D4 HT4 H64'
              go_wp2
              go_roundw
              case rel => exact ⟨j + 1, ss4, _, _, by omega, by go_num, H64', HT4, D4⟩
              case measure => simp [intOf]; omega
          | false =>
            go_wp2
            go_roundw
            case rel => exact ⟨j + 1, ss, _, _, by omega, by go_num, H6, HT, hide ((unhide D3).more (by omega))⟩
            case measure => simp [intOf]; omega
        · have hji : ¬ (j : Int) < 4 := by omega
          obtain ⟨r0, r1⟩ := (unhide HD).r.cells
          have r2 := (unhide HD).r.free 0
          have r3 := (unhide HD).r.free 1
          have HE := hide (fun u v => (unhide HD).ret (unhide HS) u v)
          go_wp2
          exact bodyPost_ret (v := .agg #[.slice po ss.length pa, .slice qo0 xs0.length qa0]) (by simp [results, Tryz.results19, go_sem, r0, r1]) rfl ⟨⟨ss, xs0, _, _, _, _, rfl, LsD.of (unhide HE _ _).2.2 ((unhide HT).mono (fun t h => h.1)) ((unhide HT).sizes (fun t h => h.2)) ⟨by have := unhide H6; omega, hl0.2⟩⟩, (unhide HE _ _).2.1, (unhide HE _ _).1.more (by omega)⟩
  · have hb64 : ((ss0.length : Int) != 64) = true := by simp only [bne_iff_ne, ne_eq]; omega
    have HL2 := hide (LsD.ret ((unhide HL).base (B' := w.heap.size + 1) (by simp)) (unhide HR1) (Nat.lt_succ_self _))
    obtain ⟨r0, r1⟩ := (unhide HR1).cells
    have r2 := (unhide HR1).free 0
    have r3 := (unhide HR1).free 1
    clear h64
    go_wp2
    have hK := (unhide HK1).trans ((unhide HL2).2.mono (fun k e => .inr (by omega)))
    have hbA := Joins.below_alloc1 ((w1.setCell ⟨w.heap.size, 0, none⟩ (.slice po0 ss0.length pa0)).setCell ⟨w.heap.size, 1, none⟩ (.slice qo0 xs0.length qa0)) (.cells #[.slice po0 ss0.length pa0, .slice qo0 xs0.length qa0] 26)
    exact bodyPost_ret (v := .agg #[.slice po0 ss0.length pa0, .slice qo0 xs0.length qa0]) (by simp [results, Tryz.results19, go_sem, r0, r1, hz1]) rfl ⟨⟨ss0, xs0, _, _, _, _, rfl, (unhide HL2).1.below hbA⟩, (keep_drop hK).trans (Keep.of_below hbA), (((unhide HS).other (unhide HS1) (keep_drop hK) (unhide HL2).2 (by omega)).more (by omega)).below hbA⟩

end Go.Proofs.YtdfinapjgffjiaaGreatDoor

/- Contract of spec.LeaseDisk. -/
namespace Go.Proofs.YtdfinapjgffjiaaGreatDoor
open Go.RowKit
set_option linter.unusedVariables false
set_option maxRecDepth 100000

theorem right_none {ss : List ByteArray} {xs : List Wr} (h : diskB ss xs = true) : diskB ss [] = true := diskB_parts.2 ⟨(diskB_parts.1 h).1, by simp, fun x hx => by cases hx⟩
theorem row_ss {W : World} {B pa : Nat} {po : Option Addr} {ss : List ByteArray} (h : OwnR W B 9 1 (.slice po ss.length pa) ss.length (strV ss)) (hz : ∀ s ∈ ss, s.size ≤ maxLen) : Ss W po ss :=
  OwnD.ss (xs := []) (bo := none) (m := 0) (cb := 0) ⟨h, .inl ⟨rfl, rfl, none, rfl⟩⟩ hz

set_option maxHeartbeats 3200000 in
theorem leaseDisk_any (so : Option Addr) (n cap : Nat) (w : World) (hn : n ≤ 1048576) (hB : Bs w so n) :
    Calls Tryz.prog 5 #[.slice so n cap] w fun e w' => ∃ ss po pa qo qa, e = .returned (.agg #[.slice po ss.length pa, .slice qo 0 qa]) ∧ diskB ss [] = true ∧ (∀ s ∈ ss, Drw s) ∧ Ss w' po ss ∧ Below w.heap.size w w' := by
  have HB0 := hide (hB.below (Joins.below_alloc1 w (.cells #[.slice none 0 0, .slice none 0 0] 26)))
  have HW0 := hide (Joins.below_alloc1 w (.cells #[.slice none 0 0, .slice none 0 0] 26))
  have HR0 : Hid (VarD (w.alloc (.cells #[.slice none 0 0, .slice none 0 0] 26)) w.heap.size (.slice none 0 0) (.slice none 0 0)) := hide (heap_alloc_new w _)
  clear hB
  go_enter Tryz.func5, Tryz.ntmps5
  go_wp2_with fail
  refine (source_any so n cap _ hn (unhide HB0)).mono ?_
  rintro e w1 ⟨rfl, hs1, hb1, hz⟩
  have HR1 := hide ((unhide HR0).below hb1)
  have HW1 := hide (fr (unhide HW0) hb1)
  simp only [World.size_alloc] at hs1
  have hz1 : w1.heap.size = w.heap.size + 2 := by rw [hz]; simp
  clear hb1 hz
  go_wp2_with fail
  refine (leaseDisk_k _ so n cap 0 _ (by omega) hn hs1).mono ?_
  rintro e w2 ⟨⟨ss, xs, po, pa, qo, qa, rfl, hL⟩, hk, _⟩
  have HR2 := hide ((unhide HR1).keep hk (by omega))
  have HW2 := hide ((unhide HW1).trans (hk.below (B := w.heap.size) (by omega) (fun k hk => by rw [hk]; simp)))
  have HL := hide hL
  have hz2 : w.heap.size < w2.heap.size := (unhide HR2).lt
  have hl1 := hL.l.1
  have hl2 := hL.l.2
  clear hk hs1 hL HR0 HR1 HW0 HW1 HB0
  have hA2 := Joins.below_alloc1 w2 (.cells #[.slice po ss.length pa, .slice qo xs.length qa] 26)
  have HRA := hide ((unhide HR2).below hA2)
  have HWA := hide (fr (unhide HW2) hA2)
  have HLA := hide ((unhide HL).below hA2)
  have HVA := hide (VarD.new w2 (.slice po ss.length pa) (.slice qo xs.length qa))
  clear hA2
  by_cases h64 : ss.length = 64
  · have hb64 : ((ss.length : Int) != 64) = false := by rw [h64]; rfl
    have HM1 : Hid (ss.length ≤ maxLen) := hide (by unfold maxLen; omega)
    have HM2 : Hid (xs.length ≤ maxLen) := hide (by unfold maxLen; omega)
    have H64 := hide h64
    clear h64
    go_wp2_with fail
    refine (diskOK_spec po qo pa qa ss xs _ (unhide HM1) (unhide HM2) (unhide HLA).s (unhide HLA).i).mono ?_
    rintro e w3 ⟨rfl, hb3⟩
    have HR3 := hide ((unhide HRA).below hb3)
    have HW3 := hide (fr (unhide HWA) hb3)
    have HL3 := hide ((unhide HLA).below hb3)
    have HV3 := hide ((unhide HVA).below hb3)
    clear hb3
    cases hd : diskB ss xs with
    | true =>
      obtain ⟨v0, v1⟩ := (unhide HV3).cells
      go_wp2_with fail
      refine (l01Own_any po qo pa qa ss xs _ (by omega) (by omega) (unhide HL3).s (unhide HL3).i).mono ?_
      rintro e w4 ⟨po4, pa4, qo4, qa4, rfl, ho, hb4⟩
      have HR4 := hide ((unhide HR3).below hb4)
      have HW4 := hide (fr (unhide HW3) hb4)
      have HV4 := hide ((unhide HV3).below hb4)
      have HO4 := hide ho
      have hz4 := hb4.size
      clear ho hb4 v0 v1
      obtain ⟨v0, v1⟩ := (unhide HV4).cells
      have v2 := (unhide HV4).free 0
      have v3 := (unhide HV4).free 1
      obtain ⟨r0, r1⟩ := (unhide HR4).cells
      have r2 := (unhide HR4).free 0
      have r3 := (unhide HR4).free 1
      have n1 : w2.heap.size ≠ w.heap.size := by omega
      have n2 : w.heap.size ≠ w2.heap.size := by omega
      go_upto_region 5 with fail
      have hk : Keep (fun j => j = w2.heap.size) w4 ((w4.setCell ⟨w2.heap.size, 0, none⟩ (.slice po4 ss.length pa4)).setCell ⟨w2.heap.size, 1, none⟩ (.slice qo4 xs.length qa4)) := ((Keep.refl (fun j => j = w2.heap.size) w4).setCell (p := ⟨w2.heap.size, 0, none⟩) rfl _).setCell (p := ⟨w2.heap.size, 1, none⟩) rfl _
      have HV5 := hide (((unhide HV4).set0 (.slice po4 ss.length pa4)).set1 (.slice qo4 xs.length qa4))
      have HR5 := hide ((unhide HR4).keep hk (by omega))
      have HO5 := hide ((unhide HO4).s.keep hk (fun g hg e => (unhide HO4).s.other (unhide HV4) (by decide) (e ▸ hg)))
      have HW5 : Hid (Below w.heap.size w ((w4.setCell ⟨w2.heap.size, 0, none⟩ (.slice po4 ss.length pa4)).setCell ⟨w2.heap.size, 1, none⟩ (.slice qo4 xs.length qa4))) := hide (((unhide HW4).setCell (p := ⟨w2.heap.size, 0, none⟩) (Nat.le_of_lt hz2) _).setCell (p := ⟨w2.heap.size, 1, none⟩) (Nat.le_of_lt hz2) _)
      have hz3 : w2.heap.size < w3.heap.size := (unhide HV3).lt
      clear hk v0 v1 v2 v3 r0 r1 r2 r3 HV4 HR4 HO4 HW4 hz4
      revert HV5 HR5 HO5 HW5
      generalize (w4.setCell ⟨w2.heap.size, 0, none⟩ (.slice po4 ss.length pa4)).setCell ⟨w2.heap.size, 1, none⟩ (.slice qo4 xs.length qa4) = W5
      intro HV5 HR5 HO5 HW5
      obtain ⟨v0, v1⟩ := (unhide HV5).cells
      have v2 := (unhide HV5).free 0
      have v3 := (unhide HV5).free 1
      obtain ⟨r0, r1⟩ := (unhide HR5).cells
      have r2 := (unhide HR5).free 0
      have r3 := (unhide HR5).free 1
      have hC5 : w2.heap.size < W5.heap.size := (unhide HV5).lt
      have hR5 : w.heap.size < W5.heap.size := (unhide HR5).lt
      have HF := hide (fun (a u v : Value) => And.intro ((((unhide HO5).setCell (a := ⟨w2.heap.size, 1, none⟩) hz3 a).setCell (a := ⟨w.heap.size, 0, none⟩) (show w.heap.size < w3.heap.size by omega) u).setCell (a := ⟨w.heap.size, 1, none⟩) (show w.heap.size < w3.heap.size by omega) v) ((((unhide HW5).setCell (p := ⟨w2.heap.size, 1, none⟩) (Nat.le_of_lt hz2) a).setCell (p := ⟨w.heap.size, 0, none⟩) (Nat.le_refl _) u).setCell (p := ⟨w.heap.size, 1, none⟩) (Nat.le_refl _) v))
      go_wp2
      obtain ⟨f1, f2⟩ := unhide HF (.slice (some ⟨W5.heap.size, 0, none⟩) 0 0) (.slice po4 ss.length pa4) (.slice (some ⟨W5.heap.size, 0, none⟩) 0 0)
      exact bodyPost_ret (v := .agg #[.slice po4 ss.length pa4, .slice (some ⟨W5.heap.size, 0, none⟩) 0 0]) (by simp [results, Tryz.results5, go_sem, r0, r1, hR5]) rfl ⟨ss, po4, pa4, _, _, rfl, right_none hd, (unhide HL).t.1, (row_ss f1 (right_ss hd)).below (Joins.below_alloc1 _ _), fr f2 (Joins.below_alloc1 _ _)⟩
    | false =>
      go_wp2_with fail
      refine (l01New_any _).mono ?_
      rintro e w4 ⟨g, k, rfl, ho, hb4⟩
      have HR4 := hide ((unhide HR3).below hb4)
      have HW4 := hide (fr (unhide HW3) hb4)
      have HO4 := hide ho
      clear ho hb4
      obtain ⟨r0, r1⟩ := (unhide HR4).cells
      have r2 := (unhide HR4).free 0
      have r3 := (unhide HR4).free 1
      obtain ⟨hdv, hkr⟩ := DV.store (ca := 64) (cb := 0) (unhide HR4) ((unhide HO4).ss (right_ss new_right)) ((unhide HO4).ios (right_xs new_right))
      rw [noSs_len] at hdv
      have HDV := hide hdv.s
      have HWF := hide (((unhide HW4).setCell (p := ⟨w.heap.size, 0, none⟩) (Nat.le_refl _) (.slice (some ⟨g, 0, none⟩) 64 64)).setCell (p := ⟨w.heap.size, 1, none⟩) (Nat.le_refl _) (.slice (some ⟨k, 0, none⟩) 0 0))
      clear hdv hkr
      go_wp2
      exact bodyPost_ret (v := .agg #[.slice (some ⟨g, 0, none⟩) 64 64, .slice (some ⟨k, 0, none⟩) 0 0]) (by simp [results, Tryz.results5, go_sem, r0, r1]) rfl ⟨noSs, some ⟨g, 0, none⟩, 64, some ⟨k, 0, none⟩, 0, by rw [noSs_len], new_right, fun s hs => (AllT.new (P := Drw) (drw_short (Nat.zero_le _))).1 s hs, unhide HDV, unhide HWF⟩
  · have hb64 : ((ss.length : Int) != 64) = true := by simp only [bne_iff_ne, ne_eq]; omega
    clear h64
    go_wp2_with fail
    refine (l01New_any _).mono ?_
    rintro e w4 ⟨g, k, rfl, ho, hb4⟩
    have HR4 := hide ((unhide HRA).below hb4)
    have HW4 := hide (fr (unhide HWA) hb4)
    have HO4 := hide ho
    clear ho hb4
    obtain ⟨r0, r1⟩ := (unhide HR4).cells
    have r2 := (unhide HR4).free 0
    have r3 := (unhide HR4).free 1
    obtain ⟨hdv, hkr⟩ := DV.store (ca := 64) (cb := 0) (unhide HR4) ((unhide HO4).ss (right_ss new_right)) ((unhide HO4).ios (right_xs new_right))
    rw [noSs_len] at hdv
    have HDV := hide hdv.s
    have HWF := hide (((unhide HW4).setCell (p := ⟨w.heap.size, 0, none⟩) (Nat.le_refl _) (.slice (some ⟨g, 0, none⟩) 64 64)).setCell (p := ⟨w.heap.size, 1, none⟩) (Nat.le_refl _) (.slice (some ⟨k, 0, none⟩) 0 0))
    clear hdv hkr
    go_wp2
    exact bodyPost_ret (v := .agg #[.slice (some ⟨g, 0, none⟩) 64 64, .slice (some ⟨k, 0, none⟩) 0 0]) (by simp [results, Tryz.results5, go_sem, r0, r1]) rfl ⟨noSs, some ⟨g, 0, none⟩, 64, some ⟨k, 0, none⟩, 0, by rw [noSs_len], new_right, fun s hs => (AllT.new (P := Drw) (drw_short (Nat.zero_le _))).1 s hs, unhide HDV, unhide HWF⟩

end Go.Proofs.YtdfinapjgffjiaaGreatDoor

/- Plain words of the leader: what a right one is, its text, what a text says. -/
namespace Go.Proofs.YtdfinapjgffjiaaGreatDoor
open Go.RowKit
set_option linter.unusedVariables false

structure Ld where
  ver : Int
  own : Int
  gen : Int
theorem Ld.eq_iff {x y : Ld} : x = y ↔ x.ver = y.ver ∧ x.own = y.own ∧ x.gen = y.gen := by
  cases x; cases y; simp
abbrev lV (x : Ld) : Value := .agg #[.int .i64 x.ver, .int .i64 x.own, .int .i64 x.gen]
def ld0 : Ld := ⟨0, 0, 0⟩
def ldN (v : Int) : Ld := ⟨v, -1, 0⟩
def ldB (x : Ld) : Bool := inB x.ver 0 1000000 && ((decide (x.own = -1) && decide (x.gen = 0)) || (decide (0 < x.ver) && (inB x.own 0 3 && inB x.gen 1 1000000)))
theorem ldB_iff {x : Ld} : ldB x = true ↔ (0 ≤ x.ver ∧ x.ver ≤ 1000000) ∧ ((x.own = -1 ∧ x.gen = 0) ∨ (0 < x.ver ∧ (0 ≤ x.own ∧ x.own ≤ 3) ∧ 1 ≤ x.gen ∧ x.gen ≤ 1000000)) := by
  simp only [ldB, inB, Bool.and_eq_true, Bool.or_eq_true, decide_eq_true_eq]
theorem ldB_lo {x : Ld} (h : ldB x = true) : (0 ≤ x.ver ∧ x.ver ≤ 1000000) ∧ (-1 ≤ x.own ∧ x.own ≤ 3) ∧ 0 ≤ x.gen ∧ x.gen ≤ 1000000 := by
  obtain ⟨h1, h2⟩ := ldB_iff.1 h
  omega
theorem ldB_N (v : Int) (h0 : 0 ≤ v) (h1 : v ≤ 1000000) : ldB (ldN v) = true := ldB_iff.2 ⟨⟨h0, h1⟩, .inl ⟨rfl, rfl⟩⟩
/-- Its text. -/
def encL (x : Ld) : ByteArray := sealS 6 [x.ver, x.own + 1, x.gen]
theorem encL_size (x : Ld) : (encL x).size = 16 := by rw [encL, sealS_size]; rfl
def elC (x : Ld) : Int := if ldB x = true then 0 else 1
def elR (x : Ld) : ByteArray := if ldB x = true then encL x else ⟨#[]⟩
/-- What a text says. -/
def ldL (t : ByteArray) : List Int := openL t 6
def ld3 (l : List Int) : Ld := ⟨l.getD 0 0, l.getD 1 0 - 1, l.getD 2 0⟩
def ldD (t : ByteArray) : Bool := openB t 6 && (decide ((ldL t).length = 3) && ldB (ld3 (ldL t)))
def ldK (t : ByteArray) : Ld := if ldD t = true then ld3 (ldL t) else ldN 0
theorem ldD_open {t : ByteArray} (h : openB t 6 = false) : ldD t = false := by simp [ldD, h]
theorem ldD_len {t : ByteArray} (h : ¬ (ldL t).length = 3) : ldD t = false := by simp [ldD, h]
theorem ldD_at {t : ByteArray} {a b c : Int} (h : openB t 6 = true) (hl : ldL t = [a, b, c]) : ldD t = ldB ⟨a, b - 1, c⟩ := by
  have e : ld3 (ldL t) = ⟨a, b - 1, c⟩ := by rw [hl]; rfl
  simp [ldD, h, e]
  rw [hl]; simp
theorem ld_no {t : ByteArray} (h : ldD t = false) : ldK t = ldN 0 := by simp [ldK, h]
theorem ld_yes {t : ByteArray} {a b c : Int} (h : ldD t = true) (hl : ldL t = [a, b, c]) : ldK t = ⟨a, b - 1, c⟩ := by rw [ldK, if_pos h, hl]; rfl
theorem ld_right (t : ByteArray) : ldB (ldK t) = true := by
  by_cases h : ldD t = true
  · have h' := h
    simp only [ldD, Bool.and_eq_true, decide_eq_true_eq] at h'
    rw [ldK, if_pos h]; exact h'.2.2
  · rw [Bool.not_eq_true] at h
    rw [ld_no h]; exact ldB_N 0 (by decide) (by decide)
/-- What DecodeLeader answers. -/
def lcC (t : ByteArray) : Int := if 65536 < t.size then 2 else if ldD t = true then 0 else 3
def lcK (t : ByteArray) : Ld := if 65536 < t.size then ld0 else if ldD t = true then ldK t else ld0
theorem lc_long {t : ByteArray} (h : 65536 < t.size) : lcK t = ld0 ∧ lcC t = 2 := ⟨if_pos h, if_pos h⟩
theorem lc_no {t : ByteArray} (h : ¬ 65536 < t.size) (hd : ldD t = false) : lcK t = ld0 ∧ lcC t = 3 := ⟨(if_neg h).trans (if_neg (by simp [hd])), (if_neg h).trans (if_neg (by simp [hd]))⟩
theorem lc_yes {t : ByteArray} (h : ¬ 65536 < t.size) (hd : ldD t = true) : lcK t = ldK t ∧ lcC t = 0 := ⟨(if_neg h).trans (if_pos hd), (if_neg h).trans (if_pos hd)⟩
theorem ret_li {a b : Ld} {x y : Int} (h : a = b) (k : x = y) : Ending.returned (.tuple #[lV a, .int .i64 x]) = .returned (.tuple #[lV b, .int .i64 y]) := by rw [h, k]
theorem ret_lb {a b : Ld} {x y : Bool} (h : a = b) (k : x = y) : Ending.returned (.tuple #[lV a, .bool x]) = .returned (.tuple #[lV b, .bool y]) := by rw [h, k]
theorem ret_sl {a b : ByteArray} {c d : Int} (h : a = b) (k : c = d) : Ending.returned (.tuple #[.string a, .int .i64 c]) = .returned (.tuple #[.string b, .int .i64 d]) := by rw [h, k]
/-- One in a variable. -/
abbrev VarL (w : World) (x : Nat) (t : TypeId) (a : Ld) : Prop := VarT w x t a.ver a.own a.gen

theorem l3_nums {x : Ld} (hd : ldB x = true) : ∀ j (hj : j < [x.ver, x.own + 1, x.gen].length), 0 ≤ [x.ver, x.own + 1, x.gen][j] ∧ [x.ver, x.own + 1, x.gen][j] ≤ 2147483647 := by
  obtain ⟨h1, h2, h3⟩ := ldB_lo hd
  intro j hj
  have hj' : j < 3 := hj
  rcases (show j = 0 ∨ j = 1 ∨ j = 2 by omega) with rfl | rfl | rfl <;> simp <;> omega
theorem l3_ints {x : Ld} (hd : ldB x = true) : intsB [x.ver, x.own + 1, x.gen] = true := by
  obtain ⟨h1, h2, h3⟩ := ldB_lo hd
  rw [intsB_len]
  · rfl
  · intro j hj
    have hj' : j < 3 := hj
    rcases (show j = 0 ∨ j = 1 ∨ j = 2 by omega) with rfl | rfl | rfl <;> simp [numB, inB] <;> omega
theorem l3_seal {x : Ld} (hd : ldB x = true) : sealC 6 [x.ver, x.own + 1, x.gen] = 0 ∧ sealT 6 [x.ver, x.own + 1, x.gen] = encL x := by
  have hc : sealC 6 [x.ver, x.own + 1, x.gen] = 0 := sealC_ok (listC_ok (by simp) (l3_ints hd)) rfl
  exact ⟨hc, sealT_ok hc⟩
/-- The numbers of a text are numbers. -/
theorem open_nums {t : ByteArray} {k : Int} (h : openB t k = true) : ∀ x ∈ openL t k, 0 ≤ x ∧ x ≤ 2147483647 := by
  intro x hx
  rw [openL_yes h] at hx
  simp only [openB, Bool.and_eq_true] at h
  obtain ⟨_, _, _, _, _, hu⟩ := recB_iff.1 h.1
  obtain ⟨j, hj, rfl⟩ := List.mem_iff_getElem.1 hx
  exact (intsB_parts (okU_parts hu).2.2).1 j hj
theorem open_mid {t : ByteArray} {a b c : Int} (h : openB t 6 = true) (hl : ldL t = [a, b, c]) : IntKind.i64.wrap (b - 1) = b - 1 := by
  have := open_nums h b (by rw [show openL t 6 = [a, b, c] from hl]; simp)
  rw [IntKind.wrap_i64]; omega
end Go.Proofs.YtdfinapjgffjiaaGreatDoor

/- Plain words of the clocks, and contracts of their tests: within, hourOK, configInBounds, l01In, l03Bounds. -/
namespace Go.Proofs.YtdfinapjgffjiaaGreatDoor
open Go.RowKit
set_option linter.unusedVariables false
set_option maxRecDepth 100000

theorem hidB {p : Prop} (h : p) : Hid p := h
theorem frB {a b c : World} (h : Below a.heap.size a b) (k : Below b.heap.size b c) : Below a.heap.size a c := h.trans (k.mono h.size)
/-- A number within bounds. -/
def betw (n low high : Int) : Bool := decide (low ≤ n) && decide (n ≤ high)
theorem betw_yes {n low high : Int} (h : low ≤ n) (h' : n ≤ high) : betw n low high = true := by simp [betw, h, h']
theorem betw_no {n low high : Int} (h : ¬ (low ≤ n ∧ n ≤ high)) : betw n low high = false := by simp only [betw, Bool.and_eq_false_iff, decide_eq_false_iff_not]; omega
theorem betw_iff {n low high : Int} : betw n low high = true ↔ low ≤ n ∧ n ≤ high := by simp [betw]
/-- A configuration within its bounds. -/
def cfgB (f d l r : Int) : Bool := betw f 1 10000 && betw d 1 100000 && betw l 0 1000 && betw r 0 500
theorem cfgB_iff {f d l r : Int} : cfgB f d l r = true ↔ (1 ≤ f ∧ f ≤ 10000) ∧ (1 ≤ d ∧ d ≤ 100000) ∧ (0 ≤ l ∧ l ≤ 1000) ∧ 0 ≤ r ∧ r ≤ 500 := by
  simp only [cfgB, Bool.and_eq_true, betw_iff, and_assoc]
/-- The bounds of true time. -/
def latQ (r x : Int) : Int := ((x + 1) * 1000 + 999 - r) / (1000 - r)
def earQ (r x : Int) : Int := (x - 1) * 1000 / (1000 + r)
def locQ (o r t : Int) : Int := o + t * (1000 + r) / 1000
abbrev cfgV (f d l r : Int) : Value := .agg #[.int .i64 f, .int .i64 d, .int .i64 l, .int .i64 r]
abbrev clkV (o r : Int) : Value := .agg #[.int .i64 o, .int .i64 r]

/-- A configuration in a variable. -/
abbrev Four (w : World) (b : Nat) (f d l r : Int) : Prop := w.cell? ⟨b, 0, none⟩ = some (.int .i64 f) ∧ w.cell? ⟨b, 1, none⟩ = some (.int .i64 d) ∧ w.cell? ⟨b, 2, none⟩ = some (.int .i64 l) ∧ w.cell? ⟨b, 3, none⟩ = some (.int .i64 r)
theorem Four.below {w w' : World} {b : Nat} {f d l r : Int} (h : Four w b f d l r) (hb : Below w.heap.size w w') : Four w' b f d l r :=
  ⟨(hb.cell (World.block_lt_of_cell? _ _ h.1)).trans h.1, (hb.cell (World.block_lt_of_cell? _ _ h.2.1)).trans h.2.1, (hb.cell (World.block_lt_of_cell? _ _ h.2.2.1)).trans h.2.2.1, (hb.cell (World.block_lt_of_cell? _ _ h.2.2.2)).trans h.2.2.2⟩
set_option maxHeartbeats 800000 in
theorem within_any (n low high : Int) (w : World) : Calls Tryz.prog 39 #[.int .i64 n, .int .i64 low, .int .i64 high] w fun e w' => e = .returned (.bool (betw n low high)) ∧ w' = w := by
  by_cases h1 : low ≤ n
  · by_cases h2 : n ≤ high
    · have hr := hidB (betw_yes h1 h2)
      go_enter Tryz.func39, Tryz.ntmps39
      go_wp2
      go_ret
      rw [show betw n low high = true from hr]
      exact ⟨rfl, rfl⟩
    · have hr := hidB (betw_no (n := n) (low := low) (high := high) (by omega))
      go_enter Tryz.func39, Tryz.ntmps39
      go_wp2
      go_ret
      rw [show betw n low high = false from hr]
      exact ⟨rfl, rfl⟩
  · have hr := hidB (betw_no (n := n) (low := low) (high := high) (by omega))
    go_enter Tryz.func39, Tryz.ntmps39
    go_wp2
    go_ret
    rw [show betw n low high = false from hr]
    exact ⟨rfl, rfl⟩
set_option maxHeartbeats 800000 in
theorem in_any (n low high : Int) (w : World) : Calls Tryz.prog 31 #[.int .i64 n, .int .i64 low, .int .i64 high] w fun e w' => e = .returned (.bool (betw n low high)) ∧ w' = w := by
  by_cases h1 : low ≤ n
  · by_cases h2 : n ≤ high
    · have hr := hidB (betw_yes h1 h2)
      go_enter Tryz.func31, Tryz.ntmps31
      go_wp2
      go_ret
      rw [show betw n low high = true from hr]
      exact ⟨rfl, rfl⟩
    · have hr := hidB (betw_no (n := n) (low := low) (high := high) (by omega))
      go_enter Tryz.func31, Tryz.ntmps31
      go_wp2
      go_ret
      rw [show betw n low high = false from hr]
      exact ⟨rfl, rfl⟩
  · have hr := hidB (betw_no (n := n) (low := low) (high := high) (by omega))
    go_enter Tryz.func31, Tryz.ntmps31
    go_wp2
    go_ret
    rw [show betw n low high = false from hr]
    exact ⟨rfl, rfl⟩

theorem cfg_1 {f d l r : Int} (h : betw f 1 10000 = false) : cfgB f d l r = false := by simp [cfgB, h]
theorem cfg_2 {f d l r : Int} (h : betw d 1 100000 = false) : cfgB f d l r = false := by simp [cfgB, h]
theorem cfg_3 {f d l r : Int} (h : betw l 0 1000 = false) : cfgB f d l r = false := by simp [cfgB, h]
theorem cfg_4 {f d l r : Int} (h1 : betw f 1 10000 = true) (h2 : betw d 1 100000 = true) (h3 : betw l 0 1000 = true) : cfgB f d l r = betw r 0 500 := by simp [cfgB, h1, h2, h3]

end Go.Proofs.YtdfinapjgffjiaaGreatDoor

/- Contract of impl.packNumbers. -/
namespace Go.Proofs.YtdfinapjgffjiaaGreatDoor
open Go.RowKit
set_option linter.unusedVariables false
set_option maxRecDepth 100000

theorem block_alloc {w : World} {g : Nat} {c : Array Value} {t : TypeId} {f : Nat × Nat} (h : w.heap[g]? = some (.cells c t f)) (o : Obj) : (w.alloc o).heap[g]? = some (.cells c t f) := by
  rw [(Joins.below_alloc1 w o).block g (Array.getElem?_eq_some_iff.1 h).1]; exact h

/-- The bytes that stand in the array when k numbers are in it. -/
def arrL (xs : List Int) (k : Nat) : List Value := byteV (packL (xs.take k)) ++ List.replicate (64 - k * 4) (.int .u8 0)
theorem arrL_zero (xs : List Int) : arrL xs 0 = List.replicate 64 (.int .u8 0) := by simp [arrL, packL, byteV]
theorem four_lit {n : Int} (h : 0 ≤ n) (h' : n ≤ 2147483647) : [Value.int .u8 (n % 256), .int .u8 (n / 256 % 256), .int .u8 (n / 65536 % 256), .int .u8 (n / 16777216)] = byteV (four n) := by
  have e : n / 16777216 = n / 16777216 % 256 := by omega
  have : byteV (four n) = [Value.int .u8 (n / (256 : Int) ^ 0 % 256), .int .u8 (n / (256 : Int) ^ 1 % 256), .int .u8 (n / (256 : Int) ^ 2 % 256), .int .u8 (n / (256 : Int) ^ 3 % 256)] := rfl
  rw [this, e]
  simp
theorem arrL_length {xs : List Int} {k : Nat} (hl : xs.length ≤ 16) (hk : k ≤ xs.length) : (arrL xs k).length = 64 := by
  rw [arrL, List.length_append, byteV_length, packL_length, List.length_replicate, List.length_take, Nat.min_eq_left hk]
  omega
theorem arrL_splice {xs : List Int} {k : Nat} (hl : xs.length ≤ 16) (hk : k < xs.length) : splice (arrL xs k) (k * 4) (byteV (four xs[k])) = arrL xs (k + 1) := by
  have h1 : (byteV (packL (xs.take k))).length = k * 4 := by rw [byteV_length, packL_length, List.length_take, Nat.min_eq_left (by omega)]
  have h4 : (byteV (four xs[k])).length = 4 := by rw [byteV_length, four, fourTo_length]
  unfold splice arrL
  rw [h4, List.take_append_of_le_length (by omega), List.take_of_length_le (by omega), List.drop_append, List.drop_of_length_le (by omega), List.nil_append, h1, packL_succ hk, List.drop_replicate]
  rw [show k * 4 + 4 - k * 4 = 4 by omega, show 64 - k * 4 - 4 = 64 - (k + 1) * 4 by omega]
  simp [byteV]
theorem arrL_cells {W : World} {g : Nat} {t : TypeId} {xs : List Int} (h : W.heap[g]? = some (.cells (arrL xs xs.length).toArray t (0, 0))) : ∀ i, i < xs.length * 4 → W.cell? ⟨g, 0 + i, none⟩ = some (.int .u8 ((packL xs).getD i 0)) := by
  intro i hi
  rw [Nat.zero_add, Joins.cell_of_block h]
  have hl : i < (packL xs).length := by rw [packL_length]; exact hi
  simp [arrL, byteV, List.getElem?_append_left, hl, List.getD]
theorem byteV_one (ns : List Int) : ∀ v ∈ byteV ns, v.oneCell' = true := by
  intro v hv
  simp only [byteV, List.mem_map] at hv
  obtain ⟨s, _, rfl⟩ := hv
  rfl
theorem lit_one (a b c d : Int) : ∀ v ∈ [Value.int .u8 a, .int .u8 b, .int .u8 c, .int .u8 d], v.oneCell' = true := by
  intro v hv
  simp at hv
  rcases hv with rfl | rfl | rfl | rfl <;> rfl
theorem sizeB : (Tryz.prog.info? 5).map (·.size) = some 1 := by kernel_rfl
theorem runB (W : World) : (Go.sizeOf 5).run Tryz.prog W = .ok 1 W := by
  have h := sizeB
  cases hq : Tryz.prog.info? 5 with
  | none => simp [hq] at h
  | some i =>
    have hi : i.size = 1 := by simpa [hq] using h
    simp [Go.sizeOf, typeInfo, hq, hi]
theorem arr64 : Tryz.prog.arrayLen 129 = 64 := by kernel_rfl
theorem und64 : Tryz.prog.underlying 129 = some (.array (Tryz.prog.arrayLen 129) (Tryz.prog.elem 129)) := by kernel_rfl
theorem elem64 : Tryz.prog.elem 129 = 5 := by kernel_rfl
theorem wrap4 (k : Nat) (hk : k ≤ 16) : IntKind.i64.wrap ((k : Int) * 4) = ((k * 4 : Nat) : Int) := by
  rw [IntKind.wrap_i64]
  omega
theorem slice64 (W : World) (g k : Nat) (hk : k < 16) : (Instr.sliceAt 129 (.pointer (some ⟨g, 0, none⟩)) (some (.int .i64 (IntKind.i64.wrap ((k : Int) * 4)))) none none).run Tryz.prog W = .ok (.slice (some ⟨g, k * 4, none⟩) (64 - k * 4) (64 - k * 4)) W := by
  rw [wrap4 k (by omega), run_sliceAt_array_l W _ _ und64 .i64 _ (by omega) (by rw [arr64]; omega), elem64, runB, arr64]
  simp only [Result.andThen, slicedAt, Int.toNat_natCast, Nat.mul_one]
  rw [if_neg (by omega), show Addr.add ⟨g, 0, none⟩ (k * 4) = ⟨g, k * 4, none⟩ from by unfold Addr.add; split <;> simp_all]
theorem slice64h (W : World) (g k : Nat) (hk : k ≤ 16) : (Instr.sliceAt 129 (.pointer (some ⟨g, 0, none⟩)) none (some (.int .i64 ((k : Int) * 4))) none).run Tryz.prog W = .ok (.slice (some ⟨g, 0, none⟩) (k * 4) 64) W := by
  rw [run_sliceAt_array_h W _ _ und64 .i64 _ (by omega) (by rw [arr64]; omega), elem64, runB, arr64]
  simp only [Result.andThen, slicedAt, Nat.mul_one, Nat.sub_zero]
  rw [if_neg (by omega), show ((k : Int) * 4).toNat = k * 4 by omega]
  rfl

set_option maxHeartbeats 1600000 in
theorem packNumbers_any (ao : Option Addr) (cap : Nat) (xs : List Int) (w : World) (hl : xs.length ≤ 16) (hn : ∀ j (h : j < xs.length), 0 ≤ xs[j] ∧ xs[j] ≤ 2147483647) (hc : Is w ao xs) :
    Calls Tryz.prog 72 #[.slice ao xs.length cap] w fun e w' => e = .returned (.string (packS xs)) ∧ Below w.heap.size w w' := by
  have HC := hide hc
  have HN := hide hn
  clear hc hn
  go_enter Tryz.func72, Tryz.ntmps72
  go_wp2
  go_loopw [9] (fun i wr => ∃ k : Nat, k ≤ xs.length ∧ i = .int .i64 k ∧ Hid (wr.heap[w.heap.size]? = some (.cells (arrL xs k).toArray 129 (0, 0))) ∧ Hid (Below w.heap.size w wr)) (fun i _ => xs.length - (intOf i).toNat)
  case atStart => exact ⟨0, Nat.zero_le _, rfl, hide (by rw [arrL_zero]; exact heap_alloc_new w _), hide (Joins.below_alloc1 _ _)⟩
  case round =>
    obtain ⟨k, hk, rfl, HO, HB⟩ := hrel
    by_cases hlt : k < xs.length
    · obtain ⟨b, off, rfl, hc⟩ := (unhide HC).below (unhide HB) k hlt
      obtain ⟨h0, h1⟩ := unhide HN k hlt
      have HBA := hide (fr (unhide HB) (Joins.below_alloc1 _ (.cells #[.int .u8 (xs[k] % 256), .int .u8 (xs[k] / 256 % 256), .int .u8 (xs[k] / 65536 % 256), .int .u8 (xs[k] / 16777216)] 97)))
      have HOA := hide (block_alloc (unhide HO) (.cells #[.int .u8 (xs[k] % 256), .int .u8 (xs[k] / 256 % 256), .int .u8 (xs[k] / 65536 % 256), .int .u8 (xs[k] / 16777216)] 97))
      have HL := hide (arrL_length hl hk)
      have HNW := hide (World.news_of_block (cs := #[.int .u8 (xs[k] % 256), .int .u8 (xs[k] / 256 % 256), .int .u8 (xs[k] / 65536 % 256), .int .u8 (xs[k] / 16777216)]) (heap_alloc_new wr (.cells #[.int .u8 (xs[k] % 256), .int .u8 (xs[k] / 256 % 256), .int .u8 (xs[k] / 65536 % 256), .int .u8 (xs[k] / 16777216)] 97)))
      have HE := hide (four_lit h0 h1)
      have HSP := hide (arrL_splice hl hlt)
      have hsl := fun W => slice64 W w.heap.size k (by omega)
      go_wp2
      go_region_law (refine step_copy_splice ?_ (.tmp 28) (.tmp 29) 22 22 ?_ 5 Tryz.underlying22 sizeB (some ⟨w.heap.size, k * 4, none⟩) (some ⟨wr.heap.size, 0, none⟩) (64 - k * 4) (64 - k * 4) 4 4 ?_ ?_ w.heap.size (k * 4) (arrL xs k) 129 ?_ [.int .u8 (xs[k] % 256), .int .u8 (xs[k] / 256 % 256), .int .u8 (xs[k] / 65536 % 256), .int .u8 (xs[k] / 16777216)] ?_ ?_ ?_ (lit_one _ _ _ _) w.heap.size w ?_ (Nat.le_refl _) ?_
                     · rfl
                     · rfl
                     · rfl
                     · rfl
                     · exact unhide HOA
                     · simp only [List.length_cons, List.length_nil]; exact (Nat.min_eq_left (by omega)).symm
                     · exact fun _ => ⟨rfl, _, rfl, unhide HNW⟩
                     · rw [unhide HL]; simp only [List.length_cons, List.length_nil]; omega
                     · exact (unhide HBA).drew
                     intro w4 hg4 hb4)
      all_goals
        have HSF : Hid (w4.heap[w.heap.size]? = some (.cells (arrL xs (k + 1)).toArray 129 (0, 0))) := by rw [← unhide HSP, ← unhide HE]; exact hg4
        have HBF := hide hb4
        clear hg4 hb4 hsl
        go_wp2
        go_roundw
        case rel => exact ⟨k + 1, by omega, by go_num, HSF, HBF⟩
        case measure => simp [intOf]; omega
    · have hkn : k = xs.length := by omega
      subst hkn
      have hsl := slice64h wr w.heap.size xs.length hl
      have hcv := run_convert_bytes_arg (P := Tryz.prog) wr 22 5 Tryz.underlying22 Tryz.underlying5 w.heap.size 0 (xs.length * 4) 64 (packL xs) (packL_length xs) (arrL_cells (unhide HO)) 9 Tryz.underlying9
      go_wp2
      go_ret
      exact ⟨rfl, unhide HB⟩

end Go.Proofs.YtdfinapjgffjiaaGreatDoor

/- Contract of impl.listFault. -/
namespace Go.Proofs.YtdfinapjgffjiaaGreatDoor
open Go.RowKit
set_option linter.unusedVariables false
set_option maxRecDepth 100000

set_option maxHeartbeats 800000 in
theorem listFault_any (ao : Option Addr) (cap : Nat) (xs : List Int) (w : World) (hl : xs.length ≤ 1048576) (hc : Is w ao xs) :
    Calls Tryz.prog 70 #[.slice ao xs.length cap] w fun e w' => e = .returned (.int .i64 (listC xs)) ∧ w' = w := by
  have HC := hide hc
  clear hc
  by_cases h1 : 4096 < xs.length
  · have HF := hide (listC_long h1)
    go_enter Tryz.func70, Tryz.ntmps70
    go_wp2
    go_ret
    exact ⟨ret_int (unhide HF).symm, rfl⟩
  by_cases h2 : 16 < xs.length
  · have HF := hide (listC_bad h1 (intsB_long h2))
    go_enter Tryz.func70, Tryz.ntmps70
    go_wp2
    go_ret
    exact ⟨ret_int (unhide HF).symm, rfl⟩
  go_enter Tryz.func70, Tryz.ntmps70
  go_wp2
  go_loop [13] (fun i => ∃ k : Nat, k ≤ xs.length ∧ i = .int .i64 k ∧ Hid (∀ j (h : j < xs.length), j < k → numB xs[j] = true)) (fun i => xs.length - (intOf i).toNat)
  case atStart => exact ⟨0, Nat.zero_le _, rfl, hide (fun j _ h => by omega)⟩
  case round =>
    obtain ⟨k, hk, rfl, HA⟩ := hrel
    by_cases hlt : k < xs.length
    · obtain ⟨b, off, rfl, hc⟩ := unhide HC k hlt
      by_cases hn : numB xs[k] = true
      · have HN := hide (all_succ hlt (unhide HA) hn)
        go_wp2_with (go_at_call 101; refine (isNumber_any _ _).mono ?_; rintro e w' ⟨rfl, rfl⟩)
        go_round
        case rel => exact ⟨k + 1, by omega, by go_num, HN⟩
        case measure => simp [intOf]; omega
      · have hn' : numB xs[k] = false := by simpa using hn
        have HF := hide (listC_bad h1 (intsB_false_at hlt hn'))
        clear hn
        go_wp2_with (go_at_call 101; refine (isNumber_any _ _).mono ?_; rintro e w' ⟨rfl, rfl⟩)
        go_ret
        exact ⟨ret_int (unhide HF).symm, rfl⟩
    · have HF := hide (listC_ok (xs := xs) h1 (by rw [intsB_len (fun j h => unhide HA j h (by omega))]; simp; omega))
      go_wp2
      go_ret
      exact ⟨ret_int (unhide HF).symm, rfl⟩

end Go.Proofs.YtdfinapjgffjiaaGreatDoor

/- What PackInts answers, plain. -/
namespace Go.Proofs.YtdfinapjgffjiaaGreatDoor
set_option linter.unusedVariables false

/-- The answer's text. -/
def packT (xs : List Int) : ByteArray := if listC xs = 0 then packS xs else ⟨#[]⟩
theorem packT_ok {xs : List Int} (h : listC xs = 0) : packT xs = packS xs := if_pos h
theorem packT_no {xs : List Int} (h : listC xs ≠ 0) : packT xs = ⟨#[]⟩ := if_neg h
theorem ret_si {a b : ByteArray} {c d : Int} (h : a = b) (k : c = d) : Ending.returned (.tuple #[.string a, .int .i64 c]) = .returned (.tuple #[.string b, .int .i64 d]) := by rw [h, k]

end Go.Proofs.YtdfinapjgffjiaaGreatDoor

/- Contract of impl.kindOK. -/
namespace Go.Proofs.YtdfinapjgffjiaaGreatDoor
open Go.RowKit
set_option linter.unusedVariables false
set_option maxRecDepth 100000

theorem kindOK_any (n : Int) (w : World) : Calls Tryz.prog 71 #[.int .i64 n] w fun e w' => e = .returned (.bool (kindB n)) ∧ w' = w := by
  go_enter Tryz.func71, Tryz.ntmps71
  go_wp2
  all_goals
    go_ret
    exact ⟨ret_bool (by rw [Bool.eq_iff_iff]; simp [kindB, inB]; omega), rfl⟩

end Go.Proofs.YtdfinapjgffjiaaGreatDoor

/- Contracts of SealRecord, of the program and of its model. -/
namespace Go.Proofs.YtdfinapjgffjiaaGreatDoor
open Go.RowKit
set_option linter.unusedVariables false
set_option maxRecDepth 100000

/-- 'string(head[:2])', 'string(head[:])', head an array of four bytes. -/
theorem arr2 (W : World) (g : Nat) (a b c d : Int) (h : W.heap.size = g) : (convert 22 9 (.slice (some ⟨g, 0, none⟩) 2 4)).run Tryz.prog (W.alloc (.cells #[.int .u8 a, .int .u8 b, .int .u8 c, .int .u8 d] 97)) = .ok (.string (strOfNums [a, b])) (W.alloc (.cells #[.int .u8 a, .int .u8 b, .int .u8 c, .int .u8 d] 97)) := by
  subst h
  refine run_convert_bytes_arg _ 22 5 Tryz.underlying22 Tryz.underlying5 W.heap.size 0 2 4 [a, b] rfl ?_ 9 Tryz.underlying9
  intro i hi
  rcases (show i = 0 ∨ i = 1 by omega) with rfl | rfl <;> simp [go_sem, List.getD]
theorem arr4 (W : World) (g : Nat) (a b c d : Int) (h : W.heap.size = g) : (convert 22 9 (.slice (some ⟨g, 0, none⟩) 4 4)).run Tryz.prog (W.alloc (.cells #[.int .u8 a, .int .u8 b, .int .u8 c, .int .u8 d] 97)) = .ok (.string (strOfNums [a, b, c, d])) (W.alloc (.cells #[.int .u8 a, .int .u8 b, .int .u8 c, .int .u8 d] 97)) := by
  subst h
  refine run_convert_bytes_arg _ 22 5 Tryz.underlying22 Tryz.underlying5 W.heap.size 0 4 4 [a, b, c, d] rfl ?_ 9 Tryz.underlying9
  intro i hi
  rcases (show i = 0 ∨ i = 1 ∨ i = 2 ∨ i = 3 by omega) with rfl | rfl | rfl | rfl <;> simp [go_sem, List.getD]
theorem sum_impl (k : Int) (xs : List Int) (w : World) (hl : xs.length ≤ 16) : Calls Tryz.prog 73 #[.string (strOfNums [k, (xs.length : Int)] ++ packS xs)] w fun e w' => e = .returned (.int .i64 (sumR k xs)) ∧ w' = w := by
  have h := sumOf_impl (sumT k xs) w (by rw [sumT_size]; omega)
  rw [sumC_short (by rw [sumT_size]; omega)] at h
  exact h

set_option maxHeartbeats 1600000 in
theorem sealRecord_impl (k : Int) (ao : Option Addr) (cap : Nat) (xs : List Int) (w : World) (hl : xs.length ≤ 1048576) (hc : Is w ao xs) :
    Calls Tryz.prog 34 #[.int .i64 k, .slice ao xs.length cap] w fun e w' => e = .returned (.tuple #[.string (sealT k xs), .int .i64 (sealC k xs)]) ∧ Below w.heap.size w w' := by
  have HC := hide hc
  clear hc
  by_cases h2 : listC xs = 0
  · have HL := hide h2
    have hb : (listC xs != 0) = false := by simp [h2]
    have HP := hide (intsB_parts (listC_zero h2))
    clear h2
    by_cases h3 : kindB k = true
    · have HF := hide (sealC_ok (unhide HL) h3)
      obtain ⟨hk0, hk1⟩ := kindB_in h3
      have hl16 := (unhide HP).2
      have hp := packS_size xs
      have hs2 : (strOfNums [k, (xs.length : Int)]).size = 2 := strOfNums_size _
      have hs4 : (strOfNums [k, (xs.length : Int), sumR k xs, 0]).size = 4 := strOfNums_size _
      obtain ⟨hr0, hr1⟩ := sumR_in k xs
      go_enter Tryz.func34, Tryz.ntmps34
      go_wp2_with (first | (go_at_call 70; refine (listFault_any _ _ xs _ hl (unhide HC)).mono ?_; rintro e w' ⟨rfl, rfl⟩) | (go_at_call 71; refine (kindOK_any _ _).mono ?_; rintro e w' ⟨rfl, rfl⟩) | (go_at_call 72; refine (packNumbers_any _ _ xs _ (unhide HP).2 (unhide HP).1 (unhide HC)).mono ?_; rintro e w1 ⟨rfl, hb1⟩; have HB1 := hide hb1; clear hb1; have hc2 := arr2 w1 w1.heap.size k xs.length 0 0 rfl) | (go_at_call 73; refine (sum_impl k xs _ hl16).mono ?_; rintro e w' ⟨rfl, rfl⟩; have hc4 := arr4 w1 w1.heap.size k xs.length (sumR k xs) 0 rfl))
      go_ret2
      exact ⟨ret_si (sealT_ok (unhide HF)).symm (unhide HF).symm, fr (unhide HB1) (Joins.below_alloc1 _ _)⟩
    · have h4 : kindB k = false := by simpa using h3
      have HF := hide (sealC_kind (unhide HL) h4)
      clear h3
      go_enter Tryz.func34, Tryz.ntmps34
      go_wp2_with (first | (go_at_call 70; refine (listFault_any _ _ xs _ hl (unhide HC)).mono ?_; rintro e w' ⟨rfl, rfl⟩) | (go_at_call 71; refine (kindOK_any _ _).mono ?_; rintro e w' ⟨rfl, rfl⟩))
      go_ret2
      exact ⟨ret_si (sealT_no (by rw [unhide HF]; decide)).symm (unhide HF).symm, Below.refl _ _⟩
  · have HF := hide (sealC_list (k := k) h2)
    have HNE := hide h2
    have hb : (listC xs != 0) = true := by simp [h2]
    clear h2
    go_enter Tryz.func34, Tryz.ntmps34
    go_wp2_with (go_at_call 70; refine (listFault_any _ _ xs _ hl (unhide HC)).mono ?_; rintro e w' ⟨rfl, rfl⟩)
    go_ret2
    exact ⟨ret_si (sealT_no (by rw [unhide HF]; exact unhide HNE)).symm (unhide HF).symm, Below.refl _ _⟩

end Go.Proofs.YtdfinapjgffjiaaGreatDoor

/- Contracts of the program's generations, the plain ones: genOK, DeltaOK, numbers, EncodeDelta. -/
namespace Go.Proofs.YtdfinapjgffjiaaGreatDoor
open Go.RowKit
set_option linter.unusedVariables false
set_option maxRecDepth 100000

theorem genOK_any (n : Int) (w : World) : Calls Tryz.prog 56 #[.int .i64 n] w fun e w' => e = .returned (.bool (inB n 1 1000000)) ∧ w' = w := by
  go_enter Tryz.func56, Tryz.ntmps56
  go_wp2_with fail
  refine (within_any n 1 1000000 _).mono ?_
  rintro e w1 ⟨rfl, rfl⟩
  go_wp2
  go_ret
  exact ⟨rfl, rfl⟩
theorem is3i (w : World) (n : Nat) (t : TypeId) (a b c : Int) (hn : w.heap.size = n) : Is (w.alloc (.cells #[.int .i64 a, .int .i64 b, .int .i64 c] t)) (some ⟨n, 0, none⟩) [a, b, c] := by
  subst hn
  intro i hi
  have hi' : i < 3 := hi
  refine ⟨w.heap.size, 0, rfl, ?_⟩
  rcases (show i = 0 ∨ i = 1 ∨ i = 2 by omega) with rfl | rfl | rfl <;> simp [go_sem]

theorem d3_ints {h g s : Int} (hd : dltB h g s = true) : intsB [h, g, s] = true := by
  obtain ⟨h1, h2, h3⟩ := dltB_iff.1 hd
  rw [intsB_len]
  · rfl
  · intro j hj
    have hj' : j < 3 := hj
    rcases (show j = 0 ∨ j = 1 ∨ j = 2 by omega) with rfl | rfl | rfl <;> simp [numB, inB] <;> omega
theorem d3_seal {h g s : Int} (hd : dltB h g s = true) : sealC 9 [h, g, s] = 0 ∧ sealT 9 [h, g, s] = encD h g s := by
  have hc : sealC 9 [h, g, s] = 0 := sealC_ok (listC_ok (by simp) (d3_ints hd)) rfl
  exact ⟨hc, sealT_ok hc⟩

end Go.Proofs.YtdfinapjgffjiaaGreatDoor
