import Derived.Test.YtbmkdbccdnbbjaaGreatDoorRows
import Derived.Test.YtbmkdbccdnbbjaaGreatDoorSrcM
import Derived.Test.YtbmkdbccdnbbjaaGreatDoorPart16
import Derived.Test.YtbmkdbccdnbbjaaGreatDoorPart11
import Derived.Test.YtbmkdbccdnbbjaaGreatDoorPart17
import Derived.Test.YtbmkdbccdnbbjaaGreatDoorPart20
import Derived.Test.YtbmkdbccdnbbjaaGreatDoorPart21
import Derived.Test.YtbmkdbccdnbbjaaGreatDoorPart25
import Derived.Test.YtbmkdbccdnbbjaaGreatDoorPart3
import Derived.Test.YtbmkdbccdnbbjaaGreatDoorPart5
import Derived.WalkKit
import Derived.WalkSpells
import Derived.KernelRfl
import Derived.LoopN
import Derived.BigQuiet
import Derived.Deep.QuietTactic
import Derived.Deep.CutRange
import Derived.Deep.RegionWith

namespace Go.Proofs.YtbmkdbccdnbbjaaGreatDoor
open Go.RowKit
set_option linter.unusedVariables false
set_option maxRecDepth 100000

theorem iuA_right {M : Img} (h : ImR M) : iuA M = (allU M, 0) := by rw [iuA, if_pos (imB_iff.2 h)]
theorem updI (a : Im4) (M : Img) (W : World) (h : ImR M) (hs : ImS W a M) :
    Calls Tryz.prog 7 #[imV a M] W fun e w' => ∃ qo qa, e = .returned (.tuple #[.slice qo (allU M).length qa, .int .i64 0]) ∧ Ups w' qo (allU M) ∧ Below W.heap.size W w' := by
  have := imageUpdates_impl a M W h.M.L hs
  rw [iuA_right h] at this
  exact this.mono fun e w' ⟨qo, qa, he, hu⟩ => ⟨qo, qa, he, ownUps hu.o (fun u hu' => by have := allU_sz h u hu'; unfold maxLen; omega), hu.k⟩
theorem updS (a : Im4) (M : Img) (W : World) (h : ImR M) (hs : ImS W a M) :
    Calls Tryz.prog 8 #[imV a M] W fun e w' => ∃ qo qa, e = .returned (.tuple #[.slice qo (allU M).length qa, .int .i64 0]) ∧ Ups w' qo (allU M) ∧ Below W.heap.size W w' := by
  have := imageUpdates_spec a M W h.M.L hs
  rw [iuA_right h] at this
  exact this.mono fun e w' ⟨qo, qa, he, hu⟩ => ⟨qo, qa, he, ownUps hu.o (fun u hu' => by have := allU_sz h u hu'; unfold maxLen; omega), hu.k⟩
theorem small_max {ss : List ByteArray} (h : ∀ s ∈ ss, s.size ≤ 80) : ∀ s ∈ ss, s.size ≤ maxLen := fun s hs => by have := h s hs; unfold maxLen; omega
theorem formatA (g : Nat) (n : Nat) (W : World) (hn : n ≤ 12) (h1 : Ss W (some ⟨g, 0, none⟩) noSs) :
    Calls Tryz.prog 9 #[.agg #[.slice (some ⟨g, 0, none⟩) 64 64, .slice none 0 0], .int .i64 1, .int .i64 n] W fun e w' => ∃ po pa qo qa, e = .returned (.tuple #[.agg #[.slice po 64 pa, .slice qo 0 qa], .int .i64 0]) ∧ Ss w' po (fmS n) ∧ Below W.heap.size W w' := by
  have := format_impl (some ⟨g, 0, none⟩) none 64 0 noSs [] 1 n W (by rw [noSs_len]; unfold maxLen; omega) (by simp) h1 (fun i hi => absurd hi (Nat.not_lt_zero _))
  obtain ⟨e1, e2, e3⟩ := fm_all hn
  rw [e1, e2, e3, fmS_len, noSs_len] at this
  exact this.mono fun e w' ⟨po, pa, qo, qa, he, ho, hb⟩ => ⟨po, pa, qo, qa, he, noSs_own2 (by rw [fmS_len]; exact ho.s) (small_max (fmS_small hn)), hb⟩
theorem readSt (po qo : Option Addr) (pa qa : Nat) (ss : List ByteArray) (h : Int) (X : Img) (W : World) (hl : ss.length = 64) (hX : rdA ss [] h = (X, 0)) (h1 : Ss W po ss) (hE : ErrW W) :
    Calls Tryz.prog 12 #[.agg #[.slice po 64 pa, .slice qo 0 qa], .int .i64 h] W fun e w' => ∃ a ts, e = .returned (.tuple #[imV a X, .int .i64 0]) ∧ OwnIm w' W.heap.size a X ts ∧ Below W.heap.size W w' := by
  have := readImage_impl po qo pa qa ss [] h W (by rw [hl]; unfold maxLen; omega) (by simp) h1 (fun i hi => absurd hi (Nat.not_lt_zero _)) hE
  rw [hl, hX] at this
  exact this
theorem sameST (a b : Im4) (m : Img) (W : World) (h : ImR m) (h1 : ImS W a m) (h2 : ImS W b m) :
    Calls Tryz.prog 14 #[imV a m, imV b m] W fun e w' => e = .returned (.bool true) ∧ Below W.heap.size W w' :=
  sameImage_same a b m W h.M.L.r h.M.L.t h.M.L.s h.M.L.d h1 h2
structure ImZ (W : World) (y : Nat) (a : Im4) (m : Img) : Prop where
  v : VarM W y 26 (.slice a.ro m.refs.length a.rc) (.slice a.tq m.table.length a.tc) (.slice a.so m.snaps.length a.sc) (.slice a.dq m.data.length a.dc)
  s : ImS W a m
theorem ImZ.below {W W' : World} {y : Nat} {a : Im4} {m : Img} (h : ImZ W y a m) (hb : Below W.heap.size W W') : ImZ W' y a m := ⟨h.v.below hb, h.s.below hb⟩
theorem ImZ.new {W : World} {a : Im4} {m : Img} (h : ImS W a m) : ImZ (W.alloc (.cells #[.slice a.ro m.refs.length a.rc, .slice a.tq m.table.length a.tc, .slice a.so m.snaps.length a.sc, .slice a.dq m.data.length a.dc] 26)) W.heap.size a m := ⟨VarM.new _ _ _ _ _ _, h.below (Joins.below_alloc1 _ _)⟩
structure DkZ (W : World) (y : Nat) (po : Option Addr) (pa : Nat) (qo : Option Addr) (qa : Nat) (ss : List ByteArray) : Prop where
  v : VarD W y (.slice po 64 pa) (.slice qo 0 qa)
  s : Ss W po ss
theorem DkZ.below {W W' : World} {y pa qa : Nat} {po qo : Option Addr} {ss : List ByteArray} (h : DkZ W y po pa qo qa ss) (hb : Below W.heap.size W W') : DkZ W' y po pa qo qa ss := ⟨h.v.below hb, h.s.below hb⟩
theorem DkZ.new {W : World} {pa qa : Nat} {po qo : Option Addr} {ss : List ByteArray} (h : Ss W po ss) : DkZ (W.alloc (.cells #[.slice po 64 pa, .slice qo 0 qa] 34)) W.heap.size po pa qo qa ss := ⟨VarD.new _ _ _, h.below (Joins.below_alloc1 _ _)⟩

theorem st_put {W wx : World} {C : Nat} {a : Im4} {m : Img} {ts : List Value} {u0 u1 u2 u3 : Value} (hv : VarM wx C 26 u0 u1 u2 u3) (ho : OwnIm wx W.heap.size a m ts) (hb : Below W.heap.size W wx) (hC : W.heap.size ≤ C) (hm : ImR m) :
    ImZ ((((wx.setCell ⟨C, 0, none⟩ (.slice a.ro m.refs.length a.rc)).setCell ⟨C, 1, none⟩ (.slice a.tq m.table.length a.tc)).setCell ⟨C, 2, none⟩ (.slice a.so m.snaps.length a.sc)).setCell ⟨C, 3, none⟩ (.slice a.dq m.data.length a.dc)) C a m ∧
    Below W.heap.size W ((((wx.setCell ⟨C, 0, none⟩ (.slice a.ro m.refs.length a.rc)).setCell ⟨C, 1, none⟩ (.slice a.tq m.table.length a.tc)).setCell ⟨C, 2, none⟩ (.slice a.so m.snaps.length a.sc)).setCell ⟨C, 3, none⟩ (.slice a.dq m.data.length a.dc)) := by
  have hk : Keep (fun k => k = C) wx ((((wx.setCell ⟨C, 0, none⟩ (.slice a.ro m.refs.length a.rc)).setCell ⟨C, 1, none⟩ (.slice a.tq m.table.length a.tc)).setCell ⟨C, 2, none⟩ (.slice a.so m.snaps.length a.sc)).setCell ⟨C, 3, none⟩ (.slice a.dq m.data.length a.dc)) := (((((Keep.refl (fun k => k = C) wx).setCell (p := ⟨C, 0, none⟩) rfl _).setCell (p := ⟨C, 1, none⟩) rfl _).setCell (p := ⟨C, 2, none⟩) rfl _).setCell (p := ⟨C, 3, none⟩) rfl _)
  exact ⟨⟨(((hv.set0 _).set1 _).set2 _).set3 _, (ho.keep hk (fun g hg e => ho.other hv (e ▸ hg))).shows hm.M.zs⟩, (((hb.setCell (p := ⟨C, 0, none⟩) hC _).setCell (p := ⟨C, 1, none⟩) hC _).setCell (p := ⟨C, 2, none⟩) hC _).setCell (p := ⟨C, 3, none⟩) hC _⟩

set_option maxHeartbeats 12800000 in
theorem lawStore (ao : Option Addr) (ca n : Nat) (bo : Option Addr) (cb m : Nat) (w : World) (hn : n ≤ maxLen) (hB : Bs w ao n) (hm : m ≤ maxLen) (hC : Bs w bo m) (hE : ErrW w) :
    Calls Tryz.prog 3 #[.slice ao n ca, .slice bo m cb] w fun e w' => e = .returned (.bool true) ∧ Below w.heap.size w w' := by
  have HBS := hide hB
  have HCS := hide hC
  have HES := hide hE
  clear hB hC hE
  obtain ⟨i0, hi0, hz0, hz1, hz2⟩ := info_parts info9'
  unfold maxLen at hn hm
  by_cases h : 1048576 < n
  · go_enter Tryz.func3, Tryz.ntmps3
    go_wp2
    go_ret
    exact ⟨rfl, Below.refl _ _⟩
  by_cases h' : 1048576 < m
  · go_enter Tryz.func3, Tryz.ntmps3
    go_wp2
    go_ret
    exact ⟨rfl, Below.refl _ _⟩
  have hn' : n ≤ 1048576 := by omega
  have hm' : m ≤ 1048576 := by omega
  obtain ⟨r, ⟨hr0, hr1⟩, hat⟩ := at_toldD bo m cb 0 13 w hm' (by omega) (by omega) (by omega) (by omega) (unhide HCS)
  obtain ⟨s, ⟨hs0, hs1⟩, hat2⟩ := at_toldD bo m cb 1 4 w hm' (by omega) (by omega) (by omega) (by omega) (unhide HCS)
  obtain ⟨z, rfl⟩ := Int.eq_ofNat_of_zero_le hr0
  have hz12 : z ≤ 12 := by omega
  have HT := hide hat
  have HT2 := hide hat2
  have HZ := hide hz12
  have HSS := hide (show 0 ≤ s ∧ s ≤ 3 by omega)
  clear hat hat2 hr0 hr1 hs0 hs1 hz12
  go_enter Tryz.func3, Tryz.ntmps3
  go_wp2_with fail
  refine (imageOf_any ao n ca _ hn' (unhide HBS)).mono ?_
  rintro e w1 ⟨a0, M, ts0, rfl, ho, hi, hb⟩
  have HM := hide hi
  have A0 := hide (ImZ.new (ho.shows hi.M.zs))
  have HB1 := hide (fr hb (Joins.below_alloc1 w1 (.cells #[.slice a0.ro M.refs.length a0.rc, .slice a0.tq M.table.length a0.tc, .slice a0.so M.snaps.length a0.sc, .slice a0.dq M.data.length a0.dc] 26)))
  clear ho hi hb HBS
  go_upto_region 4 with fail
  revert HB1
  revert A0
  generalize w1.heap.size = y0
  generalize (w1.alloc _) = W1
  intro A0 HB1
  obtain ⟨c0, c1, c2, c3⟩ := (unhide A0).v.cells
  go_wp2_with fail
  refine (updI a0 M _ (unhide HM) (unhide A0).s).mono ?_
  rintro e w2 ⟨q1, k1, rfl, hu, hb⟩
  have U1 := hide hu
  have A02 := hide ((unhide A0).below hb)
  have HB2 := hide (fr (unhide HB1) hb)
  clear hu hb c0 c1 c2 c3 A0 HB1
  obtain ⟨c0, c1, c2, c3⟩ := (unhide A02).v.cells
  go_wp2_with fail
  refine (updS a0 M _ (unhide HM) (unhide A02).s).mono ?_
  rintro e w3 ⟨q2, k2, rfl, hu, hb⟩
  have U2 := hide hu
  have U13 := hide ((unhide U1).below hb)
  have A03 := hide ((unhide A02).below hb)
  have HB3 := hide (fr (unhide HB2) hb)
  clear hu hb c0 c1 c2 c3 A02 HB2 U1
  go_wp2_with fail
  refine (newDisk_impl _).mono ?_
  rintro e w4 ⟨g, rfl, ho, hb⟩
  have HN := hide (noSs_own2 (ss := noSs) (by rw [noSs_len]; exact ho.s) (small_max fun s hs => noSs_mem hs))
  have U24 := hide ((unhide U2).below hb)
  have U14 := hide ((unhide U13).below hb)
  have A04 := hide ((unhide A03).below hb)
  have HB4 := hide (fr (unhide HB3) hb)
  clear ho hb A03 HB3 U2 U13
  go_wp2_with fail
  refine (unhide HT _ (unhide HB4)).mono ?_
  rintro e w5 ⟨rfl, md, hw⟩
  have hb : Below w4.heap.size w4 w5 := by rw [hw]; exact Joins.below_draws _ _ _
  clear hw
  have HN5 := hide ((unhide HN).below hb)
  have U25 := hide ((unhide U24).below hb)
  have U15 := hide ((unhide U14).below hb)
  have A05 := hide ((unhide A04).below hb)
  have HB5 := hide (fr (unhide HB4) hb)
  clear hb A04 HB4 U24 U14 HN
  go_wp2_with fail
  refine (formatA g z _ (unhide HZ) (unhide HN5)).mono ?_
  rintro e w6 ⟨po, pa, qo, qa, rfl, hd, hb⟩
  have hb2 := fr hb (Joins.below_alloc1 w6 (.cells #[.slice po 64 pa, .slice qo 0 qa] 34))
  have D := hide (DkZ.new (qo := qo) (pa := pa) (qa := qa) hd)
  have U26 := hide ((unhide U25).below hb2)
  have U16 := hide ((unhide U15).below hb2)
  have A06 := hide ((unhide A05).below hb2)
  have HB6 := hide (fr (unhide HB5) hb2)
  clear hd hb hb2 A05 HB5 U25 U15 HN5
  go_upto_region 7 with fail
  revert HB6
  revert A06
  revert U16
  revert U26
  revert D
  generalize w6.heap.size = y1
  generalize (w6.alloc _) = W6
  intro D U26 U16 A06 HB6
  obtain ⟨d0, d1⟩ := (unhide D).v.cells
  go_wp2_with fail
  refine (readSt po qo pa qa (fmS z) 2 (imNew z) _ (fmS_len z) (rd_fm (unhide HZ)) (unhide D).s ((unhide HES).below (unhide HB6))).mono ?_
  rintro e w7 ⟨a1, ts1, rfl, ho, hb⟩
  have hb2 := fr hb (Joins.below_alloc1 w7 (.cells #[.slice a1.ro (imNew z).refs.length a1.rc, .slice a1.tq (imNew z).table.length a1.tc, .slice a1.so (imNew z).snaps.length a1.sc, .slice a1.dq (imNew z).data.length a1.dc] 26))
  have A1 := hide (ImZ.new (ho.shows (ImR.new (unhide HZ)).M.zs))
  have D7 := hide ((unhide D).below hb2)
  have U27 := hide ((unhide U26).below hb2)
  have U17 := hide ((unhide U16).below hb2)
  have A07 := hide ((unhide A06).below hb2)
  have HB7 := hide (fr (unhide HB6) hb2)
  clear ho hb hb2 A06 HB6 U26 U16 D d0 d1
  go_upto_region 8 with fail
  revert HB7
  revert A07
  revert U17
  revert U27
  revert D7
  revert A1
  generalize w7.heap.size = y2
  generalize (w7.alloc _) = W7
  intro A1 D7 U27 U17 A07 HB7
  have hlen : (((imNew z).table.length : Int) != (z : Int)) = false := by simp [imNew]
  have HSU : Hid (∀ n, Calls Tryz.prog 13 #[.slice q1 (allU M).length k1, .slice q2 (allU M).length k2] (W7.drewN n) fun e w' => e = .returned (.bool true) ∧ ∃ m, w' = (W7.drewN n).drewN m) := hide (fun n => sameUpdates_draws q1 q2 k1 k2 (allU M) (W7.drewN n) (by have := allU_len (unhide HM).few; unfold maxLen; omega) ((unhide U17).below (Joins.below_draws _ _ _)) ((unhide U27).below (Joins.below_draws _ _ _)))
  have HAQ : Hid (∀ n, Calls Tryz.prog 11 #[.slice bo m cb, .int .i64 0, .int .i64 13] (W7.drewN n) fun e w' => e = .returned (.int .i64 z) ∧ ∃ m, w' = (W7.drewN n).drewN m) := hide (fun n => unhide HT _ (fr (unhide HB7) (Joins.below_draws _ _ _)))
  have HLU := hide (allU_len (unhide HM).few)
  obtain ⟨c0, c1, c2, c3⟩ := (unhide A1).v.cells
  obtain ⟨d0, d1⟩ := (unhide D7).v.cells
  go_quiet (first | (go_at_call 13; refine Calls.quiet_of (unhide HSU _)) | (go_at_call 11; refine Calls.quiet_of (unhide HAQ _)))
  have HBQ : Hid (Below W7.heap.size W7 (W7.drewN nq)) := hide (Joins.below_draws _ _ _)
  have D8 := hide ((unhide D7).below (unhide HBQ))
  have A08 := hide ((unhide A07).below (unhide HBQ))
  have U18 := hide ((unhide U17).below (unhide HBQ))
  have HB8 := hide (fr (unhide HB7) (unhide HBQ))
  clear c0 c1 c2 c3 d0 d1 HSU HAQ A1 A07 D7 U17 U27 HB7 HBQ
  revert HB8
  revert U18
  revert A08
  revert D8
  generalize (W7.drewN nq) = W8
  intro D8 A08 U18 HB8
  have HA := hide (Joins.below_alloc1 W8 (.cells #[] 9))
  have DA := hide ((unhide D8).below (unhide HA))
  obtain ⟨d0, d1⟩ := (unhide DA).v.cells
  have HSRC : Hid (0 < 64 → ∃ ad, po = some ad ∧ ∀ j u, (strV (fmS z))[j]? = some u → (W8.alloc (.cells #[] 9)).cell? (ad.add j) = some u) := hide (fun _ => Ss.src (unhide DA).s (by rw [fmS_len]; omega))
  have HNL : (strV (fmS z)).length = 64 * 1 := by rw [strV_length, fmS_len]
  clear D8
  go_wp2_with (at_builtin; refine wpList_append_fresh rfl _ _ 31 rfl 9 i0 (.string ⟨#[]⟩) 1 16 Tryz.underlying31 hi0 hz0 hz1 hz2 rfl (by omega) rfl po 64 pa (strV (fmS z)) rfl HNL (unhide HSRC) (by unfold maxLen; omega) (by omega) ?_; intro ro rc W9 ho hg)
  have HOW0 := hide ho
  have HG0 := hide ((Below.refl W8.heap.size W8).trans ((unhide HA).grown hg (unhide HA).size (fun _ h => by cases h)))
  clear hg
  rcases ho with ⟨e0, _⟩ | ⟨hp, ho⟩
  · omega
  obtain ⟨g, rcp, cur, e, hBg, hg'⟩ := own_form hp ho
  cases e
  clear HOW0
  have HAL := hide (Joins.below_alloc1 W9 (.cells #[.slice (some ⟨g, 0, none⟩) 64 rc, .slice none 0 0] 34))
  have HO := hide (own_below ho (unhide HAL))
  have HV := hide (VarD.new W9 (.slice (some ⟨g, 0, none⟩) 64 rc) (.slice none 0 0))
  have HW := hide (fr (unhide HG0) (unhide HAL))
  have HGE : Hid (W8.heap.size ≤ g) := hide (Nat.le_trans (unhide HA).size hBg)
  have HGN : Hid (g ≠ W9.heap.size) := hide (by have := (Array.getElem?_eq_some_iff.1 hg').1; omega)
  have HUB := hide (allU_at (unhide HM).few)
  have HUS := hide (upW_small (us := allU M) (ss := fmS z) (fmS_small (unhide HZ)) (allU_sz (unhide HM)))
  have HVA : Hid (rdA (upW (fmS z) (allU M)) [] s = (M, 0)) := hide (rd_all (fmS_len z) (fmS_small (unhide HZ)) (unhide HSS) (unhide HM))
  have HVL : Hid ((upW (fmS z) (allU M)).length = 64) := hide (by rw [upW_len, fmS_len])
  clear ho hg' hBg hp DA d0 d1 HSRC HNL HAL HA HG0 cur
  revert HGN
  revert HW
  revert HV
  revert HO
  generalize W9.heap.size = y3
  generalize (W9.alloc _) = W10
  intro HO HV HW HGN
  generalize (W8.alloc (.cells #[] 9)).heap.size = BB at HO
  go_loopw [15] (fun i wr => ∃ (k : Nat), k ≤ (allU M).length ∧ i = .int .i64 k ∧ Hid (wr.ownsRow BB 9 1 (.slice (some ⟨g, 0, none⟩) 64 rc) 64 (strV (upW (fmS z) ((allU M).take k)))) ∧ Hid (VarD wr y3 (.slice (some ⟨g, 0, none⟩) 64 rc) (.slice none 0 0)) ∧ Hid (Below W8.heap.size W8 wr)) (fun i _ => (allU M).length - (intOf i).toNat)
  case atStart => exact ⟨0, Nat.zero_le _, rfl, HO, HV, HW⟩
  case round =>
    clear HO HV HW
    obtain ⟨k, hk, rfl, HO, HV, HW⟩ := hrel
    have hlu := unhide HLU
    obtain ⟨x0, x1⟩ := (unhide HV).cells
    by_cases hlt : k < (allU M).length
    · obtain ⟨b, off, rfl, hc0, hc1, hcz⟩ := (unhide U18).below (unhide HW) k hlt
      have hup := unhide HUB (allU M)[k] (List.getElem_mem hlt)
      obtain ⟨a, ha⟩ : ∃ a : Nat, (allU M)[k].at_ = (a : Int) := ⟨(allU M)[k].at_.toNat, by omega⟩
      have ha64 : a < 64 := by omega
      have HAA : Hid ((allU M)[k].at_.toNat = a) := hide (by omega)
      have hfr := (unhide HO).frozenAt a
      obtain ⟨v0, hcx⟩ : ∃ x, wr.cell? ⟨g, a, none⟩ = some x := ⟨_, ((unhide HO).cellAt a (by omega)).trans (List.getElem?_eq_getElem (by rw [(unhide HO).1]; omega))⟩
      have HST := hide ((unhide HO).stored a (.string (allU M)[k].data))
      rw [ha] at hc0
      clear hcz hup ha
      have HTK := hide (upW_take hlt (fmS z))
      generalize (allU M)[k].data = dd at *
      have hki : (k : Int) < ((allU M).length : Int) := by omega
      have hk0 : (0 : Int) ≤ (k : Int) := by omega
      have ha0 : (0 : Int) ≤ (a : Int) := by omega
      have ha1 : (a : Int) < 64 := by omega
      go_upto_region 14 with fail
      go_region_with fail
      all_goals
        go_wp2
        go_roundw
        case rel =>
          refine ⟨k + 1, by omega, by go_num, hide ?_, hide ?_, hide ?_⟩
          · rw [unhide HTK, unhide HAA, ← strV_set]
            exact own_below (unhide HST).1 (Below.refl _ _).drew
          · exact (VarD.keep (S := fun q => q = g) (unhide HV) (Keep.setCell (S := fun q => q = g) (Keep.refl _ _) (p := ⟨g, a, none⟩) rfl _) (fun e => unhide HGN e.symm)).below (Below.refl _ _).drew
          · exact ((unhide HW).grown (unhide HST).2 (unhide HW).size (fun q h => by cases h; exact unhide HGE)).drew
        case measure => simp [intOf]; omega
    · obtain rfl : k = (allU M).length := by omega
      have HSU : Hid (Ss wr (some ⟨g, 0, none⟩) (upW (fmS z) (allU M))) := hide (by
        have h1 := unhide HO
        rw [List.take_length] at h1
        have h2 : wr.ownsRow BB 9 1 (.slice (some ⟨g, 0, none⟩) (upW (fmS z) (allU M)).length rc) (upW (fmS z) (allU M)).length (strV (upW (fmS z) (allU M))) := by rw [unhide HVL]; exact h1
        exact ownS h2 (small_max (unhide HUS)))
      have A09 := hide ((unhide A08).below (unhide HW))
      have HB9 := hide (fr (unhide HB8) (unhide HW))
      clear A08 HB8 HW U18 HO x0 x1 HUS hk hlt HLU hlen
      revert HVA
      revert HVL
      revert HSU
      generalize upW (fmS z) (allU M) = SS
      intro HSU HVL HVA
      have X0 : Hid (DkZ wr y3 (some ⟨g, 0, none⟩) rc none 0 SS) := hide ⟨unhide HV, unhide HSU⟩
      clear HSU HV
      go_upto_region 15 with fail
      go_cut [16, 17] from 104 to 110 (fun c zz wx => ∃ (C : Nat) (a5 : Im4), c = .pointer (some ⟨C, 0, none⟩) ∧ zz = .int .i64 0 ∧ Hid (ImZ wx C a5 M) ∧ Hid (Below wr.heap.size wr wx))
      case first =>
        have HB : Hid (Below wr.heap.size wr wr.drew) := hide (Below.refl _ _).drew
        have HS := hide ((unhide X0).below (unhide HB))
        have hS0 := (unhide HS).v
        refine wp_region_tree (fun w' => VarD w' y3 (.slice (some ⟨g, 0, none⟩) 64 rc) (.slice none 0 0)) [0, 1, 2, 7] (by kernel_rfl) ?_
        refine tree_seg (n := 8) [(0, 0), (1, 0)] (by kernel_rfl) rfl (by kernel_rfl) ?_
        refine ord_read (.agg #[.slice (some ⟨g, 0, none⟩) 64 rc, .slice none 0 0]) rfl rfl hS0 (fun W hW => by obtain ⟨k0, k1⟩ := hW.cells; go_simp) ?_
        refine ord_read (.slice bo m cb) rfl rfl hS0 (fun W hW => by go_simp) ?_
        refine ord_end ?_
        clear hS0
        revert HS
        revert HB
        generalize wr.drew = wz
        intro HB HS
        refine tree_two (fuel := 7) (i := 2) (j := 7) rfl rfl rfl rfl (by kernel_rfl) ?ta ?tb
        case ta =>
          intro K hK
          unfold Oper.wp
          go_simp
          refine (unhide HT2 _ (fr (unhide HB9) (unhide HB))).mono ?_
          rintro e wn ⟨rfl, md, hw⟩
          have hb : Below wz.heap.size wz wn := by rw [hw]; exact Joins.below_draws _ _ _
          clear hw
          replace HS := hide ((unhide HS).below hb)
          replace HB := hide (fr (unhide HB) hb)
          clear hb
          refine hK _ _ (fun _ => (unhide HS).v) ?_
          clear hK K
          revert HS
          revert HB
          generalize wn = wz
          intro HB HS
          refine tree_two (fuel := 6) (i := 3) (j := 7) rfl rfl rfl rfl (by kernel_rfl) ?tc ?td
          case tc =>
            intro K hK
            unfold Oper.wp
            go_simp
            refine (readSt (some ⟨g, 0, none⟩) none rc 0 SS s M _ (unhide HVL) (unhide HVA) (unhide HS).s ((unhide HES).below (fr (unhide HB9) (unhide HB)))).mono ?_
            rintro e wn ⟨a5, ts5, rfl, ho, hb⟩
            have HOX := hide (OwnIm.base ho (unhide HB).size)
            replace HS := hide ((unhide HS).below hb)
            replace HB := hide (fr (unhide HB) hb)
            clear ho hb
            refine hK _ _ (fun h => absurd h (by decide)) ?_
            clear hK K
            revert HOX
            revert HS
            revert HB
            generalize wn = wz
            intro HB HS HOX
            refine tree_seg (n := 0) [(4, 4), (5, 4), (6, 4), (7, 2), (8, 3), (9, 4)] (by kernel_rfl) rfl (by kernel_rfl) ?_
            refine ord_val (.tuple #[imV a5 M, .int .i64 0]) rfl rfl (fun W => by go_simp) ?_
            refine ord_val (imV a5 M) rfl rfl (fun W => by go_simp) ?_
            refine ord_val (.int .i64 0) rfl rfl (fun W => by go_simp) ?_
            refine ord_held rfl rfl ?_
            intro K hK
            unfold Oper.wp
            go_simp
            have HVC := hide (VarM.new wz 26 (.slice none 0 0) (.slice none 0 0) (.slice none 0 0) (.slice none 0 0))
            have HCL := hide (unhide HB).size
            replace HB := hide (fr (unhide HB) (Joins.below_alloc1 wz (.cells #[.slice none 0 0, .slice none 0 0, .slice none 0 0, .slice none 0 0] 26)))
            replace HS := hide ((unhide HS).below (Joins.below_alloc1 wz (.cells #[.slice none 0 0, .slice none 0 0, .slice none 0 0, .slice none 0 0] 26)))
            replace HOX := hide ((unhide HOX).below (Joins.below_alloc1 wz (.cells #[.slice none 0 0, .slice none 0 0, .slice none 0 0, .slice none 0 0] 26)))
            refine hK _ _ (unhide HS).v ?_
            clear hK K
            revert HOX
            revert HS
            revert HB
            revert HCL
            revert HVC
            generalize wz.heap.size = C
            generalize (wz.alloc _) = wz
            intro HVC HCL HB HS HOX
            obtain ⟨z0, z1, z2, z3⟩ := (unhide HVC).cells
            obtain ⟨f0, f1, f2, f3⟩ := (unhide HVC).free
            have HF := hide (st_put (unhide HVC) (unhide HOX) (unhide HB) (unhide HCL) (unhide HM))
            refine ord_alone rfl rfl ?_
            intro K hK
            unfold Oper.wp
            go_simp
            refine hK _ _ ?_
            clear hK K z0 z1 z2 z3 f0 f1 f2 f3
            refine ord_val (.int .i64 0) rfl rfl (fun W => by go_simp) ?_
            refine ord_end ?_
            refine tree_done (by kernel_rfl) ?_
            go_wp2_with fail
            go_meet
            exact ⟨C, a5, rfl, rfl, hide (unhide HF).1, hide (unhide HF).2⟩
          case td =>
            intro K hK
            unfold Oper.wp
            go_simp
            have HVC := hide (VarM.new wz 26 (.slice none 0 0) (.slice none 0 0) (.slice none 0 0) (.slice none 0 0))
            have HCL := hide (unhide HB).size
            replace HB := hide (fr (unhide HB) (Joins.below_alloc1 wz (.cells #[.slice none 0 0, .slice none 0 0, .slice none 0 0, .slice none 0 0] 26)))
            replace HS := hide ((unhide HS).below (Joins.below_alloc1 wz (.cells #[.slice none 0 0, .slice none 0 0, .slice none 0 0, .slice none 0 0] 26)))
            refine hK _ _ (fun _ => (unhide HS).v) ?_
            clear hK K
            revert HS
            revert HB
            revert HCL
            revert HVC
            generalize wz.heap.size = C
            generalize (wz.alloc _) = wz
            intro HVC HCL HB HS
            refine tree_seg (n := 0) [(3, 3), (4, 4), (5, 4), (6, 4), (8, 3), (9, 4)] (by kernel_rfl) rfl (by kernel_rfl) ?_
            refine ord_alone rfl rfl ?_
            intro K hK
            unfold Oper.wp
            go_simp
            refine (readSt (some ⟨g, 0, none⟩) none rc 0 SS s M _ (unhide HVL) (unhide HVA) (unhide HS).s ((unhide HES).below (fr (unhide HB9) (unhide HB)))).mono ?_
            rintro e wn ⟨a5, ts5, rfl, ho, hb⟩
            have HOX := hide (OwnIm.base ho (unhide HB).size)
            replace HS := hide ((unhide HS).below hb)
            replace HB := hide (fr (unhide HB) hb)
            replace HVC := hide ((unhide HVC).below hb)
            clear ho hb
            refine hK _ _ ?_
            clear hK K
            revert HOX
            revert HS
            revert HB
            revert HVC
            generalize wn = wz
            intro HVC HB HS HOX
            refine ord_val (.tuple #[imV a5 M, .int .i64 0]) rfl rfl (fun W => by go_simp) ?_
            refine ord_val (imV a5 M) rfl rfl (fun W => by go_simp) ?_
            refine ord_val (.int .i64 0) rfl rfl (fun W => by go_simp) ?_
            obtain ⟨z0, z1, z2, z3⟩ := (unhide HVC).cells
            obtain ⟨f0, f1, f2, f3⟩ := (unhide HVC).free
            have HF := hide (st_put (unhide HVC) (unhide HOX) (unhide HB) (unhide HCL) (unhide HM))
            refine ord_alone rfl rfl ?_
            intro K hK
            unfold Oper.wp
            go_simp
            refine hK _ _ ?_
            clear hK K z0 z1 z2 z3 f0 f1 f2 f3
            refine ord_val (.int .i64 0) rfl rfl (fun W => by go_simp) ?_
            refine ord_end ?_
            refine tree_done (by kernel_rfl) ?_
            go_wp2_with fail
            go_meet
            exact ⟨C, a5, rfl, rfl, hide (unhide HF).1, hide (unhide HF).2⟩
        case tb =>
          intro K hK
          unfold Oper.wp
          go_simp
          have HVC := hide (VarM.new wz 26 (.slice none 0 0) (.slice none 0 0) (.slice none 0 0) (.slice none 0 0))
          have HCL := hide (unhide HB).size
          replace HB := hide (fr (unhide HB) (Joins.below_alloc1 wz (.cells #[.slice none 0 0, .slice none 0 0, .slice none 0 0, .slice none 0 0] 26)))
          replace HS := hide ((unhide HS).below (Joins.below_alloc1 wz (.cells #[.slice none 0 0, .slice none 0 0, .slice none 0 0, .slice none 0 0] 26)))
          refine hK _ _ (fun _ => (unhide HS).v) ?_
          clear hK K
          revert HS
          revert HB
          revert HCL
          revert HVC
          generalize wz.heap.size = C
          generalize (wz.alloc _) = wz
          intro HVC HCL HB HS
          refine tree_seg (n := 0) [(2, 2), (3, 3), (4, 4), (5, 4), (6, 4), (8, 3), (9, 4)] (by kernel_rfl) rfl (by kernel_rfl) ?_
          refine ord_held rfl rfl ?_
          intro K hK
          unfold Oper.wp
          go_simp
          refine (unhide HT2 _ (fr (unhide HB9) (unhide HB))).mono ?_
          rintro e wn ⟨rfl, md, hw⟩
          have hb : Below wz.heap.size wz wn := by rw [hw]; exact Joins.below_draws _ _ _
          clear hw
          replace HS := hide ((unhide HS).below hb)
          replace HB := hide (fr (unhide HB) hb)
          replace HVC := hide ((unhide HVC).below hb)
          clear hb
          refine hK _ _ (unhide HS).v ?_
          clear hK K
          revert HS
          revert HB
          revert HVC
          generalize wn = wz
          intro HVC HB HS
          refine ord_alone rfl rfl ?_
          intro K hK
          unfold Oper.wp
          go_simp
          refine (readSt (some ⟨g, 0, none⟩) none rc 0 SS s M _ (unhide HVL) (unhide HVA) (unhide HS).s ((unhide HES).below (fr (unhide HB9) (unhide HB)))).mono ?_
          rintro e wn ⟨a5, ts5, rfl, ho, hb⟩
          have HOX := hide (OwnIm.base ho (unhide HB).size)
          replace HS := hide ((unhide HS).below hb)
          replace HB := hide (fr (unhide HB) hb)
          replace HVC := hide ((unhide HVC).below hb)
          clear ho hb
          refine hK _ _ ?_
          clear hK K
          revert HOX
          revert HS
          revert HB
          revert HVC
          generalize wn = wz
          intro HVC HB HS HOX
          refine ord_val (.tuple #[imV a5 M, .int .i64 0]) rfl rfl (fun W => by go_simp) ?_
          refine ord_val (imV a5 M) rfl rfl (fun W => by go_simp) ?_
          refine ord_val (.int .i64 0) rfl rfl (fun W => by go_simp) ?_
          obtain ⟨z0, z1, z2, z3⟩ := (unhide HVC).cells
          obtain ⟨f0, f1, f2, f3⟩ := (unhide HVC).free
          have HF := hide (st_put (unhide HVC) (unhide HOX) (unhide HB) (unhide HCL) (unhide HM))
          refine ord_alone rfl rfl ?_
          intro K hK
          unfold Oper.wp
          go_simp
          refine hK _ _ ?_
          clear hK K z0 z1 z2 z3 f0 f1 f2 f3
          refine ord_val (.int .i64 0) rfl rfl (fun W => by go_simp) ?_
          refine ord_end ?_
          refine tree_done (by kernel_rfl) ?_
          go_wp2_with fail
          go_meet
          exact ⟨C, a5, rfl, rfl, hide (unhide HF).1, hide (unhide HF).2⟩
      case rest =>
        obtain ⟨C, a5, rfl, rfl, HX5, HBX⟩ := hcut
        have AX := hide ((unhide A09).below (unhide HBX))
        obtain ⟨c0, c1, c2, c3⟩ := (unhide HX5).v.cells
        obtain ⟨d0, d1, d2, d3⟩ := (unhide AX).v.cells
        go_wp2_with fail
        refine (sameST a5 a0 M _ (unhide HM) (unhide HX5).s (unhide AX).s).mono ?_
        rintro e wy ⟨rfl, hb⟩
        have HE := hide (fr (fr (unhide HB9) (unhide HBX)) hb)
        clear hb c0 c1 c2 c3 d0 d1 d2 d3 AX HX5
        go_wp2
        go_ret
        exact ⟨rfl, unhide HE⟩

end Go.Proofs.YtbmkdbccdnbbjaaGreatDoor
