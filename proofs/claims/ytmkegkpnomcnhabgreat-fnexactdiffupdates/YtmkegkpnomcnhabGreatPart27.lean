import Derived.Test.YtmkegkpnomcnhabGreatRows
import Derived.Test.YtmkegkpnomcnhabGreatPart21
import Derived.WalkKit
import Derived.WalkSpells
import Derived.KernelRfl
import Derived.LoopN
import Derived.BigQuiet
import Derived.Deep.QuietTactic
import Derived.Test.YtmkegkpnomcnhabGreatPart12
import Derived.Test.YtmkegkpnomcnhabGreatPart17
import Derived.Test.YtmkegkpnomcnhabGreatPart26

/- Contracts of the model's l11Diff, DiffUpdates. (Made ahead of stage 11.) -/
namespace Go.Proofs.YtmkegkpnomcnhabGreat
open Go.RowKit
set_option linter.unusedVariables false
set_option maxRecDepth 100000

theorem tabU_sz : ∀ (ss : List Snp) (i : Nat), (∀ s ∈ ss, s.table.length ≤ 12) → ∀ u ∈ tabU i ss, u.data.size ≤ 80
  | [], i, _, u, hu => by simp [tabU] at hu
  | s :: ss, i, h, u, hu => by
    simp only [tabU, List.mem_cons] at hu
    rcases hu with rfl | hu
    · have := h s (by simp)
      have e : (encTb s.table).size = 4 + s.table.length * 4 := sealS_size 3 s.table
      simp only
      omega
    · exact tabU_sz ss (i + 1) (fun s hs => h s (by simp [hs])) u hu
theorem allU_sz {m : Img} (h : ImR m) : ∀ u ∈ allU m, u.data.size ≤ 80 := fun u hu => by
  unfold allU at hu
  rw [List.mem_append, List.mem_append] at hu
  rcases hu with (hu | hu) | hu
  · have h1 : (sealS 1 (supL m)).size = 4 + (supL m).length * 4 := sealS_size 1 _
    have h2 : (encT m.refs).size = 20 := sealS_size 2 (ctNs m.refs)
    have h3 : (encTb m.table).size = 4 + m.table.length * 4 := sealS_size 3 m.table
    have h4 : (supL m).length = m.snaps.length + 1 := by simp [supL]
    have h5 := h.few
    have h6 := tbB_len h.table
    simp only [headU, List.mem_cons, List.not_mem_nil, or_false] at hu
    rcases hu with rfl | rfl | rfl <;> simp only <;> omega
  · exact tabU_sz m.snaps 0 (fun s hs => tbB_len (h.snaps s hs).2) u hu
  · unfold dataU at hu
    obtain ⟨c, _, hc⟩ := List.mem_flatMap.1 hu
    unfold datU at hc
    split at hc
    · rw [List.mem_singleton] at hc
      subst hc
      have : (sealS 4 [m.data.getD c 0]).size = 8 := sealS_size 4 _
      simp only
      omega
    · simp at hc
/-- Whether one of these updates is this one, as far as it has gone. -/
def anyK (X : List Up) (u : Up) (k : Nat) : Bool := (X.take k).any fun v => upEq v u
theorem anyK_succ {X : List Up} {u : Up} {k : Nat} (hk : k < X.length) : anyK X u (k + 1) = (anyK X u k || upEq X[k] u) := by
  unfold anyK
  rw [List.take_succ_eq_append_getElem hk, List.any_append]; simp
theorem anyK_all (X : List Up) (u : Up) : anyK X u X.length = X.any fun v => upEq v u := by rw [anyK, List.take_length]
def difK (X Y : List Up) (k : Nat) : List Up := (Y.take k).filter fun u => !(X.any fun v => upEq v u)
theorem difK_succ {X Y : List Up} {k : Nat} (hk : k < Y.length) : difK X Y (k + 1) = if (X.any fun v => upEq v Y[k]) = true then difK X Y k else difK X Y k ++ [Y[k]] := by
  unfold difK
  rw [List.take_succ_eq_append_getElem hk, List.filter_append]
  cases h : X.any fun v => upEq v Y[k] <;> simp [h]
theorem difK_all (X Y : List Up) : difK X Y Y.length = Y.filter fun u => !(X.any fun v => upEq v u) := by rw [difK, List.take_length]

set_option maxHeartbeats 3200000 in
theorem l11Diff_any (a b : Im4) (ma mb : Img) (w : World) (hA : ImR ma) (hB : ImR mb) (h1 : ImS w a ma) (h2 : ImS w b mb) :
    Calls Tryz.prog 31 #[imV a ma, imV b mb] w fun e w' => ∃ qo qa, e = .returned (.slice qo (difU ma mb).length qa) ∧ UpS w w' qo (difU ma mb).length qa (difU ma mb) := by
  have HA := hide (Joins.below_alloc2 w (.cells #[.slice a.ro ma.refs.length a.rc, .slice a.tq ma.table.length a.tc, .slice a.so ma.snaps.length a.sc, .slice a.dq ma.data.length a.dc] 32) (.cells #[.slice b.ro mb.refs.length b.rc, .slice b.tq mb.table.length b.tc, .slice b.so mb.snaps.length b.sc, .slice b.dq mb.data.length b.dc] 32))
  have HV := hide ((VarM.new w 32 (.slice a.ro ma.refs.length a.rc) (.slice a.tq ma.table.length a.tc) (.slice a.so ma.snaps.length a.sc) (.slice a.dq ma.data.length a.dc)).below (Joins.below_alloc1 _ (.cells #[.slice b.ro mb.refs.length b.rc, .slice b.tq mb.table.length b.tc, .slice b.so mb.snaps.length b.sc, .slice b.dq mb.data.length b.dc] 32)))
  have HU := hide ((VarM.new (w.alloc (.cells #[.slice a.ro ma.refs.length a.rc, .slice a.tq ma.table.length a.tc, .slice a.so ma.snaps.length a.sc, .slice a.dq ma.data.length a.dc] 32)) 32 (.slice b.ro mb.refs.length b.rc) (.slice b.tq mb.table.length b.tc) (.slice b.so mb.snaps.length b.sc) (.slice b.dq mb.data.length b.dc)).at (y := w.heap.size + 1) (by simp))
  have H1 := hide (h1.below (unhide HA))
  have H2 := hide (h2.below (unhide HA))
  have HIA := hide hA
  have HIB := hide hB
  have HXZ : Hid ((∀ u ∈ allU ma, u.data.size ≤ maxLen) ∧ (∀ u ∈ allU mb, u.data.size ≤ maxLen)) := hide ⟨fun u hu => by have := allU_sz hA u hu; unfold maxLen; omega, fun u hu => by have := allU_sz hB u hu; unfold maxLen; omega⟩
  have hlx := allU_len (m := ma) hA.few
  have hly := allU_len (m := mb) hB.few
  obtain ⟨R, hRR⟩ : ∃ R, R = difU ma mb := ⟨_, rfl⟩
  rw [← hRR]
  have HD : Hid (R = difK (allU ma) (allU mb) (allU mb).length) := hide (hRR.trans (difK_all _ _).symm)
  clear hRR
  clear h1 h2 hA hB
  obtain ⟨j0, hj, hy0, hy1, hy2⟩ := info_parts infoUs
  go_enter Tryz.func31, Tryz.ntmps31
  go_upto_region 1 with fail
  revert HA HV HU H1 H2
  generalize ((w.alloc _).alloc _) = W0
  intro HA HV HU H1 H2
  obtain ⟨c0, c1, c2, c3⟩ := (unhide HV).cells
  go_wp2_with fail
  refine (l11All_any a ma _ (unhide HIA) (unhide H1)).mono ?_
  rintro e w1 ⟨xo, xa, rfl, hu⟩
  have HX := hide (ownUps hu.o (unhide HXZ).1)
  have HB1 := hide hu.k
  clear hu c0 c1 c2 c3
  obtain ⟨c0, c1, c2, c3⟩ := ((unhide HU).below (unhide HB1)).cells
  go_wp2_with fail
  refine (l11All_any b mb _ (unhide HIB) ((unhide H2).below (unhide HB1))).mono ?_
  rintro e w2 ⟨yo, ya, rfl, hu⟩
  have HY := hide (ownUps hu.o (unhide HXZ).2)
  have HX2 := hide ((unhide HX).below hu.k)
  have HB2 := hide (fr (unhide HA) (fr (unhide HB1) hu.k))
  clear hu c0 c1 c2 c3 HX HB1 HV HU H1 H2 HA
  generalize allU ma = X at *
  generalize allU mb = Y at *
  have H0 : Hid (UpS w2 (w2.alloc (.cells #[] 52)) (some ⟨w2.heap.size, 0, none⟩) 0 0 (difK X Y 0)) := hide ⟨.inl ⟨rfl, rfl, _, rfl⟩, Joins.below_alloc1 _ _⟩
  go_wp2
  go_loopw [7, 8] (fun o i wr => ∃ (k N : Nat) (qo : Option Addr) (qa : Nat), k ≤ Y.length ∧ N ≤ k ∧ i = .int .i64 k ∧ o = .slice qo N qa ∧ Hid (UpS w2 wr qo N qa (difK X Y k))) (fun _ i _ => Y.length - (intOf i).toNat)
  case atStart => exact ⟨0, 0, _, _, Nat.zero_le _, Nat.le_refl _, rfl, rfl, H0⟩
  case round =>
    clear H0
    obtain ⟨k, N, qo, qa, hk, hN, rfl, rfl, HU⟩ := hrel
    by_cases hlt : k < Y.length
    · have hlti : (k : Int) < (Y.length : Int) := by omega
      obtain ⟨by_, oy, ey, hya, hyd, _⟩ := ((unhide HY).below (unhide HU).k) k hlt
      have HSU := hide (difK_succ (X := X) hlt)
      have HYW : Hid (wr.cell? ⟨by_, oy + k * 2, none⟩ = some (.int .i64 Y[k].at_) ∧ wr.cell? ⟨by_, oy + k * 2 + 1, none⟩ = some (.string Y[k].data)) := hide ⟨hya, hyd⟩
      have HXW : Hid (Ups wr xo X) := hide ((unhide HX2).below (unhide HU).k)
      clear hya hyd
      subst ey
      generalize hYk : Y[k] = u at *
      clear hYk
      go_wp2
      go_loopw [9, 10] (fun s j wq => ∃ (kk n : Nat), kk ≤ X.length ∧ j = .int .i64 kk ∧ s = .bool (anyK X u kk) ∧ wq = wr.drewN n) (fun _ j _ => X.length - (intOf j).toNat)
      case atStart => exact ⟨0, 0, Nat.zero_le _, rfl, rfl, rfl⟩
      case round =>
        obtain ⟨kk, n, hkk, rfl, rfl, rfl⟩ := hrel
        by_cases hl2 : kk < X.length
        · have hl2i : (kk : Int) < (X.length : Int) := by omega
          obtain ⟨bx, ox, ex, hxa, hxd, _⟩ := (unhide HXW) kk hl2
          obtain ⟨hya, hyd⟩ := unhide HYW
          have HSS := hide (anyK_succ (u := u) hl2)
          subst ex
          cases hs : anyK X u kk
          · by_cases ha : X[kk].at_ = u.at_
            · by_cases hd : X[kk].data = u.data
              · have HT : Hid (anyK X u (kk + 1) = true) := hide (by rw [unhide HSS, hs]; simp [upEq, ha, hd])
                rw [ha] at hxa
                rw [hd] at hxd
                clear ha hd hs
                go_wp2
                go_quiet (fail)
                go_wp2
                go_roundw
                case rel => exact ⟨kk + 1, _, by omega, by go_num, by rw [unhide HT], rfl⟩
                case measure => simp [intOf]; omega
              · have HT : Hid (anyK X u (kk + 1) = false) := hide (by rw [unhide HSS, hs]; simp [upEq, hd])
                have bd : (X[kk].data.toList == u.data.toList) = false := str_beq_false hd
                rw [ha] at hxa
                clear ha hd hs
                go_wp2
                go_quiet (fail)
                go_wp2
                go_roundw
                case rel => exact ⟨kk + 1, _, by omega, by go_num, by rw [unhide HT], rfl⟩
                case measure => simp [intOf]; omega
            · have HT : Hid (anyK X u (kk + 1) = false) := hide (by rw [unhide HSS, hs]; simp [upEq, ha])
              have bd : (X[kk].at_ == u.at_) = false := by simp [ha]
              clear ha hs
              go_wp2
              go_quiet (fail)
              go_wp2
              go_roundw
              case rel => exact ⟨kk + 1, _, by omega, by go_num, by rw [unhide HT], rfl⟩
              case measure => simp [intOf]; omega
          · have HT : Hid (anyK X u (kk + 1) = true) := hide (by rw [unhide HSS, hs]; rfl)
            clear hs
            go_wp2
            go_quiet (fail)
            go_wp2
            go_roundw
            case rel => exact ⟨kk + 1, _, by omega, by go_num, by rw [unhide HT], rfl⟩
            case measure => simp [intOf]; omega
        · obtain rfl : kk = X.length := by omega
          have HAL := hide (anyK_all X u)
          obtain ⟨hya, hyd⟩ := unhide HYW
          have HUN := hide ((unhide HU).next (Joins.below_draws _ wr n))
          have hya' : (wr.drewN n).cell? ⟨by_, oy + k * 2, none⟩ = some (.int .i64 u.at_) := hya
          have hyd' : (wr.drewN n).cell? ⟨by_, oy + k * 2 + 1, none⟩ = some (.string u.data) := hyd
          clear hya hyd
          cases hs : anyK X u X.length
          · have HNX : Hid (difK X Y (k + 1) = difK X Y k ++ [u]) := hide (by rw [unhide HSU, if_neg (by rw [← unhide HAL, hs]; simp)])
            clear hs
            generalize (wr.drewN n) = Wn at *
            have HUA := hide ((unhide HUN).next (Joins.below_alloc1 Wn (.cells #[.int .i64 u.at_, .string u.data] 52)))
            have HSZ := hide (unhide HUA).sz
            go_wp2_with (at_builtin; refine wpList_append_one rfl _ _ 27 rfl w2.heap.size 52 j0 (.agg #[.int .i64 0, .string ⟨#[]⟩]) 2 24 Tryz.underlying27 hj hy0 hy1 hy2 rfl (by omega) qo N qa (upsV (difK X Y k)) rfl (unhide HUA).o (unhide HSZ) ⟨Wn.heap.size, 0, none⟩ _ (upV u) rfl rfl (news2_at Wn _ u _ rfl) (upV_one _) (by unfold maxLen; omega) (by omega) ?_; intro g2 cap2 wA hoA hkA; have HU6 := hide (UpS.one (unhide HUA) hoA hkA); clear hoA hkA)
            go_roundw
            case rel => exact ⟨k + 1, N + 1, some ⟨g2, 0, none⟩, cap2, by omega, by omega, by go_num, rfl, by rw [unhide HNX]; exact HU6⟩
            case measure => simp [intOf]; omega
          · have HNX : Hid (difK X Y (k + 1) = difK X Y k) := hide (by rw [unhide HSU, if_pos (by rw [← unhide HAL, hs])])
            clear hs
            go_wp2
            go_roundw
            case rel => exact ⟨k + 1, N, qo, qa, by omega, by omega, by go_num, rfl, by rw [unhide HNX]; exact HUN⟩
            case measure => simp [intOf]; omega
    · obtain rfl : k = Y.length := by omega
      have hNl := (unhide HU).len
      have HF : Hid (UpS w wr qo R.length qa R) := hide (by
        have h := unhide HU
        rw [hNl, ← unhide HD] at h
        exact ⟨h.o.base (unhide HB2).size, fr (unhide HB2) h.k⟩)
      have HL2 : Hid (N = R.length) := hide (by rw [unhide HD]; exact hNl)
      clear hNl HU
      go_wp2
      go_ret
      rw [unhide HL2]
      exact ⟨qo, qa, rfl, unhide HF⟩

set_option maxHeartbeats 1600000 in
theorem diffUpdates_spec (a b : Im4) (ma mb : Img) (w : World) (hLa : ImL ma) (hLb : ImL mb) (h1 : ImS w a ma) (h2 : ImS w b mb) :
    Calls Tryz.prog 14 #[imV a ma, imV b mb] w fun e w' => ∃ qo qa, e = .returned (.tuple #[.slice qo (dfA ma mb).1.length qa, .int .i64 (dfA ma mb).2]) ∧ UpS w w' qo (dfA ma mb).1.length qa (dfA ma mb).1 := by
  have HA := hide (Joins.below_alloc2 w (.cells #[.slice a.ro ma.refs.length a.rc, .slice a.tq ma.table.length a.tc, .slice a.so ma.snaps.length a.sc, .slice a.dq ma.data.length a.dc] 32) (.cells #[.slice b.ro mb.refs.length b.rc, .slice b.tq mb.table.length b.tc, .slice b.so mb.snaps.length b.sc, .slice b.dq mb.data.length b.dc] 32))
  have HV := hide ((VarM.new w 32 (.slice a.ro ma.refs.length a.rc) (.slice a.tq ma.table.length a.tc) (.slice a.so ma.snaps.length a.sc) (.slice a.dq ma.data.length a.dc)).below (Joins.below_alloc1 _ (.cells #[.slice b.ro mb.refs.length b.rc, .slice b.tq mb.table.length b.tc, .slice b.so mb.snaps.length b.sc, .slice b.dq mb.data.length b.dc] 32)))
  have HU := hide ((VarM.new (w.alloc (.cells #[.slice a.ro ma.refs.length a.rc, .slice a.tq ma.table.length a.tc, .slice a.so ma.snaps.length a.sc, .slice a.dq ma.data.length a.dc] 32)) 32 (.slice b.ro mb.refs.length b.rc) (.slice b.tq mb.table.length b.tc) (.slice b.so mb.snaps.length b.sc) (.slice b.dq mb.data.length b.dc)).at (y := w.heap.size + 1) (by simp))
  have H1 := hide (h1.below (unhide HA))
  have H2 := hide (h2.below (unhide HA))
  have HLA := hide hLa
  have HLB := hide hLb
  clear h1 h2 hLa hLb
  obtain ⟨R, hRR⟩ : ∃ R, R = dfA ma mb := ⟨_, rfl⟩
  rw [← hRR]
  have HR := hide hRR
  clear hRR
  go_enter Tryz.func14, Tryz.ntmps14
  go_upto_region 1 with fail
  revert HA HV HU H1 H2
  generalize ((w.alloc _).alloc _) = W0
  intro HA HV HU H1 H2
  obtain ⟨c0, c1, c2, c3⟩ := (unhide HV).cells
  go_wp2_with fail
  refine (imageOK_spec a ma _ (unhide HLA) (unhide H1)).mono ?_
  rintro e w1 ⟨rfl, hb⟩
  have HB := hide hb
  clear hb c0 c1 c2 c3
  cases hia : imB ma
  · have HE : Hid (R = ([], 1)) := hide (by rw [unhide HR, dfA, hia]; rfl)
    have HF : Hid (UpS w (w1.alloc (.cells #[] 52)) (some ⟨w1.heap.size, 0, none⟩) 0 0 []) := hide ⟨.inl ⟨rfl, rfl, _, rfl⟩, fr (unhide HA) (fr (unhide HB) (Joins.below_alloc1 _ _))⟩
    go_wp2
    go_ret2
    rw [unhide HE]
    exact ⟨_, _, rfl, unhide HF⟩
  obtain ⟨c0, c1, c2, c3⟩ := ((unhide HU).below (unhide HB)).cells
  go_wp2_with fail
  refine (imageOK_spec b mb _ (unhide HLB) ((unhide H2).below (unhide HB))).mono ?_
  rintro e w2 ⟨rfl, hb⟩
  replace HB := hide (fr (unhide HB) hb)
  clear hb c0 c1 c2 c3
  cases hib : imB mb
  · have HE : Hid (R = ([], 1)) := hide (by rw [unhide HR, dfA, hia, hib]; rfl)
    have HF : Hid (UpS w (w2.alloc (.cells #[] 52)) (some ⟨w2.heap.size, 0, none⟩) 0 0 []) := hide ⟨.inl ⟨rfl, rfl, _, rfl⟩, fr (unhide HA) (fr (unhide HB) (Joins.below_alloc1 _ _))⟩
    go_wp2
    go_ret2
    rw [unhide HE]
    exact ⟨_, _, rfl, unhide HF⟩
  · have HE : Hid (R = (difU ma mb, 0)) := hide (by rw [unhide HR, dfA, hia, hib]; rfl)
    have HIA := hide (imB_iff.1 hia)
    have HIB := hide (imB_iff.1 hib)
    clear hia hib
    obtain ⟨c0, c1, c2, c3⟩ := ((unhide HV).below (unhide HB)).cells
    obtain ⟨d0, d1, d2, d3⟩ := ((unhide HU).below (unhide HB)).cells
    go_wp2_with fail
    refine (l11Diff_any a b ma mb _ (unhide HIA) (unhide HIB) ((unhide H1).below (unhide HB)) ((unhide H2).below (unhide HB))).mono ?_
    rintro e w3 ⟨qo, qa, rfl, hu⟩
    have HF : Hid (UpS w w3 qo (difU ma mb).length qa (difU ma mb)) := hide ⟨hu.o.base (fr (unhide HA) (unhide HB)).size, fr (fr (unhide HA) (unhide HB)) hu.k⟩
    clear hu c0 c1 c2 c3 d0 d1 d2 d3
    generalize difU ma mb = L at *
    go_wp2
    go_ret2
    rw [unhide HE]
    exact ⟨qo, qa, rfl, unhide HF⟩

end Go.Proofs.YtmkegkpnomcnhabGreat

/- The walk of laws.FnExactDiffUpdates. -/
namespace Go.Proofs.YtmkegkpnomcnhabGreat
open Go.RowKit
set_option linter.unusedVariables false
set_option maxRecDepth 100000

theorem df_bd (a b : Img) : (dfA a b).1.length ≤ 1000 ∧ ∀ s ∈ (dfA a b).1, s.data.size ≤ maxLen := by
  unfold dfA
  by_cases h : imB a = true ∧ imB b = true
  · rw [if_pos h]
    have hR := imB_iff.1 h.2
    refine ⟨?_, fun s hs => allU_sizes hR s (List.mem_filter.1 hs).1⟩
    have h1 := allU_len hR.few
    have h2 : (difU a b).length ≤ (allU b).length := List.length_filter_le _ _
    simp only
    omega
  · rw [if_neg h]
    exact ⟨by simp, by simp⟩
theorem wkDiffUpdates (a : Im4) (m : Img) (b : Im4) (n : Img) (w : World) (hl : m.refs.length ≤ maxLen ∧ m.table.length ≤ maxLen ∧ m.snaps.length ≤ maxLen ∧ m.data.length ≤ maxLen) (hc : ImS w a m) (hl2 : n.refs.length ≤ maxLen ∧ n.table.length ≤ maxLen ∧ n.snaps.length ≤ maxLen ∧ n.data.length ≤ maxLen) (hc2 : ImS w b n) :
    Calls Tryz.prog 4 #[imV a m, imV b n] w fun e w' => e = .returned (.bool true) ∧ Below w.heap.size w w' :=
  have hL : ImL m := ⟨hl.1, hl.2.1, hl.2.2.1, hl.2.2.2⟩
  have hL2 : ImL n := ⟨hl2.1, hl2.2.1, hl2.2.2.1, hl2.2.2.2⟩
  lawImDiffUpdates a b m n (dfA m n) w hL hL2 hc hc2 (df_bd m n) (fun c d W h1 h2 => diffUpdates_spec c d m n W hL hL2 h1 h2) (fun c d W h1 h2 => diffUpdates_impl c d m n W hL hL2 h1 h2)

end Go.Proofs.YtmkegkpnomcnhabGreat
