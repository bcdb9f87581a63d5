import Derived.Test.YthnpooffhopnkaaRows
import Derived.Test.YthnpooffhopnkaaPart1
import Derived.Test.YthnpooffhopnkaaPart4
import Derived.Test.YthnpooffhopnkaaPart3
import Derived.Test.YthnpooffhopnkaaPart8
import Derived.Test.YthnpooffhopnkaaPart12
import Derived.Test.YthnpooffhopnkaaPart13
import Derived.WalkKit
import Derived.WalkSpells
import Derived.KernelRfl
import Derived.LoopN
import Derived.BigQuiet
import Derived.Deep.QuietTactic
import Derived.Deep.RegionWith

/- Contracts of the program's equal, sameLists, sameShot, SameGuest. -/
namespace Go.Proofs.Ythnpooffhopnkaa
open Go.RowKit
set_option linter.unusedVariables false
set_option maxRecDepth 100000

theorem equalI_any (x y : Int) (w : World) : Calls Try.prog 68 #[.int .i64 x, .int .i64 y] w fun e w' => e = .returned (.bool (x == y)) ∧ ∃ m, w' = w.drewN m := by
  go_enter Try.func68, Try.ntmps68
  go_wp2
  go_ret
  exact ⟨rfl, 0, rfl⟩

set_option maxHeartbeats 1600000 in
theorem sameListsI_draws (ao bo : Option Addr) (ca cb : Nat) (ss tt : List Int) (w : World) (hl : ss.length ≤ maxLen) (hc : Is w ao ss) (hd : Is w bo tt) :
    Calls Try.prog 67 #[.slice ao ss.length ca, .slice bo tt.length cb, .func (.func 68) #[] #[]] w fun e w' => e = .returned (.bool (eqNB ss tt)) ∧ ∃ m, w' = w.drewN m := by
  have HC := hide hc
  have HD := hide hd
  clear hc hd
  unfold maxLen at hl
  by_cases hle : ss.length = tt.length
  · have hb : ((ss.length : Int) != (tt.length : Int)) = false := by simp [hle]
    have HLE := hide hle
    clear hle
    go_enter Try.func67, Try.ntmps67
    go_wp2
    go_loopw [15] (fun i wr => ∃ (k n : Nat), k ≤ ss.length ∧ i = .int .i64 k ∧ Hid (∀ j (h : j < ss.length) (h' : j < tt.length), j < k → ss[j] = tt[j]) ∧ wr = w.drewN n) (fun i _ => ss.length - (intOf i).toNat)
    case atStart => exact ⟨0, 0, Nat.zero_le _, rfl, hide (fun j _ _ h => by omega), rfl⟩
    case round =>
      obtain ⟨k, n, hk, rfl, HA, rfl⟩ := hrel
      by_cases hlt : k < ss.length
      · have hlt' : k < tt.length := by rw [← unhide HLE]; exact hlt
        obtain ⟨b, off, rfl, hc⟩ := (unhide HC) k hlt
        obtain ⟨b', off', rfl, hc'⟩ := (unhide HD) k hlt'
        have hki : (k : Int) < (ss.length : Int) := by omega
        have hki' : (k : Int) < (tt.length : Int) := by omega
        have hS0 : ∃ m, (w.drewN n).drew = w.drewN m := ⟨n + 1, World.drew_drewN _ _⟩
        have HCELL : Hid (∀ W, (∃ m, W = w.drewN m) → W.cell? ⟨b, off + k, none⟩ = some (.int .i64 ss[k]) ∧ W.cell? ⟨b', off' + k, none⟩ = some (.int .i64 tt[k])) := hide (fun W ⟨m, hW⟩ => by subst hW; exact ⟨hc, hc'⟩)
        clear hc hc'
        go_upto_region 6 with fail
        refine wp_region_ord (fun W => ∃ m, W = w.drewN m) [0, 1, 2, 3, 4, 5, 6, 7, 8, 9, 10] [(0, 0), (1, 0), (2, 0), (3, 0), (4, 0), (5, 0), (6, 0), (7, 0), (8, 0), (9, 2), (10, 0)] (by kernel_rfl) (by kernel_rfl) rfl (by kernel_rfl) ?_
        refine ord_read (.func (.func 68) #[] #[]) rfl rfl hS0 (fun W hW => by go_simp) ?_
        refine ord_read (.slice (some ⟨b, off, none⟩) ss.length ca) rfl rfl hS0 (fun W hW => by go_simp) ?_
        refine ord_read (.int .i64 k) rfl rfl hS0 (fun W hW => by go_simp) ?_
        refine ord_read (.pointer (some ⟨b, off + k, none⟩)) rfl rfl hS0 (fun W hW => by go_simp) ?_
        refine ord_read (.int .i64 ss[k]) rfl rfl hS0 (fun W hW => by obtain ⟨k0, k1⟩ := unhide HCELL W hW; go_simp) ?_
        refine ord_read (.slice (some ⟨b', off', none⟩) tt.length cb) rfl rfl hS0 (fun W hW => by go_simp) ?_
        refine ord_read (.int .i64 k) rfl rfl hS0 (fun W hW => by go_simp) ?_
        refine ord_read (.pointer (some ⟨b', off' + k, none⟩)) rfl rfl hS0 (fun W hW => by go_simp) ?_
        refine ord_read (.int .i64 tt[k]) rfl rfl hS0 (fun W hW => by obtain ⟨k0, k1⟩ := unhide HCELL W hW; go_simp) ?_
        refine ord_held rfl rfl ?_
        intro K hK
        unfold Oper.wp
        go_simp
        refine (equalI_any ss[k] tt[k] _).mono ?_
        rintro e w2 ⟨rfl, m2, hw2⟩
        have hS2 : ∃ m, w2 = w.drewN m := ⟨n + 1 + m2, by rw [hw2]; simp⟩
        refine hK _ _ hS2 ?_
        clear hK K hS0 hw2
        by_cases he : ss[k] = tt[k]
        · have HN := hide (eq_succ hlt hlt' (unhide HA) he)
          have be : (ss[k] == tt[k]) = true := by simp [he]
          rw [be]
          clear he be
          refine ord_read (.bool false) rfl rfl hS2 (fun W hW => by go_simp) ?_
          refine ord_done ?_
          obtain ⟨m3, rfl⟩ := hS2
          go_wp2
          go_roundw
          case rel => exact ⟨k + 1, m3, by omega, by go_num, HN, rfl⟩
          case measure => simp [intOf]; omega
        · have H := hide (eqNB_false hlt hlt' he)
          have be : (ss[k] == tt[k]) = false := by simp [he]
          rw [be]
          clear he be
          refine ord_read (.bool true) rfl rfl hS2 (fun W hW => by go_simp) ?_
          refine ord_done ?_
          obtain ⟨m3, rfl⟩ := hS2
          go_wp2
          go_ret
          exact ⟨ret_bool (unhide H).symm, m3, rfl⟩
      · have H := hide (eqNB_true (unhide HLE) (fun j h h' => unhide HA j h h' (by omega)))
        go_wp2
        go_ret
        exact ⟨ret_bool (unhide H).symm, n, rfl⟩
  · have hb : ((ss.length : Int) != (tt.length : Int)) = true := by simp; omega
    have H := hide (eqNB_false_len hle)
    clear hle
    go_enter Try.func67, Try.ntmps67
    go_wp2
    go_ret
    exact ⟨ret_bool (unhide H).symm, 0, rfl⟩

set_option maxHeartbeats 1600000 in
theorem sameShot_any (s t : Snp) (p q : Option Addr) (pc qc : Nat) (w : World) (hn : s.table.length ≤ maxLen) (h1 : Is w p s.table) (h2 : Is w q t.table) :
    Calls Try.prog 70 #[snV s p pc, snV t q qc] w fun e w' => e = .returned (.bool (eqS1 s t)) ∧ Below w.heap.size w w' := by
  have HA := hide (Joins.below_alloc2 w (.cells #[.string s.name, .slice p s.table.length pc] 69) (.cells #[.string t.name, .slice q t.table.length qc] 69))
  have HV := hide ((VarG.new w 69 (.string s.name) (.slice p s.table.length pc)).below (Joins.below_alloc1 _ (.cells #[.string t.name, .slice q t.table.length qc] 69)))
  have HU := hide ((VarG.new (w.alloc (.cells #[.string s.name, .slice p s.table.length pc] 69)) 69 (.string t.name) (.slice q t.table.length qc)).at (show _ = w.heap.size + 1 by simp))
  have H1 := hide (h1.below (unhide HA))
  have H2 := hide (h2.below (unhide HA))
  have HN := hide hn
  clear h1 h2 hn
  obtain ⟨R, HR⟩ : ∃ R, Hid (R = eqS1 s t) := ⟨_, hide rfl⟩
  rw [← unhide HR]
  go_enter Try.func70, Try.ntmps70
  go_upto_region 1 with fail
  revert HA HV HU H1 H2
  generalize ((w.alloc _).alloc _) = W0
  intro HA HV HU H1 H2
  obtain ⟨c0, c1⟩ := (unhide HV).cells
  obtain ⟨d0, d1⟩ := (unhide HU).cells
  by_cases hnm : s.name = t.name
  · have HX : Hid (R = eqNB s.table t.table) := hide (by rw [unhide HR, eqS1, decide_eq_true hnm]; rfl)
    have be : (s.name.toList == t.name.toList) = true := by simp [hnm]
    clear hnm HR
    go_wp2_with fail
    refine (sameListsI_draws p q pc qc s.table t.table _ (unhide HN) (unhide H1) (unhide H2)).mono ?_
    rintro e w1 ⟨rfl, m, hm⟩
    have HB1 : Hid (Below W0.heap.size W0 w1) := hide (by rw [hm]; exact Joins.below_draws _ _ _)
    clear hm c0 c1 d0 d1
    go_wp2
    go_ret
    exact ⟨ret_bool (unhide HX).symm, fr (unhide HA) (unhide HB1)⟩
  · have HX : Hid (R = false) := hide (by rw [unhide HR, eqS1, decide_eq_false hnm]; rfl)
    have be : (s.name.toList == t.name.toList) = false := str_beq_false hnm
    clear hnm HR
    go_wp2
    go_ret
    exact ⟨ret_bool (unhide HX).symm, unhide HA⟩

set_option maxHeartbeats 3200000 in
theorem sameListsS_any (ao bo : Option Addr) (ca cb : Nat) (ss tt : List Snp) (w : World) (hl : ss.length ≤ maxLen) (hc : Sns w ao ss) (hd : Sns w bo tt) :
    Calls Try.prog 69 #[.slice ao ss.length ca, .slice bo tt.length cb, .func (.func 70) #[] #[]] w fun e w' => e = .returned (.bool (eqShB ss tt)) ∧ Below w.heap.size w w' := by
  have HC := hide hc
  have HD := hide hd
  clear hc hd
  unfold maxLen at hl
  by_cases hle : ss.length = tt.length
  · have hb : ((ss.length : Int) != (tt.length : Int)) = false := by simp [hle]
    have HLE := hide hle
    clear hle
    go_enter Try.func69, Try.ntmps69
    go_wp2
    go_loopw [15] (fun i wr => ∃ (k : Nat), k ≤ ss.length ∧ i = .int .i64 k ∧ Hid (∀ j (h : j < ss.length) (h' : j < tt.length), j < k → eqS1 ss[j] tt[j] = true) ∧ Hid (Below w.heap.size w wr)) (fun i _ => ss.length - (intOf i).toNat)
    case atStart => exact ⟨0, Nat.zero_le _, rfl, hide (fun j _ _ h => by omega), hide (Below.refl _ _)⟩
    case round =>
      obtain ⟨k, hk, rfl, HA, HB⟩ := hrel
      by_cases hlt : k < ss.length
      · have hlt' : k < tt.length := by rw [← unhide HLE]; exact hlt
        obtain ⟨b, off, q1, p1, rfl, hc0, hc1, i1, _, hm1⟩ := ((unhide HC).below (unhide HB)) k hlt
        obtain ⟨b', off', q2, p2, rfl, hd0, hd1, i2, _, _⟩ := ((unhide HD).below (unhide HB)) k hlt'
        have hki : (k : Int) < (ss.length : Int) := by omega
        have hki' : (k : Int) < (tt.length : Int) := by omega
        have HCELL : Hid (∀ W, Below wr.heap.size wr W → W.cell? ⟨b, off + k * 2, none⟩ = some (.string ss[k].name) ∧ W.cell? ⟨b, off + k * 2 + 1, none⟩ = some (.slice q1 ss[k].table.length p1) ∧ W.cell? ⟨b', off' + k * 2, none⟩ = some (.string tt[k].name) ∧ W.cell? ⟨b', off' + k * 2 + 1, none⟩ = some (.slice q2 tt[k].table.length p2)) := hide (fun W hW => ⟨(hW.cell (p := ⟨b, off + k * 2, none⟩) (World.block_lt_of_cell? _ _ hc0)).trans hc0, (hW.cell (p := ⟨b, off + k * 2 + 1, none⟩) (World.block_lt_of_cell? _ _ hc1)).trans hc1, (hW.cell (p := ⟨b', off' + k * 2, none⟩) (World.block_lt_of_cell? _ _ hd0)).trans hd0, (hW.cell (p := ⟨b', off' + k * 2 + 1, none⟩) (World.block_lt_of_cell? _ _ hd1)).trans hd1⟩)
        have HCALL : Hid (∀ W, Below wr.heap.size wr W → Calls Try.prog 70 #[snV ss[k] q1 p1, snV tt[k] q2 p2] W fun e w' => e = .returned (.bool (eqS1 ss[k] tt[k])) ∧ Below W.heap.size W w') := hide (fun W hW => sameShot_any _ _ _ _ _ _ W hm1 (i1.below hW) (i2.below hW))
        clear hc0 hc1 hd0 hd1 i1 i2 hm1
        go_upto_region 6 with fail
        have hS0 : Below wr.heap.size wr wr.drew := (Below.refl _ _).drew
        refine wp_region_ord (fun w' => Below wr.heap.size wr w') [0, 1, 2, 3, 4, 5, 6, 7, 8, 9, 10] [(0, 0), (1, 0), (2, 0), (3, 0), (4, 0), (5, 0), (6, 0), (7, 0), (8, 0), (9, 2), (10, 0)] (by kernel_rfl) (by kernel_rfl) rfl (by kernel_rfl) ?_
        refine ord_read (.func (.func 70) #[] #[]) rfl rfl hS0 (fun W hW => by go_simp) ?_
        refine ord_read (.slice (some ⟨b, off, none⟩) ss.length ca) rfl rfl hS0 (fun W hW => by go_simp) ?_
        refine ord_read (.int .i64 k) rfl rfl hS0 (fun W hW => by go_simp) ?_
        refine ord_read (.pointer (some ⟨b, off + k * 2, none⟩)) rfl rfl hS0 (fun W hW => by go_simp) ?_
        refine ord_read (.agg #[.string ss[k].name, .slice q1 ss[k].table.length p1]) rfl rfl hS0 (fun W hW => by obtain ⟨k0, k1, k2, k3⟩ := unhide HCELL W hW; go_simp) ?_
        refine ord_read (.slice (some ⟨b', off', none⟩) tt.length cb) rfl rfl hS0 (fun W hW => by go_simp) ?_
        refine ord_read (.int .i64 k) rfl rfl hS0 (fun W hW => by go_simp) ?_
        refine ord_read (.pointer (some ⟨b', off' + k * 2, none⟩)) rfl rfl hS0 (fun W hW => by go_simp) ?_
        refine ord_read (.agg #[.string tt[k].name, .slice q2 tt[k].table.length p2]) rfl rfl hS0 (fun W hW => by obtain ⟨k0, k1, k2, k3⟩ := unhide HCELL W hW; go_simp) ?_
        refine ord_held rfl rfl ?_
        intro K hK
        unfold Oper.wp
        go_simp
        refine (unhide HCALL _ hS0).mono ?_
        rintro e w2 ⟨rfl, hb2⟩
        have hS2 : Below wr.heap.size wr w2 := fr hS0 hb2
        refine hK _ _ hS2 ?_
        clear hK K hS0 hb2
        cases he : eqS1 ss[k] tt[k]
        · have HF := hide (eqShB_at hlt hlt' he)
          refine ord_read (.bool true) rfl rfl hS2 (fun W hW => by go_simp) ?_
          refine ord_done ?_
          have HB2 := hide (fr (unhide HB) hS2)
          clear hS2
          go_wp2
          go_ret
          exact ⟨ret_bool (unhide HF).symm, unhide HB2⟩
        · have HN := hide (eqS1_succ hlt hlt' (unhide HA) he)
          refine ord_read (.bool false) rfl rfl hS2 (fun W hW => by go_simp) ?_
          refine ord_done ?_
          have HB2 := hide (fr (unhide HB) hS2)
          clear hS2
          go_wp2
          go_roundw
          case rel => exact ⟨k + 1, by omega, by go_num, HN, HB2⟩
          case measure => simp [intOf]; omega
      · have H := hide (eqShB_yes (unhide HLE) (fun j h h' => unhide HA j h h' (by omega)))
        go_wp2
        go_ret
        exact ⟨ret_bool (unhide H).symm, unhide HB⟩
  · have hb : ((ss.length : Int) != (tt.length : Int)) = true := by simp; omega
    have H := hide (eqShB_len hle)
    clear hle
    go_enter Try.func69, Try.ntmps69
    go_wp2
    go_ret
    exact ⟨ret_bool (unhide H).symm, Below.refl _ _⟩

set_option maxHeartbeats 1600000 in
theorem sameGuest_impl (a b : Gs4) (g h : Gst) (w : World) (hg : GsL g) (hh : GsL h) (h1 : GsS w a g) (h2 : GsS w b h) :
    Calls Try.prog 31 #[gsV a g, gsV b h] w fun e w' => e = .returned (.bool (gsEq g h)) ∧ Below w.heap.size w w' := by
  have HA := hide (Joins.below_alloc2 w (.cells #[.slice a.vo g.vals.length a.vc, .slice a.so g.shots.length a.sc] 30) (.cells #[.slice b.vo h.vals.length b.vc, .slice b.so h.shots.length b.sc] 30))
  have HV := hide ((VarG.new w 30 (.slice a.vo g.vals.length a.vc) (.slice a.so g.shots.length a.sc)).below (Joins.below_alloc1 _ (.cells #[.slice b.vo h.vals.length b.vc, .slice b.so h.shots.length b.sc] 30)))
  have HU := hide ((VarG.new (w.alloc (.cells #[.slice a.vo g.vals.length a.vc, .slice a.so g.shots.length a.sc] 30)) 30 (.slice b.vo h.vals.length b.vc) (.slice b.so h.shots.length b.sc)).at (show _ = w.heap.size + 1 by simp))
  have H1 := hide (h1.below (unhide HA))
  have H2 := hide (h2.below (unhide HA))
  have HG := hide hg
  have HH := hide hh
  obtain ⟨R, HR⟩ : ∃ R, Hid (R = gsEq g h) := ⟨_, hide rfl⟩
  rw [← unhide HR]
  clear h1 h2 hg hh
  go_enter Try.func31, Try.ntmps31
  go_upto_region 1 with fail
  revert HA HV HU H1 H2
  generalize ((w.alloc _).alloc _) = W0
  intro HA HV HU H1 H2
  obtain ⟨c0, c1⟩ := (unhide HV).cells
  obtain ⟨d0, d1⟩ := (unhide HU).cells
  go_wp2_with fail
  refine (sameListsI_draws a.vo b.vo a.vc b.vc g.vals h.vals _ (unhide HG).v (unhide H1).v (unhide H2).v).mono ?_
  rintro e w1 ⟨rfl, m, hm⟩
  have HB1 : Hid (Below W0.heap.size W0 w1) := hide (by rw [hm]; exact Joins.below_draws _ _ _)
  clear hm c0 c1 d0 d1
  obtain ⟨c0, c1⟩ := ((unhide HV).below (unhide HB1)).cells
  obtain ⟨d0, d1⟩ := ((unhide HU).below (unhide HB1)).cells
  cases hv : eqNB g.vals h.vals
  · have HF : Hid (R = false) := hide (by rw [unhide HR, gsEq, hv]; rfl)
    clear HR
    go_wp2
    go_ret
    exact ⟨ret_bool (unhide HF).symm, fr (unhide HA) (unhide HB1)⟩
  have HR2 : Hid (R = eqShB g.shots h.shots) := hide (by rw [unhide HR, gsEq, hv]; rfl)
  clear HR hv
  go_wp2_with fail
  refine (sameListsS_any a.so b.so a.sc b.sc g.shots h.shots _ (unhide HG).s ((unhide H1).below (unhide HB1)).s ((unhide H2).below (unhide HB1)).s).mono ?_
  rintro e w2 ⟨rfl, hb⟩
  have HB2 := hide (fr (unhide HB1) hb)
  clear hb c0 c1 d0 d1
  go_wp2
  go_ret
  exact ⟨ret_bool (unhide HR2).symm, fr (unhide HA) (unhide HB2)⟩

end Go.Proofs.Ythnpooffhopnkaa

/- The walk of laws.FnExactSameGuest. -/
namespace Go.Proofs.Ythnpooffhopnkaa
open Go.RowKit
set_option linter.unusedVariables false
set_option maxRecDepth 100000

set_option maxHeartbeats 3200000 in
theorem lawGsSameGuest (a b : Gs4) (g h : Gst) (w : World) (hg : GsL g) (hh : GsL h) (h1 : GsS w a g) (h2 : GsS w b h)
    (hzg : ∀ s ∈ g.shots, s.name.size ≤ maxLen ∧ s.table.length ≤ maxLen) (hzh : ∀ s ∈ h.shots, s.name.size ≤ maxLen ∧ s.table.length ≤ maxLen) :
    Calls Try.prog 7 #[gsV a g, gsV b h] w fun e w' => e = .returned (.bool true) ∧ Below w.heap.size w w' := by
  have HA := hide (Joins.below_alloc2 w (.cells #[.slice a.vo g.vals.length a.vc, .slice a.so g.shots.length a.sc] 25) (.cells #[.slice b.vo h.vals.length b.vc, .slice b.so h.shots.length b.sc] 25))
  have HV := hide ((VarG.new w 25 (.slice a.vo g.vals.length a.vc) (.slice a.so g.shots.length a.sc)).below (Joins.below_alloc1 _ (.cells #[.slice b.vo h.vals.length b.vc, .slice b.so h.shots.length b.sc] 25)))
  have HU := hide ((VarG.new (w.alloc (.cells #[.slice a.vo g.vals.length a.vc, .slice a.so g.shots.length a.sc] 25)) 25 (.slice b.vo h.vals.length b.vc) (.slice b.so h.shots.length b.sc)).at (show _ = w.heap.size + 1 by simp))
  have H1 := hide (h1.below (unhide HA))
  have H2 := hide (h2.below (unhide HA))
  have HG := hide hg
  have HH := hide hh
  have HZG := hide hzg
  have HZH := hide hzh
  clear h1 h2 hg hh hzg hzh
  go_enter Try.func7, Try.ntmps7
  go_upto_region 2 with fail
  revert HA HV HU H1 H2
  generalize ((w.alloc _).alloc _) = W0
  intro HA HV HU H1 H2
  obtain ⟨c0, c1⟩ := (unhide HV).cells
  go_wp2_with fail
  refine (szGuest_any a g 1048576 _ (unhide HG).v (unhide HG).s (by omega) (by omega) (unhide H1)).mono ?_
  rintro e w1 ⟨r, rfl, hr0, hr1, hr2, hb⟩
  have HB1 := hide (fr (unhide HA) hb)
  have HV1 := hide ((unhide HV).below hb)
  have HU1 := hide ((unhide HU).below hb)
  have H11 := hide ((unhide H1).below hb)
  have H21 := hide ((unhide H2).below hb)
  clear hb c0 c1 HA HV HU H1 H2
  by_cases hneg : r < 0
  · go_wp2
    go_ret
    exact ⟨rfl, unhide HB1⟩
  have HSG := hide (GsBd.of (g := g) (by have := hr2 (by omega); omega))
  clear hr2
  obtain ⟨d0, d1⟩ := (unhide HU1).cells
  go_wp2_with fail
  refine (szGuest_any b h r _ (unhide HH).v (unhide HH).s (by omega) (by omega) (unhide H21)).mono ?_
  rintro e w2 ⟨q, rfl, hq0, hq1, hq2, hb⟩
  have HB2 := hide (fr (unhide HB1) hb)
  have HV2 := hide ((unhide HV1).below hb)
  have HU2 := hide ((unhide HU1).below hb)
  have H12 := hide ((unhide H11).below hb)
  have H22 := hide ((unhide H21).below hb)
  clear hb d0 d1 HB1 HV1 HU1 H11 H21
  by_cases hneg2 : q < 0
  · go_wp2
    go_ret
    exact ⟨rfl, unhide HB2⟩
  have HSH := hide (GsBd.of (g := h) (by have := hq2 (by omega); omega))
  clear hq2
  -- the model's answer
  obtain ⟨R, HR⟩ : ∃ R, Hid (R = gsEq g h) := ⟨_, hide rfl⟩
  go_upto_region 8 with fail
  have hS0 : Below w2.heap.size w2 w2.drew := (Below.refl _ _).drew
  refine wp_region_ord (fun w' => Below w2.heap.size w2 w') [0, 2, 1, 3, 4, 5] [(0, 0), (2, 0), (1, 2), (3, 2), (4, 2), (5, 0)] (by kernel_rfl) (by kernel_rfl) rfl (by kernel_rfl) ?_
  refine ord_read (gsV a g) rfl rfl hS0 (fun W hW => by obtain ⟨k0, k1⟩ := ((unhide HV2).below hW).cells; go_simp) ?_
  refine ord_read (gsV b h) rfl rfl hS0 (fun W hW => by obtain ⟨k0, k1⟩ := ((unhide HU2).below hW).cells; go_simp) ?_
  refine ord_held rfl rfl ?_
  intro K hK
  unfold Oper.wp
  go_simp
  refine (toGuest_B a g _ (unhide HSG) ((unhide H12).below hS0)).mono ?_
  rintro e w3 ⟨a3, ts3, rfl, ho3, hb3⟩
  have hS3 : Below w2.heap.size w2 w3 := fr hS0 hb3
  have H13 := hide (ho3.shows (unhide HZG))
  refine hK _ _ hS3 ?_
  clear hK K hb3 ho3 hS0
  refine ord_held rfl rfl ?_
  intro K hK
  unfold Oper.wp
  go_simp
  refine (toGuest_B b h _ (unhide HSH) ((unhide H22).below hS3)).mono ?_
  rintro e w4 ⟨b4, ts4, rfl, ho4, hb4⟩
  have hS4 : Below w2.heap.size w2 w4 := fr hS3 hb4
  have H14 := hide ((unhide H13).below hb4)
  have H24 := hide (ho4.shows (unhide HZH))
  refine hK _ _ hS4 ?_
  clear hK K hb4 ho4 hS3 H13
  refine ord_held rfl rfl ?_
  intro K hK
  unfold Oper.wp
  go_simp
  refine (sameGuest_spec a3 b4 g h _ (unhide HG) (unhide HH) (unhide H14) (unhide H24)).mono ?_
  rintro e w5 ⟨rfl, hb5⟩
  have hS5 : Below w2.heap.size w2 w5 := fr hS4 hb5
  refine hK _ _ hS5 ?_
  clear hK K hb5 hS4 H14 H24
  rw [← unhide HR]
  refine ord_read (.bool R) rfl rfl hS5 (fun W hW => by go_simp) ?_
  refine ord_done ?_
  have HB5 := hide (fr (unhide HB2) hS5)
  have HV5 := hide ((unhide HV2).below hS5)
  have HU5 := hide ((unhide HU2).below hS5)
  have H15 := hide ((unhide H12).below hS5)
  have H25 := hide ((unhide H22).below hS5)
  clear hS5 HB2 HV2 HU2 H12 H22
  -- the arguments' copies
  go_upto_region 9 with fail
  obtain ⟨c0, c1⟩ := (unhide HV5).cells
  go_wp2_with fail
  refine (toGuest_B a g _ (unhide HSG) (unhide H15)).mono ?_
  rintro e w6 ⟨aX, tsX, rfl, hoX, hb6⟩
  have hbA := fr hb6 (Joins.below_alloc1 w6 (.cells #[.slice aX.vo g.vals.length aX.vc, .slice aX.so g.shots.length aX.sc] 30))
  have HX6 := hide (LwG.new w6 aX g hoX hb6.size)
  have HB6 := hide (fr (unhide HB5) hbA)
  have HV6 := hide ((unhide HV5).below hbA)
  have HU6 := hide ((unhide HU5).below hbA)
  have H16 := hide ((unhide H15).below hbA)
  have H26 := hide ((unhide H25).below hbA)
  clear hbA hb6 hoX c0 c1 HB5 HV5 HU5 H15 H25
  go_upto_region 10 with fail
  revert H26
  revert H16
  revert HU6
  revert HV6
  revert HB6
  revert HX6
  generalize (w6.alloc _) = W6
  generalize w6.heap.size = pX
  intro HX6 HB6 HV6 HU6 H16 H26
  obtain ⟨d0, d1⟩ := (unhide HU6).cells
  go_wp2_with fail
  refine (toGuest_B b h _ (unhide HSH) (unhide H26)).mono ?_
  rintro e w7 ⟨bX, tsY, rfl, hoY, hb7⟩
  have hbA := fr hb7 (Joins.below_alloc1 w7 (.cells #[.slice bX.vo h.vals.length bX.vc, .slice bX.so h.shots.length bX.sc] 30))
  have HY7 := hide (LwG.new w7 bX h hoY hb7.size)
  have HX7 := hide ((unhide HX6).below hbA)
  have HB7 := hide (fr (unhide HB6) hbA)
  have HV7 := hide ((unhide HV6).below hbA)
  have HU7 := hide ((unhide HU6).below hbA)
  have H17 := hide ((unhide H16).below hbA)
  have H27 := hide ((unhide H26).below hbA)
  clear hbA hb7 hoY d0 d1 HX6 HB6 HV6 HU6 H16 H26
  go_upto_region 11 with fail
  revert H27
  revert H17
  revert HU7
  revert HV7
  revert HB7
  revert HX7
  revert HY7
  generalize (w7.alloc _) = W7
  generalize w7.heap.size = pY
  intro HY7 HX7 HB7 HV7 HU7 H17 H27
  -- the program's answer
  obtain ⟨c0, c1⟩ := (unhide HX7).v.cells
  obtain ⟨d0, d1⟩ := (unhide HY7).v.cells
  go_wp2_with fail
  refine (sameGuest_impl aX bX g h _ (unhide HG) (unhide HH) ((unhide HX7).o.shows (unhide HZG)) ((unhide HY7).o.shows (unhide HZH))).mono ?_
  rintro e w8 ⟨rfl, hb⟩
  rw [← unhide HR]
  have HY8 := hide ((unhide HY7).below hb)
  have HX8 := hide ((unhide HX7).below hb)
  have HB8 := hide (fr (unhide HB7) hb)
  have HV8 := hide ((unhide HV7).below hb)
  have HU8 := hide ((unhide HU7).below hb)
  have H18 := hide ((unhide H17).below hb)
  have H28 := hide ((unhide H27).below hb)
  clear hb c0 c1 d0 d1 HY7 HX7 HB7 HV7 HU7 H17 H27
  have bcc : (R != R) = false := by simp
  go_upto_region 14 with fail
  have hS0 : Below w8.heap.size w8 w8.drew := (Below.refl _ _).drew
  refine wp_region_ord (fun w' => Below w8.heap.size w8 w') [0, 1, 2, 3, 4] [(0, 0), (1, 0), (2, 2), (3, 2), (4, 0)] (by kernel_rfl) (by kernel_rfl) rfl (by kernel_rfl) ?_
  refine ord_read (gsV aX g) rfl rfl hS0 (fun W hW => by obtain ⟨k0, k1⟩ := ((unhide HX8).v.below hW).cells; go_simp) ?_
  refine ord_read (gsV a g) rfl rfl hS0 (fun W hW => by obtain ⟨k0, k1⟩ := ((unhide HV8).below hW).cells; go_simp) ?_
  refine ord_held rfl rfl ?_
  intro K hK
  unfold Oper.wp
  go_simp
  refine (toGuest_B a g _ (unhide HSG) ((unhide H18).below hS0)).mono ?_
  rintro e w9 ⟨a9, ts9, rfl, ho9, hb9⟩
  have hS9 : Below w8.heap.size w8 w9 := fr hS0 hb9
  have H19 := hide (ho9.shows (unhide HZG))
  refine hK _ _ hS9 ?_
  clear hK K hb9 ho9 hS0
  refine ord_held rfl rfl ?_
  intro K hK
  unfold Oper.wp
  go_simp
  refine (eqGuest_B aX a9 g _ (unhide HSG) (((unhide HX8).below hS9).o.shows (unhide HZG)) (unhide H19)).mono ?_
  rintro e w10 ⟨rfl, hb10⟩
  have hS10 : Below w8.heap.size w8 w10 := fr hS9 hb10
  refine hK _ _ hS10 ?_
  clear hK K hb10 hS9 H19
  refine ord_read (.bool false) rfl rfl hS10 (fun W hW => by go_simp) ?_
  refine ord_done ?_
  have HY10 := hide ((unhide HY8).below hS10)
  have HB10 := hide (fr (unhide HB8) hS10)
  have HU10 := hide ((unhide HU8).below hS10)
  have H210 := hide ((unhide H28).below hS10)
  clear hS10 HY8 HB8 HU8 H28 HX8 HV8 H18
  go_upto_region 16 with fail
  have hS0 : Below w10.heap.size w10 w10.drew := (Below.refl _ _).drew
  refine wp_region_ord (fun w' => Below w10.heap.size w10 w') [0, 1, 2, 3, 4] [(0, 0), (1, 0), (2, 2), (3, 2), (4, 0)] (by kernel_rfl) (by kernel_rfl) rfl (by kernel_rfl) ?_
  refine ord_read (gsV bX h) rfl rfl hS0 (fun W hW => by obtain ⟨k0, k1⟩ := ((unhide HY10).v.below hW).cells; go_simp) ?_
  refine ord_read (gsV b h) rfl rfl hS0 (fun W hW => by obtain ⟨k0, k1⟩ := ((unhide HU10).below hW).cells; go_simp) ?_
  refine ord_held rfl rfl ?_
  intro K hK
  unfold Oper.wp
  go_simp
  refine (toGuest_B b h _ (unhide HSH) ((unhide H210).below hS0)).mono ?_
  rintro e w11 ⟨b11, ts11, rfl, ho11, hb11⟩
  have hS11 : Below w10.heap.size w10 w11 := fr hS0 hb11
  have H211 := hide (ho11.shows (unhide HZH))
  refine hK _ _ hS11 ?_
  clear hK K hb11 ho11 hS0
  refine ord_held rfl rfl ?_
  intro K hK
  unfold Oper.wp
  go_simp
  refine (eqGuest_B bX b11 h _ (unhide HSH) (((unhide HY10).below hS11).o.shows (unhide HZH)) (unhide H211)).mono ?_
  rintro e w12 ⟨rfl, hb12⟩
  have hS12 : Below w10.heap.size w10 w12 := fr hS11 hb12
  refine hK _ _ hS12 ?_
  clear hK K hb12 hS11 H211
  refine ord_read (.bool false) rfl rfl hS12 (fun W hW => by go_simp) ?_
  refine ord_done ?_
  have HB12 := hide (fr (unhide HB10) hS12)
  clear hS12
  go_wp2
  go_ret
  exact ⟨rfl, unhide HB12⟩

end Go.Proofs.Ythnpooffhopnkaa

/- The walk of laws.FnExactSameGuest. -/
namespace Go.Proofs.Ythnpooffhopnkaa
open Go.RowKit
set_option linter.unusedVariables false
set_option maxRecDepth 100000

theorem gs_zsSameGuest {w : World} {a : Gs4} {g : Gst} (hc : GsS w a g) : ∀ s ∈ g.shots, s.name.size ≤ maxLen ∧ s.table.length ≤ maxLen := fun s hs => by
  obtain ⟨j, hj, rfl⟩ := List.mem_iff_getElem.1 hs
  obtain ⟨_, _, _, _, _, _, _, _, h1, h2⟩ := hc.s j hj
  exact ⟨h1, h2⟩
theorem wkSameGuest (a : Gs4) (g : Gst) (b : Gs4) (h : Gst) (w : World) (hL : GsL g) (hc : GsS w a g) (hM : GsL h) (hd : GsS w b h) :
    Calls Try.prog 7 #[gsV a g, gsV b h] w fun e w' => e = .returned (.bool true) ∧ Below w.heap.size w w' :=
  lawGsSameGuest a b g h w hL hM hc hd (gs_zsSameGuest hc) (gs_zsSameGuest hd)

end Go.Proofs.Ythnpooffhopnkaa
