import Derived.Test.YtjjkppknojecjaaGreatDoorRows
import Derived.Test.YtjjkppknojecjaaGreatDoorXWorldAgreesPart1
import Derived.Test.YtjjkppknojecjaaGreatDoorXWorldAgreesPart2
import Derived.Test.YtjjkppknojecjaaGreatDoorXWorldAgreesPart3
import Derived.Test.YtjjkppknojecjaaGreatDoorXWorldAgreesPart8
import Derived.Test.YtjjkppknojecjaaGreatDoorXWorldAgreesPart5
import Derived.Test.YtjjkppknojecjaaGreatDoorXWorldAgreesPart12
import Derived.Test.YtjjkppknojecjaaGreatDoorXWorldAgreesPart4
import Derived.Test.YtjjkppknojecjaaGreatDoorXWorldAgreesPart14
import Derived.Test.YtjjkppknojecjaaGreatDoorXWorldAgreesPart7
import Derived.WalkKit
import Derived.WalkSpells
import Derived.KernelRfl
import Derived.LoopN
import Derived.Deep.RegionWith
import Derived.BigQuiet
import Derived.Deep.QuietTactic
import Derived.Test.YtjjkppknojecjaaGreatDoorXWorldAgreesPart10
import Derived.Test.YtjjkppknojecjaaGreatDoorXWorldAgreesPart11
import Derived.ProofKit
import Derived.OpenShut
import Derived.ShutString
import Derived.SliceStrings
import Derived.Lib.SmallJoins
import Derived.Test.YtjjkppknojecjaaGreatDoorXWorldAgreesPart9
import Derived.OwnWalk
import Derived.Deep.RegionLawGrows
import Derived.Deep.RegionHeld3
import Derived.Deep.CutRange
import Derived.Laws.BytesArg

namespace Go.Proofs.YtjjkppknojecjaaGreatDoor
open Go.RowKit
set_option linter.unusedVariables false
set_option maxRecDepth 100000

set_option maxHeartbeats 800000 in
theorem valuesShownC_any (a : Im4) (m : Img) (x : Nat) (e : Int) (w : World) (he0 : 0 ≤ e) (he1 : e - 2 < m.data.length) (hd : m.data.length ≤ 900) (hv : VarM w x 61 (.slice a.ro m.refs.length a.rc) (.slice a.tq m.table.length a.tc) (.slice a.so m.snaps.length a.sc) (.slice a.dq m.data.length a.dc)) (hc : Is w a.dq m.data) :
    Calls Tryz.prog 138 #[.int .i64 (min e 2), .int .i64 (max 0 (e - 2)), .pointer (some ⟨x, 0, none⟩)] w fun r w' => r = .returned (.tuple #[.int .i64 (imVal m e), .bool true]) ∧ w' = w := by
  by_cases h2 : e < 2
  · have HE : Hid (imVal m e = 0) := hide (if_pos h2)
    have h3 : (min e 2 != 2) = true := by simp; omega
    clear h2
    generalize min e 2 = K2 at *
    generalize max 0 (e - 2) = C2 at *
    go_enter Tryz.func138, Tryz.ntmps138
    go_wp2
    go_ret2
    exact ⟨by rw [unhide HE]; rfl, rfl⟩
  · obtain ⟨c, hcc⟩ := Int.eq_ofNat_of_zero_le (show 0 ≤ e - 2 by omega)
    have hcd : c < m.data.length := by omega
    have hcdi : (c : Int) < (m.data.length : Int) := by omega
    have HE : Hid (imVal m e = m.data[c]) := hide (by rw [imVal, if_neg h2, hcc, Int.toNat_natCast]; simp [List.getD, hcd])
    have h1 : min e 2 = 2 := by omega
    have h3 : max 0 (e - 2) = (c : Int) := by omega
    rw [h1, h3]
    obtain ⟨b3, o3, e3, hx3⟩ := hc c hcd
    obtain ⟨c0, c1, c2, c3⟩ := hv.cells
    rw [e3] at c3
    clear h1 h3 h2 hcc e3
    generalize m.data[c] = V at *
    go_enter Tryz.func138, Tryz.ntmps138
    go_wp2
    go_ret2
    exact ⟨by rw [unhide HE]; rfl, rfl⟩

set_option maxHeartbeats 1600000 in
theorem takeEntries_vals (a : Im4) (m : Img) (x : Nat) (ao : Option Addr) (cap : Nat) (xs : List Int) (w : World) (hl : xs.length ≤ 1000) (hx : ∀ j (h : j < xs.length), 0 ≤ xs[j] ∧ xs[j] - 2 < m.data.length) (hd : m.data.length ≤ 900) (hv : VarM w x 61 (.slice a.ro m.refs.length a.rc) (.slice a.tq m.table.length a.tc) (.slice a.so m.snaps.length a.sc) (.slice a.dq m.data.length a.dc)) (hcd : Is w a.dq m.data) (hc : Is w ao xs) :
    Calls Tryz.prog 137 #[.slice ao xs.length cap, .func (.func 138) #[] #[.pointer (some ⟨x, 0, none⟩)]] w fun e w' => ∃ v, e = .returned v ∧ OwnN w' w.heap.size v (shT m xs) ∧ Below w.heap.size w w' := by
  obtain ⟨j0, hj, hy0, hy1, hy2⟩ := info_parts infoIg
  have HC := hide hc
  have HCD := hide hcd
  have HX := hide hx
  have HD := hide hd
  have HV := hide hv
  clear hc hcd hx hd hv
  go_enter Tryz.func137, Tryz.ntmps137
  go_wp2
  go_loopw [5, 12] (fun o i wr => ∃ (k : Nat) (ys : List Int) (qo : Option Addr) (qa : Nat), k ≤ xs.length ∧ i = .int .i64 k ∧ o = .slice qo ys.length qa ∧ Hid (ys = shT m (xs.take k)) ∧ Hid (OwnR wr w.heap.size 3 1 (.slice qo ys.length qa) ys.length (intV ys)) ∧ Hid (Below w.heap.size w wr)) (fun _ i _ => xs.length - (intOf i).toNat)
  case atStart => exact ⟨0, [], _, _, Nat.zero_le _, rfl, rfl, hide rfl, hide (.inl ⟨rfl, rfl, _, rfl⟩), hide (Below.refl _ _)⟩
  case round =>
    obtain ⟨k, ys, qo, qa, hk, rfl, rfl, HE, HO, HB⟩ := hrel
    by_cases hlt : k < xs.length
    · obtain ⟨b, off, rfl, hcl⟩ := ((unhide HC).below (unhide HB)) k hlt
      have HXK := hide (unhide HX k hlt)
      have HS := hide (shT_take (m := m) hlt)
      have HYL : Hid (ys.length ≤ 1000) := hide (by rw [unhide HE, shT, List.length_map, List.length_take]; omega)
      have hyl := unhide HYL
      generalize xs[k] = X at *
      have HCALL : Hid (∀ W, Below wr.heap.size wr W → Calls Tryz.prog 138 #[.int .i64 (min X 2), .int .i64 (max 0 (X - 2)), .pointer (some ⟨x, 0, none⟩)] W fun r w' => r = .returned (.tuple #[.int .i64 (imVal m X), .bool true]) ∧ w' = W) := hide (fun W hW => valuesShownC_any a m x X W (unhide HXK).1 (unhide HXK).2 (unhide HD) (((unhide HV).below (unhide HB)).below hW) (((unhide HCD).below (unhide HB)).below hW))
      have HSE : Hid (∀ W, Calls Tryz.prog 150 #[.int .i64 X] W fun e w' => e = .returned (.tuple #[.int .i64 (min X 2), .int .i64 (max 0 (X - 2))]) ∧ w' = W) := hide (fun W => splitEntry_any X W (by have := unhide HXK; omega) (by have := unhide HXK; have := unhide HD; omega))
      generalize imVal m X = V at *
      generalize min X 2 = K2 at *
      generalize max 0 (X - 2) = C2 at *
      have HOA := hide ((unhide HO).below (Joins.below_alloc1 _ (.cells #[.int .i64 V] 3)))
      have HBA := hide (fr (unhide HB) (Joins.below_alloc1 _ (.cells #[.int .i64 V] 3)))
      have HSZ := hide (unhide HB).size
      go_wp2_with (first | (go_at_call 150; refine (unhide HSE _).mono ?_; rintro e w' ⟨rfl, hw⟩; replace hw := hw.symm; subst hw) | (go_at_call 138; refine (unhide HCALL _ (Below.refl _ _)).mono ?_; rintro e w' ⟨rfl, hw⟩; replace hw := hw.symm; subst hw) | (at_builtin; refine wpList_append_one rfl _ _ 29 rfl w.heap.size 3 j0 (.int .i64 0) 1 8 Tryz.underlying29 hj hy0 hy1 hy2 rfl (by omega) qo ys.length qa (intV ys) rfl (unhide HOA) (by have := unhide HSZ; simp; omega) ⟨wr.heap.size, 0, none⟩ _ [.int .i64 V] rfl rfl (byte_news wr _ _) (int_one _) (by unfold maxLen; omega) (by omega) ?_; intro g2 cap2 wA hoA hkA; have HSF := hide (And.intro hoA (keep_below (unhide HBA) (unhide HOA) (Nat.le_refl _) hkA)); clear hoA hkA))
      go_roundw
      case rel => exact ⟨k + 1, ys ++ [V], some ⟨g2, 0, none⟩, cap2, by omega, by go_num, by simp, hide (by rw [unhide HS, unhide HE]), hide (by rw [List.length_append, intV_snoc]; exact .inr ⟨by simp, (unhide HSF).1⟩), hide (unhide HSF).2⟩
      case measure => simp [intOf]; omega
    · have HS : Hid (shT m xs = ys) := hide (by rw [unhide HE, List.take_of_length_le (by omega)])
      go_wp2
      go_ret
      exact ⟨.slice qo ys.length qa, rfl, by rw [unhide HS]; exact ⟨qo, qa, rfl, unhide HO⟩, unhide HB⟩

set_option maxHeartbeats 1600000 in
theorem valuesShown_any (a : Im4) (m : Img) (ao : Option Addr) (cap : Nat) (xs : List Int) (w : World) (hl : xs.length ≤ 1000) (hx : ∀ j (h : j < xs.length), 0 ≤ xs[j] ∧ xs[j] - 2 < m.data.length) (hd : m.data.length ≤ 900) (hcd : Is w a.dq m.data) (hc : Is w ao xs) :
    Calls Tryz.prog 110 #[imV a m, .slice ao xs.length cap] w fun e w' => ∃ v, e = .returned v ∧ OwnN w' w.heap.size v (shT m xs) ∧ Below w.heap.size w w' := by
  have hmf : ∀ (fn : Fn) (first cap : Array Value) (w : World), (Instr.makeFunc fn first cap).run Tryz.prog w = .ok (.func fn first cap) w := fun _ _ _ _ => rfl
  have HA := hide (Joins.below_alloc1 w (.cells #[.slice a.ro m.refs.length a.rc, .slice a.tq m.table.length a.tc, .slice a.so m.snaps.length a.sc, .slice a.dq m.data.length a.dc] 61))
  have HV := hide (VarM.new w 61 (.slice a.ro m.refs.length a.rc) (.slice a.tq m.table.length a.tc) (.slice a.so m.snaps.length a.sc) (.slice a.dq m.data.length a.dc))
  have HC := hide (hc.below (unhide HA))
  have HCD := hide (hcd.below (unhide HA))
  have HX := hide hx
  have HD := hide hd
  clear hc hcd hx hd
  go_enter Tryz.func110, Tryz.ntmps110
  go_upto_region 1 with fail
  revert HA HV HC HCD
  generalize (w.alloc _) = W0
  intro HA HV HC HCD
  go_wp2_with fail
  refine (takeEntries_vals a m w.heap.size ao cap xs _ hl (unhide HX) (unhide HD) (unhide HV) (unhide HCD) (unhide HC)).mono ?_
  rintro e w2 ⟨v, rfl, ho, hb⟩
  have HO := hide (ho.base (unhide HA).size)
  have HB := hide (fr (unhide HA) hb)
  clear ho hb
  go_wp2
  go_ret
  exact ⟨v, rfl, unhide HO, unhide HB⟩

set_option maxHeartbeats 6400000 in
theorem guestOf_impl (a : Im4) (m : Img) (w : World) (hL : ImL m) (hc : ImS w a m) :
    Calls Tryz.prog 66 #[imV a m] w fun e w' => AnsG w w' e (goA m) := by
  obtain ⟨j0, hj0, hy0, hy1, hy2⟩ := info_parts infoSg
  have HA := hide (Joins.below_alloc2 w (.cells #[.slice a.ro m.refs.length a.rc, .slice a.tq m.table.length a.tc, .slice a.so m.snaps.length a.sc, .slice a.dq m.data.length a.dc] 61) (.cells #[.slice none 0 0, .slice none 0 0] 47))
  have HV := hide ((VarM.new w 61 (.slice a.ro m.refs.length a.rc) (.slice a.tq m.table.length a.tc) (.slice a.so m.snaps.length a.sc) (.slice a.dq m.data.length a.dc)).below (Joins.below_alloc1 _ (.cells #[.slice none 0 0, .slice none 0 0] 47)))
  have HR := hide ((VarG.new (w.alloc (.cells #[.slice a.ro m.refs.length a.rc, .slice a.tq m.table.length a.tc, .slice a.so m.snaps.length a.sc, .slice a.dq m.data.length a.dc] 61)) 47 (.slice none 0 0) (.slice none 0 0)).at (show _ = w.heap.size + 1 by simp))
  have HC := hide (hc.below (unhide HA))
  have HL := hide hL
  clear hc hL
  obtain ⟨R, HRR⟩ : ∃ R, Hid (R = goA m) := ⟨_, hide rfl⟩
  rw [← unhide HRR]
  go_enter Tryz.func66, Tryz.ntmps66
  go_upto_region 1 with fail
  revert HA HV HR HC
  generalize ((w.alloc _).alloc _) = W0
  intro HA HV HR HC
  obtain ⟨c0, c1, c2, c3⟩ := (unhide HV).cells
  go_wp2_with fail
  refine (imageOK_impl a m _ (unhide HL) (unhide HC)).mono ?_
  rintro e w1 ⟨rfl, hb⟩
  have HA1 := hide (fr (unhide HA) hb)
  have HV1 := hide ((unhide HV).below hb)
  have HR1 := hide ((unhide HR).below hb)
  have HC1 := hide ((unhide HC).below hb)
  have HLT := hide (unhide HR1).lt
  clear hb c0 c1 c2 c3 HA HV HR HC
  cases him : imB m
  · have HF : Hid (R = (gs0, 1)) := hide (by rw [unhide HRR, goA, him]; rfl)
    obtain ⟨r0, r1⟩ := (unhide HR1).cells
    obtain ⟨z0, z1⟩ := (unhide HR1).free
    have HS := hide (((unhide HR1).set0 (.slice none 0 0)).set1 (.slice none 0 0))
    have HB2 := hide (((unhide HA1).setCell (p := ⟨w.heap.size + 1, 0, none⟩) (Nat.le_succ _) (.slice none 0 0)).setCell (p := ⟨w.heap.size + 1, 1, none⟩) (Nat.le_succ _) (.slice none 0 0))
    clear him
    go_wp2
    refine bodyPost_ret (res_gc Tryz.results66 rfl rfl (unhide HS)) rfl ?_
    rw [unhide HF]
    exact AnsG.bad 1 (unhide HB2)
  obtain ⟨G, HG⟩ : ∃ G, Hid (G = gsOf m) := ⟨_, hide rfl⟩
  have HF : Hid (R = (G, 0)) := hide (by rw [unhide HRR, goA, if_pos him, unhide HG])
  have HIR := hide (imB_iff.1 him)
  have HD := hide (show m.data.length ≤ 900 by rw [(unhide HIR).len]; omega)
  have hs3 := (unhide HIR).few
  have HGS : Hid (G.shots.length = m.snaps.length) := hide (by rw [unhide HG]; simp [gsOf])
  have HGK : Hid (∀ k (h : k < m.snaps.length) (h' : k < G.shots.length), G.shots[k].name = m.snaps[k].name ∧ G.shots[k].table = shT m m.snaps[k].table) := hide (by rw [unhide HG]; exact fun k h h' => by simp [gsOf])
  have HGV : Hid (G.vals = shT m m.table) := hide (by rw [unhide HG]; rfl)
  clear him
  obtain ⟨c0, c1, c2, c3⟩ := (unhide HV1).cells
  go_wp2_with fail
  refine (valuesShown_any a m a.tq a.tc m.table _ ((unhide HIR).ent (by simp [imTabs])).1 ((unhide HIR).ent (by simp [imTabs])).2 (unhide HD) (unhide HC1).d (unhide HC1).t).mono ?_
  rintro e w2 ⟨v, rfl, ho, hb⟩
  rw [← unhide HGV] at ho
  clear HGV c0 c1 c2 c3
  obtain ⟨vo, vc, rfl, hov⟩ := ho
  have HW : Hid (OwG w1 w2.heap.size G vo vc (w2.alloc (.cells #[.slice vo G.vals.length vc, .slice none 0 0] 47)) 0 none 0 []) := hide (by
    have hb2 := Joins.below_alloc1 w2 (.cells #[.slice vo G.vals.length vc, .slice none 0 0] 47)
    exact ⟨fr hb hb2, VarG.new w2 _ _ _, rfl, .inl ⟨rfl, by simp [snC], none, rfl⟩, OwnA.one (OwnN.below ⟨vo, vc, rfl, hov⟩ hb2)⟩)
  have HYB : Hid (w1.heap.size ≤ w2.heap.size) := hide hb.size
  clear hb hov
  go_upto_region 4 with fail
  revert HYB
  revert HW
  generalize (w2.alloc _) = W2
  generalize w2.heap.size = y
  intro HW HYB
  obtain ⟨c0, c1, c2, c3⟩ := ((unhide HV1).below (unhide HW).b).cells
  go_wp2
  clear c0 c1 c2 c3
  go_loopw [19] (fun i wr => ∃ (k : Nat) (so : Option Addr) (sc : Nat) (ts : List Value), k ≤ m.snaps.length ∧ i = .int .i64 k ∧ Hid (OwG w1 y G vo vc wr k so sc ts)) (fun i _ => m.snaps.length - (intOf i).toNat)
  case atStart => exact ⟨0, _, 0, [], Nat.zero_le _, rfl, HW⟩
  case round =>
    clear HW
    obtain ⟨k, so, sc, ts, hk, rfl, HL⟩ := hrel
    by_cases hlt : k < m.snaps.length
    · have hltG : k < G.shots.length := by rw [unhide HGS]; exact hlt
      obtain ⟨b1, o1, tq, tc, e1, hn1, ht1, hi1, hz1, hl1⟩ := ((unhide HC1).below (unhide HL).b).s k hlt
      rw [e1]
      have HI1 := hide hi1
      have HEN := hide ((unhide HIR).ent (t := m.snaps[k].table) (by simp only [imTabs, List.mem_cons, List.mem_map]; exact .inr ⟨_, List.getElem_mem hlt, rfl⟩))
      have HGN := hide (unhide HGK k hlt hltG)
      have HBX := hide (Joins.below_alloc1 wr (.cells #[.string m.snaps[k].name, .slice tq m.snaps[k].table.length tc] 96))
      have HVX := hide (VarG.new wr 96 (.string m.snaps[k].name) (.slice tq m.snaps[k].table.length tc))
      have HLX := hide ((unhide HL).below (unhide HBX))
      have HIX := hide ((unhide HI1).below (unhide HBX))
      clear hi1 hz1 hl1 e1 HI1
      go_upto_region 7 with fail
      clear hn1 ht1
      revert HIX
      revert HLX
      revert HVX
      revert HBX
      generalize (wr.alloc _) = wx
      generalize wr.heap.size = xx
      intro HBX HVX HLX HIX
      have hS0 : Below wx.heap.size wx wx.drew := (Below.refl _ _).drew
      refine wp_region_ord (fun w' => Below wx.heap.size wx w') [0, 1, 2, 3, 4, 5, 6, 7, 8, 9] [(0, 0), (1, 0), (2, 0), (3, 0), (4, 0), (5, 0), (6, 0), (7, 2), (8, 0), (9, 2), (10, 3), (11, 4), (12, 3)] (by kernel_rfl) (by kernel_rfl) rfl (by kernel_rfl) ?_
      refine ord_read (.pointer (some ⟨y, 1, none⟩)) rfl rfl hS0 (fun W hW => by go_simp) ?_
      refine ord_read (.slice so k sc) rfl rfl hS0 (fun W hW => by obtain ⟨k0, k1⟩ := ((unhide HLX).v.below hW).cells; go_simp) ?_
      refine ord_read (.pointer (some ⟨xx, 0, none⟩)) rfl rfl hS0 (fun W hW => by go_simp) ?_
      refine ord_read (.string m.snaps[k].name) rfl rfl hS0 (fun W hW => by obtain ⟨k0, k1⟩ := ((unhide HVX).below hW).cells; go_simp) ?_
      refine ord_read (imV a m) rfl rfl hS0 (fun W hW => by obtain ⟨k0, k1, k2, k3⟩ := (((unhide HV1).below (unhide HLX).b).below hW).cells; go_simp) ?_
      refine ord_read (.pointer (some ⟨xx, 1, none⟩)) rfl rfl hS0 (fun W hW => by go_simp) ?_
      refine ord_read (.slice tq m.snaps[k].table.length tc) rfl rfl hS0 (fun W hW => by obtain ⟨k0, k1⟩ := ((unhide HVX).below hW).cells; go_simp) ?_
      refine ord_held rfl rfl ?_
      intro K hK
      unfold Oper.wp
      go_simp
      refine (valuesShown_any a m tq tc m.snaps[k].table _ (unhide HEN).1 (unhide HEN).2 (unhide HD) (((unhide HC1).below (unhide HLX).b).d.below hS0) ((unhide HIX).below hS0)).mono ?_
      rintro e w3 ⟨v3, rfl, ho3, hb3⟩
      rw [← (unhide HGN).2] at ho3
      have hS3 : Below wx.heap.size wx w3 := fr hS0 hb3
      obtain ⟨q3, z3, rfl, hr3⟩ := ho3
      have HO3 : Hid (OwnN w3 wx.heap.size (.slice q3 G.shots[k].table.length z3) G.shots[k].table) := hide (OwnN.base ⟨q3, z3, rfl, hr3⟩ hS0.size)
      refine hK _ _ hS3 ?_
      clear hK K hb3 hr3 hS0
      refine ord_read (.agg #[.string m.snaps[k].name, .slice q3 G.shots[k].table.length z3]) rfl rfl hS3 (fun W hW => by go_simp) ?_
      rw [← (unhide HGN).1]
      refine ord_held rfl rfl ?_
      intro K hK
      unfold Oper.wp
      go_simp
      have hS4 : Below wx.heap.size wx (w3.alloc (.cells #[.string G.shots[k].name, .slice q3 G.shots[k].table.length z3] 99)) := fr hS3 (Joins.below_alloc1 _ _)
      have HO4 := hide ((unhide HO3).below (Joins.below_alloc1 w3 (.cells #[.string G.shots[k].name, .slice q3 G.shots[k].table.length z3] 99)))
      have hnew : (w3.alloc (.cells #[.string G.shots[k].name, .slice q3 G.shots[k].table.length z3] 99)).heap[w3.heap.size]? = some (.cells #[.string G.shots[k].name, .slice q3 G.shots[k].table.length z3] 99 (0, 0)) := heap_alloc_new _ _
      refine hK _ _ hS4 ?_
      clear hK K
      generalize (w3.alloc (.cells #[.string G.shots[k].name, .slice q3 G.shots[k].table.length z3] 99)) = w4 at *
      have HL4 := hide ((unhide HLX).below hS4)
      refine ord_alone rfl rfl ?_
      intro K hK
      refine wp_append_one rfl (.tmp 24) (.tmp 32) 45 rfl w1.heap.size 99 j0 (.agg #[.string ⟨#[]⟩, .slice none 0 0]) 2 40 Tryz.underlying45 hj0 hy0 hy1 hy2 rfl (by omega) so k sc (snC (G.shots.take k) ts) rfl (unhide HL4).s (unhide HL4).b.size ⟨w3.heap.size, 0, none⟩ 1 [.string G.shots[k].name, .slice q3 G.shots[k].table.length z3] rfl rfl (snap_news hnew) (snap_one _ _ _ _) (by unfold maxLen; omega) (by omega) ?_
      intro g2 cap2 w5 ho5 hk5
      obtain ⟨hv5, hL5⟩ := (unhide HLX).app (unhide HYB) hltG hS4 hk5 ho5 (unhide HO4)
      have HV5 := hide hv5
      have HL5 := hide hL5
      clear hv5 hL5 ho5 hk5
      refine hK _ _ ?_
      clear hK K
      refine ord_val (.pointer (some ⟨y, 1, none⟩)) rfl rfl (fun W => by go_simp) ?_
      refine ord_alone rfl rfl ?_
      intro K hK
      obtain ⟨k0, k1⟩ := (unhide HV5).cells
      obtain ⟨z0, z1⟩ := (unhide HV5).free
      unfold Oper.wp
      go_simp
      refine hK _ _ ?_
      clear hK K k0 k1 z0 z1
      refine ord_done ?_
      clear HV5 HL4 HO4 HO3 hnew hS3 hS4
      go_wp2
      go_roundw
      case rel => exact ⟨k + 1, _, _, _, by omega, by go_num, HL5⟩
      case measure => simp [intOf]; omega
    · have hkl : k = m.snaps.length := by omega
      subst hkl
      have HL2 : Hid (OwG w1 y G vo vc wr G.shots.length so sc ts) := hide (by rw [unhide HGS]; exact unhide HL)
      have HO := hide (unhide HL2).own
      have HR2 := hide ((unhide HR1).below (unhide HL).b)
      obtain ⟨d0, d1⟩ := (unhide HL).v.cells
      obtain ⟨r0, r1⟩ := (unhide HR2).cells
      obtain ⟨z0, z1⟩ := (unhide HR2).free
      have HS := hide ((unhide HR2).putG ⟨vo, vc, so, sc⟩ G)
      have HS2 := hide ((unhide HO).putG (unhide HLT) ⟨vo, vc, so, sc⟩ G)
      have HS3 := hide (below_putG (fr (unhide HA1) (unhide HL).b) (Nat.le_succ w.heap.size) ⟨vo, vc, so, sc⟩ G)
      unfold putG at HS HS2 HS3
      simp only at HS HS2 HS3
      rw [unhide HGS] at HS HS2 HS3
      go_wp2
      refine bodyPost_ret (res_gc Tryz.results66 rfl rfl (unhide HS)) rfl ?_
      rw [unhide HF]
      exact AnsG.of (R := (G, 0)) (a := ⟨vo, vc, so, sc⟩) (ts := ts) (by simp only [gsV]; rw [unhide HGS]) rfl ((unhide HS2).base (by have := unhide HLT; omega)) (unhide HS3)

end Go.Proofs.YtjjkppknojecjaaGreatDoor

namespace Go.Proofs.YtjjkppknojecjaaGreatDoor
open Go.RowKit
set_option linter.unusedVariables false
set_option maxRecDepth 100000

def eqS1 (s t : Snp) : Bool := decide (s.name = t.name) && eqNB s.table t.table
def eqShB : List Snp → List Snp → Bool
  | [], [] => true
  | s :: ss, t :: tt => eqS1 s t && eqShB ss tt
  | _, _ => false
def gsEq (g h : Gst) : Bool := eqNB g.vals h.vals && eqShB g.shots h.shots
theorem eqShB_iff : ∀ (ss tt : List Snp), eqShB ss tt = true ↔ ss.length = tt.length ∧ ∀ j (h : j < ss.length) (h' : j < tt.length), eqS1 ss[j] tt[j] = true
  | [], [] => by simp [eqShB]
  | [], t :: tt => by simp [eqShB]
  | s :: ss, [] => by simp [eqShB]
  | s :: ss, t :: tt => by
    have ih := eqShB_iff ss tt
    simp only [eqShB, Bool.and_eq_true, ih, List.length_cons, Nat.add_right_cancel_iff]
    constructor
    · rintro ⟨h1, h2, h3⟩
      refine ⟨h2, fun j hj hj' => ?_⟩
      cases j with
      | zero => exact h1
      | succ j => exact h3 j (by omega) (by omega)
    · rintro ⟨h1, h2⟩
      exact ⟨h2 0 (by omega) (by omega), h1, fun j hj hj' => h2 (j + 1) (by omega) (by omega)⟩
theorem eqShB_len {ss tt : List Snp} (h : ¬ ss.length = tt.length) : eqShB ss tt = false := by
  cases e : eqShB ss tt with
  | false => rfl
  | true => exact absurd ((eqShB_iff ss tt).1 e).1 h
theorem eqShB_at {ss tt : List Snp} {k : Nat} (h : k < ss.length) (h' : k < tt.length) (he : eqS1 ss[k] tt[k] = false) : eqShB ss tt = false := by
  cases e : eqShB ss tt with
  | false => rfl
  | true => rw [((eqShB_iff ss tt).1 e).2 k h h'] at he; cases he
theorem eqShB_yes {ss tt : List Snp} (hl : ss.length = tt.length) (h : ∀ j (h : j < ss.length) (h' : j < tt.length), eqS1 ss[j] tt[j] = true) : eqShB ss tt = true := (eqShB_iff ss tt).2 ⟨hl, h⟩
theorem eqS1_succ {ss tt : List Snp} {k : Nat} (hlt : k < ss.length) (hlt' : k < tt.length) (h : ∀ j (h : j < ss.length) (h' : j < tt.length), j < k → eqS1 ss[j] tt[j] = true) (he : eqS1 ss[k] tt[k] = true) : ∀ j (h : j < ss.length) (h' : j < tt.length), j < k + 1 → eqS1 ss[j] tt[j] = true := fun j hj hj' hk => by
  by_cases e : j = k
  · subst e; exact he
  · exact h j hj hj' (by omega)

end Go.Proofs.YtjjkppknojecjaaGreatDoor

namespace Go.Proofs.YtjjkppknojecjaaGreatDoor
open Go.RowKit
set_option linter.unusedVariables false
set_option maxRecDepth 100000

theorem equalI_any (x y : Int) (w : World) : Calls Tryz.prog 112 #[.int .i64 x, .int .i64 y] w fun e w' => e = .returned (.bool (x == y)) ∧ ∃ m, w' = w.drewN m := by
  go_enter Tryz.func112, Tryz.ntmps112
  go_wp2
  go_ret
  exact ⟨rfl, 0, rfl⟩

set_option maxHeartbeats 1600000 in
theorem sameListsI_draws (ao bo : Option Addr) (ca cb : Nat) (ss tt : List Int) (w : World) (hl : ss.length ≤ maxLen) (hc : Is w ao ss) (hd : Is w bo tt) :
    Calls Tryz.prog 111 #[.slice ao ss.length ca, .slice bo tt.length cb, .func (.func 112) #[] #[]] w fun e w' => e = .returned (.bool (eqNB ss tt)) ∧ ∃ m, w' = w.drewN m := by
  have HC := hide hc
  have HD := hide hd
  clear hc hd
  unfold maxLen at hl
  by_cases hle : ss.length = tt.length
  · have hb : ((ss.length : Int) != (tt.length : Int)) = false := by simp [hle]
    have HLE := hide hle
    clear hle
    go_enter Tryz.func111, Tryz.ntmps111
    go_wp2
    go_loopw [15] (fun i wr => ∃ (k n : Nat), k ≤ ss.length ∧ i = .int .i64 k ∧ Hid (∀ j (h : j < ss.length) (h' : j < tt.length), j < k → ss[j] = tt[j]) ∧ wr = w.drewN n) (fun i _ => ss.length - (intOf i).toNat)
    case atStart => exact ⟨0, 0, Nat.zero_le _, rfl, hide (fun j _ _ h => by omega), rfl⟩
    case round =>
      obtain ⟨k, n, hk, rfl, HA, rfl⟩ := hrel
      by_cases hlt : k < ss.length
      · have hlt' : k < tt.length := by rw [← unhide HLE]; exact hlt
        obtain ⟨b, off, rfl, hc⟩ := (unhide HC) k hlt
        obtain ⟨b', off', rfl, hc'⟩ := (unhide HD) k hlt'
        have hki : (k : Int) < (ss.length : Int) := by omega
        have hki' : (k : Int) < (tt.length : Int) := by omega
        have hS0 : ∃ m, (w.drewN n).drew = w.drewN m := ⟨n + 1, World.drew_drewN _ _⟩
        have HCELL : Hid (∀ W, (∃ m, W = w.drewN m) → W.cell? ⟨b, off + k, none⟩ = some (.int .i64 ss[k]) ∧ W.cell? ⟨b', off' + k, none⟩ = some (.int .i64 tt[k])) := hide (fun W ⟨m, hW⟩ => by subst hW; exact ⟨hc, hc'⟩)
        clear hc hc'
        go_upto_region 6 with fail
        refine wp_region_ord (fun W => ∃ m, W = w.drewN m) [0, 1, 2, 3, 4, 5, 6, 7, 8, 9, 10] [(0, 0), (1, 0), (2, 0), (3, 0), (4, 0), (5, 0), (6, 0), (7, 0), (8, 0), (9, 2), (10, 0)] (by kernel_rfl) (by kernel_rfl) rfl (by kernel_rfl) ?_
        refine ord_read (.func (.func 112) #[] #[]) rfl rfl hS0 (fun W hW => by go_simp) ?_
        refine ord_read (.slice (some ⟨b, off, none⟩) ss.length ca) rfl rfl hS0 (fun W hW => by go_simp) ?_
        refine ord_read (.int .i64 k) rfl rfl hS0 (fun W hW => by go_simp) ?_
        refine ord_read (.pointer (some ⟨b, off + k, none⟩)) rfl rfl hS0 (fun W hW => by go_simp) ?_
        refine ord_read (.int .i64 ss[k]) rfl rfl hS0 (fun W hW => by obtain ⟨k0, k1⟩ := unhide HCELL W hW; go_simp) ?_
        refine ord_read (.slice (some ⟨b', off', none⟩) tt.length cb) rfl rfl hS0 (fun W hW => by go_simp) ?_
        refine ord_read (.int .i64 k) rfl rfl hS0 (fun W hW => by go_simp) ?_
        refine ord_read (.pointer (some ⟨b', off' + k, none⟩)) rfl rfl hS0 (fun W hW => by go_simp) ?_
        refine ord_read (.int .i64 tt[k]) rfl rfl hS0 (fun W hW => by obtain ⟨k0, k1⟩ := unhide HCELL W hW; go_simp) ?_
        refine ord_held rfl rfl ?_
        intro K hK
        unfold Oper.wp
        go_simp
        refine (equalI_any ss[k] tt[k] _).mono ?_
        rintro e w2 ⟨rfl, m2, hw2⟩
        have hS2 : ∃ m, w2 = w.drewN m := ⟨n + 1 + m2, by rw [hw2]; simp⟩
        refine hK _ _ hS2 ?_
        clear hK K hS0 hw2
        by_cases he : ss[k] = tt[k]
        · have HN := hide (eq_succ hlt hlt' (unhide HA) he)
          have be : (ss[k] == tt[k]) = true := by simp [he]
          rw [be]
          clear he be
          refine ord_read (.bool false) rfl rfl hS2 (fun W hW => by go_simp) ?_
          refine ord_done ?_
          obtain ⟨m3, rfl⟩ := hS2
          go_wp2
          go_roundw
          case rel => exact ⟨k + 1, m3, by omega, by go_num, HN, rfl⟩
          case measure => simp [intOf]; omega
        · have H := hide (eqNB_false hlt hlt' he)
          have be : (ss[k] == tt[k]) = false := by simp [he]
          rw [be]
          clear he be
          refine ord_read (.bool true) rfl rfl hS2 (fun W hW => by go_simp) ?_
          refine ord_done ?_
          obtain ⟨m3, rfl⟩ := hS2
          go_wp2
          go_ret
          exact ⟨ret_bool (unhide H).symm, m3, rfl⟩
      · have H := hide (eqNB_true (unhide HLE) (fun j h h' => unhide HA j h h' (by omega)))
        go_wp2
        go_ret
        exact ⟨ret_bool (unhide H).symm, n, rfl⟩
  · have hb : ((ss.length : Int) != (tt.length : Int)) = true := by simp; omega
    have H := hide (eqNB_false_len hle)
    clear hle
    go_enter Tryz.func111, Tryz.ntmps111
    go_wp2
    go_ret
    exact ⟨ret_bool (unhide H).symm, 0, rfl⟩

set_option maxHeartbeats 1600000 in
theorem sameShot_any (s t : Snp) (p q : Option Addr) (pc qc : Nat) (w : World) (hn : s.table.length ≤ maxLen) (h1 : Is w p s.table) (h2 : Is w q t.table) :
    Calls Tryz.prog 114 #[snV s p pc, snV t q qc] w fun e w' => e = .returned (.bool (eqS1 s t)) ∧ Below w.heap.size w w' := by
  have HA := hide (Joins.below_alloc2 w (.cells #[.string s.name, .slice p s.table.length pc] 99) (.cells #[.string t.name, .slice q t.table.length qc] 99))
  have HV := hide ((VarG.new w 99 (.string s.name) (.slice p s.table.length pc)).below (Joins.below_alloc1 _ (.cells #[.string t.name, .slice q t.table.length qc] 99)))
  have HU := hide ((VarG.new (w.alloc (.cells #[.string s.name, .slice p s.table.length pc] 99)) 99 (.string t.name) (.slice q t.table.length qc)).at (show _ = w.heap.size + 1 by simp))
  have H1 := hide (h1.below (unhide HA))
  have H2 := hide (h2.below (unhide HA))
  have HN := hide hn
  clear h1 h2 hn
  obtain ⟨R, HR⟩ : ∃ R, Hid (R = eqS1 s t) := ⟨_, hide rfl⟩
  rw [← unhide HR]
  go_enter Tryz.func114, Tryz.ntmps114
  go_upto_region 1 with fail
  revert HA HV HU H1 H2
  generalize ((w.alloc _).alloc _) = W0
  intro HA HV HU H1 H2
  obtain ⟨c0, c1⟩ := (unhide HV).cells
  obtain ⟨d0, d1⟩ := (unhide HU).cells
  by_cases hnm : s.name = t.name
  · have HX : Hid (R = eqNB s.table t.table) := hide (by rw [unhide HR, eqS1, decide_eq_true hnm]; rfl)
    have be : (s.name.toList == t.name.toList) = true := by simp [hnm]
    clear hnm HR
    go_wp2_with fail
    refine (sameListsI_draws p q pc qc s.table t.table _ (unhide HN) (unhide H1) (unhide H2)).mono ?_
    rintro e w1 ⟨rfl, m, hm⟩
    have HB1 : Hid (Below W0.heap.size W0 w1) := hide (by rw [hm]; exact Joins.below_draws _ _ _)
    clear hm c0 c1 d0 d1
    go_wp2
    go_ret
    exact ⟨ret_bool (unhide HX).symm, fr (unhide HA) (unhide HB1)⟩
  · have HX : Hid (R = false) := hide (by rw [unhide HR, eqS1, decide_eq_false hnm]; rfl)
    have be : (s.name.toList == t.name.toList) = false := str_beq_false hnm
    clear hnm HR
    go_wp2
    go_ret
    exact ⟨ret_bool (unhide HX).symm, unhide HA⟩

set_option maxHeartbeats 3200000 in
theorem sameListsS_any (ao bo : Option Addr) (ca cb : Nat) (ss tt : List Snp) (w : World) (hl : ss.length ≤ maxLen) (hc : Sns w ao ss) (hd : Sns w bo tt) :
    Calls Tryz.prog 113 #[.slice ao ss.length ca, .slice bo tt.length cb, .func (.func 114) #[] #[]] w fun e w' => e = .returned (.bool (eqShB ss tt)) ∧ Below w.heap.size w w' := by
  have HC := hide hc
  have HD := hide hd
  clear hc hd
  unfold maxLen at hl
  by_cases hle : ss.length = tt.length
  · have hb : ((ss.length : Int) != (tt.length : Int)) = false := by simp [hle]
    have HLE := hide hle
    clear hle
    go_enter Tryz.func113, Tryz.ntmps113
    go_wp2
    go_loopw [15] (fun i wr => ∃ (k : Nat), k ≤ ss.length ∧ i = .int .i64 k ∧ Hid (∀ j (h : j < ss.length) (h' : j < tt.length), j < k → eqS1 ss[j] tt[j] = true) ∧ Hid (Below w.heap.size w wr)) (fun i _ => ss.length - (intOf i).toNat)
    case atStart => exact ⟨0, Nat.zero_le _, rfl, hide (fun j _ _ h => by omega), hide (Below.refl _ _)⟩
    case round =>
      obtain ⟨k, hk, rfl, HA, HB⟩ := hrel
      by_cases hlt : k < ss.length
      · have hlt' : k < tt.length := by rw [← unhide HLE]; exact hlt
        obtain ⟨b, off, q1, p1, rfl, hc0, hc1, i1, _, hm1⟩ := ((unhide HC).below (unhide HB)) k hlt
        obtain ⟨b', off', q2, p2, rfl, hd0, hd1, i2, _, _⟩ := ((unhide HD).below (unhide HB)) k hlt'
        have hki : (k : Int) < (ss.length : Int) := by omega
        have hki' : (k : Int) < (tt.length : Int) := by omega
        have HCELL : Hid (∀ W, Below wr.heap.size wr W → W.cell? ⟨b, off + k * 2, none⟩ = some (.string ss[k].name) ∧ W.cell? ⟨b, off + k * 2 + 1, none⟩ = some (.slice q1 ss[k].table.length p1) ∧ W.cell? ⟨b', off' + k * 2, none⟩ = some (.string tt[k].name) ∧ W.cell? ⟨b', off' + k * 2 + 1, none⟩ = some (.slice q2 tt[k].table.length p2)) := hide (fun W hW => ⟨(hW.cell (p := ⟨b, off + k * 2, none⟩) (World.block_lt_of_cell? _ _ hc0)).trans hc0, (hW.cell (p := ⟨b, off + k * 2 + 1, none⟩) (World.block_lt_of_cell? _ _ hc1)).trans hc1, (hW.cell (p := ⟨b', off' + k * 2, none⟩) (World.block_lt_of_cell? _ _ hd0)).trans hd0, (hW.cell (p := ⟨b', off' + k * 2 + 1, none⟩) (World.block_lt_of_cell? _ _ hd1)).trans hd1⟩)
        have HCALL : Hid (∀ W, Below wr.heap.size wr W → Calls Tryz.prog 114 #[snV ss[k] q1 p1, snV tt[k] q2 p2] W fun e w' => e = .returned (.bool (eqS1 ss[k] tt[k])) ∧ Below W.heap.size W w') := hide (fun W hW => sameShot_any _ _ _ _ _ _ W hm1 (i1.below hW) (i2.below hW))
        clear hc0 hc1 hd0 hd1 i1 i2 hm1
        go_upto_region 6 with fail
        have hS0 : Below wr.heap.size wr wr.drew := (Below.refl _ _).drew
        refine wp_region_ord (fun w' => Below wr.heap.size wr w') [0, 1, 2, 3, 4, 5, 6, 7, 8, 9, 10] [(0, 0), (1, 0), (2, 0), (3, 0), (4, 0), (5, 0), (6, 0), (7, 0), (8, 0), (9, 2), (10, 0)] (by kernel_rfl) (by kernel_rfl) rfl (by kernel_rfl) ?_
        refine ord_read (.func (.func 114) #[] #[]) rfl rfl hS0 (fun W hW => by go_simp) ?_
        refine ord_read (.slice (some ⟨b, off, none⟩) ss.length ca) rfl rfl hS0 (fun W hW => by go_simp) ?_
        refine ord_read (.int .i64 k) rfl rfl hS0 (fun W hW => by go_simp) ?_
        refine ord_read (.pointer (some ⟨b, off + k * 2, none⟩)) rfl rfl hS0 (fun W hW => by go_simp) ?_
        refine ord_read (.agg #[.string ss[k].name, .slice q1 ss[k].table.length p1]) rfl rfl hS0 (fun W hW => by obtain ⟨k0, k1, k2, k3⟩ := unhide HCELL W hW; go_simp) ?_
        refine ord_read (.slice (some ⟨b', off', none⟩) tt.length cb) rfl rfl hS0 (fun W hW => by go_simp) ?_
        refine ord_read (.int .i64 k) rfl rfl hS0 (fun W hW => by go_simp) ?_
        refine ord_read (.pointer (some ⟨b', off' + k * 2, none⟩)) rfl rfl hS0 (fun W hW => by go_simp) ?_
        refine ord_read (.agg #[.string tt[k].name, .slice q2 tt[k].table.length p2]) rfl rfl hS0 (fun W hW => by obtain ⟨k0, k1, k2, k3⟩ := unhide HCELL W hW; go_simp) ?_
        refine ord_held rfl rfl ?_
        intro K hK
        unfold Oper.wp
        go_simp
        refine (unhide HCALL _ hS0).mono ?_
        rintro e w2 ⟨rfl, hb2⟩
        have hS2 : Below wr.heap.size wr w2 := fr hS0 hb2
        refine hK _ _ hS2 ?_
        clear hK K hS0 hb2
        cases he : eqS1 ss[k] tt[k]
        · have HF := hide (eqShB_at hlt hlt' he)
          refine ord_read (.bool true) rfl rfl hS2 (fun W hW => by go_simp) ?_
          refine ord_done ?_
          have HB2 := hide (fr (unhide HB) hS2)
          clear hS2
          go_wp2
          go_ret
          exact ⟨ret_bool (unhide HF).symm, unhide HB2⟩
        · have HN := hide (eqS1_succ hlt hlt' (unhide HA) he)
          refine ord_read (.bool false) rfl rfl hS2 (fun W hW => by go_simp) ?_
          refine ord_done ?_
          have HB2 := hide (fr (unhide HB) hS2)
          clear hS2
          go_wp2
          go_roundw
          case rel => exact ⟨k + 1, by omega, by go_num, HN, HB2⟩
          case measure => simp [intOf]; omega
      · have H := hide (eqShB_yes (unhide HLE) (fun j h h' => unhide HA j h h' (by omega)))
        go_wp2
        go_ret
        exact ⟨ret_bool (unhide H).symm, unhide HB⟩
  · have hb : ((ss.length : Int) != (tt.length : Int)) = true := by simp; omega
    have H := hide (eqShB_len hle)
    clear hle
    go_enter Tryz.func113, Tryz.ntmps113
    go_wp2
    go_ret
    exact ⟨ret_bool (unhide H).symm, Below.refl _ _⟩

set_option maxHeartbeats 1600000 in
theorem sameGuest_impl (a b : Gs4) (g h : Gst) (w : World) (hg : GsL g) (hh : GsL h) (h1 : GsS w a g) (h2 : GsS w b h) :
    Calls Tryz.prog 67 #[gsV a g, gsV b h] w fun e w' => e = .returned (.bool (gsEq g h)) ∧ Below w.heap.size w w' := by
  have HA := hide (Joins.below_alloc2 w (.cells #[.slice a.vo g.vals.length a.vc, .slice a.so g.shots.length a.sc] 47) (.cells #[.slice b.vo h.vals.length b.vc, .slice b.so h.shots.length b.sc] 47))
  have HV := hide ((VarG.new w 47 (.slice a.vo g.vals.length a.vc) (.slice a.so g.shots.length a.sc)).below (Joins.below_alloc1 _ (.cells #[.slice b.vo h.vals.length b.vc, .slice b.so h.shots.length b.sc] 47)))
  have HU := hide ((VarG.new (w.alloc (.cells #[.slice a.vo g.vals.length a.vc, .slice a.so g.shots.length a.sc] 47)) 47 (.slice b.vo h.vals.length b.vc) (.slice b.so h.shots.length b.sc)).at (show _ = w.heap.size + 1 by simp))
  have H1 := hide (h1.below (unhide HA))
  have H2 := hide (h2.below (unhide HA))
  have HG := hide hg
  have HH := hide hh
  obtain ⟨R, HR⟩ : ∃ R, Hid (R = gsEq g h) := ⟨_, hide rfl⟩
  rw [← unhide HR]
  clear h1 h2 hg hh
  go_enter Tryz.func67, Tryz.ntmps67
  go_upto_region 1 with fail
  revert HA HV HU H1 H2
  generalize ((w.alloc _).alloc _) = W0
  intro HA HV HU H1 H2
  obtain ⟨c0, c1⟩ := (unhide HV).cells
  obtain ⟨d0, d1⟩ := (unhide HU).cells
  go_wp2_with fail
  refine (sameListsI_draws a.vo b.vo a.vc b.vc g.vals h.vals _ (unhide HG).v (unhide H1).v (unhide H2).v).mono ?_
  rintro e w1 ⟨rfl, m, hm⟩
  have HB1 : Hid (Below W0.heap.size W0 w1) := hide (by rw [hm]; exact Joins.below_draws _ _ _)
  clear hm c0 c1 d0 d1
  obtain ⟨c0, c1⟩ := ((unhide HV).below (unhide HB1)).cells
  obtain ⟨d0, d1⟩ := ((unhide HU).below (unhide HB1)).cells
  cases hv : eqNB g.vals h.vals
  · have HF : Hid (R = false) := hide (by rw [unhide HR, gsEq, hv]; rfl)
    clear HR
    go_wp2
    go_ret
    exact ⟨ret_bool (unhide HF).symm, fr (unhide HA) (unhide HB1)⟩
  have HR2 : Hid (R = eqShB g.shots h.shots) := hide (by rw [unhide HR, gsEq, hv]; rfl)
  clear HR hv
  go_wp2_with fail
  refine (sameListsS_any a.so b.so a.sc b.sc g.shots h.shots _ (unhide HG).s ((unhide H1).below (unhide HB1)).s ((unhide H2).below (unhide HB1)).s).mono ?_
  rintro e w2 ⟨rfl, hb⟩
  have HB2 := hide (fr (unhide HB1) hb)
  clear hb c0 c1 d0 d1
  go_wp2
  go_ret
  exact ⟨ret_bool (unhide HR2).symm, fr (unhide HA) (unhide HB2)⟩

end Go.Proofs.YtjjkppknojecjaaGreatDoor

namespace Go.Proofs.YtjjkppknojecjaaGreatDoor
open Go.RowKit
set_option linter.unusedVariables false
set_option maxRecDepth 100000

def waA (m : Wld) : Bool × Int := if wokB m = true then (if eqR m.q rq0 = true then (decide ((rdA m.ss m.xs 0).2 = 0) && (m.ag && gsEq m.g (gsOf (rdA m.ss m.xs 0).1)), 0) else (m.ag, 0)) else (false, 1)

set_option maxHeartbeats 6400000 in
theorem isShownBy_any (a : Wl4) (m : Wld) (x : Nat) (b : Im4) (I : Img) (w : World) (hg : GsL m.g) (hI : ImR I) (hv : VarW w x 50 a m) (hc : WlS w a m) (hs : ImS w b I) :
    Calls Tryz.prog 24 #[.pointer (some ⟨x, 0, none⟩), imV b I] w fun e w' => e = .returned (.bool (gsEq m.g (gsOf I))) ∧ Below w.heap.size w w' := by
  have HB0 := hide (Joins.below_alloc1 w (.cells #[.slice b.ro I.refs.length b.rc, .slice b.tq I.table.length b.tc, .slice b.so I.snaps.length b.sc, .slice b.dq I.data.length b.dc] 61))
  have HX0 := hide (VarM.new w 61 (.slice b.ro I.refs.length b.rc) (.slice b.tq I.table.length b.tc) (.slice b.so I.snaps.length b.sc) (.slice b.dq I.data.length b.dc))
  have HC0 := hide (hc.below (unhide HB0))
  have HV0 := hide (hv.below (unhide HB0))
  have HS0 := hide (hs.below (unhide HB0))
  have HG := hide hg
  have HI := hide hI
  clear hv hc hs hg hI
  go_enter Tryz.func24, Tryz.ntmps24
  go_upto_region 1 with fail
  revert HB0 HX0 HC0 HV0 HS0
  generalize (w.alloc _) = W0
  intro HB0 HX0 HC0 HV0 HS0
  obtain ⟨i0, i1, i2, i3⟩ := (unhide HX0).cells
  go_wp2_with fail
  refine (guestOf_impl b I _ (unhide HI).M.L (unhide HS0)).mono ?_
  rw [show goA I = (gsOf I, 0) from if_pos (imB_iff.2 (unhide HI))]
  rintro e w1 ⟨b1, ts1, rfl, ho1, hb⟩
  have HBG := hide (Joins.below_alloc1 w1 (.cells #[.slice b1.vo (gsOf I).vals.length b1.vc, .slice b1.so (gsOf I).shots.length b1.sc] 47))
  have HB1 := hide (fr (fr (unhide HB0) hb) (unhide HBG))
  have HC1 := hide (((unhide HC0).below hb).below (unhide HBG))
  have HV1 := hide (((unhide HV0).below hb).below (unhide HBG))
  have HN1 := hide (LwG.new w1 b1 (gsOf I) ho1 hb.size)
  have HZ := hide (GsBd.R (gsOf_bd (unhide HI))).zs
  clear hb ho1 HB0 HX0 HC0 HV0 HS0 HBG i0 i1 i2 i3
  go_upto_region 2 with fail
  revert HB1 HC1 HV1 HN1
  generalize (w1.alloc _) = W1
  generalize w1.heap.size = pg
  intro HB1 HC1 HV1 HN1
  have hS0 : VarW W1.drew x 50 a m ∧ VarG W1.drew pg 47 (.slice b1.vo (gsOf I).vals.length b1.vc) (.slice b1.so (gsOf I).shots.length b1.sc) := ⟨(unhide HV1).below (Below.refl _ _).drew, (unhide HN1).v.below (Below.refl _ _).drew⟩
  have HB1d := hide (fr (unhide HB1) (Below.refl _ _).drew)
  have HC1d := hide ((unhide HC1).below (Below.refl _ _).drew)
  have HN1d := hide (((unhide HN1).o.shows (unhide HZ)).below (Below.refl _ _).drew)
  clear HB1 HC1 HV1 HN1
  refine wp_region_ord (fun w' => VarW w' x 50 a m ∧ VarG w' pg 47 (.slice b1.vo (gsOf I).vals.length b1.vc) (.slice b1.so (gsOf I).shots.length b1.sc)) [0, 1, 2, 3, 4, 5, 6] [(0, 0), (1, 0), (2, 0), (3, 0), (4, 0), (5, 2), (6, 0)] (by kernel_rfl) (by kernel_rfl) rfl (by kernel_rfl) ?_
  refine ord_read (.pointer (some ⟨x, 0, none⟩)) rfl rfl hS0 (fun W hW => by go_simp) ?_
  refine ord_read (.pointer (some ⟨x, 0, none⟩)) rfl rfl hS0 (fun W hW => by go_simp) ?_
  refine ord_read (.pointer (some ⟨x, 8, none⟩)) rfl rfl hS0 (fun W hW => by go_simp) ?_
  refine ord_read (gsV a.ga m.g) rfl rfl hS0 (fun W hW => by obtain ⟨c0, c1, c2, c3, c4, c5, c6, c7, c8, c9, c10, c11, c12, c13, c14⟩ := hW.1.cells; go_simp) ?_
  refine ord_read (gsV b1 (gsOf I)) rfl rfl hS0 (fun W hW => by obtain ⟨x0, x1⟩ := hW.2.cells; go_simp) ?_
  refine ord_held rfl rfl ?_
  intro K hK
  unfold Oper.wp
  go_simp
  refine (sameGuest_impl a.ga b1 m.g (gsOf I) _ (unhide HG) (GsBd.R (gsOf_bd (unhide HI))).L (unhide HC1d).g (unhide HN1d)).mono ?_
  rintro e w2 ⟨rfl, hb⟩
  have hS1 : VarW w2 x 50 a m ∧ VarG w2 pg 47 (.slice b1.vo (gsOf I).vals.length b1.vc) (.slice b1.so (gsOf I).shots.length b1.sc) := ⟨hS0.1.below hb, hS0.2.below hb⟩
  have HB2 := hide (fr (unhide HB1d) hb)
  clear hb
  refine hK _ _ hS1 ?_
  clear hK K hS0 HB1d HC1d HN1d
  refine ord_read (.bool (gsEq m.g (gsOf I))) rfl rfl hS1 (fun W hW => by go_simp) ?_
  refine ord_done ?_
  clear hS1
  go_wp2
  go_ret
  exact ⟨rfl, unhide HB2⟩

theorem rdA_R {ss : List ByteArray} {xs : List Wr} {h : Int} (e : (rdA ss xs h).2 = 0) (hc : hostC ss xs h = 0) : ImR (rdA ss xs h).1 := by
  unfold rdA at e ⊢
  rw [if_pos hc] at e ⊢
  split at e
  · rename_i hs
    rw [if_pos hs]
    have hi : imB (srM (secV ss xs h)) = true := by
      unfold srB at hs
      rw [Bool.and_eq_true] at hs
      exact hs.2
    exact imB_iff.1 hi
  · cases e

set_option maxHeartbeats 12800000 in
theorem worldAgrees_impl (a : Wl4) (m : Wld) (w : World) (hL : WlL m) (hc : WlS w a m) (hE : ErrW w) :
    Calls Tryz.prog 7 #[wlV a m] w fun e w' => e = .returned (.tuple #[.bool (waA m).1, .int .i64 (waA m).2]) ∧ Below w.heap.size w w' := by
  have HB0 := hide (Joins.below_alloc1 w (.cells (wlC a m) 50))
  have HV0 := hide (VarW.new w 50 a m)
  have HC0 := hide (hc.below (unhide HB0))
  have HE0 := hide (hE.below (unhide HB0))
  have HL := hide hL
  obtain ⟨R, HR⟩ : ∃ R, Hid (R = waA m) := ⟨_, hide rfl⟩
  rw [← unhide HR]
  have HQ := hide (neR_run m.q ⟨0, 0, 0, noB⟩)
  clear hc hL hE
  go_enter Tryz.func7, Tryz.ntmps7
  go_upto_region 1 with fail
  revert HB0 HV0 HC0 HE0
  generalize (w.alloc _) = W0
  intro HB0 HV0 HC0 HE0
  obtain ⟨c0, c1, c2, c3, c4, c5, c6, c7, c8, c9, c10, c11, c12, c13, c14⟩ := (unhide HV0).cells
  go_wp2_with fail
  refine (worldOK_impl a m _ (unhide HL) (unhide HC0)).mono ?_
  rintro e w1 ⟨rfl, hb⟩
  have HB1 := hide (fr (unhide HB0) hb)
  have HV1 := hide ((unhide HV0).below hb)
  have HC1 := hide ((unhide HC0).below hb)
  have HE1 := hide ((unhide HE0).below hb)
  clear hb HB0 HV0 HC0 HE0 c0 c1 c2 c3 c4 c5 c6 c7 c8 c9 c10 c11 c12 c13 c14
  cases hw : wokB m
  · have HF : Hid (R = (false, 1)) := hide ((unhide HR).trans (if_neg (by rw [hw]; decide)))
    clear hw
    go_wp2
    go_ret2
    exact ⟨ret_mw (unhide HF), unhide HB1⟩
  have HR1 : Hid (R = if eqR m.q rq0 = true then (decide ((rdA m.ss m.xs 0).2 = 0) && (m.ag && gsEq m.g (gsOf (rdA m.ss m.xs 0).1)), 0) else (m.ag, 0)) := hide ((unhide HR).trans (if_pos hw))
  have HWR := hide (wok_R hw)
  clear hw HR
  obtain ⟨c0, c1, c2, c3, c4, c5, c6, c7, c8, c9, c10, c11, c12, c13, c14⟩ := (unhide HV1).cells
  have heq := unhide HQ
  cases hq : eqR m.q ⟨0, 0, 0, noB⟩
  · simp only [hq, Bool.not_false] at heq
    have HF : Hid (R = (m.ag, 0)) := hide ((unhide HR1).trans (if_neg (by rw [show eqR m.q rq0 = false from hq]; decide)))
    clear hq
    go_wp2
    go_ret2
    exact ⟨ret_mw (unhide HF), unhide HB1⟩
  simp only [hq, Bool.not_true] at heq
  have HR2 : Hid (R = (decide ((rdA m.ss m.xs 0).2 = 0) && (m.ag && gsEq m.g (gsOf (rdA m.ss m.xs 0).1)), 0)) := hide ((unhide HR1).trans (if_pos hq))
  have HCZ : Hid (hostC m.ss m.xs 0 = 0) := hide (hostC_ok (unhide HWR).d (by simp [inB]))
  have HIR : Hid ((rdA m.ss m.xs 0).2 = 0 → ImR (rdA m.ss m.xs 0).1) := hide (fun e => rdA_R e (unhide HCZ))
  have HRD := hide (readImage_impl a.ao a.bo a.ca a.cb m.ss m.xs 0)
  clear hq HR1
  revert HR2 HIR HRD
  generalize rdA m.ss m.xs 0 = I
  intro HR2 HIR HRD
  obtain ⟨I, C⟩ := I
  go_wp2_with fail
  refine (unhide HRD _ (unhide HL).s (unhide HL).i (unhide HC1).s (unhide HC1).i (unhide HE1)).mono ?_
  rintro e w2 ⟨b2, ts2, rfl, ho2, hb⟩
  simp only at ho2 HR2 HIR ⊢
  have HBL := hide (Joins.below_alloc1 w2 (.cells #[.slice b2.ro I.refs.length b2.rc, .slice b2.tq I.table.length b2.tc, .slice b2.so I.snaps.length b2.sc, .slice b2.dq I.data.length b2.dc] 61))
  have HX2 := hide (VarM.new w2 61 (.slice b2.ro I.refs.length b2.rc) (.slice b2.tq I.table.length b2.tc) (.slice b2.so I.snaps.length b2.sc) (.slice b2.dq I.data.length b2.dc))
  have HB2 := hide (fr (fr (unhide HB1) hb) (unhide HBL))
  have HV2 := hide (((unhide HV1).below hb).below (unhide HBL))
  have HC2 := hide (((unhide HC1).below hb).below (unhide HBL))
  have HO2 := hide (ho2.below (unhide HBL))
  clear hb ho2 HBL HB1 HV1 HC1 HE1 heq c0 c1 c2 c3 c4 c5 c6 c7 c8 c9 c10 c11 c12 c13 c14
  go_upto_region 6 with fail
  revert HX2 HB2 HV2 HC2 HO2
  generalize (w2.alloc _) = W2
  generalize w2.heap.size = pm
  intro HX2 HB2 HV2 HC2 HO2
  obtain ⟨c0, c1, c2, c3, c4, c5, c6, c7, c8, c9, c10, c11, c12, c13, c14⟩ := (unhide HV2).cells
  obtain ⟨x0, x1, x2, x3⟩ := (unhide HX2).cells
  by_cases k0 : C = 0
  rotate_left
  · have kb : (C == 0) = false := by simp [k0]
    have HF : Hid (R = (false, 0)) := hide (by rw [unhide HR2, decide_eq_false k0]; rfl)
    clear k0
    go_wp2
    go_ret2
    exact ⟨ret_mw (unhide HF), unhide HB2⟩
  have HIG := hide (unhide HIR k0)
  have kb : (C == 0) = true := by simp [k0]
  have HR3 : Hid (R = (m.ag && gsEq m.g (gsOf I), 0)) := hide (by rw [unhide HR2, decide_eq_true k0]; rfl)
  clear k0 HR2
  cases hag : m.ag
  · rw [hag] at c14
    have HF : Hid (R = (false, 0)) := hide (by rw [unhide HR3, hag]; rfl)
    clear hag
    go_wp2
    go_ret2
    exact ⟨ret_mw (unhide HF), unhide HB2⟩
  rw [hag] at c14
  have HF : Hid (R = (gsEq m.g (gsOf I), 0)) := hide (by rw [unhide HR3, hag]; rfl)
  clear hag
  go_wp2_with fail
  refine (isShownBy_any a m w.heap.size b2 I _ (unhide HL).g (unhide HIG) (unhide HV2) (unhide HC2) ((unhide HO2).shows (unhide HIG).M.zs)).mono ?_
  rintro e w3 ⟨rfl, hb⟩
  have HB3 := hide (fr (unhide HB2) hb)
  clear hb c0 c1 c2 c3 c4 c5 c6 c7 c8 c9 c10 c11 c12 c13 c14 x0 x1 x2 x3
  go_wp2
  go_ret2
  exact ⟨ret_mw (unhide HF), unhide HB3⟩

end Go.Proofs.YtjjkppknojecjaaGreatDoor

namespace Go.Proofs.YtjjkppknojecjaaGreatDoor
open Go.RowKit
set_option linter.unusedVariables false
set_option maxRecDepth 100000

end Go.Proofs.YtjjkppknojecjaaGreatDoor

namespace Go.Proofs.YtjjkppknojecjaaGreatDoor
open Go.RowKit
set_option linter.unusedVariables false

end Go.Proofs.YtjjkppknojecjaaGreatDoor

namespace Go.Proofs.YtjjkppknojecjaaGreatDoor
open Go.RowKit
set_option linter.unusedVariables false
section
variable {P : Program}
end
def short (ms : List Wr) : Prop := ∀ x ∈ ms, x.data.size ≤ 80
end Go.Proofs.YtjjkppknojecjaaGreatDoor

namespace Go.Proofs.YtjjkppknojecjaaGreatDoor
open Go.RowKit
set_option linter.unusedVariables false

end Go.Proofs.YtjjkppknojecjaaGreatDoor

namespace Go.Proofs.YtjjkppknojecjaaGreatDoor
open Go.RowKit
set_option linter.unusedVariables false
set_option maxRecDepth 100000

end Go.Proofs.YtjjkppknojecjaaGreatDoor

namespace Go.Proofs.YtjjkppknojecjaaGreatDoor
open Go.RowKit
set_option linter.unusedVariables false
set_option maxRecDepth 100000

end Go.Proofs.YtjjkppknojecjaaGreatDoor

namespace Go.Proofs.YtjjkppknojecjaaGreatDoor
open Go.RowKit
set_option linter.unusedVariables false
set_option maxRecDepth 100000

end Go.Proofs.YtjjkppknojecjaaGreatDoor

namespace Go.Proofs.YtjjkppknojecjaaGreatDoor
open Go.RowKit
set_option linter.unusedVariables false
set_option maxRecDepth 100000

theorem l01ReadAt (ao bo : Option Addr) (ca cb : Nat) (ss : List ByteArray) (xs : List Wr) (h a : Int) (T : ByteArray) (w : World) (hd : diskB ss xs = true) (h0 : 0 ≤ a) (h3 : a ≤ 63) (hT : readV ss xs h a = T) (h1 : Ss w ao ss) (h2 : Ios w bo xs) :
    Calls Tryz.prog 40 #[.agg #[.slice ao ss.length ca, .slice bo xs.length cb], .int .i64 h, .int .i64 a] w fun e w' => e = .returned (.string T) ∧ Below w.heap.size w w' := by
  obtain ⟨l1, l2⟩ := diskB_len hd
  obtain ⟨n, rfl⟩ := Int.eq_ofNat_of_zero_le h0
  subst hT
  exact l01Read_any ao bo ca cb ss xs h n w (by omega) (by omega) (by unfold maxLen; omega) h1 h2
end Go.Proofs.YtjjkppknojecjaaGreatDoor

namespace Go.Proofs.YtjjkppknojecjaaGreatDoor
open Go.RowKit
set_option linter.unusedVariables false
set_option maxRecDepth 100000

def cdO (s : ByteArray) : List Int := if cdB s = true then cdL s else []
theorem cdN_iff (p : Int) : cdN p = true ↔ p / 16 ^ 6 = 0 := by simp [cdN]

set_option maxHeartbeats 3200000 in
theorem l08Decode_any (s : ByteArray) (w : World) (hs : s.size ≤ 65536) :
    Calls Tryz.prog 41 #[.string s] w fun e w' => ∃ v, e = .returned (.tuple #[v, .bool (cdB s)]) ∧ OwnN w' w.heap.size v (cdO s) ∧ Below w.heap.size w w' := by
  obtain ⟨j0, hj, hy0, hy1, hy2⟩ := info_parts infoM
  go_enter Tryz.func41, Tryz.ntmps41
  go_wp2_with fail
  refine (l02Open_any s 2 _ hs).mono ?_
  rintro e w1 ⟨v, rfl, ⟨qo, qa, rfl, ho⟩, hb1⟩
  have HB1 := hide hb1
  have HI := hide (ownRN ho)
  clear ho hb1
  cases hop : openB s 2
  · have HE := hide (cd_open hop)
    have HCO : Hid (cdO s = []) := hide (by rw [cdO, cd_open hop]; rfl)
    clear hop
    go_wp2
    go_ret2
    exact ⟨.slice (some ⟨w1.heap.size, 0, none⟩) 0 0, ret_nb rfl (unhide HE).symm, by rw [unhide HCO]; exact OwnN.nil _ _ _, fr (unhide HB1) (Joins.below_alloc1 _ _)⟩
  by_cases h4 : (openL s 2).length = 4
  · have HIN := hide (openL_in hop)
    have H4 := hide h4
    have HOP := hide hop
    have b4 : ((((openL s 2).length : Nat) : Int) != 4) = false := by simp [h4]
    have HA : Hid (Below w1.heap.size w1 (w1.alloc (.cells #[] 3))) := hide (Joins.below_alloc1 _ _)
    have HCL : Hid (cdL s = sxA (openL s 2) 4) := hide rfl
    have HNO : Hid (∀ k (hk : k < (openL s 2).length), cdN (openL s 2)[k] = false → cdB s = false) := hide (fun k hk h => cd_num hk h)
    have HYES : Hid ((∀ j (hj : j < (openL s 2).length), cdN (openL s 2)[j] = true) → cdB s = true) := hide (fun h => cd_yes (unhide HOP) (unhide H4) h)
    clear hop h4
    generalize openL s 2 = ns at *
    go_wp2
    go_loopw [6, 7] (fun o i wr => ∃ (k : Nat) (po : Option Addr) (pa : Nat), k ≤ ns.length ∧ i = .int .i64 k ∧ o = .slice po (6 * k) pa ∧ Hid (∀ j (h : j < ns.length), j < k → cdN ns[j] = true) ∧ Hid (OwnR wr w1.heap.size 3 1 (.slice po (6 * k) pa) (6 * k) (intV (sxA ns k))) ∧ Hid (Below w1.heap.size w1 wr)) (fun _ i _ => ns.length - (intOf i).toNat)
    case atStart => exact ⟨0, _, _, Nat.zero_le _, rfl, rfl, hide (fun j _ h => by omega), hide (.inl ⟨rfl, rfl, _, rfl⟩), HA⟩
    case round =>
      obtain ⟨k, po, pa, hk, rfl, rfl, HAL, HO, HB⟩ := hrel
      by_cases hlt : k < ns.length
      · obtain ⟨b, off, rfl, hcl⟩ := (unhide HI).below (unhide HB) k hlt
        obtain ⟨hp0, hp1⟩ := unhide HIN k hlt
        have HP := hide (And.intro hp0 hp1)
        have HK4 : Hid (k < 4) := hide (by have := unhide H4; omega)
        have HSU := hide (sxA_succ hlt)
        have HP6 : Hid (cdN ns[k] = true ↔ ns[k] / 16 ^ 6 = 0) := hide (cdN_iff _)
        have HNK := hide (unhide HNO k hlt)
        have HAK := hide (fun (h : cdN ns[k] = true) => all_succ hlt (unhide HAL) h)
        have HSL := hide (sxA_len ns k hk)
        go_wp2
        clear hcl
        generalize ns[k] = p at *
        go_loopw [6, 8, 9] (fun o n j wq => ∃ (m : Nat) (ro : Option Addr) (ra : Nat), m ≤ 6 ∧ j = .int .i64 m ∧ n = .int .i64 (p / 16 ^ m) ∧ o = .slice ro (6 * k + m) ra ∧ Hid (OwnR wq w1.heap.size 3 1 (.slice ro (6 * k + m) ra) (6 * k + m) (intV (sxA ns k ++ sxT p m))) ∧ Hid (Below w1.heap.size w1 wq)) (fun _ _ j _ => 6 - (intOf j).toNat)
        case atStart => exact ⟨0, po, pa, by omega, rfl, by simp, rfl, hide (by simpa [sxT] using unhide HO), HB⟩
        case round =>
          clear HO HB
          obtain ⟨m, ro, ra, hm, rfl, rfl, rfl, HO, HB⟩ := hrel
          by_cases hm6 : m < 6
          · obtain ⟨r0, r1⟩ := rest_in (unhide HP).1 (unhide HP).2 m
            have HRS := hide (rest_succ p m)
            have HSS := hide (sxT_succ p m)
            have hm6' : (m : Int) < 6 := by omega
            have hkm : 6 * k + m ≤ 1000 := by have := unhide HK4; omega
            generalize p / 16 ^ m = V at *
            have HOA := hide ((unhide HO).below (Joins.below_alloc1 _ (.cells #[.int .i64 (V % 16)] 3)))
            have HBA := hide (fr (unhide HB) (Joins.below_alloc1 _ (.cells #[.int .i64 (V % 16)] 3)))
            have HSZ := hide (unhide HB).size
            go_wp2_with (at_builtin; refine wpList_append_one rfl _ _ 29 rfl w1.heap.size 3 j0 (.int .i64 0) 1 8 Tryz.underlying29 hj hy0 hy1 hy2 rfl (by omega) ro (6 * k + m) ra (intV (sxA ns k ++ sxT p m)) rfl (unhide HOA) (by have := unhide HSZ; simp; omega) ⟨wr.heap.size, 0, none⟩ _ [.int .i64 (V % 16)] rfl rfl (byte_news wr _ _) (int_one _) (by unfold maxLen; omega) (by omega) ?_; intro g2 cap2 wA hoA hkA; have HSF := hide (And.intro hoA (keep_below (unhide HBA) (unhide HOA) (Nat.le_refl _) hkA)); clear hoA hkA)
            go_roundw
            case rel => exact ⟨m + 1, some ⟨g2, 0, none⟩, cap2, by omega, by go_num, by rw [← unhide HRS], by rfl, hide (.inr ⟨by omega, by rw [unhide HSS, ← List.append_assoc, intV_snoc]; exact (unhide HSF).1⟩), hide (unhide HSF).2⟩
            case measure => simp [intOf]; omega
          · have hm66 : m = 6 := by omega
            subst hm66
            obtain ⟨r0, r1⟩ := rest_in (unhide HP).1 (unhide HP).2 6
            have HON : Hid (OwnR wr w1.heap.size 3 1 (.slice ro (6 * (k + 1)) ra) (6 * (k + 1)) (intV (sxA ns (k + 1)))) := hide (by rw [← unhide HSU]; exact unhide HO)
            by_cases hz : p / 16 ^ 6 = 0
            · have HAN := hide (unhide HAK ((unhide HP6).2 hz))
              have hgt : ¬ (0 < p / 16 ^ 6) := by omega
              have hk4i : (k : Int) < 4 := by have := unhide HK4; omega
              clear hz
              generalize p / 16 ^ 6 = V at *
              go_wp2
              go_roundw
              case rel => exact ⟨k + 1, ro, ra, by omega, by go_num, by rfl, HAN, HON, HB⟩
              case measure => simp [intOf]; omega
            · have HE := hide (unhide HNK (by rw [← Bool.not_eq_true]; exact fun h => hz ((unhide HP6).1 h)))
              have HCO : Hid (cdO s = []) := hide (by rw [cdO, unhide HE]; rfl)
              have hgt : 0 < p / 16 ^ 6 := by omega
              clear hz
              generalize p / 16 ^ 6 = V at *
              go_wp2
              go_ret2
              exact ⟨.slice (some ⟨wr.heap.size, 0, none⟩) 0 0, ret_nb rfl (unhide HE).symm, by rw [unhide HCO]; exact OwnN.nil _ _ _, fr (unhide HB1) (fr (unhide HB) (Joins.below_alloc1 _ _))⟩
      · have hk4 : k = 4 := by have := unhide H4; omega
        subst hk4
        have HE := hide (unhide HYES (fun j h => unhide HAL j h (by have := unhide H4; omega)))
        have HCO : Hid (cdO s = sxA ns 4) := hide (by rw [cdO, unhide HE, if_pos rfl, unhide HCL])
        have HL24 := hide (sxA_len ns 4 (by have := unhide H4; omega))
        have HSZ := hide (unhide HB1).size
        go_wp2
        go_ret2
        refine ⟨.slice po (6 * 4) pa, ret_nb rfl (unhide HE).symm, ?_, fr (unhide HB1) (unhide HB)⟩
        rw [unhide HCO]
        refine ⟨po, pa, by rw [unhide HL24], ?_⟩
        rw [unhide HL24]
        exact (unhide HO).base (unhide HSZ)
  · have HE := hide (cd_len h4)
    have HCO : Hid (cdO s = []) := hide (by rw [cdO, cd_len h4]; rfl)
    have b4 : ((((openL s 2).length : Nat) : Int) != 4) = true := by simp; omega
    clear hop h4
    go_wp2
    go_ret2
    exact ⟨.slice (some ⟨w1.heap.size, 0, none⟩) 0 0, ret_nb rfl (unhide HE).symm, by rw [unhide HCO]; exact OwnN.nil _ _ _, fr (unhide HB1) (Joins.below_alloc1 _ _)⟩

end Go.Proofs.YtjjkppknojecjaaGreatDoor

namespace Go.Proofs.YtjjkppknojecjaaGreatDoor
open Go.RowKit
set_option linter.unusedVariables false
set_option maxRecDepth 100000

def nmK (t : ByteArray) (k : Nat) : Int := (t.data.toList.take k).foldl ch1 0
theorem nmK_succ {t : ByteArray} {k : Nat} (hk : k < t.size) : nmK t (k + 1) = ch1 (nmK t k) t.data.toList[k] := by
  unfold nmK
  rw [List.take_succ_eq_append_getElem (by simpa using hk), List.foldl_append]; rfl
theorem nmK_all (t : ByteArray) : nmK t t.size = nmN t := by
  unfold nmK nmN
  rw [List.take_of_length_le (by simp)]
theorem ch1_le {n : Int} {b : UInt8} (h0 : 0 ≤ n) : 0 ≤ ch1 n b ∧ ch1 n b ≤ 27 * n + 256 := by
  unfold ch1
  have h1 := Int.emod_nonneg ((b.toNat : Int) - 97) (show (256 : Int) ≠ 0 by decide)
  have h2 := Int.emod_lt_of_pos ((b.toNat : Int) - 97) (show (0 : Int) < 256 by decide)
  omega
theorem tl_lt {t : ByteArray} {k : Nat} (h : k + 1 ≤ t.size) : k < t.data.toList.length := by
  have : t.data.toList.length = t.size := by simp
  omega
def bd27 : Nat → Int
  | 0 => 0
  | k + 1 => 27 * bd27 k + 256
theorem nmK_le (t : ByteArray) : ∀ k, k ≤ t.size → 0 ≤ nmK t k ∧ nmK t k ≤ bd27 k
  | 0, _ => by simp [nmK, bd27]
  | k + 1, h => by
    have h1 := nmK_le t k (by omega)
    rw [nmK_succ (by omega)]
    have h2 := ch1_le (n := nmK t k) (b := t.data.toList[k]'(tl_lt h)) h1.1
    refine ⟨h2.1, Int.le_trans h2.2 ?_⟩
    rw [bd27]
    omega

theorem bd27_le : ∀ k, k ≤ 8 → 0 ≤ bd27 k ∧ bd27 k ≤ 10000000000000 := by
  intro k hk
  rcases (show k = 0 ∨ k = 1 ∨ k = 2 ∨ k = 3 ∨ k = 4 ∨ k = 5 ∨ k = 6 ∨ k = 7 ∨ k = 8 by omega) with rfl | rfl | rfl | rfl | rfl | rfl | rfl | rfl | rfl <;> decide

set_option maxHeartbeats 800000 in
theorem l11Name_any (t : ByteArray) (w : World) (hz : t.size ≤ 8) :
    Calls Tryz.prog 43 #[.string t] w fun e w' => e = .returned (.int .i64 (nmN t)) ∧ w' = w := by
  go_enter Tryz.func43, Tryz.ntmps43
  go_wp2
  go_loop [3, 4] (fun n i => ∃ k : Nat, k ≤ t.size ∧ i = .int .i64 k ∧ n = .int .i64 (nmK t k)) (fun _ i => t.size - (intOf i).toNat)
  case atStart => exact ⟨0, Nat.zero_le _, rfl, rfl⟩
  case round =>
    obtain ⟨k, hk, rfl, rfl⟩ := hrel
    by_cases hlt : k < t.size
    · have hlti : (k : Int) < (t.size : Int) := by omega
      have HS : Hid (nmK t (k + 1) = 27 * nmK t k + ((t[k].toNat : Int) - 97) % 256 + 1) := hide (by
        rw [nmK_succ hlt]
        have e : t.data.toList[k]'(by simpa using hlt) = t[k] := by have := snm_get hlt; rw [List.getElem?_eq_getElem (by simpa using hlt)] at this; exact Option.some.inj this
        rw [e]; rfl)
      obtain ⟨b0, b1⟩ := nmK_le t k hk
      obtain ⟨d0, d1⟩ := bd27_le k (by omega)
      have h1 := Int.emod_nonneg ((t[k].toNat : Int) - 97) (show (256 : Int) ≠ 0 by decide)
      have h2 := Int.emod_lt_of_pos ((t[k].toNat : Int) - 97) (show (0 : Int) < 256 by decide)
      have hu : IntKind.u8.wrap ((t[k].toNat : Int) - 97) = ((t[k].toNat : Int) - 97) % 256 := by simp [IntKind.wrap, IntKind.bits, IntKind.signed]
      generalize nmK t k = X at *
      generalize ((t[k].toNat : Int) - 97) % 256 = D at *
      have w1 : IntKind.i64.wrap (27 * X) = 27 * X := by rw [IntKind.wrap_i64]; omega
      have w2 : IntKind.i64.wrap D = D := by rw [IntKind.wrap_i64]; omega
      have w3 : IntKind.i64.wrap (27 * X + D) = 27 * X + D := by rw [IntKind.wrap_i64]; omega
      have w4 : IntKind.i64.wrap (27 * X + D + 1) = 27 * X + D + 1 := by rw [IntKind.wrap_i64]; omega
      go_wp2
      go_round
      case rel => exact ⟨k + 1, by omega, by go_num, by rw [unhide HS]⟩
      case measure => simp [intOf]; omega
    · obtain rfl : k = t.size := by omega
      have HF := hide (nmK_all t)
      go_wp2
      go_ret
      exact ⟨ret_int (unhide HF), rfl⟩

end Go.Proofs.YtjjkppknojecjaaGreatDoor

namespace Go.Proofs.YtjjkppknojecjaaGreatDoor
open Go.RowKit
set_option linter.unusedVariables false
set_option maxRecDepth 100000

theorem lit1 (W : World) (a : Int) : (convert 132 9 (.slice (some ⟨W.heap.size, 0, none⟩) 1 1)).run Tryz.prog (W.alloc (.cells #[.int .u8 a] 5)) = .ok (.string (strOfNums [a])) (W.alloc (.cells #[.int .u8 a] 5)) := by
  refine run_convert_bytes_arg _ 132 5 Tryz.underlying132 Tryz.underlying5 W.heap.size 0 1 1 [a] rfl ?_ 9 Tryz.underlying9
  intro i hi
  obtain rfl : i = 0 := by omega
  simp [go_sem, List.getD]
theorem lit1H {w W : World} (_ : Hid (Below w.heap.size w W)) (a : Int) : (convert 132 9 (.slice (some ⟨W.heap.size, 0, none⟩) 1 1)).run Tryz.prog (W.alloc (.cells #[.int .u8 a] 5)) = .ok (.string (strOfNums [a])) (W.alloc (.cells #[.int .u8 a] 5)) := lit1 W a
structure UnJ (N m : Nat) (s : ByteArray) : Prop where
  h : ∃ f, f + s.size ≤ 8 ∧ m < 27 ^ f ∧ ltL 8 N = ltL f m ++ s.data.toList
theorem UnJ.start {N : Nat} (h : N ≤ 2147483647) : UnJ N N ByteArray.empty := ⟨8, by decide, by omega, by simp⟩
theorem UnJ.small {N m : Nat} {s : ByteArray} (J : UnJ N m s) : m < 282429536481 ∧ s.size ≤ 8 := by
  obtain ⟨f, h1, h2, _⟩ := J.h
  exact ⟨Nat.lt_of_lt_of_le h2 (Nat.le_trans (Nat.pow_le_pow_right (by decide) (show f ≤ 8 by omega)) (by decide)), by omega⟩
theorem UnJ.step {N m : Nat} {s : ByteArray} (J : UnJ N m s) (hm : 0 < m) : UnJ N (m / 27) (strOfNums [97 + ((m : Int) + 26) % 27] ++ s) ∧ (strOfNums [97 + ((m : Int) + 26) % 27] ++ s).size = 1 + s.size := by
  obtain ⟨f, h1, h2, h3⟩ := J.h
  have hsz : (strOfNums [97 + ((m : Int) + 26) % 27] ++ s).size = 1 + s.size := by rw [ByteArray.size_append, strOfNums_size]; rfl
  refine ⟨?_, hsz⟩
  cases f with
  | zero => simp at h2; omega
  | succ f =>
    refine ⟨f, by omega, by rw [Nat.pow_succ] at h2; omega, ?_⟩
    rw [h3, ltL, if_neg (by omega)]
    have e : (strOfNums [97 + ((m : Int) + 26) % 27]).data.toList = [lt1 m] := by
      show [UInt8.ofNat (97 + ((m : Int) + 26) % 27).toNat] = [lt1 m]
      rw [show (97 + ((m : Int) + 26) % 27).toNat = 97 + (m + 26) % 27 by omega]
      rfl
    rw [ByteArray.data_append, Array.toList_append, e]
    simp
theorem UnJ.stop {N : Nat} {s : ByteArray} (J : UnJ N 0 s) : s = unT (N : Int) := by
  obtain ⟨f, h1, h2, h3⟩ := J.h
  rw [ltL_zero, List.nil_append] at h3
  rw [unT, Int.toNat_natCast, h3]

set_option maxHeartbeats 800000 in
theorem l11Unname_any (N : Nat) (w : World) (hz : N ≤ 2147483647) :
    Calls Tryz.prog 44 #[.int .i64 N] w fun e w' => e = .returned (.string (unT N)) ∧ Below w.heap.size w w' := by
  have HJ0 := hide (UnJ.start hz)
  clear hz
  go_enter Tryz.func44, Tryz.ntmps44
  go_wp2
  go_loopw [0, 3] (fun n o wr => ∃ (m : Nat) (s : ByteArray), n = .int .i64 m ∧ o = .string s ∧ Hid (UnJ N m s) ∧ Hid (Below w.heap.size w wr)) (fun n _ _ => (intOf n).toNat)
  case atStart => exact ⟨N, _, rfl, rfl, HJ0, hide (Below.refl _ _)⟩
  case round =>
    obtain ⟨m, s, rfl, rfl, HJ, HB⟩ := hrel
    obtain ⟨b1, b2⟩ := (unhide HJ).small
    by_cases hlt : 0 < m
    · have hlti : (0 : Int) < (m : Int) := by omega
      obtain ⟨hj, hsz⟩ := (unhide HJ).step hlt
      have HJ2 := hide hj
      clear hj
      have hcv := lit1H HB (97 + ((m : Int) + 26) % 27)
      have w1 : IntKind.i64.wrap ((m : Int) + 26) = (m : Int) + 26 := by rw [IntKind.wrap_i64]; omega
      have hs1 : (strOfNums [97 + ((m : Int) + 26) % 27]).size = 1 := strOfNums_size _
      clear hsz
      have h1 := Int.emod_nonneg ((m : Int) + 26) (show (27 : Int) ≠ 0 by decide)
      have h2 := Int.emod_lt_of_pos ((m : Int) + 26) (show (0 : Int) < 27 by decide)
      go_wp2
      go_roundw
      case rel => exact ⟨m / 27, _, by go_num, rfl, HJ2, hide (fr (unhide HB) (Joins.below_alloc1 _ _))⟩
      case measure => simp [intOf]; omega
    · obtain rfl : m = 0 := by omega
      have HF := hide (unhide HJ).stop
      go_wp2
      go_ret
      exact ⟨ret_str (unhide HF), unhide HB⟩

end Go.Proofs.YtjjkppknojecjaaGreatDoor
