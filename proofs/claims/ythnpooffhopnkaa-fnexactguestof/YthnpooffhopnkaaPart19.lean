import Derived.Test.YthnpooffhopnkaaRows
import Derived.Test.YthnpooffhopnkaaPart1
import Derived.Test.YthnpooffhopnkaaPart2
import Derived.Test.YthnpooffhopnkaaPart3
import Derived.Test.YthnpooffhopnkaaPart6
import Derived.Test.YthnpooffhopnkaaPart16
import Derived.Test.YthnpooffhopnkaaPart4
import Derived.Test.YthnpooffhopnkaaPart12
import Derived.Test.YthnpooffhopnkaaPart18
import Derived.Test.YthnpooffhopnkaaPart14
import Derived.Test.YthnpooffhopnkaaPart15
import Derived.Test.YthnpooffhopnkaaPart13
import Derived.WalkKit
import Derived.WalkSpells
import Derived.KernelRfl
import Derived.LoopN
import Derived.Deep.RegionWith

/- Contracts of the program's valuesShown, GuestOf. -/
namespace Go.Proofs.Ythnpooffhopnkaa
open Go.RowKit
set_option linter.unusedVariables false
set_option maxRecDepth 100000

set_option maxHeartbeats 800000 in
theorem valuesShownC_any (a : Im4) (m : Img) (x : Nat) (e : Int) (w : World) (he0 : 0 ≤ e) (he1 : e - 2 < m.data.length) (hd : m.data.length ≤ 900) (hv : VarM w x 45 (.slice a.ro m.refs.length a.rc) (.slice a.tq m.table.length a.tc) (.slice a.so m.snaps.length a.sc) (.slice a.dq m.data.length a.dc)) (hc : Is w a.dq m.data) :
    Calls Try.prog 88 #[.int .i64 (min e 2), .int .i64 (max 0 (e - 2)), .pointer (some ⟨x, 0, none⟩)] w fun r w' => r = .returned (.tuple #[.int .i64 (imVal m e), .bool true]) ∧ w' = w := by
  by_cases h2 : e < 2
  · have HE : Hid (imVal m e = 0) := hide (if_pos h2)
    have h3 : (min e 2 != 2) = true := by simp; omega
    clear h2
    generalize min e 2 = K2 at *
    generalize max 0 (e - 2) = C2 at *
    go_enter Try.func88, Try.ntmps88
    go_wp2
    go_ret2
    exact ⟨by rw [unhide HE]; rfl, rfl⟩
  · obtain ⟨c, hcc⟩ := Int.eq_ofNat_of_zero_le (show 0 ≤ e - 2 by omega)
    have hcd : c < m.data.length := by omega
    have hcdi : (c : Int) < (m.data.length : Int) := by omega
    have HE : Hid (imVal m e = m.data[c]) := hide (by rw [imVal, if_neg h2, hcc, Int.toNat_natCast]; simp [List.getD, hcd])
    have h1 : min e 2 = 2 := by omega
    have h3 : max 0 (e - 2) = (c : Int) := by omega
    rw [h1, h3]
    obtain ⟨b3, o3, e3, hx3⟩ := hc c hcd
    obtain ⟨c0, c1, c2, c3⟩ := hv.cells
    rw [e3] at c3
    clear h1 h3 h2 hcc e3
    generalize m.data[c] = V at *
    go_enter Try.func88, Try.ntmps88
    go_wp2
    go_ret2
    exact ⟨by rw [unhide HE]; rfl, rfl⟩

set_option maxHeartbeats 1600000 in
theorem takeEntries_vals (a : Im4) (m : Img) (x : Nat) (ao : Option Addr) (cap : Nat) (xs : List Int) (w : World) (hl : xs.length ≤ 1000) (hx : ∀ j (h : j < xs.length), 0 ≤ xs[j] ∧ xs[j] - 2 < m.data.length) (hd : m.data.length ≤ 900) (hv : VarM w x 45 (.slice a.ro m.refs.length a.rc) (.slice a.tq m.table.length a.tc) (.slice a.so m.snaps.length a.sc) (.slice a.dq m.data.length a.dc)) (hcd : Is w a.dq m.data) (hc : Is w ao xs) :
    Calls Try.prog 87 #[.slice ao xs.length cap, .func (.func 88) #[] #[.pointer (some ⟨x, 0, none⟩)]] w fun e w' => ∃ v, e = .returned v ∧ OwnN w' w.heap.size v (shT m xs) ∧ Below w.heap.size w w' := by
  obtain ⟨j0, hj, hy0, hy1, hy2⟩ := info_parts infoIg
  have HC := hide hc
  have HCD := hide hcd
  have HX := hide hx
  have HD := hide hd
  have HV := hide hv
  clear hc hcd hx hd hv
  go_enter Try.func87, Try.ntmps87
  go_wp2
  go_loopw [5, 12] (fun o i wr => ∃ (k : Nat) (ys : List Int) (qo : Option Addr) (qa : Nat), k ≤ xs.length ∧ i = .int .i64 k ∧ o = .slice qo ys.length qa ∧ Hid (ys = shT m (xs.take k)) ∧ Hid (OwnR wr w.heap.size 3 1 (.slice qo ys.length qa) ys.length (intV ys)) ∧ Hid (Below w.heap.size w wr)) (fun _ i _ => xs.length - (intOf i).toNat)
  case atStart => exact ⟨0, [], _, _, Nat.zero_le _, rfl, rfl, hide rfl, hide (.inl ⟨rfl, rfl, _, rfl⟩), hide (Below.refl _ _)⟩
  case round =>
    obtain ⟨k, ys, qo, qa, hk, rfl, rfl, HE, HO, HB⟩ := hrel
    by_cases hlt : k < xs.length
    · obtain ⟨b, off, rfl, hcl⟩ := ((unhide HC).below (unhide HB)) k hlt
      have HXK := hide (unhide HX k hlt)
      have HS := hide (shT_take (m := m) hlt)
      have HYL : Hid (ys.length ≤ 1000) := hide (by rw [unhide HE, shT, List.length_map, List.length_take]; omega)
      have hyl := unhide HYL
      generalize xs[k] = X at *
      have HCALL : Hid (∀ W, Below wr.heap.size wr W → Calls Try.prog 88 #[.int .i64 (min X 2), .int .i64 (max 0 (X - 2)), .pointer (some ⟨x, 0, none⟩)] W fun r w' => r = .returned (.tuple #[.int .i64 (imVal m X), .bool true]) ∧ w' = W) := hide (fun W hW => valuesShownC_any a m x X W (unhide HXK).1 (unhide HXK).2 (unhide HD) (((unhide HV).below (unhide HB)).below hW) (((unhide HCD).below (unhide HB)).below hW))
      have HSE : Hid (∀ W, Calls Try.prog 114 #[.int .i64 X] W fun e w' => e = .returned (.tuple #[.int .i64 (min X 2), .int .i64 (max 0 (X - 2))]) ∧ w' = W) := hide (fun W => splitEntry_any X W (by have := unhide HXK; omega) (by have := unhide HXK; have := unhide HD; omega))
      generalize imVal m X = V at *
      generalize min X 2 = K2 at *
      generalize max 0 (X - 2) = C2 at *
      have HOA := hide ((unhide HO).below (Joins.below_alloc1 _ (.cells #[.int .i64 V] 3)))
      have HBA := hide (fr (unhide HB) (Joins.below_alloc1 _ (.cells #[.int .i64 V] 3)))
      have HSZ := hide (unhide HB).size
      go_wp2_with (first | (go_at_call 114; refine (unhide HSE _).mono ?_; rintro e w' ⟨rfl, hw⟩; replace hw := hw.symm; subst hw) | (go_at_call 88; refine (unhide HCALL _ (Below.refl _ _)).mono ?_; rintro e w' ⟨rfl, hw⟩; replace hw := hw.symm; subst hw) | (at_builtin; refine wpList_append_one rfl _ _ 22 rfl w.heap.size 3 j0 (.int .i64 0) 1 8 Try.underlying22 hj hy0 hy1 hy2 rfl (by omega) qo ys.length qa (intV ys) rfl (unhide HOA) (by have := unhide HSZ; simp; omega) ⟨wr.heap.size, 0, none⟩ _ [.int .i64 V] rfl rfl (byte_news wr _ _) (int_one _) (by unfold maxLen; omega) (by omega) ?_; intro g2 cap2 wA hoA hkA; have HSF := hide (And.intro hoA (keep_below (unhide HBA) (unhide HOA) (Nat.le_refl _) hkA)); clear hoA hkA))
      go_roundw
      case rel => exact ⟨k + 1, ys ++ [V], some ⟨g2, 0, none⟩, cap2, by omega, by go_num, by simp, hide (by rw [unhide HS, unhide HE]), hide (by rw [List.length_append, intV_snoc]; exact .inr ⟨by simp, (unhide HSF).1⟩), hide (unhide HSF).2⟩
      case measure => simp [intOf]; omega
    · have HS : Hid (shT m xs = ys) := hide (by rw [unhide HE, List.take_of_length_le (by omega)])
      go_wp2
      go_ret
      exact ⟨.slice qo ys.length qa, rfl, by rw [unhide HS]; exact ⟨qo, qa, rfl, unhide HO⟩, unhide HB⟩

set_option maxHeartbeats 1600000 in
theorem valuesShown_any (a : Im4) (m : Img) (ao : Option Addr) (cap : Nat) (xs : List Int) (w : World) (hl : xs.length ≤ 1000) (hx : ∀ j (h : j < xs.length), 0 ≤ xs[j] ∧ xs[j] - 2 < m.data.length) (hd : m.data.length ≤ 900) (hcd : Is w a.dq m.data) (hc : Is w ao xs) :
    Calls Try.prog 53 #[imV a m, .slice ao xs.length cap] w fun e w' => ∃ v, e = .returned v ∧ OwnN w' w.heap.size v (shT m xs) ∧ Below w.heap.size w w' := by
  have hmf : ∀ (fn : Fn) (first cap : Array Value) (w : World), (Instr.makeFunc fn first cap).run Try.prog w = .ok (.func fn first cap) w := fun _ _ _ _ => rfl
  have HA := hide (Joins.below_alloc1 w (.cells #[.slice a.ro m.refs.length a.rc, .slice a.tq m.table.length a.tc, .slice a.so m.snaps.length a.sc, .slice a.dq m.data.length a.dc] 45))
  have HV := hide (VarM.new w 45 (.slice a.ro m.refs.length a.rc) (.slice a.tq m.table.length a.tc) (.slice a.so m.snaps.length a.sc) (.slice a.dq m.data.length a.dc))
  have HC := hide (hc.below (unhide HA))
  have HCD := hide (hcd.below (unhide HA))
  have HX := hide hx
  have HD := hide hd
  clear hc hcd hx hd
  go_enter Try.func53, Try.ntmps53
  go_upto_region 1 with fail
  revert HA HV HC HCD
  generalize (w.alloc _) = W0
  intro HA HV HC HCD
  go_wp2_with fail
  refine (takeEntries_vals a m w.heap.size ao cap xs _ hl (unhide HX) (unhide HD) (unhide HV) (unhide HCD) (unhide HC)).mono ?_
  rintro e w2 ⟨v, rfl, ho, hb⟩
  have HO := hide (ho.base (unhide HA).size)
  have HB := hide (fr (unhide HA) hb)
  clear ho hb
  go_wp2
  go_ret
  exact ⟨v, rfl, unhide HO, unhide HB⟩

set_option maxHeartbeats 6400000 in
theorem guestOf_impl (a : Im4) (m : Img) (w : World) (hL : ImL m) (hc : ImS w a m) :
    Calls Try.prog 20 #[imV a m] w fun e w' => AnsG w w' e (goA m) := by
  obtain ⟨j0, hj0, hy0, hy1, hy2⟩ := info_parts infoSg
  have HA := hide (Joins.below_alloc2 w (.cells #[.slice a.ro m.refs.length a.rc, .slice a.tq m.table.length a.tc, .slice a.so m.snaps.length a.sc, .slice a.dq m.data.length a.dc] 45) (.cells #[.slice none 0 0, .slice none 0 0] 30))
  have HV := hide ((VarM.new w 45 (.slice a.ro m.refs.length a.rc) (.slice a.tq m.table.length a.tc) (.slice a.so m.snaps.length a.sc) (.slice a.dq m.data.length a.dc)).below (Joins.below_alloc1 _ (.cells #[.slice none 0 0, .slice none 0 0] 30)))
  have HR := hide ((VarG.new (w.alloc (.cells #[.slice a.ro m.refs.length a.rc, .slice a.tq m.table.length a.tc, .slice a.so m.snaps.length a.sc, .slice a.dq m.data.length a.dc] 45)) 30 (.slice none 0 0) (.slice none 0 0)).at (show _ = w.heap.size + 1 by simp))
  have HC := hide (hc.below (unhide HA))
  have HL := hide hL
  clear hc hL
  obtain ⟨R, HRR⟩ : ∃ R, Hid (R = goA m) := ⟨_, hide rfl⟩
  rw [← unhide HRR]
  go_enter Try.func20, Try.ntmps20
  go_upto_region 1 with fail
  revert HA HV HR HC
  generalize ((w.alloc _).alloc _) = W0
  intro HA HV HR HC
  obtain ⟨c0, c1, c2, c3⟩ := (unhide HV).cells
  go_wp2_with fail
  refine (imageOK_impl a m _ (unhide HL) (unhide HC)).mono ?_
  rintro e w1 ⟨rfl, hb⟩
  have HA1 := hide (fr (unhide HA) hb)
  have HV1 := hide ((unhide HV).below hb)
  have HR1 := hide ((unhide HR).below hb)
  have HC1 := hide ((unhide HC).below hb)
  have HLT := hide (unhide HR1).lt
  clear hb c0 c1 c2 c3 HA HV HR HC
  cases him : imB m
  · have HF : Hid (R = (gs0, 1)) := hide (by rw [unhide HRR, goA, him]; rfl)
    obtain ⟨r0, r1⟩ := (unhide HR1).cells
    obtain ⟨z0, z1⟩ := (unhide HR1).free
    have HS := hide (((unhide HR1).set0 (.slice none 0 0)).set1 (.slice none 0 0))
    have HB2 := hide (((unhide HA1).setCell (p := ⟨w.heap.size + 1, 0, none⟩) (Nat.le_succ _) (.slice none 0 0)).setCell (p := ⟨w.heap.size + 1, 1, none⟩) (Nat.le_succ _) (.slice none 0 0))
    clear him
    go_wp2
    refine bodyPost_ret (res_gc Try.results20 rfl rfl (unhide HS)) rfl ?_
    rw [unhide HF]
    exact AnsG.bad 1 (unhide HB2)
  obtain ⟨G, HG⟩ : ∃ G, Hid (G = gsOf m) := ⟨_, hide rfl⟩
  have HF : Hid (R = (G, 0)) := hide (by rw [unhide HRR, goA, if_pos him, unhide HG])
  have HIR := hide (imB_iff.1 him)
  have HD := hide (show m.data.length ≤ 900 by rw [(unhide HIR).len]; omega)
  have hs3 := (unhide HIR).few
  have HGS : Hid (G.shots.length = m.snaps.length) := hide (by rw [unhide HG]; simp [gsOf])
  have HGK : Hid (∀ k (h : k < m.snaps.length) (h' : k < G.shots.length), G.shots[k].name = m.snaps[k].name ∧ G.shots[k].table = shT m m.snaps[k].table) := hide (by rw [unhide HG]; exact fun k h h' => by simp [gsOf])
  have HGV : Hid (G.vals = shT m m.table) := hide (by rw [unhide HG]; rfl)
  clear him
  obtain ⟨c0, c1, c2, c3⟩ := (unhide HV1).cells
  go_wp2_with fail
  refine (valuesShown_any a m a.tq a.tc m.table _ ((unhide HIR).ent (by simp [imTabs])).1 ((unhide HIR).ent (by simp [imTabs])).2 (unhide HD) (unhide HC1).d (unhide HC1).t).mono ?_
  rintro e w2 ⟨v, rfl, ho, hb⟩
  rw [← unhide HGV] at ho
  clear HGV c0 c1 c2 c3
  obtain ⟨vo, vc, rfl, hov⟩ := ho
  have HW : Hid (OwG w1 w2.heap.size G vo vc (w2.alloc (.cells #[.slice vo G.vals.length vc, .slice none 0 0] 30)) 0 none 0 []) := hide (by
    have hb2 := Joins.below_alloc1 w2 (.cells #[.slice vo G.vals.length vc, .slice none 0 0] 30)
    exact ⟨fr hb hb2, VarG.new w2 _ _ _, rfl, .inl ⟨rfl, by simp [snC], none, rfl⟩, OwnA.one (OwnN.below ⟨vo, vc, rfl, hov⟩ hb2)⟩)
  have HYB : Hid (w1.heap.size ≤ w2.heap.size) := hide hb.size
  clear hb hov
  go_upto_region 4 with fail
  revert HYB
  revert HW
  generalize (w2.alloc _) = W2
  generalize w2.heap.size = y
  intro HW HYB
  obtain ⟨c0, c1, c2, c3⟩ := ((unhide HV1).below (unhide HW).b).cells
  go_wp2
  clear c0 c1 c2 c3
  go_loopw [19] (fun i wr => ∃ (k : Nat) (so : Option Addr) (sc : Nat) (ts : List Value), k ≤ m.snaps.length ∧ i = .int .i64 k ∧ Hid (OwG w1 y G vo vc wr k so sc ts)) (fun i _ => m.snaps.length - (intOf i).toNat)
  case atStart => exact ⟨0, _, 0, [], Nat.zero_le _, rfl, HW⟩
  case round =>
    clear HW
    obtain ⟨k, so, sc, ts, hk, rfl, HL⟩ := hrel
    by_cases hlt : k < m.snaps.length
    · have hltG : k < G.shots.length := by rw [unhide HGS]; exact hlt
      obtain ⟨b1, o1, tq, tc, e1, hn1, ht1, hi1, hz1, hl1⟩ := ((unhide HC1).below (unhide HL).b).s k hlt
      rw [e1]
      have HI1 := hide hi1
      have HEN := hide ((unhide HIR).ent (t := m.snaps[k].table) (by simp only [imTabs, List.mem_cons, List.mem_map]; exact .inr ⟨_, List.getElem_mem hlt, rfl⟩))
      have HGN := hide (unhide HGK k hlt hltG)
      have HBX := hide (Joins.below_alloc1 wr (.cells #[.string m.snaps[k].name, .slice tq m.snaps[k].table.length tc] 83))
      have HVX := hide (VarG.new wr 83 (.string m.snaps[k].name) (.slice tq m.snaps[k].table.length tc))
      have HLX := hide ((unhide HL).below (unhide HBX))
      have HIX := hide ((unhide HI1).below (unhide HBX))
      clear hi1 hz1 hl1 e1 HI1
      go_upto_region 7 with fail
      clear hn1 ht1
      revert HIX
      revert HLX
      revert HVX
      revert HBX
      generalize (wr.alloc _) = wx
      generalize wr.heap.size = xx
      intro HBX HVX HLX HIX
      have hS0 : Below wx.heap.size wx wx.drew := (Below.refl _ _).drew
      refine wp_region_ord (fun w' => Below wx.heap.size wx w') [0, 1, 2, 3, 4, 5, 6, 7, 8, 9] [(0, 0), (1, 0), (2, 0), (3, 0), (4, 0), (5, 0), (6, 0), (7, 2), (8, 0), (9, 2), (10, 3), (11, 4), (12, 3)] (by kernel_rfl) (by kernel_rfl) rfl (by kernel_rfl) ?_
      refine ord_read (.pointer (some ⟨y, 1, none⟩)) rfl rfl hS0 (fun W hW => by go_simp) ?_
      refine ord_read (.slice so k sc) rfl rfl hS0 (fun W hW => by obtain ⟨k0, k1⟩ := ((unhide HLX).v.below hW).cells; go_simp) ?_
      refine ord_read (.pointer (some ⟨xx, 0, none⟩)) rfl rfl hS0 (fun W hW => by go_simp) ?_
      refine ord_read (.string m.snaps[k].name) rfl rfl hS0 (fun W hW => by obtain ⟨k0, k1⟩ := ((unhide HVX).below hW).cells; go_simp) ?_
      refine ord_read (imV a m) rfl rfl hS0 (fun W hW => by obtain ⟨k0, k1, k2, k3⟩ := (((unhide HV1).below (unhide HLX).b).below hW).cells; go_simp) ?_
      refine ord_read (.pointer (some ⟨xx, 1, none⟩)) rfl rfl hS0 (fun W hW => by go_simp) ?_
      refine ord_read (.slice tq m.snaps[k].table.length tc) rfl rfl hS0 (fun W hW => by obtain ⟨k0, k1⟩ := ((unhide HVX).below hW).cells; go_simp) ?_
      refine ord_held rfl rfl ?_
      intro K hK
      unfold Oper.wp
      go_simp
      refine (valuesShown_any a m tq tc m.snaps[k].table _ (unhide HEN).1 (unhide HEN).2 (unhide HD) (((unhide HC1).below (unhide HLX).b).d.below hS0) ((unhide HIX).below hS0)).mono ?_
      rintro e w3 ⟨v3, rfl, ho3, hb3⟩
      rw [← (unhide HGN).2] at ho3
      have hS3 : Below wx.heap.size wx w3 := fr hS0 hb3
      obtain ⟨q3, z3, rfl, hr3⟩ := ho3
      have HO3 : Hid (OwnN w3 wx.heap.size (.slice q3 G.shots[k].table.length z3) G.shots[k].table) := hide (OwnN.base ⟨q3, z3, rfl, hr3⟩ hS0.size)
      refine hK _ _ hS3 ?_
      clear hK K hb3 hr3 hS0
      refine ord_read (.agg #[.string m.snaps[k].name, .slice q3 G.shots[k].table.length z3]) rfl rfl hS3 (fun W hW => by go_simp) ?_
      rw [← (unhide HGN).1]
      refine ord_held rfl rfl ?_
      intro K hK
      unfold Oper.wp
      go_simp
      have hS4 : Below wx.heap.size wx (w3.alloc (.cells #[.string G.shots[k].name, .slice q3 G.shots[k].table.length z3] 69)) := fr hS3 (Joins.below_alloc1 _ _)
      have HO4 := hide ((unhide HO3).below (Joins.below_alloc1 w3 (.cells #[.string G.shots[k].name, .slice q3 G.shots[k].table.length z3] 69)))
      have hnew : (w3.alloc (.cells #[.string G.shots[k].name, .slice q3 G.shots[k].table.length z3] 69)).heap[w3.heap.size]? = some (.cells #[.string G.shots[k].name, .slice q3 G.shots[k].table.length z3] 69 (0, 0)) := heap_alloc_new _ _
      refine hK _ _ hS4 ?_
      clear hK K
      generalize (w3.alloc (.cells #[.string G.shots[k].name, .slice q3 G.shots[k].table.length z3] 69)) = w4 at *
      have HL4 := hide ((unhide HLX).below hS4)
      refine ord_alone rfl rfl ?_
      intro K hK
      refine wp_append_one rfl (.tmp 24) (.tmp 32) 28 rfl w1.heap.size 69 j0 (.agg #[.string ⟨#[]⟩, .slice none 0 0]) 2 40 Try.underlying28 hj0 hy0 hy1 hy2 rfl (by omega) so k sc (snC (G.shots.take k) ts) rfl (unhide HL4).s (unhide HL4).b.size ⟨w3.heap.size, 0, none⟩ 1 [.string G.shots[k].name, .slice q3 G.shots[k].table.length z3] rfl rfl (snap_news hnew) (snap_one _ _ _ _) (by unfold maxLen; omega) (by omega) ?_
      intro g2 cap2 w5 ho5 hk5
      obtain ⟨hv5, hL5⟩ := (unhide HLX).app (unhide HYB) hltG hS4 hk5 ho5 (unhide HO4)
      have HV5 := hide hv5
      have HL5 := hide hL5
      clear hv5 hL5 ho5 hk5
      refine hK _ _ ?_
      clear hK K
      refine ord_val (.pointer (some ⟨y, 1, none⟩)) rfl rfl (fun W => by go_simp) ?_
      refine ord_alone rfl rfl ?_
      intro K hK
      obtain ⟨k0, k1⟩ := (unhide HV5).cells
      obtain ⟨z0, z1⟩ := (unhide HV5).free
      unfold Oper.wp
      go_simp
      refine hK _ _ ?_
      clear hK K k0 k1 z0 z1
      refine ord_done ?_
      clear HV5 HL4 HO4 HO3 hnew hS3 hS4
      go_wp2
      go_roundw
      case rel => exact ⟨k + 1, _, _, _, by omega, by go_num, HL5⟩
      case measure => simp [intOf]; omega
    · have hkl : k = m.snaps.length := by omega
      subst hkl
      have HL2 : Hid (OwG w1 y G vo vc wr G.shots.length so sc ts) := hide (by rw [unhide HGS]; exact unhide HL)
      have HO := hide (unhide HL2).own
      have HR2 := hide ((unhide HR1).below (unhide HL).b)
      obtain ⟨d0, d1⟩ := (unhide HL).v.cells
      obtain ⟨r0, r1⟩ := (unhide HR2).cells
      obtain ⟨z0, z1⟩ := (unhide HR2).free
      have HS := hide ((unhide HR2).putG ⟨vo, vc, so, sc⟩ G)
      have HS2 := hide ((unhide HO).putG (unhide HLT) ⟨vo, vc, so, sc⟩ G)
      have HS3 := hide (below_putG (fr (unhide HA1) (unhide HL).b) (Nat.le_succ w.heap.size) ⟨vo, vc, so, sc⟩ G)
      unfold putG at HS HS2 HS3
      simp only at HS HS2 HS3
      rw [unhide HGS] at HS HS2 HS3
      go_wp2
      refine bodyPost_ret (res_gc Try.results20 rfl rfl (unhide HS)) rfl ?_
      rw [unhide HF]
      exact AnsG.of (R := (G, 0)) (a := ⟨vo, vc, so, sc⟩) (ts := ts) (by simp only [gsV]; rw [unhide HGS]) rfl ((unhide HS2).base (by have := unhide HLT; omega)) (unhide HS3)

end Go.Proofs.Ythnpooffhopnkaa

/- The walk of laws.FnExactGuestOf. -/
namespace Go.Proofs.Ythnpooffhopnkaa
open Go.RowKit
set_option linter.unusedVariables false
set_option maxRecDepth 100000

theorem goA_bd (m : Img) : imSz m ≤ 1048576 → GsBd (goA m).1 := fun h => by
  unfold goA
  split
  · rename_i hk
    exact GsBd.R (gsOf_bd (imB_iff.1 hk))
  · exact GsBd.zero

theorem wkGuestOf (a : Im4) (m : Img) (w : World) (hl : m.refs.length ≤ maxLen ∧ m.table.length ≤ maxLen ∧ m.snaps.length ≤ maxLen ∧ m.data.length ≤ maxLen) (hc : ImS w a m) :
    Calls Try.prog 5 #[imV a m] w fun e w' => e = .returned (.bool true) ∧ Below w.heap.size w w' :=
  have hL : ImL m := ⟨hl.1, hl.2.1, hl.2.2.1, hl.2.2.2⟩
  lawGsGuestOf a m (goA m) w hL hc (fun s hs => by obtain ⟨j, hj, rfl⟩ := List.mem_iff_getElem.1 hs; obtain ⟨_, _, _, _, _, _, _, _, h1, h2⟩ := hc.s j hj; exact ⟨h1, h2⟩) (goA_bd m) (fun b W h => guestOf_spec b m W hL h) (fun b W h => guestOf_impl b m W hL h)

end Go.Proofs.Ythnpooffhopnkaa
