import Derived.Test.YthnpooffhopnkacRows
import Derived.Test.YthnpooffhopnkacPart1
import Derived.Test.YthnpooffhopnkacPart3
import Derived.Test.YthnpooffhopnkacPart2
import Derived.Test.YthnpooffhopnkacPart5
import Derived.Test.YthnpooffhopnkacPart14
import Derived.Test.YthnpooffhopnkacPart4
import Derived.Test.YthnpooffhopnkacImX
import Derived.Test.YthnpooffhopnkacPart15
import Derived.Test.YthnpooffhopnkacPart27
import Derived.Test.YthnpooffhopnkacPart28
import Derived.Test.YthnpooffhopnkacPart22
import Derived.WalkKit
import Derived.WalkSpells
import Derived.KernelRfl
import Derived.LoopN
import Derived.Deep.RegionWith
import Derived.Test.YthnpooffhopnkacPart19
import Derived.Test.YthnpooffhopnkacSrcM
import Derived.BigQuiet
import Derived.Deep.QuietTactic

/- Contracts of the program's valuesShown, GuestOf. -/
namespace Go.Proofs.Ythnpooffhopnkac
open Go.RowKit
set_option linter.unusedVariables false
set_option maxRecDepth 100000

set_option maxHeartbeats 800000 in
theorem valuesShownC_any (a : Im4) (m : Img) (x : Nat) (e : Int) (w : World) (he0 : 0 ≤ e) (he1 : e - 2 < m.data.length) (hd : m.data.length ≤ 900) (hv : VarM w x 26 (.slice a.ro m.refs.length a.rc) (.slice a.tq m.table.length a.tc) (.slice a.so m.snaps.length a.sc) (.slice a.dq m.data.length a.dc)) (hc : Is w a.dq m.data) :
    Calls Try.prog 74 #[.int .i64 (min e 2), .int .i64 (max 0 (e - 2)), .pointer (some ⟨x, 0, none⟩)] w fun r w' => r = .returned (.tuple #[.int .i64 (imVal m e), .bool true]) ∧ w' = w := by
  by_cases h2 : e < 2
  · have HE : Hid (imVal m e = 0) := hide (if_pos h2)
    have h3 : (min e 2 != 2) = true := by simp; omega
    clear h2
    generalize min e 2 = K2 at *
    generalize max 0 (e - 2) = C2 at *
    go_enter Try.func74, Try.ntmps74
    go_wp2
    go_ret2
    exact ⟨by rw [unhide HE]; rfl, rfl⟩
  · obtain ⟨c, hcc⟩ := Int.eq_ofNat_of_zero_le (show 0 ≤ e - 2 by omega)
    have hcd : c < m.data.length := by omega
    have hcdi : (c : Int) < (m.data.length : Int) := by omega
    have HE : Hid (imVal m e = m.data[c]) := hide (by rw [imVal, if_neg h2, hcc, Int.toNat_natCast]; simp [List.getD, hcd])
    have h1 : min e 2 = 2 := by omega
    have h3 : max 0 (e - 2) = (c : Int) := by omega
    rw [h1, h3]
    obtain ⟨b3, o3, e3, hx3⟩ := hc c hcd
    obtain ⟨c0, c1, c2, c3⟩ := hv.cells
    rw [e3] at c3
    clear h1 h3 h2 hcc e3
    generalize m.data[c] = V at *
    go_enter Try.func74, Try.ntmps74
    go_wp2
    go_ret2
    exact ⟨by rw [unhide HE]; rfl, rfl⟩

set_option maxHeartbeats 1600000 in
theorem takeEntries_vals (a : Im4) (m : Img) (x : Nat) (ao : Option Addr) (cap : Nat) (xs : List Int) (w : World) (hl : xs.length ≤ 1000) (hx : ∀ j (h : j < xs.length), 0 ≤ xs[j] ∧ xs[j] - 2 < m.data.length) (hd : m.data.length ≤ 900) (hv : VarM w x 26 (.slice a.ro m.refs.length a.rc) (.slice a.tq m.table.length a.tc) (.slice a.so m.snaps.length a.sc) (.slice a.dq m.data.length a.dc)) (hcd : Is w a.dq m.data) (hc : Is w ao xs) :
    Calls Try.prog 73 #[.slice ao xs.length cap, .func (.func 74) #[] #[.pointer (some ⟨x, 0, none⟩)]] w fun e w' => ∃ v, e = .returned v ∧ OwnN w' w.heap.size v (shT m xs) ∧ Below w.heap.size w w' := by
  obtain ⟨j0, hj, hy0, hy1, hy2⟩ := info_parts infoIg
  have HC := hide hc
  have HCD := hide hcd
  have HX := hide hx
  have HD := hide hd
  have HV := hide hv
  clear hc hcd hx hd hv
  go_enter Try.func73, Try.ntmps73
  go_wp2
  go_loopw [5, 12] (fun o i wr => ∃ (k : Nat) (ys : List Int) (qo : Option Addr) (qa : Nat), k ≤ xs.length ∧ i = .int .i64 k ∧ o = .slice qo ys.length qa ∧ Hid (ys = shT m (xs.take k)) ∧ Hid (OwnR wr w.heap.size 3 1 (.slice qo ys.length qa) ys.length (intV ys)) ∧ Hid (Below w.heap.size w wr)) (fun _ i _ => xs.length - (intOf i).toNat)
  case atStart => exact ⟨0, [], _, _, Nat.zero_le _, rfl, rfl, hide rfl, hide (.inl ⟨rfl, rfl, _, rfl⟩), hide (Below.refl _ _)⟩
  case round =>
    obtain ⟨k, ys, qo, qa, hk, rfl, rfl, HE, HO, HB⟩ := hrel
    by_cases hlt : k < xs.length
    · obtain ⟨b, off, rfl, hcl⟩ := ((unhide HC).below (unhide HB)) k hlt
      have HXK := hide (unhide HX k hlt)
      have HS := hide (shT_take (m := m) hlt)
      have HYL : Hid (ys.length ≤ 1000) := hide (by rw [unhide HE, shT, List.length_map, List.length_take]; omega)
      have hyl := unhide HYL
      generalize xs[k] = X at *
      have HCALL : Hid (∀ W, Below wr.heap.size wr W → Calls Try.prog 74 #[.int .i64 (min X 2), .int .i64 (max 0 (X - 2)), .pointer (some ⟨x, 0, none⟩)] W fun r w' => r = .returned (.tuple #[.int .i64 (imVal m X), .bool true]) ∧ w' = W) := hide (fun W hW => valuesShownC_any a m x X W (unhide HXK).1 (unhide HXK).2 (unhide HD) (((unhide HV).below (unhide HB)).below hW) (((unhide HCD).below (unhide HB)).below hW))
      have HSE : Hid (∀ W, Calls Try.prog 60 #[.int .i64 X] W fun e w' => e = .returned (.tuple #[.int .i64 (min X 2), .int .i64 (max 0 (X - 2))]) ∧ w' = W) := hide (fun W => splitEntry_any X W (by have := unhide HXK; omega) (by have := unhide HXK; have := unhide HD; omega))
      generalize imVal m X = V at *
      generalize min X 2 = K2 at *
      generalize max 0 (X - 2) = C2 at *
      have HOA := hide ((unhide HO).below (Joins.below_alloc1 _ (.cells #[.int .i64 V] 3)))
      have HBA := hide (fr (unhide HB) (Joins.below_alloc1 _ (.cells #[.int .i64 V] 3)))
      have HSZ := hide (unhide HB).size
      go_wp2_with (first | (go_at_call 60; refine (unhide HSE _).mono ?_; rintro e w' ⟨rfl, hw⟩; replace hw := hw.symm; subst hw) | (go_at_call 74; refine (unhide HCALL _ (Below.refl _ _)).mono ?_; rintro e w' ⟨rfl, hw⟩; replace hw := hw.symm; subst hw) | (at_builtin; refine wpList_append_one rfl _ _ 23 rfl w.heap.size 3 j0 (.int .i64 0) 1 8 Try.underlying23 hj hy0 hy1 hy2 rfl (by omega) qo ys.length qa (intV ys) rfl (unhide HOA) (by have := unhide HSZ; simp; omega) ⟨wr.heap.size, 0, none⟩ _ [.int .i64 V] rfl rfl (byte_news wr _ _) (int_one _) (by unfold maxLen; omega) (by omega) ?_; intro g2 cap2 wA hoA hkA; have HSF := hide (And.intro hoA (keep_below (unhide HBA) (unhide HOA) (Nat.le_refl _) hkA)); clear hoA hkA))
      go_roundw
      case rel => exact ⟨k + 1, ys ++ [V], some ⟨g2, 0, none⟩, cap2, by omega, by go_num, by simp, hide (by rw [unhide HS, unhide HE]), hide (by rw [List.length_append, intV_snoc]; exact .inr ⟨by simp, (unhide HSF).1⟩), hide (unhide HSF).2⟩
      case measure => simp [intOf]; omega
    · have HS : Hid (shT m xs = ys) := hide (by rw [unhide HE, List.take_of_length_le (by omega)])
      go_wp2
      go_ret
      exact ⟨.slice qo ys.length qa, rfl, by rw [unhide HS]; exact ⟨qo, qa, rfl, unhide HO⟩, unhide HB⟩

set_option maxHeartbeats 1600000 in
theorem valuesShown_any (a : Im4) (m : Img) (ao : Option Addr) (cap : Nat) (xs : List Int) (w : World) (hl : xs.length ≤ 1000) (hx : ∀ j (h : j < xs.length), 0 ≤ xs[j] ∧ xs[j] - 2 < m.data.length) (hd : m.data.length ≤ 900) (hcd : Is w a.dq m.data) (hc : Is w ao xs) :
    Calls Try.prog 34 #[imV a m, .slice ao xs.length cap] w fun e w' => ∃ v, e = .returned v ∧ OwnN w' w.heap.size v (shT m xs) ∧ Below w.heap.size w w' := by
  have hmf : ∀ (fn : Fn) (first cap : Array Value) (w : World), (Instr.makeFunc fn first cap).run Try.prog w = .ok (.func fn first cap) w := fun _ _ _ _ => rfl
  have HA := hide (Joins.below_alloc1 w (.cells #[.slice a.ro m.refs.length a.rc, .slice a.tq m.table.length a.tc, .slice a.so m.snaps.length a.sc, .slice a.dq m.data.length a.dc] 26))
  have HV := hide (VarM.new w 26 (.slice a.ro m.refs.length a.rc) (.slice a.tq m.table.length a.tc) (.slice a.so m.snaps.length a.sc) (.slice a.dq m.data.length a.dc))
  have HC := hide (hc.below (unhide HA))
  have HCD := hide (hcd.below (unhide HA))
  have HX := hide hx
  have HD := hide hd
  clear hc hcd hx hd
  go_enter Try.func34, Try.ntmps34
  go_upto_region 1 with fail
  revert HA HV HC HCD
  generalize (w.alloc _) = W0
  intro HA HV HC HCD
  go_wp2_with fail
  refine (takeEntries_vals a m w.heap.size ao cap xs _ hl (unhide HX) (unhide HD) (unhide HV) (unhide HCD) (unhide HC)).mono ?_
  rintro e w2 ⟨v, rfl, ho, hb⟩
  have HO := hide (ho.base (unhide HA).size)
  have HB := hide (fr (unhide HA) hb)
  clear ho hb
  go_wp2
  go_ret
  exact ⟨v, rfl, unhide HO, unhide HB⟩

set_option maxHeartbeats 6400000 in
theorem guestOf_impl (a : Im4) (m : Img) (w : World) (hL : ImL m) (hc : ImS w a m) :
    Calls Try.prog 11 #[imV a m] w fun e w' => AnsG w w' e (goA m) := by
  obtain ⟨j0, hj0, hy0, hy1, hy2⟩ := info_parts infoSg
  have HA := hide (Joins.below_alloc2 w (.cells #[.slice a.ro m.refs.length a.rc, .slice a.tq m.table.length a.tc, .slice a.so m.snaps.length a.sc, .slice a.dq m.data.length a.dc] 26) (.cells #[.slice none 0 0, .slice none 0 0] 35))
  have HV := hide ((VarM.new w 26 (.slice a.ro m.refs.length a.rc) (.slice a.tq m.table.length a.tc) (.slice a.so m.snaps.length a.sc) (.slice a.dq m.data.length a.dc)).below (Joins.below_alloc1 _ (.cells #[.slice none 0 0, .slice none 0 0] 35)))
  have HR := hide ((VarG.new (w.alloc (.cells #[.slice a.ro m.refs.length a.rc, .slice a.tq m.table.length a.tc, .slice a.so m.snaps.length a.sc, .slice a.dq m.data.length a.dc] 26)) 35 (.slice none 0 0) (.slice none 0 0)).at (show _ = w.heap.size + 1 by simp))
  have HC := hide (hc.below (unhide HA))
  have HL := hide hL
  clear hc hL
  obtain ⟨R, HRR⟩ : ∃ R, Hid (R = goA m) := ⟨_, hide rfl⟩
  rw [← unhide HRR]
  go_enter Try.func11, Try.ntmps11
  go_upto_region 1 with fail
  revert HA HV HR HC
  generalize ((w.alloc _).alloc _) = W0
  intro HA HV HR HC
  obtain ⟨c0, c1, c2, c3⟩ := (unhide HV).cells
  go_wp2_with fail
  refine (imageOK_impl a m _ (unhide HL) (unhide HC)).mono ?_
  rintro e w1 ⟨rfl, hb⟩
  have HA1 := hide (fr (unhide HA) hb)
  have HV1 := hide ((unhide HV).below hb)
  have HR1 := hide ((unhide HR).below hb)
  have HC1 := hide ((unhide HC).below hb)
  have HLT := hide (unhide HR1).lt
  clear hb c0 c1 c2 c3 HA HV HR HC
  cases him : imB m
  · have HF : Hid (R = (gs0, 1)) := hide (by rw [unhide HRR, goA, him]; rfl)
    obtain ⟨r0, r1⟩ := (unhide HR1).cells
    obtain ⟨z0, z1⟩ := (unhide HR1).free
    have HS := hide (((unhide HR1).set0 (.slice none 0 0)).set1 (.slice none 0 0))
    have HB2 := hide (((unhide HA1).setCell (p := ⟨w.heap.size + 1, 0, none⟩) (Nat.le_succ _) (.slice none 0 0)).setCell (p := ⟨w.heap.size + 1, 1, none⟩) (Nat.le_succ _) (.slice none 0 0))
    clear him
    go_wp2
    refine bodyPost_ret (res_gc Try.results11 rfl rfl (unhide HS)) rfl ?_
    rw [unhide HF]
    exact AnsG.bad 1 (unhide HB2)
  obtain ⟨G, HG⟩ : ∃ G, Hid (G = gsOf m) := ⟨_, hide rfl⟩
  have HF : Hid (R = (G, 0)) := hide (by rw [unhide HRR, goA, if_pos him, unhide HG])
  have HIR := hide (imB_iff.1 him)
  have HD := hide (show m.data.length ≤ 900 by rw [(unhide HIR).len]; omega)
  have hs3 := (unhide HIR).few
  have HGS : Hid (G.shots.length = m.snaps.length) := hide (by rw [unhide HG]; simp [gsOf])
  have HGK : Hid (∀ k (h : k < m.snaps.length) (h' : k < G.shots.length), G.shots[k].name = m.snaps[k].name ∧ G.shots[k].table = shT m m.snaps[k].table) := hide (by rw [unhide HG]; exact fun k h h' => by simp [gsOf])
  have HGV : Hid (G.vals = shT m m.table) := hide (by rw [unhide HG]; rfl)
  clear him
  obtain ⟨c0, c1, c2, c3⟩ := (unhide HV1).cells
  go_wp2_with fail
  refine (valuesShown_any a m a.tq a.tc m.table _ ((unhide HIR).ent (by simp [imTabs])).1 ((unhide HIR).ent (by simp [imTabs])).2 (unhide HD) (unhide HC1).d (unhide HC1).t).mono ?_
  rintro e w2 ⟨v, rfl, ho, hb⟩
  rw [← unhide HGV] at ho
  clear HGV c0 c1 c2 c3
  obtain ⟨vo, vc, rfl, hov⟩ := ho
  have HW : Hid (OwG w1 w2.heap.size G vo vc (w2.alloc (.cells #[.slice vo G.vals.length vc, .slice none 0 0] 35)) 0 none 0 []) := hide (by
    have hb2 := Joins.below_alloc1 w2 (.cells #[.slice vo G.vals.length vc, .slice none 0 0] 35)
    exact ⟨fr hb hb2, VarG.new w2 _ _ _, rfl, .inl ⟨rfl, by simp [snC], none, rfl⟩, OwnA.one (OwnN.below ⟨vo, vc, rfl, hov⟩ hb2)⟩)
  have HYB : Hid (w1.heap.size ≤ w2.heap.size) := hide hb.size
  clear hb hov
  go_upto_region 4 with fail
  revert HYB
  revert HW
  generalize (w2.alloc _) = W2
  generalize w2.heap.size = y
  intro HW HYB
  obtain ⟨c0, c1, c2, c3⟩ := ((unhide HV1).below (unhide HW).b).cells
  go_wp2
  clear c0 c1 c2 c3
  go_loopw [19] (fun i wr => ∃ (k : Nat) (so : Option Addr) (sc : Nat) (ts : List Value), k ≤ m.snaps.length ∧ i = .int .i64 k ∧ Hid (OwG w1 y G vo vc wr k so sc ts)) (fun i _ => m.snaps.length - (intOf i).toNat)
  case atStart => exact ⟨0, _, 0, [], Nat.zero_le _, rfl, HW⟩
  case round =>
    clear HW
    obtain ⟨k, so, sc, ts, hk, rfl, HL⟩ := hrel
    by_cases hlt : k < m.snaps.length
    · have hltG : k < G.shots.length := by rw [unhide HGS]; exact hlt
      obtain ⟨b1, o1, tq, tc, e1, hn1, ht1, hi1, hz1, hl1⟩ := ((unhide HC1).below (unhide HL).b).s k hlt
      rw [e1]
      have HI1 := hide hi1
      have HEN := hide ((unhide HIR).ent (t := m.snaps[k].table) (by simp only [imTabs, List.mem_cons, List.mem_map]; exact .inr ⟨_, List.getElem_mem hlt, rfl⟩))
      have HGN := hide (unhide HGK k hlt hltG)
      have HBX := hide (Joins.below_alloc1 wr (.cells #[.string m.snaps[k].name, .slice tq m.snaps[k].table.length tc] 63))
      have HVX := hide (VarG.new wr 63 (.string m.snaps[k].name) (.slice tq m.snaps[k].table.length tc))
      have HLX := hide ((unhide HL).below (unhide HBX))
      have HIX := hide ((unhide HI1).below (unhide HBX))
      clear hi1 hz1 hl1 e1 HI1
      go_upto_region 7 with fail
      clear hn1 ht1
      revert HIX
      revert HLX
      revert HVX
      revert HBX
      generalize (wr.alloc _) = wx
      generalize wr.heap.size = xx
      intro HBX HVX HLX HIX
      have hS0 : Below wx.heap.size wx wx.drew := (Below.refl _ _).drew
      refine wp_region_ord (fun w' => Below wx.heap.size wx w') [0, 1, 2, 3, 4, 5, 6, 7, 8, 9] [(0, 0), (1, 0), (2, 0), (3, 0), (4, 0), (5, 0), (6, 0), (7, 2), (8, 0), (9, 2), (10, 3), (11, 4), (12, 3)] (by kernel_rfl) (by kernel_rfl) rfl (by kernel_rfl) ?_
      refine ord_read (.pointer (some ⟨y, 1, none⟩)) rfl rfl hS0 (fun W hW => by go_simp) ?_
      refine ord_read (.slice so k sc) rfl rfl hS0 (fun W hW => by obtain ⟨k0, k1⟩ := ((unhide HLX).v.below hW).cells; go_simp) ?_
      refine ord_read (.pointer (some ⟨xx, 0, none⟩)) rfl rfl hS0 (fun W hW => by go_simp) ?_
      refine ord_read (.string m.snaps[k].name) rfl rfl hS0 (fun W hW => by obtain ⟨k0, k1⟩ := ((unhide HVX).below hW).cells; go_simp) ?_
      refine ord_read (imV a m) rfl rfl hS0 (fun W hW => by obtain ⟨k0, k1, k2, k3⟩ := (((unhide HV1).below (unhide HLX).b).below hW).cells; go_simp) ?_
      refine ord_read (.pointer (some ⟨xx, 1, none⟩)) rfl rfl hS0 (fun W hW => by go_simp) ?_
      refine ord_read (.slice tq m.snaps[k].table.length tc) rfl rfl hS0 (fun W hW => by obtain ⟨k0, k1⟩ := ((unhide HVX).below hW).cells; go_simp) ?_
      refine ord_held rfl rfl ?_
      intro K hK
      unfold Oper.wp
      go_simp
      refine (valuesShown_any a m tq tc m.snaps[k].table _ (unhide HEN).1 (unhide HEN).2 (unhide HD) (((unhide HC1).below (unhide HLX).b).d.below hS0) ((unhide HIX).below hS0)).mono ?_
      rintro e w3 ⟨v3, rfl, ho3, hb3⟩
      rw [← (unhide HGN).2] at ho3
      have hS3 : Below wx.heap.size wx w3 := fr hS0 hb3
      obtain ⟨q3, z3, rfl, hr3⟩ := ho3
      have HO3 : Hid (OwnN w3 wx.heap.size (.slice q3 G.shots[k].table.length z3) G.shots[k].table) := hide (OwnN.base ⟨q3, z3, rfl, hr3⟩ hS0.size)
      refine hK _ _ hS3 ?_
      clear hK K hb3 hr3 hS0
      refine ord_read (.agg #[.string m.snaps[k].name, .slice q3 G.shots[k].table.length z3]) rfl rfl hS3 (fun W hW => by go_simp) ?_
      rw [← (unhide HGN).1]
      refine ord_held rfl rfl ?_
      intro K hK
      unfold Oper.wp
      go_simp
      have hS4 : Below wx.heap.size wx (w3.alloc (.cells #[.string G.shots[k].name, .slice q3 G.shots[k].table.length z3] 42)) := fr hS3 (Joins.below_alloc1 _ _)
      have HO4 := hide ((unhide HO3).below (Joins.below_alloc1 w3 (.cells #[.string G.shots[k].name, .slice q3 G.shots[k].table.length z3] 42)))
      have hnew : (w3.alloc (.cells #[.string G.shots[k].name, .slice q3 G.shots[k].table.length z3] 42)).heap[w3.heap.size]? = some (.cells #[.string G.shots[k].name, .slice q3 G.shots[k].table.length z3] 42 (0, 0)) := heap_alloc_new _ _
      refine hK _ _ hS4 ?_
      clear hK K
      generalize (w3.alloc (.cells #[.string G.shots[k].name, .slice q3 G.shots[k].table.length z3] 42)) = w4 at *
      have HL4 := hide ((unhide HLX).below hS4)
      refine ord_alone rfl rfl ?_
      intro K hK
      refine wp_append_one rfl (.tmp 24) (.tmp 32) 33 rfl w1.heap.size 42 j0 (.agg #[.string ⟨#[]⟩, .slice none 0 0]) 2 40 Try.underlying33 hj0 hy0 hy1 hy2 rfl (by omega) so k sc (snC (G.shots.take k) ts) rfl (unhide HL4).s (unhide HL4).b.size ⟨w3.heap.size, 0, none⟩ 1 [.string G.shots[k].name, .slice q3 G.shots[k].table.length z3] rfl rfl (snap_news hnew) (snap_one _ _ _ _) (by unfold maxLen; omega) (by omega) ?_
      intro g2 cap2 w5 ho5 hk5
      obtain ⟨hv5, hL5⟩ := (unhide HLX).app (unhide HYB) hltG hS4 hk5 ho5 (unhide HO4)
      have HV5 := hide hv5
      have HL5 := hide hL5
      clear hv5 hL5 ho5 hk5
      refine hK _ _ ?_
      clear hK K
      refine ord_val (.pointer (some ⟨y, 1, none⟩)) rfl rfl (fun W => by go_simp) ?_
      refine ord_alone rfl rfl ?_
      intro K hK
      obtain ⟨k0, k1⟩ := (unhide HV5).cells
      obtain ⟨z0, z1⟩ := (unhide HV5).free
      unfold Oper.wp
      go_simp
      refine hK _ _ ?_
      clear hK K k0 k1 z0 z1
      refine ord_done ?_
      clear HV5 HL4 HO4 HO3 hnew hS3 hS4
      go_wp2
      go_roundw
      case rel => exact ⟨k + 1, _, _, _, by omega, by go_num, HL5⟩
      case measure => simp [intOf]; omega
    · have hkl : k = m.snaps.length := by omega
      subst hkl
      have HL2 : Hid (OwG w1 y G vo vc wr G.shots.length so sc ts) := hide (by rw [unhide HGS]; exact unhide HL)
      have HO := hide (unhide HL2).own
      have HR2 := hide ((unhide HR1).below (unhide HL).b)
      obtain ⟨d0, d1⟩ := (unhide HL).v.cells
      obtain ⟨r0, r1⟩ := (unhide HR2).cells
      obtain ⟨z0, z1⟩ := (unhide HR2).free
      have HS := hide ((unhide HR2).putG ⟨vo, vc, so, sc⟩ G)
      have HS2 := hide ((unhide HO).putG (unhide HLT) ⟨vo, vc, so, sc⟩ G)
      have HS3 := hide (below_putG (fr (unhide HA1) (unhide HL).b) (Nat.le_succ w.heap.size) ⟨vo, vc, so, sc⟩ G)
      unfold putG at HS HS2 HS3
      simp only at HS HS2 HS3
      rw [unhide HGS] at HS HS2 HS3
      go_wp2
      refine bodyPost_ret (res_gc Try.results11 rfl rfl (unhide HS)) rfl ?_
      rw [unhide HF]
      exact AnsG.of (R := (G, 0)) (a := ⟨vo, vc, so, sc⟩) (ts := ts) (by simp only [gsV]; rw [unhide HGS]) rfl ((unhide HS2).base (by have := unhide HLT; omega)) (unhide HS3)

end Go.Proofs.Ythnpooffhopnkac

/- Guests in the laws' variables, and what right images show, called. -/
namespace Go.Proofs.Ythnpooffhopnkac
open Go.RowKit
set_option linter.unusedVariables false
set_option maxRecDepth 100000

/-- A variable with a guest. -/
structure GsA (W : World) (y : Nat) (a : Gs4) (g : Gst) : Prop where
  v : VarG W y 35 (.slice a.vo g.vals.length a.vc) (.slice a.so g.shots.length a.sc)
  s : GsS W a g
theorem GsA.below {W W' : World} {y : Nat} {a : Gs4} {g : Gst} (h : GsA W y a g) (hb : Below W.heap.size W W') : GsA W' y a g := ⟨h.v.below hb, h.s.below hb⟩
theorem GsA.new {W : World} {a : Gs4} {g : Gst} (h : GsS W a g) : GsA (W.alloc (.cells #[.slice a.vo g.vals.length a.vc, .slice a.so g.shots.length a.sc] 35)) W.heap.size a g := ⟨VarG.new _ _ _ _, h.below (Joins.below_alloc1 _ _)⟩
theorem OwnGs.showsR {w : World} {B : Nat} {a : Gs4} {g : Gst} {ts : List Value} (h : OwnGs w B a g ts) (hi : GsR g) : GsS w a g := h.shows (GsBd.R hi).zs
theorem guestA (a : Im4) (m : Img) (G : Gst) (W : World) (h : ImR m) (hG : G = gsOf m) (hs : ImS W a m) :
    Calls Try.prog 11 #[imV a m] W fun e w' => AnsG W w' e (G, 0) := by
  have := guestOf_impl a m W h.L hs
  rw [show goA m = (G, 0) by rw [goA, if_pos (imB_iff.2 h), hG]] at this
  exact this

end Go.Proofs.Ythnpooffhopnkac

/- The walk of laws.FnWrite. -/
namespace Go.Proofs.Ythnpooffhopnkac
open Go.RowKit
set_option linter.unusedVariables false
set_option maxRecDepth 100000

/-- What a write answers, in a law's words. -/
theorem write_told {M : Img} (h : ImR M) (q : Nat) {v : Int} (hv : numB v = true) : ∃ X C, wcA M (q : Int) v = (X, C) ∧ ImR X ∧ ((C = 0 ∧ q < M.table.length ∧ gsOf X = ⟨(gsOf M).vals.set q v, (gsOf M).shots⟩) ∨ (X = M ∧ (C = 7 ∨ (C = 4 ∧ M.table.length ≤ q)))) := by
  by_cases hq : q < M.table.length
  · have e : wcA M (q : Int) v = imWrite M q v := by
      unfold wcA
      rw [if_pos (imB_iff.2 h), if_pos ⟨betw_iff.2 ⟨by omega, by omega⟩, hv⟩, Int.toNat_natCast]
    refine ⟨(imWrite M q v).1, (imWrite M q v).2, e, h.write hq hv, ?_⟩
    rcases cow_write h hq v with ⟨h0, h1⟩ | h7
    · exact .inl ⟨h0, hq, h1⟩
    · rw [h7]; exact .inr ⟨rfl, .inl rfl⟩
  · have e : wcA M (q : Int) v = (M, 4) := by
      unfold wcA
      rw [if_pos (imB_iff.2 h), if_neg (fun hh => by have := betw_iff.1 hh.1; omega)]
    exact ⟨M, 4, e, h, .inr ⟨rfl, .inr ⟨rfl, by omega⟩⟩⟩
theorem at_of_gs {m : Img} {g : Nat} (hg : g < m.table.length) : imAt m g = (gsOf m).vals.getD g 0 := by
  simp [imAt, gsOf, shT, List.getD, hg]

set_option maxHeartbeats 6400000 in
theorem lawWrite (ao : Option Addr) (ca n : Nat) (bo : Option Addr) (cb m : Nat) (w : World) (hn : n ≤ maxLen) (hB : Bs w ao n) (hm : m ≤ maxLen) (hC : Bs w bo m) :
    Calls Try.prog 3 #[.slice ao n ca, .slice bo m cb] w fun e w' => e = .returned (.bool true) ∧ Below w.heap.size w w' := by
  have HBS := hide hB
  have HCS := hide hC
  clear hB hC
  unfold maxLen at hn hm
  by_cases h : 1048576 < n
  · go_enter Try.func3, Try.ntmps3
    go_wp2
    go_ret
    exact ⟨rfl, Below.refl _ _⟩
  by_cases h' : 1048576 < m
  · go_enter Try.func3, Try.ntmps3
    go_wp2
    go_ret
    exact ⟨rfl, Below.refl _ _⟩
  have hn' : n ≤ 1048576 := by omega
  have hm' : m ≤ 1048576 := by omega
  go_enter Try.func3, Try.ntmps3
  go_wp2_with fail
  refine (imageOf_any ao n ca _ hn' (unhide HBS)).mono ?_
  rintro e w1 ⟨a0, M, ts0, rfl, ho, hi, hb⟩
  have HM := hide hi
  have A0 := hide (ImA.new (ho.showsR hi))
  have HB1 := hide (fr hb (Joins.below_alloc1 w1 (.cells #[.slice a0.ro M.refs.length a0.rc, .slice a0.tq M.table.length a0.tc, .slice a0.so M.snaps.length a0.sc, .slice a0.dq M.data.length a0.dc] 26)))
  clear ho hi hb HBS
  go_upto_region 4 with fail
  revert HB1
  revert A0
  generalize w1.heap.size = y0
  generalize (w1.alloc _) = W1
  intro A0 HB1
  go_wp2_with fail
  refine (at_any bo m cb 0 13 _ hm' (by omega) (by omega) (by omega) (by omega) ((unhide HCS).below (unhide HB1))).mono ?_
  rintro e w2 ⟨r, rfl, hr0, hr1, hb⟩
  obtain ⟨q, rfl⟩ := Int.eq_ofNat_of_zero_le hr0
  have hq : q ≤ 12 := by omega
  have A02 := hide ((unhide A0).below hb)
  have HB2 := hide (fr (unhide HB1) hb)
  clear hb A0 HB1 hr0 hr1
  go_wp2_with fail
  refine (at_any bo m cb 1 5000 _ hm' (by omega) (by omega) (by omega) (by omega) ((unhide HCS).below (unhide HB2))).mono ?_
  rintro e w3 ⟨v, rfl, hv0, hv1, hb⟩
  have A03 := hide ((unhide A02).below hb)
  have HB3 := hide (fr (unhide HB2) hb)
  clear hb A02 HB2
  obtain ⟨X, C, hR, hXR, hcase⟩ := write_told (unhide HM) q (v := v) (by simp [numB, inB]; omega)
  have HR := hide hR
  have HXR := hide hXR
  have HCASE := hide hcase
  have HVB := hide (And.intro hv0 hv1)
  clear hR hXR hcase hv0 hv1
  -- the program's answer
  obtain ⟨c0, c1, c2, c3⟩ := (unhide A03).v.cells
  have hwi := writeCluster_impl a0 M (q : Int) v _ (unhide HM).L (unhide A03).s
  rw [unhide HR] at hwi
  go_wp2_with fail
  refine hwi.mono ?_
  clear hwi
  rintro e w4 ⟨a1, ts1, rfl, ho, hb⟩
  simp only at ho ⊢
  have hb4 := fr hb (Joins.below_alloc1 w4 (.cells #[.slice a1.ro X.refs.length a1.rc, .slice a1.tq X.table.length a1.tc, .slice a1.so X.snaps.length a1.sc, .slice a1.dq X.data.length a1.dc] 26))
  have A1 := hide (ImA.new (ho.showsR (unhide HXR)))
  have A04 := hide ((unhide A03).below hb4)
  have HB4 := hide (fr (unhide HB3) hb4)
  clear ho hb hb4 c0 c1 c2 c3 A03 HB3
  go_upto_region 7 with fail
  revert HB4
  revert A04
  revert A1
  generalize w4.heap.size = y1
  generalize (w4.alloc _) = W4
  intro A1 A04 HB4
  -- the model's answer
  obtain ⟨c0, c1, c2, c3⟩ := (unhide A04).v.cells
  have hws := writeCluster_spec a0 M (q : Int) v _ (unhide HM).L (unhide A04).s
  rw [unhide HR] at hws
  go_wp2_with fail
  refine hws.mono ?_
  clear hws
  rintro e w5 ⟨a2, ts2, rfl, ho, hb⟩
  simp only at ho ⊢
  have hb5 := fr hb (Joins.below_alloc1 w5 (.cells #[.slice a2.ro X.refs.length a2.rc, .slice a2.tq X.table.length a2.tc, .slice a2.so X.snaps.length a2.sc, .slice a2.dq X.data.length a2.dc] 26))
  have A2 := hide (ImA.new (ho.showsR (unhide HXR)))
  have A05 := hide ((unhide A04).below hb5)
  have A15 := hide ((unhide A1).below hb5)
  have HB5 := hide (fr (unhide HB4) hb5)
  clear ho hb hb5 c0 c1 c2 c3 A04 A1 HB4
  go_upto_region 8 with fail
  revert HB5
  revert A15
  revert A05
  revert A2
  generalize w5.heap.size = y2
  generalize (w5.alloc _) = W5
  intro A2 A05 A15 HB5
  have bcc : (C != C) = false := by simp
  obtain ⟨c0, c1, c2, c3⟩ := (unhide A15).v.cells
  obtain ⟨d0, d1, d2, d3⟩ := (unhide A2).v.cells
  go_wp2_with fail
  refine (sameA a1 a2 X _ (unhide HXR) (unhide A15).s (unhide A2).s).mono ?_
  rintro e w6 ⟨rfl, hb⟩
  have A06 := hide ((unhide A05).below hb)
  have A16 := hide ((unhide A15).below hb)
  have HB6 := hide (fr (unhide HB5) hb)
  clear hb c0 c1 c2 c3 d0 d1 d2 d3 A05 A15 HB5 A2
  obtain ⟨c0, c1, c2, c3⟩ := (unhide A16).v.cells
  go_wp2_with fail
  refine (okA a1 X _ (unhide HXR) (unhide A16).s).mono ?_
  rintro e w7 ⟨rfl, hb⟩
  have A07 := hide ((unhide A06).below hb)
  have A17 := hide ((unhide A16).below hb)
  have HB7 := hide (fr (unhide HB6) hb)
  clear hb c0 c1 c2 c3 A06 A16 HB6 bcc
  rcases unhide HCASE with ⟨hC0, hql, hgs⟩ | ⟨hXM, hcc⟩
  rotate_left
  · -- a code: nothing is changed
    subst hXM
    clear HCASE HR
    obtain ⟨c0, c1, c2, c3⟩ := (unhide A17).v.cells
    obtain ⟨d0, d1, d2, d3⟩ := (unhide A07).v.cells
    rcases hcc with rfl | ⟨rfl, hlen⟩
    · go_wp2_with fail
      refine (sameA a1 a0 X _ (unhide HXR) (unhide A17).s (unhide A07).s).mono ?_
      rintro e w8 ⟨rfl, hb⟩
      have HB8 := hide (fr (unhide HB7) hb)
      clear hb c0 c1 c2 c3 d0 d1 d2 d3 A17 A07 HB7
      go_wp2
      go_ret
      exact ⟨rfl, unhide HB8⟩
    · go_wp2_with fail
      refine (sameA a1 a0 X _ (unhide HXR) (unhide A17).s (unhide A07).s).mono ?_
      rintro e w8 ⟨rfl, hb⟩
      have HB8 := hide (fr (unhide HB7) hb)
      have A08 := hide ((unhide A07).below hb)
      clear hb c0 c1 c2 c3 d0 d1 d2 d3 A17 A07 HB7
      obtain ⟨c0, c1, c2, c3⟩ := (unhide A08).v.cells
      have hle : (X.table.length : Int) ≤ (q : Int) := by omega
      go_wp2
      go_ret
      exact ⟨rfl, unhide HB8⟩
  -- written
  subst hC0
  clear HCASE HR
  obtain ⟨P, HP⟩ : ∃ P, Hid (P = gsOf M) := ⟨_, hide rfl⟩
  obtain ⟨Q, HQ⟩ : ∃ Q, Hid (Q = gsOf X) := ⟨_, hide rfl⟩
  have HPR : Hid (GsR P) := hide (by rw [unhide HP]; exact gsOf_bd (unhide HM))
  have HQR : Hid (GsR Q) := hide (by rw [unhide HQ]; exact gsOf_bd (unhide HXR))
  have HPQ : Hid (Q = ⟨P.vals.set q v, P.shots⟩) := hide (by rw [unhide HQ, hgs, unhide HP])
  have HPL : Hid (P.vals.length = M.table.length) := hide (by rw [unhide HP, gsOf_vlen])
  have HXL : Hid (X.table.length = M.table.length) := hide (by rw [← gsOf_vlen, ← unhide HQ, unhide HPQ, ← unhide HPL]; simp)
  have HXA : Hid (q < X.table.length ∧ imAt X q = v) := hide (by
    have hqx : q < X.table.length := by rw [unhide HXL]; exact hql
    refine ⟨hqx, ?_⟩
    rw [at_of_gs hqx, ← unhide HQ, unhide HPQ]
    have : q < P.vals.length := by rw [unhide HPL]; exact hql
    simp [List.getD, this])
  clear hgs
  obtain ⟨c0, c1, c2, c3⟩ := (unhide A07).v.cells
  go_wp2_with fail
  refine (guestA a0 M P _ (unhide HM) (unhide HP) (unhide A07).s).mono ?_
  rintro e w8 ⟨b1, us1, rfl, ho, hb⟩
  simp only at ho ⊢
  have hb8 := fr hb (Joins.below_alloc1 w8 (.cells #[.slice b1.vo P.vals.length b1.vc, .slice b1.so P.shots.length b1.sc] 35))
  have G1 := hide (GsA.new (ho.showsR (unhide HPR)))
  have A18 := hide ((unhide A17).below hb8)
  have HB8 := hide (fr (unhide HB7) hb8)
  clear ho hb hb8 c0 c1 c2 c3 A07 A17 HB7
  go_upto_region 13 with fail
  revert HB8
  revert A18
  revert G1
  generalize w8.heap.size = y3
  generalize (w8.alloc _) = W8
  intro G1 A18 HB8
  obtain ⟨c0, c1, c2, c3⟩ := (unhide A18).v.cells
  go_wp2_with fail
  refine (guestA a1 X Q _ (unhide HXR) (unhide HQ) (unhide A18).s).mono ?_
  rintro e w9 ⟨b2, us2, rfl, ho, hb⟩
  simp only at ho ⊢
  have hb9 := fr hb (Joins.below_alloc1 w9 (.cells #[.slice b2.vo Q.vals.length b2.vc, .slice b2.so Q.shots.length b2.sc] 35))
  have G2 := hide (GsA.new (ho.showsR (unhide HQR)))
  have G19 := hide ((unhide G1).below hb9)
  have A19 := hide ((unhide A18).below hb9)
  have HB9 := hide (fr (unhide HB8) hb9)
  clear ho hb hb9 c0 c1 c2 c3 A18 G1 HB8
  go_upto_region 14 with fail
  revert HB9
  revert A19
  revert G19
  revert G2
  generalize w9.heap.size = y4
  generalize (w9.alloc _) = W9
  intro G2 G19 A19 HB9
  obtain ⟨c0, c1, c2, c3⟩ := (unhide A19).v.cells
  go_wp2_with fail
  refine (readA a1 X q v _ (unhide HXR) (unhide HXA).1 (unhide HXA).2 (unhide A19).s).mono ?_
  rintro e w10 ⟨rfl, hb⟩
  have HB10 := hide (fr (unhide HB9) hb)
  have G110 := hide ((unhide G19).below hb)
  have G210 := hide ((unhide G2).below hb)
  clear hb c0 c1 c2 c3 A19 G19 G2 HB9 HXA HXL HP HQ
  have hbv : (v != v) = false := by simp
  have hbl : ((Q.vals.length : Int) != (P.vals.length : Int)) = false := by rw [unhide HPQ]; simp
  have hbs : ((P.shots.length : Int) != (Q.shots.length : Int)) = false := by rw [unhide HPQ]; simp
  obtain ⟨c0, c1⟩ := (unhide G110).v.cells
  obtain ⟨d0, d1⟩ := (unhide G210).v.cells
  have hp12 := (unhide HPR).v
  have hp3 := (unhide HPR).few
  go_wp2
  clear c0 c1 d0 d1 hbv hbl hbs
  have HQL : Hid (Q.vals.length = P.vals.length) := hide (by rw [unhide HPQ]; simp)
  have HQS : Hid (Q.shots.length = P.shots.length) := hide (by rw [unhide HPQ])
  have HQV : Hid (∀ k (hk : k < Q.vals.length) (hk' : k < P.vals.length), k ≠ q → Q.vals[k] = P.vals[k]) := hide (by
    rw [unhide HPQ]
    intro k hk hk' hne
    simp only
    rw [List.getElem_set_ne (fun h => hne h.symm)])
  have HQT : Hid (∀ k (hk : k < Q.shots.length) (hk' : k < P.shots.length), Q.shots[k] = P.shots[k]) := hide (by rw [unhide HPQ]; intro k hk hk'; rfl)
  clear HPQ
  go_loopw [18] (fun i wr => ∃ k : Nat, k ≤ P.vals.length ∧ i = .int .i64 k ∧ Hid (Below w10.heap.size w10 wr)) (fun i _ => P.vals.length - (intOf i).toNat)
  case atStart => exact ⟨0, by omega, rfl, hide (Below.refl _ _)⟩
  case round =>
    obtain ⟨k, hk, rfl, HW⟩ := hrel
    have G111 := hide ((unhide G110).below (unhide HW))
    have G211 := hide ((unhide G210).below (unhide HW))
    obtain ⟨c0, c1⟩ := (unhide G111).v.cells
    obtain ⟨d0, d1⟩ := (unhide G211).v.cells
    by_cases hlt : k < P.vals.length
    · have hltQ : k < Q.vals.length := by rw [unhide HQL]; exact hlt
      have hki : (k : Int) < (P.vals.length : Int) := by omega
      have hkq : (k : Int) < (Q.vals.length : Int) := by omega
      obtain ⟨x1, o1, e1, h1⟩ := (unhide G111).s.v k hlt
      obtain ⟨x2, o2, e2, h2⟩ := (unhide G211).s.v k hltQ
      rw [e1] at c0
      rw [e2] at d0
      by_cases hkg : k = q
      · subst hkg
        have bne : (((k : Nat) : Int) != (k : Int)) = false := by simp
        clear e1 e2
        go_upto_region 20 with fail
        go_quiet (fail)
        have HW2 : Hid (Below w10.heap.size w10 (wr.drewN nq)) := hide ((unhide HW).trans (Joins.below_draws _ _ _))
        clear c0 c1 d0 d1 h1 h2
        go_wp2
        go_roundw
        case rel => exact ⟨k + 1, by omega, by go_num, HW2⟩
        case measure => simp [intOf]; omega
      · have bne : ((k : Int) != (q : Int)) = true := by simp; omega
        have hvq := unhide HQV k hltQ hlt hkg
        rw [hvq] at h2
        clear e1 e2 hvq hkg
        generalize P.vals[k] = V at *
        have bvv : (V != V) = false := by simp
        go_upto_region 20 with fail
        go_quiet (fail)
        have HW2 : Hid (Below w10.heap.size w10 (wr.drewN nq)) := hide ((unhide HW).trans (Joins.below_draws _ _ _))
        clear c0 c1 d0 d1 h1 h2
        go_wp2
        go_roundw
        case rel => exact ⟨k + 1, by omega, by go_num, HW2⟩
        case measure => simp [intOf]; omega
    · go_wp2
      clear c0 c1 d0 d1 hlt
      go_loopw [19] (fun i wq => ∃ k : Nat, k ≤ P.shots.length ∧ i = .int .i64 k ∧ Hid (Below w10.heap.size w10 wq)) (fun i _ => P.shots.length - (intOf i).toNat)
      case atStart => exact ⟨0, by omega, rfl, HW⟩
      case round =>
        clear HW G111 G211
        obtain ⟨j, hj, rfl, HW⟩ := hrel
        have G111 := hide ((unhide G110).below (unhide HW))
        have G211 := hide ((unhide G210).below (unhide HW))
        obtain ⟨c0, c1⟩ := (unhide G111).v.cells
        obtain ⟨d0, d1⟩ := (unhide G211).v.cells
        by_cases hlt : j < P.shots.length
        · have hltQ : j < Q.shots.length := by rw [unhide HQS]; exact hlt
          have hki : (j : Int) < (P.shots.length : Int) := by omega
          have hkq : (j : Int) < (Q.shots.length : Int) := by omega
          obtain ⟨x1, o1, q1, p1, e1, hn1, ht1, i1, _, hm1⟩ := (unhide G111).s.s j hlt
          obtain ⟨x2, o2, q2, p2, e2, hn2, ht2, i2, _, _⟩ := (unhide G211).s.s j hltQ
          rw [unhide HQT j hltQ hlt] at hn2 ht2 i2
          rw [e1] at c1
          rw [e2] at d1
          have HI1 := hide i1
          have HI2 := hide i2
          have HML := hide hm1
          have HCALL : Hid (∀ n, Calls Try.prog 13 #[.slice q1 P.shots[j].table.length p1, .slice q2 P.shots[j].table.length p2] (wr.drewN n) fun e w' => e = .returned (.bool true) ∧ ∃ m, w' = (wr.drewN n).drewN m) := hide (fun n => sameInts_draws q1 q2 p1 p2 P.shots[j].table (wr.drewN n) (unhide HML) ((unhide HI1).below (Joins.below_draws _ _ _)) ((unhide HI2).below (Joins.below_draws _ _ _)))
          clear e1 e2 i1 i2 hm1
          generalize P.shots[j].table.length = TL at *
          go_upto_region 25 with fail
          go_quiet ((go_at_call 13; refine Calls.quiet_of (unhide HCALL _)))
          have HW2 : Hid (Below w10.heap.size w10 (wr.drewN nq)) := hide ((unhide HW).trans (Joins.below_draws _ _ _))
          clear c0 c1 d0 d1 hn1 hn2 ht1 ht2 HCALL
          go_wp2
          go_roundw
          case rel => exact ⟨j + 1, by omega, by go_num, HW2⟩
          case measure => simp [intOf]; omega
        · have HBE := hide (fr (unhide HB10) (unhide HW))
          go_wp2
          go_ret
          exact ⟨rfl, unhide HBE⟩

end Go.Proofs.Ythnpooffhopnkac
