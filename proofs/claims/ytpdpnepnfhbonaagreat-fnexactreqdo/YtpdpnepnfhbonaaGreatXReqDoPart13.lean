import Derived.Test.YtpdpnepnfhbonaaGreatRows
import Derived.Test.YtpdpnepnfhbonaaGreatXReqDoPart6
import Derived.Test.YtpdpnepnfhbonaaGreatXReqDoPart12
import Derived.Test.YtpdpnepnfhbonaaGreatXReqDoPart9
import Derived.Test.YtpdpnepnfhbonaaGreatXReqDoPart10
import Derived.Test.YtpdpnepnfhbonaaGreatXReqDoPart11
import Derived.Test.YtpdpnepnfhbonaaGreatXReqDoPart7
import Derived.WalkKit
import Derived.WalkSpells
import Derived.KernelRfl
import Derived.Test.YtpdpnepnfhbonaaGreatXReqDoPart5
import Derived.Test.YtpdpnepnfhbonaaGreatXReqDoPart8
import Derived.Test.YtpdpnepnfhbonaaGreatXReqDoPart3
import Derived.LoopN
import Derived.Test.YtpdpnepnfhbonaaGreatXReqDoPart1
import Derived.Deep.RegionWith
import Derived.Outline
import Derived.Deep.RegionLawGrows
import Derived.Deep.RegionHeld3
import Derived.Deep.AppendLies
import Derived.ProofKit
import Derived.OpenShut
import Derived.ShutString
import Derived.SliceStrings
import Derived.Lib.SmallJoins
import Derived.OwnWalk

namespace Go.Proofs.YtpdpnepnfhbonaaGreat
open Go.RowKit
set_option linter.unusedVariables false
set_option maxRecDepth 100000

def scA (m : Img) (name : ByteArray) : Img × Int := if imB m = true then imCreate m name else (im0, 1)
def crC (m : Img) (name : ByteArray) : Int := (imCreate m name).2
def cr1 (m : Img) (name : ByteArray) : Img := if crC m name = 0 then { m with snaps := m.snaps ++ [⟨name, m.table⟩] } else m
theorem cr_cases (m : Img) (name : ByteArray) : (snmB name = false ∧ imCreate m name = (m, 12)) ∨ (snmB name = true ∧ imFind m name < m.snaps.length ∧ imCreate m name = (m, 8)) ∨ (snmB name = true ∧ ¬ imFind m name < m.snaps.length ∧ m.snaps.length = 3 ∧ imCreate m name = (m, 6)) ∨ (snmB name = true ∧ ¬ imFind m name < m.snaps.length ∧ ¬ m.snaps.length = 3 ∧ imCreate m name = ({ imRaise m m.table with snaps := m.snaps ++ [⟨name, m.table⟩] }, 0)) := by
  cases hn : snmB name
  · exact .inl ⟨rfl, create_name hn⟩
  · by_cases hf : imFind m name < m.snaps.length
    · exact .inr (.inl ⟨rfl, hf, create_twice hn hf⟩)
    · by_cases h3 : m.snaps.length = 3
      · exact .inr (.inr (.inl ⟨rfl, hf, h3, create_many hn hf h3⟩))
      · exact .inr (.inr (.inr ⟨rfl, hf, h3, create_done hn hf h3⟩))
theorem cr_fit {m : Img} (name : ByteArray) (hz : name.size ≤ 65536) (h : ImR m) : FitR (cr1 m name) := by
  unfold cr1 crC
  rcases cr_cases m name with ⟨_, e⟩ | ⟨_, _, e⟩ | ⟨_, _, _, e⟩ | ⟨_, _, h3, e⟩
  · rw [e, if_neg (by simp)]; exact h.fitR
  · rw [e, if_neg (by simp)]; exact h.fitR
  · rw [e, if_neg (by simp)]; exact h.fitR
  · rw [e, if_pos rfl]
    have hf := h.fitR
    have hfw := h.few
    refine ⟨hf.r, hf.d, by simp only [List.length_append, List.length_singleton]; omega, fun t ht => ?_, fun s hs => ?_⟩
    · have ht' : t ∈ m.table :: List.map (fun s : Snp => s.table) (m.snaps ++ [⟨name, m.table⟩]) := ht
      simp only [List.map_append, List.mem_cons, List.mem_append, List.map_cons, List.map_nil, List.not_mem_nil, or_false] at ht'
      rcases ht' with rfl | ht' | rfl
      · exact h.table
      · exact h.tabs t (by unfold imTabs; exact List.mem_cons_of_mem _ ht')
      · exact h.table
    · have hs' : s ∈ m.snaps ++ [⟨name, m.table⟩] := hs
      rw [List.mem_append, List.mem_singleton] at hs'
      rcases hs' with hs' | rfl
      · exact hf.z s hs'
      · exact ⟨by unfold maxLen; simp only; omega, h.M.L.t⟩
theorem cr_ans {m : Img} (name : ByteArray) : (if imB m = true then (imFit (cr1 m name), crC m name) else (im0, 1)) = scA m name := by
  refine ans_eq (fun h => ?_) (fun h => by rw [scA, h]; rfl)
  have hR := imB_iff.1 h
  rw [scA, if_pos h]
  refine ⟨?_, rfl⟩
  unfold cr1 crC
  rcases cr_cases m name with ⟨_, e⟩ | ⟨_, _, e⟩ | ⟨_, _, _, e⟩ | ⟨_, _, h3, e⟩
  · rw [e, if_neg (by simp)]; exact fit_self hR
  · rw [e, if_neg (by simp)]; exact fit_self hR
  · rw [e, if_neg (by simp)]; exact fit_self hR
  · rw [e, if_pos rfl]; exact fit_create hR name

theorem Hld.addS {W w3 w4 : World} {p B g2 cap2 : Nat} {a : Im4} {m : Img} {ts : List Value} {name : ByteArray} {t : Value} {tbl : List Int} (h : Hld W p B a m ts) (hB : B ≤ W.heap.size) (hb : Below W.heap.size W w3) (ht : OwnN w3 W.heap.size t tbl)
    (ho : w4.ownsRow B 83 2 (.slice (some ⟨g2, 0, none⟩) (m.snaps.length + 1) cap2) (m.snaps.length + 1) (snC m.snaps ts ++ [.string name, t])) (hk : Keep (Own (.slice a.so m.snaps.length a.sc)) w3 w4) :
    Hld (w4.setCell ⟨p, 2, none⟩ (.slice (some ⟨g2, 0, none⟩) (m.snaps.length + 1) cap2)) p B { a with so := some ⟨g2, 0, none⟩, sc := cap2 } { m with snaps := m.snaps ++ [⟨name, tbl⟩] } (ts ++ [t]) ∧ Below B W (w4.setCell ⟨p, 2, none⟩ (.slice (some ⟨g2, 0, none⟩) (m.snaps.length + 1) cap2)) := by
  have h3 := h.below hb
  have hv4 : VarM w4 p 32 (.slice a.ro m.refs.length a.rc) (.slice a.tq m.table.length a.tc) (.slice a.so m.snaps.length a.sc) (.slice a.dq m.data.length a.dc) := (hk.block _ h3.v.lt (h3.o.s.other h3.v (by decide))).trans h3.v
  have ho4 := OwnIm.addS h.o hB hb ht ho hk
  have hk4 : Keep (fun g => g = p) w4 (w4.setCell ⟨p, 2, none⟩ (.slice (some ⟨g2, 0, none⟩) (m.snaps.length + 1) cap2)) := (Keep.refl (fun g => g = p) w4).setCell (p := ⟨p, 2, none⟩) rfl _
  refine ⟨⟨?_, ho4.keep hk4 (fun g hg e => ho4.other (v0 := .slice a.ro m.refs.length a.rc) (v1 := .slice a.tq m.table.length a.tc) (v2 := .slice a.so m.snaps.length a.sc) (v3 := .slice a.dq m.data.length a.dc) hv4 (e ▸ hg)), h.p⟩, ?_⟩
  · simp only [List.length_append, List.length_singleton]
    exact hv4.set2 _
  · have hb4 : Below B W w4 := (hb.mono hB).trans (hk.below (Nat.le_trans hB hb.size) (fun g hg => (h3.o.s.ge g hg).1))
    exact hb4.setCell (p := ⟨p, 2, none⟩) h.p _

set_option maxHeartbeats 3200000 in
theorem createC_any (m : Img) (name : ByteArray) (x : Nat) (W : World) (p B : Nat) (a : Im4) (ts : List Value) (hz : name.size ≤ 65536) (hR : ImR m) (hx : VarT1 W x name) (hxB : x < B) (hB : B ≤ W.heap.size) (hh : Hld W p B a m ts) (hc0 : m.snaps.length = 0 → a.sc = 0) :
    Calls Tryz.prog 128 #[.pointer (some ⟨p, 0, none⟩), .pointer (some ⟨x, 0, none⟩)] W fun e W' => Chg W W' p B e (crC m name) (cr1 m name) := by
  have HH := hide hh
  have HX := hide hx
  have HC := hide (cr_cases m name)
  have HM := hide hR.M
  have HCR : Hid (crC m name = (imCreate m name).2 ∧ cr1 m name = if (imCreate m name).2 = 0 then { m with snaps := m.snaps ++ [⟨name, m.table⟩] } else m) := hide ⟨rfl, rfl⟩
  have HZ : Hid (name.size ≤ maxLen) := hide (by unfold maxLen; omega)
  have HC0 := hide hc0
  clear hc0
  clear hh hR hz
  obtain ⟨j0, hj0, hy0, hy1, hy2⟩ := info_parts infoSn
  have hx' : W.cell? ⟨x, 0, none⟩ = some (.string name) := hx
  clear hx
  go_enter Tryz.func128, Tryz.ntmps128
  go_wp2_with fail
  refine (snapNameOK_any name _ (unhide HZ)).mono ?_
  rintro e w1 ⟨rfl, hb⟩
  have HB1 := hide hb
  clear hb hx'
  rcases unhide HC with ⟨hn, e⟩ | ⟨hn, hf, e⟩ | ⟨hn, hf, h3, e⟩ | ⟨hn, hf, h3, e⟩
  · have HE : Hid (crC m name = 12 ∧ cr1 m name = m) := hide (by rw [(unhide HCR).1, (unhide HCR).2, e]; exact ⟨rfl, if_neg (by simp)⟩)
    rw [hn]
    clear e hn
    go_wp2
    go_ret
    rw [(unhide HE).1, (unhide HE).2]
    exact Chg.same 12 (unhide HH) hB (unhide HB1)
  · have HF := hide hf
    have HEE := hide e
    clear hf e
    rw [hn]
    have hS0 : VarM w1.drew p 32 (.slice a.ro m.refs.length a.rc) (.slice a.tq m.table.length a.tc) (.slice a.so m.snaps.length a.sc) (.slice a.dq m.data.length a.dc) ∧ VarT1 w1.drew x name := ⟨((unhide HH).v.below (unhide HB1)).below (Below.refl _ _).drew, ((unhide HX).below (unhide HB1)).below (Below.refl _ _).drew⟩
    have HSN : Hid (Sns w1.drew a.so m.snaps) := hide ((((unhide HH).o.shows (unhide HM).zs).s.below (unhide HB1)).below (Below.refl _ _).drew)
    have HSL := hide (unhide HM).s
    go_upto_region 3 with fail
    refine wp_region_ord (fun w' => VarM w' p 32 (.slice a.ro m.refs.length a.rc) (.slice a.tq m.table.length a.tc) (.slice a.so m.snaps.length a.sc) (.slice a.dq m.data.length a.dc) ∧ VarT1 w' x name) [0, 1, 2, 3, 4] [(0, 0), (1, 0), (2, 0), (3, 0), (4, 0), (5, 3), (6, 4), (7, 4)] (by kernel_rfl) (by kernel_rfl) rfl (by kernel_rfl) ?_
    refine ord_read (.pointer (some ⟨p, 0, none⟩)) rfl rfl hS0 (fun W hW => by go_simp) ?_
    refine ord_read (.pointer (some ⟨p, 0, none⟩)) rfl rfl hS0 (fun W hW => by go_simp) ?_
    refine ord_read (.pointer (some ⟨p, 2, none⟩)) rfl rfl hS0 (fun W hW => by go_simp) ?_
    refine ord_read (.slice a.so m.snaps.length a.sc) rfl rfl hS0 (fun W hW => by obtain ⟨k0, k1, k2, k3⟩ := hW.1.cells; go_simp) ?_
    refine ord_read (.string name) rfl rfl hS0 (fun W hW => by have k0 : W.cell? ⟨x, 0, none⟩ = some (.string name) := hW.2; go_simp) ?_
    clear hS0
    refine ord_alone rfl rfl ?_
    intro K hK
    unfold Oper.wp
    go_simp
    refine (findSnap_any a.so a.sc m.snaps name _ (by have := unhide HSL; unfold maxLen; omega) (unhide HSN)).mono ?_
    rintro e w2 ⟨rfl, hb⟩
    have HB2 := hide (fr (unhide HB1).drew hb)
    clear hb
    refine hK _ _ ?_
    clear hK K
    rw [show fdL m.snaps name = (imFind m name : Int) from if_pos (unhide HF)]
    have e := unhide HEE
    have HE : Hid (crC m name = 8 ∧ cr1 m name = m) := hide (by rw [(unhide HCR).1, (unhide HCR).2, e]; exact ⟨rfl, if_neg (by simp)⟩)
    generalize imFind m name = q at *
    refine ord_val (.bool true) rfl rfl (fun W => by go_simp) ?_
    refine ord_val (.bool true) rfl rfl (fun W => by go_simp) ?_
    refine ord_done ?_
    go_wp2
    go_ret
    rw [(unhide HE).1, (unhide HE).2]
    exact Chg.same 8 (unhide HH) hB (unhide HB2)
  · have HF := hide hf
    have HEE := hide e
    have H3 := hide h3
    clear hf e h3
    rw [hn]
    have hS0 : VarM w1.drew p 32 (.slice a.ro m.refs.length a.rc) (.slice a.tq m.table.length a.tc) (.slice a.so m.snaps.length a.sc) (.slice a.dq m.data.length a.dc) ∧ VarT1 w1.drew x name := ⟨((unhide HH).v.below (unhide HB1)).below (Below.refl _ _).drew, ((unhide HX).below (unhide HB1)).below (Below.refl _ _).drew⟩
    have HSN : Hid (Sns w1.drew a.so m.snaps) := hide ((((unhide HH).o.shows (unhide HM).zs).s.below (unhide HB1)).below (Below.refl _ _).drew)
    have HSL := hide (unhide HM).s
    go_upto_region 3 with fail
    refine wp_region_ord (fun w' => VarM w' p 32 (.slice a.ro m.refs.length a.rc) (.slice a.tq m.table.length a.tc) (.slice a.so m.snaps.length a.sc) (.slice a.dq m.data.length a.dc) ∧ VarT1 w' x name) [0, 1, 2, 3, 4] [(0, 0), (1, 0), (2, 0), (3, 0), (4, 0), (5, 3), (6, 4), (7, 4)] (by kernel_rfl) (by kernel_rfl) rfl (by kernel_rfl) ?_
    refine ord_read (.pointer (some ⟨p, 0, none⟩)) rfl rfl hS0 (fun W hW => by go_simp) ?_
    refine ord_read (.pointer (some ⟨p, 0, none⟩)) rfl rfl hS0 (fun W hW => by go_simp) ?_
    refine ord_read (.pointer (some ⟨p, 2, none⟩)) rfl rfl hS0 (fun W hW => by go_simp) ?_
    refine ord_read (.slice a.so m.snaps.length a.sc) rfl rfl hS0 (fun W hW => by obtain ⟨k0, k1, k2, k3⟩ := hW.1.cells; go_simp) ?_
    refine ord_read (.string name) rfl rfl hS0 (fun W hW => by have k0 : W.cell? ⟨x, 0, none⟩ = some (.string name) := hW.2; go_simp) ?_
    clear hS0
    refine ord_alone rfl rfl ?_
    intro K hK
    unfold Oper.wp
    go_simp
    refine (findSnap_any a.so a.sc m.snaps name _ (by have := unhide HSL; unfold maxLen; omega) (unhide HSN)).mono ?_
    rintro e w2 ⟨rfl, hb⟩
    have HB2 := hide (fr (unhide HB1).drew hb)
    clear hb
    refine hK _ _ ?_
    clear hK K
    rw [show fdL m.snaps name = -1 from if_neg (unhide HF)]
    have e := unhide HEE
    have h3 := unhide H3
    have HE : Hid (crC m name = 6 ∧ cr1 m name = m) := hide (by rw [(unhide HCR).1, (unhide HCR).2, e]; exact ⟨rfl, if_neg (by simp)⟩)
    have b3 : ((m.snaps.length : Int) == 3) = true := by rw [h3]; rfl
    clear h3 e
    refine ord_val (.bool false) rfl rfl (fun W => by go_simp) ?_
    refine ord_val (.bool false) rfl rfl (fun W => by go_simp) ?_
    refine ord_done ?_
    obtain ⟨c0, c1, c2, c3⟩ := ((unhide HH).v.below (unhide HB2)).cells
    go_wp2
    go_ret
    rw [(unhide HE).1, (unhide HE).2]
    exact Chg.same 6 (unhide HH) hB (unhide HB2)
  · have HF := hide hf
    have HEE := hide e
    have H3 := hide h3
    clear hf e h3
    rw [hn]
    have hS0 : VarM w1.drew p 32 (.slice a.ro m.refs.length a.rc) (.slice a.tq m.table.length a.tc) (.slice a.so m.snaps.length a.sc) (.slice a.dq m.data.length a.dc) ∧ VarT1 w1.drew x name := ⟨((unhide HH).v.below (unhide HB1)).below (Below.refl _ _).drew, ((unhide HX).below (unhide HB1)).below (Below.refl _ _).drew⟩
    have HSN : Hid (Sns w1.drew a.so m.snaps) := hide ((((unhide HH).o.shows (unhide HM).zs).s.below (unhide HB1)).below (Below.refl _ _).drew)
    have HSL := hide (unhide HM).s
    go_upto_region 3 with fail
    refine wp_region_ord (fun w' => VarM w' p 32 (.slice a.ro m.refs.length a.rc) (.slice a.tq m.table.length a.tc) (.slice a.so m.snaps.length a.sc) (.slice a.dq m.data.length a.dc) ∧ VarT1 w' x name) [0, 1, 2, 3, 4] [(0, 0), (1, 0), (2, 0), (3, 0), (4, 0), (5, 3), (6, 4), (7, 4)] (by kernel_rfl) (by kernel_rfl) rfl (by kernel_rfl) ?_
    refine ord_read (.pointer (some ⟨p, 0, none⟩)) rfl rfl hS0 (fun W hW => by go_simp) ?_
    refine ord_read (.pointer (some ⟨p, 0, none⟩)) rfl rfl hS0 (fun W hW => by go_simp) ?_
    refine ord_read (.pointer (some ⟨p, 2, none⟩)) rfl rfl hS0 (fun W hW => by go_simp) ?_
    refine ord_read (.slice a.so m.snaps.length a.sc) rfl rfl hS0 (fun W hW => by obtain ⟨k0, k1, k2, k3⟩ := hW.1.cells; go_simp) ?_
    refine ord_read (.string name) rfl rfl hS0 (fun W hW => by have k0 : W.cell? ⟨x, 0, none⟩ = some (.string name) := hW.2; go_simp) ?_
    clear hS0
    refine ord_alone rfl rfl ?_
    intro K hK
    unfold Oper.wp
    go_simp
    refine (findSnap_any a.so a.sc m.snaps name _ (by have := unhide HSL; unfold maxLen; omega) (unhide HSN)).mono ?_
    rintro e w2 ⟨rfl, hb⟩
    have HB2 := hide (fr (unhide HB1).drew hb)
    clear hb
    refine hK _ _ ?_
    clear hK K
    rw [show fdL m.snaps name = -1 from if_neg (unhide HF)]
    have e := unhide HEE
    have h3 := unhide H3
    have HE : Hid (crC m name = 0 ∧ cr1 m name = { m with snaps := m.snaps ++ [⟨name, m.table⟩] }) := hide (by rw [(unhide HCR).1, (unhide HCR).2, e]; exact ⟨rfl, if_pos rfl⟩)
    have b3 : ((m.snaps.length : Int) == 3) = false := by rw [beq_eq_false_iff_ne]; omega
    clear h3 e
    refine ord_val (.bool false) rfl rfl (fun W => by go_simp) ?_
    refine ord_val (.bool false) rfl rfl (fun W => by go_simp) ?_
    refine ord_done ?_
    obtain ⟨c0, c1, c2, c3⟩ := ((unhide HH).v.below (unhide HB2)).cells
    go_upto_region 7 with fail
    clear c0 c1 c2 c3
    have HB3 : Hid (Below W.heap.size W w2.drew) := hide (unhide HB2).drew
    have hS0 : VarM w2.drew p 32 (.slice a.ro m.refs.length a.rc) (.slice a.tq m.table.length a.tc) (.slice a.so m.snaps.length a.sc) (.slice a.dq m.data.length a.dc) ∧ VarT1 w2.drew x name := ⟨(unhide HH).v.below (unhide HB3), (unhide HX).below (unhide HB3)⟩
    have HTI : Hid (Is w2.drew a.tq m.table) := hide (((unhide HH).o.shows (unhide HM).zs).t.below (unhide HB3))
    have HTL := hide (unhide HM).t
    refine wp_region_ord (fun w' => VarM w' p 32 (.slice a.ro m.refs.length a.rc) (.slice a.tq m.table.length a.tc) (.slice a.so m.snaps.length a.sc) (.slice a.dq m.data.length a.dc) ∧ VarT1 w' x name) [0, 1, 2, 3, 4, 5, 6, 7, 8, 9, 10, 11, 12, 13, 14, 15] [(0, 0), (1, 0), (2, 0), (3, 0), (4, 0), (5, 0), (6, 0), (7, 0), (8, 0), (9, 0), (10, 2), (11, 0), (12, 2), (13, 2), (14, 0), (15, 0), (16, 3)] (by kernel_rfl) (by kernel_rfl) rfl (by kernel_rfl) ?_
    refine ord_read (.pointer (some ⟨p, 0, none⟩)) rfl rfl hS0 (fun W hW => by go_simp) ?_
    refine ord_read (.pointer (some ⟨p, 0, none⟩)) rfl rfl hS0 (fun W hW => by go_simp) ?_
    refine ord_read (.pointer (some ⟨p, 0, none⟩)) rfl rfl hS0 (fun W hW => by go_simp) ?_
    refine ord_read (.pointer (some ⟨p, 2, none⟩)) rfl rfl hS0 (fun W hW => by go_simp) ?_
    refine ord_read (.slice a.so m.snaps.length a.sc) rfl rfl hS0 (fun W hW => by obtain ⟨k0, k1, k2, k3⟩ := hW.1.cells; go_simp) ?_
    refine ord_read (.string name) rfl rfl hS0 (fun W hW => by have k0 : W.cell? ⟨x, 0, none⟩ = some (.string name) := hW.2; go_simp) ?_
    refine ord_read (.pointer (some ⟨p, 0, none⟩)) rfl rfl hS0 (fun W hW => by go_simp) ?_
    refine ord_read (.pointer (some ⟨p, 0, none⟩)) rfl rfl hS0 (fun W hW => by go_simp) ?_
    refine ord_read (.pointer (some ⟨p, 1, none⟩)) rfl rfl hS0 (fun W hW => by go_simp) ?_
    refine ord_read (.slice a.tq m.table.length a.tc) rfl rfl hS0 (fun W hW => by obtain ⟨k0, k1, k2, k3⟩ := hW.1.cells; go_simp) ?_
    clear hS0
    refine ord_held rfl rfl ?_
    intro K hK
    unfold Oper.wp
    go_simp
    refine (copyN_any a.tq a.tc m.table _ (by have := unhide HTL; omega) (unhide HTI)).mono ?_
    rintro e w5 ⟨v, rfl, ho5, hb5⟩
    obtain ⟨vo, vc, rfl, _⟩ := id ho5
    have HB5 := hide (fr (unhide HB3) hb5)
    have hS5 : VarM w5 p 32 (.slice a.ro m.refs.length a.rc) (.slice a.tq m.table.length a.tc) (.slice a.so m.snaps.length a.sc) (.slice a.dq m.data.length a.dc) ∧ VarT1 w5 x name := ⟨(unhide HH).v.below (unhide HB5), (unhide HX).below (unhide HB5)⟩
    have HOT : Hid (OwnN w5 W.heap.size (.slice vo m.table.length vc) m.table) := hide (ho5.base (unhide HB3).size)
    refine hK _ _ hS5 ?_
    clear hK K ho5 hb5
    refine ord_read (.agg #[.string name, .slice vo m.table.length vc]) rfl rfl hS5 (fun W hW => by go_simp) ?_
    refine ord_held rfl rfl ?_
    intro K hK
    unfold Oper.wp
    go_simp
    have hb7 : Below W.heap.size W (w5.alloc (.cells #[.string name, .slice vo m.table.length vc] 83)) := fr (unhide HB5) (Joins.below_alloc1 _ _)
    refine hK _ _ ⟨(unhide HH).v.below hb7, (unhide HX).below hb7⟩ ?_
    clear hK K hS5
    have HOT7 := hide ((unhide HOT).below (Joins.below_alloc1 w5 (.cells #[.string name, .slice vo m.table.length vc] 83)))
    have hnew : (w5.alloc (.cells #[.string name, .slice vo m.table.length vc] 83)).heap[w5.heap.size]? = some (.cells #[.string name, .slice vo m.table.length vc] 83 (0, 0)) := heap_alloc_new _ _
    generalize (w5.alloc (.cells #[.string name, .slice vo m.table.length vc] 83)) = W7 at *
    have HH7 := hide ((unhide HH).below hb7)
    have HX7 := hide ((unhide HX).below hb7)
    refine ord_held rfl rfl ?_
    intro K hK
    refine wp_append_one rfl (.tmp 27) (.tmp 35) 30 rfl B 83 j0 (.agg #[.string ⟨#[]⟩, .slice none 0 0]) 2 40 Tryz.underlying30 hj0 hy0 hy1 hy2 rfl (by omega) a.so m.snaps.length a.sc (snC m.snaps ts) rfl ((unhide HH7).o.s.toR (unhide HC0)) (Nat.le_trans hB hb7.size) ⟨w5.heap.size, 0, none⟩ 1 [.string name, .slice vo m.table.length vc] rfl rfl (snap_news hnew) (snap_one _ _ _ _) (by have := unhide HSL; unfold maxLen; omega) (by have := unhide HSL; omega) ?_
    intro g2 cap2 w8 ho8 hk8
    have hv8 : VarM w8 p 32 (.slice a.ro m.refs.length a.rc) (.slice a.tq m.table.length a.tc) (.slice a.so m.snaps.length a.sc) (.slice a.dq m.data.length a.dc) := (hk8.block _ (unhide HH7).v.lt ((unhide HH7).o.s.other (unhide HH7).v (by decide))).trans (unhide HH7).v
    have hx8 : VarT1 w8 x name := (keep_cell hk8 (fun hg => by have := ((unhide HH7).o.s.ge _ hg).1; simp only at this; omega) (unhide HX7))
    have HN8 := hide (Hld.addS (unhide HH) hB hb7 (unhide HOT7) ho8 hk8)
    refine hK _ _ ⟨hv8, hx8⟩ ?_
    clear hK K ho8 hk8 hnew
    refine ord_read (.pointer (some ⟨p, 0, none⟩)) rfl rfl ⟨hv8, hx8⟩ (fun W hW => by go_simp) ?_
    refine ord_read (.pointer (some ⟨p, 2, none⟩)) rfl rfl ⟨hv8, hx8⟩ (fun W hW => by go_simp) ?_
    obtain ⟨c0, c1, c2, c3⟩ := hv8.cells
    obtain ⟨z0, z1, z2, z3⟩ := hv8.free
    refine ord_alone rfl rfl ?_
    intro K hK
    unfold Oper.wp
    go_simp
    refine hK _ _ ?_
    clear hK K
    refine ord_done ?_
    clear c0 c1 c2 c3 z0 z1 z2 z3
    go_wp2
    go_ret
    rw [(unhide HE).1, (unhide HE).2]
    exact ⟨rfl, _, _, (unhide HN8).1, (unhide HN8).2⟩

set_option maxHeartbeats 1600000 in
theorem snapCreate_impl (a : Im4) (m : Img) (name : ByteArray) (w : World) (hz : name.size ≤ 65536) (hL : ImL m) (hc : ImS w a m) :
    Calls Tryz.prog 87 #[imV a m, .string name] w fun e w' => AnsI w w' e (scA m name) := by
  have hmf : ∀ (fn : Fn) (first cap : Array Value) (w : World), (Instr.makeFunc fn first cap).run Tryz.prog w = .ok (.func fn first cap) w := fun _ _ _ _ => rfl
  have HE : Hid (FcE w (((w.alloc (.cells #[.slice a.ro m.refs.length a.rc, .slice a.tq m.table.length a.tc, .slice a.so m.snaps.length a.sc, .slice a.dq m.data.length a.dc] 32)).alloc (.cells #[.string name] 9)).alloc (.cells #[.slice none 0 0, .slice none 0 0, .slice none 0 0, .slice none 0 0] 32)) (w.heap.size + 1 + 1) a m) := hide (by
    refine ⟨?_, ?_, hc.below (fr (fr (Joins.below_alloc1 w _) (Joins.below_alloc1 _ _)) (Joins.below_alloc1 _ _)), fr (fr (Joins.below_alloc1 w _) (Joins.below_alloc1 _ _)) (Joins.below_alloc1 _ _), by omega, by simp⟩
    · exact ((VarM.new w 32 (.slice a.ro m.refs.length a.rc) (.slice a.tq m.table.length a.tc) (.slice a.so m.snaps.length a.sc) (.slice a.dq m.data.length a.dc)).below (Joins.below_alloc1 _ _)).below (Joins.below_alloc1 _ _)
    · have h := VarM.new ((w.alloc (.cells #[.slice a.ro m.refs.length a.rc, .slice a.tq m.table.length a.tc, .slice a.so m.snaps.length a.sc, .slice a.dq m.data.length a.dc] 32)).alloc (.cells #[.string name] 9)) 32 (.slice none 0 0) (.slice none 0 0) (.slice none 0 0) (.slice none 0 0)
      simp only [World.size_alloc] at h
      exact h)
  have HX0 : Hid (VarT1 (((w.alloc (.cells #[.slice a.ro m.refs.length a.rc, .slice a.tq m.table.length a.tc, .slice a.so m.snaps.length a.sc, .slice a.dq m.data.length a.dc] 32)).alloc (.cells #[.string name] 9)).alloc (.cells #[.slice none 0 0, .slice none 0 0, .slice none 0 0, .slice none 0 0] 32)) (w.heap.size + 1) name) := hide (by
    have h : VarT1 (((w.alloc (.cells #[.slice a.ro m.refs.length a.rc, .slice a.tq m.table.length a.tc, .slice a.so m.snaps.length a.sc, .slice a.dq m.data.length a.dc] 32)).alloc (.cells #[.string name] 9)).alloc (.cells #[.slice none 0 0, .slice none 0 0, .slice none 0 0, .slice none 0 0] 32)) (w.alloc (.cells #[.slice a.ro m.refs.length a.rc, .slice a.tq m.table.length a.tc, .slice a.so m.snaps.length a.sc, .slice a.dq m.data.length a.dc] 32)).heap.size name := (VarT1.new (w.alloc (.cells #[.slice a.ro m.refs.length a.rc, .slice a.tq m.table.length a.tc, .slice a.so m.snaps.length a.sc, .slice a.dq m.data.length a.dc] 32)) name).below (Joins.below_alloc1 _ _)
    simp only [World.size_alloc] at h
    exact h)
  have HL := hide hL
  obtain ⟨R, HR⟩ : ∃ R, Hid (R = scA m name) := ⟨_, hide rfl⟩
  rw [← unhide HR]
  clear hc hL
  go_enter Tryz.func87, Tryz.ntmps87
  go_upto_region 1 with fail
  revert HE HX0
  generalize (((w.alloc _).alloc _).alloc _) = W0
  intro HE HX0
  obtain ⟨c0, c1, c2, c3⟩ := (unhide HE).v.cells
  have hnx : W0.cell? ⟨w.heap.size + 1, 0, none⟩ = some (.string name) := unhide HX0
  go_wp2_with fail
  refine (changeSnaps_any a m name 128 #[.pointer (some ⟨w.heap.size + 1, 0, none⟩)] (cr1 m name) (crC m name) _ (unhide HL) hz (unhide HE).s (fun _ _ => rfl) (fun him => ⟨cr_fit name hz (imB_iff.1 him), fun W p B a1 ts1 h1 h2 h3 h4 h5 => ?_⟩)).mono ?_
  · exact createC_any m name _ W p B a1 ts1 hz (imB_iff.1 him) ((unhide HX0).below h1) (Nat.lt_of_lt_of_le (unhide HX0).lt h2) h3 h4 h5
  · intro e w2 hans
    rw [cr_ans, ← unhide HR] at hans
    obtain ⟨b, ts, rfl, ho, hb⟩ := hans
    have HP := hide ((unhide HE).put hb ho)
    have HE2 := hide ((unhide HE).below hb)
    clear ho hb c0 c1 c2 c3 hnx
    obtain ⟨r0, r1, r2, r3⟩ := (unhide HE2).r.cells
    obtain ⟨z0, z1, z2, z3⟩ := (unhide HE2).r.free
    go_wp2
    refine bodyPost_ret (res_ic Tryz.results87 rfl rfl (unhide HP).1) rfl ?_
    exact AnsI.of rfl rfl (unhide HP).2.1 (unhide HP).2.2

end Go.Proofs.YtpdpnepnfhbonaaGreat

namespace Go.Proofs.YtpdpnepnfhbonaaGreat
open Go.RowKit
set_option linter.unusedVariables false
set_option maxRecDepth 100000

theorem RvU.fold {lo : Int} : ∀ (L : List Int), (∀ c ∈ L, 0 ≤ c ∧ c ≤ 23) → ∀ (ns : List Int) (hi : Int), ns.length = 24 → lo ≤ hi → RvU ns lo hi → RvU (L.foldl incr ns) lo (hi + L.length)
  | [], _, ns, hi, _, _, h => fun c hc => ⟨(h c hc).1, Int.le_trans (h c hc).2 (by simp)⟩
  | c :: L, hL, ns, hi, hn, hh, h => by
    obtain ⟨h0, h1⟩ := hL c (by simp)
    obtain ⟨q, rfl⟩ := Int.eq_ofNat_of_zero_le h0
    have h2 := h.up q (by omega) hh
    have h3 := RvU.fold L (fun x hx => hL x (by simp [hx])) _ _ ((incr_len ns q).trans hn) (by omega) h2
    rw [List.foldl_cons]
    intro i hi'
    have := h3 i hi'
    simp only [List.length_cons]
    omega
theorem raise_bd {m : Img} {t : List Int} (hM : ImM m) (ht : tbB t = true) : RvB (imRaise m t) 0 := by
  have hcl := clA_len ht
  have h := RvU.fold (lo := 0) (clA t) (fun c hc => by obtain ⟨j, hj, rfl⟩ := List.mem_iff_getElem.1 hc; exact clA_in ht j hj) m.refs 15 hM.r (by omega) hM.rv
  intro c hc
  have := h c hc
  show -0 ≤ ((clA t).foldl incr m.refs)[c] ∧ _
  constructor
  · omega
  · show ((clA t).foldl incr m.refs)[c] ≤ 60
    omega
def rvD (m : Img) (t : List Int) (k : Nat) : Img := imDrops (imRaise m t) (m.table.take k)
theorem rvD_start (m : Img) (t : List Int) : rvD m t 0 = imRaise m t := rfl
theorem rvD_succ {m : Img} (t : List Int) {k : Nat} (hk : k < m.table.length) : rvD m t (k + 1) = imDrop (rvD m t k) m.table[k] := by
  unfold rvD imDrops
  rw [List.take_succ_eq_append_getElem hk, List.foldl_append]; rfl
theorem rvD_all (m : Img) (t : List Int) : rvD m t m.table.length = imDrops (imRaise m t) m.table := by rw [rvD, List.take_length]
theorem rvD_same (m : Img) (t : List Int) (k : Nat) : (rvD m t k).table = m.table ∧ (rvD m t k).snaps = m.snaps := ⟨(imDrops_same _ (imRaise m t)).1, (imDrops_same _ (imRaise m t)).2.1⟩
theorem revert_none {m : Img} {name : ByteArray} (hf : ¬ imFind m name < m.snaps.length) : imRevert m name = (m, 5) := if_neg hf
theorem revert_at {m : Img} {name : ByteArray} {q : Nat} (hq : q < m.snaps.length) (e : imFind m name = q) : imRevert m name = ({ imDrops (imRaise m m.snaps[q].table) m.table with table := m.snaps[q].table }, 0) := by
  have hf : imFind m name < m.snaps.length := by omega
  rw [imRevert, if_pos hf, e, List.getElem?_eq_getElem hq]; rfl

set_option maxHeartbeats 3200000 in
theorem l10Revert_R (a : Im4) (m : Img) (name : ByteArray) (R : Img × Int) (w : World) (hR : R = imRevert m name) (hM : ImM m) (hts : ∀ s ∈ m.snaps, tbB s.table = true) (hc : ImS w a m) :
    Calls Tryz.prog 78 #[imV a m, .string name] w fun e w' => AnsI w w' e R := by
  have HE := hide (ImE.new w a m hc)
  have HM := hide hM
  have HR := hide hR
  have HTS := hide hts
  have HTL := hide hM.t
  clear hc hM hR hts
  obtain ⟨i0, hi0, hz0, hz1, hz2⟩ := info_parts infoIn
  go_enter Tryz.func78, Tryz.ntmps78
  go_upto_region 1 with fail
  revert HE
  generalize ((w.alloc _).alloc _) = W0
  intro HE
  obtain ⟨c0, c1, c2, c3⟩ := (unhide HE).v.cells
  go_wp2_with fail
  refine (l10Own_M a m _ (unhide HM) (unhide HE).s).mono ?_
  rintro e w1 ⟨b, ts, rfl, ho, hb⟩
  have HQ := hide (ImQ.put (w := w) ((unhide HE).v.below hb) ((unhide HE).r.below hb) (ho.base (B' := w.heap.size + 2) (by have := (unhide HE).r.lt; omega)) (fr (unhide HE).b hb) (Nat.le_refl _) (m0 := m) rfl rfl rfl rfl)
  unfold putI at HQ
  obtain ⟨x0, x1, x2, x3⟩ := ((unhide HE).v.below hb).cells
  obtain ⟨z0, z1, z2, z3⟩ := ((unhide HE).v.below hb).free
  clear c0 c1 c2 c3 ho hb HE
  go_upto_region 2 with fail
  clear x0 x1 x2 x3 z0 z1 z2 z3
  revert HQ
  generalize (((w1.setCell _ _).setCell _ _).setCell _ _).setCell _ _ = W1
  intro HQ
  have HS : Hid (ImS W1 b m) := hide ((unhide HQ).o.shows (unhide HM).zs)
  obtain ⟨c0, c1, c2, c3⟩ := (unhide HQ).v.cells
  go_wp2_with fail
  refine (l10Find_any b m name _ (by have := (unhide HM).s; omega) (unhide HS).s).mono ?_
  rintro e w2 ⟨rfl, hb2⟩
  have HQ2 := hide ((unhide HQ).below hb2)
  have HS2 := hide ((unhide HS).s.below hb2)
  clear hb2 c0 c1 c2 c3 HQ HS
  obtain ⟨c0, c1, c2, c3⟩ := (unhide HQ2).v.cells
  obtain ⟨r0, r1, r2, r3⟩ := (unhide HQ2).r.cells
  obtain ⟨z0, z1, z2, z3⟩ := (unhide HQ2).r.free
  by_cases hf : imFind m name < m.snaps.length
  case neg =>
    have HX : Hid (R = (m, 5)) := hide ((unhide HR).trans (revert_none hf))
    have HF := hide (unhide HQ2).fin
    rw [show fdI m name = -1 from if_neg hf]
    clear hf
    go_wp2
    refine bodyPost_ret (res_ic Tryz.results78 rfl rfl (unhide HF).1) rfl ?_
    rw [unhide HX]
    exact AnsI.of (R := (m, 5)) rfl rfl (unhide HF).2.1 (unhide HF).2.2
  rw [show fdI m name = (imFind m name : Int) from if_pos hf]
  obtain ⟨q, hq⟩ : ∃ q, imFind m name = q := ⟨_, rfl⟩
  have hql : q < m.snaps.length := by omega
  obtain ⟨t, ht⟩ : ∃ t, m.snaps[q].table = t := ⟨_, rfl⟩
  have HX : Hid (R = ({ imDrops (imRaise m t) m.table with table := t }, 0)) := hide (by rw [← ht]; exact (unhide HR).trans (revert_at hql hq))
  rw [hq]
  clear hf hq HR
  obtain ⟨bs, off, tq, tc, es, _, ht0, hIs, _, _⟩ := (unhide HS2) q hql
  have ES := hide es
  have HTB : Hid (tbB t = true) := hide (by rw [← ht]; exact unhide HTS _ (List.getElem_mem hql))
  rw [ht] at hIs ht0
  have HT := hide ht
  have HTI := hide hIs
  have hqi : (q : Int) < (m.snaps.length : Int) := by omega
  have HQL := hide hql
  clear hIs ht
  clear r0 r1 r2 r3 z0 z1 z2 z3
  have hS0 : VarM w2.drew w.heap.size 32 (.slice b.ro m.refs.length b.rc) (.slice b.tq m.table.length b.tc) (.slice (some ⟨bs, off, none⟩) m.snaps.length b.sc) (.slice b.dq m.data.length b.dc) ∧ w2.drew.cell? ⟨bs, off + q * 2 + 1, none⟩ = some (.slice tq t.length tc) := ⟨by rw [← es]; exact (unhide HQ2).v.below (Below.refl _ _).drew, ht0⟩
  clear c0 c1 c2 c3 es
  go_upto_region 5 with fail
  refine wp_region_ord (fun w' => VarM w' w.heap.size 32 (.slice b.ro m.refs.length b.rc) (.slice b.tq m.table.length b.tc) (.slice (some ⟨bs, off, none⟩) m.snaps.length b.sc) (.slice b.dq m.data.length b.dc) ∧ w'.cell? ⟨bs, off + q * 2 + 1, none⟩ = some (.slice tq t.length tc)) [0, 1, 2, 3, 4, 5, 6] [(0, 0), (1, 0), (2, 0), (3, 0), (4, 0), (5, 0), (6, 0), (7, 3), (8, 3)] (by kernel_rfl) (by kernel_rfl) rfl (by kernel_rfl) ?_
  refine ord_read (.agg #[.slice b.ro m.refs.length b.rc, .slice b.tq m.table.length b.tc, .slice (some ⟨bs, off, none⟩) m.snaps.length b.sc, .slice b.dq m.data.length b.dc]) rfl rfl hS0 (fun W hW => by obtain ⟨k0, k1, k2, k3⟩ := hW.1.cells; go_simp) ?_
  refine ord_read (.pointer (some ⟨w.heap.size, 2, none⟩)) rfl rfl hS0 (fun W hW => by go_simp) ?_
  refine ord_read (.slice (some ⟨bs, off, none⟩) m.snaps.length b.sc) rfl rfl hS0 (fun W hW => by obtain ⟨k0, k1, k2, k3⟩ := hW.1.cells; go_simp) ?_
  refine ord_read (.int .i64 q) rfl rfl hS0 (fun W hW => by go_simp) ?_
  refine ord_read (.pointer (some ⟨bs, off + q * 2, none⟩)) rfl rfl hS0 (fun W hW => by go_simp) ?_
  refine ord_read (.pointer (some ⟨bs, off + q * 2 + 1, none⟩)) rfl rfl hS0 (fun W hW => by go_simp) ?_
  refine ord_read (.slice tq t.length tc) rfl rfl hS0 (fun W hW => by have k0 := hW.2; go_simp) ?_
  have HAG : Hid (Value.agg #[.slice b.ro m.refs.length b.rc, .slice b.tq m.table.length b.tc, .slice (some ⟨bs, off, none⟩) m.snaps.length b.sc, .slice b.dq m.data.length b.dc] = imV b m) := hide (by rw [imV, unhide ES])
  clear hS0 ht0
  refine ord_alone rfl rfl ?_
  intro K hK
  unfold Oper.wp
  go_simp
  rw [unhide HAG]
  refine (l10Raise_any b m ts (w.heap.size + 2) tq tc t _ (unhide HM).r (fun c hc => by have := (unhide HM).rv c hc; omega) (unhide HTB) ((unhide HTI).below (Below.refl _ _).drew) ((unhide HQ2).o.below (Below.refl _ _).drew)).mono ?_
  rintro e w3 ⟨rfl, ho3, hk3⟩
  have HQ3 := hide (((unhide HQ2).below (Below.refl _ _).drew).turn hk3 ho3 (cnt1T_len t m.refs) rfl rfl rfl)
  have HQ4 := hide (unhide HQ3).again
  unfold putI at HQ4
  refine hK _ _ ?_
  clear hK K ho3 hk3
  obtain ⟨c0, c1, c2, c3⟩ := (unhide HQ3).v.cells
  obtain ⟨z0, z1, z2, z3⟩ := (unhide HQ3).v.free
  refine ord_alone rfl rfl ?_
  intro K hK
  unfold Oper.wp
  go_simp
  refine hK _ _ ?_
  clear hK K
  refine ord_done ?_
  clear c0 c1 c2 c3 z0 z1 z2 z3 HQ3
  revert HQ4
  generalize (((w3.setCell _ _).setCell _ _).setCell _ _).setCell _ _ = W4
  intro HQ4
  have HBD := hide (raise_bd (unhide HM) (unhide HTB))
  have ht12 := unhide HTL
  clear HQ2 HS2 HTI HAG ES
  go_wp2
  go_loopw [7] (fun i wr => ∃ k : Nat, k ≤ m.table.length ∧ i = .int .i64 k ∧ Hid (ImQ w wr (w.heap.size + 2) b m (rvD m t k) ts) ∧ Hid (RvB (rvD m t k) k)) (fun i _ => m.table.length - (intOf i).toNat)
  case atStart => exact ⟨0, Nat.zero_le _, rfl, by rw [rvD_start]; exact HQ4, by rw [rvD_start]; exact HBD⟩
  case round =>
    clear HQ4 HBD
    obtain ⟨k, hk, rfl, HQ, HB⟩ := hrel
    obtain ⟨c0, c1, c2, c3⟩ := (unhide HQ).v.cells
    by_cases hlt : k < m.table.length
    · have hlti : (k : Int) < (m.table.length : Int) := by omega
      have HSU := hide (rvD_succ t hlt)
      have HTE : Hid ((rvD m t k).table = m.table) := hide (rvD_same m t k).1
      have HLS : Hid ((rvD m t k).refs.length = 24 ∧ (rvD m t k).data.length = 24) := hide ⟨(unhide HQ).e1.trans (unhide HM).r, (unhide HQ).e4.trans (unhide HM).d⟩
      have HTV := hide ((unhide HM).tv k hlt)
      have HBN : Hid (RvB (imDrop (rvD m t k) m.table[k]) ((k + 1 : Nat) : Int)) := hide (by
        have := (unhide HB).drop (by omega) m.table[k]
        rwa [show (k : Int) + 1 = ((k + 1 : Nat) : Int) by omega] at this)
      obtain ⟨gt, et, hct, _, _⟩ := (unhide HQ).setT (c := k) (by rw [unhide HTE]; exact hlt)
      have hct' : wr.cell? ⟨gt, k, none⟩ = some (.int .i64 m.table[k]) := by rw [hct]; simp only [unhide HTE]
      have ET := hide et
      clear hct
      rw [← unhide HSU] at HBN
      have HK64 := hide (unhide HTL)
      go_upto_region 9 with fail
      clear c0 c1 c2 c3
      have hS0 : VarM wr.drew w.heap.size 32 (.slice b.ro m.refs.length b.rc) (.slice (some ⟨gt, 0, none⟩) m.table.length b.tc) (.slice b.so m.snaps.length b.sc) (.slice b.dq m.data.length b.dc) ∧ wr.drew.cell? ⟨gt, k, none⟩ = some (.int .i64 m.table[k]) := ⟨by rw [← et]; exact (unhide HQ).v.below (Below.refl _ _).drew, hct'⟩
      clear hct' et
      have HTG : Hid (∃ T, T = m.table[k]) := hide ⟨_, rfl⟩
      have HDROP : Hid (Calls Tryz.prog 115 #[.agg #[.slice b.ro m.refs.length b.rc, .slice (some ⟨gt, 0, none⟩) m.table.length b.tc, .slice b.so m.snaps.length b.sc, .slice b.dq m.data.length b.dc], .int .i64 m.table[k]] wr.drew fun e w' => e = .returned (.agg #[.slice b.ro m.refs.length b.rc, .slice (some ⟨gt, 0, none⟩) m.table.length b.tc, .slice b.so m.snaps.length b.sc, .slice b.dq m.data.length b.dc]) ∧ ImQ w w' (w.heap.size + 2) b m (rvD m t (k + 1)) ts) := hide (by
        have h := (unhide HQ).below (Below.refl wr.heap.size wr).drew
        have hv : imV b (rvD m t k) = .agg #[.slice b.ro m.refs.length b.rc, .slice (some ⟨gt, 0, none⟩) m.table.length b.tc, .slice b.so m.snaps.length b.sc, .slice b.dq m.data.length b.dc] := by rw [← h.val, imV, unhide ET]
        rw [← hv]
        refine (l10Drop_M b (rvD m t k) ts (w.heap.size + 2) m.table[k] _ (unhide HTV).1 (unhide HTV).2 (unhide HLS).1 (unhide HLS).2 (fun c hc => by have := unhide HB c hc; have := unhide HTL; omega) h.o).mono ?_
        rintro e w2 ⟨rfl, ho2, hk2'⟩
        rw [unhide HSU]
        exact ⟨rfl, h.turn hk2' ho2 (imDrop_lens _ _).1 (imDrop_lens _ _).2.1 (imDrop_lens _ _).2.2.1 (imDrop_lens _ _).2.2.2⟩)
      clear HTE HLS HTV HSU HTG
      generalize m.table[k] = T at *
      refine wp_region_ord (fun w' => VarM w' w.heap.size 32 (.slice b.ro m.refs.length b.rc) (.slice (some ⟨gt, 0, none⟩) m.table.length b.tc) (.slice b.so m.snaps.length b.sc) (.slice b.dq m.data.length b.dc) ∧ w'.cell? ⟨gt, k, none⟩ = some (.int .i64 T)) [0, 1, 2, 3, 4, 5] [(0, 0), (1, 0), (2, 0), (3, 0), (4, 0), (5, 0), (6, 3), (7, 3)] (by kernel_rfl) (by kernel_rfl) rfl (by kernel_rfl) ?_
      refine ord_read (.agg #[.slice b.ro m.refs.length b.rc, .slice (some ⟨gt, 0, none⟩) m.table.length b.tc, .slice b.so m.snaps.length b.sc, .slice b.dq m.data.length b.dc]) rfl rfl hS0 (fun W hW => by obtain ⟨k0, k1, k2, k3⟩ := hW.1.cells; go_simp) ?_
      refine ord_read (.pointer (some ⟨w.heap.size, 1, none⟩)) rfl rfl hS0 (fun W hW => by go_simp) ?_
      refine ord_read (.slice (some ⟨gt, 0, none⟩) m.table.length b.tc) rfl rfl hS0 (fun W hW => by obtain ⟨k0, k1, k2, k3⟩ := hW.1.cells; go_simp) ?_
      refine ord_read (.int .i64 k) rfl rfl hS0 (fun W hW => by go_simp) ?_
      refine ord_read (.pointer (some ⟨gt, k, none⟩)) rfl rfl hS0 (fun W hW => by go_simp) ?_
      refine ord_read (.int .i64 T) rfl rfl hS0 (fun W hW => by have k0 := hW.2; go_simp) ?_
      clear hS0
      refine ord_alone rfl rfl ?_
      intro K hK
      unfold Oper.wp
      go_simp
      refine (unhide HDROP).mono ?_
      rintro e w2 ⟨rfl, hq2⟩
      have HQ3 := hide hq2
      have HQ4 := hide hq2.again
      unfold putI at HQ4
      rw [unhide ET] at HQ4
      refine hK _ _ ?_
      clear hK K hq2
      obtain ⟨c0, c1, c2, c3⟩ := (unhide HQ3).v.cells
      obtain ⟨z0, z1, z2, z3⟩ := (unhide HQ3).v.free
      refine ord_alone rfl rfl ?_
      intro K hK
      unfold Oper.wp
      go_simp
      refine hK _ _ ?_
      clear hK K
      refine ord_done ?_
      clear c0 c1 c2 c3 z0 z1 z2 z3 HQ3 HDROP HQ HB
      revert HQ4
      generalize (((w2.setCell _ _).setCell _ _).setCell _ _).setCell _ _ = W4
      intro HQ4
      go_wp2
      go_roundw
      case rel => exact ⟨k + 1, by omega, by go_num, HQ4, HBN⟩
      case measure => simp [intOf]; omega
    · obtain rfl : k = m.table.length := by omega
      have HD : Hid (rvD m t m.table.length = imDrops (imRaise m t) m.table) := hide (rvD_all m t)
      have HSN : Hid (Sns wr b.so m.snaps) := hide (by
        have := ((unhide HQ).o.shows (by rw [(rvD_same m t m.table.length).2]; exact (unhide HM).zs)).s
        rwa [(rvD_same m t m.table.length).2] at this)
      obtain ⟨bs, off, tq, tc, es, _, ht0, hIs, _, _⟩ := (unhide HSN) q (unhide HQL)
      rw [unhide HT] at ht0 hIs
      rw [es] at c2
      have HIS := hide hIs
      have HTL2 : Hid (t.length ≤ 12) := hide (tbB_len (unhide HTB))
      clear hIs HSN es HB
      rw [unhide HD] at HQ
      generalize imDrops (imRaise m t) m.table = D at *
      have hx1 := (unhide HQ).v.lt
      have hx2 := World.block_lt_of_cell? _ _ ht0
      have hb5 := Joins.below_alloc1 wr (.cells #[] 3)
      have HQ5 := hide ((unhide HQ).below hb5)
      have HI5 := hide ((unhide HIS).below hb5)
      clear hb5
      go_upto_region 11 with (at_builtin; refine wpList_append_fresh rfl _ _ 22 rfl 3 i0 (.int .i64 0) 1 8 Tryz.underlying22 hi0 hz0 hz1 hz2 rfl (by omega) rfl tq t.length tc (intV t) rfl (by rw [intV_length]; omega) (Is.srcI (unhide HI5)) (by have := unhide HTL2; unfold maxLen; omega) (by have := unhide HTL2; omega) ?_; intro qo qa w6 ho6 hg6; have HB6 := hide (belowGr (Below.refl _ _) hg6); have HO6 := hide ho6; clear ho6 hg6; have HQ6 := hide ((unhide HQ5).below (unhide HB6)); obtain ⟨c0, c1, c2, c3⟩ := (unhide HQ6).v.cells; obtain ⟨z0, z1, z2, z3⟩ := (unhide HQ6).v.free)
      have HON := hide ((unhide HQ5).o.newT (unhide HB6) (OwnN.mk' (unhide HO6) rfl) rfl (by have := (unhide HQ5).r.lt; omega))
      have HQ7 : Hid (ImQ w (w6.setCell ⟨w.heap.size, 1, none⟩ (.slice qo t.length qa)) (w.heap.size + 2) { b with tq := qo, tc := qa } { m with table := t } { D with table := t } ts) := hide
        ⟨(unhide HQ6).v.set1 _, (unhide HQ6).r.other (p := ⟨w.heap.size, 1, none⟩) (by simp) _, (unhide HON).setCell (p := ⟨w.heap.size, 1, none⟩) (by simp) _, (unhide HQ6).b.setCell (p := ⟨w.heap.size, 1, none⟩) (Nat.le_refl _) _, (unhide HQ6).hB, (unhide HQ6).e1, rfl, (unhide HQ6).e3, (unhide HQ6).e4⟩
      clear c0 c1 c2 c3 z0 z1 z2 z3 ht0 hx1 hx2
      revert HQ7
      generalize (w6.setCell _ _) = W7
      intro HQ7
      have HF := hide (unhide HQ7).fin
      obtain ⟨c0, c1, c2, c3⟩ := (unhide HQ7).v.cells
      obtain ⟨r0, r1, r2, r3⟩ := (unhide HQ7).r.cells
      obtain ⟨z0, z1, z2, z3⟩ := (unhide HQ7).r.free
      go_wp2
      refine bodyPost_ret (res_ic Tryz.results78 rfl rfl (unhide HF).1) rfl ?_
      rw [unhide HX]
      exact AnsI.of (R := ({ D with table := t }, 0)) (unhide HQ7).val rfl (unhide HF).2.1 (unhide HF).2.2

end Go.Proofs.YtpdpnepnfhbonaaGreat

namespace Go.Proofs.YtpdpnepnfhbonaaGreat
open Go.RowKit
set_option linter.unusedVariables false
set_option maxRecDepth 100000

def srA (m : Img) (name : ByteArray) : Img × Int := if imB m = true then imRevert m name else (im0, 1)
def rvC (m : Img) (name : ByteArray) : Int := if imFind m name < m.snaps.length then 0 else 5
def rv1 (m : Img) (name : ByteArray) : Img := if imFind m name < m.snaps.length then { m with table := (m.snaps[imFind m name]?).elim [] (·.table) } else m
theorem rv_fit {m : Img} (name : ByteArray) (h : ImR m) : FitR (rv1 m name) := by
  unfold rv1
  split
  · rename_i hf
    rw [List.getElem?_eq_getElem hf]
    exact h.fitT (d := m.data) (h.snaps _ (List.getElem_mem hf)).2 h.len
  · exact h.fitR
theorem rv_ans {m : Img} (name : ByteArray) : (if imB m = true then (imFit (rv1 m name), rvC m name) else (im0, 1)) = srA m name := by
  refine ans_eq (fun h => ?_) (fun h => by rw [srA, h]; rfl)
  have hR := imB_iff.1 h
  rw [srA, if_pos h]
  unfold rv1 rvC
  by_cases hf : imFind m name < m.snaps.length
  · rw [if_pos hf, if_pos hf, revert_at hf rfl, List.getElem?_eq_getElem hf]
    exact ⟨fit_revert hR hf, rfl⟩
  · rw [if_neg hf, if_neg hf, revert_none hf]
    exact ⟨fit_self hR, rfl⟩

set_option maxHeartbeats 3200000 in
theorem revertC_any (m : Img) (name : ByteArray) (x : Nat) (W : World) (p B : Nat) (a : Im4) (ts : List Value) (hR : ImR m) (hx : VarT1 W x name) (hxB : x < B) (hB : B ≤ W.heap.size) (hh : Hld W p B a m ts) :
    Calls Tryz.prog 133 #[.pointer (some ⟨p, 0, none⟩), .pointer (some ⟨x, 0, none⟩)] W fun e W' => Chg W W' p B e (rvC m name) (rv1 m name) := by
  have HH := hide hh
  have HX := hide hx
  have HM := hide hR.M
  clear hh hR hx
  go_enter Tryz.func133, Tryz.ntmps133
  have hS0 : VarM W.drew p 32 (.slice a.ro m.refs.length a.rc) (.slice a.tq m.table.length a.tc) (.slice a.so m.snaps.length a.sc) (.slice a.dq m.data.length a.dc) ∧ VarT1 W.drew x name := ⟨(unhide HH).v.below (Below.refl _ _).drew, (unhide HX).below (Below.refl _ _).drew⟩
  have HSN : Hid (Sns W a.so m.snaps) := hide ((unhide HH).o.shows (unhide HM).zs).s
  have HSL := hide (unhide HM).s
  go_upto_region 1 with fail
  refine wp_region_ord (fun w' => VarM w' p 32 (.slice a.ro m.refs.length a.rc) (.slice a.tq m.table.length a.tc) (.slice a.so m.snaps.length a.sc) (.slice a.dq m.data.length a.dc) ∧ VarT1 w' x name) [0, 1, 2, 3, 4] [(0, 0), (1, 0), (2, 0), (3, 0), (4, 0), (5, 3), (6, 4)] (by kernel_rfl) (by kernel_rfl) rfl (by kernel_rfl) ?_
  refine ord_read (.pointer (some ⟨p, 0, none⟩)) rfl rfl hS0 (fun W hW => by go_simp) ?_
  refine ord_read (.pointer (some ⟨p, 0, none⟩)) rfl rfl hS0 (fun W hW => by go_simp) ?_
  refine ord_read (.pointer (some ⟨p, 2, none⟩)) rfl rfl hS0 (fun W hW => by go_simp) ?_
  refine ord_read (.slice a.so m.snaps.length a.sc) rfl rfl hS0 (fun W hW => by obtain ⟨k0, k1, k2, k3⟩ := hW.1.cells; go_simp) ?_
  refine ord_read (.string name) rfl rfl hS0 (fun W hW => by have k0 : W.cell? ⟨x, 0, none⟩ = some (.string name) := hW.2; go_simp) ?_
  clear hS0
  refine ord_alone rfl rfl ?_
  intro K hK
  unfold Oper.wp
  go_simp
  refine (findSnap_any a.so a.sc m.snaps name _ (by have := unhide HSL; unfold maxLen; omega) ((unhide HSN).below (Below.refl _ _).drew)).mono ?_
  rintro e w2 ⟨rfl, hb⟩
  have HB2 : Hid (Below W.heap.size W w2) := hide (fr (Below.refl _ _).drew hb)
  clear hb
  refine hK _ _ ?_
  clear hK K
  refine ord_val (.int .i64 (fdL m.snaps name)) rfl rfl (fun W => by go_simp) ?_
  refine ord_done ?_
  by_cases hf : imFind m name < m.snaps.length
  case neg =>
    have HE : Hid (rvC m name = 5 ∧ rv1 m name = m) := hide ⟨if_neg hf, if_neg hf⟩
    rw [show fdL m.snaps name = -1 from if_neg hf]
    clear hf
    go_wp2
    go_ret
    rw [(unhide HE).1, (unhide HE).2]
    exact Chg.same 5 (unhide HH) hB (unhide HB2)
  have HE0 : Hid (rvC m name = 0 ∧ rv1 m name = { m with table := (m.snaps[imFind m name]?).elim [] (·.table) }) := hide ⟨if_pos hf, if_pos hf⟩
  rw [show fdL m.snaps name = (imFind m name : Int) from if_pos hf]
  obtain ⟨q, hq⟩ : ∃ q, imFind m name = q := ⟨_, rfl⟩
  rw [hq] at HE0 hf ⊢
  have hqi : (q : Int) < (m.snaps.length : Int) := by omega
  have HQL := hide hf
  clear hq hf
  obtain ⟨bs, off, tq, tc, es, _, ht0, hIs, _, _⟩ := ((unhide HSN).below (unhide HB2)) q (unhide HQL)
  obtain ⟨t, ht⟩ : ∃ t, m.snaps[q]'(unhide HQL) = t := ⟨_, rfl⟩
  have HE1 : Hid (rv1 m name = { m with table := t.table }) := hide (by rw [(unhide HE0).2, List.getElem?_eq_getElem (unhide HQL), ht]; rfl)
  have HEC := hide (unhide HE0).1
  have htl : t.table.length ≤ 12 := by rw [← ht]; exact ((unhide HM).st _ (List.getElem_mem (unhide HQL))).1
  rw [ht] at ht0 hIs
  have HIS := hide hIs
  obtain ⟨c0, c1, c2, c3⟩ := ((unhide HH).v.below (unhide HB2)).cells
  rw [es] at c2
  clear hIs ht es HE0
  go_wp2_with fail
  refine (copyN_any tq tc t.table _ (by omega) (unhide HIS)).mono ?_
  rintro e w3 ⟨v, rfl, ho3, hb3⟩
  obtain ⟨vo, vc, rfl, _⟩ := id ho3
  have HS3 := hide ((unhide HH).freshT (fr (unhide HB2) hb3) (ho3.base (unhide HB2).size) hB)
  have hv3 := (unhide HH).v.below (fr (unhide HB2) hb3)
  clear ho3 hb3 c0 c1 c2 c3 ht0
  obtain ⟨c0, c1, c2, c3⟩ := hv3.cells
  obtain ⟨z0, z1, z2, z3⟩ := hv3.free
  go_wp2
  go_ret
  rw [unhide HEC, unhide HE1]
  exact ⟨rfl, _, _, (unhide HS3).1, (unhide HS3).2⟩

set_option maxHeartbeats 1600000 in
theorem snapRevert_impl (a : Im4) (m : Img) (name : ByteArray) (w : World) (hz : name.size ≤ 65536) (hL : ImL m) (hc : ImS w a m) :
    Calls Tryz.prog 89 #[imV a m, .string name] w fun e w' => AnsI w w' e (srA m name) := by
  have hmf : ∀ (fn : Fn) (first cap : Array Value) (w : World), (Instr.makeFunc fn first cap).run Tryz.prog w = .ok (.func fn first cap) w := fun _ _ _ _ => rfl
  have HE : Hid (FcE w (((w.alloc (.cells #[.slice a.ro m.refs.length a.rc, .slice a.tq m.table.length a.tc, .slice a.so m.snaps.length a.sc, .slice a.dq m.data.length a.dc] 32)).alloc (.cells #[.string name] 9)).alloc (.cells #[.slice none 0 0, .slice none 0 0, .slice none 0 0, .slice none 0 0] 32)) (w.heap.size + 1 + 1) a m) := hide (by
    refine ⟨?_, ?_, hc.below (fr (fr (Joins.below_alloc1 w _) (Joins.below_alloc1 _ _)) (Joins.below_alloc1 _ _)), fr (fr (Joins.below_alloc1 w _) (Joins.below_alloc1 _ _)) (Joins.below_alloc1 _ _), by omega, by simp⟩
    · exact ((VarM.new w 32 (.slice a.ro m.refs.length a.rc) (.slice a.tq m.table.length a.tc) (.slice a.so m.snaps.length a.sc) (.slice a.dq m.data.length a.dc)).below (Joins.below_alloc1 _ _)).below (Joins.below_alloc1 _ _)
    · have h := VarM.new ((w.alloc (.cells #[.slice a.ro m.refs.length a.rc, .slice a.tq m.table.length a.tc, .slice a.so m.snaps.length a.sc, .slice a.dq m.data.length a.dc] 32)).alloc (.cells #[.string name] 9)) 32 (.slice none 0 0) (.slice none 0 0) (.slice none 0 0) (.slice none 0 0)
      simp only [World.size_alloc] at h
      exact h)
  have HX0 : Hid (VarT1 (((w.alloc (.cells #[.slice a.ro m.refs.length a.rc, .slice a.tq m.table.length a.tc, .slice a.so m.snaps.length a.sc, .slice a.dq m.data.length a.dc] 32)).alloc (.cells #[.string name] 9)).alloc (.cells #[.slice none 0 0, .slice none 0 0, .slice none 0 0, .slice none 0 0] 32)) (w.heap.size + 1) name) := hide (by
    have h : VarT1 (((w.alloc (.cells #[.slice a.ro m.refs.length a.rc, .slice a.tq m.table.length a.tc, .slice a.so m.snaps.length a.sc, .slice a.dq m.data.length a.dc] 32)).alloc (.cells #[.string name] 9)).alloc (.cells #[.slice none 0 0, .slice none 0 0, .slice none 0 0, .slice none 0 0] 32)) (w.alloc (.cells #[.slice a.ro m.refs.length a.rc, .slice a.tq m.table.length a.tc, .slice a.so m.snaps.length a.sc, .slice a.dq m.data.length a.dc] 32)).heap.size name := (VarT1.new (w.alloc (.cells #[.slice a.ro m.refs.length a.rc, .slice a.tq m.table.length a.tc, .slice a.so m.snaps.length a.sc, .slice a.dq m.data.length a.dc] 32)) name).below (Joins.below_alloc1 _ _)
    simp only [World.size_alloc] at h
    exact h)
  have HL := hide hL
  obtain ⟨R, HR⟩ : ∃ R, Hid (R = srA m name) := ⟨_, hide rfl⟩
  rw [← unhide HR]
  clear hc hL
  go_enter Tryz.func89, Tryz.ntmps89
  go_upto_region 1 with fail
  revert HE HX0
  generalize (((w.alloc _).alloc _).alloc _) = W0
  intro HE HX0
  obtain ⟨c0, c1, c2, c3⟩ := (unhide HE).v.cells
  have hnx : W0.cell? ⟨w.heap.size + 1, 0, none⟩ = some (.string name) := unhide HX0
  go_wp2_with fail
  refine (changeSnaps_any a m name 133 #[.pointer (some ⟨w.heap.size + 1, 0, none⟩)] (rv1 m name) (rvC m name) _ (unhide HL) hz (unhide HE).s (fun _ _ => rfl) (fun him => ⟨rv_fit name (imB_iff.1 him), fun W p B a1 ts1 h1 h2 h3 h4 h5 => ?_⟩)).mono ?_
  · exact revertC_any m name _ W p B a1 ts1 (imB_iff.1 him) ((unhide HX0).below h1) (Nat.lt_of_lt_of_le (unhide HX0).lt h2) h3 h4
  · intro e w2 hans
    rw [rv_ans, ← unhide HR] at hans
    obtain ⟨b, ts, rfl, ho, hb⟩ := hans
    have HP := hide ((unhide HE).put hb ho)
    have HE2 := hide ((unhide HE).below hb)
    clear ho hb c0 c1 c2 c3 hnx
    obtain ⟨r0, r1, r2, r3⟩ := (unhide HE2).r.cells
    obtain ⟨z0, z1, z2, z3⟩ := (unhide HE2).r.free
    go_wp2
    refine bodyPost_ret (res_ic Tryz.results89 rfl rfl (unhide HP).1) rfl ?_
    exact AnsI.of rfl rfl (unhide HP).2.1 (unhide HP).2.2

end Go.Proofs.YtpdpnepnfhbonaaGreat

namespace Go.Proofs.YtpdpnepnfhbonaaGreat
open Go.RowKit
set_option linter.unusedVariables false
set_option maxRecDepth 100000

end Go.Proofs.YtpdpnepnfhbonaaGreat

namespace Go.Proofs.YtpdpnepnfhbonaaGreat
open Go.RowKit
set_option linter.unusedVariables false
set_option maxRecDepth 100000

end Go.Proofs.YtpdpnepnfhbonaaGreat

namespace Go.Proofs.YtpdpnepnfhbonaaGreat
open Go.RowKit
set_option linter.unusedVariables false

end Go.Proofs.YtpdpnepnfhbonaaGreat

namespace Go.Proofs.YtpdpnepnfhbonaaGreat
open Go.RowKit
set_option linter.unusedVariables false
set_option maxRecDepth 100000

end Go.Proofs.YtpdpnepnfhbonaaGreat

namespace Go.Proofs.YtpdpnepnfhbonaaGreat
open Go.RowKit
set_option linter.unusedVariables false
set_option maxRecDepth 100000

end Go.Proofs.YtpdpnepnfhbonaaGreat

namespace Go.Proofs.YtpdpnepnfhbonaaGreat
open Go.RowKit
set_option linter.unusedVariables false

end Go.Proofs.YtpdpnepnfhbonaaGreat

namespace Go.Proofs.YtpdpnepnfhbonaaGreat
open Go.RowKit
set_option linter.unusedVariables false

end Go.Proofs.YtpdpnepnfhbonaaGreat

namespace Go.Proofs.YtpdpnepnfhbonaaGreat
open Go.RowKit
set_option linter.unusedVariables false

end Go.Proofs.YtpdpnepnfhbonaaGreat

namespace Go.Proofs.YtpdpnepnfhbonaaGreat
open Go.RowKit
set_option linter.unusedVariables false
section
variable {P : Program}
theorem run_append_many (w : World) (B : Nat) (t ty e : TypeId) (i : TypeInfo) (z : Value) (size bytes : Nat) (ht : P.underlying t = some (.slice e)) (hi : P.info? e = some i) (hz : i.zero = some z)
    (hsize : i.size = size) (hby : i.bytes = bytes) (hzs : z.cells.size = size) (hsz : 0 < size)
    (qo : Option Addr) (n cap : Nat) (xs : List Value) (h : OwnR w B e size (.slice qo n cap) n xs) (hB : B ≤ w.heap.size)
    (ad : Addr) (m c : Nat) (news : List Value) (hm : 0 < m) (hl : news.length = m * size) (hnews : ∀ j u, news[j]? = some u → w.cell? (ad.add j) = some u) (h1 : ∀ u ∈ news, u.oneCell' = true)
    (b1 : n + m ≤ maxLen) (b2 : (n + m) * bytes ≤ 140737488355328) :
    ∃ g cap' w', (Builtin.append_ #[t, t] ty #[.slice qo n cap, .slice (some ad) m c]).run P w = .ok (.slice (some ⟨g, 0, none⟩) (n + m) cap') w' ∧
      w'.ownsRow B e size (.slice (some ⟨g, 0, none⟩) (n + m) cap') (n + m) (xs ++ news) ∧ Keep (Own (.slice qo n cap)) w w' := by
  rcases h with ⟨rfl, rfl, ao, hv⟩ | ⟨h0, h⟩
  · simp only [Value.slice.injEq, true_and] at hv
    obtain ⟨rfl, rfl⟩ := hv
    cases qo with
    | none =>
      obtain ⟨v', w', hrun, r1, r2, _⟩ := run_append_own (P := P) w B t ty e i z size bytes ht hi hz hsize hby hzs hsz (.slice none 0 0) 0 [] (World.ownsRow_nil w _ e size) ad m c news hl hnews h1 b1 b2 hB
      obtain ⟨g, cap, cur, rfl, _, _⟩ := own_form (by omega) r1
      exact ⟨g, cap, w', hrun, r1, keep_grown r2 (fun k hk => by cases hk)⟩
    | some d =>
      obtain ⟨v', w', hrun, r1, r2⟩ := run_append_arg_grows (P := P) w t ty e i z size bytes ht hi hz hsize hby hzs hsz d 0 0 [] (by simp) (by simp) ad m c news hl hnews (by omega) b1 b2
      obtain ⟨g, cap, cur, rfl, _, _⟩ := own_form (by omega) r1
      exact ⟨g, cap, w', hrun, own_base r1 hB, keep_grown r2 (fun k hk => by cases hk)⟩
  · obtain ⟨g0, cap0, cur0, e0, _, _⟩ := own_form h0 h
    rw [e0] at h
    obtain ⟨v', w', hrun, r1, r2, _⟩ := run_append_own (P := P) w B t ty e i z size bytes ht hi hz hsize hby hzs hsz _ n xs h ad m c news hl hnews h1 b1 b2 hB
    obtain ⟨g, cap, cur, rfl, _, _⟩ := own_form (by omega) r1
    rw [e0]
    exact ⟨g, cap, w', hrun, r1, keep_grown r2 (fun k hk => by cases hk; exact own_of h0 rfl)⟩
end
end Go.Proofs.YtpdpnepnfhbonaaGreat
