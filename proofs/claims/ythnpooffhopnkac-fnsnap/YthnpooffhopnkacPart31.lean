import Derived.Test.YthnpooffhopnkacRows
import Derived.Test.YthnpooffhopnkacPart12
import Derived.Test.YthnpooffhopnkacPart22
import Derived.Test.YthnpooffhopnkacPart15
import Derived.Test.YthnpooffhopnkacPart16
import Derived.Test.YthnpooffhopnkacPart18
import Derived.Test.YthnpooffhopnkacPart19
import Derived.Test.YthnpooffhopnkacImRv
import Derived.Test.YthnpooffhopnkacPart30
import Derived.WalkKit
import Derived.WalkSpells
import Derived.KernelRfl
import Derived.Test.YthnpooffhopnkacPart1
import Derived.Test.YthnpooffhopnkacPart4
import Derived.Test.YthnpooffhopnkacPart29
import Derived.Test.YthnpooffhopnkacSrcM
import Derived.Test.YthnpooffhopnkacPart28

/- Contract of impl.SnapRevert. (Written by gens/snapf.py.) -/
namespace Go.Proofs.Ythnpooffhopnkac
open Go.RowKit
set_option linter.unusedVariables false
set_option maxRecDepth 100000

/-- What SnapRevert answers. -/
def srA (m : Img) (name : ByteArray) : Img × Int := if imB m = true then imRevert m name else (im0, 1)
def rvC (m : Img) (name : ByteArray) : Int := if imFind m name < m.snaps.length then 0 else 5
def rv1 (m : Img) (name : ByteArray) : Img := if imFind m name < m.snaps.length then { m with table := (m.snaps[imFind m name]?).elim [] (·.table) } else m
theorem rv_fit {m : Img} (name : ByteArray) (h : ImR m) : FitR (rv1 m name) := by
  unfold rv1
  split
  · rename_i hf
    rw [List.getElem?_eq_getElem hf]
    exact h.fitT (d := m.data) (h.snaps _ (List.getElem_mem hf)).2 h.len
  · exact h.fitR
theorem rv_ans {m : Img} (name : ByteArray) : (if imB m = true then (imFit (rv1 m name), rvC m name) else (im0, 1)) = srA m name := by
  refine ans_eq (fun h => ?_) (fun h => by rw [srA, h]; rfl)
  have hR := imB_iff.1 h
  rw [srA, if_pos h]
  unfold rv1 rvC
  by_cases hf : imFind m name < m.snaps.length
  · rw [if_pos hf, if_pos hf, revert_at hf rfl, List.getElem?_eq_getElem hf]
    exact ⟨fit_revert hR hf, rfl⟩
  · rw [if_neg hf, if_neg hf, revert_none hf]
    exact ⟨fit_self hR, rfl⟩

set_option maxHeartbeats 3200000 in
theorem revertC_any (m : Img) (name : ByteArray) (x : Nat) (W : World) (p B : Nat) (a : Im4) (ts : List Value) (hR : ImR m) (hx : VarT1 W x name) (hxB : x < B) (hB : B ≤ W.heap.size) (hh : Hld W p B a m ts) :
    Calls Try.prog 42 #[.pointer (some ⟨p, 0, none⟩), .pointer (some ⟨x, 0, none⟩)] W fun e W' => Chg W W' p B e (rvC m name) (rv1 m name) := by
  have HH := hide hh
  have HX := hide hx
  have HM := hide hR.M
  clear hh hR hx
  go_enter Try.func42, Try.ntmps42
  have hS0 : VarM W.drew p 26 (.slice a.ro m.refs.length a.rc) (.slice a.tq m.table.length a.tc) (.slice a.so m.snaps.length a.sc) (.slice a.dq m.data.length a.dc) ∧ VarT1 W.drew x name := ⟨(unhide HH).v.below (Below.refl _ _).drew, (unhide HX).below (Below.refl _ _).drew⟩
  have HSN : Hid (Sns W a.so m.snaps) := hide ((unhide HH).o.shows (unhide HM).zs).s
  have HSL := hide (unhide HM).s
  go_upto_region 1 with fail
  refine wp_region_ord (fun w' => VarM w' p 26 (.slice a.ro m.refs.length a.rc) (.slice a.tq m.table.length a.tc) (.slice a.so m.snaps.length a.sc) (.slice a.dq m.data.length a.dc) ∧ VarT1 w' x name) [0, 1, 2, 3, 4] [(0, 0), (1, 0), (2, 0), (3, 0), (4, 0), (5, 3), (6, 4)] (by kernel_rfl) (by kernel_rfl) rfl (by kernel_rfl) ?_
  refine ord_read (.pointer (some ⟨p, 0, none⟩)) rfl rfl hS0 (fun W hW => by go_simp) ?_
  refine ord_read (.pointer (some ⟨p, 0, none⟩)) rfl rfl hS0 (fun W hW => by go_simp) ?_
  refine ord_read (.pointer (some ⟨p, 2, none⟩)) rfl rfl hS0 (fun W hW => by go_simp) ?_
  refine ord_read (.slice a.so m.snaps.length a.sc) rfl rfl hS0 (fun W hW => by obtain ⟨k0, k1, k2, k3⟩ := hW.1.cells; go_simp) ?_
  refine ord_read (.string name) rfl rfl hS0 (fun W hW => by have k0 : W.cell? ⟨x, 0, none⟩ = some (.string name) := hW.2; go_simp) ?_
  clear hS0
  refine ord_alone rfl rfl ?_
  intro K hK
  unfold Oper.wp
  go_simp
  refine (findSnap_any a.so a.sc m.snaps name _ (by have := unhide HSL; unfold maxLen; omega) ((unhide HSN).below (Below.refl _ _).drew)).mono ?_
  rintro e w2 ⟨rfl, hb⟩
  have HB2 : Hid (Below W.heap.size W w2) := hide (fr (Below.refl _ _).drew hb)
  clear hb
  refine hK _ _ ?_
  clear hK K
  refine ord_val (.int .i64 (fdL m.snaps name)) rfl rfl (fun W => by go_simp) ?_
  refine ord_done ?_
  by_cases hf : imFind m name < m.snaps.length
  case neg =>
    have HE : Hid (rvC m name = 5 ∧ rv1 m name = m) := hide ⟨if_neg hf, if_neg hf⟩
    rw [show fdL m.snaps name = -1 from if_neg hf]
    clear hf
    go_wp2
    go_ret
    rw [(unhide HE).1, (unhide HE).2]
    exact Chg.same 5 (unhide HH) hB (unhide HB2)
  have HE0 : Hid (rvC m name = 0 ∧ rv1 m name = { m with table := (m.snaps[imFind m name]?).elim [] (·.table) }) := hide ⟨if_pos hf, if_pos hf⟩
  rw [show fdL m.snaps name = (imFind m name : Int) from if_pos hf]
  obtain ⟨q, hq⟩ : ∃ q, imFind m name = q := ⟨_, rfl⟩
  rw [hq] at HE0 hf ⊢
  have hqi : (q : Int) < (m.snaps.length : Int) := by omega
  have HQL := hide hf
  clear hq hf
  obtain ⟨bs, off, tq, tc, es, _, ht0, hIs, _, _⟩ := ((unhide HSN).below (unhide HB2)) q (unhide HQL)
  obtain ⟨t, ht⟩ : ∃ t, m.snaps[q]'(unhide HQL) = t := ⟨_, rfl⟩
  have HE1 : Hid (rv1 m name = { m with table := t.table }) := hide (by rw [(unhide HE0).2, List.getElem?_eq_getElem (unhide HQL), ht]; rfl)
  have HEC := hide (unhide HE0).1
  have htl : t.table.length ≤ 12 := by rw [← ht]; exact ((unhide HM).st _ (List.getElem_mem (unhide HQL))).1
  rw [ht] at ht0 hIs
  have HIS := hide hIs
  obtain ⟨c0, c1, c2, c3⟩ := ((unhide HH).v.below (unhide HB2)).cells
  rw [es] at c2
  clear hIs ht es HE0
  go_wp2_with fail
  refine (copyN_any tq tc t.table _ (by omega) (unhide HIS)).mono ?_
  rintro e w3 ⟨v, rfl, ho3, hb3⟩
  obtain ⟨vo, vc, rfl, _⟩ := id ho3
  have HS3 := hide ((unhide HH).freshT (fr (unhide HB2) hb3) (ho3.base (unhide HB2).size) hB)
  have hv3 := (unhide HH).v.below (fr (unhide HB2) hb3)
  clear ho3 hb3 c0 c1 c2 c3 ht0
  obtain ⟨c0, c1, c2, c3⟩ := hv3.cells
  obtain ⟨z0, z1, z2, z3⟩ := hv3.free
  go_wp2
  go_ret
  rw [unhide HEC, unhide HE1]
  exact ⟨rfl, _, _, (unhide HS3).1, (unhide HS3).2⟩

set_option maxHeartbeats 1600000 in
theorem snapRevert_impl (a : Im4) (m : Img) (name : ByteArray) (w : World) (hz : name.size ≤ 65536) (hL : ImL m) (hc : ImS w a m) :
    Calls Try.prog 16 #[imV a m, .string name] w fun e w' => AnsI w w' e (srA m name) := by
  have hmf : ∀ (fn : Fn) (first cap : Array Value) (w : World), (Instr.makeFunc fn first cap).run Try.prog w = .ok (.func fn first cap) w := fun _ _ _ _ => rfl
  have HE : Hid (FcE w (((w.alloc (.cells #[.slice a.ro m.refs.length a.rc, .slice a.tq m.table.length a.tc, .slice a.so m.snaps.length a.sc, .slice a.dq m.data.length a.dc] 26)).alloc (.cells #[.string name] 9)).alloc (.cells #[.slice none 0 0, .slice none 0 0, .slice none 0 0, .slice none 0 0] 26)) (w.heap.size + 1 + 1) a m) := hide (by
    refine ⟨?_, ?_, hc.below (fr (fr (Joins.below_alloc1 w _) (Joins.below_alloc1 _ _)) (Joins.below_alloc1 _ _)), fr (fr (Joins.below_alloc1 w _) (Joins.below_alloc1 _ _)) (Joins.below_alloc1 _ _), by omega, by simp⟩
    · exact ((VarM.new w 26 (.slice a.ro m.refs.length a.rc) (.slice a.tq m.table.length a.tc) (.slice a.so m.snaps.length a.sc) (.slice a.dq m.data.length a.dc)).below (Joins.below_alloc1 _ _)).below (Joins.below_alloc1 _ _)
    · have h := VarM.new ((w.alloc (.cells #[.slice a.ro m.refs.length a.rc, .slice a.tq m.table.length a.tc, .slice a.so m.snaps.length a.sc, .slice a.dq m.data.length a.dc] 26)).alloc (.cells #[.string name] 9)) 26 (.slice none 0 0) (.slice none 0 0) (.slice none 0 0) (.slice none 0 0)
      simp only [World.size_alloc] at h
      exact h)
  have HX0 : Hid (VarT1 (((w.alloc (.cells #[.slice a.ro m.refs.length a.rc, .slice a.tq m.table.length a.tc, .slice a.so m.snaps.length a.sc, .slice a.dq m.data.length a.dc] 26)).alloc (.cells #[.string name] 9)).alloc (.cells #[.slice none 0 0, .slice none 0 0, .slice none 0 0, .slice none 0 0] 26)) (w.heap.size + 1) name) := hide (by
    have h : VarT1 (((w.alloc (.cells #[.slice a.ro m.refs.length a.rc, .slice a.tq m.table.length a.tc, .slice a.so m.snaps.length a.sc, .slice a.dq m.data.length a.dc] 26)).alloc (.cells #[.string name] 9)).alloc (.cells #[.slice none 0 0, .slice none 0 0, .slice none 0 0, .slice none 0 0] 26)) (w.alloc (.cells #[.slice a.ro m.refs.length a.rc, .slice a.tq m.table.length a.tc, .slice a.so m.snaps.length a.sc, .slice a.dq m.data.length a.dc] 26)).heap.size name := (VarT1.new (w.alloc (.cells #[.slice a.ro m.refs.length a.rc, .slice a.tq m.table.length a.tc, .slice a.so m.snaps.length a.sc, .slice a.dq m.data.length a.dc] 26)) name).below (Joins.below_alloc1 _ _)
    simp only [World.size_alloc] at h
    exact h)
  have HL := hide hL
  obtain ⟨R, HR⟩ : ∃ R, Hid (R = srA m name) := ⟨_, hide rfl⟩
  rw [← unhide HR]
  clear hc hL
  go_enter Try.func16, Try.ntmps16
  go_upto_region 1 with fail
  revert HE HX0
  generalize (((w.alloc _).alloc _).alloc _) = W0
  intro HE HX0
  obtain ⟨c0, c1, c2, c3⟩ := (unhide HE).v.cells
  have hnx : W0.cell? ⟨w.heap.size + 1, 0, none⟩ = some (.string name) := unhide HX0
  go_wp2_with fail
  refine (changeSnaps_any a m name 42 #[.pointer (some ⟨w.heap.size + 1, 0, none⟩)] (rv1 m name) (rvC m name) _ (unhide HL) hz (unhide HE).s (fun _ _ => rfl) (fun him => ⟨rv_fit name (imB_iff.1 him), fun W p B a1 ts1 h1 h2 h3 h4 h5 => ?_⟩)).mono ?_
  · exact revertC_any m name _ W p B a1 ts1 (imB_iff.1 him) ((unhide HX0).below h1) (Nat.lt_of_lt_of_le (unhide HX0).lt h2) h3 h4
  · intro e w2 hans
    rw [rv_ans, ← unhide HR] at hans
    obtain ⟨b, ts, rfl, ho, hb⟩ := hans
    have HP := hide ((unhide HE).put hb ho)
    have HE2 := hide ((unhide HE).below hb)
    clear ho hb c0 c1 c2 c3 hnx
    obtain ⟨r0, r1, r2, r3⟩ := (unhide HE2).r.cells
    obtain ⟨z0, z1, z2, z3⟩ := (unhide HE2).r.free
    go_wp2
    refine bodyPost_ret (res_ic Try.results16 rfl rfl (unhide HP).1) rfl ?_
    exact AnsI.of rfl rfl (unhide HP).2.1 (unhide HP).2.2

end Go.Proofs.Ythnpooffhopnkac

/- Contract of impl.SnapCreate. (Written by gens/snapf.py.) -/
namespace Go.Proofs.Ythnpooffhopnkac
open Go.RowKit
set_option linter.unusedVariables false
set_option maxRecDepth 100000

/-- What SnapCreate answers. -/
def scA (m : Img) (name : ByteArray) : Img × Int := if imB m = true then imCreate m name else (im0, 1)
def crC (m : Img) (name : ByteArray) : Int := (imCreate m name).2
def cr1 (m : Img) (name : ByteArray) : Img := if crC m name = 0 then { m with snaps := m.snaps ++ [⟨name, m.table⟩] } else m
theorem cr_cases (m : Img) (name : ByteArray) : (snmB name = false ∧ imCreate m name = (m, 12)) ∨ (snmB name = true ∧ imFind m name < m.snaps.length ∧ imCreate m name = (m, 8)) ∨ (snmB name = true ∧ ¬ imFind m name < m.snaps.length ∧ m.snaps.length = 3 ∧ imCreate m name = (m, 6)) ∨ (snmB name = true ∧ ¬ imFind m name < m.snaps.length ∧ ¬ m.snaps.length = 3 ∧ imCreate m name = ({ imRaise m m.table with snaps := m.snaps ++ [⟨name, m.table⟩] }, 0)) := by
  cases hn : snmB name
  · exact .inl ⟨rfl, create_name hn⟩
  · by_cases hf : imFind m name < m.snaps.length
    · exact .inr (.inl ⟨rfl, hf, create_twice hn hf⟩)
    · by_cases h3 : m.snaps.length = 3
      · exact .inr (.inr (.inl ⟨rfl, hf, h3, create_many hn hf h3⟩))
      · exact .inr (.inr (.inr ⟨rfl, hf, h3, create_done hn hf h3⟩))
theorem cr_fit {m : Img} (name : ByteArray) (hz : name.size ≤ 65536) (h : ImR m) : FitR (cr1 m name) := by
  unfold cr1 crC
  rcases cr_cases m name with ⟨_, e⟩ | ⟨_, _, e⟩ | ⟨_, _, _, e⟩ | ⟨_, _, h3, e⟩
  · rw [e, if_neg (by simp)]; exact h.fitR
  · rw [e, if_neg (by simp)]; exact h.fitR
  · rw [e, if_neg (by simp)]; exact h.fitR
  · rw [e, if_pos rfl]
    have hf := h.fitR
    have hfw := h.few
    refine ⟨hf.r, hf.d, by simp only [List.length_append, List.length_singleton]; omega, fun t ht => ?_, fun s hs => ?_⟩
    · have ht' : t ∈ m.table :: List.map (fun s : Snp => s.table) (m.snaps ++ [⟨name, m.table⟩]) := ht
      simp only [List.map_append, List.mem_cons, List.mem_append, List.map_cons, List.map_nil, List.not_mem_nil, or_false] at ht'
      rcases ht' with rfl | ht' | rfl
      · exact h.table
      · exact h.tabs t (by unfold imTabs; exact List.mem_cons_of_mem _ ht')
      · exact h.table
    · have hs' : s ∈ m.snaps ++ [⟨name, m.table⟩] := hs
      rw [List.mem_append, List.mem_singleton] at hs'
      rcases hs' with hs' | rfl
      · exact hf.z s hs'
      · exact ⟨by unfold maxLen; simp only; omega, h.M.L.t⟩
theorem cr_ans {m : Img} (name : ByteArray) : (if imB m = true then (imFit (cr1 m name), crC m name) else (im0, 1)) = scA m name := by
  refine ans_eq (fun h => ?_) (fun h => by rw [scA, h]; rfl)
  have hR := imB_iff.1 h
  rw [scA, if_pos h]
  refine ⟨?_, rfl⟩
  unfold cr1 crC
  rcases cr_cases m name with ⟨_, e⟩ | ⟨_, _, e⟩ | ⟨_, _, _, e⟩ | ⟨_, _, h3, e⟩
  · rw [e, if_neg (by simp)]; exact fit_self hR
  · rw [e, if_neg (by simp)]; exact fit_self hR
  · rw [e, if_neg (by simp)]; exact fit_self hR
  · rw [e, if_pos rfl]; exact fit_create hR name

theorem Hld.addS {W w3 w4 : World} {p B g2 cap2 : Nat} {a : Im4} {m : Img} {ts : List Value} {name : ByteArray} {t : Value} {tbl : List Int} (h : Hld W p B a m ts) (hB : B ≤ W.heap.size) (hb : Below W.heap.size W w3) (ht : OwnN w3 W.heap.size t tbl)
    (ho : w4.ownsRow B 63 2 (.slice (some ⟨g2, 0, none⟩) (m.snaps.length + 1) cap2) (m.snaps.length + 1) (snC m.snaps ts ++ [.string name, t])) (hk : Keep (Own (.slice a.so m.snaps.length a.sc)) w3 w4) :
    Hld (w4.setCell ⟨p, 2, none⟩ (.slice (some ⟨g2, 0, none⟩) (m.snaps.length + 1) cap2)) p B { a with so := some ⟨g2, 0, none⟩, sc := cap2 } { m with snaps := m.snaps ++ [⟨name, tbl⟩] } (ts ++ [t]) ∧ Below B W (w4.setCell ⟨p, 2, none⟩ (.slice (some ⟨g2, 0, none⟩) (m.snaps.length + 1) cap2)) := by
  have h3 := h.below hb
  have hv4 : VarM w4 p 26 (.slice a.ro m.refs.length a.rc) (.slice a.tq m.table.length a.tc) (.slice a.so m.snaps.length a.sc) (.slice a.dq m.data.length a.dc) := (hk.block _ h3.v.lt (h3.o.s.other h3.v (by decide))).trans h3.v
  have ho4 := OwnIm.addS h.o hB hb ht ho hk
  have hk4 : Keep (fun g => g = p) w4 (w4.setCell ⟨p, 2, none⟩ (.slice (some ⟨g2, 0, none⟩) (m.snaps.length + 1) cap2)) := (Keep.refl (fun g => g = p) w4).setCell (p := ⟨p, 2, none⟩) rfl _
  refine ⟨⟨?_, ho4.keep hk4 (fun g hg e => ho4.other (v0 := .slice a.ro m.refs.length a.rc) (v1 := .slice a.tq m.table.length a.tc) (v2 := .slice a.so m.snaps.length a.sc) (v3 := .slice a.dq m.data.length a.dc) hv4 (e ▸ hg)), h.p⟩, ?_⟩
  · simp only [List.length_append, List.length_singleton]
    exact hv4.set2 _
  · have hb4 : Below B W w4 := (hb.mono hB).trans (hk.below (Nat.le_trans hB hb.size) (fun g hg => (h3.o.s.ge g hg).1))
    exact hb4.setCell (p := ⟨p, 2, none⟩) h.p _

set_option maxHeartbeats 3200000 in
theorem createC_any (m : Img) (name : ByteArray) (x : Nat) (W : World) (p B : Nat) (a : Im4) (ts : List Value) (hz : name.size ≤ 65536) (hR : ImR m) (hx : VarT1 W x name) (hxB : x < B) (hB : B ≤ W.heap.size) (hh : Hld W p B a m ts) (hc0 : m.snaps.length = 0 → a.sc = 0) :
    Calls Try.prog 36 #[.pointer (some ⟨p, 0, none⟩), .pointer (some ⟨x, 0, none⟩)] W fun e W' => Chg W W' p B e (crC m name) (cr1 m name) := by
  have HH := hide hh
  have HX := hide hx
  have HC := hide (cr_cases m name)
  have HM := hide hR.M
  have HCR : Hid (crC m name = (imCreate m name).2 ∧ cr1 m name = if (imCreate m name).2 = 0 then { m with snaps := m.snaps ++ [⟨name, m.table⟩] } else m) := hide ⟨rfl, rfl⟩
  have HZ : Hid (name.size ≤ maxLen) := hide (by unfold maxLen; omega)
  have HC0 := hide hc0
  clear hc0
  clear hh hR hz
  obtain ⟨j0, hj0, hy0, hy1, hy2⟩ := info_parts infoSn
  have hx' : W.cell? ⟨x, 0, none⟩ = some (.string name) := hx
  clear hx
  go_enter Try.func36, Try.ntmps36
  go_wp2_with fail
  refine (snapNameOK_any name _ (unhide HZ)).mono ?_
  rintro e w1 ⟨rfl, hb⟩
  have HB1 := hide hb
  clear hb hx'
  rcases unhide HC with ⟨hn, e⟩ | ⟨hn, hf, e⟩ | ⟨hn, hf, h3, e⟩ | ⟨hn, hf, h3, e⟩
  · have HE : Hid (crC m name = 12 ∧ cr1 m name = m) := hide (by rw [(unhide HCR).1, (unhide HCR).2, e]; exact ⟨rfl, if_neg (by simp)⟩)
    rw [hn]
    clear e hn
    go_wp2
    go_ret
    rw [(unhide HE).1, (unhide HE).2]
    exact Chg.same 12 (unhide HH) hB (unhide HB1)
  · have HF := hide hf
    have HEE := hide e
    clear hf e
    rw [hn]
    have hS0 : VarM w1.drew p 26 (.slice a.ro m.refs.length a.rc) (.slice a.tq m.table.length a.tc) (.slice a.so m.snaps.length a.sc) (.slice a.dq m.data.length a.dc) ∧ VarT1 w1.drew x name := ⟨((unhide HH).v.below (unhide HB1)).below (Below.refl _ _).drew, ((unhide HX).below (unhide HB1)).below (Below.refl _ _).drew⟩
    have HSN : Hid (Sns w1.drew a.so m.snaps) := hide ((((unhide HH).o.shows (unhide HM).zs).s.below (unhide HB1)).below (Below.refl _ _).drew)
    have HSL := hide (unhide HM).s
    go_upto_region 3 with fail
    refine wp_region_ord (fun w' => VarM w' p 26 (.slice a.ro m.refs.length a.rc) (.slice a.tq m.table.length a.tc) (.slice a.so m.snaps.length a.sc) (.slice a.dq m.data.length a.dc) ∧ VarT1 w' x name) [0, 1, 2, 3, 4] [(0, 0), (1, 0), (2, 0), (3, 0), (4, 0), (5, 3), (6, 4), (7, 4)] (by kernel_rfl) (by kernel_rfl) rfl (by kernel_rfl) ?_
    refine ord_read (.pointer (some ⟨p, 0, none⟩)) rfl rfl hS0 (fun W hW => by go_simp) ?_
    refine ord_read (.pointer (some ⟨p, 0, none⟩)) rfl rfl hS0 (fun W hW => by go_simp) ?_
    refine ord_read (.pointer (some ⟨p, 2, none⟩)) rfl rfl hS0 (fun W hW => by go_simp) ?_
    refine ord_read (.slice a.so m.snaps.length a.sc) rfl rfl hS0 (fun W hW => by obtain ⟨k0, k1, k2, k3⟩ := hW.1.cells; go_simp) ?_
    refine ord_read (.string name) rfl rfl hS0 (fun W hW => by have k0 : W.cell? ⟨x, 0, none⟩ = some (.string name) := hW.2; go_simp) ?_
    clear hS0
    refine ord_alone rfl rfl ?_
    intro K hK
    unfold Oper.wp
    go_simp
    refine (findSnap_any a.so a.sc m.snaps name _ (by have := unhide HSL; unfold maxLen; omega) (unhide HSN)).mono ?_
    rintro e w2 ⟨rfl, hb⟩
    have HB2 := hide (fr (unhide HB1).drew hb)
    clear hb
    refine hK _ _ ?_
    clear hK K
    rw [show fdL m.snaps name = (imFind m name : Int) from if_pos (unhide HF)]
    have e := unhide HEE
    have HE : Hid (crC m name = 8 ∧ cr1 m name = m) := hide (by rw [(unhide HCR).1, (unhide HCR).2, e]; exact ⟨rfl, if_neg (by simp)⟩)
    generalize imFind m name = q at *
    refine ord_val (.bool true) rfl rfl (fun W => by go_simp) ?_
    refine ord_val (.bool true) rfl rfl (fun W => by go_simp) ?_
    refine ord_done ?_
    go_wp2
    go_ret
    rw [(unhide HE).1, (unhide HE).2]
    exact Chg.same 8 (unhide HH) hB (unhide HB2)
  · have HF := hide hf
    have HEE := hide e
    have H3 := hide h3
    clear hf e h3
    rw [hn]
    have hS0 : VarM w1.drew p 26 (.slice a.ro m.refs.length a.rc) (.slice a.tq m.table.length a.tc) (.slice a.so m.snaps.length a.sc) (.slice a.dq m.data.length a.dc) ∧ VarT1 w1.drew x name := ⟨((unhide HH).v.below (unhide HB1)).below (Below.refl _ _).drew, ((unhide HX).below (unhide HB1)).below (Below.refl _ _).drew⟩
    have HSN : Hid (Sns w1.drew a.so m.snaps) := hide ((((unhide HH).o.shows (unhide HM).zs).s.below (unhide HB1)).below (Below.refl _ _).drew)
    have HSL := hide (unhide HM).s
    go_upto_region 3 with fail
    refine wp_region_ord (fun w' => VarM w' p 26 (.slice a.ro m.refs.length a.rc) (.slice a.tq m.table.length a.tc) (.slice a.so m.snaps.length a.sc) (.slice a.dq m.data.length a.dc) ∧ VarT1 w' x name) [0, 1, 2, 3, 4] [(0, 0), (1, 0), (2, 0), (3, 0), (4, 0), (5, 3), (6, 4), (7, 4)] (by kernel_rfl) (by kernel_rfl) rfl (by kernel_rfl) ?_
    refine ord_read (.pointer (some ⟨p, 0, none⟩)) rfl rfl hS0 (fun W hW => by go_simp) ?_
    refine ord_read (.pointer (some ⟨p, 0, none⟩)) rfl rfl hS0 (fun W hW => by go_simp) ?_
    refine ord_read (.pointer (some ⟨p, 2, none⟩)) rfl rfl hS0 (fun W hW => by go_simp) ?_
    refine ord_read (.slice a.so m.snaps.length a.sc) rfl rfl hS0 (fun W hW => by obtain ⟨k0, k1, k2, k3⟩ := hW.1.cells; go_simp) ?_
    refine ord_read (.string name) rfl rfl hS0 (fun W hW => by have k0 : W.cell? ⟨x, 0, none⟩ = some (.string name) := hW.2; go_simp) ?_
    clear hS0
    refine ord_alone rfl rfl ?_
    intro K hK
    unfold Oper.wp
    go_simp
    refine (findSnap_any a.so a.sc m.snaps name _ (by have := unhide HSL; unfold maxLen; omega) (unhide HSN)).mono ?_
    rintro e w2 ⟨rfl, hb⟩
    have HB2 := hide (fr (unhide HB1).drew hb)
    clear hb
    refine hK _ _ ?_
    clear hK K
    rw [show fdL m.snaps name = -1 from if_neg (unhide HF)]
    have e := unhide HEE
    have h3 := unhide H3
    have HE : Hid (crC m name = 6 ∧ cr1 m name = m) := hide (by rw [(unhide HCR).1, (unhide HCR).2, e]; exact ⟨rfl, if_neg (by simp)⟩)
    have b3 : ((m.snaps.length : Int) == 3) = true := by rw [h3]; rfl
    clear h3 e
    refine ord_val (.bool false) rfl rfl (fun W => by go_simp) ?_
    refine ord_val (.bool false) rfl rfl (fun W => by go_simp) ?_
    refine ord_done ?_
    obtain ⟨c0, c1, c2, c3⟩ := ((unhide HH).v.below (unhide HB2)).cells
    go_wp2
    go_ret
    rw [(unhide HE).1, (unhide HE).2]
    exact Chg.same 6 (unhide HH) hB (unhide HB2)
  · have HF := hide hf
    have HEE := hide e
    have H3 := hide h3
    clear hf e h3
    rw [hn]
    have hS0 : VarM w1.drew p 26 (.slice a.ro m.refs.length a.rc) (.slice a.tq m.table.length a.tc) (.slice a.so m.snaps.length a.sc) (.slice a.dq m.data.length a.dc) ∧ VarT1 w1.drew x name := ⟨((unhide HH).v.below (unhide HB1)).below (Below.refl _ _).drew, ((unhide HX).below (unhide HB1)).below (Below.refl _ _).drew⟩
    have HSN : Hid (Sns w1.drew a.so m.snaps) := hide ((((unhide HH).o.shows (unhide HM).zs).s.below (unhide HB1)).below (Below.refl _ _).drew)
    have HSL := hide (unhide HM).s
    go_upto_region 3 with fail
    refine wp_region_ord (fun w' => VarM w' p 26 (.slice a.ro m.refs.length a.rc) (.slice a.tq m.table.length a.tc) (.slice a.so m.snaps.length a.sc) (.slice a.dq m.data.length a.dc) ∧ VarT1 w' x name) [0, 1, 2, 3, 4] [(0, 0), (1, 0), (2, 0), (3, 0), (4, 0), (5, 3), (6, 4), (7, 4)] (by kernel_rfl) (by kernel_rfl) rfl (by kernel_rfl) ?_
    refine ord_read (.pointer (some ⟨p, 0, none⟩)) rfl rfl hS0 (fun W hW => by go_simp) ?_
    refine ord_read (.pointer (some ⟨p, 0, none⟩)) rfl rfl hS0 (fun W hW => by go_simp) ?_
    refine ord_read (.pointer (some ⟨p, 2, none⟩)) rfl rfl hS0 (fun W hW => by go_simp) ?_
    refine ord_read (.slice a.so m.snaps.length a.sc) rfl rfl hS0 (fun W hW => by obtain ⟨k0, k1, k2, k3⟩ := hW.1.cells; go_simp) ?_
    refine ord_read (.string name) rfl rfl hS0 (fun W hW => by have k0 : W.cell? ⟨x, 0, none⟩ = some (.string name) := hW.2; go_simp) ?_
    clear hS0
    refine ord_alone rfl rfl ?_
    intro K hK
    unfold Oper.wp
    go_simp
    refine (findSnap_any a.so a.sc m.snaps name _ (by have := unhide HSL; unfold maxLen; omega) (unhide HSN)).mono ?_
    rintro e w2 ⟨rfl, hb⟩
    have HB2 := hide (fr (unhide HB1).drew hb)
    clear hb
    refine hK _ _ ?_
    clear hK K
    rw [show fdL m.snaps name = -1 from if_neg (unhide HF)]
    have e := unhide HEE
    have h3 := unhide H3
    have HE : Hid (crC m name = 0 ∧ cr1 m name = { m with snaps := m.snaps ++ [⟨name, m.table⟩] }) := hide (by rw [(unhide HCR).1, (unhide HCR).2, e]; exact ⟨rfl, if_pos rfl⟩)
    have b3 : ((m.snaps.length : Int) == 3) = false := by rw [beq_eq_false_iff_ne]; omega
    clear h3 e
    refine ord_val (.bool false) rfl rfl (fun W => by go_simp) ?_
    refine ord_val (.bool false) rfl rfl (fun W => by go_simp) ?_
    refine ord_done ?_
    obtain ⟨c0, c1, c2, c3⟩ := ((unhide HH).v.below (unhide HB2)).cells
    go_upto_region 7 with fail
    clear c0 c1 c2 c3
    have HB3 : Hid (Below W.heap.size W w2.drew) := hide (unhide HB2).drew
    have hS0 : VarM w2.drew p 26 (.slice a.ro m.refs.length a.rc) (.slice a.tq m.table.length a.tc) (.slice a.so m.snaps.length a.sc) (.slice a.dq m.data.length a.dc) ∧ VarT1 w2.drew x name := ⟨(unhide HH).v.below (unhide HB3), (unhide HX).below (unhide HB3)⟩
    have HTI : Hid (Is w2.drew a.tq m.table) := hide (((unhide HH).o.shows (unhide HM).zs).t.below (unhide HB3))
    have HTL := hide (unhide HM).t
    refine wp_region_ord (fun w' => VarM w' p 26 (.slice a.ro m.refs.length a.rc) (.slice a.tq m.table.length a.tc) (.slice a.so m.snaps.length a.sc) (.slice a.dq m.data.length a.dc) ∧ VarT1 w' x name) [0, 1, 2, 3, 4, 5, 6, 7, 8, 9, 10, 11, 12, 13, 14, 15] [(0, 0), (1, 0), (2, 0), (3, 0), (4, 0), (5, 0), (6, 0), (7, 0), (8, 0), (9, 0), (10, 2), (11, 0), (12, 2), (13, 2), (14, 0), (15, 0), (16, 3)] (by kernel_rfl) (by kernel_rfl) rfl (by kernel_rfl) ?_
    refine ord_read (.pointer (some ⟨p, 0, none⟩)) rfl rfl hS0 (fun W hW => by go_simp) ?_
    refine ord_read (.pointer (some ⟨p, 0, none⟩)) rfl rfl hS0 (fun W hW => by go_simp) ?_
    refine ord_read (.pointer (some ⟨p, 0, none⟩)) rfl rfl hS0 (fun W hW => by go_simp) ?_
    refine ord_read (.pointer (some ⟨p, 2, none⟩)) rfl rfl hS0 (fun W hW => by go_simp) ?_
    refine ord_read (.slice a.so m.snaps.length a.sc) rfl rfl hS0 (fun W hW => by obtain ⟨k0, k1, k2, k3⟩ := hW.1.cells; go_simp) ?_
    refine ord_read (.string name) rfl rfl hS0 (fun W hW => by have k0 : W.cell? ⟨x, 0, none⟩ = some (.string name) := hW.2; go_simp) ?_
    refine ord_read (.pointer (some ⟨p, 0, none⟩)) rfl rfl hS0 (fun W hW => by go_simp) ?_
    refine ord_read (.pointer (some ⟨p, 0, none⟩)) rfl rfl hS0 (fun W hW => by go_simp) ?_
    refine ord_read (.pointer (some ⟨p, 1, none⟩)) rfl rfl hS0 (fun W hW => by go_simp) ?_
    refine ord_read (.slice a.tq m.table.length a.tc) rfl rfl hS0 (fun W hW => by obtain ⟨k0, k1, k2, k3⟩ := hW.1.cells; go_simp) ?_
    clear hS0
    refine ord_held rfl rfl ?_
    intro K hK
    unfold Oper.wp
    go_simp
    refine (copyN_any a.tq a.tc m.table _ (by have := unhide HTL; omega) (unhide HTI)).mono ?_
    rintro e w5 ⟨v, rfl, ho5, hb5⟩
    obtain ⟨vo, vc, rfl, _⟩ := id ho5
    have HB5 := hide (fr (unhide HB3) hb5)
    have hS5 : VarM w5 p 26 (.slice a.ro m.refs.length a.rc) (.slice a.tq m.table.length a.tc) (.slice a.so m.snaps.length a.sc) (.slice a.dq m.data.length a.dc) ∧ VarT1 w5 x name := ⟨(unhide HH).v.below (unhide HB5), (unhide HX).below (unhide HB5)⟩
    have HOT : Hid (OwnN w5 W.heap.size (.slice vo m.table.length vc) m.table) := hide (ho5.base (unhide HB3).size)
    refine hK _ _ hS5 ?_
    clear hK K ho5 hb5
    refine ord_read (.agg #[.string name, .slice vo m.table.length vc]) rfl rfl hS5 (fun W hW => by go_simp) ?_
    refine ord_held rfl rfl ?_
    intro K hK
    unfold Oper.wp
    go_simp
    have hb7 : Below W.heap.size W (w5.alloc (.cells #[.string name, .slice vo m.table.length vc] 63)) := fr (unhide HB5) (Joins.below_alloc1 _ _)
    refine hK _ _ ⟨(unhide HH).v.below hb7, (unhide HX).below hb7⟩ ?_
    clear hK K hS5
    have HOT7 := hide ((unhide HOT).below (Joins.below_alloc1 w5 (.cells #[.string name, .slice vo m.table.length vc] 63)))
    have hnew : (w5.alloc (.cells #[.string name, .slice vo m.table.length vc] 63)).heap[w5.heap.size]? = some (.cells #[.string name, .slice vo m.table.length vc] 63 (0, 0)) := heap_alloc_new _ _
    generalize (w5.alloc (.cells #[.string name, .slice vo m.table.length vc] 63)) = W7 at *
    have HH7 := hide ((unhide HH).below hb7)
    have HX7 := hide ((unhide HX).below hb7)
    refine ord_held rfl rfl ?_
    intro K hK
    refine wp_append_one rfl (.tmp 27) (.tmp 35) 24 rfl B 63 j0 (.agg #[.string ⟨#[]⟩, .slice none 0 0]) 2 40 Try.underlying24 hj0 hy0 hy1 hy2 rfl (by omega) a.so m.snaps.length a.sc (snC m.snaps ts) rfl ((unhide HH7).o.s.toR (unhide HC0)) (Nat.le_trans hB hb7.size) ⟨w5.heap.size, 0, none⟩ 1 [.string name, .slice vo m.table.length vc] rfl rfl (snap_news hnew) (snap_one _ _ _ _) (by have := unhide HSL; unfold maxLen; omega) (by have := unhide HSL; omega) ?_
    intro g2 cap2 w8 ho8 hk8
    have hv8 : VarM w8 p 26 (.slice a.ro m.refs.length a.rc) (.slice a.tq m.table.length a.tc) (.slice a.so m.snaps.length a.sc) (.slice a.dq m.data.length a.dc) := (hk8.block _ (unhide HH7).v.lt ((unhide HH7).o.s.other (unhide HH7).v (by decide))).trans (unhide HH7).v
    have hx8 : VarT1 w8 x name := (keep_cell hk8 (fun hg => by have := ((unhide HH7).o.s.ge _ hg).1; simp only at this; omega) (unhide HX7))
    have HN8 := hide (Hld.addS (unhide HH) hB hb7 (unhide HOT7) ho8 hk8)
    refine hK _ _ ⟨hv8, hx8⟩ ?_
    clear hK K ho8 hk8 hnew
    refine ord_read (.pointer (some ⟨p, 0, none⟩)) rfl rfl ⟨hv8, hx8⟩ (fun W hW => by go_simp) ?_
    refine ord_read (.pointer (some ⟨p, 2, none⟩)) rfl rfl ⟨hv8, hx8⟩ (fun W hW => by go_simp) ?_
    obtain ⟨c0, c1, c2, c3⟩ := hv8.cells
    obtain ⟨z0, z1, z2, z3⟩ := hv8.free
    refine ord_alone rfl rfl ?_
    intro K hK
    unfold Oper.wp
    go_simp
    refine hK _ _ ?_
    clear hK K
    refine ord_done ?_
    clear c0 c1 c2 c3 z0 z1 z2 z3
    go_wp2
    go_ret
    rw [(unhide HE).1, (unhide HE).2]
    exact ⟨rfl, _, _, (unhide HN8).1, (unhide HN8).2⟩

set_option maxHeartbeats 1600000 in
theorem snapCreate_impl (a : Im4) (m : Img) (name : ByteArray) (w : World) (hz : name.size ≤ 65536) (hL : ImL m) (hc : ImS w a m) :
    Calls Try.prog 14 #[imV a m, .string name] w fun e w' => AnsI w w' e (scA m name) := by
  have hmf : ∀ (fn : Fn) (first cap : Array Value) (w : World), (Instr.makeFunc fn first cap).run Try.prog w = .ok (.func fn first cap) w := fun _ _ _ _ => rfl
  have HE : Hid (FcE w (((w.alloc (.cells #[.slice a.ro m.refs.length a.rc, .slice a.tq m.table.length a.tc, .slice a.so m.snaps.length a.sc, .slice a.dq m.data.length a.dc] 26)).alloc (.cells #[.string name] 9)).alloc (.cells #[.slice none 0 0, .slice none 0 0, .slice none 0 0, .slice none 0 0] 26)) (w.heap.size + 1 + 1) a m) := hide (by
    refine ⟨?_, ?_, hc.below (fr (fr (Joins.below_alloc1 w _) (Joins.below_alloc1 _ _)) (Joins.below_alloc1 _ _)), fr (fr (Joins.below_alloc1 w _) (Joins.below_alloc1 _ _)) (Joins.below_alloc1 _ _), by omega, by simp⟩
    · exact ((VarM.new w 26 (.slice a.ro m.refs.length a.rc) (.slice a.tq m.table.length a.tc) (.slice a.so m.snaps.length a.sc) (.slice a.dq m.data.length a.dc)).below (Joins.below_alloc1 _ _)).below (Joins.below_alloc1 _ _)
    · have h := VarM.new ((w.alloc (.cells #[.slice a.ro m.refs.length a.rc, .slice a.tq m.table.length a.tc, .slice a.so m.snaps.length a.sc, .slice a.dq m.data.length a.dc] 26)).alloc (.cells #[.string name] 9)) 26 (.slice none 0 0) (.slice none 0 0) (.slice none 0 0) (.slice none 0 0)
      simp only [World.size_alloc] at h
      exact h)
  have HX0 : Hid (VarT1 (((w.alloc (.cells #[.slice a.ro m.refs.length a.rc, .slice a.tq m.table.length a.tc, .slice a.so m.snaps.length a.sc, .slice a.dq m.data.length a.dc] 26)).alloc (.cells #[.string name] 9)).alloc (.cells #[.slice none 0 0, .slice none 0 0, .slice none 0 0, .slice none 0 0] 26)) (w.heap.size + 1) name) := hide (by
    have h : VarT1 (((w.alloc (.cells #[.slice a.ro m.refs.length a.rc, .slice a.tq m.table.length a.tc, .slice a.so m.snaps.length a.sc, .slice a.dq m.data.length a.dc] 26)).alloc (.cells #[.string name] 9)).alloc (.cells #[.slice none 0 0, .slice none 0 0, .slice none 0 0, .slice none 0 0] 26)) (w.alloc (.cells #[.slice a.ro m.refs.length a.rc, .slice a.tq m.table.length a.tc, .slice a.so m.snaps.length a.sc, .slice a.dq m.data.length a.dc] 26)).heap.size name := (VarT1.new (w.alloc (.cells #[.slice a.ro m.refs.length a.rc, .slice a.tq m.table.length a.tc, .slice a.so m.snaps.length a.sc, .slice a.dq m.data.length a.dc] 26)) name).below (Joins.below_alloc1 _ _)
    simp only [World.size_alloc] at h
    exact h)
  have HL := hide hL
  obtain ⟨R, HR⟩ : ∃ R, Hid (R = scA m name) := ⟨_, hide rfl⟩
  rw [← unhide HR]
  clear hc hL
  go_enter Try.func14, Try.ntmps14
  go_upto_region 1 with fail
  revert HE HX0
  generalize (((w.alloc _).alloc _).alloc _) = W0
  intro HE HX0
  obtain ⟨c0, c1, c2, c3⟩ := (unhide HE).v.cells
  have hnx : W0.cell? ⟨w.heap.size + 1, 0, none⟩ = some (.string name) := unhide HX0
  go_wp2_with fail
  refine (changeSnaps_any a m name 36 #[.pointer (some ⟨w.heap.size + 1, 0, none⟩)] (cr1 m name) (crC m name) _ (unhide HL) hz (unhide HE).s (fun _ _ => rfl) (fun him => ⟨cr_fit name hz (imB_iff.1 him), fun W p B a1 ts1 h1 h2 h3 h4 h5 => ?_⟩)).mono ?_
  · exact createC_any m name _ W p B a1 ts1 hz (imB_iff.1 him) ((unhide HX0).below h1) (Nat.lt_of_lt_of_le (unhide HX0).lt h2) h3 h4 h5
  · intro e w2 hans
    rw [cr_ans, ← unhide HR] at hans
    obtain ⟨b, ts, rfl, ho, hb⟩ := hans
    have HP := hide ((unhide HE).put hb ho)
    have HE2 := hide ((unhide HE).below hb)
    clear ho hb c0 c1 c2 c3 hnx
    obtain ⟨r0, r1, r2, r3⟩ := (unhide HE2).r.cells
    obtain ⟨z0, z1, z2, z3⟩ := (unhide HE2).r.free
    go_wp2
    refine bodyPost_ret (res_ic Try.results14 rfl rfl (unhide HP).1) rfl ?_
    exact AnsI.of rfl rfl (unhide HP).2.1 (unhide HP).2.2

end Go.Proofs.Ythnpooffhopnkac

/- Plain: a snapshot that is kept while its image is written (what FnSnap asks). -/
namespace Go.Proofs.Ythnpooffhopnkac
open Go.RowKit
set_option linter.unusedVariables false
set_option maxRecDepth 100000

theorem gsEq_self (g : Gst) : gsEq g g = true := by
  have h : ∀ ss : List Snp, eqShB ss ss = true := fun ss => (eqShB_iff ss ss).2 ⟨rfl, fun j h h' => by simp [eqS1, eqNB_self]⟩
  rw [gsEq, eqNB_self, h]; rfl
/-- Where a name stands among shots. -/
def gsFind (g : Gst) (t : ByteArray) : Nat := g.shots.findIdx (fun s => decide (s.name = t))
theorem find_gs (m : Img) (t : ByteArray) : imFind m t = gsFind (gsOf m) t := by
  unfold imFind gsFind gsOf
  simp only
  rw [List.findIdx_map]
  rfl
theorem gs_names (m : Img) : (gsOf m).shots.map (·.name) = nmL m := by simp [gsOf, nmL, List.map_map, Function.comp_def]
theorem gs_shot_at {m : Img} {k : Nat} (hk : k < m.snaps.length) : (gsOf m).shots[k]'(by rw [gsOf_slen]; exact hk) = ⟨m.snaps[k].name, shT m m.snaps[k].table⟩ := by simp [gsOf]
/-- An image that has the snapshot beside those of M. -/
structure SnJ (M Y : Img) : Prop where
  r : ImR Y
  s : (gsOf Y).shots = (gsOf M).shots ++ [⟨kept, (gsOf M).vals⟩]
theorem kept_ok : snmB kept = true := by decide
theorem gs_no {M : Img} (h : ImK M) : ∀ s ∈ (gsOf M).shots, s.name ≠ kept := fun s hs => by
  simp only [gsOf, List.mem_map] at hs
  obtain ⟨z, hz, rfl⟩ := hs
  exact h.k z hz
theorem find_kept {M Y : Img} (h : ImK M) (hJ : SnJ M Y) : imFind Y kept = M.snaps.length ∧ Y.snaps.length = M.snaps.length + 1 := by
  have hl : Y.snaps.length = M.snaps.length + 1 := by rw [← gsOf_slen Y, hJ.s]; simp [gsOf_slen]
  refine ⟨?_, hl⟩
  rw [find_gs, gsFind, hJ.s, List.findIdx_append]
  have hno : (gsOf M).shots.findIdx (fun s => decide (s.name = kept)) = (gsOf M).shots.length := by
    rw [List.findIdx_eq_length]
    exact fun s hs => decide_eq_false (gs_no h s hs)
  rw [hno, if_neg (by omega)]
  simp [List.findIdx_cons, gsOf_slen]
theorem snap_create {M : Img} (h : ImK M) : (scA M kept = (M, 6) ∧ M.snaps.length = 3) ∨ ∃ X, scA M kept = (X, 0) ∧ SnJ M X := by
  have hnf : ¬ imFind M kept < M.snaps.length := fun hf => h.k _ (List.getElem_mem hf) (find_lt hf)
  have e : scA M kept = imCreate M kept := by unfold scA; rw [if_pos (imB_iff.2 h.r)]
  rw [e]
  by_cases h3 : M.snaps.length = 3
  · exact .inl ⟨create_many kept_ok hnf h3, h3⟩
  · refine .inr ⟨_, create_done kept_ok hnf h3, ?_, ?_⟩
    · have := h.r.create kept
      rw [create_done kept_ok hnf h3] at this
      exact this
    · rw [cow_create h.r kept]
theorem SnJ.write {M Y : Img} (h : SnJ M Y) (q : Nat) {v : Int} (hv : numB v = true) : ∃ X C, wcA Y (q : Int) v = (X, C) ∧ SnJ M X := by
  obtain ⟨X, C, e, hr, hc⟩ := write_told h.r q hv
  refine ⟨X, C, e, hr, ?_⟩
  rcases hc with ⟨_, _, hg⟩ | ⟨rfl, _⟩
  · rw [hg]; exact h.s
  · exact h.s
theorem SnJ.resize {M Y : Img} (h : SnJ M Y) {q : Nat} (hq : q ≤ 12) : SnJ M (imResize Y q) := ⟨h.r.resize hq, by rw [cow_resize h.r hq]; exact h.s⟩
theorem SnJ.revert {M Y : Img} (hk : ImK M) (h : SnJ M Y) : ∃ Z, srA Y kept = (Z, 0) ∧ SnJ M Z ∧ (gsOf Z).vals = (gsOf M).vals := by
  obtain ⟨hf, hl⟩ := find_kept hk h
  have hlt : imFind Y kept < Y.snaps.length := by omega
  have e : srA Y kept = imRevert Y kept := by unfold srA; rw [if_pos (imB_iff.2 h.r)]
  have et : (Y.snaps[imFind Y kept]?).elim [] (·.table) = Y.snaps[imFind Y kept].table := by rw [List.getElem?_eq_getElem hlt]; rfl
  have hr := h.r.revert kept
  have ez : imRevert Y kept = ({ imDrops (imRaise Y Y.snaps[imFind Y kept].table) Y.table with table := Y.snaps[imFind Y kept].table }, 0) := by
    unfold imRevert
    rw [if_pos hlt, et]
  rw [ez] at hr
  have hg := cow_revert h.r hlt
  refine ⟨_, e.trans ez, ⟨hr, by rw [hg]; exact h.s⟩, ?_⟩
  rw [hg]
  show shT Y Y.snaps[imFind Y kept].table = _
  have h1 := gs_shot_at hlt
  have h2 : (gsOf Y).shots[imFind Y kept]'(by rw [gsOf_slen]; exact hlt) = ⟨kept, (gsOf M).vals⟩ := by
    simp only [h.s]
    rw [List.getElem_append_right (by rw [gsOf_slen]; omega)]
    simp
  rw [h1] at h2
  exact congrArg Snp.table h2
theorem SnJ.delete {M Z : Img} (hk : ImK M) (h : SnJ M Z) (hv : (gsOf Z).vals = (gsOf M).vals) : ∃ D, sdA Z kept = (D, 0) ∧ ImR D ∧ gsOf D = gsOf M := by
  obtain ⟨hf, hl⟩ := find_kept hk h
  have hlt : imFind Z kept < Z.snaps.length := by omega
  have e : sdA Z kept = imDelete Z kept := by unfold sdA; rw [if_pos (imB_iff.2 h.r)]
  have et : (Z.snaps[imFind Z kept]?).elim [] (·.table) = Z.snaps[imFind Z kept].table := by rw [List.getElem?_eq_getElem hlt]; rfl
  have hr := h.r.delete kept
  have ez : imDelete Z kept = ({ imDrops Z Z.snaps[imFind Z kept].table with snaps := Z.snaps.eraseIdx (imFind Z kept) }, 0) := by
    unfold imDelete
    rw [if_pos hlt, et]
  rw [ez] at hr
  refine ⟨_, e.trans ez, hr, ?_⟩
  rw [cow_delete h.r hlt, hv, h.s, hf]
  have : ((gsOf M).shots ++ [(⟨kept, (gsOf M).vals⟩ : Snp)]).eraseIdx M.snaps.length = (gsOf M).shots := by
    rw [List.eraseIdx_append_of_length_le (by rw [gsOf_slen]; omega), gsOf_slen]
    simp
  rw [this]
theorem SnJ.names {M Z : Img} (h : SnJ M Z) : snA Z = (nmL M ++ [kept], 0) := by
  unfold snA
  rw [if_pos (imB_iff.2 h.r), ← gs_names, h.s, List.map_append, gs_names]; rfl

end Go.Proofs.Ythnpooffhopnkac
