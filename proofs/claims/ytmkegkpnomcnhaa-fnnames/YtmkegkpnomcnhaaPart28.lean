import Derived.Test.YtmkegkpnomcnhaaRows
import Derived.Test.YtmkegkpnomcnhaaPart12
import Derived.Test.YtmkegkpnomcnhaaPart21
import Derived.Test.YtmkegkpnomcnhaaPart15
import Derived.Test.YtmkegkpnomcnhaaPart16
import Derived.Test.YtmkegkpnomcnhaaPart18
import Derived.Test.YtmkegkpnomcnhaaPart19
import Derived.Test.YtmkegkpnomcnhaaPart20
import Derived.Test.YtmkegkpnomcnhaaPart23
import Derived.Test.YtmkegkpnomcnhaaPart27
import Derived.WalkKit
import Derived.WalkSpells
import Derived.KernelRfl
import Derived.Test.YtmkegkpnomcnhaaPart22
import Derived.Laws.OwnMore
import Derived.Laws.IdiomCopy
import Derived.Test.YtmkegkpnomcnhaaPart1
import Derived.Test.YtmkegkpnomcnhaaPart6
import Derived.LoopN

/- Contract of impl.SnapRevert. (Written by gens/snapf.py.) -/
namespace Go.Proofs.Ytmkegkpnomcnhaa
open Go.RowKit
set_option linter.unusedVariables false
set_option maxRecDepth 100000

/-- What SnapRevert answers. -/
def srA (m : Img) (name : ByteArray) : Img × Int := if imB m = true then imRevert m name else (im0, 1)
def rvC (m : Img) (name : ByteArray) : Int := if imFind m name < m.snaps.length then 0 else 5
def rv1 (m : Img) (name : ByteArray) : Img := if imFind m name < m.snaps.length then { m with table := (m.snaps[imFind m name]?).elim [] (·.table) } else m
theorem rv_fit {m : Img} (name : ByteArray) (h : ImR m) : FitR (rv1 m name) := by
  unfold rv1
  split
  · rename_i hf
    rw [List.getElem?_eq_getElem hf]
    exact h.fitT (d := m.data) (h.snaps _ (List.getElem_mem hf)).2 h.len
  · exact h.fitR
theorem rv_ans {m : Img} (name : ByteArray) : (if imB m = true then (imFit (rv1 m name), rvC m name) else (im0, 1)) = srA m name := by
  refine ans_eq (fun h => ?_) (fun h => by rw [srA, h]; rfl)
  have hR := imB_iff.1 h
  rw [srA, if_pos h]
  unfold rv1 rvC
  by_cases hf : imFind m name < m.snaps.length
  · rw [if_pos hf, if_pos hf, revert_at hf rfl, List.getElem?_eq_getElem hf]
    exact ⟨fit_revert hR hf, rfl⟩
  · rw [if_neg hf, if_neg hf, revert_none hf]
    exact ⟨fit_self hR, rfl⟩

set_option maxHeartbeats 3200000 in
theorem revertC_any (m : Img) (name : ByteArray) (x : Nat) (W : World) (p B : Nat) (a : Im4) (ts : List Value) (hR : ImR m) (hx : VarT1 W x name) (hxB : x < B) (hB : B ≤ W.heap.size) (hh : Hld W p B a m ts) :
    Calls Try.prog 35 #[.pointer (some ⟨p, 0, none⟩), .pointer (some ⟨x, 0, none⟩)] W fun e W' => Chg W W' p B e (rvC m name) (rv1 m name) := by
  have HH := hide hh
  have HX := hide hx
  have HM := hide hR.M
  clear hh hR hx
  go_enter Try.func35, Try.ntmps35
  have hS0 : VarM W.drew p 26 (.slice a.ro m.refs.length a.rc) (.slice a.tq m.table.length a.tc) (.slice a.so m.snaps.length a.sc) (.slice a.dq m.data.length a.dc) ∧ VarT1 W.drew x name := ⟨(unhide HH).v.below (Below.refl _ _).drew, (unhide HX).below (Below.refl _ _).drew⟩
  have HSN : Hid (Sns W a.so m.snaps) := hide ((unhide HH).o.shows (unhide HM).zs).s
  have HSL := hide (unhide HM).s
  go_upto_region 1 with fail
  refine wp_region_ord (fun w' => VarM w' p 26 (.slice a.ro m.refs.length a.rc) (.slice a.tq m.table.length a.tc) (.slice a.so m.snaps.length a.sc) (.slice a.dq m.data.length a.dc) ∧ VarT1 w' x name) [0, 1, 2, 3, 4] [(0, 0), (1, 0), (2, 0), (3, 0), (4, 0), (5, 3), (6, 4)] (by kernel_rfl) (by kernel_rfl) rfl (by kernel_rfl) ?_
  refine ord_read (.pointer (some ⟨p, 0, none⟩)) rfl rfl hS0 (fun W hW => by go_simp) ?_
  refine ord_read (.pointer (some ⟨p, 0, none⟩)) rfl rfl hS0 (fun W hW => by go_simp) ?_
  refine ord_read (.pointer (some ⟨p, 2, none⟩)) rfl rfl hS0 (fun W hW => by go_simp) ?_
  refine ord_read (.slice a.so m.snaps.length a.sc) rfl rfl hS0 (fun W hW => by obtain ⟨k0, k1, k2, k3⟩ := hW.1.cells; go_simp) ?_
  refine ord_read (.string name) rfl rfl hS0 (fun W hW => by have k0 : W.cell? ⟨x, 0, none⟩ = some (.string name) := hW.2; go_simp) ?_
  clear hS0
  refine ord_alone rfl rfl ?_
  intro K hK
  unfold Oper.wp
  go_simp
  refine (findSnap_any a.so a.sc m.snaps name _ (by have := unhide HSL; unfold maxLen; omega) ((unhide HSN).below (Below.refl _ _).drew)).mono ?_
  rintro e w2 ⟨rfl, hb⟩
  have HB2 : Hid (Below W.heap.size W w2) := hide (fr (Below.refl _ _).drew hb)
  clear hb
  refine hK _ _ ?_
  clear hK K
  refine ord_val (.int .i64 (fdL m.snaps name)) rfl rfl (fun W => by go_simp) ?_
  refine ord_done ?_
  by_cases hf : imFind m name < m.snaps.length
  case neg =>
    have HE : Hid (rvC m name = 5 ∧ rv1 m name = m) := hide ⟨if_neg hf, if_neg hf⟩
    rw [show fdL m.snaps name = -1 from if_neg hf]
    clear hf
    go_wp2
    go_ret
    rw [(unhide HE).1, (unhide HE).2]
    exact Chg.same 5 (unhide HH) hB (unhide HB2)
  have HE0 : Hid (rvC m name = 0 ∧ rv1 m name = { m with table := (m.snaps[imFind m name]?).elim [] (·.table) }) := hide ⟨if_pos hf, if_pos hf⟩
  rw [show fdL m.snaps name = (imFind m name : Int) from if_pos hf]
  obtain ⟨q, hq⟩ : ∃ q, imFind m name = q := ⟨_, rfl⟩
  rw [hq] at HE0 hf ⊢
  have hqi : (q : Int) < (m.snaps.length : Int) := by omega
  have HQL := hide hf
  clear hq hf
  obtain ⟨bs, off, tq, tc, es, _, ht0, hIs, _, _⟩ := ((unhide HSN).below (unhide HB2)) q (unhide HQL)
  obtain ⟨t, ht⟩ : ∃ t, m.snaps[q]'(unhide HQL) = t := ⟨_, rfl⟩
  have HE1 : Hid (rv1 m name = { m with table := t.table }) := hide (by rw [(unhide HE0).2, List.getElem?_eq_getElem (unhide HQL), ht]; rfl)
  have HEC := hide (unhide HE0).1
  have htl : t.table.length ≤ 12 := by rw [← ht]; exact ((unhide HM).st _ (List.getElem_mem (unhide HQL))).1
  rw [ht] at ht0 hIs
  have HIS := hide hIs
  obtain ⟨c0, c1, c2, c3⟩ := ((unhide HH).v.below (unhide HB2)).cells
  rw [es] at c2
  clear hIs ht es HE0
  go_wp2_with fail
  refine (copyN_any tq tc t.table _ (by omega) (unhide HIS)).mono ?_
  rintro e w3 ⟨v, rfl, ho3, hb3⟩
  obtain ⟨vo, vc, rfl, _⟩ := id ho3
  have HS3 := hide ((unhide HH).freshT (fr (unhide HB2) hb3) (ho3.base (unhide HB2).size) hB)
  have hv3 := (unhide HH).v.below (fr (unhide HB2) hb3)
  clear ho3 hb3 c0 c1 c2 c3 ht0
  obtain ⟨c0, c1, c2, c3⟩ := hv3.cells
  obtain ⟨z0, z1, z2, z3⟩ := hv3.free
  go_wp2
  go_ret
  rw [unhide HEC, unhide HE1]
  exact ⟨rfl, _, _, (unhide HS3).1, (unhide HS3).2⟩

set_option maxHeartbeats 1600000 in
theorem snapRevert_impl (a : Im4) (m : Img) (name : ByteArray) (w : World) (hz : name.size ≤ 65536) (hL : ImL m) (hc : ImS w a m) :
    Calls Try.prog 12 #[imV a m, .string name] w fun e w' => AnsI w w' e (srA m name) := by
  have hmf : ∀ (fn : Fn) (first cap : Array Value) (w : World), (Instr.makeFunc fn first cap).run Try.prog w = .ok (.func fn first cap) w := fun _ _ _ _ => rfl
  have HE : Hid (FcE w (((w.alloc (.cells #[.slice a.ro m.refs.length a.rc, .slice a.tq m.table.length a.tc, .slice a.so m.snaps.length a.sc, .slice a.dq m.data.length a.dc] 26)).alloc (.cells #[.string name] 9)).alloc (.cells #[.slice none 0 0, .slice none 0 0, .slice none 0 0, .slice none 0 0] 26)) (w.heap.size + 1 + 1) a m) := hide (by
    refine ⟨?_, ?_, hc.below (fr (fr (Joins.below_alloc1 w _) (Joins.below_alloc1 _ _)) (Joins.below_alloc1 _ _)), fr (fr (Joins.below_alloc1 w _) (Joins.below_alloc1 _ _)) (Joins.below_alloc1 _ _), by omega, by simp⟩
    · exact ((VarM.new w 26 (.slice a.ro m.refs.length a.rc) (.slice a.tq m.table.length a.tc) (.slice a.so m.snaps.length a.sc) (.slice a.dq m.data.length a.dc)).below (Joins.below_alloc1 _ _)).below (Joins.below_alloc1 _ _)
    · have h := VarM.new ((w.alloc (.cells #[.slice a.ro m.refs.length a.rc, .slice a.tq m.table.length a.tc, .slice a.so m.snaps.length a.sc, .slice a.dq m.data.length a.dc] 26)).alloc (.cells #[.string name] 9)) 26 (.slice none 0 0) (.slice none 0 0) (.slice none 0 0) (.slice none 0 0)
      simp only [World.size_alloc] at h
      exact h)
  have HX0 : Hid (VarT1 (((w.alloc (.cells #[.slice a.ro m.refs.length a.rc, .slice a.tq m.table.length a.tc, .slice a.so m.snaps.length a.sc, .slice a.dq m.data.length a.dc] 26)).alloc (.cells #[.string name] 9)).alloc (.cells #[.slice none 0 0, .slice none 0 0, .slice none 0 0, .slice none 0 0] 26)) (w.heap.size + 1) name) := hide (by
    have h : VarT1 (((w.alloc (.cells #[.slice a.ro m.refs.length a.rc, .slice a.tq m.table.length a.tc, .slice a.so m.snaps.length a.sc, .slice a.dq m.data.length a.dc] 26)).alloc (.cells #[.string name] 9)).alloc (.cells #[.slice none 0 0, .slice none 0 0, .slice none 0 0, .slice none 0 0] 26)) (w.alloc (.cells #[.slice a.ro m.refs.length a.rc, .slice a.tq m.table.length a.tc, .slice a.so m.snaps.length a.sc, .slice a.dq m.data.length a.dc] 26)).heap.size name := (VarT1.new (w.alloc (.cells #[.slice a.ro m.refs.length a.rc, .slice a.tq m.table.length a.tc, .slice a.so m.snaps.length a.sc, .slice a.dq m.data.length a.dc] 26)) name).below (Joins.below_alloc1 _ _)
    simp only [World.size_alloc] at h
    exact h)
  have HL := hide hL
  obtain ⟨R, HR⟩ : ∃ R, Hid (R = srA m name) := ⟨_, hide rfl⟩
  rw [← unhide HR]
  clear hc hL
  go_enter Try.func12, Try.ntmps12
  go_upto_region 1 with fail
  revert HE HX0
  generalize (((w.alloc _).alloc _).alloc _) = W0
  intro HE HX0
  obtain ⟨c0, c1, c2, c3⟩ := (unhide HE).v.cells
  have hnx : W0.cell? ⟨w.heap.size + 1, 0, none⟩ = some (.string name) := unhide HX0
  go_wp2_with fail
  refine (changeSnaps_any a m name 35 #[.pointer (some ⟨w.heap.size + 1, 0, none⟩)] (rv1 m name) (rvC m name) _ (unhide HL) hz (unhide HE).s (fun _ _ => rfl) (fun him => ⟨rv_fit name (imB_iff.1 him), fun W p B a1 ts1 h1 h2 h3 h4 h5 => ?_⟩)).mono ?_
  · exact revertC_any m name _ W p B a1 ts1 (imB_iff.1 him) ((unhide HX0).below h1) (Nat.lt_of_lt_of_le (unhide HX0).lt h2) h3 h4
  · intro e w2 hans
    rw [rv_ans, ← unhide HR] at hans
    obtain ⟨b, ts, rfl, ho, hb⟩ := hans
    have HP := hide ((unhide HE).put hb ho)
    have HE2 := hide ((unhide HE).below hb)
    clear ho hb c0 c1 c2 c3 hnx
    obtain ⟨r0, r1, r2, r3⟩ := (unhide HE2).r.cells
    obtain ⟨z0, z1, z2, z3⟩ := (unhide HE2).r.free
    go_wp2
    refine bodyPost_ret (res_ic Try.results12 rfl rfl (unhide HP).1) rfl ?_
    exact AnsI.of rfl rfl (unhide HP).2.1 (unhide HP).2.2

end Go.Proofs.Ytmkegkpnomcnhaa

/- Contract of slices.Delete at snapshots: one of them goes. -/
namespace Go.Proofs.Ytmkegkpnomcnhaa
open Go.RowKit
set_option linter.unusedVariables false
set_option maxRecDepth 100000

theorem ownsRow_pre {w : World} {B e size g n cap q : Nat} {xs : List Value} (h : w.ownsRow B e size (.slice (some ⟨g, 0, none⟩) n cap) n xs) (hq : q ≤ n) : w.ownsRow B e size (.slice (some ⟨g, 0, none⟩) q cap) q (xs.take (q * size)) := by
  have hm : q * size ≤ n * size := Nat.mul_le_mul_right _ hq
  rcases h.2 with ⟨h', _⟩ | ⟨g', cap', cur, h', hb, hg, hnc, hcm, hcs, htake⟩
  · simp at h'
  · simp only [Value.slice.injEq, Option.some.injEq, Addr.mk.injEq, and_true, true_and] at h'
    obtain ⟨rfl, rfl⟩ := h'
    refine ⟨by rw [List.length_take, h.1]; omega, .inr ⟨g, cap, cur, rfl, hb, hg, by omega, hcm, hcs, ?_⟩⟩
    rw [← htake, List.take_take, Nat.min_eq_left hm]
theorem ownsRow_some {w : World} {B e size g n cap : Nat} {xs : List Value} (h : w.ownsRow B e size (.slice (some ⟨g, 0, none⟩) n cap) n xs) {j : Nat} (hj : j < cap * size) : (w.cell? ⟨g, j, none⟩).isSome = true := by
  rcases h.2 with ⟨h', _⟩ | ⟨g', cap', cur, h', hb, hg, hnc, hcm, hcs, htake⟩
  · simp at h'
  · simp only [Value.slice.injEq, Option.some.injEq, Addr.mk.injEq, and_true, true_and] at h'
    obtain ⟨rfl, rfl⟩ := h'
    rw [Joins.cell_of_block hg, Array.getElem?_eq_getElem (by rw [hcs]; exact hj)]; rfl
theorem ownsRow_caps {w : World} {B e size g n cap : Nat} {xs : List Value} (h : w.ownsRow B e size (.slice (some ⟨g, 0, none⟩) n cap) n xs) : n ≤ cap ∧ cap ≤ maxLen ∧ B ≤ g ∧ g < w.heap.size := by
  rcases h.2 with ⟨h', _⟩ | ⟨g', cap', cur, h', hb, hg, hnc, hcm, hcs, htake⟩
  · simp at h'
  · simp only [Value.slice.injEq, Option.some.injEq, Addr.mk.injEq, and_true, true_and] at h'
    obtain ⟨rfl, rfl⟩ := h'
    exact ⟨hnc, hcm, hb, (Array.getElem?_eq_some_iff.1 hg).1⟩
theorem snC_takeD : ∀ (ss : List Snp) (ts : List Value) (q : Nat), ss.length = ts.length → (snC ss ts).take (q * 2) = snC (ss.take q) (ts.take q) := fun ss ts q h => by
  by_cases hq : q ≤ ss.length
  · rw [snC_whole ss ts q h, List.take_append_of_le_length (by rw [snC_length _ _ (by rw [List.length_take, List.length_take, h]), List.length_take]; omega), List.take_of_length_le (by rw [snC_length _ _ (by rw [List.length_take, List.length_take, h]), List.length_take]; omega)]
  · rw [List.take_of_length_le (by rw [snC_length _ _ h]; omega), List.take_of_length_le (by omega), List.take_of_length_le (by omega)]

section
variable {P : Program}
/-- Elements more, in place. -/
theorem wp_append_in {w : World} {o : Oper} {a : Act} {K : Act → World → Prop} {Q : Exit → Act → World → Prop} (hgd : o.guard = none) (s x : Operand) (t : TypeId)
    (ho : o.op = .call { callee := .builtin .append, args := #[s, x], argTypes := #[t, t] })
    (B : Nat) (e : TypeId) (i : TypeInfo) (size : Nat) (ht : P.underlying t = some (.slice e)) (hi : P.info? e = some i) (hsize : i.size = size)
    (g n cap : Nat) (xs : List Value) (hs : a.eval s = .slice (some ⟨g, 0, none⟩) n cap) (h : w.ownsRow B e size (.slice (some ⟨g, 0, none⟩) n cap) n xs)
    (so : Option Addr) (m c : Nat) (news : List Value) (hx : a.eval x = .slice so m c) (hl : news.length = m * size) (hnews : 0 < m → ∃ ad, so = some ad ∧ ∀ j u, news[j]? = some u → w.cell? (ad.add j) = some u) (h1 : ∀ u ∈ news, u.oneCell' = true) (hroom : n + m ≤ cap)
    (hK : ∀ w', w'.ownsRow B e size (.slice (some ⟨g, 0, none⟩) (n + m) cap) (n + m) (xs ++ news) → Keep (fun k => k = g) w w' → K (a.put o.dst (.slice (some ⟨g, 0, none⟩) (n + m) cap)) w') : o.wp P a w K Q := by
  by_cases hm : 0 < m
  · obtain ⟨ad, rfl, hnew⟩ := hnews hm
    obtain ⟨w', hrun, r1, r2⟩ := run_append_fits (P := P) w B t o.type e i size ht hi hsize g n cap xs h ad m c news hl hnew h1 hroom
    unfold Oper.wp
    simp [execOp, ho, resolve, invoke, builtin, hs, hx, hrun, Result.andThen]
    exact hK _ r1 (keep_grown r2 (fun k hk => by cases hk; rfl))
  · obtain rfl : m = 0 := by omega
    have hn : news = [] := List.eq_nil_of_length_eq_zero (by omega)
    subst hn
    have hrun := run_append_zero (P := P) w t o.type e i ht hi (some ⟨g, 0, none⟩) so n cap c (ownsRow_caps h).1
    unfold Oper.wp
    simp [execOp, ho, resolve, invoke, builtin, hs, hx, hrun, Result.andThen]
    exact hK _ (by simpa using h) (Keep.refl _ _)
end
theorem zeroSn (w : World) : (zeroValue 50).run Try.prog w = .ok (.agg #[.string ⟨#[]⟩, .slice none 0 0]) w := by kernel_rfl
theorem run_clear_sn (w : World) (g o c : Nat) (ty : TypeId) (hc : ∀ j, j < 2 → (w.cell? ⟨g, o + j, none⟩).isSome = true) (hf : ∀ j, j < 2 → w.frozen? ⟨g, o + j, none⟩ = false) :
    (Builtin.clear_ #[24] ty #[.slice (some ⟨g, o, none⟩) 1 c]).run Try.prog w = .ok (.tuple #[]) ((w.setCell ⟨g, o, none⟩ (.string ⟨#[]⟩)).setCell ⟨g, o + 1, none⟩ (.slice none 0 0)) := by
  have hzc : (Builtin.zeroCells (Value.agg #[.string ⟨#[]⟩, .slice none 0 0]).cells 1).toList = [.string ⟨#[]⟩, .slice none 0 0] := by kernel_rfl
  have hst := run_storeCells_cells (P := Try.prog) g o [.string ⟨#[]⟩, .slice none 0 0] 0 w (by simpa using hc) (by simpa using hf) (by intro v hv; simp at hv; rcases hv with rfl | rfl <;> rfl)
  simp only [World.setCells, Nat.add_zero] at hst
  simp [Builtin.clear_, run_underlying Try.underlying24, hzc, hst]

set_option maxHeartbeats 3200000 in
theorem deleteSn_any (w : World) (B g cap q : Nat) (ss : List Snp) (ts : List Value) (hl : ss.length = ts.length) (hq : q < ss.length) (h3 : ss.length ≤ 1000) (hone : ∀ u ∈ snC ss ts, u.oneCell' = true) (ho : w.ownsRow B 50 2 (.slice (some ⟨g, 0, none⟩) ss.length cap) ss.length (snC ss ts)) :
    Calls Try.prog 33 #[.slice (some ⟨g, 0, none⟩) ss.length cap, .int .i64 (q : Int), .int .i64 ((q : Int) + 1)] w fun e w' => e = .returned (.slice (some ⟨g, 0, none⟩) (q + (ss.length - (q + 1))) cap) ∧ OwnS w' B 50 2 (.slice (some ⟨g, 0, none⟩) (q + (ss.length - (q + 1))) cap) (q + (ss.length - (q + 1))) (snC (ss.eraseIdx q) (ts.eraseIdx q)) ∧ Keep (fun k => k = g) w w' := by
  have HO := hide ho
  have HL := hide hl
  have HON : Hid (∀ u ∈ snC (ss.drop (q + 1)) (ts.drop (q + 1)), u.oneCell' = true) := hide (fun u hu => hone u (by rw [snC_whole ss ts (q + 1) hl]; exact List.mem_append_right _ hu))
  obtain ⟨hnc, hcm, _, _⟩ := ownsRow_caps ho
  unfold maxLen at hcm
  have hqn : (q : Int) + 1 ≤ (ss.length : Int) := by omega
  have hqc : (q : Int) + 1 ≤ (cap : Int) := by omega
  have hqc0 : (q : Int) ≤ (cap : Int) := by omega
  have hncI : (ss.length : Int) ≤ (cap : Int) := by omega
  have h01 : (0 : Int) ≤ (q : Int) + 1 := by omega
  have hqq : ((q : Int) == (q : Int) + 1) = false := by rw [beq_eq_false_iff_ne]; omega
  have hq2 : (q : Int) ≤ (q : Int) + 1 := by omega
  have htn : ((q : Int) + 1).toNat = q + 1 := by omega
  have hc0 : ¬ cap = 0 := by omega
  obtain ⟨j0, hj0, hy0, hy1, hy2⟩ := info_parts infoSn
  obtain ⟨so2, HSO⟩ : ∃ so2, Hid (so2 = if cap = q + 1 then some (⟨g, 0, none⟩ : Addr) else some ⟨g, (q + 1) * 2, none⟩) := ⟨_, hide rfl⟩
  have HN2 : Hid (0 < ss.length - (q + 1) → so2 = some ⟨g, (q + 1) * 2, none⟩) := hide (fun h => by rw [unhide HSO, if_neg (by omega)])
  clear ho hl hone
  go_enter Try.func33, Try.ntmps33
  go_upto_region 5 with fail
  refine wp_region_ord (fun w' => True) [0, 1, 2, 3, 4, 5] [(0, 0), (1, 0), (2, 0), (3, 0), (4, 0), (5, 0), (6, 3), (7, 4)] (by kernel_rfl) (by kernel_rfl) rfl (by kernel_rfl) ?_
  refine ord_read (.slice (some ⟨g, 0, none⟩) ss.length cap) rfl rfl trivial (fun W hW => by go_simp) ?_
  refine ord_read (.int .i64 q) rfl rfl trivial (fun W hW => by go_simp) ?_
  refine ord_read (.slice (some ⟨g, 0, none⟩) q cap) rfl rfl trivial (fun W hW => by go_simp) ?_
  refine ord_read (.slice (some ⟨g, 0, none⟩) ss.length cap) rfl rfl trivial (fun W hW => by go_simp) ?_
  refine ord_read (.int .i64 ((q : Int) + 1)) rfl rfl trivial (fun W hW => by go_simp) ?_
  refine ord_read (.slice so2 (ss.length - (q + 1)) (cap - (q + 1))) rfl rfl trivial (fun W hW => by rw [unhide HSO]; go_simp) ?_
  refine ord_alone rfl rfl ?_
  intro K hK
  have hod : w.drew.ownsRow B 50 2 (.slice (some ⟨g, 0, none⟩) ss.length cap) ss.length (snC ss ts) := unhide HO
  refine wp_append_in rfl (.tmp 22) (.tmp 25) 24 rfl B 50 j0 2 Try.underlying24 hj0 hy1 g q cap ((snC ss ts).take (q * 2)) rfl (ownsRow_pre hod (by omega)) so2 (ss.length - (q + 1)) (cap - (q + 1)) (snC (ss.drop (q + 1)) (ts.drop (q + 1))) rfl (by rw [snC_length _ _ (by rw [List.length_drop, List.length_drop, unhide HL]), List.length_drop]) (fun h => ⟨_, unhide HN2 h, ownSn_cells (unhide HL) hod (q + 1)⟩) (unhide HON) (by omega) ?_
  intro w1 ho1 hk1
  rw [snC_takeD _ _ _ (unhide HL), ← snC_erase _ _ _ (unhide HL)] at ho1
  refine hK _ _ ?_
  clear hK K
  refine ord_val (.slice (some ⟨g, 0, none⟩) (q + (ss.length - (q + 1))) cap) rfl rfl (fun W => by go_simp) ?_
  refine ord_done ?_
  obtain ⟨n', hn'⟩ : ∃ n', n' = q + (ss.length - (q + 1)) := ⟨_, rfl⟩
  rw [← hn'] at ho1 ⊢
  have hnn : ss.length = n' + 1 := by omega
  have HK1 : Hid (Keep (fun k => k = g) w w1) := hide ((Keep.of_below (Below.refl _ w).drew).trans hk1)
  have hcl : ∀ ty, (Builtin.clear_ #[24] ty #[.slice (some ⟨g, n' * 2, none⟩) 1 (cap - n')]).run Try.prog w1 = .ok (.tuple #[]) ((w1.setCell ⟨g, n' * 2, none⟩ (.string ⟨#[]⟩)).setCell ⟨g, n' * 2 + 1, none⟩ (.slice none 0 0)) := fun ty => run_clear_sn w1 g (n' * 2) (cap - n') ty (fun j hj => ownsRow_some ho1 (by omega)) (fun j hj => ho1.frozenAt _)
  have HO1 := hide ho1
  have hn1 : (n' : Int) ≤ (n' : Int) + 1 := by omega
  have hn2 : (n' : Int) + 1 ≤ (cap : Int) := by omega
  have hn3 : ¬ cap = n' := by omega
  have hn4 : (0 : Int) ≤ (n' : Int) + 1 := by omega
  have hn5 : ((n' : Int) + 1).toNat = n' + 1 := by omega
  have hn6 : n' + 1 - n' = 1 := by omega
  have HNN := hide hn'
  clear ho1 hk1 HO HON HN2 HSO hod hn'
  simp only [hnn]
  go_wp2
  go_ret
  rw [← unhide HNN]
  refine ⟨rfl, ?_, ?_⟩
  · by_cases h0 : n' = 0
    · have he : snC (ss.eraseIdx q) (ts.eraseIdx q) = [] := List.eq_nil_of_length_eq_zero (by have := (unhide HO1).1; rw [h0] at this; simpa using this)
      exact .inl ⟨h0, he, _, _, by rw [h0]⟩
    · have e1 := ((unhide HO1).stored (n' * 2) (.string ⟨#[]⟩)).1
      rw [List.set_eq_of_length_le (by rw [(unhide HO1).1]; omega)] at e1
      have e2 := (e1.stored (n' * 2 + 1) (.slice none 0 0)).1
      rw [List.set_eq_of_length_le (by rw [(unhide HO1).1]; omega)] at e2
      exact .inr ⟨by omega, e2⟩
  · exact ((unhide HK1).setCell (p := ⟨g, n' * 2, none⟩) rfl _).setCell (p := ⟨g, n' * 2 + 1, none⟩) rfl _

end Go.Proofs.Ytmkegkpnomcnhaa

/- Contract of impl.SnapDelete. (Written by gens/snapf.py.) -/
namespace Go.Proofs.Ytmkegkpnomcnhaa
open Go.RowKit
set_option linter.unusedVariables false
set_option maxRecDepth 100000

/-- What SnapDelete answers. -/
def sdA (m : Img) (name : ByteArray) : Img × Int := if imB m = true then imDelete m name else (im0, 1)
def dtC (m : Img) (name : ByteArray) : Int := if imFind m name < m.snaps.length then 0 else 5
def dt1 (m : Img) (name : ByteArray) : Img := if imFind m name < m.snaps.length then { m with snaps := m.snaps.eraseIdx (imFind m name) } else m
theorem dt_fit {m : Img} (name : ByteArray) (h : ImR m) : FitR (dt1 m name) := by
  unfold dt1
  split
  · have hf := h.fitR
    refine ⟨hf.r, hf.d, by simp only [List.length_eraseIdx]; have := h.few; split <;> omega, fun t ht => ?_, fun s hs => hf.z s (List.mem_of_mem_eraseIdx hs)⟩
    have ht' : t ∈ m.table :: (m.snaps.eraseIdx (imFind m name)).map (·.table) := ht
    rw [List.mem_cons, map_erase] at ht'
    rcases ht' with rfl | ht'
    · exact h.table
    · exact h.tabs t (by unfold imTabs; exact List.mem_cons_of_mem _ (List.mem_of_mem_eraseIdx ht'))
  · exact h.fitR
theorem dt_ans {m : Img} (name : ByteArray) : (if imB m = true then (imFit (dt1 m name), dtC m name) else (im0, 1)) = sdA m name := by
  refine ans_eq (fun h => ?_) (fun h => by rw [sdA, h]; rfl)
  have hR := imB_iff.1 h
  rw [sdA, if_pos h]
  unfold dt1 dtC
  by_cases hf : imFind m name < m.snaps.length
  · rw [if_pos hf, if_pos hf, delete_at hf rfl]
    exact ⟨fit_delete hR hf, rfl⟩
  · rw [if_neg hf, if_neg hf, delete_none hf]
    exact ⟨fit_self hR, rfl⟩
theorem Hld.delS {W W1 : World} {p B g q n cap : Nat} {a : Im4} {m : Img} {ts : List Value} (h : Hld W p B a m ts) (hB : B ≤ W.heap.size) (hq : q < m.snaps.length) (hg : a.so = some ⟨g, 0, none⟩) (hc : a.sc = cap) (hn : (m.snaps.eraseIdx q).length = n) (hk : Keep (fun k => k = g) W W1)
    (ho : OwnS W1 B 50 2 (.slice (some ⟨g, 0, none⟩) n cap) n (snC (m.snaps.eraseIdx q) (ts.eraseIdx q))) :
    Hld (W1.setCell ⟨p, 2, none⟩ (.slice (some ⟨g, 0, none⟩) n cap)) p B { a with so := some ⟨g, 0, none⟩, sc := cap } { m with snaps := m.snaps.eraseIdx q } (ts.eraseIdx q) ∧ Below B W (W1.setCell ⟨p, 2, none⟩ (.slice (some ⟨g, 0, none⟩) n cap)) := by
  have hso : Own (.slice a.so m.snaps.length a.sc) g := by rw [hg]; exact own_of (by omega) rfl
  have hgB := (h.o.s.ge g hso).1
  have hnp : p ≠ g := fun e => h.o.s.other h.v (by decide) (e ▸ hso)
  have hv1 : VarM W1 p 26 (.slice a.ro m.refs.length a.rc) (.slice a.tq m.table.length a.tc) (.slice a.so m.snaps.length a.sc) (.slice a.dq m.data.length a.dc) := (hk.block _ h.v.lt hnp).trans h.v
  have hrows : OwnA W1 B (imRows a m ts) := h.o.rows.keep hk (fun r hr x hx e => own_apartS (h.o.rows.own r hr).row h.o.s (by decide) x hx (e ▸ hso))
  have ho1 : OwnIm W1 B { a with so := some ⟨g, 0, none⟩, sc := cap } { m with snaps := m.snaps.eraseIdx q } (ts.eraseIdx q) := by
    refine ⟨by simp only [List.length_eraseIdx, h.o.len], ?_, ?_⟩
    · show OwnS W1 B 50 2 (.slice (some ⟨g, 0, none⟩) (m.snaps.eraseIdx q).length cap) (m.snaps.eraseIdx q).length _
      rw [hn]
      exact ho
    · refine hrows.sub ?_
      show List.Sublist ((.slice a.ro m.refs.length a.rc, m.refs) :: (.slice a.tq m.table.length a.tc, m.table) :: (.slice a.dq m.data.length a.dc, m.data) :: (ts.eraseIdx q).zip ((m.snaps.eraseIdx q).map (·.table))) ((.slice a.ro m.refs.length a.rc, m.refs) :: (.slice a.tq m.table.length a.tc, m.table) :: (.slice a.dq m.data.length a.dc, m.data) :: ts.zip (m.snaps.map (·.table)))
      rw [map_tabs_erase, zip_erase]
      exact ((List.eraseIdx_sublist _ _).cons_cons _).cons_cons _ |>.cons_cons _
  have hk2 : Keep (fun x => x = p) W1 (W1.setCell ⟨p, 2, none⟩ (.slice (some ⟨g, 0, none⟩) n cap)) := (Keep.refl (fun x => x = p) W1).setCell (p := ⟨p, 2, none⟩) rfl _
  refine ⟨⟨?_, ho1.keep hk2 (fun x hx e => ho1.other (v0 := .slice a.ro m.refs.length a.rc) (v1 := .slice a.tq m.table.length a.tc) (v2 := .slice a.so m.snaps.length a.sc) (v3 := .slice a.dq m.data.length a.dc) hv1 (e ▸ hx)), h.p⟩, ?_⟩
  · simp only [hn]
    exact hv1.set2 _
  · exact (hk.below hB (fun k e => by omega)).setCell (p := ⟨p, 2, none⟩) h.p _

set_option maxHeartbeats 3200000 in
theorem deleteC_any (m : Img) (name : ByteArray) (x : Nat) (W : World) (p B : Nat) (a : Im4) (ts : List Value) (hR : ImR m) (hx : VarT1 W x name) (hxB : x < B) (hB : B ≤ W.heap.size) (hh : Hld W p B a m ts) :
    Calls Try.prog 32 #[.pointer (some ⟨p, 0, none⟩), .pointer (some ⟨x, 0, none⟩)] W fun e W' => Chg W W' p B e (dtC m name) (dt1 m name) := by
  have HH := hide hh
  have HX := hide hx
  have HM := hide hR.M
  clear hh hR hx
  go_enter Try.func32, Try.ntmps32
  have hS0 : VarM W.drew p 26 (.slice a.ro m.refs.length a.rc) (.slice a.tq m.table.length a.tc) (.slice a.so m.snaps.length a.sc) (.slice a.dq m.data.length a.dc) ∧ VarT1 W.drew x name := ⟨(unhide HH).v.below (Below.refl _ _).drew, (unhide HX).below (Below.refl _ _).drew⟩
  have HSN : Hid (Sns W a.so m.snaps) := hide ((unhide HH).o.shows (unhide HM).zs).s
  have HSL := hide (unhide HM).s
  go_upto_region 1 with fail
  refine wp_region_ord (fun w' => VarM w' p 26 (.slice a.ro m.refs.length a.rc) (.slice a.tq m.table.length a.tc) (.slice a.so m.snaps.length a.sc) (.slice a.dq m.data.length a.dc) ∧ VarT1 w' x name) [0, 1, 2, 3, 4] [(0, 0), (1, 0), (2, 0), (3, 0), (4, 0), (5, 3), (6, 4)] (by kernel_rfl) (by kernel_rfl) rfl (by kernel_rfl) ?_
  refine ord_read (.pointer (some ⟨p, 0, none⟩)) rfl rfl hS0 (fun W hW => by go_simp) ?_
  refine ord_read (.pointer (some ⟨p, 0, none⟩)) rfl rfl hS0 (fun W hW => by go_simp) ?_
  refine ord_read (.pointer (some ⟨p, 2, none⟩)) rfl rfl hS0 (fun W hW => by go_simp) ?_
  refine ord_read (.slice a.so m.snaps.length a.sc) rfl rfl hS0 (fun W hW => by obtain ⟨k0, k1, k2, k3⟩ := hW.1.cells; go_simp) ?_
  refine ord_read (.string name) rfl rfl hS0 (fun W hW => by have k0 : W.cell? ⟨x, 0, none⟩ = some (.string name) := hW.2; go_simp) ?_
  clear hS0
  refine ord_alone rfl rfl ?_
  intro K hK
  unfold Oper.wp
  go_simp
  refine (findSnap_any a.so a.sc m.snaps name _ (by have := unhide HSL; unfold maxLen; omega) ((unhide HSN).below (Below.refl _ _).drew)).mono ?_
  rintro e w2 ⟨rfl, hb⟩
  have HB2 : Hid (Below W.heap.size W w2) := hide (fr (Below.refl _ _).drew hb)
  clear hb
  refine hK _ _ ?_
  clear hK K
  refine ord_val (.int .i64 (fdL m.snaps name)) rfl rfl (fun W => by go_simp) ?_
  refine ord_done ?_
  by_cases hf : imFind m name < m.snaps.length
  case neg =>
    have HE : Hid (dtC m name = 5 ∧ dt1 m name = m) := hide ⟨if_neg hf, if_neg hf⟩
    rw [show fdL m.snaps name = -1 from if_neg hf]
    clear hf
    go_wp2
    go_ret
    rw [(unhide HE).1, (unhide HE).2]
    exact Chg.same 5 (unhide HH) hB (unhide HB2)
  have HE0 : Hid (dtC m name = 0 ∧ dt1 m name = { m with snaps := m.snaps.eraseIdx (imFind m name) }) := hide ⟨if_pos hf, if_pos hf⟩
  rw [show fdL m.snaps name = (imFind m name : Int) from if_pos hf]
  obtain ⟨q, hq⟩ : ∃ q, imFind m name = q := ⟨_, rfl⟩
  rw [hq] at HE0 hf ⊢
  have hqi : (q : Int) < (m.snaps.length : Int) := by omega
  have HQL := hide hf
  clear hq hf
  have HH2 := hide ((unhide HH).below (unhide HB2))
  obtain ⟨g, cap, cur, e0, _, _⟩ := own_form (by omega) ((unhide HH2).o.s.row (by omega))
  obtain ⟨eso, hcap⟩ : a.so = some ⟨g, 0, none⟩ ∧ a.sc = cap := by simp only [Value.slice.injEq] at e0; exact ⟨e0.1, e0.2.2⟩
  have HROW := hide ((unhide HH2).o.s.row (by omega))
  rw [eso, hcap] at HROW
  have HES := hide (And.intro eso hcap)
  have HNE : Hid ((m.snaps.eraseIdx q).length = q + (m.snaps.length - (q + 1))) := hide (by rw [List.length_eraseIdx, if_pos (unhide HQL)]; omega)
  obtain ⟨c0, c1, c2, c3⟩ := (unhide HH2).v.cells
  rw [eso, hcap] at c2
  have hw1 : IntKind.i64.wrap ((q : Int) + 1) = (q : Int) + 1 := by have := unhide HSL; rw [IntKind.wrap_i64]; omega
  clear eso hcap e0
  go_wp2_with fail
  refine (deleteSn_any w2 B g cap q m.snaps ts (unhide HH2).o.len (unhide HQL) (by have := unhide HSL; omega) (ownSn_one (unhide HH2).o.tabsOwn) (unhide HROW)).mono ?_
  rintro e w3 ⟨rfl, ho3, hk3⟩
  have HN3 := hide (Hld.delS (unhide HH2) (Nat.le_trans hB (unhide HB2).size) (unhide HQL) (unhide HES).1 (unhide HES).2 (unhide HNE) hk3 ho3)
  have hv3 : VarM w3 p 26 (.slice a.ro m.refs.length a.rc) (.slice a.tq m.table.length a.tc) (.slice a.so m.snaps.length a.sc) (.slice a.dq m.data.length a.dc) := (hk3.block _ (unhide HH2).v.lt (fun e => (unhide HH2).o.s.other (unhide HH2).v (by decide) (by have := own_of (n := m.snaps.length) (cap := cap) (g := g) (k := p) (by have := unhide HQL; omega) e.symm; rw [(unhide HES).1, (unhide HES).2]; exact this))).trans (unhide HH2).v
  have HBW : Hid (Below B W w2) := hide ((unhide HB2).mono hB)
  clear ho3 hk3 c0 c1 c2 c3
  obtain ⟨c0, c1, c2, c3⟩ := hv3.cells
  obtain ⟨z0, z1, z2, z3⟩ := hv3.free
  go_wp2
  go_ret
  rw [(unhide HE0).1, (unhide HE0).2]
  exact ⟨rfl, _, _, (unhide HN3).1, (unhide HBW).trans (unhide HN3).2⟩

set_option maxHeartbeats 1600000 in
theorem snapDelete_impl (a : Im4) (m : Img) (name : ByteArray) (w : World) (hz : name.size ≤ 65536) (hL : ImL m) (hc : ImS w a m) :
    Calls Try.prog 10 #[imV a m, .string name] w fun e w' => AnsI w w' e (sdA m name) := by
  have hmf : ∀ (fn : Fn) (first cap : Array Value) (w : World), (Instr.makeFunc fn first cap).run Try.prog w = .ok (.func fn first cap) w := fun _ _ _ _ => rfl
  have HE : Hid (FcE w (((w.alloc (.cells #[.slice a.ro m.refs.length a.rc, .slice a.tq m.table.length a.tc, .slice a.so m.snaps.length a.sc, .slice a.dq m.data.length a.dc] 26)).alloc (.cells #[.string name] 9)).alloc (.cells #[.slice none 0 0, .slice none 0 0, .slice none 0 0, .slice none 0 0] 26)) (w.heap.size + 1 + 1) a m) := hide (by
    refine ⟨?_, ?_, hc.below (fr (fr (Joins.below_alloc1 w _) (Joins.below_alloc1 _ _)) (Joins.below_alloc1 _ _)), fr (fr (Joins.below_alloc1 w _) (Joins.below_alloc1 _ _)) (Joins.below_alloc1 _ _), by omega, by simp⟩
    · exact ((VarM.new w 26 (.slice a.ro m.refs.length a.rc) (.slice a.tq m.table.length a.tc) (.slice a.so m.snaps.length a.sc) (.slice a.dq m.data.length a.dc)).below (Joins.below_alloc1 _ _)).below (Joins.below_alloc1 _ _)
    · have h := VarM.new ((w.alloc (.cells #[.slice a.ro m.refs.length a.rc, .slice a.tq m.table.length a.tc, .slice a.so m.snaps.length a.sc, .slice a.dq m.data.length a.dc] 26)).alloc (.cells #[.string name] 9)) 26 (.slice none 0 0) (.slice none 0 0) (.slice none 0 0) (.slice none 0 0)
      simp only [World.size_alloc] at h
      exact h)
  have HX0 : Hid (VarT1 (((w.alloc (.cells #[.slice a.ro m.refs.length a.rc, .slice a.tq m.table.length a.tc, .slice a.so m.snaps.length a.sc, .slice a.dq m.data.length a.dc] 26)).alloc (.cells #[.string name] 9)).alloc (.cells #[.slice none 0 0, .slice none 0 0, .slice none 0 0, .slice none 0 0] 26)) (w.heap.size + 1) name) := hide (by
    have h : VarT1 (((w.alloc (.cells #[.slice a.ro m.refs.length a.rc, .slice a.tq m.table.length a.tc, .slice a.so m.snaps.length a.sc, .slice a.dq m.data.length a.dc] 26)).alloc (.cells #[.string name] 9)).alloc (.cells #[.slice none 0 0, .slice none 0 0, .slice none 0 0, .slice none 0 0] 26)) (w.alloc (.cells #[.slice a.ro m.refs.length a.rc, .slice a.tq m.table.length a.tc, .slice a.so m.snaps.length a.sc, .slice a.dq m.data.length a.dc] 26)).heap.size name := (VarT1.new (w.alloc (.cells #[.slice a.ro m.refs.length a.rc, .slice a.tq m.table.length a.tc, .slice a.so m.snaps.length a.sc, .slice a.dq m.data.length a.dc] 26)) name).below (Joins.below_alloc1 _ _)
    simp only [World.size_alloc] at h
    exact h)
  have HL := hide hL
  obtain ⟨R, HR⟩ : ∃ R, Hid (R = sdA m name) := ⟨_, hide rfl⟩
  rw [← unhide HR]
  clear hc hL
  go_enter Try.func10, Try.ntmps10
  go_upto_region 1 with fail
  revert HE HX0
  generalize (((w.alloc _).alloc _).alloc _) = W0
  intro HE HX0
  obtain ⟨c0, c1, c2, c3⟩ := (unhide HE).v.cells
  have hnx : W0.cell? ⟨w.heap.size + 1, 0, none⟩ = some (.string name) := unhide HX0
  go_wp2_with fail
  refine (changeSnaps_any a m name 32 #[.pointer (some ⟨w.heap.size + 1, 0, none⟩)] (dt1 m name) (dtC m name) _ (unhide HL) hz (unhide HE).s (fun _ _ => rfl) (fun him => ⟨dt_fit name (imB_iff.1 him), fun W p B a1 ts1 h1 h2 h3 h4 h5 => ?_⟩)).mono ?_
  · exact deleteC_any m name _ W p B a1 ts1 (imB_iff.1 him) ((unhide HX0).below h1) (Nat.lt_of_lt_of_le (unhide HX0).lt h2) h3 h4
  · intro e w2 hans
    rw [dt_ans, ← unhide HR] at hans
    obtain ⟨b, ts, rfl, ho, hb⟩ := hans
    have HP := hide ((unhide HE).put hb ho)
    have HE2 := hide ((unhide HE).below hb)
    clear ho hb c0 c1 c2 c3 hnx
    obtain ⟨r0, r1, r2, r3⟩ := (unhide HE2).r.cells
    obtain ⟨z0, z1, z2, z3⟩ := (unhide HE2).r.free
    go_wp2
    refine bodyPost_ret (res_ic Try.results10 rfl rfl (unhide HP).1) rfl ?_
    exact AnsI.of rfl rfl (unhide HP).2.1 (unhide HP).2.2

end Go.Proofs.Ytmkegkpnomcnhaa

/- Contracts of the model's l11Name, PackName. (Made ahead of stage 11.) -/
namespace Go.Proofs.Ytmkegkpnomcnhaa
open Go.RowKit
set_option linter.unusedVariables false
set_option maxRecDepth 100000

/-- A name's number, as far as it has gone. -/
def nmK (t : ByteArray) (k : Nat) : Int := (t.data.toList.take k).foldl ch1 0
theorem nmK_succ {t : ByteArray} {k : Nat} (hk : k < t.size) : nmK t (k + 1) = ch1 (nmK t k) t.data.toList[k] := by
  unfold nmK
  rw [List.take_succ_eq_append_getElem (by simpa using hk), List.foldl_append]; rfl
theorem nmK_all (t : ByteArray) : nmK t t.size = nmN t := by
  unfold nmK nmN
  rw [List.take_of_length_le (by simp)]
theorem ch1_le {n : Int} {b : UInt8} (h0 : 0 ≤ n) : 0 ≤ ch1 n b ∧ ch1 n b ≤ 27 * n + 256 := by
  unfold ch1
  have h1 := Int.emod_nonneg ((b.toNat : Int) - 97) (show (256 : Int) ≠ 0 by decide)
  have h2 := Int.emod_lt_of_pos ((b.toNat : Int) - 97) (show (0 : Int) < 256 by decide)
  omega
theorem tl_lt {t : ByteArray} {k : Nat} (h : k + 1 ≤ t.size) : k < t.data.toList.length := by
  have : t.data.toList.length = t.size := by simp
  omega
/-- Bounds of a number of a short text. -/
def bd27 : Nat → Int
  | 0 => 0
  | k + 1 => 27 * bd27 k + 256
theorem nmK_le (t : ByteArray) : ∀ k, k ≤ t.size → 0 ≤ nmK t k ∧ nmK t k ≤ bd27 k
  | 0, _ => by simp [nmK, bd27]
  | k + 1, h => by
    have h1 := nmK_le t k (by omega)
    rw [nmK_succ (by omega)]
    have h2 := ch1_le (n := nmK t k) (b := t.data.toList[k]'(tl_lt h)) h1.1
    refine ⟨h2.1, Int.le_trans h2.2 ?_⟩
    rw [bd27]
    omega

theorem bd27_le : ∀ k, k ≤ 8 → 0 ≤ bd27 k ∧ bd27 k ≤ 10000000000000 := by
  intro k hk
  rcases (show k = 0 ∨ k = 1 ∨ k = 2 ∨ k = 3 ∨ k = 4 ∨ k = 5 ∨ k = 6 ∨ k = 7 ∨ k = 8 by omega) with rfl | rfl | rfl | rfl | rfl | rfl | rfl | rfl | rfl <;> decide

set_option maxHeartbeats 800000 in
theorem l11Name_any (t : ByteArray) (w : World) (hz : t.size ≤ 8) :
    Calls Try.prog 42 #[.string t] w fun e w' => e = .returned (.int .i64 (nmN t)) ∧ w' = w := by
  go_enter Try.func42, Try.ntmps42
  go_wp2
  go_loop [3, 4] (fun n i => ∃ k : Nat, k ≤ t.size ∧ i = .int .i64 k ∧ n = .int .i64 (nmK t k)) (fun _ i => t.size - (intOf i).toNat)
  case atStart => exact ⟨0, Nat.zero_le _, rfl, rfl⟩
  case round =>
    obtain ⟨k, hk, rfl, rfl⟩ := hrel
    by_cases hlt : k < t.size
    · have hlti : (k : Int) < (t.size : Int) := by omega
      have HS : Hid (nmK t (k + 1) = 27 * nmK t k + ((t[k].toNat : Int) - 97) % 256 + 1) := hide (by
        rw [nmK_succ hlt]
        have e : t.data.toList[k]'(by simpa using hlt) = t[k] := by have := snm_get hlt; rw [List.getElem?_eq_getElem (by simpa using hlt)] at this; exact Option.some.inj this
        rw [e]; rfl)
      obtain ⟨b0, b1⟩ := nmK_le t k hk
      obtain ⟨d0, d1⟩ := bd27_le k (by omega)
      have h1 := Int.emod_nonneg ((t[k].toNat : Int) - 97) (show (256 : Int) ≠ 0 by decide)
      have h2 := Int.emod_lt_of_pos ((t[k].toNat : Int) - 97) (show (0 : Int) < 256 by decide)
      have hu : IntKind.u8.wrap ((t[k].toNat : Int) - 97) = ((t[k].toNat : Int) - 97) % 256 := by simp [IntKind.wrap, IntKind.bits, IntKind.signed]
      generalize nmK t k = X at *
      generalize ((t[k].toNat : Int) - 97) % 256 = D at *
      have w1 : IntKind.i64.wrap (27 * X) = 27 * X := by rw [IntKind.wrap_i64]; omega
      have w2 : IntKind.i64.wrap D = D := by rw [IntKind.wrap_i64]; omega
      have w3 : IntKind.i64.wrap (27 * X + D) = 27 * X + D := by rw [IntKind.wrap_i64]; omega
      have w4 : IntKind.i64.wrap (27 * X + D + 1) = 27 * X + D + 1 := by rw [IntKind.wrap_i64]; omega
      go_wp2
      go_round
      case rel => exact ⟨k + 1, by omega, by go_num, by rw [unhide HS]⟩
      case measure => simp [intOf]; omega
    · obtain rfl : k = t.size := by omega
      have HF := hide (nmK_all t)
      go_wp2
      go_ret
      exact ⟨ret_int (unhide HF), rfl⟩

set_option maxHeartbeats 800000 in
theorem packName_spec (t : ByteArray) (w : World) (hz : t.size ≤ maxLen) :
    Calls Try.prog 17 #[.string t] w fun e w' => e = .returned (.tuple #[.int .i64 (pnN t), .int .i64 (pnF t)]) ∧ w' = w := by
  have HZ := hide hz
  unfold maxLen at hz
  by_cases hl : 65536 < t.size
  · have HF : Hid (pnF t = 2 ∧ pnN t = 0) := hide (by have e : pnF t = 2 := if_pos hl; exact ⟨e, by rw [pnN, e]; rfl⟩)
    go_enter Try.func17, Try.ntmps17
    go_wp2
    go_ret2
    rw [(unhide HF).1, (unhide HF).2]
    exact ⟨rfl, rfl⟩
  go_enter Try.func17, Try.ntmps17
  go_wp2_with fail
  refine (l10Name_any t _ (unhide HZ)).mono ?_
  rintro e w' ⟨rfl, hw⟩
  replace hw := hw.symm
  subst hw
  cases hn : snmB t
  · have HF : Hid (pnF t = 12 ∧ pnN t = 0) := hide (by have e : pnF t = 12 := by rw [pnF, if_neg hl, hn]; rfl
                                                       exact ⟨e, by rw [pnN, e]; rfl⟩)
    go_wp2
    go_ret2
    rw [(unhide HF).1, (unhide HF).2]
    exact ⟨rfl, rfl⟩
  · have HF : Hid (pnF t = 0 ∧ pnN t = nmN t) := hide (by have e : pnF t = 0 := by rw [pnF, if_neg hl, hn]; rfl
                                                          exact ⟨e, by rw [pnN, e]; rfl⟩)
    have HT := hide (snm_parts hn).2.2
    clear hn
    go_wp2_with fail
    refine (l11Name_any t _ (by have := unhide HT; omega)).mono ?_
    rintro e w' ⟨rfl, hw⟩
    replace hw := hw.symm
    subst hw
    go_wp2
    go_ret2
    rw [(unhide HF).1, (unhide HF).2]
    exact ⟨rfl, rfl⟩

end Go.Proofs.Ytmkegkpnomcnhaa
