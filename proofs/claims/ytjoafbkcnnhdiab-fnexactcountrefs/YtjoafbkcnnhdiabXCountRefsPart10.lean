import Derived.Test.YtjoafbkcnnhdiabRows
import Derived.Test.YtjoafbkcnnhdiabXCountRefsPart5
import Derived.Test.YtjoafbkcnnhdiabXCountRefsPart8
import Derived.Test.YtjoafbkcnnhdiabXCountRefsPart7
import Derived.Test.YtjoafbkcnnhdiabXCountRefsPart9
import Derived.WalkKit
import Derived.WalkSpells
import Derived.LoopN
import Derived.Deep.RegionWith
import Derived.Test.YtjoafbkcnnhdiabXCountRefsPart1
import Derived.Test.YtjoafbkcnnhdiabXCountRefsPart2
import Derived.Test.YtjoafbkcnnhdiabXCountRefsPart3
import Derived.Test.YtjoafbkcnnhdiabXCountRefsPart4
import Derived.BigQuiet
import Derived.Deep.QuietTactic
import Derived.Deep.Quiet
import Derived.Test.YtjoafbkcnnhdiabXCountRefsPart6
import Derived.Deep.RegionHeld3

/- Contract of the model's l10Own: an image as it was, in new memory. (Made ahead of stage 10.) -/
namespace Go.Proofs.Ytjoafbkcnnhdiab
open Go.RowKit
set_option linter.unusedVariables false
set_option maxRecDepth 100000

theorem wp_append_fresh {P : Program} {o : Oper} {a : Act} {w : World} {K : Act → World → Prop} {Q : Exit → Act → World → Prop}
    (hg : o.guard = none) (s x : Operand) (t : TypeId) (hop : o.op = Op.call { callee := Callee.builtin Builtin.append, args := #[s, x], argTypes := #[t, t] })
    (e : TypeId) (i : TypeInfo) (z : Value) (size bytes : Nat) (h1 : P.underlying t = some (.slice e)) (h2 : P.info? e = some i) (h3 : i.zero = some z) (h4 : i.size = size) (h5 : i.bytes = bytes) (h6 : z.cells.size = size) (h7 : 0 < size)
    (hs0 : isFresh (a.eval s) = true) (so : Option Addr) (m c : Nat) (news : List Value) (hx : a.eval x = .slice so m c) (hn : news.length = m * size)
    (hc : 0 < m → ∃ ad, so = some ad ∧ ∀ j u, news[j]? = some u → w.cell? (ad.add j) = some u) (b1 : m ≤ maxLen) (b2 : m * bytes ≤ 140737488355328)
    (hK : ∀ ao cap w', OwnR w' w.heap.size e size (.slice ao m cap) m news → w.grownBy w' none → K (a.put o.dst (.slice ao m cap)) w') : o.wp P a w K Q := by
  have := step_append_fresh (P := P) (ops := #[]) (o := o) (a := a) (w := w) (K := K) (Q := Q) (E := True) hg s x t hop e i z size bytes h1 h2 h3 h4 h5 h6 h7 hs0 so m c news hx hn hc b1 b2 hK
  rwa [if_pos (by simp [Region.wanted, hg])] at this

theorem snap_news {w : World} {g : Nat} {n : ByteArray} {v : Value} {t : TypeId} (h : w.heap[g]? = some (.cells #[.string n, v] t (0, 0))) : ∀ j u, [Value.string n, v][j]? = some u → w.cell? ((⟨g, 0, none⟩ : Addr).add j) = some u := by
  intro j u hu
  have hj : j < 2 := (List.getElem?_eq_some_iff.1 hu).1
  rcases (show j = 0 ∨ j = 1 by omega) with rfl | rfl
  · simp at hu
    subst hu
    rw [show (⟨g, 0, none⟩ : Addr).add 0 = ⟨g, 0, none⟩ from rfl, Joins.cell_of_block h]; rfl
  · simp at hu
    subst hu
    rw [show (⟨g, 0, none⟩ : Addr).add 1 = ⟨g, 1, none⟩ from rfl, Joins.cell_of_block h]; rfl
theorem snap_one (n : ByteArray) (q : Option Addr) (l c : Nat) : ∀ u ∈ [Value.string n, .slice q l c], u.oneCell' = true := by
  intro u hu
  simp at hu
  rcases hu with rfl | rfl <;> rfl
theorem wp_append_one {P : Program} {w : World} {o : Oper} {a : Act} {K : Act → World → Prop} {Q : Exit → Act → World → Prop} (hgd : o.guard = none) (s x : Operand) (t : TypeId)
    (ho : o.op = .call { callee := .builtin .append, args := #[s, x], argTypes := #[t, t] })
    (B : Nat) (e : TypeId) (i : TypeInfo) (z : Value) (size bytes : Nat) (ht : P.underlying t = some (.slice e)) (hi : P.info? e = some i) (hz : i.zero = some z)
    (hsize : i.size = size) (hby : i.bytes = bytes) (hzs : z.cells.size = size) (hsz : 0 < size)
    (qo : Option Addr) (n cap : Nat) (xs : List Value) (hs : a.eval s = .slice qo n cap) (h : OwnR w B e size (.slice qo n cap) n xs) (hB : B ≤ w.heap.size)
    (ad : Addr) (c : Nat) (news : List Value) (hx : a.eval x = .slice (some ad) 1 c) (hl : news.length = size) (hnews : ∀ j u, news[j]? = some u → w.cell? (ad.add j) = some u) (h1 : ∀ u ∈ news, u.oneCell' = true)
    (b1 : n + 1 ≤ maxLen) (b2 : (n + 1) * bytes ≤ 140737488355328)
    (hK : ∀ g cap' w', w'.ownsRow B e size (.slice (some ⟨g, 0, none⟩) (n + 1) cap') (n + 1) (xs ++ news) → Keep (Own (.slice qo n cap)) w w' → K (a.put o.dst (.slice (some ⟨g, 0, none⟩) (n + 1) cap')) w') : o.wp P a w K Q := by
  have := step_append_one (P := P) (ops := #[]) (o := o) (a := a) (w := w) (K := K) (Q := Q) (E := True) hgd s x t ho B e i z size bytes ht hi hz hsize hby hzs hsz qo n cap xs hs h hB ad c news hx hl hnews h1 b1 b2 hK
  rwa [if_pos (by simp [Region.wanted, hgd])] at this

set_option maxHeartbeats 6400000 in
theorem l10Own_full (a : Im4) (m : Img) (w : World) (hL : m.refs.length ≤ 1048576 ∧ m.table.length ≤ 1048576 ∧ m.data.length ≤ 1048576) (hst : ∀ s ∈ m.snaps, s.table.length ≤ 1048576) (hs1 : m.snaps.length ≤ 1048576) (hc : ImS w a m) :
    Calls Try.prog 36 #[imV a m] w fun e w' => ∃ a' ts, e = .returned (imV a' m) ∧ OwnF w' w.heap.size a' m ts ∧ Below w.heap.size w w' := by
  have HA := hide (Joins.below_alloc2 w (.cells #[.slice a.ro m.refs.length a.rc, .slice a.tq m.table.length a.tc, .slice a.so m.snaps.length a.sc, .slice a.dq m.data.length a.dc] 29) (.cells #[.slice none 0 0, .slice none 0 0, .slice none 0 0, .slice none 0 0] 29))
  have HC := hide (hc.below (unhide HA))
  have HV := hide ((VarM.new w 29 (.slice a.ro m.refs.length a.rc) (.slice a.tq m.table.length a.tc) (.slice a.so m.snaps.length a.sc) (.slice a.dq m.data.length a.dc)).below (Joins.below_alloc1 _ (.cells #[.slice none 0 0, .slice none 0 0, .slice none 0 0, .slice none 0 0] 29)))
  have HR := hide ((VarM.new (w.alloc (.cells #[.slice a.ro m.refs.length a.rc, .slice a.tq m.table.length a.tc, .slice a.so m.snaps.length a.sc, .slice a.dq m.data.length a.dc] 29)) 29 (.slice none 0 0) (.slice none 0 0) (.slice none 0 0) (.slice none 0 0)).at (y := w.heap.size + 1) (by simp))
  have HLL := hide hL
  have HST := hide hst
  clear hc hL hst
  obtain ⟨j0, hj0, hy0, hy1, hy2⟩ := info_parts infoSn
  obtain ⟨i0, hi0, hz0, hz1, hz2⟩ := info_parts infoIn
  go_enter Try.func36, Try.ntmps36
  go_upto_region 1 with fail
  revert HA HC HV HR
  generalize ((w.alloc _).alloc _) = W0
  intro HA HC HV HR
  refine wp_region_inv (OwInv W0 w.heap.size (w.heap.size + 1) a m) (by kernel_rfl) (by kernel_rfl) (noG_spec (by kernel_rfl)) (OwInv.start _ _ _ _ _ _ (Below.refl _ W0).drew) ?hs ?he
  case hs =>
    intro d f wq i o hI ho hd hp K hK
    obtain ⟨s3, s5, s6, s7, s8, s9, s10, s11, s12, s13, s14, s15, s16, s17, s18, rfl, I⟩ := hI
    obtain ⟨cv0, cv1, cv2, cv3⟩ := ((unhide HV).below I.b).cells
    have hi : i < 16 := (List.getElem?_eq_some_iff.1 ho).1
    rcases (show i = 0 ∨ i = 1 ∨ i = 2 ∨ i = 3 ∨ i = 4 ∨ i = 5 ∨ i = 6 ∨ i = 7 ∨ i = 8 ∨ i = 9 ∨ i = 10 ∨ i = 11 ∨ i = 12 ∨ i = 13 ∨ i = 14 ∨ i = 15 by omega) with rfl | rfl | rfl | rfl | rfl | rfl | rfl | rfl | rfl | rfl | rfl | rfl | rfl | rfl | rfl | rfl
    · cases ho
      unfold Oper.wp
      go_simp
      exact hK _ _ ⟨_, _, _, _, _, _, _, _, _, _, _, _, _, _, _, rfl, I.s0 hd (Joins.below_alloc1 _ _) ⟨_, rfl⟩⟩
    · cases ho
      unfold Oper.wp
      go_simp
      exact hK _ _ ⟨_, _, _, _, _, _, _, _, _, _, _, _, _, _, _, rfl, I.s1 hd rfl⟩
    · cases ho
      have p := hp ⟨1, .data⟩ (by simp) rfl
      have e1 := I.f1 p
      subst e1
      unfold Oper.wp
      go_simp
      exact hK _ _ ⟨_, _, _, _, _, _, _, _, _, _, _, _, _, _, _, rfl, I.s2 hd rfl⟩
    · cases ho
      have pa := hp ⟨0, .data⟩ (by simp) rfl
      have pb := hp ⟨2, .data⟩ (by simp) rfl
      obtain ⟨g, rfl⟩ := I.f0 pa
      have e1 := I.f2 pb
      subst e1
      refine wp_append_fresh rfl (.tmp 5) (.tmp 7) 22 rfl 3 i0 (.int .i64 0) 1 8 Try.underlying22 hi0 hz0 hz1 hz2 rfl (by omega) rfl a.ro m.refs.length a.rc (intV m.refs) rfl (by rw [intV_length]; omega) (Is.srcI ((unhide HC).r.below I.b)) (by have := unhide HLL; unfold maxLen; omega) (by have := unhide HLL; omega) ?_
      intro ao cap w2 ho2 hg2
      exact hK _ _ ⟨_, _, _, _, _, _, _, _, _, _, _, _, _, _, _, rfl, I.s3 hd (belowGr (Below.refl _ _) hg2) ⟨ao, cap, rfl, ho2⟩⟩
    · cases ho
      unfold Oper.wp
      go_simp
      exact hK _ _ ⟨_, _, _, _, _, _, _, _, _, _, _, _, _, _, _, rfl, I.s4 hd (Joins.below_alloc1 _ _) ⟨_, rfl⟩⟩
    · cases ho
      unfold Oper.wp
      go_simp
      exact hK _ _ ⟨_, _, _, _, _, _, _, _, _, _, _, _, _, _, _, rfl, I.s5 hd rfl⟩
    · cases ho
      have p := hp ⟨5, .data⟩ (by simp) rfl
      have e1 := I.f5 p
      subst e1
      unfold Oper.wp
      go_simp
      exact hK _ _ ⟨_, _, _, _, _, _, _, _, _, _, _, _, _, _, _, rfl, I.s6 hd rfl⟩
    · cases ho
      have pa := hp ⟨4, .data⟩ (by simp) rfl
      have pb := hp ⟨6, .data⟩ (by simp) rfl
      have pc := hp ⟨3, .chain⟩ (by simp) rfl
      obtain ⟨g, rfl⟩ := I.f4 pa
      have e1 := I.f6 pb
      subst e1
      refine wp_append_fresh rfl (.tmp 9) (.tmp 11) 22 rfl 3 i0 (.int .i64 0) 1 8 Try.underlying22 hi0 hz0 hz1 hz2 rfl (by omega) rfl a.tq m.table.length a.tc (intV m.table) rfl (by rw [intV_length]; omega) (Is.srcI ((unhide HC).t.below I.b)) (by have := unhide HLL; unfold maxLen; omega) (by have := unhide HLL; omega) ?_
      intro ao cap w2 ho2 hg2
      exact hK _ _ ⟨_, _, _, _, _, _, _, _, _, _, _, _, _, _, _, rfl, I.s7 hd (belowGr (Below.refl _ _) hg2) pc ⟨ao, cap, rfl, ho2⟩⟩
    · cases ho
      unfold Oper.wp
      go_simp
      exact hK _ _ ⟨_, _, _, _, _, _, _, _, _, _, _, _, _, _, _, rfl, I.s8 hd (Joins.below_alloc1 _ _) ⟨_, rfl⟩⟩
    · cases ho
      unfold Oper.wp
      go_simp
      exact hK _ _ ⟨_, _, _, _, _, _, _, _, _, _, _, _, _, _, _, rfl, I.s9 hd (Joins.below_alloc1 _ _) ⟨_, rfl⟩⟩
    · cases ho
      unfold Oper.wp
      go_simp
      exact hK _ _ ⟨_, _, _, _, _, _, _, _, _, _, _, _, _, _, _, rfl, I.s10 hd rfl⟩
    · cases ho
      have p := hp ⟨10, .data⟩ (by simp) rfl
      have e1 := I.f10 p
      subst e1
      unfold Oper.wp
      go_simp
      exact hK _ _ ⟨_, _, _, _, _, _, _, _, _, _, _, _, _, _, _, rfl, I.s11 hd rfl⟩
    · cases ho
      have pa := hp ⟨9, .data⟩ (by simp) rfl
      have pb := hp ⟨11, .data⟩ (by simp) rfl
      have pc := hp ⟨7, .chain⟩ (by simp) rfl
      obtain ⟨g, rfl⟩ := I.f9 pa
      have e1 := I.f11 pb
      subst e1
      refine wp_append_fresh rfl (.tmp 14) (.tmp 16) 22 rfl 3 i0 (.int .i64 0) 1 8 Try.underlying22 hi0 hz0 hz1 hz2 rfl (by omega) rfl a.dq m.data.length a.dc (intV m.data) rfl (by rw [intV_length]; omega) (Is.srcI ((unhide HC).d.below I.b)) (by have := unhide HLL; unfold maxLen; omega) (by have := unhide HLL; omega) ?_
      intro ao cap w2 ho2 hg2
      exact hK _ _ ⟨_, _, _, _, _, _, _, _, _, _, _, _, _, _, _, rfl, I.s12 hd (belowGr (Below.refl _ _) hg2) pc ⟨ao, cap, rfl, ho2⟩⟩
    · cases ho
      have p3 := hp ⟨3, .data⟩ (by simp) rfl
      have p7 := hp ⟨7, .data⟩ (by simp) rfl
      have p8 := hp ⟨8, .data⟩ (by simp) rfl
      have p12 := hp ⟨12, .data⟩ (by simp) rfl
      obtain ⟨q8, c8, rfl, _⟩ := I.f3 p3
      obtain ⟨⟨q12, c12, rfl, _⟩, _⟩ := I.f7 p7
      obtain ⟨g13, rfl⟩ := I.f8 p8
      obtain ⟨⟨q17, c17, rfl, _⟩, _⟩ := I.f12 p12
      unfold Oper.wp
      go_simp
      exact hK _ _ ⟨_, _, _, _, _, _, _, _, _, _, _, _, _, _, _, rfl, I.s13 hd p8 p12 rfl⟩
    · cases ho
      unfold Oper.wp
      go_simp
      exact hK _ _ ⟨_, _, _, _, _, _, _, _, _, _, _, _, _, _, _, rfl, I.s14 hd (Joins.below_alloc1 _ _) rfl I.b.size (VarM.new _ _ _ _ _ _)⟩
    · cases ho
      have p13 := hp ⟨13, .data⟩ (by simp) rfl
      have p14 := hp ⟨14, .data⟩ (by simp) rfl
      obtain ⟨p8, p12⟩ := I.c13 p13
      obtain ⟨q8, c8, rfl, _⟩ := I.f3 (I.c7 (I.c12 p12))
      obtain ⟨⟨q12, c12, rfl, _⟩, _⟩ := I.f7 (I.c12 p12)
      obtain ⟨g13, rfl⟩ := I.f8 p8
      obtain ⟨⟨q17, c17, rfl, _⟩, _⟩ := I.f12 p12
      have e18 := I.f13 p13
      subst e18
      obtain ⟨y, rfl, hy, hv⟩ := I.f14 p14 hd
      obtain ⟨y0, y1, y2, y3⟩ := hv.cells
      obtain ⟨z0, z1, z2, z3⟩ := hv.free
      unfold Oper.wp
      go_simp
      exact hK _ _ ⟨_, _, _, _, _, _, _, _, _, _, _, _, _, _, _, rfl, I.s15 hd p13 p14 rfl hy hv (((((Keep.refl (fun k => k = y) wq).setCell (p := ⟨y, 0, none⟩) rfl _).setCell (p := ⟨y, 1, none⟩) rfl _).setCell (p := ⟨y, 2, none⟩) rfl _).setCell (p := ⟨y, 3, none⟩) rfl _) ((((hv.set0 _).set1 _).set2 _).set3 _)⟩
  case he =>
    intro d f wq hI hall
    obtain ⟨s3, s5, s6, s7, s8, s9, s10, s11, s12, s13, s14, s15, s16, s17, s18, rfl, I⟩ := hI
    obtain ⟨q8, c8, e8, o8⟩ := I.f3 (hall 3 (by decide))
    obtain ⟨⟨q12, c12, e12, o12⟩, a12⟩ := I.f7 (hall 7 (by decide))
    obtain ⟨g13, e13⟩ := I.f8 (hall 8 (by decide))
    obtain ⟨⟨q17, c17, e17, o17⟩, a17, b17⟩ := I.f12 (hall 12 (by decide))
    obtain ⟨y, e3, hy, hv⟩ := I.f15 (hall 15 (by decide))
    subst e8 e12 e13 e17 e3
    have HL0 : Hid (OwL W0 y m q8 c8 q12 c12 q17 c17 wq 0 (some ⟨g13, 0, none⟩) 0 []) := hide ⟨I.b, hv, rfl, .inl ⟨rfl, by simp [snC], _, rfl⟩, by
      refine ⟨fun r hr => ?_, ?_⟩
      · simp only [List.zip_nil_left, List.mem_cons, List.not_mem_nil, or_false] at hr
        rcases hr with rfl | rfl | rfl
        · exact ⟨_, _, rfl, o8⟩
        · exact ⟨_, _, rfl, o12⟩
        · exact ⟨_, _, rfl, o17⟩
      · simp only [List.zip_nil_left, List.pairwise_cons, List.mem_cons, List.not_mem_nil, or_false, forall_eq_or_imp, forall_eq, List.Pairwise.nil, and_true]
        exact ⟨⟨a12, a17⟩, b17, fun _ h => h.elim⟩⟩
    have HY := hide hy
    clear o8 o12 a12 o17 a17 b17 hv hy I hall
    go_wp2
    go_loopw [4] (fun i wr => ∃ (k : Nat) (so : Option Addr) (sc : Nat) (ts : List Value), k ≤ m.snaps.length ∧ i = .int .i64 k ∧ Hid (OwL W0 y m q8 c8 q12 c12 q17 c17 wr k so sc ts)) (fun i _ => m.snaps.length - (intOf i).toNat)
    case atStart => exact ⟨0, _, _, _, Nat.zero_le _, rfl, HL0⟩
    case round =>
      clear HL0
      obtain ⟨k, so, sc, ts, hk, rfl, HL⟩ := hrel
      obtain ⟨c0, c1, c2, c3⟩ := (VarM.below (unhide HV) (unhide HL).b).cells
      by_cases hlt : k < m.snaps.length
      · obtain ⟨b, off, tq, tc, eb, hn0, ht0, hIs, hz, htl⟩ := ((unhide HC).s.below (unhide HL).b) k hlt
        have hlti : (k : Int) < (m.snaps.length : Int) := by omega
        have HIS := hide hIs
        have HTL := hide (unhide HST _ (List.getElem_mem hlt))
        have hbl : b < wr.heap.size := World.block_lt_of_cell? _ _ hn0
        clear hIs hz htl
        go_upto_region 5 with fail
        clear c0 c1 c2 c3
        refine ownG_region (fun d wz s26 s27 s28 s29 s30 s31 s32 s33 s34 s35 s36 s37 s38 s39 s40 s41 s42 s43 s44 s45 => OwJ wr W0.heap.size w.heap.size y k b off m.snaps.length a.sc so sc (snC (m.snaps.take k) ts) m.snaps[k].name tq tc m.snaps[k].table (.slice q8 m.refs.length c8) (.slice q12 m.table.length c12) (.slice q17 m.data.length c17) d wz s26 s27 s28 s29 s30 s31 s32 s33 s34 s35 s36 s37 s38 s39 s40 s41 s42 s43 s44 s45) (by kernel_rfl) (by kernel_rfl) (noG_spec (by kernel_rfl)) ?h0 ?hs ?he
        case h0 => exact ⟨fun _ => (Below.refl _ wr).drew, fun _ => Keep.of_below (Below.refl _ wr).drew, fun h => (by cases h), fun h => (by cases h), fun h => (by cases h), fun h => (by cases h), fun h => (by cases h), fun h => (by cases h), fun h => (by cases h), fun h => (by cases h), fun h => (by cases h), fun h => (by cases h), fun h => (by cases h), fun h => (by cases h), fun h => (by cases h), fun h => (by cases h), fun h => (by cases h), fun h => (by cases h), fun h => (by cases h), fun h => (by cases h), fun h => (by cases h), fun h => (by cases h), fun h => (by cases h)⟩
        case hs =>
          intro d wz i o r26 r27 r28 r29 r30 r31 r32 r33 r34 r35 r36 r37 r38 r39 r40 r41 r42 r43 r44 r45 hc I ho hd hp K hK
          have hi : i < 21 := (List.getElem?_eq_some_iff.1 ho).1
          rcases (show i = 0 ∨ i = 1 ∨ i = 2 ∨ i = 3 ∨ i = 4 ∨ i = 5 ∨ i = 6 ∨ i = 7 ∨ i = 8 ∨ i = 9 ∨ i = 10 ∨ i = 11 ∨ i = 12 ∨ i = 13 ∨ i = 14 ∨ i = 15 ∨ i = 16 ∨ i = 17 ∨ i = 18 ∨ i = 19 ∨ i = 20 by omega) with rfl | rfl | rfl | rfl | rfl | rfl | rfl | rfl | rfl | rfl | rfl | rfl | rfl | rfl | rfl | rfl | rfl | rfl | rfl | rfl | rfl
          · cases ho
            unfold Oper.wp
            go_simp
            exact hK _ _ _ _ _ _ _ _ _ _ _ _ _ _ _ _ _ _ _ _ _ (I.s0 hd rfl)
          · cases ho
            have p := hp ⟨0, .data⟩ (by simp) rfl
            have e1 := I.f0 p
            subst e1
            have h18 := not_yet hc 9 (j := 18) (i := 1) (by kernel_rfl) hd
            have cy := (((unhide HL).v.below (I.b0 h18)).cells).2.2.1
            unfold Oper.wp
            go_simp
            exact hK _ _ _ _ _ _ _ _ _ _ _ _ _ _ _ _ _ _ _ _ _ (I.s1 hd rfl)
          · cases ho
            unfold Oper.wp
            go_simp
            exact hK _ _ _ _ _ _ _ _ _ _ _ _ _ _ _ _ _ _ _ _ _ (I.s2 hd rfl)
          · cases ho
            have p := hp ⟨2, .data⟩ (by simp) rfl
            have e1 := I.f2 p
            subst e1
            have h18 := not_yet hc 9 (j := 18) (i := 3) (by kernel_rfl) hd
            have cx := ((VarM.below (VarM.below (unhide HV) (unhide HL).b) (I.b0 h18)).cells).2.2.1
            rw [eb] at cx
            unfold Oper.wp
            go_simp
            exact hK _ _ _ _ _ _ _ _ _ _ _ _ _ _ _ _ _ _ _ _ _ (I.s3 hd rfl)
          · cases ho
            unfold Oper.wp
            go_simp
            exact hK _ _ _ _ _ _ _ _ _ _ _ _ _ _ _ _ _ _ _ _ _ (I.s4 hd rfl)
          · cases ho
            have p := hp ⟨3, .data⟩ (by simp) rfl
            have e1 := I.f3 p
            subst e1
            have p2 := hp ⟨4, .data⟩ (by simp) rfl
            have e2 := I.f4 p2
            subst e2
            unfold Oper.wp
            go_simp
            exact hK _ _ _ _ _ _ _ _ _ _ _ _ _ _ _ _ _ _ _ _ _ (I.s5 hd (by first | rfl | simp))
          · cases ho
            have p := hp ⟨5, .data⟩ (by simp) rfl
            have e1 := I.f5 p
            subst e1
            unfold Oper.wp
            go_simp
            exact hK _ _ _ _ _ _ _ _ _ _ _ _ _ _ _ _ _ _ _ _ _ (I.s6 hd (by first | rfl | simp))
          · cases ho
            have p := hp ⟨6, .data⟩ (by simp) rfl
            have e1 := I.f6 p
            subst e1
            have h18 := not_yet hc 9 (j := 18) (i := 7) (by kernel_rfl) hd
            have cn := ((I.b0 h18).cell (p := ⟨b, off + k * 2, none⟩) hbl).trans hn0
            unfold Oper.wp
            go_simp
            exact hK _ _ _ _ _ _ _ _ _ _ _ _ _ _ _ _ _ _ _ _ _ (I.s7 hd rfl)
          · cases ho
            have h18 := not_yet hc 9 (j := 18) (i := 8) (by kernel_rfl) hd
            have h20 := not_yet hc 9 (j := 20) (i := 8) (by kernel_rfl) hd
            unfold Oper.wp
            go_simp
            exact hK _ _ _ _ _ _ _ _ _ _ _ _ _ _ _ _ _ _ _ _ _ (I.s8 hd h18 h20 (Joins.below_alloc1 _ _) ⟨_, rfl⟩)
          · cases ho
            unfold Oper.wp
            go_simp
            exact hK _ _ _ _ _ _ _ _ _ _ _ _ _ _ _ _ _ _ _ _ _ (I.s9 hd rfl)
          · cases ho
            have p := hp ⟨9, .data⟩ (by simp) rfl
            have e1 := I.f9 p
            subst e1
            have h18 := not_yet hc 9 (j := 18) (i := 10) (by kernel_rfl) hd
            have cx := ((VarM.below (VarM.below (unhide HV) (unhide HL).b) (I.b0 h18)).cells).2.2.1
            rw [eb] at cx
            unfold Oper.wp
            go_simp
            exact hK _ _ _ _ _ _ _ _ _ _ _ _ _ _ _ _ _ _ _ _ _ (I.s10 hd rfl)
          · cases ho
            unfold Oper.wp
            go_simp
            exact hK _ _ _ _ _ _ _ _ _ _ _ _ _ _ _ _ _ _ _ _ _ (I.s11 hd rfl)
          · cases ho
            have p := hp ⟨10, .data⟩ (by simp) rfl
            have e1 := I.f10 p
            subst e1
            have p2 := hp ⟨11, .data⟩ (by simp) rfl
            have e2 := I.f11 p2
            subst e2
            unfold Oper.wp
            go_simp
            exact hK _ _ _ _ _ _ _ _ _ _ _ _ _ _ _ _ _ _ _ _ _ (I.s12 hd (by first | rfl | simp))
          · cases ho
            have p := hp ⟨12, .data⟩ (by simp) rfl
            have e1 := I.f12 p
            subst e1
            unfold Oper.wp
            go_simp
            exact hK _ _ _ _ _ _ _ _ _ _ _ _ _ _ _ _ _ _ _ _ _ (I.s13 hd (by first | rfl | simp))
          · cases ho
            have p := hp ⟨13, .data⟩ (by simp) rfl
            have e1 := I.f13 p
            subst e1
            have h18 := not_yet hc 9 (j := 18) (i := 14) (by kernel_rfl) hd
            have cn := ((I.b0 h18).cell (p := ⟨b, off + k * 2 + 1, none⟩) hbl).trans ht0
            unfold Oper.wp
            go_simp
            exact hK _ _ _ _ _ _ _ _ _ _ _ _ _ _ _ _ _ _ _ _ _ (I.s14 hd rfl)
          · cases ho
            have h18 := not_yet hc 9 (j := 18) (i := 15) (by kernel_rfl) hd
            have h20 := not_yet hc 9 (j := 20) (i := 15) (by kernel_rfl) hd
            have h16 := not_yet hc 9 (j := 16) (i := 15) (by kernel_rfl) hd
            have h17 := not_yet hc 9 (j := 17) (i := 15) (by kernel_rfl) hd
            have pa := hp ⟨8, .data⟩ (by simp) rfl
            have pb := hp ⟨14, .data⟩ (by simp) rfl
            obtain ⟨g, rfl⟩ := I.f8 pa
            have e1 := I.f14 pb
            subst e1
            refine wp_append_fresh rfl (.tmp 34) (.tmp 40) 22 rfl 3 i0 (.int .i64 0) 1 8 Try.underlying22 hi0 hz0 hz1 hz2 rfl (by omega) rfl tq m.snaps[k].table.length tc (intV m.snaps[k].table) rfl (by rw [intV_length]; omega) (Is.srcI ((unhide HIS).below (I.b0 h18))) (by have := unhide HTL; unfold maxLen; omega) (by have := unhide HTL; omega) ?_
            intro ao cap w2 ho2 hg2
            exact hK _ _ _ _ _ _ _ _ _ _ _ _ _ _ _ _ _ _ _ _ _ (I.s15 hd h18 h20 (belowGr (Below.refl _ _) hg2) h16 h17 ⟨ao, cap, rfl, ho2⟩)
          · cases ho
            have p7 := hp ⟨7, .data⟩ (by simp) rfl
            have p15 := hp ⟨15, .data⟩ (by simp) rfl
            have e1 := I.f7 p7
            subst e1
            obtain ⟨q41, c41, e41, _⟩ := I.f15 p15
            subst e41
            unfold Oper.wp
            go_simp
            exact hK _ _ _ _ _ _ _ _ _ _ _ _ _ _ _ _ _ _ _ _ _ (I.s16 hd rfl)
          · cases ho
            have h18 := not_yet hc 9 (j := 18) (i := 17) (by kernel_rfl) hd
            have h20 := not_yet hc 9 (j := 20) (i := 17) (by kernel_rfl) hd
            have p16 := hp ⟨16, .data⟩ (by simp) rfl
            have p15 := reach_done hc (f := 9) (j := 16) (i := 15) (by kernel_rfl) p16
            obtain ⟨q41, c41, e41, _⟩ := I.f15 p15
            subst e41
            have e1 := I.f16 p16
            subst e1
            unfold Oper.wp
            go_simp
            exact hK _ _ _ _ _ _ _ _ _ _ _ _ _ _ _ _ _ _ _ _ _ (I.s17 hd h18 h20 (Joins.below_alloc1 _ _) rfl (heap_alloc_new _ _))
          · cases ho
            have h20 := not_yet hc 9 (j := 20) (i := 18) (by kernel_rfl) hd
            have pa := hp ⟨1, .data⟩ (by simp) rfl
            have pb := hp ⟨17, .data⟩ (by simp) rfl
            have p15 := reach_done hc (f := 9) (j := 17) (i := 15) (by kernel_rfl) pb
            have e1 := I.f1 pa
            subst e1
            obtain ⟨g, rfl, hcell⟩ := I.f17 pb
            have hcl := hcell hd
            have HSR := hide ((unhide HL).s.below (I.b0 hd))
            refine wp_append_one rfl (.tmp 27) (.tmp 43) 27 rfl W0.heap.size 61 j0 (.agg #[.string ⟨#[]⟩, .slice none 0 0]) 2 40 Try.underlying27 hj0 hy0 hy1 hy2 rfl (by omega) so k sc (snC (m.snaps.take k) ts) rfl (unhide HSR) (by have h1 := (unhide HL).b.size; have h2 := (I.b0 hd).size; omega) ⟨g, 0, none⟩ 1 [.string m.snaps[k].name, r41] rfl rfl (snap_news hcl) (by obtain ⟨q41, c41, e41, _⟩ := I.f15 p15; subst e41; exact snap_one _ _ _ _) (by unfold maxLen; omega) (by omega) ?_
            intro g2 cap2 w2 ho2 hk2
            exact hK _ _ _ _ _ _ _ _ _ _ _ _ _ _ _ _ _ _ _ _ _ (I.s18 hd h20 hk2 rfl ho2 (fun h => own_apart h.row (unhide HSR) (by decide)))
          · cases ho
            unfold Oper.wp
            go_simp
            exact hK _ _ _ _ _ _ _ _ _ _ _ _ _ _ _ _ _ _ _ _ _ (I.s19 hd rfl)
          · cases ho
            have p18 := hp ⟨18, .data⟩ (by simp) rfl
            have p19 := hp ⟨19, .data⟩ (by simp) rfl
            obtain ⟨g2, cap2, e44, ho2⟩ := I.f18 p18
            subst e44
            have e1 := I.f19 p19
            subst e1
            have hvy : VarM wz y 29 (.slice q8 m.refs.length c8) (.slice q12 m.table.length c12) (.slice so k sc) (.slice q17 m.data.length c17) := ((I.b1 hd).block y (unhide HL).v.lt ((unhide HL).s.other (unhide HL).v (by decide))).trans (unhide HL).v
            have cy := hvy.cells.2.2.1
            have fy := hvy.free.2.2.1
            unfold Oper.wp
            go_simp
            exact hK _ _ _ _ _ _ _ _ _ _ _ _ _ _ _ _ _ _ _ _ _ (I.s20 (w2 := wz.setCell ⟨y, 2, none⟩ (.slice (some ⟨g2, 0, none⟩) (k + 1) cap2)) hd p18 ((Keep.refl (fun g => g = y) wz).setCell (p := ⟨y, 2, none⟩) rfl _) (hvy.set2 _) ⟨_, hvy⟩)
        case he =>
          intro d wz r26 r27 r28 r29 r30 r31 r32 r33 r34 r35 r36 r37 r38 r39 r40 r41 r42 r43 r44 r45 I hall
          obtain ⟨g2, cap2, e44, ho2⟩ := I.f18 (hall 18 (by decide))
          subst e44
          have HN := hide (OwL.next (unhide HL) (unhide HY) hlt (I.b2 (hall 20 (by decide))).1 (I.b2 (hall 20 (by decide))).2 ho2 (I.f15 (hall 15 (by decide))))
          clear I hall ho2
          go_wp2
          go_roundw
          case rel => exact ⟨k + 1, _, _, _, by omega, by go_num, HN⟩
          case measure => simp [intOf]; omega
      · have hkl : k = m.snaps.length := by omega
        subst hkl
        have HOI : Hid (OwnIm wr W0.heap.size ⟨q8, c8, q12, c12, so, sc, q17, c17⟩ m ts) := hide ⟨(unhide HL).l.symm, by have := (unhide HL).s; rw [List.take_length] at this; exact this.toS, by have := (unhide HL).r; rwa [List.take_length] at this⟩
        have HC0 : Hid (m.snaps.length = 0 → sc = 0) := hide (fun h => (unhide HL).s.cap0 h)
        have HRR := hide (VarM.below (unhide HR) (unhide HL).b)
        have HPT := hide (ImSt.put (unhide HRR) (unhide HOI) (fr (unhide HA) (unhide HL).b) (Nat.le_succ _) (unhide HR).lt ⟨q8, c8, q12, c12, so, sc, q17, c17⟩ m)
        obtain ⟨d0, d1, d2, d3⟩ := (unhide HL).v.cells
        obtain ⟨r0, r1, r2, r3⟩ := (unhide HRR).cells
        obtain ⟨z0, z1, z2, z3⟩ := (unhide HRR).free
        go_wp2
        exact bodyPost_ret (res_im Try.results36 rfl (unhide HPT).1) rfl ⟨⟨q8, c8, q12, c12, so, sc, q17, c17⟩, rfl, ⟨ts, ⟨(unhide HPT).2.1.base (unhide HA).size, unhide HC0⟩⟩, (unhide HPT).2.2⟩
theorem l10Own_any (a : Im4) (m : Img) (w : World) (hL : m.refs.length ≤ 1048576 ∧ m.table.length ≤ 1048576 ∧ m.data.length ≤ 1048576) (hst : ∀ s ∈ m.snaps, s.table.length ≤ 1048576) (hs1 : m.snaps.length ≤ 1048576) (hc : ImS w a m) :
    Calls Try.prog 36 #[imV a m] w fun e w' => ∃ a' ts, e = .returned (imV a' m) ∧ OwnIm w' w.heap.size a' m ts ∧ Below w.heap.size w w' := (l10Own_full a m w hL hst hs1 hc).mono fun e w' ⟨a', ts, h1, h2, h3⟩ => ⟨a', ts, h1, h2.1, h3⟩

end Go.Proofs.Ytjoafbkcnnhdiab

/- An owned image in a variable, the result's variable beside it; l10Write of the model. (Made ahead of stage 10.) -/
namespace Go.Proofs.Ytjoafbkcnnhdiab
open Go.RowKit
set_option linter.unusedVariables false
set_option maxRecDepth 100000

/-- An image of the call's own in a variable, its lists as long as another's; the result's variable beside it. -/
structure ImQ (w W : World) (B : Nat) (a : Im4) (m0 m : Img) (ts : List Value) : Prop where
  v : VarM W w.heap.size 29 (.slice a.ro m0.refs.length a.rc) (.slice a.tq m0.table.length a.tc) (.slice a.so m0.snaps.length a.sc) (.slice a.dq m0.data.length a.dc)
  r : VarM W (w.heap.size + 1) 29 (.slice none 0 0) (.slice none 0 0) (.slice none 0 0) (.slice none 0 0)
  o : OwnIm W B a m ts
  b : Below w.heap.size w W
  hB : w.heap.size + 2 ≤ B
  e1 : m.refs.length = m0.refs.length
  e2 : m.table.length = m0.table.length
  e3 : m.snaps.length = m0.snaps.length
  e4 : m.data.length = m0.data.length
theorem ImQ.val {w W : World} {B : Nat} {a : Im4} {m0 m : Img} {ts : List Value} (h : ImQ w W B a m0 m ts) : imV a m0 = imV a m := by rw [imV, imV, h.e1, h.e2, h.e3, h.e4]

/-- The world behind an image's being put into a variable. -/
abbrev putI (W : World) (x : Nat) (a : Im4) (m : Img) : World := (((W.setCell ⟨x, 0, none⟩ (.slice a.ro m.refs.length a.rc)).setCell ⟨x, 1, none⟩ (.slice a.tq m.table.length a.tc)).setCell ⟨x, 2, none⟩ (.slice a.so m.snaps.length a.sc)).setCell ⟨x, 3, none⟩ (.slice a.dq m.data.length a.dc)
theorem ImQ.put {w W : World} {B : Nat} {v0 v1 v2 v3 : Value} {a : Im4} {m0 m : Img} {ts : List Value} (hv : VarM W w.heap.size 29 v0 v1 v2 v3) (hr : VarM W (w.heap.size + 1) 29 (.slice none 0 0) (.slice none 0 0) (.slice none 0 0) (.slice none 0 0)) (ho : OwnIm W B a m ts) (hb : Below w.heap.size w W) (hB : w.heap.size + 2 ≤ B) (e1 : m.refs.length = m0.refs.length) (e2 : m.table.length = m0.table.length) (e3 : m.snaps.length = m0.snaps.length) (e4 : m.data.length = m0.data.length) : ImQ w (putI W w.heap.size a m0) B a m0 m ts := by
  obtain ⟨h1, h2, h3⟩ := ImSt.put hv ho hb (Nat.le_refl _) (by omega) a m0
  exact ⟨h1, (((hr.other (p := ⟨w.heap.size, 0, none⟩) (by simp) _).other (p := ⟨w.heap.size, 1, none⟩) (by simp) _).other (p := ⟨w.heap.size, 2, none⟩) (by simp) _).other (p := ⟨w.heap.size, 3, none⟩) (by simp) _, h2, h3, hB, e1, e2, e3, e4⟩
theorem ImQ.again {w W : World} {B : Nat} {a : Im4} {m0 m : Img} {ts : List Value} (h : ImQ w W B a m0 m ts) : ImQ w (putI W w.heap.size a m0) B a m0 m ts := ImQ.put h.v h.r h.o h.b h.hB h.e1 h.e2 h.e3 h.e4
theorem ImQ.fin {w W : World} {B : Nat} {a : Im4} {m0 m : Img} {ts : List Value} (h : ImQ w W B a m0 m ts) : VarM (putI W (w.heap.size + 1) a m0) (w.heap.size + 1) 29 (.slice a.ro m0.refs.length a.rc) (.slice a.tq m0.table.length a.tc) (.slice a.so m0.snaps.length a.sc) (.slice a.dq m0.data.length a.dc) ∧ OwnIm (putI W (w.heap.size + 1) a m0) w.heap.size a m ts ∧ Below w.heap.size w (putI W (w.heap.size + 1) a m0) := by
  obtain ⟨h1, h2, h3⟩ := ImSt.put h.r h.o h.b (Nat.le_succ _) (by have := h.hB; omega) a m0
  exact ⟨h1, h2.base (by have := h.hB; omega), h3⟩
theorem ImQ.turn {w W W' : World} {B : Nat} {a : Im4} {m0 m m' : Img} {ts : List Value} (h : ImQ w W B a m0 m ts) (hk : Keep (ImB a m ts) W W') (ho : OwnIm W' B a m' ts) (e1 : m'.refs.length = m.refs.length) (e2 : m'.table.length = m.table.length) (e3 : m'.snaps.length = m.snaps.length) (e4 : m'.data.length = m.data.length) : ImQ w W' B a m0 m' ts :=
  ⟨h.v.keepIm h.o hk, h.r.keepIm h.o hk, ho, h.b.trans (hk.below h.b.size (fun g hg => by have := (h.o.ge g hg).1; have := h.hB; omega)), h.hB, e1.trans h.e1, e2.trans h.e2, e3.trans h.e3, e4.trans h.e4⟩
theorem ImQ.setR {w W : World} {B c : Nat} {a : Im4} {m0 m : Img} {ts : List Value} (h : ImQ w W B a m0 m ts) (hc : c < m.refs.length) : ∃ g, a.ro = some ⟨g, 0, none⟩ ∧ W.cell? ⟨g, c, none⟩ = some (.int .i64 m.refs[c]) ∧ W.frozen? ⟨g, c, none⟩ = false ∧ ∀ y, ImQ w (W.setCell ⟨g, c, none⟩ (.int .i64 y)) B a m0 { m with refs := m.refs.set c y } ts := by
  obtain ⟨g, e, h1, h2, h3, h4⟩ := h.o.setR hc
  exact ⟨g, e, h1, h2, fun y => h.turn ((Keep.refl _ W).setCell (p := ⟨g, c, none⟩) h3 _) (h4 y) (by simp) rfl rfl rfl⟩
theorem ImQ.setT {w W : World} {B c : Nat} {a : Im4} {m0 m : Img} {ts : List Value} (h : ImQ w W B a m0 m ts) (hc : c < m.table.length) : ∃ g, a.tq = some ⟨g, 0, none⟩ ∧ W.cell? ⟨g, c, none⟩ = some (.int .i64 m.table[c]) ∧ W.frozen? ⟨g, c, none⟩ = false ∧ ∀ y, ImQ w (W.setCell ⟨g, c, none⟩ (.int .i64 y)) B a m0 { m with table := m.table.set c y } ts := by
  obtain ⟨g, e, h1, h2, h3, h4⟩ := h.o.setT hc
  exact ⟨g, e, h1, h2, fun y => h.turn ((Keep.refl _ W).setCell (p := ⟨g, c, none⟩) h3 _) (h4 y) rfl (by simp) rfl rfl⟩
theorem ImQ.setD {w W : World} {B c : Nat} {a : Im4} {m0 m : Img} {ts : List Value} (h : ImQ w W B a m0 m ts) (hc : c < m.data.length) : ∃ g, a.dq = some ⟨g, 0, none⟩ ∧ W.cell? ⟨g, c, none⟩ = some (.int .i64 m.data[c]) ∧ W.frozen? ⟨g, c, none⟩ = false ∧ ∀ y, ImQ w (W.setCell ⟨g, c, none⟩ (.int .i64 y)) B a m0 { m with data := m.data.set c y } ts := by
  obtain ⟨g, e, h1, h2, h3, h4⟩ := h.o.setD hc
  exact ⟨g, e, h1, h2, fun y => h.turn ((Keep.refl _ W).setCell (p := ⟨g, c, none⟩) h3 _) (h4 y) rfl rfl rfl (by simp)⟩
theorem imDrop_lens (m : Img) (e : Int) : (imDrop m e).refs.length = m.refs.length ∧ (imDrop m e).table.length = m.table.length ∧ (imDrop m e).snaps.length = m.snaps.length ∧ (imDrop m e).data.length = m.data.length := ⟨imDrop_refs m e, by rw [(imDrop_table m e).1], by rw [(imDrop_table m e).2], imDrop_data m e⟩

/-- What is known of a right image. -/
structure ImM (m : Img) : Prop where
  r : m.refs.length = 24
  d : m.data.length = 24
  t : m.table.length ≤ 12
  s : m.snaps.length ≤ 3
  st : ∀ s ∈ m.snaps, s.table.length ≤ 12 ∧ s.name.size ≤ 6
  tv : ∀ i (h : i < m.table.length), 0 ≤ m.table[i] ∧ m.table[i] ≤ 25
  sv : ∀ s ∈ m.snaps, ∀ i (h : i < s.table.length), 0 ≤ s.table[i] ∧ s.table[i] ≤ 25
  rv : ∀ c (h : c < m.refs.length), 0 ≤ m.refs[c] ∧ m.refs[c] ≤ 15
theorem ImR.M {m : Img} (h : ImR m) : ImM m := by
  refine ⟨ctB_len h.refs, h.len, tbB_len h.table, h.few, fun s hs => ⟨tbB_len (h.snaps s hs).2, ?_⟩, tbB_at h.table, fun s hs => tbB_at (h.snaps s hs).2, ctB_at h.refs⟩
  have := (h.snaps s hs).1
  simp only [snmB, Bool.and_eq_true] at this
  have := betw_iff.1 this.2
  omega
theorem ImM.L {m : Img} (h : ImM m) : ImL m := ⟨by rw [h.r]; unfold maxLen; omega, by have := h.t; unfold maxLen; omega, by have := h.s; unfold maxLen; omega, by rw [h.d]; unfold maxLen; omega⟩
theorem ImM.zs {m : Img} (h : ImM m) : ∀ s ∈ m.snaps, s.name.size ≤ maxLen ∧ s.table.length ≤ maxLen := fun s hs => by have := h.st s hs; unfold maxLen; omega
/-- l10Own at an image like a right one. -/
theorem l10Own_M (a : Im4) (m : Img) (w : World) (hM : ImM m) (hc : ImS w a m) :
    Calls Try.prog 36 #[imV a m] w fun e w' => ∃ a' ts, e = .returned (imV a' m) ∧ OwnIm w' w.heap.size a' m ts ∧ Below w.heap.size w w' :=
  l10Own_any a m w ⟨by rw [hM.r]; omega, by have := hM.t; omega, by rw [hM.d]; omega⟩ (fun s hs => by have := (hM.st s hs).1; omega) (by have := hM.s; omega) hc
theorem l10Own_F (a : Im4) (m : Img) (w : World) (hM : ImM m) (hc : ImS w a m) :
    Calls Try.prog 36 #[imV a m] w fun e w' => ∃ a' ts, e = .returned (imV a' m) ∧ OwnF w' w.heap.size a' m ts ∧ Below w.heap.size w w' :=
  l10Own_full a m w ⟨by rw [hM.r]; omega, by have := hM.t; omega, by rw [hM.d]; omega⟩ (fun s hs => by have := (hM.st s hs).1; omega) (by have := hM.s; omega) hc
theorem l10Drop_M (a : Im4) (m : Img) (ts : List Value) (B : Nat) (e : Int) (w : World) (he0 : 0 ≤ e) (he1 : e ≤ 25) (hr : m.refs.length = 24) (hd : m.data.length = 24) (hv : ∀ c (h : c < m.refs.length), -1000 ≤ m.refs[c] ∧ m.refs[c] ≤ 1000) (ho : OwnIm w B a m ts) :
    Calls Try.prog 64 #[imV a m, .int .i64 e] w fun r w' => r = .returned (imV a m) ∧ OwnIm w' B a (imDrop m e) ts ∧ Keep (ImB a m ts) w w' :=
  l10Drop_any a m ts B e w (by omega) (by omega) (by rw [hr]; omega) (by rw [hd]; omega) ⟨by omega, by omega⟩ hv ho

theorem imWrite_in {m : Img} {g c : Nat} {v : Int} (hg : g < m.table.length) (hc : m.table[g] = (c : Int) + 2) (hr : c < m.refs.length) (h1 : m.refs[c] = 1) : imWrite m g v = ({ m with data := m.data.set c v }, 0) := by
  have e : m.table.getD g 0 = (c : Int) + 2 := by simp [List.getD, hg, hc]
  have e2 : ((c : Int) + 2 - 2).toNat = c := by omega
  have e3 : m.refs.getD c 0 = 1 := by simp [List.getD, hr, h1]
  unfold imWrite
  simp only [e, e2, e3]
  rw [if_pos ⟨by omega, trivial⟩]
theorem imWrite_out {m : Img} {g : Nat} {v : Int} (hg : g < m.table.length) (hn : ¬ (2 ≤ m.table[g] ∧ m.refs.getD (m.table[g] - 2).toNat 0 = 1)) : imWrite m g v = if frN m.refs < m.refs.length then ({ imDrop m m.table[g] with refs := (imDrop m m.table[g]).refs.set (frN m.refs) 1, data := (imDrop m m.table[g]).data.set (frN m.refs) v, table := (imDrop m m.table[g]).table.set g (2 + (frN m.refs : Int)) }, 0) else (m, 7) := by
  have e : m.table.getD g 0 = m.table[g] := by simp [List.getD, hg]
  unfold imWrite
  simp only [e]
  rw [if_neg hn]

end Go.Proofs.Ytjoafbkcnnhdiab

/- What the laws over images carry along. (Made ahead of stage 10.) -/
namespace Go.Proofs.Ytjoafbkcnnhdiab
open Go.RowKit
set_option linter.unusedVariables false
set_option maxRecDepth 100000

/-- How great an image's lists are, for marks. -/
structure ImBd (m : Img) : Prop where
  r : m.refs.length ≤ 1048576
  t : m.table.length ≤ 1048576
  s : m.snaps.length ≤ 1048576
  d : m.data.length ≤ 1048576
  st : ∀ s ∈ m.snaps, s.table.length ≤ 1048576 ∧ s.name.size ≤ 1048576
  k : snK m.snaps ≤ 4194304
theorem snK_sz (ss : List Snp) : snK ss ≤ ss.length + snSz ss := by
  induction ss with
  | nil => exact Nat.le_refl _
  | cons s ss ih =>
    simp only [snK, snSz, List.map_cons, List.sum_cons, List.length_cons] at ih ⊢
    have e : sn1 s = s.name.size + s.table.length := rfl
    omega
theorem ImBd.of {m : Img} (h : imSz m ≤ 1048576) : ImBd m := by
  unfold imSz at h
  refine ⟨by omega, by omega, by omega, by omega, fun s hs => ?_, ?_⟩
  · obtain ⟨i, hi, rfl⟩ := List.mem_iff_getElem.1 hs
    have := sn_le hi
    unfold sn1 at this
    omega
  · have := snK_sz m.snaps
    omega
theorem ImBd.zs {m : Img} (h : ImBd m) : ∀ s ∈ m.snaps, s.name.size ≤ maxLen ∧ s.table.length ≤ maxLen := fun s hs => by have := h.st s hs; unfold maxLen; omega
theorem ImBd.M {m : Img} (h : ImM m) : ImBd m := by
  refine ⟨by rw [h.r]; omega, by have := h.t; omega, by have := h.s; omega, by rw [h.d]; omega, fun s hs => by have := h.st s hs; omega, ?_⟩
  have hs := h.s
  have hst := h.st
  have : ∀ ss : List Snp, (∀ s ∈ ss, s.table.length ≤ 12 ∧ s.name.size ≤ 6) → snK ss ≤ 13 * ss.length := by
    intro ss
    induction ss with
    | nil => intro _; exact Nat.le_refl _
    | cons s ss ih =>
      intro hh
      have h1 := hh s (by simp)
      have h2 := ih (fun s hs => hh s (by simp [hs]))
      simp only [snK, List.map_cons, List.sum_cons, List.length_cons] at h2 ⊢
      omega
  have := this m.snaps hst
  omega
theorem ImBd.zero : ImBd im0 := ⟨by simp [im0], by simp [im0], by simp [im0], by simp [im0], fun s hs => by simp [im0] at hs, by simp [im0, snK]⟩
/-- A variable with an image of its own, whose rows lie behind a place. -/
structure LwV (W : World) (p n : Nat) (a : Im4) (m : Img) (ts : List Value) : Prop where
  v : VarM W p 29 (.slice a.ro m.refs.length a.rc) (.slice a.tq m.table.length a.tc) (.slice a.so m.snaps.length a.sc) (.slice a.dq m.data.length a.dc)
  o : OwnIm W n a m ts
  n : n ≤ W.heap.size
theorem LwV.new (W : World) (a : Im4) (m : Img) {n : Nat} {ts : List Value} (h : OwnIm W n a m ts) (hn : n ≤ W.heap.size) : LwV (W.alloc (.cells #[.slice a.ro m.refs.length a.rc, .slice a.tq m.table.length a.tc, .slice a.so m.snaps.length a.sc, .slice a.dq m.data.length a.dc] 29)) W.heap.size n a m ts :=
  ⟨VarM.new W _ _ _ _ _, h.below (Joins.below_alloc1 _ _), by simp; omega⟩
theorem LwV.below {W W' : World} {p n : Nat} {a : Im4} {m : Img} {ts : List Value} (h : LwV W p n a m ts) (hb : Below W.heap.size W W') : LwV W' p n a m ts := ⟨h.v.below hb, h.o.below hb, Nat.le_trans h.n hb.size⟩
/-- Another image's rows are turned. -/
theorem LwV.keep {W W' : World} {p n q n' : Nat} {a b : Im4} {m m' : Img} {ts us : List Value} (h : LwV W p n a m ts) (h2 : LwV W q n' b m' us) (hk : Keep (ImB b m' us) W W') (hs : ∀ g, ImB a m ts g → ¬ ImB b m' us g) : LwV W' p n a m ts :=
  ⟨h.v.keepIm h2.o hk, h.o.keep hk hs, Nat.le_trans h.n hk.size⟩
theorem OwnIm.otherL {w : World} {B x : Nat} {a : Im4} {m : Img} {ts : List Value} {v0 v1 v2 v3 : Value} (h : OwnIm w B a m ts) (hv : VarM w x 25 v0 v1 v2 v3) : ¬ ImB a m ts x := by
  intro hx
  rcases hx with h1 | h1 | h1 | h1 | ⟨t, ht, h1⟩
  · exact (h.rows.own (.slice a.ro m.refs.length a.rc, m.refs) (by simp [imRows])).row.other hv (by decide) h1
  · exact (h.rows.own (.slice a.tq m.table.length a.tc, m.table) (by simp [imRows])).row.other hv (by decide) h1
  · exact (h.rows.own (.slice a.dq m.data.length a.dc, m.data) (by simp [imRows])).row.other hv (by decide) h1
  · exact h.s.other hv (by decide) h1
  · have hm : t ∈ (ts.zip (m.snaps.map (·.table))).map Prod.fst := by rw [zip_fst _ _ (by rw [List.length_map, h.len])]; exact ht
    obtain ⟨p, hp, rfl⟩ := List.mem_map.1 hm
    exact (h.rows.own p (by simp [imRows, hp])).row.other hv (by decide) h1
theorem toImage_B (a : Im4) (m : Img) (w : World) (h : ImBd m) (hc : ImS w a m) :
    Calls Try.prog 11 #[imV a m] w fun e w' => ∃ a' ts, e = .returned (imV a' m) ∧ OwnIm w' w.heap.size a' m ts ∧ Below w.heap.size w w' :=
  toImage_any a m w h.r h.t h.s h.d (fun s hs => (h.st s hs).1) hc
theorem eqImage_B (a b : Im4) (m : Img) (w : World) (h : ImBd m) (h1 : ImS w a m) (h2 : ImS w b m) :
    Calls Try.prog 13 #[imV a m, imV b m] w fun e w' => e = .returned (.bool true) ∧ Below w.heap.size w w' :=
  eqImage_same a b m w (by have := h.r; unfold maxLen; omega) (by have := h.t; unfold maxLen; omega) (by have := h.s; unfold maxLen; omega) (by have := h.d; unfold maxLen; omega) h1 h2
theorem markImage_B (a : Im4) (m : Img) (ts : List Value) (B : Nat) (w : World) (h : ImBd m) (ho : OwnIm w B a m ts) :
    Calls Try.prog 14 #[imV a m, .int .i64 1] w fun e w' => e = .returned (.int .i64 ((1 + imK m : Nat) : Int)) ∧ OwnIm w' B a (mkIm 1 m) ts ∧ Keep (ImB a m ts) w w' :=
  markImage_any a m ts 1 B w h.r h.t h.s h.d (fun s hs => (h.st s hs).1) h.k (by omega) (by omega) ho
theorem heldImage_B (a : Im4) (m : Img) (ts : List Value) (B : Nat) (w : World) (h : ImBd m) (ho : OwnIm w B a (mkIm 1 m) ts) :
    Calls Try.prog 15 #[imV a m, .int .i64 1] w fun e w' => e = .returned (.int .i64 ((1 + imK m : Nat) : Int)) ∧ Below w.heap.size w w' :=
  heldImage_any a m ts 1 B w h.r h.t h.s h.d (fun s hs => (h.st s hs).1) h.k (by omega) (by omega) ho

end Go.Proofs.Ytjoafbkcnnhdiab

/- A region that draws its order, whose operations only read, and whose callees may lay memory of their own: one walk in the order of the text, at the class of worlds behind a given one. -/
namespace Go.Proofs.Ytjoafbkcnnhdiab
open Go.RowKit
set_option linter.unusedVariables false

section
variable {P : Program} {ops : Array Oper}
abbrev CB (W : World) : World → Prop := fun w => Below W.heap.size W w
theorem quiet_val {W : World} {Q : Act → Prop} {a : Act} {o : Oper} {rest : List Oper} (v : Value) (hg : o.guard = none) (hv : ∀ w, Below W.heap.size W w → (execOp a.eval o).run P w = .ok (.value v) w) (h : wpQuiet P ops (CB W) Q rest (a.put o.dst v)) : wpQuiet P ops (CB W) Q (o :: rest) a := by
  refine wpQuiet_step fun K hK => ?_
  rw [if_pos (by simp [Region.wanted, hg])]
  refine ⟨v, fun w hw => ?_, hK _ h⟩
  unfold Oper.quietAt
  rw [hv w hw]
  exact ⟨rfl, rfl⟩
theorem quiet_call {W : World} {Q : Act → Prop} {a : Act} {o : Oper} {rest : List Oper} (v : Value) (f : FuncId) (args : Array Value) (hg : o.guard = none) (hv : ∀ w, (execOp a.eval o).run P w = .ok (.enter f args) w) (hc : ∀ w, Below W.heap.size W w → Calls P f args w fun e w' => e = .returned v ∧ Below w.heap.size w w') (h : wpQuiet P ops (CB W) Q rest (a.put o.dst v)) : wpQuiet P ops (CB W) Q (o :: rest) a := by
  refine wpQuiet_step fun K hK => ?_
  rw [if_pos (by simp [Region.wanted, hg])]
  refine ⟨v, fun w hw => ?_, hK _ h⟩
  unfold Oper.quietAt
  rw [hv w]
  exact ⟨rfl, (hc w hw).mono fun e w' ⟨he, hb⟩ => ⟨he, fr hw hb⟩⟩
theorem wp_region_cb {id : Nat} {Q : Exit → Act → World → Prop} {a : Act} {w : World} {l : List Oper} (hm : P.follows .mixedOrders = true) (hB : Region.lexB .any l.toArray = true)
    (h : wpQuiet P l.toArray (CB w) (fun a' => ∀ w', Below w.heap.size w w' → Q .normal a' w') l a) : (Code.region id l.toArray true).wp P Q a w :=
  wp_region_quiet (C := CB w) hm hB (Below.refl _ w).drew (by simpa using h)
end

end Go.Proofs.Ytjoafbkcnnhdiab

/- Contracts of the model's ReadCluster, WriteCluster. (Made ahead of stage 10.) -/
namespace Go.Proofs.Ytjoafbkcnnhdiab
open Go.RowKit
set_option linter.unusedVariables false
set_option maxRecDepth 100000

/-- What the calls answer. -/
def rcA (m : Img) (g : Int) : Int × Int := if imB m = true then (if betw g 0 ((m.table.length : Int) - 1) = true then (imVal m (m.table.getD g.toNat 0), 0) else (0, 4)) else (0, 1)
def wcA (m : Img) (g v : Int) : Img × Int := if imB m = true then (if betw g 0 ((m.table.length : Int) - 1) = true ∧ numB v = true then imWrite m g.toNat v else (m, 4)) else (im0, 1)
def zcA (m : Img) (g : Int) : Img × Int := if imB m = true then (if betw g 0 ((m.table.length : Int) - 1) = true then (imZero m g.toNat, 0) else (m, 4)) else (im0, 1)
def rsA' (m : Img) (n : Int) : Img × Int := if imB m = true then (if betw n 0 12 = true then (imResize m n.toNat, 0) else (m, 4)) else (im0, 1)
/-- The entry's variable, the result's beside it. -/
structure ImE (w W : World) (a : Im4) (m : Img) : Prop where
  v : VarM W w.heap.size 29 (.slice a.ro m.refs.length a.rc) (.slice a.tq m.table.length a.tc) (.slice a.so m.snaps.length a.sc) (.slice a.dq m.data.length a.dc)
  r : VarM W (w.heap.size + 1) 29 (.slice none 0 0) (.slice none 0 0) (.slice none 0 0) (.slice none 0 0)
  s : ImS W a m
  b : Below w.heap.size w W
theorem ImE.new (w : World) (a : Im4) (m : Img) (h : ImS w a m) : ImE w ((w.alloc (.cells #[.slice a.ro m.refs.length a.rc, .slice a.tq m.table.length a.tc, .slice a.so m.snaps.length a.sc, .slice a.dq m.data.length a.dc] 29)).alloc (.cells #[.slice none 0 0, .slice none 0 0, .slice none 0 0, .slice none 0 0] 29)) a m :=
  ⟨(VarM.new w _ _ _ _ _).below (Joins.below_alloc1 _ _), (VarM.new (w.alloc _) _ _ _ _ _).at (by simp), h.below (Joins.below_alloc2 _ _ _), Joins.below_alloc2 _ _ _⟩
theorem ImE.below {w W W' : World} {a : Im4} {m : Img} (h : ImE w W a m) (hb : Below W.heap.size W W') : ImE w W' a m := ⟨h.v.below hb, h.r.below hb, h.s.below hb, fr h.b hb⟩
/-- A result that is put. -/
theorem ImE.put {w W W' : World} {a : Im4} {m : Img} (h : ImE w W a m) (hb : Below W.heap.size W W') {a' : Im4} {m' : Img} {ts : List Value} (ho : OwnIm W' W.heap.size a' m' ts) :
    VarM (putI W' (w.heap.size + 1) a' m') (w.heap.size + 1) 29 (.slice a'.ro m'.refs.length a'.rc) (.slice a'.tq m'.table.length a'.tc) (.slice a'.so m'.snaps.length a'.sc) (.slice a'.dq m'.data.length a'.dc) ∧ OwnIm (putI W' (w.heap.size + 1) a' m') w.heap.size a' m' ts ∧ Below w.heap.size w (putI W' (w.heap.size + 1) a' m') := by
  obtain ⟨h1, h2, h3⟩ := ImSt.put (h.r.below hb) ho (fr h.b hb) (Nat.le_succ _) h.r.lt a' m'
  exact ⟨h1, h2.base h.b.size, h3⟩
/-- The empty image as a result. -/
theorem ImE.zero {w W : World} {a : Im4} {m : Img} (h : ImE w W a m) :
    VarM ((((W.setCell ⟨w.heap.size + 1, 0, none⟩ (.slice none 0 0)).setCell ⟨w.heap.size + 1, 1, none⟩ (.slice none 0 0)).setCell ⟨w.heap.size + 1, 2, none⟩ (.slice none 0 0)).setCell ⟨w.heap.size + 1, 3, none⟩ (.slice none 0 0)) (w.heap.size + 1) 29 (.slice none 0 0) (.slice none 0 0) (.slice none 0 0) (.slice none 0 0) ∧
    Below w.heap.size w ((((W.setCell ⟨w.heap.size + 1, 0, none⟩ (.slice none 0 0)).setCell ⟨w.heap.size + 1, 1, none⟩ (.slice none 0 0)).setCell ⟨w.heap.size + 1, 2, none⟩ (.slice none 0 0)).setCell ⟨w.heap.size + 1, 3, none⟩ (.slice none 0 0)) :=
  ⟨(((h.r.set0 _).set1 _).set2 _).set3 _, (((h.b.setCell (p := ⟨w.heap.size + 1, 0, none⟩) (Nat.le_succ _) _).setCell (p := ⟨w.heap.size + 1, 1, none⟩) (Nat.le_succ _) _).setCell (p := ⟨w.heap.size + 1, 2, none⟩) (Nat.le_succ _) _).setCell (p := ⟨w.heap.size + 1, 3, none⟩) (Nat.le_succ _) _⟩
/-- An answer: an image of its own and a code. -/
def AnsI (w w' : World) (e : Ending) (R : Img × Int) : Prop := ∃ a ts, e = .returned (.tuple #[imV a R.1, .int .i64 R.2]) ∧ OwnIm w' w.heap.size a R.1 ts ∧ Below w.heap.size w w'
theorem AnsI.of {w w' : World} {v : Value} {c : Int} {R : Img × Int} {a : Im4} {ts : List Value} (hv : v = imV a R.1) (hc : c = R.2) (ho : OwnIm w' w.heap.size a R.1 ts) (hb : Below w.heap.size w w') : AnsI w w' (.returned (.tuple #[v, .int .i64 c])) R := ⟨a, ts, by rw [hv, hc], ho, hb⟩
theorem AnsI.bad {w w' : World} (c : Int) (hb : Below w.heap.size w w') : AnsI w w' (.returned (.tuple #[.agg #[.slice none 0 0, .slice none 0 0, .slice none 0 0, .slice none 0 0], .int .i64 c])) (im0, c) := ⟨⟨none, 0, none, 0, none, 0, none, 0⟩, [], rfl, OwnIm.zero _ _, hb⟩

end Go.Proofs.Ytjoafbkcnnhdiab

/- Plain: what check and repair answer. -/
namespace Go.Proofs.Ytjoafbkcnnhdiab
open Go.RowKit
set_option linter.unusedVariables false

/-- A right answer: a row of numbers and a code. -/
def AnsN (W w' : World) (e : Ending) (R : List Int × Int) : Prop := ∃ qo qa, e = .returned (.tuple #[.slice qo R.1.length qa, .int .i64 R.2]) ∧ OwnR w' W.heap.size 3 1 (.slice qo R.1.length qa) R.1.length (intV R.1) ∧ Below W.heap.size W w'
/-- Right but for counts and for data of clusters that no table has. -/
def ckB (m : Img) : Bool := imFm m && (imTabs m).all onceB
/-- Those of the first k clusters of which told and found are as is looked for. -/
def ckL (p : Int → Int → Bool) (ts fs : List Int) : Nat → List Int
  | 0 => []
  | k + 1 => ckL p ts fs k ++ (if p (ts.getD k 0) (fs.getD k 0) then [(k : Int)] else [])
theorem ckL_len (p : Int → Int → Bool) (ts fs : List Int) (k : Nat) : (ckL p ts fs k).length ≤ k := by
  induction k with
  | zero => simp [ckL]
  | succ k ih => simp only [ckL, List.length_append]; split <;> simp <;> omega
theorem ckL_yes {p : Int → Int → Bool} {ts fs : List Int} {k : Nat} (h1 : k < ts.length) (h2 : k < fs.length) (h : p ts[k] fs[k] = true) : ckL p ts fs (k + 1) = ckL p ts fs k ++ [(k : Int)] := by
  simp [ckL, List.getD, List.getElem?_eq_getElem h1, List.getElem?_eq_getElem h2, h]
theorem ckL_no {p : Int → Int → Bool} {ts fs : List Int} {k : Nat} (h1 : k < ts.length) (h2 : k < fs.length) (h : p ts[k] fs[k] = false) : ckL p ts fs (k + 1) = ckL p ts fs k := by
  simp [ckL, List.getD, List.getElem?_eq_getElem h1, List.getElem?_eq_getElem h2, h]
theorem ret_sn {q : Option Addr} {n n' c : Nat} {a b : Int} (h : n = n') (k : a = b) : Ending.returned (.tuple #[.slice q n c, .int .i64 a]) = .returned (.tuple #[.slice q n' c, .int .i64 b]) := by rw [h, k]
def neP (t f : Int) : Bool := t != f
def gtP (t f : Int) : Bool := decide (f < t)
/-- What CountRefs, WrongRefs, Leaks answer. -/
def crA (m : Img) : List Int × Int := if ckB m then (imCnt m, 0) else ([], 1)
def wlA (p : Int → Int → Bool) (m : Img) : List Int × Int := if ckB m then (ckL p m.refs (imCnt m) 24, 0) else ([], 1)
theorem crA_len (m : Img) : (crA m).1.length ≤ 1000 := by
  unfold crA
  split
  · rw [imCnt_len]; omega
  · simp
theorem wlA_len (p : Int → Int → Bool) (m : Img) : (wlA p m).1.length ≤ 1000 := by
  unfold wlA
  split
  · have := ckL_len p m.refs (imCnt m) 24; simp only; omega
  · simp
theorem ck_fm {m : Img} (h : imFm m = false) : ckB m = false := by simp [ckB, h]
theorem ck_once {m : Img} {t : List Int} (ht : t ∈ imTabs m) (h : onceB t = false) : ckB m = false := by
  have e : (imTabs m).all onceB = false := by
    cases hh : (imTabs m).all onceB with
    | false => rfl
    | true => rw [List.all_eq_true] at hh; rw [hh t ht] at h; cases h
  simp only [ckB, e, Bool.and_false]
theorem ck_yes {m : Img} (hf : imFm m = true) (h1 : ∀ t ∈ imTabs m, onceB t = true) : ckB m = true := by
  have e1 : (imTabs m).all onceB = true := List.all_eq_true.2 h1
  simp only [ckB, hf, e1, Bool.and_true]
theorem ck_parts {m : Img} (h : ckB m = true) : imFm m = true ∧ ∀ t ∈ imTabs m, onceB t = true := by
  simp only [ckB, Bool.and_eq_true, List.all_eq_true] at h
  exact h
/-- The data behind the first k clusters: what is counted by none is 0. -/
def rpD (fs ds : List Int) : Nat → List Int
  | 0 => ds
  | k + 1 => if fs.getD k 0 = 0 then (rpD fs ds k).set k 0 else rpD fs ds k
theorem rpD_len (fs ds : List Int) (k : Nat) : (rpD fs ds k).length = ds.length := by
  induction k with
  | zero => rfl
  | succ k ih => simp only [rpD]; split <;> simp [ih]
/-- What Repair answers. -/
def rpI (m : Img) : Img := { m with refs := imCnt m, data := rpD (imCnt m) m.data 24 }
def rpA (m : Img) : Img × Int := if ckB m then (rpI m, 0) else (⟨[], [], [], []⟩, 1)

end Go.Proofs.Ytjoafbkcnnhdiab
