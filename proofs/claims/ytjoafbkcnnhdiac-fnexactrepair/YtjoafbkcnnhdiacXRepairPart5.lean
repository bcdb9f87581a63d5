import Derived.Test.YtjoafbkcnnhdiacRows
import Derived.Test.YtjoafbkcnnhdiacXRepairPart3
import Derived.Test.YtjoafbkcnnhdiacXRepairPart4
import Derived.WalkKit
import Derived.WalkSpells
import Derived.LoopN
import Derived.Deep.RegionWith
import Derived.Test.YtjoafbkcnnhdiacXRepairPart1
import Derived.Test.YtjoafbkcnnhdiacXRepairPart2
import Derived.BigQuiet
import Derived.Deep.QuietTactic
import Derived.Deep.Quiet
import Derived.Deep.RegionHeld3
import Derived.KernelRfl

namespace Go.Proofs.Ytjoafbkcnnhdiac
open Go.RowKit
set_option linter.unusedVariables false
set_option maxRecDepth 100000

theorem wp_append_fresh {P : Program} {o : Oper} {a : Act} {w : World} {K : Act → World → Prop} {Q : Exit → Act → World → Prop}
    (hg : o.guard = none) (s x : Operand) (t : TypeId) (hop : o.op = Op.call { callee := Callee.builtin Builtin.append, args := #[s, x], argTypes := #[t, t] })
    (e : TypeId) (i : TypeInfo) (z : Value) (size bytes : Nat) (h1 : P.underlying t = some (.slice e)) (h2 : P.info? e = some i) (h3 : i.zero = some z) (h4 : i.size = size) (h5 : i.bytes = bytes) (h6 : z.cells.size = size) (h7 : 0 < size)
    (hs0 : isFresh (a.eval s) = true) (so : Option Addr) (m c : Nat) (news : List Value) (hx : a.eval x = .slice so m c) (hn : news.length = m * size)
    (hc : 0 < m → ∃ ad, so = some ad ∧ ∀ j u, news[j]? = some u → w.cell? (ad.add j) = some u) (b1 : m ≤ maxLen) (b2 : m * bytes ≤ 140737488355328)
    (hK : ∀ ao cap w', OwnR w' w.heap.size e size (.slice ao m cap) m news → w.grownBy w' none → K (a.put o.dst (.slice ao m cap)) w') : o.wp P a w K Q := by
  have := step_append_fresh (P := P) (ops := #[]) (o := o) (a := a) (w := w) (K := K) (Q := Q) (E := True) hg s x t hop e i z size bytes h1 h2 h3 h4 h5 h6 h7 hs0 so m c news hx hn hc b1 b2 hK
  rwa [if_pos (by simp [Region.wanted, hg])] at this

theorem snap_news {w : World} {g : Nat} {n : ByteArray} {v : Value} {t : TypeId} (h : w.heap[g]? = some (.cells #[.string n, v] t (0, 0))) : ∀ j u, [Value.string n, v][j]? = some u → w.cell? ((⟨g, 0, none⟩ : Addr).add j) = some u := by
  intro j u hu
  have hj : j < 2 := (List.getElem?_eq_some_iff.1 hu).1
  rcases (show j = 0 ∨ j = 1 by omega) with rfl | rfl
  · simp at hu
    subst hu
    rw [show (⟨g, 0, none⟩ : Addr).add 0 = ⟨g, 0, none⟩ from rfl, Joins.cell_of_block h]; rfl
  · simp at hu
    subst hu
    rw [show (⟨g, 0, none⟩ : Addr).add 1 = ⟨g, 1, none⟩ from rfl, Joins.cell_of_block h]; rfl
theorem snap_one (n : ByteArray) (q : Option Addr) (l c : Nat) : ∀ u ∈ [Value.string n, .slice q l c], u.oneCell' = true := by
  intro u hu
  simp at hu
  rcases hu with rfl | rfl <;> rfl
theorem wp_append_one {P : Program} {w : World} {o : Oper} {a : Act} {K : Act → World → Prop} {Q : Exit → Act → World → Prop} (hgd : o.guard = none) (s x : Operand) (t : TypeId)
    (ho : o.op = .call { callee := .builtin .append, args := #[s, x], argTypes := #[t, t] })
    (B : Nat) (e : TypeId) (i : TypeInfo) (z : Value) (size bytes : Nat) (ht : P.underlying t = some (.slice e)) (hi : P.info? e = some i) (hz : i.zero = some z)
    (hsize : i.size = size) (hby : i.bytes = bytes) (hzs : z.cells.size = size) (hsz : 0 < size)
    (qo : Option Addr) (n cap : Nat) (xs : List Value) (hs : a.eval s = .slice qo n cap) (h : OwnR w B e size (.slice qo n cap) n xs) (hB : B ≤ w.heap.size)
    (ad : Addr) (c : Nat) (news : List Value) (hx : a.eval x = .slice (some ad) 1 c) (hl : news.length = size) (hnews : ∀ j u, news[j]? = some u → w.cell? (ad.add j) = some u) (h1 : ∀ u ∈ news, u.oneCell' = true)
    (b1 : n + 1 ≤ maxLen) (b2 : (n + 1) * bytes ≤ 140737488355328)
    (hK : ∀ g cap' w', w'.ownsRow B e size (.slice (some ⟨g, 0, none⟩) (n + 1) cap') (n + 1) (xs ++ news) → Keep (Own (.slice qo n cap)) w w' → K (a.put o.dst (.slice (some ⟨g, 0, none⟩) (n + 1) cap')) w') : o.wp P a w K Q := by
  have := step_append_one (P := P) (ops := #[]) (o := o) (a := a) (w := w) (K := K) (Q := Q) (E := True) hgd s x t ho B e i z size bytes ht hi hz hsize hby hzs hsz qo n cap xs hs h hB ad c news hx hl hnews h1 b1 b2 hK
  rwa [if_pos (by simp [Region.wanted, hgd])] at this

set_option maxHeartbeats 6400000 in
theorem l10Own_full (a : Im4) (m : Img) (w : World) (hL : m.refs.length ≤ 1048576 ∧ m.table.length ≤ 1048576 ∧ m.data.length ≤ 1048576) (hst : ∀ s ∈ m.snaps, s.table.length ≤ 1048576) (hs1 : m.snaps.length ≤ 1048576) (hc : ImS w a m) :
    Calls Try.prog 24 #[imV a m] w fun e w' => ∃ a' ts, e = .returned (imV a' m) ∧ OwnF w' w.heap.size a' m ts ∧ Below w.heap.size w w' := by
  have HA := hide (Joins.below_alloc2 w (.cells #[.slice a.ro m.refs.length a.rc, .slice a.tq m.table.length a.tc, .slice a.so m.snaps.length a.sc, .slice a.dq m.data.length a.dc] 29) (.cells #[.slice none 0 0, .slice none 0 0, .slice none 0 0, .slice none 0 0] 29))
  have HC := hide (hc.below (unhide HA))
  have HV := hide ((VarM.new w 29 (.slice a.ro m.refs.length a.rc) (.slice a.tq m.table.length a.tc) (.slice a.so m.snaps.length a.sc) (.slice a.dq m.data.length a.dc)).below (Joins.below_alloc1 _ (.cells #[.slice none 0 0, .slice none 0 0, .slice none 0 0, .slice none 0 0] 29)))
  have HR := hide ((VarM.new (w.alloc (.cells #[.slice a.ro m.refs.length a.rc, .slice a.tq m.table.length a.tc, .slice a.so m.snaps.length a.sc, .slice a.dq m.data.length a.dc] 29)) 29 (.slice none 0 0) (.slice none 0 0) (.slice none 0 0) (.slice none 0 0)).at (y := w.heap.size + 1) (by simp))
  have HLL := hide hL
  have HST := hide hst
  clear hc hL hst
  obtain ⟨j0, hj0, hy0, hy1, hy2⟩ := info_parts infoSn
  obtain ⟨i0, hi0, hz0, hz1, hz2⟩ := info_parts infoIn
  go_enter Try.func24, Try.ntmps24
  go_upto_region 1 with fail
  revert HA HC HV HR
  generalize ((w.alloc _).alloc _) = W0
  intro HA HC HV HR
  refine wp_region_inv (OwInv W0 w.heap.size (w.heap.size + 1) a m) (by kernel_rfl) (by kernel_rfl) (noG_spec (by kernel_rfl)) (OwInv.start _ _ _ _ _ _ (Below.refl _ W0).drew) ?hs ?he
  case hs =>
    intro d f wq i o hI ho hd hp K hK
    obtain ⟨s3, s5, s6, s7, s8, s9, s10, s11, s12, s13, s14, s15, s16, s17, s18, rfl, I⟩ := hI
    obtain ⟨cv0, cv1, cv2, cv3⟩ := ((unhide HV).below I.b).cells
    have hi : i < 16 := (List.getElem?_eq_some_iff.1 ho).1
    rcases (show i = 0 ∨ i = 1 ∨ i = 2 ∨ i = 3 ∨ i = 4 ∨ i = 5 ∨ i = 6 ∨ i = 7 ∨ i = 8 ∨ i = 9 ∨ i = 10 ∨ i = 11 ∨ i = 12 ∨ i = 13 ∨ i = 14 ∨ i = 15 by omega) with rfl | rfl | rfl | rfl | rfl | rfl | rfl | rfl | rfl | rfl | rfl | rfl | rfl | rfl | rfl | rfl
    · cases ho
      unfold Oper.wp
      go_simp
      exact hK _ _ ⟨_, _, _, _, _, _, _, _, _, _, _, _, _, _, _, rfl, I.s0 hd (Joins.below_alloc1 _ _) ⟨_, rfl⟩⟩
    · cases ho
      unfold Oper.wp
      go_simp
      exact hK _ _ ⟨_, _, _, _, _, _, _, _, _, _, _, _, _, _, _, rfl, I.s1 hd rfl⟩
    · cases ho
      have p := hp ⟨1, .data⟩ (by simp) rfl
      have e1 := I.f1 p
      subst e1
      unfold Oper.wp
      go_simp
      exact hK _ _ ⟨_, _, _, _, _, _, _, _, _, _, _, _, _, _, _, rfl, I.s2 hd rfl⟩
    · cases ho
      have pa := hp ⟨0, .data⟩ (by simp) rfl
      have pb := hp ⟨2, .data⟩ (by simp) rfl
      obtain ⟨g, rfl⟩ := I.f0 pa
      have e1 := I.f2 pb
      subst e1
      refine wp_append_fresh rfl (.tmp 5) (.tmp 7) 22 rfl 3 i0 (.int .i64 0) 1 8 Try.underlying22 hi0 hz0 hz1 hz2 rfl (by omega) rfl a.ro m.refs.length a.rc (intV m.refs) rfl (by rw [intV_length]; omega) (Is.srcI ((unhide HC).r.below I.b)) (by have := unhide HLL; unfold maxLen; omega) (by have := unhide HLL; omega) ?_
      intro ao cap w2 ho2 hg2
      exact hK _ _ ⟨_, _, _, _, _, _, _, _, _, _, _, _, _, _, _, rfl, I.s3 hd (belowGr (Below.refl _ _) hg2) ⟨ao, cap, rfl, ho2⟩⟩
    · cases ho
      unfold Oper.wp
      go_simp
      exact hK _ _ ⟨_, _, _, _, _, _, _, _, _, _, _, _, _, _, _, rfl, I.s4 hd (Joins.below_alloc1 _ _) ⟨_, rfl⟩⟩
    · cases ho
      unfold Oper.wp
      go_simp
      exact hK _ _ ⟨_, _, _, _, _, _, _, _, _, _, _, _, _, _, _, rfl, I.s5 hd rfl⟩
    · cases ho
      have p := hp ⟨5, .data⟩ (by simp) rfl
      have e1 := I.f5 p
      subst e1
      unfold Oper.wp
      go_simp
      exact hK _ _ ⟨_, _, _, _, _, _, _, _, _, _, _, _, _, _, _, rfl, I.s6 hd rfl⟩
    · cases ho
      have pa := hp ⟨4, .data⟩ (by simp) rfl
      have pb := hp ⟨6, .data⟩ (by simp) rfl
      have pc := hp ⟨3, .chain⟩ (by simp) rfl
      obtain ⟨g, rfl⟩ := I.f4 pa
      have e1 := I.f6 pb
      subst e1
      refine wp_append_fresh rfl (.tmp 9) (.tmp 11) 22 rfl 3 i0 (.int .i64 0) 1 8 Try.underlying22 hi0 hz0 hz1 hz2 rfl (by omega) rfl a.tq m.table.length a.tc (intV m.table) rfl (by rw [intV_length]; omega) (Is.srcI ((unhide HC).t.below I.b)) (by have := unhide HLL; unfold maxLen; omega) (by have := unhide HLL; omega) ?_
      intro ao cap w2 ho2 hg2
      exact hK _ _ ⟨_, _, _, _, _, _, _, _, _, _, _, _, _, _, _, rfl, I.s7 hd (belowGr (Below.refl _ _) hg2) pc ⟨ao, cap, rfl, ho2⟩⟩
    · cases ho
      unfold Oper.wp
      go_simp
      exact hK _ _ ⟨_, _, _, _, _, _, _, _, _, _, _, _, _, _, _, rfl, I.s8 hd (Joins.below_alloc1 _ _) ⟨_, rfl⟩⟩
    · cases ho
      unfold Oper.wp
      go_simp
      exact hK _ _ ⟨_, _, _, _, _, _, _, _, _, _, _, _, _, _, _, rfl, I.s9 hd (Joins.below_alloc1 _ _) ⟨_, rfl⟩⟩
    · cases ho
      unfold Oper.wp
      go_simp
      exact hK _ _ ⟨_, _, _, _, _, _, _, _, _, _, _, _, _, _, _, rfl, I.s10 hd rfl⟩
    · cases ho
      have p := hp ⟨10, .data⟩ (by simp) rfl
      have e1 := I.f10 p
      subst e1
      unfold Oper.wp
      go_simp
      exact hK _ _ ⟨_, _, _, _, _, _, _, _, _, _, _, _, _, _, _, rfl, I.s11 hd rfl⟩
    · cases ho
      have pa := hp ⟨9, .data⟩ (by simp) rfl
      have pb := hp ⟨11, .data⟩ (by simp) rfl
      have pc := hp ⟨7, .chain⟩ (by simp) rfl
      obtain ⟨g, rfl⟩ := I.f9 pa
      have e1 := I.f11 pb
      subst e1
      refine wp_append_fresh rfl (.tmp 14) (.tmp 16) 22 rfl 3 i0 (.int .i64 0) 1 8 Try.underlying22 hi0 hz0 hz1 hz2 rfl (by omega) rfl a.dq m.data.length a.dc (intV m.data) rfl (by rw [intV_length]; omega) (Is.srcI ((unhide HC).d.below I.b)) (by have := unhide HLL; unfold maxLen; omega) (by have := unhide HLL; omega) ?_
      intro ao cap w2 ho2 hg2
      exact hK _ _ ⟨_, _, _, _, _, _, _, _, _, _, _, _, _, _, _, rfl, I.s12 hd (belowGr (Below.refl _ _) hg2) pc ⟨ao, cap, rfl, ho2⟩⟩
    · cases ho
      have p3 := hp ⟨3, .data⟩ (by simp) rfl
      have p7 := hp ⟨7, .data⟩ (by simp) rfl
      have p8 := hp ⟨8, .data⟩ (by simp) rfl
      have p12 := hp ⟨12, .data⟩ (by simp) rfl
      obtain ⟨q8, c8, rfl, _⟩ := I.f3 p3
      obtain ⟨⟨q12, c12, rfl, _⟩, _⟩ := I.f7 p7
      obtain ⟨g13, rfl⟩ := I.f8 p8
      obtain ⟨⟨q17, c17, rfl, _⟩, _⟩ := I.f12 p12
      unfold Oper.wp
      go_simp
      exact hK _ _ ⟨_, _, _, _, _, _, _, _, _, _, _, _, _, _, _, rfl, I.s13 hd p8 p12 rfl⟩
    · cases ho
      unfold Oper.wp
      go_simp
      exact hK _ _ ⟨_, _, _, _, _, _, _, _, _, _, _, _, _, _, _, rfl, I.s14 hd (Joins.below_alloc1 _ _) rfl I.b.size (VarM.new _ _ _ _ _ _)⟩
    · cases ho
      have p13 := hp ⟨13, .data⟩ (by simp) rfl
      have p14 := hp ⟨14, .data⟩ (by simp) rfl
      obtain ⟨p8, p12⟩ := I.c13 p13
      obtain ⟨q8, c8, rfl, _⟩ := I.f3 (I.c7 (I.c12 p12))
      obtain ⟨⟨q12, c12, rfl, _⟩, _⟩ := I.f7 (I.c12 p12)
      obtain ⟨g13, rfl⟩ := I.f8 p8
      obtain ⟨⟨q17, c17, rfl, _⟩, _⟩ := I.f12 p12
      have e18 := I.f13 p13
      subst e18
      obtain ⟨y, rfl, hy, hv⟩ := I.f14 p14 hd
      obtain ⟨y0, y1, y2, y3⟩ := hv.cells
      obtain ⟨z0, z1, z2, z3⟩ := hv.free
      unfold Oper.wp
      go_simp
      exact hK _ _ ⟨_, _, _, _, _, _, _, _, _, _, _, _, _, _, _, rfl, I.s15 hd p13 p14 rfl hy hv (((((Keep.refl (fun k => k = y) wq).setCell (p := ⟨y, 0, none⟩) rfl _).setCell (p := ⟨y, 1, none⟩) rfl _).setCell (p := ⟨y, 2, none⟩) rfl _).setCell (p := ⟨y, 3, none⟩) rfl _) ((((hv.set0 _).set1 _).set2 _).set3 _)⟩
  case he =>
    intro d f wq hI hall
    obtain ⟨s3, s5, s6, s7, s8, s9, s10, s11, s12, s13, s14, s15, s16, s17, s18, rfl, I⟩ := hI
    obtain ⟨q8, c8, e8, o8⟩ := I.f3 (hall 3 (by decide))
    obtain ⟨⟨q12, c12, e12, o12⟩, a12⟩ := I.f7 (hall 7 (by decide))
    obtain ⟨g13, e13⟩ := I.f8 (hall 8 (by decide))
    obtain ⟨⟨q17, c17, e17, o17⟩, a17, b17⟩ := I.f12 (hall 12 (by decide))
    obtain ⟨y, e3, hy, hv⟩ := I.f15 (hall 15 (by decide))
    subst e8 e12 e13 e17 e3
    have HL0 : Hid (OwL W0 y m q8 c8 q12 c12 q17 c17 wq 0 (some ⟨g13, 0, none⟩) 0 []) := hide ⟨I.b, hv, rfl, .inl ⟨rfl, by simp [snC], _, rfl⟩, by
      refine ⟨fun r hr => ?_, ?_⟩
      · simp only [List.zip_nil_left, List.mem_cons, List.not_mem_nil, or_false] at hr
        rcases hr with rfl | rfl | rfl
        · exact ⟨_, _, rfl, o8⟩
        · exact ⟨_, _, rfl, o12⟩
        · exact ⟨_, _, rfl, o17⟩
      · simp only [List.zip_nil_left, List.pairwise_cons, List.mem_cons, List.not_mem_nil, or_false, forall_eq_or_imp, forall_eq, List.Pairwise.nil, and_true]
        exact ⟨⟨a12, a17⟩, b17, fun _ h => h.elim⟩⟩
    have HY := hide hy
    clear o8 o12 a12 o17 a17 b17 hv hy I hall
    go_wp2
    go_loopw [4] (fun i wr => ∃ (k : Nat) (so : Option Addr) (sc : Nat) (ts : List Value), k ≤ m.snaps.length ∧ i = .int .i64 k ∧ Hid (OwL W0 y m q8 c8 q12 c12 q17 c17 wr k so sc ts)) (fun i _ => m.snaps.length - (intOf i).toNat)
    case atStart => exact ⟨0, _, _, _, Nat.zero_le _, rfl, HL0⟩
    case round =>
      clear HL0
      obtain ⟨k, so, sc, ts, hk, rfl, HL⟩ := hrel
      obtain ⟨c0, c1, c2, c3⟩ := (VarM.below (unhide HV) (unhide HL).b).cells
      by_cases hlt : k < m.snaps.length
      · obtain ⟨b, off, tq, tc, eb, hn0, ht0, hIs, hz, htl⟩ := ((unhide HC).s.below (unhide HL).b) k hlt
        have hlti : (k : Int) < (m.snaps.length : Int) := by omega
        have HIS := hide hIs
        have HTL := hide (unhide HST _ (List.getElem_mem hlt))
        have hbl : b < wr.heap.size := World.block_lt_of_cell? _ _ hn0
        clear hIs hz htl
        go_upto_region 5 with fail
        clear c0 c1 c2 c3
        refine ownG_region (fun d wz s26 s27 s28 s29 s30 s31 s32 s33 s34 s35 s36 s37 s38 s39 s40 s41 s42 s43 s44 s45 => OwJ wr W0.heap.size w.heap.size y k b off m.snaps.length a.sc so sc (snC (m.snaps.take k) ts) m.snaps[k].name tq tc m.snaps[k].table (.slice q8 m.refs.length c8) (.slice q12 m.table.length c12) (.slice q17 m.data.length c17) d wz s26 s27 s28 s29 s30 s31 s32 s33 s34 s35 s36 s37 s38 s39 s40 s41 s42 s43 s44 s45) (by kernel_rfl) (by kernel_rfl) (noG_spec (by kernel_rfl)) ?h0 ?hs ?he
        case h0 => exact ⟨fun _ => (Below.refl _ wr).drew, fun _ => Keep.of_below (Below.refl _ wr).drew, fun h => (by cases h), fun h => (by cases h), fun h => (by cases h), fun h => (by cases h), fun h => (by cases h), fun h => (by cases h), fun h => (by cases h), fun h => (by cases h), fun h => (by cases h), fun h => (by cases h), fun h => (by cases h), fun h => (by cases h), fun h => (by cases h), fun h => (by cases h), fun h => (by cases h), fun h => (by cases h), fun h => (by cases h), fun h => (by cases h), fun h => (by cases h), fun h => (by cases h), fun h => (by cases h)⟩
        case hs =>
          intro d wz i o r26 r27 r28 r29 r30 r31 r32 r33 r34 r35 r36 r37 r38 r39 r40 r41 r42 r43 r44 r45 hc I ho hd hp K hK
          have hi : i < 21 := (List.getElem?_eq_some_iff.1 ho).1
          rcases (show i = 0 ∨ i = 1 ∨ i = 2 ∨ i = 3 ∨ i = 4 ∨ i = 5 ∨ i = 6 ∨ i = 7 ∨ i = 8 ∨ i = 9 ∨ i = 10 ∨ i = 11 ∨ i = 12 ∨ i = 13 ∨ i = 14 ∨ i = 15 ∨ i = 16 ∨ i = 17 ∨ i = 18 ∨ i = 19 ∨ i = 20 by omega) with rfl | rfl | rfl | rfl | rfl | rfl | rfl | rfl | rfl | rfl | rfl | rfl | rfl | rfl | rfl | rfl | rfl | rfl | rfl | rfl | rfl
          · cases ho
            unfold Oper.wp
            go_simp
            exact hK _ _ _ _ _ _ _ _ _ _ _ _ _ _ _ _ _ _ _ _ _ (I.s0 hd rfl)
          · cases ho
            have p := hp ⟨0, .data⟩ (by simp) rfl
            have e1 := I.f0 p
            subst e1
            have h18 := not_yet hc 9 (j := 18) (i := 1) (by kernel_rfl) hd
            have cy := (((unhide HL).v.below (I.b0 h18)).cells).2.2.1
            unfold Oper.wp
            go_simp
            exact hK _ _ _ _ _ _ _ _ _ _ _ _ _ _ _ _ _ _ _ _ _ (I.s1 hd rfl)
          · cases ho
            unfold Oper.wp
            go_simp
            exact hK _ _ _ _ _ _ _ _ _ _ _ _ _ _ _ _ _ _ _ _ _ (I.s2 hd rfl)
          · cases ho
            have p := hp ⟨2, .data⟩ (by simp) rfl
            have e1 := I.f2 p
            subst e1
            have h18 := not_yet hc 9 (j := 18) (i := 3) (by kernel_rfl) hd
            have cx := ((VarM.below (VarM.below (unhide HV) (unhide HL).b) (I.b0 h18)).cells).2.2.1
            rw [eb] at cx
            unfold Oper.wp
            go_simp
            exact hK _ _ _ _ _ _ _ _ _ _ _ _ _ _ _ _ _ _ _ _ _ (I.s3 hd rfl)
          · cases ho
            unfold Oper.wp
            go_simp
            exact hK _ _ _ _ _ _ _ _ _ _ _ _ _ _ _ _ _ _ _ _ _ (I.s4 hd rfl)
          · cases ho
            have p := hp ⟨3, .data⟩ (by simp) rfl
            have e1 := I.f3 p
            subst e1
            have p2 := hp ⟨4, .data⟩ (by simp) rfl
            have e2 := I.f4 p2
            subst e2
            unfold Oper.wp
            go_simp
            exact hK _ _ _ _ _ _ _ _ _ _ _ _ _ _ _ _ _ _ _ _ _ (I.s5 hd (by first | rfl | simp))
          · cases ho
            have p := hp ⟨5, .data⟩ (by simp) rfl
            have e1 := I.f5 p
            subst e1
            unfold Oper.wp
            go_simp
            exact hK _ _ _ _ _ _ _ _ _ _ _ _ _ _ _ _ _ _ _ _ _ (I.s6 hd (by first | rfl | simp))
          · cases ho
            have p := hp ⟨6, .data⟩ (by simp) rfl
            have e1 := I.f6 p
            subst e1
            have h18 := not_yet hc 9 (j := 18) (i := 7) (by kernel_rfl) hd
            have cn := ((I.b0 h18).cell (p := ⟨b, off + k * 2, none⟩) hbl).trans hn0
            unfold Oper.wp
            go_simp
            exact hK _ _ _ _ _ _ _ _ _ _ _ _ _ _ _ _ _ _ _ _ _ (I.s7 hd rfl)
          · cases ho
            have h18 := not_yet hc 9 (j := 18) (i := 8) (by kernel_rfl) hd
            have h20 := not_yet hc 9 (j := 20) (i := 8) (by kernel_rfl) hd
            unfold Oper.wp
            go_simp
            exact hK _ _ _ _ _ _ _ _ _ _ _ _ _ _ _ _ _ _ _ _ _ (I.s8 hd h18 h20 (Joins.below_alloc1 _ _) ⟨_, rfl⟩)
          · cases ho
            unfold Oper.wp
            go_simp
            exact hK _ _ _ _ _ _ _ _ _ _ _ _ _ _ _ _ _ _ _ _ _ (I.s9 hd rfl)
          · cases ho
            have p := hp ⟨9, .data⟩ (by simp) rfl
            have e1 := I.f9 p
            subst e1
            have h18 := not_yet hc 9 (j := 18) (i := 10) (by kernel_rfl) hd
            have cx := ((VarM.below (VarM.below (unhide HV) (unhide HL).b) (I.b0 h18)).cells).2.2.1
            rw [eb] at cx
            unfold Oper.wp
            go_simp
            exact hK _ _ _ _ _ _ _ _ _ _ _ _ _ _ _ _ _ _ _ _ _ (I.s10 hd rfl)
          · cases ho
            unfold Oper.wp
            go_simp
            exact hK _ _ _ _ _ _ _ _ _ _ _ _ _ _ _ _ _ _ _ _ _ (I.s11 hd rfl)
          · cases ho
            have p := hp ⟨10, .data⟩ (by simp) rfl
            have e1 := I.f10 p
            subst e1
            have p2 := hp ⟨11, .data⟩ (by simp) rfl
            have e2 := I.f11 p2
            subst e2
            unfold Oper.wp
            go_simp
            exact hK _ _ _ _ _ _ _ _ _ _ _ _ _ _ _ _ _ _ _ _ _ (I.s12 hd (by first | rfl | simp))
          · cases ho
            have p := hp ⟨12, .data⟩ (by simp) rfl
            have e1 := I.f12 p
            subst e1
            unfold Oper.wp
            go_simp
            exact hK _ _ _ _ _ _ _ _ _ _ _ _ _ _ _ _ _ _ _ _ _ (I.s13 hd (by first | rfl | simp))
          · cases ho
            have p := hp ⟨13, .data⟩ (by simp) rfl
            have e1 := I.f13 p
            subst e1
            have h18 := not_yet hc 9 (j := 18) (i := 14) (by kernel_rfl) hd
            have cn := ((I.b0 h18).cell (p := ⟨b, off + k * 2 + 1, none⟩) hbl).trans ht0
            unfold Oper.wp
            go_simp
            exact hK _ _ _ _ _ _ _ _ _ _ _ _ _ _ _ _ _ _ _ _ _ (I.s14 hd rfl)
          · cases ho
            have h18 := not_yet hc 9 (j := 18) (i := 15) (by kernel_rfl) hd
            have h20 := not_yet hc 9 (j := 20) (i := 15) (by kernel_rfl) hd
            have h16 := not_yet hc 9 (j := 16) (i := 15) (by kernel_rfl) hd
            have h17 := not_yet hc 9 (j := 17) (i := 15) (by kernel_rfl) hd
            have pa := hp ⟨8, .data⟩ (by simp) rfl
            have pb := hp ⟨14, .data⟩ (by simp) rfl
            obtain ⟨g, rfl⟩ := I.f8 pa
            have e1 := I.f14 pb
            subst e1
            refine wp_append_fresh rfl (.tmp 34) (.tmp 40) 22 rfl 3 i0 (.int .i64 0) 1 8 Try.underlying22 hi0 hz0 hz1 hz2 rfl (by omega) rfl tq m.snaps[k].table.length tc (intV m.snaps[k].table) rfl (by rw [intV_length]; omega) (Is.srcI ((unhide HIS).below (I.b0 h18))) (by have := unhide HTL; unfold maxLen; omega) (by have := unhide HTL; omega) ?_
            intro ao cap w2 ho2 hg2
            exact hK _ _ _ _ _ _ _ _ _ _ _ _ _ _ _ _ _ _ _ _ _ (I.s15 hd h18 h20 (belowGr (Below.refl _ _) hg2) h16 h17 ⟨ao, cap, rfl, ho2⟩)
          · cases ho
            have p7 := hp ⟨7, .data⟩ (by simp) rfl
            have p15 := hp ⟨15, .data⟩ (by simp) rfl
            have e1 := I.f7 p7
            subst e1
            obtain ⟨q41, c41, e41, _⟩ := I.f15 p15
            subst e41
            unfold Oper.wp
            go_simp
            exact hK _ _ _ _ _ _ _ _ _ _ _ _ _ _ _ _ _ _ _ _ _ (I.s16 hd rfl)
          · cases ho
            have h18 := not_yet hc 9 (j := 18) (i := 17) (by kernel_rfl) hd
            have h20 := not_yet hc 9 (j := 20) (i := 17) (by kernel_rfl) hd
            have p16 := hp ⟨16, .data⟩ (by simp) rfl
            have p15 := reach_done hc (f := 9) (j := 16) (i := 15) (by kernel_rfl) p16
            obtain ⟨q41, c41, e41, _⟩ := I.f15 p15
            subst e41
            have e1 := I.f16 p16
            subst e1
            unfold Oper.wp
            go_simp
            exact hK _ _ _ _ _ _ _ _ _ _ _ _ _ _ _ _ _ _ _ _ _ (I.s17 hd h18 h20 (Joins.below_alloc1 _ _) rfl (heap_alloc_new _ _))
          · cases ho
            have h20 := not_yet hc 9 (j := 20) (i := 18) (by kernel_rfl) hd
            have pa := hp ⟨1, .data⟩ (by simp) rfl
            have pb := hp ⟨17, .data⟩ (by simp) rfl
            have p15 := reach_done hc (f := 9) (j := 17) (i := 15) (by kernel_rfl) pb
            have e1 := I.f1 pa
            subst e1
            obtain ⟨g, rfl, hcell⟩ := I.f17 pb
            have hcl := hcell hd
            have HSR := hide ((unhide HL).s.below (I.b0 hd))
            refine wp_append_one rfl (.tmp 27) (.tmp 43) 27 rfl W0.heap.size 66 j0 (.agg #[.string ⟨#[]⟩, .slice none 0 0]) 2 40 Try.underlying27 hj0 hy0 hy1 hy2 rfl (by omega) so k sc (snC (m.snaps.take k) ts) rfl (unhide HSR) (by have h1 := (unhide HL).b.size; have h2 := (I.b0 hd).size; omega) ⟨g, 0, none⟩ 1 [.string m.snaps[k].name, r41] rfl rfl (snap_news hcl) (by obtain ⟨q41, c41, e41, _⟩ := I.f15 p15; subst e41; exact snap_one _ _ _ _) (by unfold maxLen; omega) (by omega) ?_
            intro g2 cap2 w2 ho2 hk2
            exact hK _ _ _ _ _ _ _ _ _ _ _ _ _ _ _ _ _ _ _ _ _ (I.s18 hd h20 hk2 rfl ho2 (fun h => own_apart h.row (unhide HSR) (by decide)))
          · cases ho
            unfold Oper.wp
            go_simp
            exact hK _ _ _ _ _ _ _ _ _ _ _ _ _ _ _ _ _ _ _ _ _ (I.s19 hd rfl)
          · cases ho
            have p18 := hp ⟨18, .data⟩ (by simp) rfl
            have p19 := hp ⟨19, .data⟩ (by simp) rfl
            obtain ⟨g2, cap2, e44, ho2⟩ := I.f18 p18
            subst e44
            have e1 := I.f19 p19
            subst e1
            have hvy : VarM wz y 29 (.slice q8 m.refs.length c8) (.slice q12 m.table.length c12) (.slice so k sc) (.slice q17 m.data.length c17) := ((I.b1 hd).block y (unhide HL).v.lt ((unhide HL).s.other (unhide HL).v (by decide))).trans (unhide HL).v
            have cy := hvy.cells.2.2.1
            have fy := hvy.free.2.2.1
            unfold Oper.wp
            go_simp
            exact hK _ _ _ _ _ _ _ _ _ _ _ _ _ _ _ _ _ _ _ _ _ (I.s20 (w2 := wz.setCell ⟨y, 2, none⟩ (.slice (some ⟨g2, 0, none⟩) (k + 1) cap2)) hd p18 ((Keep.refl (fun g => g = y) wz).setCell (p := ⟨y, 2, none⟩) rfl _) (hvy.set2 _) ⟨_, hvy⟩)
        case he =>
          intro d wz r26 r27 r28 r29 r30 r31 r32 r33 r34 r35 r36 r37 r38 r39 r40 r41 r42 r43 r44 r45 I hall
          obtain ⟨g2, cap2, e44, ho2⟩ := I.f18 (hall 18 (by decide))
          subst e44
          have HN := hide (OwL.next (unhide HL) (unhide HY) hlt (I.b2 (hall 20 (by decide))).1 (I.b2 (hall 20 (by decide))).2 ho2 (I.f15 (hall 15 (by decide))))
          clear I hall ho2
          go_wp2
          go_roundw
          case rel => exact ⟨k + 1, _, _, _, by omega, by go_num, HN⟩
          case measure => simp [intOf]; omega
      · have hkl : k = m.snaps.length := by omega
        subst hkl
        have HOI : Hid (OwnIm wr W0.heap.size ⟨q8, c8, q12, c12, so, sc, q17, c17⟩ m ts) := hide ⟨(unhide HL).l.symm, by have := (unhide HL).s; rw [List.take_length] at this; exact this.toS, by have := (unhide HL).r; rwa [List.take_length] at this⟩
        have HC0 : Hid (m.snaps.length = 0 → sc = 0) := hide (fun h => (unhide HL).s.cap0 h)
        have HRR := hide (VarM.below (unhide HR) (unhide HL).b)
        have HPT := hide (ImSt.put (unhide HRR) (unhide HOI) (fr (unhide HA) (unhide HL).b) (Nat.le_succ _) (unhide HR).lt ⟨q8, c8, q12, c12, so, sc, q17, c17⟩ m)
        obtain ⟨d0, d1, d2, d3⟩ := (unhide HL).v.cells
        obtain ⟨r0, r1, r2, r3⟩ := (unhide HRR).cells
        obtain ⟨z0, z1, z2, z3⟩ := (unhide HRR).free
        go_wp2
        exact bodyPost_ret (res_im Try.results24 rfl (unhide HPT).1) rfl ⟨⟨q8, c8, q12, c12, so, sc, q17, c17⟩, rfl, ⟨ts, ⟨(unhide HPT).2.1.base (unhide HA).size, unhide HC0⟩⟩, (unhide HPT).2.2⟩
end Go.Proofs.Ytjoafbkcnnhdiac

namespace Go.Proofs.Ytjoafbkcnnhdiac
open Go.RowKit
set_option linter.unusedVariables false
set_option maxRecDepth 100000

structure ImQ (w W : World) (B : Nat) (a : Im4) (m0 m : Img) (ts : List Value) : Prop where
  v : VarM W w.heap.size 29 (.slice a.ro m0.refs.length a.rc) (.slice a.tq m0.table.length a.tc) (.slice a.so m0.snaps.length a.sc) (.slice a.dq m0.data.length a.dc)
  r : VarM W (w.heap.size + 1) 29 (.slice none 0 0) (.slice none 0 0) (.slice none 0 0) (.slice none 0 0)
  o : OwnIm W B a m ts
  b : Below w.heap.size w W
  hB : w.heap.size + 2 ≤ B
  e1 : m.refs.length = m0.refs.length
  e2 : m.table.length = m0.table.length
  e3 : m.snaps.length = m0.snaps.length
  e4 : m.data.length = m0.data.length
abbrev putI (W : World) (x : Nat) (a : Im4) (m : Img) : World := (((W.setCell ⟨x, 0, none⟩ (.slice a.ro m.refs.length a.rc)).setCell ⟨x, 1, none⟩ (.slice a.tq m.table.length a.tc)).setCell ⟨x, 2, none⟩ (.slice a.so m.snaps.length a.sc)).setCell ⟨x, 3, none⟩ (.slice a.dq m.data.length a.dc)
theorem ImQ.put {w W : World} {B : Nat} {v0 v1 v2 v3 : Value} {a : Im4} {m0 m : Img} {ts : List Value} (hv : VarM W w.heap.size 29 v0 v1 v2 v3) (hr : VarM W (w.heap.size + 1) 29 (.slice none 0 0) (.slice none 0 0) (.slice none 0 0) (.slice none 0 0)) (ho : OwnIm W B a m ts) (hb : Below w.heap.size w W) (hB : w.heap.size + 2 ≤ B) (e1 : m.refs.length = m0.refs.length) (e2 : m.table.length = m0.table.length) (e3 : m.snaps.length = m0.snaps.length) (e4 : m.data.length = m0.data.length) : ImQ w (putI W w.heap.size a m0) B a m0 m ts := by
  obtain ⟨h1, h2, h3⟩ := ImSt.put hv ho hb (Nat.le_refl _) (by omega) a m0
  exact ⟨h1, (((hr.other (p := ⟨w.heap.size, 0, none⟩) (by simp) _).other (p := ⟨w.heap.size, 1, none⟩) (by simp) _).other (p := ⟨w.heap.size, 2, none⟩) (by simp) _).other (p := ⟨w.heap.size, 3, none⟩) (by simp) _, h2, h3, hB, e1, e2, e3, e4⟩
end Go.Proofs.Ytjoafbkcnnhdiac

namespace Go.Proofs.Ytjoafbkcnnhdiac
open Go.RowKit
set_option linter.unusedVariables false
set_option maxRecDepth 100000

structure ImBd (m : Img) : Prop where
  r : m.refs.length ≤ 1048576
  t : m.table.length ≤ 1048576
  s : m.snaps.length ≤ 1048576
  d : m.data.length ≤ 1048576
  st : ∀ s ∈ m.snaps, s.table.length ≤ 1048576 ∧ s.name.size ≤ 1048576
  k : snK m.snaps ≤ 4194304
theorem snK_sz (ss : List Snp) : snK ss ≤ ss.length + snSz ss := by
  induction ss with
  | nil => exact Nat.le_refl _
  | cons s ss ih =>
    simp only [snK, snSz, List.map_cons, List.sum_cons, List.length_cons] at ih ⊢
    have e : sn1 s = s.name.size + s.table.length := rfl
    omega
theorem ImBd.of {m : Img} (h : imSz m ≤ 1048576) : ImBd m := by
  unfold imSz at h
  refine ⟨by omega, by omega, by omega, by omega, fun s hs => ?_, ?_⟩
  · obtain ⟨i, hi, rfl⟩ := List.mem_iff_getElem.1 hs
    have := sn_le hi
    unfold sn1 at this
    omega
  · have := snK_sz m.snaps
    omega
theorem ImBd.zs {m : Img} (h : ImBd m) : ∀ s ∈ m.snaps, s.name.size ≤ maxLen ∧ s.table.length ≤ maxLen := fun s hs => by have := h.st s hs; unfold maxLen; omega
theorem ImBd.zero : ImBd im0 := ⟨by simp [im0], by simp [im0], by simp [im0], by simp [im0], fun s hs => by simp [im0] at hs, by simp [im0, snK]⟩
structure LwV (W : World) (p n : Nat) (a : Im4) (m : Img) (ts : List Value) : Prop where
  v : VarM W p 29 (.slice a.ro m.refs.length a.rc) (.slice a.tq m.table.length a.tc) (.slice a.so m.snaps.length a.sc) (.slice a.dq m.data.length a.dc)
  o : OwnIm W n a m ts
  n : n ≤ W.heap.size
theorem LwV.new (W : World) (a : Im4) (m : Img) {n : Nat} {ts : List Value} (h : OwnIm W n a m ts) (hn : n ≤ W.heap.size) : LwV (W.alloc (.cells #[.slice a.ro m.refs.length a.rc, .slice a.tq m.table.length a.tc, .slice a.so m.snaps.length a.sc, .slice a.dq m.data.length a.dc] 29)) W.heap.size n a m ts :=
  ⟨VarM.new W _ _ _ _ _, h.below (Joins.below_alloc1 _ _), by simp; omega⟩
theorem LwV.below {W W' : World} {p n : Nat} {a : Im4} {m : Img} {ts : List Value} (h : LwV W p n a m ts) (hb : Below W.heap.size W W') : LwV W' p n a m ts := ⟨h.v.below hb, h.o.below hb, Nat.le_trans h.n hb.size⟩
theorem LwV.keep {W W' : World} {p n q n' : Nat} {a b : Im4} {m m' : Img} {ts us : List Value} (h : LwV W p n a m ts) (h2 : LwV W q n' b m' us) (hk : Keep (ImB b m' us) W W') (hs : ∀ g, ImB a m ts g → ¬ ImB b m' us g) : LwV W' p n a m ts :=
  ⟨h.v.keepIm h2.o hk, h.o.keep hk hs, Nat.le_trans h.n hk.size⟩
theorem OwnIm.otherL {w : World} {B x : Nat} {a : Im4} {m : Img} {ts : List Value} {v0 v1 v2 v3 : Value} (h : OwnIm w B a m ts) (hv : VarM w x 25 v0 v1 v2 v3) : ¬ ImB a m ts x := by
  intro hx
  rcases hx with h1 | h1 | h1 | h1 | ⟨t, ht, h1⟩
  · exact (h.rows.own (.slice a.ro m.refs.length a.rc, m.refs) (by simp [imRows])).row.other hv (by decide) h1
  · exact (h.rows.own (.slice a.tq m.table.length a.tc, m.table) (by simp [imRows])).row.other hv (by decide) h1
  · exact (h.rows.own (.slice a.dq m.data.length a.dc, m.data) (by simp [imRows])).row.other hv (by decide) h1
  · exact h.s.other hv (by decide) h1
  · have hm : t ∈ (ts.zip (m.snaps.map (·.table))).map Prod.fst := by rw [zip_fst _ _ (by rw [List.length_map, h.len])]; exact ht
    obtain ⟨p, hp, rfl⟩ := List.mem_map.1 hm
    exact (h.rows.own p (by simp [imRows, hp])).row.other hv (by decide) h1
theorem toImage_B (a : Im4) (m : Img) (w : World) (h : ImBd m) (hc : ImS w a m) :
    Calls Try.prog 7 #[imV a m] w fun e w' => ∃ a' ts, e = .returned (imV a' m) ∧ OwnIm w' w.heap.size a' m ts ∧ Below w.heap.size w w' :=
  toImage_any a m w h.r h.t h.s h.d (fun s hs => (h.st s hs).1) hc
theorem eqImage_B (a b : Im4) (m : Img) (w : World) (h : ImBd m) (h1 : ImS w a m) (h2 : ImS w b m) :
    Calls Try.prog 9 #[imV a m, imV b m] w fun e w' => e = .returned (.bool true) ∧ Below w.heap.size w w' :=
  eqImage_same a b m w (by have := h.r; unfold maxLen; omega) (by have := h.t; unfold maxLen; omega) (by have := h.s; unfold maxLen; omega) (by have := h.d; unfold maxLen; omega) h1 h2
theorem markImage_B (a : Im4) (m : Img) (ts : List Value) (B : Nat) (w : World) (h : ImBd m) (ho : OwnIm w B a m ts) :
    Calls Try.prog 10 #[imV a m, .int .i64 1] w fun e w' => e = .returned (.int .i64 ((1 + imK m : Nat) : Int)) ∧ OwnIm w' B a (mkIm 1 m) ts ∧ Keep (ImB a m ts) w w' :=
  markImage_any a m ts 1 B w h.r h.t h.s h.d (fun s hs => (h.st s hs).1) h.k (by omega) (by omega) ho
theorem heldImage_B (a : Im4) (m : Img) (ts : List Value) (B : Nat) (w : World) (h : ImBd m) (ho : OwnIm w B a (mkIm 1 m) ts) :
    Calls Try.prog 11 #[imV a m, .int .i64 1] w fun e w' => e = .returned (.int .i64 ((1 + imK m : Nat) : Int)) ∧ Below w.heap.size w w' :=
  heldImage_any a m ts 1 B w h.r h.t h.s h.d (fun s hs => (h.st s hs).1) h.k (by omega) (by omega) ho

end Go.Proofs.Ytjoafbkcnnhdiac

namespace Go.Proofs.Ytjoafbkcnnhdiac
open Go.RowKit
set_option linter.unusedVariables false

section
variable {P : Program} {ops : Array Oper}
end

end Go.Proofs.Ytjoafbkcnnhdiac

namespace Go.Proofs.Ytjoafbkcnnhdiac
open Go.RowKit
set_option linter.unusedVariables false
set_option maxRecDepth 100000

structure ImE (w W : World) (a : Im4) (m : Img) : Prop where
  v : VarM W w.heap.size 29 (.slice a.ro m.refs.length a.rc) (.slice a.tq m.table.length a.tc) (.slice a.so m.snaps.length a.sc) (.slice a.dq m.data.length a.dc)
  r : VarM W (w.heap.size + 1) 29 (.slice none 0 0) (.slice none 0 0) (.slice none 0 0) (.slice none 0 0)
  s : ImS W a m
  b : Below w.heap.size w W
theorem ImE.new (w : World) (a : Im4) (m : Img) (h : ImS w a m) : ImE w ((w.alloc (.cells #[.slice a.ro m.refs.length a.rc, .slice a.tq m.table.length a.tc, .slice a.so m.snaps.length a.sc, .slice a.dq m.data.length a.dc] 29)).alloc (.cells #[.slice none 0 0, .slice none 0 0, .slice none 0 0, .slice none 0 0] 29)) a m :=
  ⟨(VarM.new w _ _ _ _ _).below (Joins.below_alloc1 _ _), (VarM.new (w.alloc _) _ _ _ _ _).at (by simp), h.below (Joins.below_alloc2 _ _ _), Joins.below_alloc2 _ _ _⟩
theorem ImE.below {w W W' : World} {a : Im4} {m : Img} (h : ImE w W a m) (hb : Below W.heap.size W W') : ImE w W' a m := ⟨h.v.below hb, h.r.below hb, h.s.below hb, fr h.b hb⟩
theorem ImE.zero {w W : World} {a : Im4} {m : Img} (h : ImE w W a m) :
    VarM ((((W.setCell ⟨w.heap.size + 1, 0, none⟩ (.slice none 0 0)).setCell ⟨w.heap.size + 1, 1, none⟩ (.slice none 0 0)).setCell ⟨w.heap.size + 1, 2, none⟩ (.slice none 0 0)).setCell ⟨w.heap.size + 1, 3, none⟩ (.slice none 0 0)) (w.heap.size + 1) 29 (.slice none 0 0) (.slice none 0 0) (.slice none 0 0) (.slice none 0 0) ∧
    Below w.heap.size w ((((W.setCell ⟨w.heap.size + 1, 0, none⟩ (.slice none 0 0)).setCell ⟨w.heap.size + 1, 1, none⟩ (.slice none 0 0)).setCell ⟨w.heap.size + 1, 2, none⟩ (.slice none 0 0)).setCell ⟨w.heap.size + 1, 3, none⟩ (.slice none 0 0)) :=
  ⟨(((h.r.set0 _).set1 _).set2 _).set3 _, (((h.b.setCell (p := ⟨w.heap.size + 1, 0, none⟩) (Nat.le_succ _) _).setCell (p := ⟨w.heap.size + 1, 1, none⟩) (Nat.le_succ _) _).setCell (p := ⟨w.heap.size + 1, 2, none⟩) (Nat.le_succ _) _).setCell (p := ⟨w.heap.size + 1, 3, none⟩) (Nat.le_succ _) _⟩
def AnsI (w w' : World) (e : Ending) (R : Img × Int) : Prop := ∃ a ts, e = .returned (.tuple #[imV a R.1, .int .i64 R.2]) ∧ OwnIm w' w.heap.size a R.1 ts ∧ Below w.heap.size w w'
theorem AnsI.of {w w' : World} {v : Value} {c : Int} {R : Img × Int} {a : Im4} {ts : List Value} (hv : v = imV a R.1) (hc : c = R.2) (ho : OwnIm w' w.heap.size a R.1 ts) (hb : Below w.heap.size w w') : AnsI w w' (.returned (.tuple #[v, .int .i64 c])) R := ⟨a, ts, by rw [hv, hc], ho, hb⟩
theorem AnsI.bad {w w' : World} (c : Int) (hb : Below w.heap.size w w') : AnsI w w' (.returned (.tuple #[.agg #[.slice none 0 0, .slice none 0 0, .slice none 0 0, .slice none 0 0], .int .i64 c])) (im0, c) := ⟨⟨none, 0, none, 0, none, 0, none, 0⟩, [], rfl, OwnIm.zero _ _, hb⟩

end Go.Proofs.Ytjoafbkcnnhdiac

namespace Go.Proofs.Ytjoafbkcnnhdiac
open Go.RowKit
set_option linter.unusedVariables false
set_option maxRecDepth 100000

structure LqJRepair (Wq : World) (AX AA : Value) (m : Img) (d : Nat → Bool) (w : World) (s41 s42 s43 s44 s45 : Value) : Prop where
  bw : Below Wq.heap.size Wq w
  p2 : d 2 = true → ∃ a1 ts, s43 = imV a1 m ∧ OwnIm w Wq.heap.size a1 m ts
  f0 : d 0 = true → s41 = AX
  f1 : d 1 = true → s42 = AA
  f3 : d 3 = true → s44 = .bool true
  f4 : d 4 = true → s45 = .bool false

theorem LqJRepair.s0 {Wq : World} {AX AA : Value} {m : Img} {d : Nat → Bool} {w : World} {s41 s42 s43 s44 s45 v : Value} (I : LqJRepair Wq AX AA m d w s41 s42 s43 s44 s45) (hd : d 0 = false) (hv : v = AX) : LqJRepair Wq AX AA m (updD d 0) w v s42 s43 s44 s45 where
  bw := I.bw
  p2 := fun h => I.p2 (upd_ne (by decide) h)
  f0 := fun _ => hv
  f1 := fun h => I.f1 (upd_ne (by decide) h)
  f3 := fun h => I.f3 (upd_ne (by decide) h)
  f4 := fun h => I.f4 (upd_ne (by decide) h)

theorem LqJRepair.s1 {Wq : World} {AX AA : Value} {m : Img} {d : Nat → Bool} {w : World} {s41 s42 s43 s44 s45 v : Value} (I : LqJRepair Wq AX AA m d w s41 s42 s43 s44 s45) (hd : d 1 = false) (hv : v = AA) : LqJRepair Wq AX AA m (updD d 1) w s41 v s43 s44 s45 where
  bw := I.bw
  p2 := fun h => I.p2 (upd_ne (by decide) h)
  f0 := fun h => I.f0 (upd_ne (by decide) h)
  f1 := fun _ => hv
  f3 := fun h => I.f3 (upd_ne (by decide) h)
  f4 := fun h => I.f4 (upd_ne (by decide) h)

theorem LqJRepair.s2 {Wq : World} {AX AA : Value} {m : Img} {d : Nat → Bool} {w w2 : World} {s41 s42 s43 s44 s45 v : Value} (I : LqJRepair Wq AX AA m d w s41 s42 s43 s44 s45) (hd : d 2 = false) (hb : Below w.heap.size w w2) {a1 : Im4} {ts : List Value} (hv : v = imV a1 m) (ho : OwnIm w2 Wq.heap.size a1 m ts) : LqJRepair Wq AX AA m (updD d 2) w2 s41 s42 v s44 s45 where
  bw := fr I.bw hb
  p2 := fun _ => ⟨a1, ts, hv, ho⟩
  f0 := fun h => I.f0 (upd_ne (by decide) h)
  f1 := fun h => I.f1 (upd_ne (by decide) h)
  f3 := fun h => I.f3 (upd_ne (by decide) h)
  f4 := fun h => I.f4 (upd_ne (by decide) h)

theorem LqJRepair.s3 {Wq : World} {AX AA : Value} {m : Img} {d : Nat → Bool} {w : World} {s41 s42 s43 s44 s45 v : Value} (I : LqJRepair Wq AX AA m d w s41 s42 s43 s44 s45) (hd : d 3 = false) (hv : v = .bool true) : LqJRepair Wq AX AA m (updD d 3) w s41 s42 s43 v s45 where
  bw := I.bw
  p2 := fun h => I.p2 (upd_ne (by decide) h)
  f0 := fun h => I.f0 (upd_ne (by decide) h)
  f1 := fun h => I.f1 (upd_ne (by decide) h)
  f3 := fun _ => hv
  f4 := fun h => I.f4 (upd_ne (by decide) h)

theorem LqJRepair.s4 {Wq : World} {AX AA : Value} {m : Img} {d : Nat → Bool} {w : World} {s41 s42 s43 s44 s45 v : Value} (I : LqJRepair Wq AX AA m d w s41 s42 s43 s44 s45) (hd : d 4 = false) (hv : v = .bool false) : LqJRepair Wq AX AA m (updD d 4) w s41 s42 s43 s44 v where
  bw := I.bw
  p2 := fun h => I.p2 (upd_ne (by decide) h)
  f0 := fun h => I.f0 (upd_ne (by decide) h)
  f1 := fun h => I.f1 (upd_ne (by decide) h)
  f3 := fun h => I.f3 (upd_ne (by decide) h)
  f4 := fun _ => hv

theorem LqJRepair.grow {Wq : World} {AX AA : Value} {m : Img} {d : Nat → Bool} {w w2 : World} {s41 s42 s43 s44 s45 : Value} (I : LqJRepair Wq AX AA m d w s41 s42 s43 s44 s45) (hb : Below w.heap.size w w2) : LqJRepair Wq AX AA m d w2 s41 s42 s43 s44 s45 := ⟨fr I.bw hb, fun h => (I.p2 h).imp fun a1 h1 => h1.imp fun ts h2 => ⟨h2.1, h2.2.below hb⟩, I.f0, I.f1, I.f3, I.f4⟩

abbrev lqFrRepair (t0 t1 t2 t3 t4 t5 t6 t7 t8 t9 t10 t11 t12 t13 t14 t15 t16 t17 t18 t19 t20 t21 t22 t23 t24 t25 t26 t27 t28 t29 t30 t31 t32 t33 t34 t35 t36 t37 t38 t39 t40 s41 s42 s43 s44 s45 t46 t47 t48 t49 t50 t51 t52 t53 t54 t55 t56 t57 t58 t59 t60 t61 t62 t63 t64 t65 t66 t67 t68 t69 t70 t71 t72 t73 t74 t75 t76 t77 t78 t79 t80 t81 t82 t83 t84 t85 t86 t87 t88 t89 t90 t91 t92 t93 t94 t95 : Value) : Act := ⟨#[t0, t1, t2, t3, t4, t5, t6, t7, t8, t9, t10, t11, t12, t13, t14, t15, t16, t17, t18, t19, t20, t21, t22, t23, t24, t25, t26, t27, t28, t29, t30, t31, t32, t33, t34, t35, t36, t37, t38, t39, t40, s41, s42, s43, s44, s45, t46, t47, t48, t49, t50, t51, t52, t53, t54, t55, t56, t57, t58, t59, t60, t61, t62, t63, t64, t65, t66, t67, t68, t69, t70, t71, t72, t73, t74, t75, t76, t77, t78, t79, t80, t81, t82, t83, t84, t85, t86, t87, t88, t89, t90, t91, t92, t93, t94, t95], []⟩
theorem lqFrRepair_region {P : Program} {id : Nat} {Q : Exit → Act → World → Prop} {l : List Oper} {t0 t1 t2 t3 t4 t5 t6 t7 t8 t9 t10 t11 t12 t13 t14 t15 t16 t17 t18 t19 t20 t21 t22 t23 t24 t25 t26 t27 t28 t29 t30 t31 t32 t33 t34 t35 t36 t37 t38 t39 t40 s41 s42 s43 s44 s45 t46 t47 t48 t49 t50 t51 t52 t53 t54 t55 t56 t57 t58 t59 t60 t61 t62 t63 t64 t65 t66 t67 t68 t69 t70 t71 t72 t73 t74 t75 t76 t77 t78 t79 t80 t81 t82 t83 t84 t85 t86 t87 t88 t89 t90 t91 t92 t93 t94 t95 : Value} {W : World} (J : (Nat → Bool) → World → Value → Value → Value → Value → Value →  Prop) (hm : P.follows .mixedOrders = true) (hl : linB l = true)
    (hg : ∀ (i : Nat) (o : Oper), l[i]? = some o → o.guard = none) (h0 : J (fun _ => false) { W with drawn := W.drawn + 1 } s41 s42 s43 s44 s45)
    (hs : ∀ (d : Nat → Bool) (w : World) (i : Nat) (o : Oper) (r41 r42 r43 r44 r45 : Value), Closed l d → J d w r41 r42 r43 r44 r45 → l[i]? = some o → d i = false → (∀ e ∈ o.after, Region.binds .any e = true → d e.on = true) → ∀ K : Act → World → Prop, (∀ (w' : World) (q41 q42 q43 q44 q45 : Value), J (updD d i) w' q41 q42 q43 q44 q45 → K (lqFrRepair t0 t1 t2 t3 t4 t5 t6 t7 t8 t9 t10 t11 t12 t13 t14 t15 t16 t17 t18 t19 t20 t21 t22 t23 t24 t25 t26 t27 t28 t29 t30 t31 t32 t33 t34 t35 t36 t37 t38 t39 t40 q41 q42 q43 q44 q45 t46 t47 t48 t49 t50 t51 t52 t53 t54 t55 t56 t57 t58 t59 t60 t61 t62 t63 t64 t65 t66 t67 t68 t69 t70 t71 t72 t73 t74 t75 t76 t77 t78 t79 t80 t81 t82 t83 t84 t85 t86 t87 t88 t89 t90 t91 t92 t93 t94 t95) w') → o.wp P (lqFrRepair t0 t1 t2 t3 t4 t5 t6 t7 t8 t9 t10 t11 t12 t13 t14 t15 t16 t17 t18 t19 t20 t21 t22 t23 t24 t25 t26 t27 t28 t29 t30 t31 t32 t33 t34 t35 t36 t37 t38 t39 t40 r41 r42 r43 r44 r45 t46 t47 t48 t49 t50 t51 t52 t53 t54 t55 t56 t57 t58 t59 t60 t61 t62 t63 t64 t65 t66 t67 t68 t69 t70 t71 t72 t73 t74 t75 t76 t77 t78 t79 t80 t81 t82 t83 t84 t85 t86 t87 t88 t89 t90 t91 t92 t93 t94 t95) w K Q)
    (he : ∀ (d : Nat → Bool) (w : World) (r41 r42 r43 r44 r45 : Value), J d w r41 r42 r43 r44 r45 → (∀ i, i < l.length → d i = true) → Q .normal (lqFrRepair t0 t1 t2 t3 t4 t5 t6 t7 t8 t9 t10 t11 t12 t13 t14 t15 t16 t17 t18 t19 t20 t21 t22 t23 t24 t25 t26 t27 t28 t29 t30 t31 t32 t33 t34 t35 t36 t37 t38 t39 t40 r41 r42 r43 r44 r45 t46 t47 t48 t49 t50 t51 t52 t53 t54 t55 t56 t57 t58 t59 t60 t61 t62 t63 t64 t65 t66 t67 t68 t69 t70 t71 t72 t73 t74 t75 t76 t77 t78 t79 t80 t81 t82 t83 t84 t85 t86 t87 t88 t89 t90 t91 t92 t93 t94 t95) w) : (Code.region id l.toArray true).wp P Q (lqFrRepair t0 t1 t2 t3 t4 t5 t6 t7 t8 t9 t10 t11 t12 t13 t14 t15 t16 t17 t18 t19 t20 t21 t22 t23 t24 t25 t26 t27 t28 t29 t30 t31 t32 t33 t34 t35 t36 t37 t38 t39 t40 s41 s42 s43 s44 s45 t46 t47 t48 t49 t50 t51 t52 t53 t54 t55 t56 t57 t58 t59 t60 t61 t62 t63 t64 t65 t66 t67 t68 t69 t70 t71 t72 t73 t74 t75 t76 t77 t78 t79 t80 t81 t82 t83 t84 t85 t86 t87 t88 t89 t90 t91 t92 t93 t94 t95) W := by
  refine wp_region_inv2 (fun d f w => ∃ r41 r42 r43 r44 r45, f = lqFrRepair t0 t1 t2 t3 t4 t5 t6 t7 t8 t9 t10 t11 t12 t13 t14 t15 t16 t17 t18 t19 t20 t21 t22 t23 t24 t25 t26 t27 t28 t29 t30 t31 t32 t33 t34 t35 t36 t37 t38 t39 t40 r41 r42 r43 r44 r45 t46 t47 t48 t49 t50 t51 t52 t53 t54 t55 t56 t57 t58 t59 t60 t61 t62 t63 t64 t65 t66 t67 t68 t69 t70 t71 t72 t73 t74 t75 t76 t77 t78 t79 t80 t81 t82 t83 t84 t85 t86 t87 t88 t89 t90 t91 t92 t93 t94 t95 ∧ J d w r41 r42 r43 r44 r45) hm hl hg ⟨s41, s42, s43, s44, s45, rfl, h0⟩ ?_ ?_
  · intro d f w i o hc hI ho hd hp K hK
    obtain ⟨r41, r42, r43, r44, r45, rfl, hJ⟩ := hI
    exact hs d w i o r41 r42 r43 r44 r45 hc hJ ho hd hp K (fun w' q41 q42 q43 q44 q45 hJ' => hK _ _ ⟨q41, q42, q43, q44, q45, rfl, hJ'⟩)
  · intro d f w hI hall
    obtain ⟨r41, r42, r43, r44, r45, rfl, hJ⟩ := hI
    exact he d w r41 r42 r43 r44 r45 hJ hall

set_option maxHeartbeats 3200000 in
theorem lawImRepair (a : Im4) (m : Img)  (R : Img × Int) (w : World) (hL : ImL m) (hc : ImS w a m)
    (hz : ∀ s ∈ m.snaps, s.name.size ≤ maxLen ∧ s.table.length ≤ maxLen)
    (hR : imSz m ≤ 1048576 → ImBd R.1)
    (hspec : ∀ (b : Im4) (W : World), ImS W b m → Calls Try.prog 6 #[imV b m] W fun e w' => AnsI W w' e R)
    (himpl : ∀ (b : Im4) (W : World), ImS W b m → Calls Try.prog 8 #[imV b m] W fun e w' => AnsI W w' e R) :
    Calls Try.prog 3 #[imV a m] w fun e w' => e = .returned (.bool true) ∧ Below w.heap.size w w' := by
  have HA := hide (Joins.below_alloc1 w (.cells #[.slice a.ro m.refs.length a.rc, .slice a.tq m.table.length a.tc, .slice a.so m.snaps.length a.sc, .slice a.dq m.data.length a.dc] 25))
  have HV := hide (VarM.new w 25 (.slice a.ro m.refs.length a.rc) (.slice a.tq m.table.length a.tc) (.slice a.so m.snaps.length a.sc) (.slice a.dq m.data.length a.dc))
  have HC := hide (hc.below (unhide HA))
  have HCW := hide hc
  have HL := hide hL
  have HZ := hide hz
  have HRB := hide hR
  have HSP := hide hspec
  have HIM := hide himpl
  clear hc hL hz hR hspec himpl
  go_enter Try.func3, Try.ntmps3
  go_upto_region 2 with fail
  revert HC
  revert HV
  revert HA
  generalize (w.alloc _) = W0
  intro HA HV HC
  obtain ⟨c0, c1, c2, c3⟩ := (unhide HV).cells
  go_wp2_with fail
  refine (szImage_any a m 1048576 _ (unhide HL).r (unhide HL).t (unhide HL).s (unhide HL).d (by omega) (by omega) (unhide HC)).mono ?_
  rintro e w1 ⟨r, rfl, hr0, hr1, hr2, hb⟩
  have HB1 := hide (fr (unhide HA) hb)
  have HC1 := hide ((unhide HC).below hb)
  have HV1 := hide ((unhide HV).below hb)
  clear hb c0 c1 c2 c3 HA HV HC
  by_cases hneg : r < 0
  · go_wp2
    go_ret
    exact ⟨rfl, unhide HB1⟩
  have HSZ : Hid (imSz m ≤ 1048576) := hide (by have := hr2 (by omega); omega)
  have HBD := hide (ImBd.of (unhide HSZ))
  have HRD := hide (unhide HRB (unhide HSZ))
  clear hr2 HRB
  obtain ⟨c0, c1, c2, c3⟩ := (unhide HV1).cells
  -- the model's answer
  go_wp2_with fail
  refine (toImage_B a m _ (unhide HBD) (unhide HC1)).mono ?_
  rintro e w2 ⟨a2, ts2, rfl, ho2, hb2⟩
  have HB2 := hide (fr (unhide HB1) hb2)
  have HC2 := hide ((unhide HC1).below hb2)
  have HV2 := hide ((unhide HV1).below hb2)
  have HI2 := hide (ho2.shows (unhide HZ))
  clear hb2 ho2 c0 c1 c2 c3 HB1 HC1 HV1
  go_wp2_with fail
  refine (unhide HSP a2 _ (unhide HI2)).mono ?_
  rintro e w3 ⟨aW, tsW, rfl, hoW, hb3⟩
  have HV3 := hide ((unhide HV2).below hb3)
  have HNW := hide (LwV.new w3 aW R.1 (hoW.base (B' := w.heap.size) (unhide HB2).size) (Nat.le_trans (unhide HB2).size hb3.size))
  have HB3 := hide (fr (fr (unhide HB2) hb3) (Joins.below_alloc1 w3 (.cells #[.slice aW.ro R.1.refs.length aW.rc, .slice aW.tq R.1.table.length aW.tc, .slice aW.so R.1.snaps.length aW.sc, .slice aW.dq R.1.data.length aW.dc] 29)))
  have HC3 := hide (((unhide HC2).below hb3).below (Joins.below_alloc1 w3 (.cells #[.slice aW.ro R.1.refs.length aW.rc, .slice aW.tq R.1.table.length aW.tc, .slice aW.so R.1.snaps.length aW.sc, .slice aW.dq R.1.data.length aW.dc] 29)))
  have HVA3 := hide ((unhide HV3).below (Joins.below_alloc1 w3 (.cells #[.slice aW.ro R.1.refs.length aW.rc, .slice aW.tq R.1.table.length aW.tc, .slice aW.so R.1.snaps.length aW.sc, .slice aW.dq R.1.data.length aW.dc] 29)))
  clear hoW hb3 HB2 HC2 HV2 HI2 HV3
  go_upto_region 6 with fail
  revert HVA3
  revert HC3
  revert HB3
  revert HNW
  generalize (w3.alloc _) = W3
  generalize w3.heap.size = pW
  intro HNW HB3 HC3 HVA3
  -- the argument's copy
  obtain ⟨c0, c1, c2, c3⟩ := (unhide HVA3).cells
  go_wp2_with fail
  refine (toImage_B a m _ (unhide HBD) (unhide HC3)).mono ?_
  rintro e w4 ⟨aX, tsX, rfl, hoX, hb4⟩
  have HNW4 := hide ((unhide HNW).below (fr hb4 (Joins.below_alloc1 w4 (.cells #[.slice aX.ro m.refs.length aX.rc, .slice aX.tq m.table.length aX.tc, .slice aX.so m.snaps.length aX.sc, .slice aX.dq m.data.length aX.dc] 29))))
  have HNX4 := hide (LwV.new w4 aX m hoX hb4.size)
  have HB4 := hide (fr (fr (unhide HB3) hb4) (Joins.below_alloc1 w4 (.cells #[.slice aX.ro m.refs.length aX.rc, .slice aX.tq m.table.length aX.tc, .slice aX.so m.snaps.length aX.sc, .slice aX.dq m.data.length aX.dc] 29)))
  have HC4 := hide ((unhide HC3).below (fr hb4 (Joins.below_alloc1 w4 (.cells #[.slice aX.ro m.refs.length aX.rc, .slice aX.tq m.table.length aX.tc, .slice aX.so m.snaps.length aX.sc, .slice aX.dq m.data.length aX.dc] 29))))
  have HVA4 := hide ((unhide HVA3).below (fr hb4 (Joins.below_alloc1 w4 (.cells #[.slice aX.ro m.refs.length aX.rc, .slice aX.tq m.table.length aX.tc, .slice aX.so m.snaps.length aX.sc, .slice aX.dq m.data.length aX.dc] 29))))
  have HWX : Hid (∀ g, ImB aW R.1 tsW g → g < W3.heap.size) := hide (fun g hg => ((unhide HNW).o.ge g hg).2)
  have HSL : Hid (w.heap.size ≤ W3.heap.size) := hide (unhide HB3).size
  clear hoX hb4 c0 c1 c2 c3 HNW HB3 HC3 HVA3
  generalize W3.heap.size = n1 at *
  go_upto_region 7 with fail
  revert HVA4
  revert HC4
  revert HB4
  revert HNX4
  revert HNW4
  generalize (w4.alloc _) = W4
  generalize w4.heap.size = pX
  intro HNW4 HNX4 HB4 HC4 HVA4
  -- the program's answer
  obtain ⟨c0, c1, c2, c3⟩ := (unhide HNX4).v.cells
  go_wp2_with fail
  refine (unhide HIM aX _ ((unhide HNX4).o.shows (unhide HZ))).mono ?_
  rintro e w5 ⟨aG, tsG, rfl, hoG, hb5⟩
  have HB5' := hide (fr hb5 (Joins.below_alloc1 w5 (.cells #[.slice aG.ro R.1.refs.length aG.rc, .slice aG.tq R.1.table.length aG.tc, .slice aG.so R.1.snaps.length aG.sc, .slice aG.dq R.1.data.length aG.dc] 29)))
  have HNW5 := hide ((unhide HNW4).below (unhide HB5'))
  have HNX5 := hide ((unhide HNX4).below (unhide HB5'))
  have HNG5 := hide (LwV.new w5 aG R.1 hoG hb5.size)
  have HB5 := hide (fr (unhide HB4) (unhide HB5'))
  have HC5 := hide ((unhide HC4).below (unhide HB5'))
  have HVA5 := hide ((unhide HVA4).below (unhide HB5'))
  have HXG : Hid (∀ g, ImB aX m tsX g → g < W4.heap.size) := hide (fun g hg => ((unhide HNX4).o.ge g hg).2)
  have HN12 : Hid (n1 ≤ W4.heap.size) := hide (unhide HNX4).n
  clear hoG hb5 c0 c1 c2 c3 HNW4 HNX4 HB4 HC4 HVA4
  generalize W4.heap.size = n2 at *
  go_upto_region 8 with fail
  clear HB5'
  revert HVA5
  revert HC5
  revert HB5
  revert HNG5
  revert HNX5
  revert HNW5
  generalize (w5.alloc _) = W5
  generalize w5.heap.size = pG
  intro HNW5 HNX5 HNG5 HB5 HC5 HVA5
  have HRZ : Hid (ImBd R.1) := HRD
  have HRS := hide (unhide HRD).zs
  have bcc : (R.2 != R.2) = false := by simp
  obtain ⟨c0, c1, c2, c3⟩ := (unhide HNG5).v.cells
  obtain ⟨d0, d1, d2, d3⟩ := (unhide HNW5).v.cells
  go_wp2_with fail
  refine (eqImage_B aG aW R.1 _ (unhide HRD) ((unhide HNG5).o.shows (unhide HRS)) ((unhide HNW5).o.shows (unhide HRS))).mono ?_
  rintro e w6 ⟨rfl, hb⟩
  have HNW6 := hide ((unhide HNW5).below hb)
  have HNX6 := hide ((unhide HNX5).below hb)
  have HNG6 := hide ((unhide HNG5).below hb)
  have HB6 := hide (fr (unhide HB5) hb)
  have HC6 := hide ((unhide HC5).below hb)
  have HVA6 := hide ((unhide HVA5).below hb)
  clear hb c0 c1 c2 c3 d0 d1 d2 d3 HNW5 HNX5 HNG5 HB5 HC5 HVA5
  go_upto_region 10 with fail
  refine lqFrRepair_region (fun d wz r41 r42 r43 r44 r45 => LqJRepair w6 (imV aX m) (imV a m) m d wz r41 r42 r43 r44 r45) (by kernel_rfl) (by kernel_rfl) (noG_spec (by kernel_rfl)) ?h0 ?hs ?he
  case h0 => exact ⟨(Below.refl _ w6).drew, fun h => (by cases h), fun h => (by cases h), fun h => (by cases h), fun h => (by cases h), fun h => (by cases h)⟩
  case hs =>
    intro d wz i o r41 r42 r43 r44 r45 hc I ho hd hp K hK
    obtain ⟨k0, k1, k2, k3⟩ := ((unhide HNX6).v.below I.bw).cells
    obtain ⟨l0, l1, l2, l3⟩ := ((unhide HVA6).below I.bw).cells
    have hi : i < 5 := (List.getElem?_eq_some_iff.1 ho).1
    rcases (show i = 0 ∨ i = 1 ∨ i = 2 ∨ i = 3 ∨ i = 4 by omega) with rfl | rfl | rfl | rfl | rfl
    · cases ho
      unfold Oper.wp
      go_simp
      exact hK _ _ _ _ _ _ (I.s0 hd rfl)
    · cases ho
      unfold Oper.wp
      go_simp
      exact hK _ _ _ _ _ _ (I.s1 hd rfl)
    · cases ho
      have e1 := I.f1 (hp ⟨1, .data⟩ (by simp) rfl)
      subst e1
      unfold Oper.wp
      go_simp
      refine (toImage_B a m _ (unhide HBD) ((unhide HC6).below I.bw)).mono ?_
      rintro e w2 ⟨a1, ts, rfl, ho1, hb1⟩
      exact hK _ _ _ _ _ _ (I.s2 hd hb1 rfl (ho1.base I.bw.size))
    · cases ho
      have e0 := I.f0 (hp ⟨0, .data⟩ (by simp) rfl)
      subst e0
      obtain ⟨a1, ts, e2, ho1⟩ := I.p2 (hp ⟨2, .data⟩ (by simp) rfl)
      subst e2
      unfold Oper.wp
      go_simp
      refine (eqImage_B aX a1 m _ (unhide HBD) (((unhide HNX6).below I.bw).o.shows (unhide HZ)) (ho1.shows (unhide HZ))).mono ?_
      rintro e w2 ⟨rfl, hb1⟩
      exact hK _ _ _ _ _ _ ((I.grow hb1).s3 hd rfl)
    · cases ho
      have e3 := I.f3 (hp ⟨3, .data⟩ (by simp) rfl)
      subst e3
      unfold Oper.wp
      go_simp
      exact hK _ _ _ _ _ _ (I.s4 hd rfl)
  case he =>
    intro d w7 r41 r42 r43 r44 r45 I hall
    have e4 := I.f4 (hall 4 (by decide))
    subst e4
    have hb := I.bw
    have HNW7 := hide ((unhide HNW6).below hb)
    have HNX7 := hide ((unhide HNX6).below hb)
    have HNG7 := hide ((unhide HNG6).below hb)
    have HB7 := hide (fr (unhide HB6) hb)
    have HC7 := hide ((unhide HC6).below hb)
    have HVA7 := hide ((unhide HVA6).below hb)
    clear hb I hall HNW6 HNX6 HNG6 HB6 HC6 HVA6
    obtain ⟨c0, c1, c2, c3⟩ := (unhide HNX7).v.cells
    go_wp2_with fail
    refine (markImage_B aX m tsX _ _ (unhide HBD) (unhide HNX7).o).mono ?_
    rintro e w8 ⟨rfl, _, hk8⟩
    have HNW8 := hide ((unhide HNW7).keep (unhide HNX7) hk8 (fun g h1 h2 => by have := unhide HWX g h1; have := ((unhide HNX7).o.ge g h2).1; omega))
    have HNG8 := hide ((unhide HNG7).keep (unhide HNX7) hk8 (fun g h1 h2 => by have := unhide HXG g h2; have := ((unhide HNG7).o.ge g h1).1; omega))
    have HB8 := hide ((unhide HB7).trans (hk8.below (unhide HB7).size (fun g hg => by have := ((unhide HNX7).o.ge g hg).1; have := unhide HSL; omega)))
    have HLT8 : Hid (∀ g, ImB aX m tsX g → w.heap.size ≤ g) := hide (fun g hg => by have := ((unhide HNX7).o.ge g hg).1; have := unhide HSL; omega)
    have HC8 := hide ((unhide HCW).below (unhide HB8))
    have HVA8 : Hid (VarM w8 w.heap.size 25 (.slice a.ro m.refs.length a.rc) (.slice a.tq m.table.length a.tc) (.slice a.so m.snaps.length a.sc) (.slice a.dq m.data.length a.dc)) := hide ((hk8.block w.heap.size (unhide HVA7).lt (OwnIm.otherL (unhide HNX7).o (unhide HVA7))).trans (unhide HVA7))
    clear hk8 c0 c1 c2 c3 HNW7 HNX7 HNG7 HB7 HC7 HVA7
    have hk1 : ¬ (((1 + imK m : Nat) : Int) < 0) := by omega
    obtain ⟨c0, c1, c2, c3⟩ := (unhide HNG8).v.cells
    obtain ⟨d0, d1, d2, d3⟩ := (unhide HNW8).v.cells
    go_wp2_with fail
    refine (eqImage_B aG aW R.1 _ (unhide HRD) ((unhide HNG8).o.shows (unhide HRS)) ((unhide HNW8).o.shows (unhide HRS))).mono ?_
    rintro e w9 ⟨rfl, hb⟩
    have HNW9 := hide ((unhide HNW8).below hb)
    have HNG9 := hide ((unhide HNG8).below hb)
    have HB9 := hide (fr (unhide HB8) hb)
    have HC9 := hide ((unhide HC8).below hb)
    have HVA9 := hide ((unhide HVA8).below hb)
    clear hb c0 c1 c2 c3 d0 d1 d2 d3 HNW8 HNG8 HB8 HC8 HVA8
    obtain ⟨c0, c1, c2, c3⟩ := (unhide HNG9).v.cells
    go_wp2_with fail
    refine (markImage_B aG R.1 tsG _ _ (unhide HRD) (unhide HNG9).o).mono ?_
    rintro e w10 ⟨rfl, ho10, hk10⟩
    have HNW10 := hide ((unhide HNW9).keep (unhide HNG9) hk10 (fun g h1 h2 => by have := unhide HWX g h1; have := ((unhide HNG9).o.ge g h2).1; have := unhide HN12; omega))
    have HGV10 := hide ((unhide HNG9).v.keepIm (unhide HNG9).o hk10)
    have HGO10 := hide ho10
    have HB10 := hide ((unhide HB9).trans (hk10.below (unhide HB9).size (fun g hg => by have := ((unhide HNG9).o.ge g hg).1; have := unhide HSL; have := unhide HN12; omega)))
    have HC10 := hide ((unhide HCW).below (unhide HB10))
    have HVA10 : Hid (VarM w10 w.heap.size 25 (.slice a.ro m.refs.length a.rc) (.slice a.tq m.table.length a.tc) (.slice a.so m.snaps.length a.sc) (.slice a.dq m.data.length a.dc)) := hide ((hk10.block w.heap.size (unhide HVA9).lt (OwnIm.otherL (unhide HNG9).o (unhide HVA9))).trans (unhide HVA9))
    clear ho10 hk10 c0 c1 c2 c3 HNW9 HNG9 HB9 HC9 HVA9
    obtain ⟨c0, c1, c2, c3⟩ := (unhide HGV10).cells
    go_wp2_with fail
    refine (heldImage_B aG R.1 tsG _ _ (unhide HRD) (unhide HGO10)).mono ?_
    rintro e w11 ⟨rfl, hb⟩
    have HNW11 := hide ((unhide HNW10).below hb)
    have HGV11 := hide ((unhide HGV10).below hb)
    have HGO11 := hide ((unhide HGO10).below hb)
    have HB11 := hide (fr (unhide HB10) hb)
    have HC11 := hide ((unhide HC10).below hb)
    have HVA11 := hide ((unhide HVA10).below hb)
    clear hb c0 c1 c2 c3 HNW10 HGV10 HGO10 HB10 HC10 HVA10
    have hq1 : ¬ (((1 + imK R.1 : Nat) : Int) < 0) := by omega
    obtain ⟨c0, c1, c2, c3⟩ := (unhide HVA11).cells
    go_wp2_with fail
    refine (toImage_B a m _ (unhide HBD) (unhide HC11)).mono ?_
    rintro e w12 ⟨a12, ts12, rfl, ho12, hb⟩
    have HI12 := hide (ho12.shows (unhide HZ))
    have HNW12 := hide ((unhide HNW11).below hb)
    have HGV12 := hide ((unhide HGV11).below hb)
    have HGO12 := hide ((unhide HGO11).below hb)
    have HB12 := hide (fr (unhide HB11) hb)
    clear hb ho12 c0 c1 c2 c3 HNW11 HGV11 HGO11 HB11 HC11 HVA11
    go_wp2_with fail
    refine (unhide HIM a12 _ (unhide HI12)).mono ?_
    rintro e w13 ⟨aH, tsH, rfl, hoH, hb⟩
    have HBa := hide (fr hb (Joins.below_alloc1 w13 (.cells #[.slice aH.ro R.1.refs.length aH.rc, .slice aH.tq R.1.table.length aH.tc, .slice aH.so R.1.snaps.length aH.sc, .slice aH.dq R.1.data.length aH.dc] 29)))
    have HNH := hide (LwV.new w13 aH R.1 hoH hb.size)
    have HNW13 := hide ((unhide HNW12).below (unhide HBa))
    have HGV13 := hide ((unhide HGV12).below (unhide HBa))
    have HGO13 := hide ((unhide HGO12).below (unhide HBa))
    have HB13 := hide (fr (unhide HB12) (unhide HBa))
    clear hb hoH HNW12 HGV12 HGO12 HB12 HI12
    go_upto_region 25 with fail
    clear HBa
    revert HB13
    revert HGO13
    revert HGV13
    revert HNW13
    revert HNH
    generalize (w13.alloc _) = W13
    generalize w13.heap.size = pH
    intro HNH HNW13 HGV13 HGO13 HB13
    obtain ⟨c0, c1, c2, c3⟩ := (unhide HNH).v.cells
    obtain ⟨d0, d1, d2, d3⟩ := (unhide HNW13).v.cells
    go_wp2_with fail
    refine (eqImage_B aH aW R.1 _ (unhide HRD) ((unhide HNH).o.shows (unhide HRS)) ((unhide HNW13).o.shows (unhide HRS))).mono ?_
    rintro e w14 ⟨rfl, hb⟩
    have HGV14 := hide ((unhide HGV13).below hb)
    have HGO14 := hide ((unhide HGO13).below hb)
    have HB14 := hide (fr (unhide HB13) hb)
    clear hb c0 c1 c2 c3 d0 d1 d2 d3 HNH HNW13 HGV13 HGO13 HB13
    obtain ⟨c0, c1, c2, c3⟩ := (unhide HGV14).cells
    go_wp2_with fail
    refine (heldImage_B aG R.1 tsG _ _ (unhide HRD) (unhide HGO14)).mono ?_
    rintro e w15 ⟨rfl, hb⟩
    have HB15 := hide (fr (unhide HB14) hb)
    clear hb c0 c1 c2 c3
    go_wp2
    go_ret
    exact ⟨rfl, unhide HB15⟩

end Go.Proofs.Ytjoafbkcnnhdiac

namespace Go.Proofs.Ytjoafbkcnnhdiac
open Go.RowKit
set_option linter.unusedVariables false

def AnsN (W w' : World) (e : Ending) (R : List Int × Int) : Prop := ∃ qo qa, e = .returned (.tuple #[.slice qo R.1.length qa, .int .i64 R.2]) ∧ OwnR w' W.heap.size 3 1 (.slice qo R.1.length qa) R.1.length (intV R.1) ∧ Below W.heap.size W w'
def ckB (m : Img) : Bool := imFm m && (imTabs m).all onceB
def ckL (p : Int → Int → Bool) (ts fs : List Int) : Nat → List Int
  | 0 => []
  | k + 1 => ckL p ts fs k ++ (if p (ts.getD k 0) (fs.getD k 0) then [(k : Int)] else [])
def crA (m : Img) : List Int × Int := if ckB m then (imCnt m, 0) else ([], 1)
theorem ck_fm {m : Img} (h : imFm m = false) : ckB m = false := by simp [ckB, h]
theorem ck_once {m : Img} {t : List Int} (ht : t ∈ imTabs m) (h : onceB t = false) : ckB m = false := by
  have e : (imTabs m).all onceB = false := by
    cases hh : (imTabs m).all onceB with
    | false => rfl
    | true => rw [List.all_eq_true] at hh; rw [hh t ht] at h; cases h
  simp only [ckB, e, Bool.and_false]
theorem ck_yes {m : Img} (hf : imFm m = true) (h1 : ∀ t ∈ imTabs m, onceB t = true) : ckB m = true := by
  have e1 : (imTabs m).all onceB = true := List.all_eq_true.2 h1
  simp only [ckB, hf, e1, Bool.and_true]
theorem ck_parts {m : Img} (h : ckB m = true) : imFm m = true ∧ ∀ t ∈ imTabs m, onceB t = true := by
  simp only [ckB, Bool.and_eq_true, List.all_eq_true] at h
  exact h
def rpD (fs ds : List Int) : Nat → List Int
  | 0 => ds
  | k + 1 => if fs.getD k 0 = 0 then (rpD fs ds k).set k 0 else rpD fs ds k
theorem rpD_len (fs ds : List Int) (k : Nat) : (rpD fs ds k).length = ds.length := by
  induction k with
  | zero => rfl
  | succ k ih => simp only [rpD]; split <;> simp [ih]
def rpI (m : Img) : Img := { m with refs := imCnt m, data := rpD (imCnt m) m.data 24 }
def rpA (m : Img) : Img × Int := if ckB m then (rpI m, 0) else (⟨[], [], [], []⟩, 1)

end Go.Proofs.Ytjoafbkcnnhdiac

namespace Go.Proofs.Ytjoafbkcnnhdiac
open Go.RowKit
set_option linter.unusedVariables false
set_option maxRecDepth 100000

set_option maxHeartbeats 3200000 in
theorem l12Form_any (a : Im4) (m : Img) (w : World) (hL : ImL m) (hc : ImS w a m) :
    Calls Try.prog 23 #[imV a m] w fun e w' => e = .returned (.bool (ckB m)) ∧ Below w.heap.size w w' := by
  have HA := hide (Joins.below_alloc1 w (.cells #[.slice a.ro m.refs.length a.rc, .slice a.tq m.table.length a.tc, .slice a.so m.snaps.length a.sc, .slice a.dq m.data.length a.dc] 29))
  have HV := hide (VarM.new w 29 (.slice a.ro m.refs.length a.rc) (.slice a.tq m.table.length a.tc) (.slice a.so m.snaps.length a.sc) (.slice a.dq m.data.length a.dc))
  have HC := hide (hc.below (unhide HA))
  have HL := hide hL
  clear hc hL
  cases hfm : imFm m
  · have HF := hide (ck_fm hfm)
    go_enter Try.func23, Try.ntmps23
    go_upto_region 1 with fail
    revert HA HV HC
    generalize (w.alloc _) = W0
    intro HA HV HC
    obtain ⟨c0, c1, c2, c3⟩ := (unhide HV).cells
    go_wp2_with fail
    refine (l10Form_any a m _ (unhide HL) (unhide HC)).mono ?_
    rintro e w1 ⟨rfl, hb⟩
    rw [hfm]
    have HB := hide (fr (unhide HA) hb)
    clear hb c0 c1 c2 c3
    go_wp2
    go_ret
    exact ⟨ret_bool (unhide HF).symm, unhide HB⟩
  obtain ⟨p1, p2, p3, p4⟩ := fm_parts hfm
  have HFM := hide hfm
  have HR24 := hide (ctB_len p1)
  have HD24 := hide p3
  have HTB := hide p4
  have hs3 : m.snaps.length ≤ 3 := p2
  clear p1 p2 p3 p4 hfm
  go_enter Try.func23, Try.ntmps23
  go_upto_region 1 with fail
  revert HA HV HC
  generalize (w.alloc _) = W0
  intro HA HV HC
  obtain ⟨c0, c1, c2, c3⟩ := (unhide HV).cells
  go_wp2_with fail
  refine (l10Form_any a m _ (unhide HL) (unhide HC)).mono ?_
  rintro e w1 ⟨rfl, hb⟩
  rw [unhide HFM]
  have HB1 := hide (fr (unhide HA) hb)
  have HC1 := hide ((unhide HC).below hb)
  have HV1 := hide ((unhide HV).below hb)
  clear hb c0 c1 c2 c3 HA HV HC
  obtain ⟨c0, c1, c2, c3⟩ := (unhide HV1).cells
  go_wp2_with fail
  refine (l10Twice_any a.tq a.tc m.table _ (unhide HTB _ (by simp [imTabs])) (unhide HC1).t).mono ?_
  rintro e w2 ⟨rfl, hb⟩
  have HB2 := hide (fr (unhide HB1) hb)
  have HC2 := hide ((unhide HC1).below hb)
  have HV2 := hide ((unhide HV1).below hb)
  clear hb c0 c1 c2 c3 HB1 HC1 HV1
  cases hon : onceB m.table
  · have HF := hide (ck_once (m := m) (t := m.table) (by simp [imTabs]) hon)
    go_wp2
    go_ret
    exact ⟨ret_bool (unhide HF).symm, unhide HB2⟩
  have HON := hide hon
  clear hon
  obtain ⟨c0, c1, c2, c3⟩ := (unhide HV2).cells
  go_wp2
  clear c0 c1 c2 c3
  go_loopw [3] (fun i wr => ∃ k : Nat, k ≤ m.snaps.length ∧ i = .int .i64 k ∧ Hid (∀ j (hj : j < m.snaps.length), j < k → onceB m.snaps[j].table = true) ∧ Hid (Below w2.heap.size w2 wr)) (fun i _ => m.snaps.length - (intOf i).toNat)
  case atStart => exact ⟨0, Nat.zero_le _, rfl, hide (fun j _ h => by omega), hide (Below.refl _ _)⟩
  case round =>
    obtain ⟨i, hi, rfl, HS, HB⟩ := hrel
    obtain ⟨c0, c1, c2, c3⟩ := ((unhide HV2).below (unhide HB)).cells
    by_cases hlt : i < m.snaps.length
    · obtain ⟨b, off, tq, tc, eb, hn0, ht0, hIs, hz, htl⟩ := ((unhide HC2).s.below (unhide HB)) i hlt
      rw [eb] at c2
      clear eb
      have hlti : (i : Int) < (m.snaps.length : Int) := by omega
      have HIS := hide hIs
      have HMT : Hid (m.snaps[i].table ∈ imTabs m) := hide (by unfold imTabs; exact List.mem_cons_of_mem _ (List.mem_map.2 ⟨_, List.getElem_mem hlt, rfl⟩))
      clear hIs hz htl
      go_wp2_with fail
      refine (l10Twice_any tq tc m.snaps[i].table _ (unhide HTB _ (unhide HMT)) (unhide HIS)).mono ?_
      rintro e w3 ⟨rfl, hb⟩
      have HB3 := hide (fr (unhide HB) hb)
      clear hb c0 c1 c2 c3 hn0 ht0
      cases hon : onceB m.snaps[i].table
      · have HF := hide (ck_once (unhide HMT) hon)
        go_wp2
        go_ret
        exact ⟨ret_bool (unhide HF).symm, fr (unhide HB2) (unhide HB3)⟩
      · have HS' := hide (all_succ (p := fun s : Snp => onceB s.table) hlt (unhide HS) hon)
        go_wp2
        go_roundw
        case rel => exact ⟨i + 1, by omega, by go_num, HS', HB3⟩
        case measure => simp [intOf]; omega
    · have HALL : Hid (∀ t ∈ imTabs m, onceB t = true) := hide (fun t ht => by
        unfold imTabs at ht
        rw [List.mem_cons, List.mem_map] at ht
        rcases ht with rfl | ⟨s, hs, rfl⟩
        · exact unhide HON
        · obtain ⟨j, hj, rfl⟩ := List.mem_iff_getElem.1 hs
          exact unhide HS j hj (by omega))
      have HF := hide (ck_yes (unhide HFM) (unhide HALL))
      go_wp2
      go_ret
      exact ⟨ret_bool (unhide HF).symm, fr (unhide HB2) (unhide HB)⟩

end Go.Proofs.Ytjoafbkcnnhdiac

namespace Go.Proofs.Ytjoafbkcnnhdiac
open Go.RowKit
set_option linter.unusedVariables false
set_option maxRecDepth 100000

theorem OwnIm.putR {w : World} {B : Nat} {a : Im4} {m : Img} {ts : List Value} (h : OwnIm w B a m ts) {qo : Option Addr} {qa : Nat} {xs : List Int} (ho : OwnR w B 3 1 (.slice qo xs.length qa) xs.length (intV xs)) (hap : ∀ g, Own (.slice qo xs.length qa) g → ¬ ImB a m ts g) : OwnIm w B { a with ro := qo, rc := qa } { m with refs := xs } ts := by
  refine ⟨h.len, h.s, ?_⟩
  have hr := h.rows
  unfold imRows at hr ⊢
  have h2 := List.pairwise_cons.1 hr.apart
  refine ⟨fun r hm => ?_, List.pairwise_cons.2 ⟨fun r hm g hg hg' => ?_, h2.2⟩⟩
  · rcases List.mem_cons.1 hm with e | e
    · rw [e]; exact ⟨qo, qa, rfl, ho⟩
    · exact hr.own r (List.mem_cons_of_mem _ e)
  · refine hap g hg ?_
    rcases List.mem_cons.1 hm with e | e
    · subst e; exact .inr (.inl hg')
    · rcases List.mem_cons.1 e with e | e
      · subst e; exact .inr (.inr (.inl hg'))
      · exact .inr (.inr (.inr (.inr ⟨r.1, (List.of_mem_zip (a := r.1) (b := r.2) e).1, hg'⟩)))
def rpF (m : Img) (cs : List Int) (k : Nat) : Img := { m with refs := cs, data := rpD cs m.data k }

end Go.Proofs.Ytjoafbkcnnhdiac
