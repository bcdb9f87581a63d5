import Derived.Test.YtkndabnngdjcgaaDoorRows
import Derived.Test.YtkndabnngdjcgaaDoorXReqTextPart9
import Derived.Test.YtkndabnngdjcgaaDoorXReqTextPart2
import Derived.Test.YtkndabnngdjcgaaDoorXReqTextPart10
import Derived.WalkKit
import Derived.WalkSpells
import Derived.LoopN
import Derived.Deep.RegionWith
import Derived.Test.YtkndabnngdjcgaaDoorXReqTextPart1
import Derived.Test.YtkndabnngdjcgaaDoorXReqTextPart3
import Derived.Test.YtkndabnngdjcgaaDoorXReqTextPart4
import Derived.Test.YtkndabnngdjcgaaDoorXReqTextPart8
import Derived.BigQuiet
import Derived.Deep.QuietTactic
import Derived.Deep.RegionHeld3

/- Contract of the model's l10Own: an image as it was, in new memory. (Made ahead of stage 10.) -/
namespace Go.Proofs.YtkndabnngdjcgaaDoor
open Go.RowKit
set_option linter.unusedVariables false
set_option maxRecDepth 100000

theorem wp_append_fresh {P : Program} {o : Oper} {a : Act} {w : World} {K : Act → World → Prop} {Q : Exit → Act → World → Prop}
    (hg : o.guard = none) (s x : Operand) (t : TypeId) (hop : o.op = Op.call { callee := Callee.builtin Builtin.append, args := #[s, x], argTypes := #[t, t] })
    (e : TypeId) (i : TypeInfo) (z : Value) (size bytes : Nat) (h1 : P.underlying t = some (.slice e)) (h2 : P.info? e = some i) (h3 : i.zero = some z) (h4 : i.size = size) (h5 : i.bytes = bytes) (h6 : z.cells.size = size) (h7 : 0 < size)
    (hs0 : isFresh (a.eval s) = true) (so : Option Addr) (m c : Nat) (news : List Value) (hx : a.eval x = .slice so m c) (hn : news.length = m * size)
    (hc : 0 < m → ∃ ad, so = some ad ∧ ∀ j u, news[j]? = some u → w.cell? (ad.add j) = some u) (b1 : m ≤ maxLen) (b2 : m * bytes ≤ 140737488355328)
    (hK : ∀ ao cap w', OwnR w' w.heap.size e size (.slice ao m cap) m news → w.grownBy w' none → K (a.put o.dst (.slice ao m cap)) w') : o.wp P a w K Q := by
  have := step_append_fresh (P := P) (ops := #[]) (o := o) (a := a) (w := w) (K := K) (Q := Q) (E := True) hg s x t hop e i z size bytes h1 h2 h3 h4 h5 h6 h7 hs0 so m c news hx hn hc b1 b2 hK
  rwa [if_pos (by simp [Region.wanted, hg])] at this

theorem snap_news {w : World} {g : Nat} {n : ByteArray} {v : Value} {t : TypeId} (h : w.heap[g]? = some (.cells #[.string n, v] t (0, 0))) : ∀ j u, [Value.string n, v][j]? = some u → w.cell? ((⟨g, 0, none⟩ : Addr).add j) = some u := by
  intro j u hu
  have hj : j < 2 := (List.getElem?_eq_some_iff.1 hu).1
  rcases (show j = 0 ∨ j = 1 by omega) with rfl | rfl
  · simp at hu
    subst hu
    rw [show (⟨g, 0, none⟩ : Addr).add 0 = ⟨g, 0, none⟩ from rfl, Joins.cell_of_block h]; rfl
  · simp at hu
    subst hu
    rw [show (⟨g, 0, none⟩ : Addr).add 1 = ⟨g, 1, none⟩ from rfl, Joins.cell_of_block h]; rfl
theorem snap_one (n : ByteArray) (q : Option Addr) (l c : Nat) : ∀ u ∈ [Value.string n, .slice q l c], u.oneCell' = true := by
  intro u hu
  simp at hu
  rcases hu with rfl | rfl <;> rfl
theorem wp_append_one {P : Program} {w : World} {o : Oper} {a : Act} {K : Act → World → Prop} {Q : Exit → Act → World → Prop} (hgd : o.guard = none) (s x : Operand) (t : TypeId)
    (ho : o.op = .call { callee := .builtin .append, args := #[s, x], argTypes := #[t, t] })
    (B : Nat) (e : TypeId) (i : TypeInfo) (z : Value) (size bytes : Nat) (ht : P.underlying t = some (.slice e)) (hi : P.info? e = some i) (hz : i.zero = some z)
    (hsize : i.size = size) (hby : i.bytes = bytes) (hzs : z.cells.size = size) (hsz : 0 < size)
    (qo : Option Addr) (n cap : Nat) (xs : List Value) (hs : a.eval s = .slice qo n cap) (h : OwnR w B e size (.slice qo n cap) n xs) (hB : B ≤ w.heap.size)
    (ad : Addr) (c : Nat) (news : List Value) (hx : a.eval x = .slice (some ad) 1 c) (hl : news.length = size) (hnews : ∀ j u, news[j]? = some u → w.cell? (ad.add j) = some u) (h1 : ∀ u ∈ news, u.oneCell' = true)
    (b1 : n + 1 ≤ maxLen) (b2 : (n + 1) * bytes ≤ 140737488355328)
    (hK : ∀ g cap' w', w'.ownsRow B e size (.slice (some ⟨g, 0, none⟩) (n + 1) cap') (n + 1) (xs ++ news) → Keep (Own (.slice qo n cap)) w w' → K (a.put o.dst (.slice (some ⟨g, 0, none⟩) (n + 1) cap')) w') : o.wp P a w K Q := by
  have := step_append_one (P := P) (ops := #[]) (o := o) (a := a) (w := w) (K := K) (Q := Q) (E := True) hgd s x t ho B e i z size bytes ht hi hz hsize hby hzs hsz qo n cap xs hs h hB ad c news hx hl hnews h1 b1 b2 hK
  rwa [if_pos (by simp [Region.wanted, hgd])] at this

set_option maxHeartbeats 6400000 in
theorem l10Own_full (a : Im4) (m : Img) (w : World) (hL : m.refs.length ≤ 1048576 ∧ m.table.length ≤ 1048576 ∧ m.data.length ≤ 1048576) (hst : ∀ s ∈ m.snaps, s.table.length ≤ 1048576) (hs1 : m.snaps.length ≤ 1048576) (hc : ImS w a m) :
    Calls Tryd.prog 123 #[imV a m] w fun e w' => ∃ a' ts, e = .returned (imV a' m) ∧ OwnF w' w.heap.size a' m ts ∧ Below w.heap.size w w' := by
  have HA := hide (Joins.below_alloc2 w (.cells #[.slice a.ro m.refs.length a.rc, .slice a.tq m.table.length a.tc, .slice a.so m.snaps.length a.sc, .slice a.dq m.data.length a.dc] 66) (.cells #[.slice none 0 0, .slice none 0 0, .slice none 0 0, .slice none 0 0] 66))
  have HC := hide (hc.below (unhide HA))
  have HV := hide ((VarM.new w 66 (.slice a.ro m.refs.length a.rc) (.slice a.tq m.table.length a.tc) (.slice a.so m.snaps.length a.sc) (.slice a.dq m.data.length a.dc)).below (Joins.below_alloc1 _ (.cells #[.slice none 0 0, .slice none 0 0, .slice none 0 0, .slice none 0 0] 66)))
  have HR := hide ((VarM.new (w.alloc (.cells #[.slice a.ro m.refs.length a.rc, .slice a.tq m.table.length a.tc, .slice a.so m.snaps.length a.sc, .slice a.dq m.data.length a.dc] 66)) 66 (.slice none 0 0) (.slice none 0 0) (.slice none 0 0) (.slice none 0 0)).at (y := w.heap.size + 1) (by simp))
  have HLL := hide hL
  have HST := hide hst
  clear hc hL hst
  obtain ⟨j0, hj0, hy0, hy1, hy2⟩ := info_parts infoSn
  obtain ⟨i0, hi0, hz0, hz1, hz2⟩ := info_parts infoIn
  go_enter Tryd.func123, Tryd.ntmps123
  go_upto_region 1 with fail
  revert HA HC HV HR
  generalize ((w.alloc _).alloc _) = W0
  intro HA HC HV HR
  refine wp_region_inv (OwInv W0 w.heap.size (w.heap.size + 1) a m) (by kernel_rfl) (by kernel_rfl) (noG_spec (by kernel_rfl)) (OwInv.start _ _ _ _ _ _ (Below.refl _ W0).drew) ?hs ?he
  case hs =>
    intro d f wq i o hI ho hd hp K hK
    obtain ⟨s3, s5, s6, s7, s8, s9, s10, s11, s12, s13, s14, s15, s16, s17, s18, rfl, I⟩ := hI
    obtain ⟨cv0, cv1, cv2, cv3⟩ := ((unhide HV).below I.b).cells
    have hi : i < 16 := (List.getElem?_eq_some_iff.1 ho).1
    rcases (show i = 0 ∨ i = 1 ∨ i = 2 ∨ i = 3 ∨ i = 4 ∨ i = 5 ∨ i = 6 ∨ i = 7 ∨ i = 8 ∨ i = 9 ∨ i = 10 ∨ i = 11 ∨ i = 12 ∨ i = 13 ∨ i = 14 ∨ i = 15 by omega) with rfl | rfl | rfl | rfl | rfl | rfl | rfl | rfl | rfl | rfl | rfl | rfl | rfl | rfl | rfl | rfl
    · cases ho
      unfold Oper.wp
      go_simp
      exact hK _ _ ⟨_, _, _, _, _, _, _, _, _, _, _, _, _, _, _, rfl, I.s0 hd (Joins.below_alloc1 _ _) ⟨_, rfl⟩⟩
    · cases ho
      unfold Oper.wp
      go_simp
      exact hK _ _ ⟨_, _, _, _, _, _, _, _, _, _, _, _, _, _, _, rfl, I.s1 hd rfl⟩
    · cases ho
      have p := hp ⟨1, .data⟩ (by simp) rfl
      have e1 := I.f1 p
      subst e1
      unfold Oper.wp
      go_simp
      exact hK _ _ ⟨_, _, _, _, _, _, _, _, _, _, _, _, _, _, _, rfl, I.s2 hd rfl⟩
    · cases ho
      have pa := hp ⟨0, .data⟩ (by simp) rfl
      have pb := hp ⟨2, .data⟩ (by simp) rfl
      obtain ⟨g, rfl⟩ := I.f0 pa
      have e1 := I.f2 pb
      subst e1
      refine wp_append_fresh rfl (.tmp 5) (.tmp 7) 43 rfl 3 i0 (.int .i64 0) 1 8 Tryd.underlying43 hi0 hz0 hz1 hz2 rfl (by omega) rfl a.ro m.refs.length a.rc (intV m.refs) rfl (by rw [intV_length]; omega) (Is.srcI ((unhide HC).r.below I.b)) (by have := unhide HLL; unfold maxLen; omega) (by have := unhide HLL; omega) ?_
      intro ao cap w2 ho2 hg2
      exact hK _ _ ⟨_, _, _, _, _, _, _, _, _, _, _, _, _, _, _, rfl, I.s3 hd (belowGr (Below.refl _ _) hg2) ⟨ao, cap, rfl, ho2⟩⟩
    · cases ho
      unfold Oper.wp
      go_simp
      exact hK _ _ ⟨_, _, _, _, _, _, _, _, _, _, _, _, _, _, _, rfl, I.s4 hd (Joins.below_alloc1 _ _) ⟨_, rfl⟩⟩
    · cases ho
      unfold Oper.wp
      go_simp
      exact hK _ _ ⟨_, _, _, _, _, _, _, _, _, _, _, _, _, _, _, rfl, I.s5 hd rfl⟩
    · cases ho
      have p := hp ⟨5, .data⟩ (by simp) rfl
      have e1 := I.f5 p
      subst e1
      unfold Oper.wp
      go_simp
      exact hK _ _ ⟨_, _, _, _, _, _, _, _, _, _, _, _, _, _, _, rfl, I.s6 hd rfl⟩
    · cases ho
      have pa := hp ⟨4, .data⟩ (by simp) rfl
      have pb := hp ⟨6, .data⟩ (by simp) rfl
      have pc := hp ⟨3, .chain⟩ (by simp) rfl
      obtain ⟨g, rfl⟩ := I.f4 pa
      have e1 := I.f6 pb
      subst e1
      refine wp_append_fresh rfl (.tmp 9) (.tmp 11) 43 rfl 3 i0 (.int .i64 0) 1 8 Tryd.underlying43 hi0 hz0 hz1 hz2 rfl (by omega) rfl a.tq m.table.length a.tc (intV m.table) rfl (by rw [intV_length]; omega) (Is.srcI ((unhide HC).t.below I.b)) (by have := unhide HLL; unfold maxLen; omega) (by have := unhide HLL; omega) ?_
      intro ao cap w2 ho2 hg2
      exact hK _ _ ⟨_, _, _, _, _, _, _, _, _, _, _, _, _, _, _, rfl, I.s7 hd (belowGr (Below.refl _ _) hg2) pc ⟨ao, cap, rfl, ho2⟩⟩
    · cases ho
      unfold Oper.wp
      go_simp
      exact hK _ _ ⟨_, _, _, _, _, _, _, _, _, _, _, _, _, _, _, rfl, I.s8 hd (Joins.below_alloc1 _ _) ⟨_, rfl⟩⟩
    · cases ho
      unfold Oper.wp
      go_simp
      exact hK _ _ ⟨_, _, _, _, _, _, _, _, _, _, _, _, _, _, _, rfl, I.s9 hd (Joins.below_alloc1 _ _) ⟨_, rfl⟩⟩
    · cases ho
      unfold Oper.wp
      go_simp
      exact hK _ _ ⟨_, _, _, _, _, _, _, _, _, _, _, _, _, _, _, rfl, I.s10 hd rfl⟩
    · cases ho
      have p := hp ⟨10, .data⟩ (by simp) rfl
      have e1 := I.f10 p
      subst e1
      unfold Oper.wp
      go_simp
      exact hK _ _ ⟨_, _, _, _, _, _, _, _, _, _, _, _, _, _, _, rfl, I.s11 hd rfl⟩
    · cases ho
      have pa := hp ⟨9, .data⟩ (by simp) rfl
      have pb := hp ⟨11, .data⟩ (by simp) rfl
      have pc := hp ⟨7, .chain⟩ (by simp) rfl
      obtain ⟨g, rfl⟩ := I.f9 pa
      have e1 := I.f11 pb
      subst e1
      refine wp_append_fresh rfl (.tmp 14) (.tmp 16) 43 rfl 3 i0 (.int .i64 0) 1 8 Tryd.underlying43 hi0 hz0 hz1 hz2 rfl (by omega) rfl a.dq m.data.length a.dc (intV m.data) rfl (by rw [intV_length]; omega) (Is.srcI ((unhide HC).d.below I.b)) (by have := unhide HLL; unfold maxLen; omega) (by have := unhide HLL; omega) ?_
      intro ao cap w2 ho2 hg2
      exact hK _ _ ⟨_, _, _, _, _, _, _, _, _, _, _, _, _, _, _, rfl, I.s12 hd (belowGr (Below.refl _ _) hg2) pc ⟨ao, cap, rfl, ho2⟩⟩
    · cases ho
      have p3 := hp ⟨3, .data⟩ (by simp) rfl
      have p7 := hp ⟨7, .data⟩ (by simp) rfl
      have p8 := hp ⟨8, .data⟩ (by simp) rfl
      have p12 := hp ⟨12, .data⟩ (by simp) rfl
      obtain ⟨q8, c8, rfl, _⟩ := I.f3 p3
      obtain ⟨⟨q12, c12, rfl, _⟩, _⟩ := I.f7 p7
      obtain ⟨g13, rfl⟩ := I.f8 p8
      obtain ⟨⟨q17, c17, rfl, _⟩, _⟩ := I.f12 p12
      unfold Oper.wp
      go_simp
      exact hK _ _ ⟨_, _, _, _, _, _, _, _, _, _, _, _, _, _, _, rfl, I.s13 hd p8 p12 rfl⟩
    · cases ho
      unfold Oper.wp
      go_simp
      exact hK _ _ ⟨_, _, _, _, _, _, _, _, _, _, _, _, _, _, _, rfl, I.s14 hd (Joins.below_alloc1 _ _) rfl I.b.size (VarM.new _ _ _ _ _ _)⟩
    · cases ho
      have p13 := hp ⟨13, .data⟩ (by simp) rfl
      have p14 := hp ⟨14, .data⟩ (by simp) rfl
      obtain ⟨p8, p12⟩ := I.c13 p13
      obtain ⟨q8, c8, rfl, _⟩ := I.f3 (I.c7 (I.c12 p12))
      obtain ⟨⟨q12, c12, rfl, _⟩, _⟩ := I.f7 (I.c12 p12)
      obtain ⟨g13, rfl⟩ := I.f8 p8
      obtain ⟨⟨q17, c17, rfl, _⟩, _⟩ := I.f12 p12
      have e18 := I.f13 p13
      subst e18
      obtain ⟨y, rfl, hy, hv⟩ := I.f14 p14 hd
      obtain ⟨y0, y1, y2, y3⟩ := hv.cells
      obtain ⟨z0, z1, z2, z3⟩ := hv.free
      unfold Oper.wp
      go_simp
      exact hK _ _ ⟨_, _, _, _, _, _, _, _, _, _, _, _, _, _, _, rfl, I.s15 hd p13 p14 rfl hy hv (((((Keep.refl (fun k => k = y) wq).setCell (p := ⟨y, 0, none⟩) rfl _).setCell (p := ⟨y, 1, none⟩) rfl _).setCell (p := ⟨y, 2, none⟩) rfl _).setCell (p := ⟨y, 3, none⟩) rfl _) ((((hv.set0 _).set1 _).set2 _).set3 _)⟩
  case he =>
    intro d f wq hI hall
    obtain ⟨s3, s5, s6, s7, s8, s9, s10, s11, s12, s13, s14, s15, s16, s17, s18, rfl, I⟩ := hI
    obtain ⟨q8, c8, e8, o8⟩ := I.f3 (hall 3 (by decide))
    obtain ⟨⟨q12, c12, e12, o12⟩, a12⟩ := I.f7 (hall 7 (by decide))
    obtain ⟨g13, e13⟩ := I.f8 (hall 8 (by decide))
    obtain ⟨⟨q17, c17, e17, o17⟩, a17, b17⟩ := I.f12 (hall 12 (by decide))
    obtain ⟨y, e3, hy, hv⟩ := I.f15 (hall 15 (by decide))
    subst e8 e12 e13 e17 e3
    have HL0 : Hid (OwL W0 y m q8 c8 q12 c12 q17 c17 wq 0 (some ⟨g13, 0, none⟩) 0 []) := hide ⟨I.b, hv, rfl, .inl ⟨rfl, by simp [snC], _, rfl⟩, by
      refine ⟨fun r hr => ?_, ?_⟩
      · simp only [List.zip_nil_left, List.mem_cons, List.not_mem_nil, or_false] at hr
        rcases hr with rfl | rfl | rfl
        · exact ⟨_, _, rfl, o8⟩
        · exact ⟨_, _, rfl, o12⟩
        · exact ⟨_, _, rfl, o17⟩
      · simp only [List.zip_nil_left, List.pairwise_cons, List.mem_cons, List.not_mem_nil, or_false, forall_eq_or_imp, forall_eq, List.Pairwise.nil, and_true]
        exact ⟨⟨a12, a17⟩, b17, fun _ h => h.elim⟩⟩
    have HY := hide hy
    clear o8 o12 a12 o17 a17 b17 hv hy I hall
    go_wp2
    go_loopw [4] (fun i wr => ∃ (k : Nat) (so : Option Addr) (sc : Nat) (ts : List Value), k ≤ m.snaps.length ∧ i = .int .i64 k ∧ Hid (OwL W0 y m q8 c8 q12 c12 q17 c17 wr k so sc ts)) (fun i _ => m.snaps.length - (intOf i).toNat)
    case atStart => exact ⟨0, _, _, _, Nat.zero_le _, rfl, HL0⟩
    case round =>
      clear HL0
      obtain ⟨k, so, sc, ts, hk, rfl, HL⟩ := hrel
      obtain ⟨c0, c1, c2, c3⟩ := (VarM.below (unhide HV) (unhide HL).b).cells
      by_cases hlt : k < m.snaps.length
      · obtain ⟨b, off, tq, tc, eb, hn0, ht0, hIs, hz, htl⟩ := ((unhide HC).s.below (unhide HL).b) k hlt
        have hlti : (k : Int) < (m.snaps.length : Int) := by omega
        have HIS := hide hIs
        have HTL := hide (unhide HST _ (List.getElem_mem hlt))
        have hbl : b < wr.heap.size := World.block_lt_of_cell? _ _ hn0
        clear hIs hz htl
        go_upto_region 5 with fail
        clear c0 c1 c2 c3
        refine ownG_region (fun d wz s26 s27 s28 s29 s30 s31 s32 s33 s34 s35 s36 s37 s38 s39 s40 s41 s42 s43 s44 s45 => OwJ wr W0.heap.size w.heap.size y k b off m.snaps.length a.sc so sc (snC (m.snaps.take k) ts) m.snaps[k].name tq tc m.snaps[k].table (.slice q8 m.refs.length c8) (.slice q12 m.table.length c12) (.slice q17 m.data.length c17) d wz s26 s27 s28 s29 s30 s31 s32 s33 s34 s35 s36 s37 s38 s39 s40 s41 s42 s43 s44 s45) (by kernel_rfl) (by kernel_rfl) (noG_spec (by kernel_rfl)) ?h0 ?hs ?he
        case h0 => exact ⟨fun _ => (Below.refl _ wr).drew, fun _ => Keep.of_below (Below.refl _ wr).drew, fun h => (by cases h), fun h => (by cases h), fun h => (by cases h), fun h => (by cases h), fun h => (by cases h), fun h => (by cases h), fun h => (by cases h), fun h => (by cases h), fun h => (by cases h), fun h => (by cases h), fun h => (by cases h), fun h => (by cases h), fun h => (by cases h), fun h => (by cases h), fun h => (by cases h), fun h => (by cases h), fun h => (by cases h), fun h => (by cases h), fun h => (by cases h), fun h => (by cases h), fun h => (by cases h)⟩
        case hs =>
          intro d wz i o r26 r27 r28 r29 r30 r31 r32 r33 r34 r35 r36 r37 r38 r39 r40 r41 r42 r43 r44 r45 hc I ho hd hp K hK
          have hi : i < 21 := (List.getElem?_eq_some_iff.1 ho).1
          rcases (show i = 0 ∨ i = 1 ∨ i = 2 ∨ i = 3 ∨ i = 4 ∨ i = 5 ∨ i = 6 ∨ i = 7 ∨ i = 8 ∨ i = 9 ∨ i = 10 ∨ i = 11 ∨ i = 12 ∨ i = 13 ∨ i = 14 ∨ i = 15 ∨ i = 16 ∨ i = 17 ∨ i = 18 ∨ i = 19 ∨ i = 20 by omega) with rfl | rfl | rfl | rfl | rfl | rfl | rfl | rfl | rfl | rfl | rfl | rfl | rfl | rfl | rfl | rfl | rfl | rfl | rfl | rfl | rfl
          · cases ho
            unfold Oper.wp
            go_simp
            exact hK _ _ _ _ _ _ _ _ _ _ _ _ _ _ _ _ _ _ _ _ _ (I.s0 hd rfl)
          · cases ho
            have p := hp ⟨0, .data⟩ (by simp) rfl
            have e1 := I.f0 p
            subst e1
            have h18 := not_yet hc 9 (j := 18) (i := 1) (by kernel_rfl) hd
            have cy := (((unhide HL).v.below (I.b0 h18)).cells).2.2.1
            unfold Oper.wp
            go_simp
            exact hK _ _ _ _ _ _ _ _ _ _ _ _ _ _ _ _ _ _ _ _ _ (I.s1 hd rfl)
          · cases ho
            unfold Oper.wp
            go_simp
            exact hK _ _ _ _ _ _ _ _ _ _ _ _ _ _ _ _ _ _ _ _ _ (I.s2 hd rfl)
          · cases ho
            have p := hp ⟨2, .data⟩ (by simp) rfl
            have e1 := I.f2 p
            subst e1
            have h18 := not_yet hc 9 (j := 18) (i := 3) (by kernel_rfl) hd
            have cx := ((VarM.below (VarM.below (unhide HV) (unhide HL).b) (I.b0 h18)).cells).2.2.1
            rw [eb] at cx
            unfold Oper.wp
            go_simp
            exact hK _ _ _ _ _ _ _ _ _ _ _ _ _ _ _ _ _ _ _ _ _ (I.s3 hd rfl)
          · cases ho
            unfold Oper.wp
            go_simp
            exact hK _ _ _ _ _ _ _ _ _ _ _ _ _ _ _ _ _ _ _ _ _ (I.s4 hd rfl)
          · cases ho
            have p := hp ⟨3, .data⟩ (by simp) rfl
            have e1 := I.f3 p
            subst e1
            have p2 := hp ⟨4, .data⟩ (by simp) rfl
            have e2 := I.f4 p2
            subst e2
            unfold Oper.wp
            go_simp
            exact hK _ _ _ _ _ _ _ _ _ _ _ _ _ _ _ _ _ _ _ _ _ (I.s5 hd (by first | rfl | simp))
          · cases ho
            have p := hp ⟨5, .data⟩ (by simp) rfl
            have e1 := I.f5 p
            subst e1
            unfold Oper.wp
            go_simp
            exact hK _ _ _ _ _ _ _ _ _ _ _ _ _ _ _ _ _ _ _ _ _ (I.s6 hd (by first | rfl | simp))
          · cases ho
            have p := hp ⟨6, .data⟩ (by simp) rfl
            have e1 := I.f6 p
            subst e1
            have h18 := not_yet hc 9 (j := 18) (i := 7) (by kernel_rfl) hd
            have cn := ((I.b0 h18).cell (p := ⟨b, off + k * 2, none⟩) hbl).trans hn0
            unfold Oper.wp
            go_simp
            exact hK _ _ _ _ _ _ _ _ _ _ _ _ _ _ _ _ _ _ _ _ _ (I.s7 hd rfl)
          · cases ho
            have h18 := not_yet hc 9 (j := 18) (i := 8) (by kernel_rfl) hd
            have h20 := not_yet hc 9 (j := 20) (i := 8) (by kernel_rfl) hd
            unfold Oper.wp
            go_simp
            exact hK _ _ _ _ _ _ _ _ _ _ _ _ _ _ _ _ _ _ _ _ _ (I.s8 hd h18 h20 (Joins.below_alloc1 _ _) ⟨_, rfl⟩)
          · cases ho
            unfold Oper.wp
            go_simp
            exact hK _ _ _ _ _ _ _ _ _ _ _ _ _ _ _ _ _ _ _ _ _ (I.s9 hd rfl)
          · cases ho
            have p := hp ⟨9, .data⟩ (by simp) rfl
            have e1 := I.f9 p
            subst e1
            have h18 := not_yet hc 9 (j := 18) (i := 10) (by kernel_rfl) hd
            have cx := ((VarM.below (VarM.below (unhide HV) (unhide HL).b) (I.b0 h18)).cells).2.2.1
            rw [eb] at cx
            unfold Oper.wp
            go_simp
            exact hK _ _ _ _ _ _ _ _ _ _ _ _ _ _ _ _ _ _ _ _ _ (I.s10 hd rfl)
          · cases ho
            unfold Oper.wp
            go_simp
            exact hK _ _ _ _ _ _ _ _ _ _ _ _ _ _ _ _ _ _ _ _ _ (I.s11 hd rfl)
          · cases ho
            have p := hp ⟨10, .data⟩ (by simp) rfl
            have e1 := I.f10 p
            subst e1
            have p2 := hp ⟨11, .data⟩ (by simp) rfl
            have e2 := I.f11 p2
            subst e2
            unfold Oper.wp
            go_simp
            exact hK _ _ _ _ _ _ _ _ _ _ _ _ _ _ _ _ _ _ _ _ _ (I.s12 hd (by first | rfl | simp))
          · cases ho
            have p := hp ⟨12, .data⟩ (by simp) rfl
            have e1 := I.f12 p
            subst e1
            unfold Oper.wp
            go_simp
            exact hK _ _ _ _ _ _ _ _ _ _ _ _ _ _ _ _ _ _ _ _ _ (I.s13 hd (by first | rfl | simp))
          · cases ho
            have p := hp ⟨13, .data⟩ (by simp) rfl
            have e1 := I.f13 p
            subst e1
            have h18 := not_yet hc 9 (j := 18) (i := 14) (by kernel_rfl) hd
            have cn := ((I.b0 h18).cell (p := ⟨b, off + k * 2 + 1, none⟩) hbl).trans ht0
            unfold Oper.wp
            go_simp
            exact hK _ _ _ _ _ _ _ _ _ _ _ _ _ _ _ _ _ _ _ _ _ (I.s14 hd rfl)
          · cases ho
            have h18 := not_yet hc 9 (j := 18) (i := 15) (by kernel_rfl) hd
            have h20 := not_yet hc 9 (j := 20) (i := 15) (by kernel_rfl) hd
            have h16 := not_yet hc 9 (j := 16) (i := 15) (by kernel_rfl) hd
            have h17 := not_yet hc 9 (j := 17) (i := 15) (by kernel_rfl) hd
            have pa := hp ⟨8, .data⟩ (by simp) rfl
            have pb := hp ⟨14, .data⟩ (by simp) rfl
            obtain ⟨g, rfl⟩ := I.f8 pa
            have e1 := I.f14 pb
            subst e1
            refine wp_append_fresh rfl (.tmp 34) (.tmp 40) 43 rfl 3 i0 (.int .i64 0) 1 8 Tryd.underlying43 hi0 hz0 hz1 hz2 rfl (by omega) rfl tq m.snaps[k].table.length tc (intV m.snaps[k].table) rfl (by rw [intV_length]; omega) (Is.srcI ((unhide HIS).below (I.b0 h18))) (by have := unhide HTL; unfold maxLen; omega) (by have := unhide HTL; omega) ?_
            intro ao cap w2 ho2 hg2
            exact hK _ _ _ _ _ _ _ _ _ _ _ _ _ _ _ _ _ _ _ _ _ (I.s15 hd h18 h20 (belowGr (Below.refl _ _) hg2) h16 h17 ⟨ao, cap, rfl, ho2⟩)
          · cases ho
            have p7 := hp ⟨7, .data⟩ (by simp) rfl
            have p15 := hp ⟨15, .data⟩ (by simp) rfl
            have e1 := I.f7 p7
            subst e1
            obtain ⟨q41, c41, e41, _⟩ := I.f15 p15
            subst e41
            unfold Oper.wp
            go_simp
            exact hK _ _ _ _ _ _ _ _ _ _ _ _ _ _ _ _ _ _ _ _ _ (I.s16 hd rfl)
          · cases ho
            have h18 := not_yet hc 9 (j := 18) (i := 17) (by kernel_rfl) hd
            have h20 := not_yet hc 9 (j := 20) (i := 17) (by kernel_rfl) hd
            have p16 := hp ⟨16, .data⟩ (by simp) rfl
            have p15 := reach_done hc (f := 9) (j := 16) (i := 15) (by kernel_rfl) p16
            obtain ⟨q41, c41, e41, _⟩ := I.f15 p15
            subst e41
            have e1 := I.f16 p16
            subst e1
            unfold Oper.wp
            go_simp
            exact hK _ _ _ _ _ _ _ _ _ _ _ _ _ _ _ _ _ _ _ _ _ (I.s17 hd h18 h20 (Joins.below_alloc1 _ _) rfl (heap_alloc_new _ _))
          · cases ho
            have h20 := not_yet hc 9 (j := 20) (i := 18) (by kernel_rfl) hd
            have pa := hp ⟨1, .data⟩ (by simp) rfl
            have pb := hp ⟨17, .data⟩ (by simp) rfl
            have p15 := reach_done hc (f := 9) (j := 17) (i := 15) (by kernel_rfl) pb
            have e1 := I.f1 pa
            subst e1
            obtain ⟨g, rfl, hcell⟩ := I.f17 pb
            have hcl := hcell hd
            have HSR := hide ((unhide HL).s.below (I.b0 hd))
            refine wp_append_one rfl (.tmp 27) (.tmp 43) 64 rfl W0.heap.size 107 j0 (.agg #[.string ⟨#[]⟩, .slice none 0 0]) 2 40 Tryd.underlying64 hj0 hy0 hy1 hy2 rfl (by omega) so k sc (snC (m.snaps.take k) ts) rfl (unhide HSR) (by have h1 := (unhide HL).b.size; have h2 := (I.b0 hd).size; omega) ⟨g, 0, none⟩ 1 [.string m.snaps[k].name, r41] rfl rfl (snap_news hcl) (by obtain ⟨q41, c41, e41, _⟩ := I.f15 p15; subst e41; exact snap_one _ _ _ _) (by unfold maxLen; omega) (by omega) ?_
            intro g2 cap2 w2 ho2 hk2
            exact hK _ _ _ _ _ _ _ _ _ _ _ _ _ _ _ _ _ _ _ _ _ (I.s18 hd h20 hk2 rfl ho2 (fun h => own_apart h.row (unhide HSR) (by decide)))
          · cases ho
            unfold Oper.wp
            go_simp
            exact hK _ _ _ _ _ _ _ _ _ _ _ _ _ _ _ _ _ _ _ _ _ (I.s19 hd rfl)
          · cases ho
            have p18 := hp ⟨18, .data⟩ (by simp) rfl
            have p19 := hp ⟨19, .data⟩ (by simp) rfl
            obtain ⟨g2, cap2, e44, ho2⟩ := I.f18 p18
            subst e44
            have e1 := I.f19 p19
            subst e1
            have hvy : VarM wz y 66 (.slice q8 m.refs.length c8) (.slice q12 m.table.length c12) (.slice so k sc) (.slice q17 m.data.length c17) := ((I.b1 hd).block y (unhide HL).v.lt ((unhide HL).s.other (unhide HL).v (by decide))).trans (unhide HL).v
            have cy := hvy.cells.2.2.1
            have fy := hvy.free.2.2.1
            unfold Oper.wp
            go_simp
            exact hK _ _ _ _ _ _ _ _ _ _ _ _ _ _ _ _ _ _ _ _ _ (I.s20 (w2 := wz.setCell ⟨y, 2, none⟩ (.slice (some ⟨g2, 0, none⟩) (k + 1) cap2)) hd p18 ((Keep.refl (fun g => g = y) wz).setCell (p := ⟨y, 2, none⟩) rfl _) (hvy.set2 _) ⟨_, hvy⟩)
        case he =>
          intro d wz r26 r27 r28 r29 r30 r31 r32 r33 r34 r35 r36 r37 r38 r39 r40 r41 r42 r43 r44 r45 I hall
          obtain ⟨g2, cap2, e44, ho2⟩ := I.f18 (hall 18 (by decide))
          subst e44
          have HN := hide (OwL.next (unhide HL) (unhide HY) hlt (I.b2 (hall 20 (by decide))).1 (I.b2 (hall 20 (by decide))).2 ho2 (I.f15 (hall 15 (by decide))))
          clear I hall ho2
          go_wp2
          go_roundw
          case rel => exact ⟨k + 1, _, _, _, by omega, by go_num, HN⟩
          case measure => simp [intOf]; omega
      · have hkl : k = m.snaps.length := by omega
        subst hkl
        have HOI : Hid (OwnIm wr W0.heap.size ⟨q8, c8, q12, c12, so, sc, q17, c17⟩ m ts) := hide ⟨(unhide HL).l.symm, by have := (unhide HL).s; rw [List.take_length] at this; exact this.toS, by have := (unhide HL).r; rwa [List.take_length] at this⟩
        have HC0 : Hid (m.snaps.length = 0 → sc = 0) := hide (fun h => (unhide HL).s.cap0 h)
        have HRR := hide (VarM.below (unhide HR) (unhide HL).b)
        have HPT := hide (ImSt.put (unhide HRR) (unhide HOI) (fr (unhide HA) (unhide HL).b) (Nat.le_succ _) (unhide HR).lt ⟨q8, c8, q12, c12, so, sc, q17, c17⟩ m)
        obtain ⟨d0, d1, d2, d3⟩ := (unhide HL).v.cells
        obtain ⟨r0, r1, r2, r3⟩ := (unhide HRR).cells
        obtain ⟨z0, z1, z2, z3⟩ := (unhide HRR).free
        go_wp2
        exact bodyPost_ret (res_im Tryd.results123 rfl (unhide HPT).1) rfl ⟨⟨q8, c8, q12, c12, so, sc, q17, c17⟩, rfl, ⟨ts, ⟨(unhide HPT).2.1.base (unhide HA).size, unhide HC0⟩⟩, (unhide HPT).2.2⟩
theorem l10Own_any (a : Im4) (m : Img) (w : World) (hL : m.refs.length ≤ 1048576 ∧ m.table.length ≤ 1048576 ∧ m.data.length ≤ 1048576) (hst : ∀ s ∈ m.snaps, s.table.length ≤ 1048576) (hs1 : m.snaps.length ≤ 1048576) (hc : ImS w a m) :
    Calls Tryd.prog 123 #[imV a m] w fun e w' => ∃ a' ts, e = .returned (imV a' m) ∧ OwnIm w' w.heap.size a' m ts ∧ Below w.heap.size w w' := (l10Own_full a m w hL hst hs1 hc).mono fun e w' ⟨a', ts, h1, h2, h3⟩ => ⟨a', ts, h1, h2.1, h3⟩

end Go.Proofs.YtkndabnngdjcgaaDoor

/- Contracts of the model's l10Value, ReadCluster, l10Drop. (Made ahead of stage 10.) -/
namespace Go.Proofs.YtkndabnngdjcgaaDoor
open Go.RowKit
set_option linter.unusedVariables false
set_option maxRecDepth 100000

/-- A number of a row of the call's own: where it lies, and how it is set. -/
theorem OwnN.spot {w : World} {B c n k : Nat} {ao : Option Addr} {xs : List Int} (h : OwnN w B (.slice ao n k) xs) (hn : n = xs.length) (hc : c < xs.length) : ∃ g, ao = some ⟨g, 0, none⟩ ∧ w.cell? ⟨g, c, none⟩ = some (.int .i64 xs[c]) ∧ w.frozen? ⟨g, c, none⟩ = false ∧ Own (.slice ao n k) g ∧ ∀ y, OwnN (w.setCell ⟨g, c, none⟩ (.int .i64 y)) B (.slice ao n k) (xs.set c y) := by
  subst hn
  have hr := h.row
  have hp : 0 < xs.length := by omega
  obtain ⟨g, cap, cur, e, _, _⟩ := own_form hp (hr.row hp)
  simp only [Value.slice.injEq, true_and] at e
  obtain ⟨rfl, rfl⟩ := e
  refine ⟨g, rfl, ?_, (hr.row hp).frozenAt c, own_of hp rfl, fun y => ?_⟩
  · have := (hr.row hp).cellAt c (by omega)
    rwa [intV_get hc] at this
  · exact OwnN.mk' (own_setI hr hp y) (by simp)
/-- The three rows of numbers of an image: a place, and how it is set. -/
theorem OwnIm.setR {w : World} {B c : Nat} {a : Im4} {m : Img} {ts : List Value} (h : OwnIm w B a m ts) (hc : c < m.refs.length) : ∃ g, a.ro = some ⟨g, 0, none⟩ ∧ w.cell? ⟨g, c, none⟩ = some (.int .i64 m.refs[c]) ∧ w.frozen? ⟨g, c, none⟩ = false ∧ ImB a m ts g ∧ ∀ y, OwnIm (w.setCell ⟨g, c, none⟩ (.int .i64 y)) B a { m with refs := m.refs.set c y } ts := by
  obtain ⟨g, e, h1, h2, h3, h4⟩ := (h.rows.own (.slice a.ro m.refs.length a.rc, m.refs) (by simp [imRows])).spot rfl hc
  have hk : ∀ y, Keep (Own (.slice a.ro m.refs.length a.rc)) w (w.setCell ⟨g, c, none⟩ (.int .i64 y)) := fun y => (Keep.refl _ w).setCell (p := ⟨g, c, none⟩) h3 _
  refine ⟨g, e, h1, h2, .inl h3, fun y => ⟨h.len, h.s.keep (hk y) (own_apartT h.s (h.rows.own (.slice a.ro m.refs.length a.rc, m.refs) (by simp [imRows])).row (by decide)), ?_⟩⟩
  have := h.rows.turn (j := 0) rfl (hk y) (h4 y)
  simp only [imRows, List.length_set]
  exact this
theorem OwnIm.setT {w : World} {B c : Nat} {a : Im4} {m : Img} {ts : List Value} (h : OwnIm w B a m ts) (hc : c < m.table.length) : ∃ g, a.tq = some ⟨g, 0, none⟩ ∧ w.cell? ⟨g, c, none⟩ = some (.int .i64 m.table[c]) ∧ w.frozen? ⟨g, c, none⟩ = false ∧ ImB a m ts g ∧ ∀ y, OwnIm (w.setCell ⟨g, c, none⟩ (.int .i64 y)) B a { m with table := m.table.set c y } ts := by
  obtain ⟨g, e, h1, h2, h3, h4⟩ := (h.rows.own (.slice a.tq m.table.length a.tc, m.table) (by simp [imRows])).spot rfl hc
  have hk : ∀ y, Keep (Own (.slice a.tq m.table.length a.tc)) w (w.setCell ⟨g, c, none⟩ (.int .i64 y)) := fun y => (Keep.refl _ w).setCell (p := ⟨g, c, none⟩) h3 _
  refine ⟨g, e, h1, h2, .inr (.inl h3), fun y => ⟨h.len, h.s.keep (hk y) (own_apartT h.s (h.rows.own (.slice a.tq m.table.length a.tc, m.table) (by simp [imRows])).row (by decide)), ?_⟩⟩
  have := h.rows.turn (j := 1) rfl (hk y) (h4 y)
  simp only [imRows, List.length_set]
  exact this
theorem OwnIm.setD {w : World} {B c : Nat} {a : Im4} {m : Img} {ts : List Value} (h : OwnIm w B a m ts) (hc : c < m.data.length) : ∃ g, a.dq = some ⟨g, 0, none⟩ ∧ w.cell? ⟨g, c, none⟩ = some (.int .i64 m.data[c]) ∧ w.frozen? ⟨g, c, none⟩ = false ∧ ImB a m ts g ∧ ∀ y, OwnIm (w.setCell ⟨g, c, none⟩ (.int .i64 y)) B a { m with data := m.data.set c y } ts := by
  obtain ⟨g, e, h1, h2, h3, h4⟩ := (h.rows.own (.slice a.dq m.data.length a.dc, m.data) (by simp [imRows])).spot rfl hc
  have hk : ∀ y, Keep (Own (.slice a.dq m.data.length a.dc)) w (w.setCell ⟨g, c, none⟩ (.int .i64 y)) := fun y => (Keep.refl _ w).setCell (p := ⟨g, c, none⟩) h3 _
  refine ⟨g, e, h1, h2, .inr (.inr (.inl h3)), fun y => ⟨h.len, h.s.keep (hk y) (own_apartT h.s (h.rows.own (.slice a.dq m.data.length a.dc, m.data) (by simp [imRows])).row (by decide)), ?_⟩⟩
  have := h.rows.turn (j := 2) rfl (hk y) (h4 y)
  simp only [imRows, List.length_set]
  exact this
/-- A variable lies in no row of an image. -/
theorem OwnIm.other {w : World} {B x : Nat} {a : Im4} {m : Img} {ts : List Value} {v0 v1 v2 v3 : Value} (h : OwnIm w B a m ts) (hv : VarM w x 66 v0 v1 v2 v3) : ¬ ImB a m ts x := by
  intro hx
  rcases hx with h1 | h1 | h1 | h1 | ⟨t, ht, h1⟩
  · exact (h.rows.own (.slice a.ro m.refs.length a.rc, m.refs) (by simp [imRows])).row.other hv (by decide) h1
  · exact (h.rows.own (.slice a.tq m.table.length a.tc, m.table) (by simp [imRows])).row.other hv (by decide) h1
  · exact (h.rows.own (.slice a.dq m.data.length a.dc, m.data) (by simp [imRows])).row.other hv (by decide) h1
  · exact h.s.other hv (by decide) h1
  · have hm : t ∈ (ts.zip (m.snaps.map (·.table))).map Prod.fst := by rw [zip_fst _ _ (by rw [List.length_map, h.len])]; exact ht
    obtain ⟨p, hp, rfl⟩ := List.mem_map.1 hm
    exact (h.rows.own p (by simp [imRows, hp])).row.other hv (by decide) h1
theorem VarM.keepIm {w w' : World} {B x : Nat} {a : Im4} {m : Img} {ts : List Value} {v0 v1 v2 v3 : Value} (hv : VarM w x 66 v0 v1 v2 v3) (h : OwnIm w B a m ts) (hk : Keep (ImB a m ts) w w') : VarM w' x 66 v0 v1 v2 v3 := (hk.block x hv.lt (h.other hv)).trans hv
/-- An image that is owned is shown. -/
theorem OwnIm.shows {w : World} {B : Nat} {a : Im4} {m : Img} {ts : List Value} (h : OwnIm w B a m ts) (hz : ∀ s ∈ m.snaps, s.name.size ≤ maxLen ∧ s.table.length ≤ maxLen) : ImS w a m := by
  refine ⟨ownRN (h.rows.own (.slice a.ro m.refs.length a.rc, m.refs) (by simp [imRows])).row, ownRN (h.rows.own (.slice a.tq m.table.length a.tc, m.table) (by simp [imRows])).row, fun i hi => ?_, ownRN (h.rows.own (.slice a.dq m.data.length a.dc, m.data) (by simp [imRows])).row⟩
  have hp : 0 < m.snaps.length := by omega
  have hit : i < ts.length := by rw [← h.len]; exact hi
  have hs := h.s.row hp
  obtain ⟨g, cap, cur, e, _, _⟩ := own_form hp hs
  rw [e] at hs
  simp only [Value.slice.injEq, true_and] at e
  obtain ⟨e1, e2⟩ := e
  have hgs := snC_get (List.getElem?_eq_getElem hi) (List.getElem?_eq_getElem hit)
  have hm : (ts[i], m.snaps[i].table) ∈ imRows a m ts := by
    have : (ts.zip (m.snaps.map (·.table)))[i]? = some (ts[i], m.snaps[i].table) := by
      rw [List.getElem?_zip_eq_some]
      exact ⟨List.getElem?_eq_getElem hit, by simp [hi]⟩
    simp [imRows, List.mem_of_getElem? this]
  obtain ⟨tq, tc, et, ho⟩ := h.rows.own _ hm
  simp only at et ho
  refine ⟨g, 0, tq, tc, e1, ?_, ?_, ownRN ho, (hz _ (List.getElem_mem hi)).1, (hz _ (List.getElem_mem hi)).2⟩
  · rw [Nat.zero_add]; exact (hs.cellAt (i * 2) (by omega)).trans hgs.1
  · rw [Nat.zero_add]; exact (hs.cellAt (i * 2 + 1) (by omega)).trans (by rw [hgs.2, et])

theorem drop_at {m : Img} {c : Nat} (hr : c < m.refs.length) (hd : c < m.data.length) : (m.refs[c] - 1 = 0 → imDrop m ((c : Int) + 2) = { m with refs := m.refs.set c (m.refs[c] - 1), data := m.data.set c 0 }) ∧ (¬ m.refs[c] - 1 = 0 → imDrop m ((c : Int) + 2) = { m with refs := m.refs.set c (m.refs[c] - 1) }) := by
  have e : ((c : Int) + 2 - 2).toNat = c := by omega
  have g : m.refs.getD c 0 = m.refs[c] := by simp [List.getD, hr]
  unfold imDrop
  rw [if_neg (by omega)]
  simp only [e, g]
  exact ⟨fun h => by rw [if_pos h], fun h => by rw [if_neg h]⟩
/-- What was new need not be told. -/
theorem keep_im {w w' : World} {a : Im4} {m : Img} {ts : List Value} (h : Keep (fun g => ImB a m ts g ∨ w.heap.size ≤ g) w w') (hg : ∀ g, ImB a m ts g → g < w.heap.size) : Keep (ImB a m ts) w w' :=
  ⟨h.os, h.tape, h.output, h.size, fun k hk hn => h.block k hk (fun hS => by
    rcases hS with hS | hS
    · exact hn hS
    · omega)⟩

set_option maxHeartbeats 1600000 in
theorem l10Drop_any (a : Im4) (m : Img) (ts : List Value) (B : Nat) (e : Int) (w : World) (he0 : -1000 ≤ e) (he1 : e ≤ 1000) (hr : e - 2 < m.refs.length) (hd : e - 2 < m.data.length) (hl : m.refs.length ≤ 1000 ∧ m.data.length ≤ 1000) (hv : ∀ c (h : c < m.refs.length), -1000 ≤ m.refs[c] ∧ m.refs[c] ≤ 1000) (ho : OwnIm w B a m ts) :
    Calls Tryd.prog 143 #[imV a m, .int .i64 e] w fun r w' => r = .returned (imV a m) ∧ OwnIm w' B a (imDrop m e) ts ∧ Keep (ImB a m ts) w w' := by
  have HA := hide (Joins.below_alloc2 w (.cells #[.slice a.ro m.refs.length a.rc, .slice a.tq m.table.length a.tc, .slice a.so m.snaps.length a.sc, .slice a.dq m.data.length a.dc] 66) (.cells #[.slice none 0 0, .slice none 0 0, .slice none 0 0, .slice none 0 0] 66))
  have HO := hide (ho.below (unhide HA))
  have HV := hide ((VarM.new w 66 (.slice a.ro m.refs.length a.rc) (.slice a.tq m.table.length a.tc) (.slice a.so m.snaps.length a.sc) (.slice a.dq m.data.length a.dc)).below (Joins.below_alloc1 _ (.cells #[.slice none 0 0, .slice none 0 0, .slice none 0 0, .slice none 0 0] 66)))
  have HR := hide ((VarM.new (w.alloc (.cells #[.slice a.ro m.refs.length a.rc, .slice a.tq m.table.length a.tc, .slice a.so m.snaps.length a.sc, .slice a.dq m.data.length a.dc] 66)) 66 (.slice none 0 0) (.slice none 0 0) (.slice none 0 0) (.slice none 0 0)).at (y := w.heap.size + 1) (by simp))
  have HGE : Hid (∀ g, ImB a m ts g → g < w.heap.size) := hide (fun g hg => (ho.ge g hg).2)
  clear ho
  by_cases h2 : e < 2
  · have HE : Hid (imDrop m e = m) := hide (if_pos h2)
    go_enter Tryd.func143, Tryd.ntmps143
    go_upto_region 1 with fail
    revert HA HO HV HR
    generalize ((w.alloc _).alloc _) = W0
    intro HA HO HV HR
    obtain ⟨c0, c1, c2, c3⟩ := (unhide HV).cells
    obtain ⟨r0, r1, r2, r3⟩ := (unhide HR).cells
    obtain ⟨z0, z1, z2, z3⟩ := (unhide HR).free
    have HK : Hid (Keep (fun g => ImB a m ts g ∨ w.heap.size ≤ g) w ((((W0.setCell ⟨w.heap.size + 1, 0, none⟩ (.slice a.ro m.refs.length a.rc)).setCell ⟨w.heap.size + 1, 1, none⟩ (.slice a.tq m.table.length a.tc)).setCell ⟨w.heap.size + 1, 2, none⟩ (.slice a.so m.snaps.length a.sc)).setCell ⟨w.heap.size + 1, 3, none⟩ (.slice a.dq m.data.length a.dc))) := hide (by
      have k0 : Keep (fun g => ImB a m ts g ∨ w.heap.size ≤ g) w W0 := Keep.of_below (unhide HA)
      exact (((k0.setCell (p := ⟨w.heap.size + 1, 0, none⟩) (.inr (Nat.le_succ _)) _).setCell (p := ⟨w.heap.size + 1, 1, none⟩) (.inr (Nat.le_succ _)) _).setCell (p := ⟨w.heap.size + 1, 2, none⟩) (.inr (Nat.le_succ _)) _).setCell (p := ⟨w.heap.size + 1, 3, none⟩) (.inr (Nat.le_succ _)) _)
    have HVN := hide ((((unhide HR).set0 (.slice a.ro m.refs.length a.rc)).set1 (.slice a.tq m.table.length a.tc)).set2 (.slice a.so m.snaps.length a.sc) |>.set3 (.slice a.dq m.data.length a.dc))
    have HON := hide ((unhide HO).keep (S := fun g => g = w.heap.size + 1) (((((Keep.refl (fun g => g = w.heap.size + 1) W0).setCell (p := ⟨w.heap.size + 1, 0, none⟩) rfl (.slice a.ro m.refs.length a.rc)).setCell (p := ⟨w.heap.size + 1, 1, none⟩) rfl (.slice a.tq m.table.length a.tc)).setCell (p := ⟨w.heap.size + 1, 2, none⟩) rfl (.slice a.so m.snaps.length a.sc)).setCell (p := ⟨w.heap.size + 1, 3, none⟩) rfl (.slice a.dq m.data.length a.dc)) (fun g hg he => by have := unhide HGE g hg; omega))
    go_wp2
    refine bodyPost_ret (res_im Tryd.results143 rfl (unhide HVN)) rfl ⟨rfl, ?_, ?_⟩
    · rw [unhide HE]; exact unhide HON
    · exact keep_im (unhide HK) (unhide HGE)
  · obtain ⟨c, hcc⟩ : ∃ c : Nat, e = (c : Int) + 2 := ⟨(e - 2).toNat, by omega⟩
    subst hcc
    have hcr : c < m.refs.length := by omega
    have hcd : c < m.data.length := by omega
    have hcri : (c : Int) < (m.refs.length : Int) := by omega
    have hcdi : (c : Int) < (m.data.length : Int) := by omega
    have hw2 : IntKind.i64.wrap ((c : Int) + 2 - 2) = (c : Int) := by rw [IntKind.wrap_i64]; omega
    obtain ⟨v0, v1⟩ := hv c hcr
    have HDR := hide (drop_at (m := m) hcr hcd)
    go_enter Tryd.func143, Tryd.ntmps143
    go_upto_region 1 with fail
    revert HA HO HV HR
    generalize ((w.alloc _).alloc _) = W0
    intro HA HO HV HR
    obtain ⟨g, eg, hcg, hfg, hig, hst⟩ := (unhide HO).setR hcr
    have HO1 := hide (hst (m.refs[c] - 1))
    have HK1 : Hid (Keep (ImB a m ts) W0 (W0.setCell ⟨g, c, none⟩ (.int .i64 (m.refs[c] - 1)))) := hide ((Keep.refl _ W0).setCell (p := ⟨g, c, none⟩) hig _)
    have HV1 := hide ((unhide HV).keepIm (unhide HO) (unhide HK1))
    have HR1 := hide ((unhide HR).keepIm (unhide HO) (unhide HK1))
    have hsame : (W0.setCell ⟨g, c, none⟩ (.int .i64 (m.refs[c] - 1))).cell? ⟨g, c, none⟩ = some (.int .i64 (m.refs[c] - 1)) := World.cell?_setCell_same _ _ _ hcg
    have HSM := hide hsame
    obtain ⟨c0, c1, c2, c3⟩ := (unhide HV).cells
    rw [eg] at c0
    have hw3 : IntKind.i64.wrap (m.refs[c] - 1) = m.refs[c] - 1 := by rw [IntKind.wrap_i64]; omega
    have EG := hide eg
    clear eg hst hig hsame c1 c2 c3
    have HDR' := HDR
    generalize m.refs[c] = R at *
    go_upto_region 5 with fail
    revert HO1 HK1 HV1 HR1 HSM
    generalize (W0.setCell _ _) = W1
    intro HO1 HK1 HV1 HR1 HSM
    clear c0 hcg hfg
    have hs := unhide HSM
    obtain ⟨c0, c1, c2, c3⟩ := (unhide HV1).cells
    rw [unhide EG] at c0
    have HKW : Hid (Keep (fun g => ImB a m ts g ∨ w.heap.size ≤ g) w W1) := hide ((Keep.of_below (unhide HA)).trans ((unhide HK1).mono (fun g h => .inl h)))
    by_cases hz : R - 1 = 0
    · have bz : (R - 1 == 0) = true := by simp [hz]
      obtain ⟨g2, eg2, hcg2, hfg2, hig2, hst2⟩ := (unhide HO1).setD (c := c) (by simpa using hcd)
      have HO2 := hide (hst2 0)
      have HE : Hid ({ ({ m with refs := m.refs.set c (R - 1) } : Img) with data := m.data.set c 0 } = imDrop m ((c : Int) + 2)) := hide ((unhide HDR).1 hz).symm
      have hig2' : ImB a m ts g2 := by simpa only [ImB, List.length_set] using hig2
      have HK2 : Hid (Keep (ImB a m ts) W1 (W1.setCell ⟨g2, c, none⟩ (.int .i64 0))) := hide ((Keep.refl _ W1).setCell (p := ⟨g2, c, none⟩) hig2' _)
      have hne1 : w.heap.size ≠ g2 := by have := unhide HGE g2 hig2'; omega
      have hne2 : w.heap.size + 1 ≠ g2 := by have := unhide HGE g2 hig2'; omega
      have HV2 := hide (VarM.other (unhide HV1) (p := ⟨g2, c, none⟩) hne1 (.int .i64 0))
      have HR2 := hide (VarM.other (unhide HR1) (p := ⟨g2, c, none⟩) hne2 (.int .i64 0))
      rw [eg2] at c3
      clear eg2 hst2 hig2 hz hne1 hne2
      go_upto_region 7 with fail
      revert HO2 HK2 HV2 HR2
      generalize (W1.setCell _ _) = W2
      intro HO2 HK2 HV2 HR2
      clear c0 c1 c2 c3 hs hcg2 hfg2
      obtain ⟨c0, c1, c2, c3⟩ := (unhide HV2).cells
      obtain ⟨r0, r1, r2, r3⟩ := (unhide HR2).cells
      obtain ⟨z0, z1, z2, z3⟩ := (unhide HR2).free
      have HK : Hid (Keep (fun g => ImB a m ts g ∨ w.heap.size ≤ g) w ((((W2.setCell ⟨w.heap.size + 1, 0, none⟩ (.slice a.ro m.refs.length a.rc)).setCell ⟨w.heap.size + 1, 1, none⟩ (.slice a.tq m.table.length a.tc)).setCell ⟨w.heap.size + 1, 2, none⟩ (.slice a.so m.snaps.length a.sc)).setCell ⟨w.heap.size + 1, 3, none⟩ (.slice a.dq m.data.length a.dc))) := hide (by
        have k0 := (unhide HKW).trans ((unhide HK2).mono (fun g h => .inl h))
        exact (((k0.setCell (p := ⟨w.heap.size + 1, 0, none⟩) (.inr (Nat.le_succ _)) _).setCell (p := ⟨w.heap.size + 1, 1, none⟩) (.inr (Nat.le_succ _)) _).setCell (p := ⟨w.heap.size + 1, 2, none⟩) (.inr (Nat.le_succ _)) _).setCell (p := ⟨w.heap.size + 1, 3, none⟩) (.inr (Nat.le_succ _)) _)
      have HVN := hide ((((unhide HR2).set0 (.slice a.ro m.refs.length a.rc)).set1 (.slice a.tq m.table.length a.tc)).set2 (.slice a.so m.snaps.length a.sc) |>.set3 (.slice a.dq m.data.length a.dc))
      have HON := hide ((unhide HO2).keep (S := fun g => g = w.heap.size + 1) (((((Keep.refl (fun g => g = w.heap.size + 1) W2).setCell (p := ⟨w.heap.size + 1, 0, none⟩) rfl (.slice a.ro m.refs.length a.rc)).setCell (p := ⟨w.heap.size + 1, 1, none⟩) rfl (.slice a.tq m.table.length a.tc)).setCell (p := ⟨w.heap.size + 1, 2, none⟩) rfl (.slice a.so m.snaps.length a.sc)).setCell (p := ⟨w.heap.size + 1, 3, none⟩) rfl (.slice a.dq m.data.length a.dc)) (fun g hg he => by have := unhide HGE g (by simpa only [ImB, List.length_set] using hg); omega))
      go_wp2
      refine bodyPost_ret (res_im Tryd.results143 rfl (unhide HVN)) rfl ⟨rfl, ?_, ?_⟩
      · rw [← unhide HE]; exact unhide HON
      · exact keep_im (unhide HK) (unhide HGE)
    · have bz : (R - 1 == 0) = false := by simpa using hz
      have HE : Hid (({ m with refs := m.refs.set c (R - 1) } : Img) = imDrop m ((c : Int) + 2)) := hide ((unhide HDR).2 hz).symm
      obtain ⟨r0, r1, r2, r3⟩ := (unhide HR1).cells
      obtain ⟨z0, z1, z2, z3⟩ := (unhide HR1).free
      clear hz
      go_upto_region 7 with fail
      clear c0 hs
      obtain ⟨c0, _, _, _⟩ := (unhide HV1).cells
      have HK : Hid (Keep (fun g => ImB a m ts g ∨ w.heap.size ≤ g) w ((((W1.setCell ⟨w.heap.size + 1, 0, none⟩ (.slice a.ro m.refs.length a.rc)).setCell ⟨w.heap.size + 1, 1, none⟩ (.slice a.tq m.table.length a.tc)).setCell ⟨w.heap.size + 1, 2, none⟩ (.slice a.so m.snaps.length a.sc)).setCell ⟨w.heap.size + 1, 3, none⟩ (.slice a.dq m.data.length a.dc))) := hide (by
        have k0 := unhide HKW
        exact (((k0.setCell (p := ⟨w.heap.size + 1, 0, none⟩) (.inr (Nat.le_succ _)) _).setCell (p := ⟨w.heap.size + 1, 1, none⟩) (.inr (Nat.le_succ _)) _).setCell (p := ⟨w.heap.size + 1, 2, none⟩) (.inr (Nat.le_succ _)) _).setCell (p := ⟨w.heap.size + 1, 3, none⟩) (.inr (Nat.le_succ _)) _)
      have HVN := hide ((((unhide HR1).set0 (.slice a.ro m.refs.length a.rc)).set1 (.slice a.tq m.table.length a.tc)).set2 (.slice a.so m.snaps.length a.sc) |>.set3 (.slice a.dq m.data.length a.dc))
      have HON := hide ((unhide HO1).keep (S := fun g => g = w.heap.size + 1) (((((Keep.refl (fun g => g = w.heap.size + 1) W1).setCell (p := ⟨w.heap.size + 1, 0, none⟩) rfl (.slice a.ro m.refs.length a.rc)).setCell (p := ⟨w.heap.size + 1, 1, none⟩) rfl (.slice a.tq m.table.length a.tc)).setCell (p := ⟨w.heap.size + 1, 2, none⟩) rfl (.slice a.so m.snaps.length a.sc)).setCell (p := ⟨w.heap.size + 1, 3, none⟩) rfl (.slice a.dq m.data.length a.dc)) (fun g hg he => by have := unhide HGE g (by simpa only [ImB, List.length_set] using hg); omega))
      go_wp2
      refine bodyPost_ret (res_im Tryd.results143 rfl (unhide HVN)) rfl ⟨rfl, ?_, ?_⟩
      · rw [← unhide HE]; exact unhide HON
      · exact keep_im (unhide HK) (unhide HGE)

end Go.Proofs.YtkndabnngdjcgaaDoor
