import Derived.Test.YtpdpnepnfhbonaaGreatRows
import Derived.Test.YtpdpnepnfhbonaaGreatXReqDoPart3
import Derived.Test.YtpdpnepnfhbonaaGreatXReqDoPart5
import Derived.Test.YtpdpnepnfhbonaaGreatXReqDoPart4
import Derived.WalkKit
import Derived.WalkSpells
import Derived.LoopN
import Derived.Deep.RegionWith
import Derived.Test.YtpdpnepnfhbonaaGreatXReqDoPart1
import Derived.Test.YtpdpnepnfhbonaaGreatXReqDoPart2
import Derived.BigQuiet
import Derived.Deep.QuietTactic
import Derived.Deep.Quiet
import Derived.Deep.RegionHeld3
import Derived.KernelRfl

namespace Go.Proofs.YtpdpnepnfhbonaaGreat
open Go.RowKit
set_option linter.unusedVariables false
set_option maxRecDepth 100000

theorem wp_append_fresh {P : Program} {o : Oper} {a : Act} {w : World} {K : Act → World → Prop} {Q : Exit → Act → World → Prop}
    (hg : o.guard = none) (s x : Operand) (t : TypeId) (hop : o.op = Op.call { callee := Callee.builtin Builtin.append, args := #[s, x], argTypes := #[t, t] })
    (e : TypeId) (i : TypeInfo) (z : Value) (size bytes : Nat) (h1 : P.underlying t = some (.slice e)) (h2 : P.info? e = some i) (h3 : i.zero = some z) (h4 : i.size = size) (h5 : i.bytes = bytes) (h6 : z.cells.size = size) (h7 : 0 < size)
    (hs0 : isFresh (a.eval s) = true) (so : Option Addr) (m c : Nat) (news : List Value) (hx : a.eval x = .slice so m c) (hn : news.length = m * size)
    (hc : 0 < m → ∃ ad, so = some ad ∧ ∀ j u, news[j]? = some u → w.cell? (ad.add j) = some u) (b1 : m ≤ maxLen) (b2 : m * bytes ≤ 140737488355328)
    (hK : ∀ ao cap w', OwnR w' w.heap.size e size (.slice ao m cap) m news → w.grownBy w' none → K (a.put o.dst (.slice ao m cap)) w') : o.wp P a w K Q := by
  have := step_append_fresh (P := P) (ops := #[]) (o := o) (a := a) (w := w) (K := K) (Q := Q) (E := True) hg s x t hop e i z size bytes h1 h2 h3 h4 h5 h6 h7 hs0 so m c news hx hn hc b1 b2 hK
  rwa [if_pos (by simp [Region.wanted, hg])] at this

theorem snap_news {w : World} {g : Nat} {n : ByteArray} {v : Value} {t : TypeId} (h : w.heap[g]? = some (.cells #[.string n, v] t (0, 0))) : ∀ j u, [Value.string n, v][j]? = some u → w.cell? ((⟨g, 0, none⟩ : Addr).add j) = some u := by
  intro j u hu
  have hj : j < 2 := (List.getElem?_eq_some_iff.1 hu).1
  rcases (show j = 0 ∨ j = 1 by omega) with rfl | rfl
  · simp at hu
    subst hu
    rw [show (⟨g, 0, none⟩ : Addr).add 0 = ⟨g, 0, none⟩ from rfl, Joins.cell_of_block h]; rfl
  · simp at hu
    subst hu
    rw [show (⟨g, 0, none⟩ : Addr).add 1 = ⟨g, 1, none⟩ from rfl, Joins.cell_of_block h]; rfl
theorem snap_one (n : ByteArray) (q : Option Addr) (l c : Nat) : ∀ u ∈ [Value.string n, .slice q l c], u.oneCell' = true := by
  intro u hu
  simp at hu
  rcases hu with rfl | rfl <;> rfl
theorem wp_append_one {P : Program} {w : World} {o : Oper} {a : Act} {K : Act → World → Prop} {Q : Exit → Act → World → Prop} (hgd : o.guard = none) (s x : Operand) (t : TypeId)
    (ho : o.op = .call { callee := .builtin .append, args := #[s, x], argTypes := #[t, t] })
    (B : Nat) (e : TypeId) (i : TypeInfo) (z : Value) (size bytes : Nat) (ht : P.underlying t = some (.slice e)) (hi : P.info? e = some i) (hz : i.zero = some z)
    (hsize : i.size = size) (hby : i.bytes = bytes) (hzs : z.cells.size = size) (hsz : 0 < size)
    (qo : Option Addr) (n cap : Nat) (xs : List Value) (hs : a.eval s = .slice qo n cap) (h : OwnR w B e size (.slice qo n cap) n xs) (hB : B ≤ w.heap.size)
    (ad : Addr) (c : Nat) (news : List Value) (hx : a.eval x = .slice (some ad) 1 c) (hl : news.length = size) (hnews : ∀ j u, news[j]? = some u → w.cell? (ad.add j) = some u) (h1 : ∀ u ∈ news, u.oneCell' = true)
    (b1 : n + 1 ≤ maxLen) (b2 : (n + 1) * bytes ≤ 140737488355328)
    (hK : ∀ g cap' w', w'.ownsRow B e size (.slice (some ⟨g, 0, none⟩) (n + 1) cap') (n + 1) (xs ++ news) → Keep (Own (.slice qo n cap)) w w' → K (a.put o.dst (.slice (some ⟨g, 0, none⟩) (n + 1) cap')) w') : o.wp P a w K Q := by
  have := step_append_one (P := P) (ops := #[]) (o := o) (a := a) (w := w) (K := K) (Q := Q) (E := True) hgd s x t ho B e i z size bytes ht hi hz hsize hby hzs hsz qo n cap xs hs h hB ad c news hx hl hnews h1 b1 b2 hK
  rwa [if_pos (by simp [Region.wanted, hgd])] at this

set_option maxHeartbeats 6400000 in
theorem l10Own_full (a : Im4) (m : Img) (w : World) (hL : m.refs.length ≤ 1048576 ∧ m.table.length ≤ 1048576 ∧ m.data.length ≤ 1048576) (hst : ∀ s ∈ m.snaps, s.table.length ≤ 1048576) (hs1 : m.snaps.length ≤ 1048576) (hc : ImS w a m) :
    Calls Tryz.prog 43 #[imV a m] w fun e w' => ∃ a' ts, e = .returned (imV a' m) ∧ OwnF w' w.heap.size a' m ts ∧ Below w.heap.size w w' := by
  have HA := hide (Joins.below_alloc2 w (.cells #[.slice a.ro m.refs.length a.rc, .slice a.tq m.table.length a.tc, .slice a.so m.snaps.length a.sc, .slice a.dq m.data.length a.dc] 32) (.cells #[.slice none 0 0, .slice none 0 0, .slice none 0 0, .slice none 0 0] 32))
  have HC := hide (hc.below (unhide HA))
  have HV := hide ((VarM.new w 32 (.slice a.ro m.refs.length a.rc) (.slice a.tq m.table.length a.tc) (.slice a.so m.snaps.length a.sc) (.slice a.dq m.data.length a.dc)).below (Joins.below_alloc1 _ (.cells #[.slice none 0 0, .slice none 0 0, .slice none 0 0, .slice none 0 0] 32)))
  have HR := hide ((VarM.new (w.alloc (.cells #[.slice a.ro m.refs.length a.rc, .slice a.tq m.table.length a.tc, .slice a.so m.snaps.length a.sc, .slice a.dq m.data.length a.dc] 32)) 32 (.slice none 0 0) (.slice none 0 0) (.slice none 0 0) (.slice none 0 0)).at (y := w.heap.size + 1) (by simp))
  have HLL := hide hL
  have HST := hide hst
  clear hc hL hst
  obtain ⟨j0, hj0, hy0, hy1, hy2⟩ := info_parts infoSn
  obtain ⟨i0, hi0, hz0, hz1, hz2⟩ := info_parts infoIn
  go_enter Tryz.func43, Tryz.ntmps43
  go_upto_region 1 with fail
  revert HA HC HV HR
  generalize ((w.alloc _).alloc _) = W0
  intro HA HC HV HR
  refine wp_region_inv (OwInv W0 w.heap.size (w.heap.size + 1) a m) (by kernel_rfl) (by kernel_rfl) (noG_spec (by kernel_rfl)) (OwInv.start _ _ _ _ _ _ (Below.refl _ W0).drew) ?hs ?he
  case hs =>
    intro d f wq i o hI ho hd hp K hK
    obtain ⟨s3, s5, s6, s7, s8, s9, s10, s11, s12, s13, s14, s15, s16, s17, s18, rfl, I⟩ := hI
    obtain ⟨cv0, cv1, cv2, cv3⟩ := ((unhide HV).below I.b).cells
    have hi : i < 16 := (List.getElem?_eq_some_iff.1 ho).1
    rcases (show i = 0 ∨ i = 1 ∨ i = 2 ∨ i = 3 ∨ i = 4 ∨ i = 5 ∨ i = 6 ∨ i = 7 ∨ i = 8 ∨ i = 9 ∨ i = 10 ∨ i = 11 ∨ i = 12 ∨ i = 13 ∨ i = 14 ∨ i = 15 by omega) with rfl | rfl | rfl | rfl | rfl | rfl | rfl | rfl | rfl | rfl | rfl | rfl | rfl | rfl | rfl | rfl
    · cases ho
      unfold Oper.wp
      go_simp
      exact hK _ _ ⟨_, _, _, _, _, _, _, _, _, _, _, _, _, _, _, rfl, I.s0 hd (Joins.below_alloc1 _ _) ⟨_, rfl⟩⟩
    · cases ho
      unfold Oper.wp
      go_simp
      exact hK _ _ ⟨_, _, _, _, _, _, _, _, _, _, _, _, _, _, _, rfl, I.s1 hd rfl⟩
    · cases ho
      have p := hp ⟨1, .data⟩ (by simp) rfl
      have e1 := I.f1 p
      subst e1
      unfold Oper.wp
      go_simp
      exact hK _ _ ⟨_, _, _, _, _, _, _, _, _, _, _, _, _, _, _, rfl, I.s2 hd rfl⟩
    · cases ho
      have pa := hp ⟨0, .data⟩ (by simp) rfl
      have pb := hp ⟨2, .data⟩ (by simp) rfl
      obtain ⟨g, rfl⟩ := I.f0 pa
      have e1 := I.f2 pb
      subst e1
      refine wp_append_fresh rfl (.tmp 5) (.tmp 7) 22 rfl 3 i0 (.int .i64 0) 1 8 Tryz.underlying22 hi0 hz0 hz1 hz2 rfl (by omega) rfl a.ro m.refs.length a.rc (intV m.refs) rfl (by rw [intV_length]; omega) (Is.srcI ((unhide HC).r.below I.b)) (by have := unhide HLL; unfold maxLen; omega) (by have := unhide HLL; omega) ?_
      intro ao cap w2 ho2 hg2
      exact hK _ _ ⟨_, _, _, _, _, _, _, _, _, _, _, _, _, _, _, rfl, I.s3 hd (belowGr (Below.refl _ _) hg2) ⟨ao, cap, rfl, ho2⟩⟩
    · cases ho
      unfold Oper.wp
      go_simp
      exact hK _ _ ⟨_, _, _, _, _, _, _, _, _, _, _, _, _, _, _, rfl, I.s4 hd (Joins.below_alloc1 _ _) ⟨_, rfl⟩⟩
    · cases ho
      unfold Oper.wp
      go_simp
      exact hK _ _ ⟨_, _, _, _, _, _, _, _, _, _, _, _, _, _, _, rfl, I.s5 hd rfl⟩
    · cases ho
      have p := hp ⟨5, .data⟩ (by simp) rfl
      have e1 := I.f5 p
      subst e1
      unfold Oper.wp
      go_simp
      exact hK _ _ ⟨_, _, _, _, _, _, _, _, _, _, _, _, _, _, _, rfl, I.s6 hd rfl⟩
    · cases ho
      have pa := hp ⟨4, .data⟩ (by simp) rfl
      have pb := hp ⟨6, .data⟩ (by simp) rfl
      have pc := hp ⟨3, .chain⟩ (by simp) rfl
      obtain ⟨g, rfl⟩ := I.f4 pa
      have e1 := I.f6 pb
      subst e1
      refine wp_append_fresh rfl (.tmp 9) (.tmp 11) 22 rfl 3 i0 (.int .i64 0) 1 8 Tryz.underlying22 hi0 hz0 hz1 hz2 rfl (by omega) rfl a.tq m.table.length a.tc (intV m.table) rfl (by rw [intV_length]; omega) (Is.srcI ((unhide HC).t.below I.b)) (by have := unhide HLL; unfold maxLen; omega) (by have := unhide HLL; omega) ?_
      intro ao cap w2 ho2 hg2
      exact hK _ _ ⟨_, _, _, _, _, _, _, _, _, _, _, _, _, _, _, rfl, I.s7 hd (belowGr (Below.refl _ _) hg2) pc ⟨ao, cap, rfl, ho2⟩⟩
    · cases ho
      unfold Oper.wp
      go_simp
      exact hK _ _ ⟨_, _, _, _, _, _, _, _, _, _, _, _, _, _, _, rfl, I.s8 hd (Joins.below_alloc1 _ _) ⟨_, rfl⟩⟩
    · cases ho
      unfold Oper.wp
      go_simp
      exact hK _ _ ⟨_, _, _, _, _, _, _, _, _, _, _, _, _, _, _, rfl, I.s9 hd (Joins.below_alloc1 _ _) ⟨_, rfl⟩⟩
    · cases ho
      unfold Oper.wp
      go_simp
      exact hK _ _ ⟨_, _, _, _, _, _, _, _, _, _, _, _, _, _, _, rfl, I.s10 hd rfl⟩
    · cases ho
      have p := hp ⟨10, .data⟩ (by simp) rfl
      have e1 := I.f10 p
      subst e1
      unfold Oper.wp
      go_simp
      exact hK _ _ ⟨_, _, _, _, _, _, _, _, _, _, _, _, _, _, _, rfl, I.s11 hd rfl⟩
    · cases ho
      have pa := hp ⟨9, .data⟩ (by simp) rfl
      have pb := hp ⟨11, .data⟩ (by simp) rfl
      have pc := hp ⟨7, .chain⟩ (by simp) rfl
      obtain ⟨g, rfl⟩ := I.f9 pa
      have e1 := I.f11 pb
      subst e1
      refine wp_append_fresh rfl (.tmp 14) (.tmp 16) 22 rfl 3 i0 (.int .i64 0) 1 8 Tryz.underlying22 hi0 hz0 hz1 hz2 rfl (by omega) rfl a.dq m.data.length a.dc (intV m.data) rfl (by rw [intV_length]; omega) (Is.srcI ((unhide HC).d.below I.b)) (by have := unhide HLL; unfold maxLen; omega) (by have := unhide HLL; omega) ?_
      intro ao cap w2 ho2 hg2
      exact hK _ _ ⟨_, _, _, _, _, _, _, _, _, _, _, _, _, _, _, rfl, I.s12 hd (belowGr (Below.refl _ _) hg2) pc ⟨ao, cap, rfl, ho2⟩⟩
    · cases ho
      have p3 := hp ⟨3, .data⟩ (by simp) rfl
      have p7 := hp ⟨7, .data⟩ (by simp) rfl
      have p8 := hp ⟨8, .data⟩ (by simp) rfl
      have p12 := hp ⟨12, .data⟩ (by simp) rfl
      obtain ⟨q8, c8, rfl, _⟩ := I.f3 p3
      obtain ⟨⟨q12, c12, rfl, _⟩, _⟩ := I.f7 p7
      obtain ⟨g13, rfl⟩ := I.f8 p8
      obtain ⟨⟨q17, c17, rfl, _⟩, _⟩ := I.f12 p12
      unfold Oper.wp
      go_simp
      exact hK _ _ ⟨_, _, _, _, _, _, _, _, _, _, _, _, _, _, _, rfl, I.s13 hd p8 p12 rfl⟩
    · cases ho
      unfold Oper.wp
      go_simp
      exact hK _ _ ⟨_, _, _, _, _, _, _, _, _, _, _, _, _, _, _, rfl, I.s14 hd (Joins.below_alloc1 _ _) rfl I.b.size (VarM.new _ _ _ _ _ _)⟩
    · cases ho
      have p13 := hp ⟨13, .data⟩ (by simp) rfl
      have p14 := hp ⟨14, .data⟩ (by simp) rfl
      obtain ⟨p8, p12⟩ := I.c13 p13
      obtain ⟨q8, c8, rfl, _⟩ := I.f3 (I.c7 (I.c12 p12))
      obtain ⟨⟨q12, c12, rfl, _⟩, _⟩ := I.f7 (I.c12 p12)
      obtain ⟨g13, rfl⟩ := I.f8 p8
      obtain ⟨⟨q17, c17, rfl, _⟩, _⟩ := I.f12 p12
      have e18 := I.f13 p13
      subst e18
      obtain ⟨y, rfl, hy, hv⟩ := I.f14 p14 hd
      obtain ⟨y0, y1, y2, y3⟩ := hv.cells
      obtain ⟨z0, z1, z2, z3⟩ := hv.free
      unfold Oper.wp
      go_simp
      exact hK _ _ ⟨_, _, _, _, _, _, _, _, _, _, _, _, _, _, _, rfl, I.s15 hd p13 p14 rfl hy hv (((((Keep.refl (fun k => k = y) wq).setCell (p := ⟨y, 0, none⟩) rfl _).setCell (p := ⟨y, 1, none⟩) rfl _).setCell (p := ⟨y, 2, none⟩) rfl _).setCell (p := ⟨y, 3, none⟩) rfl _) ((((hv.set0 _).set1 _).set2 _).set3 _)⟩
  case he =>
    intro d f wq hI hall
    obtain ⟨s3, s5, s6, s7, s8, s9, s10, s11, s12, s13, s14, s15, s16, s17, s18, rfl, I⟩ := hI
    obtain ⟨q8, c8, e8, o8⟩ := I.f3 (hall 3 (by decide))
    obtain ⟨⟨q12, c12, e12, o12⟩, a12⟩ := I.f7 (hall 7 (by decide))
    obtain ⟨g13, e13⟩ := I.f8 (hall 8 (by decide))
    obtain ⟨⟨q17, c17, e17, o17⟩, a17, b17⟩ := I.f12 (hall 12 (by decide))
    obtain ⟨y, e3, hy, hv⟩ := I.f15 (hall 15 (by decide))
    subst e8 e12 e13 e17 e3
    have HL0 : Hid (OwL W0 y m q8 c8 q12 c12 q17 c17 wq 0 (some ⟨g13, 0, none⟩) 0 []) := hide ⟨I.b, hv, rfl, .inl ⟨rfl, by simp [snC], _, rfl⟩, by
      refine ⟨fun r hr => ?_, ?_⟩
      · simp only [List.zip_nil_left, List.mem_cons, List.not_mem_nil, or_false] at hr
        rcases hr with rfl | rfl | rfl
        · exact ⟨_, _, rfl, o8⟩
        · exact ⟨_, _, rfl, o12⟩
        · exact ⟨_, _, rfl, o17⟩
      · simp only [List.zip_nil_left, List.pairwise_cons, List.mem_cons, List.not_mem_nil, or_false, forall_eq_or_imp, forall_eq, List.Pairwise.nil, and_true]
        exact ⟨⟨a12, a17⟩, b17, fun _ h => h.elim⟩⟩
    have HY := hide hy
    clear o8 o12 a12 o17 a17 b17 hv hy I hall
    go_wp2
    go_loopw [4] (fun i wr => ∃ (k : Nat) (so : Option Addr) (sc : Nat) (ts : List Value), k ≤ m.snaps.length ∧ i = .int .i64 k ∧ Hid (OwL W0 y m q8 c8 q12 c12 q17 c17 wr k so sc ts)) (fun i _ => m.snaps.length - (intOf i).toNat)
    case atStart => exact ⟨0, _, _, _, Nat.zero_le _, rfl, HL0⟩
    case round =>
      clear HL0
      obtain ⟨k, so, sc, ts, hk, rfl, HL⟩ := hrel
      obtain ⟨c0, c1, c2, c3⟩ := (VarM.below (unhide HV) (unhide HL).b).cells
      by_cases hlt : k < m.snaps.length
      · obtain ⟨b, off, tq, tc, eb, hn0, ht0, hIs, hz, htl⟩ := ((unhide HC).s.below (unhide HL).b) k hlt
        have hlti : (k : Int) < (m.snaps.length : Int) := by omega
        have HIS := hide hIs
        have HTL := hide (unhide HST _ (List.getElem_mem hlt))
        have hbl : b < wr.heap.size := World.block_lt_of_cell? _ _ hn0
        clear hIs hz htl
        go_upto_region 5 with fail
        clear c0 c1 c2 c3
        refine ownG_region (fun d wz s26 s27 s28 s29 s30 s31 s32 s33 s34 s35 s36 s37 s38 s39 s40 s41 s42 s43 s44 s45 => OwJ wr W0.heap.size w.heap.size y k b off m.snaps.length a.sc so sc (snC (m.snaps.take k) ts) m.snaps[k].name tq tc m.snaps[k].table (.slice q8 m.refs.length c8) (.slice q12 m.table.length c12) (.slice q17 m.data.length c17) d wz s26 s27 s28 s29 s30 s31 s32 s33 s34 s35 s36 s37 s38 s39 s40 s41 s42 s43 s44 s45) (by kernel_rfl) (by kernel_rfl) (noG_spec (by kernel_rfl)) ?h0 ?hs ?he
        case h0 => exact ⟨fun _ => (Below.refl _ wr).drew, fun _ => Keep.of_below (Below.refl _ wr).drew, fun h => (by cases h), fun h => (by cases h), fun h => (by cases h), fun h => (by cases h), fun h => (by cases h), fun h => (by cases h), fun h => (by cases h), fun h => (by cases h), fun h => (by cases h), fun h => (by cases h), fun h => (by cases h), fun h => (by cases h), fun h => (by cases h), fun h => (by cases h), fun h => (by cases h), fun h => (by cases h), fun h => (by cases h), fun h => (by cases h), fun h => (by cases h), fun h => (by cases h), fun h => (by cases h)⟩
        case hs =>
          intro d wz i o r26 r27 r28 r29 r30 r31 r32 r33 r34 r35 r36 r37 r38 r39 r40 r41 r42 r43 r44 r45 hc I ho hd hp K hK
          have hi : i < 21 := (List.getElem?_eq_some_iff.1 ho).1
          rcases (show i = 0 ∨ i = 1 ∨ i = 2 ∨ i = 3 ∨ i = 4 ∨ i = 5 ∨ i = 6 ∨ i = 7 ∨ i = 8 ∨ i = 9 ∨ i = 10 ∨ i = 11 ∨ i = 12 ∨ i = 13 ∨ i = 14 ∨ i = 15 ∨ i = 16 ∨ i = 17 ∨ i = 18 ∨ i = 19 ∨ i = 20 by omega) with rfl | rfl | rfl | rfl | rfl | rfl | rfl | rfl | rfl | rfl | rfl | rfl | rfl | rfl | rfl | rfl | rfl | rfl | rfl | rfl | rfl
          · cases ho
            unfold Oper.wp
            go_simp
            exact hK _ _ _ _ _ _ _ _ _ _ _ _ _ _ _ _ _ _ _ _ _ (I.s0 hd rfl)
          · cases ho
            have p := hp ⟨0, .data⟩ (by simp) rfl
            have e1 := I.f0 p
            subst e1
            have h18 := not_yet hc 9 (j := 18) (i := 1) (by kernel_rfl) hd
            have cy := (((unhide HL).v.below (I.b0 h18)).cells).2.2.1
            unfold Oper.wp
            go_simp
            exact hK _ _ _ _ _ _ _ _ _ _ _ _ _ _ _ _ _ _ _ _ _ (I.s1 hd rfl)
          · cases ho
            unfold Oper.wp
            go_simp
            exact hK _ _ _ _ _ _ _ _ _ _ _ _ _ _ _ _ _ _ _ _ _ (I.s2 hd rfl)
          · cases ho
            have p := hp ⟨2, .data⟩ (by simp) rfl
            have e1 := I.f2 p
            subst e1
            have h18 := not_yet hc 9 (j := 18) (i := 3) (by kernel_rfl) hd
            have cx := ((VarM.below (VarM.below (unhide HV) (unhide HL).b) (I.b0 h18)).cells).2.2.1
            rw [eb] at cx
            unfold Oper.wp
            go_simp
            exact hK _ _ _ _ _ _ _ _ _ _ _ _ _ _ _ _ _ _ _ _ _ (I.s3 hd rfl)
          · cases ho
            unfold Oper.wp
            go_simp
            exact hK _ _ _ _ _ _ _ _ _ _ _ _ _ _ _ _ _ _ _ _ _ (I.s4 hd rfl)
          · cases ho
            have p := hp ⟨3, .data⟩ (by simp) rfl
            have e1 := I.f3 p
            subst e1
            have p2 := hp ⟨4, .data⟩ (by simp) rfl
            have e2 := I.f4 p2
            subst e2
            unfold Oper.wp
            go_simp
            exact hK _ _ _ _ _ _ _ _ _ _ _ _ _ _ _ _ _ _ _ _ _ (I.s5 hd (by first | rfl | simp))
          · cases ho
            have p := hp ⟨5, .data⟩ (by simp) rfl
            have e1 := I.f5 p
            subst e1
            unfold Oper.wp
            go_simp
            exact hK _ _ _ _ _ _ _ _ _ _ _ _ _ _ _ _ _ _ _ _ _ (I.s6 hd (by first | rfl | simp))
          · cases ho
            have p := hp ⟨6, .data⟩ (by simp) rfl
            have e1 := I.f6 p
            subst e1
            have h18 := not_yet hc 9 (j := 18) (i := 7) (by kernel_rfl) hd
            have cn := ((I.b0 h18).cell (p := ⟨b, off + k * 2, none⟩) hbl).trans hn0
            unfold Oper.wp
            go_simp
            exact hK _ _ _ _ _ _ _ _ _ _ _ _ _ _ _ _ _ _ _ _ _ (I.s7 hd rfl)
          · cases ho
            have h18 := not_yet hc 9 (j := 18) (i := 8) (by kernel_rfl) hd
            have h20 := not_yet hc 9 (j := 20) (i := 8) (by kernel_rfl) hd
            unfold Oper.wp
            go_simp
            exact hK _ _ _ _ _ _ _ _ _ _ _ _ _ _ _ _ _ _ _ _ _ (I.s8 hd h18 h20 (Joins.below_alloc1 _ _) ⟨_, rfl⟩)
          · cases ho
            unfold Oper.wp
            go_simp
            exact hK _ _ _ _ _ _ _ _ _ _ _ _ _ _ _ _ _ _ _ _ _ (I.s9 hd rfl)
          · cases ho
            have p := hp ⟨9, .data⟩ (by simp) rfl
            have e1 := I.f9 p
            subst e1
            have h18 := not_yet hc 9 (j := 18) (i := 10) (by kernel_rfl) hd
            have cx := ((VarM.below (VarM.below (unhide HV) (unhide HL).b) (I.b0 h18)).cells).2.2.1
            rw [eb] at cx
            unfold Oper.wp
            go_simp
            exact hK _ _ _ _ _ _ _ _ _ _ _ _ _ _ _ _ _ _ _ _ _ (I.s10 hd rfl)
          · cases ho
            unfold Oper.wp
            go_simp
            exact hK _ _ _ _ _ _ _ _ _ _ _ _ _ _ _ _ _ _ _ _ _ (I.s11 hd rfl)
          · cases ho
            have p := hp ⟨10, .data⟩ (by simp) rfl
            have e1 := I.f10 p
            subst e1
            have p2 := hp ⟨11, .data⟩ (by simp) rfl
            have e2 := I.f11 p2
            subst e2
            unfold Oper.wp
            go_simp
            exact hK _ _ _ _ _ _ _ _ _ _ _ _ _ _ _ _ _ _ _ _ _ (I.s12 hd (by first | rfl | simp))
          · cases ho
            have p := hp ⟨12, .data⟩ (by simp) rfl
            have e1 := I.f12 p
            subst e1
            unfold Oper.wp
            go_simp
            exact hK _ _ _ _ _ _ _ _ _ _ _ _ _ _ _ _ _ _ _ _ _ (I.s13 hd (by first | rfl | simp))
          · cases ho
            have p := hp ⟨13, .data⟩ (by simp) rfl
            have e1 := I.f13 p
            subst e1
            have h18 := not_yet hc 9 (j := 18) (i := 14) (by kernel_rfl) hd
            have cn := ((I.b0 h18).cell (p := ⟨b, off + k * 2 + 1, none⟩) hbl).trans ht0
            unfold Oper.wp
            go_simp
            exact hK _ _ _ _ _ _ _ _ _ _ _ _ _ _ _ _ _ _ _ _ _ (I.s14 hd rfl)
          · cases ho
            have h18 := not_yet hc 9 (j := 18) (i := 15) (by kernel_rfl) hd
            have h20 := not_yet hc 9 (j := 20) (i := 15) (by kernel_rfl) hd
            have h16 := not_yet hc 9 (j := 16) (i := 15) (by kernel_rfl) hd
            have h17 := not_yet hc 9 (j := 17) (i := 15) (by kernel_rfl) hd
            have pa := hp ⟨8, .data⟩ (by simp) rfl
            have pb := hp ⟨14, .data⟩ (by simp) rfl
            obtain ⟨g, rfl⟩ := I.f8 pa
            have e1 := I.f14 pb
            subst e1
            refine wp_append_fresh rfl (.tmp 34) (.tmp 40) 22 rfl 3 i0 (.int .i64 0) 1 8 Tryz.underlying22 hi0 hz0 hz1 hz2 rfl (by omega) rfl tq m.snaps[k].table.length tc (intV m.snaps[k].table) rfl (by rw [intV_length]; omega) (Is.srcI ((unhide HIS).below (I.b0 h18))) (by have := unhide HTL; unfold maxLen; omega) (by have := unhide HTL; omega) ?_
            intro ao cap w2 ho2 hg2
            exact hK _ _ _ _ _ _ _ _ _ _ _ _ _ _ _ _ _ _ _ _ _ (I.s15 hd h18 h20 (belowGr (Below.refl _ _) hg2) h16 h17 ⟨ao, cap, rfl, ho2⟩)
          · cases ho
            have p7 := hp ⟨7, .data⟩ (by simp) rfl
            have p15 := hp ⟨15, .data⟩ (by simp) rfl
            have e1 := I.f7 p7
            subst e1
            obtain ⟨q41, c41, e41, _⟩ := I.f15 p15
            subst e41
            unfold Oper.wp
            go_simp
            exact hK _ _ _ _ _ _ _ _ _ _ _ _ _ _ _ _ _ _ _ _ _ (I.s16 hd rfl)
          · cases ho
            have h18 := not_yet hc 9 (j := 18) (i := 17) (by kernel_rfl) hd
            have h20 := not_yet hc 9 (j := 20) (i := 17) (by kernel_rfl) hd
            have p16 := hp ⟨16, .data⟩ (by simp) rfl
            have p15 := reach_done hc (f := 9) (j := 16) (i := 15) (by kernel_rfl) p16
            obtain ⟨q41, c41, e41, _⟩ := I.f15 p15
            subst e41
            have e1 := I.f16 p16
            subst e1
            unfold Oper.wp
            go_simp
            exact hK _ _ _ _ _ _ _ _ _ _ _ _ _ _ _ _ _ _ _ _ _ (I.s17 hd h18 h20 (Joins.below_alloc1 _ _) rfl (heap_alloc_new _ _))
          · cases ho
            have h20 := not_yet hc 9 (j := 20) (i := 18) (by kernel_rfl) hd
            have pa := hp ⟨1, .data⟩ (by simp) rfl
            have pb := hp ⟨17, .data⟩ (by simp) rfl
            have p15 := reach_done hc (f := 9) (j := 17) (i := 15) (by kernel_rfl) pb
            have e1 := I.f1 pa
            subst e1
            obtain ⟨g, rfl, hcell⟩ := I.f17 pb
            have hcl := hcell hd
            have HSR := hide ((unhide HL).s.below (I.b0 hd))
            refine wp_append_one rfl (.tmp 27) (.tmp 43) 30 rfl W0.heap.size 83 j0 (.agg #[.string ⟨#[]⟩, .slice none 0 0]) 2 40 Tryz.underlying30 hj0 hy0 hy1 hy2 rfl (by omega) so k sc (snC (m.snaps.take k) ts) rfl (unhide HSR) (by have h1 := (unhide HL).b.size; have h2 := (I.b0 hd).size; omega) ⟨g, 0, none⟩ 1 [.string m.snaps[k].name, r41] rfl rfl (snap_news hcl) (by obtain ⟨q41, c41, e41, _⟩ := I.f15 p15; subst e41; exact snap_one _ _ _ _) (by unfold maxLen; omega) (by omega) ?_
            intro g2 cap2 w2 ho2 hk2
            exact hK _ _ _ _ _ _ _ _ _ _ _ _ _ _ _ _ _ _ _ _ _ (I.s18 hd h20 hk2 rfl ho2 (fun h => own_apart h.row (unhide HSR) (by decide)))
          · cases ho
            unfold Oper.wp
            go_simp
            exact hK _ _ _ _ _ _ _ _ _ _ _ _ _ _ _ _ _ _ _ _ _ (I.s19 hd rfl)
          · cases ho
            have p18 := hp ⟨18, .data⟩ (by simp) rfl
            have p19 := hp ⟨19, .data⟩ (by simp) rfl
            obtain ⟨g2, cap2, e44, ho2⟩ := I.f18 p18
            subst e44
            have e1 := I.f19 p19
            subst e1
            have hvy : VarM wz y 32 (.slice q8 m.refs.length c8) (.slice q12 m.table.length c12) (.slice so k sc) (.slice q17 m.data.length c17) := ((I.b1 hd).block y (unhide HL).v.lt ((unhide HL).s.other (unhide HL).v (by decide))).trans (unhide HL).v
            have cy := hvy.cells.2.2.1
            have fy := hvy.free.2.2.1
            unfold Oper.wp
            go_simp
            exact hK _ _ _ _ _ _ _ _ _ _ _ _ _ _ _ _ _ _ _ _ _ (I.s20 (w2 := wz.setCell ⟨y, 2, none⟩ (.slice (some ⟨g2, 0, none⟩) (k + 1) cap2)) hd p18 ((Keep.refl (fun g => g = y) wz).setCell (p := ⟨y, 2, none⟩) rfl _) (hvy.set2 _) ⟨_, hvy⟩)
        case he =>
          intro d wz r26 r27 r28 r29 r30 r31 r32 r33 r34 r35 r36 r37 r38 r39 r40 r41 r42 r43 r44 r45 I hall
          obtain ⟨g2, cap2, e44, ho2⟩ := I.f18 (hall 18 (by decide))
          subst e44
          have HN := hide (OwL.next (unhide HL) (unhide HY) hlt (I.b2 (hall 20 (by decide))).1 (I.b2 (hall 20 (by decide))).2 ho2 (I.f15 (hall 15 (by decide))))
          clear I hall ho2
          go_wp2
          go_roundw
          case rel => exact ⟨k + 1, _, _, _, by omega, by go_num, HN⟩
          case measure => simp [intOf]; omega
      · have hkl : k = m.snaps.length := by omega
        subst hkl
        have HOI : Hid (OwnIm wr W0.heap.size ⟨q8, c8, q12, c12, so, sc, q17, c17⟩ m ts) := hide ⟨(unhide HL).l.symm, by have := (unhide HL).s; rw [List.take_length] at this; exact this.toS, by have := (unhide HL).r; rwa [List.take_length] at this⟩
        have HC0 : Hid (m.snaps.length = 0 → sc = 0) := hide (fun h => (unhide HL).s.cap0 h)
        have HRR := hide (VarM.below (unhide HR) (unhide HL).b)
        have HPT := hide (ImSt.put (unhide HRR) (unhide HOI) (fr (unhide HA) (unhide HL).b) (Nat.le_succ _) (unhide HR).lt ⟨q8, c8, q12, c12, so, sc, q17, c17⟩ m)
        obtain ⟨d0, d1, d2, d3⟩ := (unhide HL).v.cells
        obtain ⟨r0, r1, r2, r3⟩ := (unhide HRR).cells
        obtain ⟨z0, z1, z2, z3⟩ := (unhide HRR).free
        go_wp2
        exact bodyPost_ret (res_im Tryz.results43 rfl (unhide HPT).1) rfl ⟨⟨q8, c8, q12, c12, so, sc, q17, c17⟩, rfl, ⟨ts, ⟨(unhide HPT).2.1.base (unhide HA).size, unhide HC0⟩⟩, (unhide HPT).2.2⟩
theorem l10Own_any (a : Im4) (m : Img) (w : World) (hL : m.refs.length ≤ 1048576 ∧ m.table.length ≤ 1048576 ∧ m.data.length ≤ 1048576) (hst : ∀ s ∈ m.snaps, s.table.length ≤ 1048576) (hs1 : m.snaps.length ≤ 1048576) (hc : ImS w a m) :
    Calls Tryz.prog 43 #[imV a m] w fun e w' => ∃ a' ts, e = .returned (imV a' m) ∧ OwnIm w' w.heap.size a' m ts ∧ Below w.heap.size w w' := (l10Own_full a m w hL hst hs1 hc).mono fun e w' ⟨a', ts, h1, h2, h3⟩ => ⟨a', ts, h1, h2.1, h3⟩

end Go.Proofs.YtpdpnepnfhbonaaGreat

namespace Go.Proofs.YtpdpnepnfhbonaaGreat
open Go.RowKit
set_option linter.unusedVariables false
set_option maxRecDepth 100000

structure ImQ (w W : World) (B : Nat) (a : Im4) (m0 m : Img) (ts : List Value) : Prop where
  v : VarM W w.heap.size 32 (.slice a.ro m0.refs.length a.rc) (.slice a.tq m0.table.length a.tc) (.slice a.so m0.snaps.length a.sc) (.slice a.dq m0.data.length a.dc)
  r : VarM W (w.heap.size + 1) 32 (.slice none 0 0) (.slice none 0 0) (.slice none 0 0) (.slice none 0 0)
  o : OwnIm W B a m ts
  b : Below w.heap.size w W
  hB : w.heap.size + 2 ≤ B
  e1 : m.refs.length = m0.refs.length
  e2 : m.table.length = m0.table.length
  e3 : m.snaps.length = m0.snaps.length
  e4 : m.data.length = m0.data.length
theorem ImQ.val {w W : World} {B : Nat} {a : Im4} {m0 m : Img} {ts : List Value} (h : ImQ w W B a m0 m ts) : imV a m0 = imV a m := by rw [imV, imV, h.e1, h.e2, h.e3, h.e4]

abbrev putI (W : World) (x : Nat) (a : Im4) (m : Img) : World := (((W.setCell ⟨x, 0, none⟩ (.slice a.ro m.refs.length a.rc)).setCell ⟨x, 1, none⟩ (.slice a.tq m.table.length a.tc)).setCell ⟨x, 2, none⟩ (.slice a.so m.snaps.length a.sc)).setCell ⟨x, 3, none⟩ (.slice a.dq m.data.length a.dc)
theorem ImQ.put {w W : World} {B : Nat} {v0 v1 v2 v3 : Value} {a : Im4} {m0 m : Img} {ts : List Value} (hv : VarM W w.heap.size 32 v0 v1 v2 v3) (hr : VarM W (w.heap.size + 1) 32 (.slice none 0 0) (.slice none 0 0) (.slice none 0 0) (.slice none 0 0)) (ho : OwnIm W B a m ts) (hb : Below w.heap.size w W) (hB : w.heap.size + 2 ≤ B) (e1 : m.refs.length = m0.refs.length) (e2 : m.table.length = m0.table.length) (e3 : m.snaps.length = m0.snaps.length) (e4 : m.data.length = m0.data.length) : ImQ w (putI W w.heap.size a m0) B a m0 m ts := by
  obtain ⟨h1, h2, h3⟩ := ImSt.put hv ho hb (Nat.le_refl _) (by omega) a m0
  exact ⟨h1, (((hr.other (p := ⟨w.heap.size, 0, none⟩) (by simp) _).other (p := ⟨w.heap.size, 1, none⟩) (by simp) _).other (p := ⟨w.heap.size, 2, none⟩) (by simp) _).other (p := ⟨w.heap.size, 3, none⟩) (by simp) _, h2, h3, hB, e1, e2, e3, e4⟩
theorem ImQ.again {w W : World} {B : Nat} {a : Im4} {m0 m : Img} {ts : List Value} (h : ImQ w W B a m0 m ts) : ImQ w (putI W w.heap.size a m0) B a m0 m ts := ImQ.put h.v h.r h.o h.b h.hB h.e1 h.e2 h.e3 h.e4
theorem ImQ.fin {w W : World} {B : Nat} {a : Im4} {m0 m : Img} {ts : List Value} (h : ImQ w W B a m0 m ts) : VarM (putI W (w.heap.size + 1) a m0) (w.heap.size + 1) 32 (.slice a.ro m0.refs.length a.rc) (.slice a.tq m0.table.length a.tc) (.slice a.so m0.snaps.length a.sc) (.slice a.dq m0.data.length a.dc) ∧ OwnIm (putI W (w.heap.size + 1) a m0) w.heap.size a m ts ∧ Below w.heap.size w (putI W (w.heap.size + 1) a m0) := by
  obtain ⟨h1, h2, h3⟩ := ImSt.put h.r h.o h.b (Nat.le_succ _) (by have := h.hB; omega) a m0
  exact ⟨h1, h2.base (by have := h.hB; omega), h3⟩
theorem ImQ.turn {w W W' : World} {B : Nat} {a : Im4} {m0 m m' : Img} {ts : List Value} (h : ImQ w W B a m0 m ts) (hk : Keep (ImB a m ts) W W') (ho : OwnIm W' B a m' ts) (e1 : m'.refs.length = m.refs.length) (e2 : m'.table.length = m.table.length) (e3 : m'.snaps.length = m.snaps.length) (e4 : m'.data.length = m.data.length) : ImQ w W' B a m0 m' ts :=
  ⟨h.v.keepIm h.o hk, h.r.keepIm h.o hk, ho, h.b.trans (hk.below h.b.size (fun g hg => by have := (h.o.ge g hg).1; have := h.hB; omega)), h.hB, e1.trans h.e1, e2.trans h.e2, e3.trans h.e3, e4.trans h.e4⟩
theorem ImQ.setR {w W : World} {B c : Nat} {a : Im4} {m0 m : Img} {ts : List Value} (h : ImQ w W B a m0 m ts) (hc : c < m.refs.length) : ∃ g, a.ro = some ⟨g, 0, none⟩ ∧ W.cell? ⟨g, c, none⟩ = some (.int .i64 m.refs[c]) ∧ W.frozen? ⟨g, c, none⟩ = false ∧ ∀ y, ImQ w (W.setCell ⟨g, c, none⟩ (.int .i64 y)) B a m0 { m with refs := m.refs.set c y } ts := by
  obtain ⟨g, e, h1, h2, h3, h4⟩ := h.o.setR hc
  exact ⟨g, e, h1, h2, fun y => h.turn ((Keep.refl _ W).setCell (p := ⟨g, c, none⟩) h3 _) (h4 y) (by simp) rfl rfl rfl⟩
theorem ImQ.setT {w W : World} {B c : Nat} {a : Im4} {m0 m : Img} {ts : List Value} (h : ImQ w W B a m0 m ts) (hc : c < m.table.length) : ∃ g, a.tq = some ⟨g, 0, none⟩ ∧ W.cell? ⟨g, c, none⟩ = some (.int .i64 m.table[c]) ∧ W.frozen? ⟨g, c, none⟩ = false ∧ ∀ y, ImQ w (W.setCell ⟨g, c, none⟩ (.int .i64 y)) B a m0 { m with table := m.table.set c y } ts := by
  obtain ⟨g, e, h1, h2, h3, h4⟩ := h.o.setT hc
  exact ⟨g, e, h1, h2, fun y => h.turn ((Keep.refl _ W).setCell (p := ⟨g, c, none⟩) h3 _) (h4 y) rfl (by simp) rfl rfl⟩
theorem ImQ.setD {w W : World} {B c : Nat} {a : Im4} {m0 m : Img} {ts : List Value} (h : ImQ w W B a m0 m ts) (hc : c < m.data.length) : ∃ g, a.dq = some ⟨g, 0, none⟩ ∧ W.cell? ⟨g, c, none⟩ = some (.int .i64 m.data[c]) ∧ W.frozen? ⟨g, c, none⟩ = false ∧ ∀ y, ImQ w (W.setCell ⟨g, c, none⟩ (.int .i64 y)) B a m0 { m with data := m.data.set c y } ts := by
  obtain ⟨g, e, h1, h2, h3, h4⟩ := h.o.setD hc
  exact ⟨g, e, h1, h2, fun y => h.turn ((Keep.refl _ W).setCell (p := ⟨g, c, none⟩) h3 _) (h4 y) rfl rfl rfl (by simp)⟩
theorem imDrop_lens (m : Img) (e : Int) : (imDrop m e).refs.length = m.refs.length ∧ (imDrop m e).table.length = m.table.length ∧ (imDrop m e).snaps.length = m.snaps.length ∧ (imDrop m e).data.length = m.data.length := ⟨imDrop_refs m e, by rw [(imDrop_table m e).1], by rw [(imDrop_table m e).2], imDrop_data m e⟩

structure ImM (m : Img) : Prop where
  r : m.refs.length = 24
  d : m.data.length = 24
  t : m.table.length ≤ 12
  s : m.snaps.length ≤ 3
  st : ∀ s ∈ m.snaps, s.table.length ≤ 12 ∧ s.name.size ≤ 6
  tv : ∀ i (h : i < m.table.length), 0 ≤ m.table[i] ∧ m.table[i] ≤ 25
  sv : ∀ s ∈ m.snaps, ∀ i (h : i < s.table.length), 0 ≤ s.table[i] ∧ s.table[i] ≤ 25
  rv : ∀ c (h : c < m.refs.length), 0 ≤ m.refs[c] ∧ m.refs[c] ≤ 15
theorem ImR.M {m : Img} (h : ImR m) : ImM m := by
  refine ⟨ctB_len h.refs, h.len, tbB_len h.table, h.few, fun s hs => ⟨tbB_len (h.snaps s hs).2, ?_⟩, tbB_at h.table, fun s hs => tbB_at (h.snaps s hs).2, ctB_at h.refs⟩
  have := (h.snaps s hs).1
  simp only [snmB, Bool.and_eq_true] at this
  have := betw_iff.1 this.2
  omega
theorem ImM.L {m : Img} (h : ImM m) : ImL m := ⟨by rw [h.r]; unfold maxLen; omega, by have := h.t; unfold maxLen; omega, by have := h.s; unfold maxLen; omega, by rw [h.d]; unfold maxLen; omega⟩
theorem ImM.zs {m : Img} (h : ImM m) : ∀ s ∈ m.snaps, s.name.size ≤ maxLen ∧ s.table.length ≤ maxLen := fun s hs => by have := h.st s hs; unfold maxLen; omega
theorem l10Own_M (a : Im4) (m : Img) (w : World) (hM : ImM m) (hc : ImS w a m) :
    Calls Tryz.prog 43 #[imV a m] w fun e w' => ∃ a' ts, e = .returned (imV a' m) ∧ OwnIm w' w.heap.size a' m ts ∧ Below w.heap.size w w' :=
  l10Own_any a m w ⟨by rw [hM.r]; omega, by have := hM.t; omega, by rw [hM.d]; omega⟩ (fun s hs => by have := (hM.st s hs).1; omega) (by have := hM.s; omega) hc
theorem l10Own_F (a : Im4) (m : Img) (w : World) (hM : ImM m) (hc : ImS w a m) :
    Calls Tryz.prog 43 #[imV a m] w fun e w' => ∃ a' ts, e = .returned (imV a' m) ∧ OwnF w' w.heap.size a' m ts ∧ Below w.heap.size w w' :=
  l10Own_full a m w ⟨by rw [hM.r]; omega, by have := hM.t; omega, by rw [hM.d]; omega⟩ (fun s hs => by have := (hM.st s hs).1; omega) (by have := hM.s; omega) hc
theorem l10Drop_M (a : Im4) (m : Img) (ts : List Value) (B : Nat) (e : Int) (w : World) (he0 : 0 ≤ e) (he1 : e ≤ 25) (hr : m.refs.length = 24) (hd : m.data.length = 24) (hv : ∀ c (h : c < m.refs.length), -1000 ≤ m.refs[c] ∧ m.refs[c] ≤ 1000) (ho : OwnIm w B a m ts) :
    Calls Tryz.prog 115 #[imV a m, .int .i64 e] w fun r w' => r = .returned (imV a m) ∧ OwnIm w' B a (imDrop m e) ts ∧ Keep (ImB a m ts) w w' :=
  l10Drop_any a m ts B e w (by omega) (by omega) (by rw [hr]; omega) (by rw [hd]; omega) ⟨by omega, by omega⟩ hv ho

theorem imWrite_in {m : Img} {g c : Nat} {v : Int} (hg : g < m.table.length) (hc : m.table[g] = (c : Int) + 2) (hr : c < m.refs.length) (h1 : m.refs[c] = 1) : imWrite m g v = ({ m with data := m.data.set c v }, 0) := by
  have e : m.table.getD g 0 = (c : Int) + 2 := by simp [List.getD, hg, hc]
  have e2 : ((c : Int) + 2 - 2).toNat = c := by omega
  have e3 : m.refs.getD c 0 = 1 := by simp [List.getD, hr, h1]
  unfold imWrite
  simp only [e, e2, e3]
  rw [if_pos ⟨by omega, trivial⟩]
theorem imWrite_out {m : Img} {g : Nat} {v : Int} (hg : g < m.table.length) (hn : ¬ (2 ≤ m.table[g] ∧ m.refs.getD (m.table[g] - 2).toNat 0 = 1)) : imWrite m g v = if frN m.refs < m.refs.length then ({ imDrop m m.table[g] with refs := (imDrop m m.table[g]).refs.set (frN m.refs) 1, data := (imDrop m m.table[g]).data.set (frN m.refs) v, table := (imDrop m m.table[g]).table.set g (2 + (frN m.refs : Int)) }, 0) else (m, 7) := by
  have e : m.table.getD g 0 = m.table[g] := by simp [List.getD, hg]
  unfold imWrite
  simp only [e]
  rw [if_neg hn]

set_option maxHeartbeats 1600000 in
theorem l10Write_R (a : Im4) (m : Img) (g : Nat) (v : Int) (R : Img × Int) (w : World) (hR : R = imWrite m g v) (hM : ImM m) (hg : g < m.table.length) (hc : ImS w a m) :
    Calls Tryz.prog 110 #[imV a m, .int .i64 g, .int .i64 v] w fun e w' => ∃ a' ts, e = .returned (.tuple #[imV a' R.1, .int .i64 R.2]) ∧ OwnIm w' w.heap.size a' R.1 ts ∧ Below w.heap.size w w' := by
  have HA := hide (Joins.below_alloc2 w (.cells #[.slice a.ro m.refs.length a.rc, .slice a.tq m.table.length a.tc, .slice a.so m.snaps.length a.sc, .slice a.dq m.data.length a.dc] 32) (.cells #[.slice none 0 0, .slice none 0 0, .slice none 0 0, .slice none 0 0] 32))
  have HC := hide (hc.below (unhide HA))
  have HV := hide ((VarM.new w 32 (.slice a.ro m.refs.length a.rc) (.slice a.tq m.table.length a.tc) (.slice a.so m.snaps.length a.sc) (.slice a.dq m.data.length a.dc)).below (Joins.below_alloc1 _ (.cells #[.slice none 0 0, .slice none 0 0, .slice none 0 0, .slice none 0 0] 32)))
  have HR := hide ((VarM.new (w.alloc (.cells #[.slice a.ro m.refs.length a.rc, .slice a.tq m.table.length a.tc, .slice a.so m.snaps.length a.sc, .slice a.dq m.data.length a.dc] 32)) 32 (.slice none 0 0) (.slice none 0 0) (.slice none 0 0) (.slice none 0 0)).at (y := w.heap.size + 1) (by simp))
  have HM := hide hM
  have hgi : (g : Int) < (m.table.length : Int) := by omega
  have HT12 := hide hM.t
  have HWI : Hid (∀ c (hr : c < m.refs.length), m.table[g] = (c : Int) + 2 → m.refs[c] = 1 → R = ({ m with data := m.data.set c v }, 0)) := hide (fun c hr e h1 => hR.trans (imWrite_in hg e hr h1))
  have HWO := hide (fun hin => hR.trans (imWrite_out (v := v) hg hin))
  clear hc hM hR
  go_enter Tryz.func110, Tryz.ntmps110
  go_upto_region 1 with fail
  revert HA HC HV HR
  generalize ((w.alloc _).alloc _) = W0
  intro HA HC HV HR
  obtain ⟨c0, c1, c2, c3⟩ := (unhide HV).cells
  go_wp2_with fail
  refine (l10Own_M a m _ (unhide HM) (unhide HC)).mono ?_
  rintro e w1 ⟨b, ts, rfl, ho, hb⟩
  have HQ := hide (ImQ.put (w := w) ((unhide HV).below hb) ((unhide HR).below hb) ho (fr (unhide HA) hb) (by have := (unhide HR).lt; omega) (m0 := m) rfl rfl rfl rfl)
  unfold putI at HQ
  obtain ⟨x0, x1, x2, x3⟩ := ((unhide HV).below hb).cells
  obtain ⟨z0, z1, z2, z3⟩ := ((unhide HV).below hb).free
  clear c0 c1 c2 c3 ho hb HV HR HC HA
  go_upto_region 2 with fail
  clear x0 x1 x2 x3 z0 z1 z2 z3
  revert HQ
  generalize (((w1.setCell _ _).setCell _ _).setCell _ _).setCell _ _ = W1
  intro HQ
  obtain ⟨c0, c1, c2, c3⟩ := (unhide HQ).v.cells
  obtain ⟨gt, et, hct, hft, hst⟩ := (unhide HQ).setT hg
  rw [et] at c1
  have ET := hide et
  clear et hst
  obtain ⟨t0, t1⟩ := (unhide HM).tv g hg
  have HTG : Hid (∃ T, T = m.table[g]) := hide ⟨_, rfl⟩
  by_cases hin : 2 ≤ m.table[g] ∧ m.refs.getD (m.table[g] - 2).toNat 0 = 1
  · obtain ⟨c, hcc⟩ : ∃ c : Nat, m.table[g] = (c : Int) + 2 := ⟨(m.table[g] - 2).toNat, by omega⟩
    have hcr : c < m.refs.length := by rw [(unhide HM).r]; omega
    have hcd : c < m.data.length := by rw [(unhide HM).d]; omega
    have hcri : (c : Int) < (m.refs.length : Int) := by omega
    have hcdi : (c : Int) < (m.data.length : Int) := by omega
    have h1 : m.refs[c] = 1 := by
      have := hin.2
      rw [hcc, show ((c : Int) + 2 - 2).toNat = c by omega] at this
      simpa [List.getD, hcr] using this
    have HWR := hide (unhide HWI c hcr hcc h1)
    obtain ⟨gr, er, hcr', hfr, _⟩ := (unhide HQ).setR hcr
    obtain ⟨gd, ed, hcd', hfd, hsd⟩ := (unhide HQ).setD hcd
    rw [h1] at hcr'
    rw [hcc] at hct
    rw [er] at c0
    rw [ed] at c3
    have HQ2 := hide (hsd v)
    have hcb : (c : Int) ≤ 23 := by omega
    have hwc : IntKind.i64.wrap (c : Int) = (c : Int) := by rw [IntKind.wrap_i64]; omega
    have hge : (2 : Int) ≤ (c : Int) + 2 := by omega
    clear hin hcc h1 er ed hsd c2 t0 t1
    go_upto_region 5 with fail
    revert HQ2
    generalize (W1.setCell _ _) = W2
    intro HQ2
    clear c0 c1 c3 hct hft hcr' hfr hcd' hfd
    have HF := hide (unhide HQ2).fin
    obtain ⟨c0, c1, c2, c3⟩ := (unhide HQ2).v.cells
    obtain ⟨r0, r1, r2, r3⟩ := (unhide HQ2).r.cells
    obtain ⟨z0, z1, z2, z3⟩ := (unhide HQ2).r.free
    go_wp2
    refine bodyPost_ret (res_ic Tryz.results110 rfl rfl (unhide HF).1) rfl ?_
    rw [unhide HWR]
    first | exact ⟨b, ts, ret_mi (unhide HQ2).val rfl, (unhide HF).2.1, (unhide HF).2.2⟩ | exact ⟨b, ret_mi (unhide HQ2).val rfl, ⟨ts, (unhide HF).2.1⟩, (unhide HF).2.2⟩
  · have HWR := hide (unhide HWO hin)
    have HRI := hide (ownRN ((unhide HQ).o.rows.own (.slice b.ro m.refs.length b.rc, m.refs) (by simp [imRows])).row)
    have HRM := hide (unhide HM).L.r
    have HTV : Hid (0 ≤ m.table[g] ∧ m.table[g] ≤ 25) := hide ⟨t0, t1⟩
    by_cases hge : 2 ≤ m.table[g]
    obtain ⟨c, hcc⟩ : ∃ c : Nat, m.table[g] = (c : Int) + 2 := ⟨(m.table[g] - 2).toNat, by omega⟩
    have hcr : c < m.refs.length := by rw [(unhide HM).r]; omega
    have hcri : (c : Int) < (m.refs.length : Int) := by omega
    have be : (m.refs[c] == 1) = false := by
      rw [beq_eq_false_iff_ne]
      intro h1
      refine hin ⟨hge, ?_⟩
      rw [hcc, show ((c : Int) + 2 - 2).toNat = c by omega]
      simpa [List.getD, hcr] using h1
    obtain ⟨gr, er, hcr', hfr, _⟩ := (unhide HQ).setR hcr
    have HCC := hide hcc
    rw [hcc] at hct
    rw [er] at c0
    have hcb : (c : Int) ≤ 23 := by omega
    have hwc : IntKind.i64.wrap (c : Int) = (c : Int) := by rw [IntKind.wrap_i64]; omega
    have hge' : (2 : Int) ≤ (c : Int) + 2 := by omega
    clear hin er t0 t1 hge hcc
    generalize m.refs[c] = R at *
    go_upto_region 6 with fail
    rw [← unhide HCC]
    clear c0 c1 c2 c3 hct hft hcr' hfr be hcb hwc hge' hcri hcr HCC
    rotate_left
    generalize hTT : m.table[g] = T at *
    have HTT := hide hTT
    clear hTT
    go_upto_region 6 with fail
    rw [← unhide HTT]
    rw [← unhide HTT] at HTV HWR
    clear c0 c1 c2 c3 hct hft HTT hge
    all_goals
      obtain ⟨c0, c1, c2, c3⟩ := (unhide HQ).v.cells
      by_cases hf : frN m.refs < m.refs.length
      · have HFR : Hid (frI m.refs = (frN m.refs : Int)) := hide (if_pos hf)
        rw [if_pos hf] at HWR
        have HF24 : Hid (frN m.refs < 24) := hide (by have := (unhide HM).r; omega)
        generalize frN m.refs = q at *
        have hq24 := unhide HF24
        go_wp2_with (first | (go_at_call 144; refine (l08Free_any b.ro b.rc m.refs _ (unhide HRM) (unhide HRI)).mono ?_; rintro e w' ⟨rfl, hw⟩; replace hw := hw.symm; subst hw; rw [unhide HFR]) | fail)
        refine (l10Drop_M b m ts _ m.table[g] _ (unhide HTV).1 (unhide HTV).2 (unhide HM).r (unhide HM).d (fun c h => by have := (unhide HM).rv c h; omega) (unhide HQ).o).mono ?_
        rintro e w3 ⟨rfl, ho3, hk3⟩
        have HQ3 := hide ((unhide HQ).turn hk3 ho3 (imDrop_lens _ _).1 (imDrop_lens _ _).2.1 (imDrop_lens _ _).2.2.1 (imDrop_lens _ _).2.2.2)
        have HD24 : Hid ((imDrop m m.table[g]).refs.length = 24 ∧ (imDrop m m.table[g]).data.length = 24 ∧ g < (imDrop m m.table[g]).table.length) := hide ⟨(imDrop_lens _ _).1.trans (unhide HM).r, (imDrop_lens _ _).2.2.2.trans (unhide HM).d, by rw [(imDrop_lens _ _).2.1]; exact hg⟩
        clear ho3 hk3 c0 c1 c2 c3 HRI
        generalize imDrop m m.table[g] = D at *
        have HQ4 := hide (unhide HQ3).again
        unfold putI at HQ4
        obtain ⟨c0, c1, c2, c3⟩ := (unhide HQ3).v.cells
        obtain ⟨z0, z1, z2, z3⟩ := (unhide HQ3).v.free
        have HR24 := hide (unhide HM).r
        have HD24' := hide (unhide HM).d
        go_upto_region 10 with fail
        clear c0 c1 c2 c3 z0 z1 z2 z3
        revert HQ4
        generalize (((w3.setCell _ _).setCell _ _).setCell _ _).setCell _ _ = W4
        intro HQ4
        obtain ⟨c0, c1, c2, c3⟩ := (unhide HQ4).v.cells
        have hqr : (q : Int) < (m.refs.length : Int) := by have := unhide HR24; omega
        have hqd : (q : Int) < (m.data.length : Int) := by have := unhide HD24'; omega
        obtain ⟨g1, e1, hc1, hf1, hs1⟩ := (unhide HQ4).setR (c := q) (by rw [(unhide HD24).1]; omega)
        have HQ5 := hide (hs1 1)
        rw [e1] at c0
        clear e1 hs1
        go_upto_region 11 with fail
        clear c0 c1 c2 c3 hc1 hf1
        revert HQ5
        generalize (W4.setCell _ _) = W5
        intro HQ5
        obtain ⟨c0, c1, c2, c3⟩ := (unhide HQ5).v.cells
        obtain ⟨g2, e2, hc2, hf2, hs2⟩ := (unhide HQ5).setD (c := q) (by show q < D.data.length; rw [(unhide HD24).2.1]; omega)
        have HQ6 := hide (hs2 v)
        rw [e2] at c3
        clear e2 hs2
        go_upto_region 12 with fail
        clear c0 c1 c2 c3 hc2 hf2
        revert HQ6
        generalize (W5.setCell _ _) = W6
        intro HQ6
        obtain ⟨c0, c1, c2, c3⟩ := (unhide HQ6).v.cells
        obtain ⟨g3, e3, hc3, hf3, hs3⟩ := (unhide HQ6).setT (c := g) (unhide HD24).2.2
        have HQ7 := hide (hs3 (2 + (q : Int)))
        rw [e3] at c1
        have hw9 : IntKind.i64.wrap (2 + (q : Int)) = 2 + (q : Int) := by rw [IntKind.wrap_i64]; omega
        clear e3 hs3
        go_upto_region 13 with fail
        clear c0 c1 c2 c3 hc3 hf3
        revert HQ7
        generalize (W6.setCell _ _) = W7
        intro HQ7
        have HF := hide (unhide HQ7).fin
        obtain ⟨c0, c1, c2, c3⟩ := (unhide HQ7).v.cells
        obtain ⟨r0, r1, r2, r3⟩ := (unhide HQ7).r.cells
        obtain ⟨z0, z1, z2, z3⟩ := (unhide HQ7).r.free
        go_wp2
        refine bodyPost_ret (res_ic Tryz.results110 rfl rfl (unhide HF).1) rfl ?_
        rw [unhide HWR]
        first | exact ⟨b, ts, ret_mi (unhide HQ7).val rfl, (unhide HF).2.1, (unhide HF).2.2⟩ | exact ⟨b, ret_mi (unhide HQ7).val rfl, ⟨ts, (unhide HF).2.1⟩, (unhide HF).2.2⟩
      · have HFR : Hid (frI m.refs = -1) := hide (if_neg hf)
        rw [if_neg hf] at HWR
        have HF := hide (unhide HQ).fin
        obtain ⟨r0, r1, r2, r3⟩ := (unhide HQ).r.cells
        obtain ⟨z0, z1, z2, z3⟩ := (unhide HQ).r.free
        go_wp2_with (go_at_call 144; refine (l08Free_any b.ro b.rc m.refs _ (unhide HRM) (unhide HRI)).mono ?_; rintro e w' ⟨rfl, hw⟩; replace hw := hw.symm; subst hw; rw [unhide HFR])
        refine bodyPost_ret (res_ic Tryz.results110 rfl rfl (unhide HF).1) rfl ?_
        rw [unhide HWR]
        first | exact ⟨b, ts, rfl, (unhide HF).2.1, (unhide HF).2.2⟩ | exact ⟨b, rfl, ⟨ts, (unhide HF).2.1⟩, (unhide HF).2.2⟩

end Go.Proofs.YtpdpnepnfhbonaaGreat

namespace Go.Proofs.YtpdpnepnfhbonaaGreat
open Go.RowKit
set_option linter.unusedVariables false
set_option maxRecDepth 100000

structure ImBd (m : Img) : Prop where
  r : m.refs.length ≤ 1048576
  t : m.table.length ≤ 1048576
  s : m.snaps.length ≤ 1048576
  d : m.data.length ≤ 1048576
  st : ∀ s ∈ m.snaps, s.table.length ≤ 1048576 ∧ s.name.size ≤ 1048576
  k : snK m.snaps ≤ 4194304
theorem snK_sz (ss : List Snp) : snK ss ≤ ss.length + snSz ss := by
  induction ss with
  | nil => exact Nat.le_refl _
  | cons s ss ih =>
    simp only [snK, snSz, List.map_cons, List.sum_cons, List.length_cons] at ih ⊢
    have e : sn1 s = s.name.size + s.table.length := rfl
    omega
theorem ImBd.of {m : Img} (h : imSz m ≤ 1048576) : ImBd m := by
  unfold imSz at h
  refine ⟨by omega, by omega, by omega, by omega, fun s hs => ?_, ?_⟩
  · obtain ⟨i, hi, rfl⟩ := List.mem_iff_getElem.1 hs
    have := sn_le hi
    unfold sn1 at this
    omega
  · have := snK_sz m.snaps
    omega
theorem ImBd.zs {m : Img} (h : ImBd m) : ∀ s ∈ m.snaps, s.name.size ≤ maxLen ∧ s.table.length ≤ maxLen := fun s hs => by have := h.st s hs; unfold maxLen; omega
theorem ImBd.zero : ImBd im0 := ⟨by simp [im0], by simp [im0], by simp [im0], by simp [im0], fun s hs => by simp [im0] at hs, by simp [im0, snK]⟩
structure LwV (W : World) (p n : Nat) (a : Im4) (m : Img) (ts : List Value) : Prop where
  v : VarM W p 32 (.slice a.ro m.refs.length a.rc) (.slice a.tq m.table.length a.tc) (.slice a.so m.snaps.length a.sc) (.slice a.dq m.data.length a.dc)
  o : OwnIm W n a m ts
  n : n ≤ W.heap.size
theorem LwV.new (W : World) (a : Im4) (m : Img) {n : Nat} {ts : List Value} (h : OwnIm W n a m ts) (hn : n ≤ W.heap.size) : LwV (W.alloc (.cells #[.slice a.ro m.refs.length a.rc, .slice a.tq m.table.length a.tc, .slice a.so m.snaps.length a.sc, .slice a.dq m.data.length a.dc] 32)) W.heap.size n a m ts :=
  ⟨VarM.new W _ _ _ _ _, h.below (Joins.below_alloc1 _ _), by simp; omega⟩
theorem LwV.below {W W' : World} {p n : Nat} {a : Im4} {m : Img} {ts : List Value} (h : LwV W p n a m ts) (hb : Below W.heap.size W W') : LwV W' p n a m ts := ⟨h.v.below hb, h.o.below hb, Nat.le_trans h.n hb.size⟩
theorem toImage_B (a : Im4) (m : Img) (w : World) (h : ImBd m) (hc : ImS w a m) :
    Calls Tryz.prog 8 #[imV a m] w fun e w' => ∃ a' ts, e = .returned (imV a' m) ∧ OwnIm w' w.heap.size a' m ts ∧ Below w.heap.size w w' :=
  toImage_any a m w h.r h.t h.s h.d (fun s hs => (h.st s hs).1) hc
theorem eqImage_B (a b : Im4) (m : Img) (w : World) (h : ImBd m) (h1 : ImS w a m) (h2 : ImS w b m) :
    Calls Tryz.prog 11 #[imV a m, imV b m] w fun e w' => e = .returned (.bool true) ∧ Below w.heap.size w w' :=
  eqImage_same a b m w (by have := h.r; unfold maxLen; omega) (by have := h.t; unfold maxLen; omega) (by have := h.s; unfold maxLen; omega) (by have := h.d; unfold maxLen; omega) h1 h2
theorem markImage_B (a : Im4) (m : Img) (ts : List Value) (B : Nat) (w : World) (h : ImBd m) (ho : OwnIm w B a m ts) :
    Calls Tryz.prog 12 #[imV a m, .int .i64 1] w fun e w' => e = .returned (.int .i64 ((1 + imK m : Nat) : Int)) ∧ OwnIm w' B a (mkIm 1 m) ts ∧ Keep (ImB a m ts) w w' :=
  markImage_any a m ts 1 B w h.r h.t h.s h.d (fun s hs => (h.st s hs).1) h.k (by omega) (by omega) ho
theorem heldImage_B (a : Im4) (m : Img) (ts : List Value) (B : Nat) (w : World) (h : ImBd m) (ho : OwnIm w B a (mkIm 1 m) ts) :
    Calls Tryz.prog 23 #[imV a m, .int .i64 1] w fun e w' => e = .returned (.int .i64 ((1 + imK m : Nat) : Int)) ∧ Below w.heap.size w w' :=
  heldImage_any a m ts 1 B w h.r h.t h.s h.d (fun s hs => (h.st s hs).1) h.k (by omega) (by omega) ho

end Go.Proofs.YtpdpnepnfhbonaaGreat

namespace Go.Proofs.YtpdpnepnfhbonaaGreat
open Go.RowKit
set_option linter.unusedVariables false

section
variable {P : Program} {ops : Array Oper}
end

end Go.Proofs.YtpdpnepnfhbonaaGreat

namespace Go.Proofs.YtpdpnepnfhbonaaGreat
open Go.RowKit
set_option linter.unusedVariables false
set_option maxRecDepth 100000

def rcA (m : Img) (g : Int) : Int × Int := if imB m = true then (if betw g 0 ((m.table.length : Int) - 1) = true then (imVal m (m.table.getD g.toNat 0), 0) else (0, 4)) else (0, 1)
def wcA (m : Img) (g v : Int) : Img × Int := if imB m = true then (if betw g 0 ((m.table.length : Int) - 1) = true ∧ numB v = true then imWrite m g.toNat v else (m, 4)) else (im0, 1)
def zcA (m : Img) (g : Int) : Img × Int := if imB m = true then (if betw g 0 ((m.table.length : Int) - 1) = true then (imZero m g.toNat, 0) else (m, 4)) else (im0, 1)
def rsA' (m : Img) (n : Int) : Img × Int := if imB m = true then (if betw n 0 12 = true then (imResize m n.toNat, 0) else (m, 4)) else (im0, 1)
structure ImE (w W : World) (a : Im4) (m : Img) : Prop where
  v : VarM W w.heap.size 32 (.slice a.ro m.refs.length a.rc) (.slice a.tq m.table.length a.tc) (.slice a.so m.snaps.length a.sc) (.slice a.dq m.data.length a.dc)
  r : VarM W (w.heap.size + 1) 32 (.slice none 0 0) (.slice none 0 0) (.slice none 0 0) (.slice none 0 0)
  s : ImS W a m
  b : Below w.heap.size w W
theorem ImE.new (w : World) (a : Im4) (m : Img) (h : ImS w a m) : ImE w ((w.alloc (.cells #[.slice a.ro m.refs.length a.rc, .slice a.tq m.table.length a.tc, .slice a.so m.snaps.length a.sc, .slice a.dq m.data.length a.dc] 32)).alloc (.cells #[.slice none 0 0, .slice none 0 0, .slice none 0 0, .slice none 0 0] 32)) a m :=
  ⟨(VarM.new w _ _ _ _ _).below (Joins.below_alloc1 _ _), (VarM.new (w.alloc _) _ _ _ _ _).at (by simp), h.below (Joins.below_alloc2 _ _ _), Joins.below_alloc2 _ _ _⟩
theorem ImE.below {w W W' : World} {a : Im4} {m : Img} (h : ImE w W a m) (hb : Below W.heap.size W W') : ImE w W' a m := ⟨h.v.below hb, h.r.below hb, h.s.below hb, fr h.b hb⟩
theorem ImE.put {w W W' : World} {a : Im4} {m : Img} (h : ImE w W a m) (hb : Below W.heap.size W W') {a' : Im4} {m' : Img} {ts : List Value} (ho : OwnIm W' W.heap.size a' m' ts) :
    VarM (putI W' (w.heap.size + 1) a' m') (w.heap.size + 1) 32 (.slice a'.ro m'.refs.length a'.rc) (.slice a'.tq m'.table.length a'.tc) (.slice a'.so m'.snaps.length a'.sc) (.slice a'.dq m'.data.length a'.dc) ∧ OwnIm (putI W' (w.heap.size + 1) a' m') w.heap.size a' m' ts ∧ Below w.heap.size w (putI W' (w.heap.size + 1) a' m') := by
  obtain ⟨h1, h2, h3⟩ := ImSt.put (h.r.below hb) ho (fr h.b hb) (Nat.le_succ _) h.r.lt a' m'
  exact ⟨h1, h2.base h.b.size, h3⟩
theorem ImE.zero {w W : World} {a : Im4} {m : Img} (h : ImE w W a m) :
    VarM ((((W.setCell ⟨w.heap.size + 1, 0, none⟩ (.slice none 0 0)).setCell ⟨w.heap.size + 1, 1, none⟩ (.slice none 0 0)).setCell ⟨w.heap.size + 1, 2, none⟩ (.slice none 0 0)).setCell ⟨w.heap.size + 1, 3, none⟩ (.slice none 0 0)) (w.heap.size + 1) 32 (.slice none 0 0) (.slice none 0 0) (.slice none 0 0) (.slice none 0 0) ∧
    Below w.heap.size w ((((W.setCell ⟨w.heap.size + 1, 0, none⟩ (.slice none 0 0)).setCell ⟨w.heap.size + 1, 1, none⟩ (.slice none 0 0)).setCell ⟨w.heap.size + 1, 2, none⟩ (.slice none 0 0)).setCell ⟨w.heap.size + 1, 3, none⟩ (.slice none 0 0)) :=
  ⟨(((h.r.set0 _).set1 _).set2 _).set3 _, (((h.b.setCell (p := ⟨w.heap.size + 1, 0, none⟩) (Nat.le_succ _) _).setCell (p := ⟨w.heap.size + 1, 1, none⟩) (Nat.le_succ _) _).setCell (p := ⟨w.heap.size + 1, 2, none⟩) (Nat.le_succ _) _).setCell (p := ⟨w.heap.size + 1, 3, none⟩) (Nat.le_succ _) _⟩
def AnsI (w w' : World) (e : Ending) (R : Img × Int) : Prop := ∃ a ts, e = .returned (.tuple #[imV a R.1, .int .i64 R.2]) ∧ OwnIm w' w.heap.size a R.1 ts ∧ Below w.heap.size w w'
theorem AnsI.of {w w' : World} {v : Value} {c : Int} {R : Img × Int} {a : Im4} {ts : List Value} (hv : v = imV a R.1) (hc : c = R.2) (ho : OwnIm w' w.heap.size a R.1 ts) (hb : Below w.heap.size w w') : AnsI w w' (.returned (.tuple #[v, .int .i64 c])) R := ⟨a, ts, by rw [hv, hc], ho, hb⟩
theorem AnsI.bad {w w' : World} (c : Int) (hb : Below w.heap.size w w') : AnsI w w' (.returned (.tuple #[.agg #[.slice none 0 0, .slice none 0 0, .slice none 0 0, .slice none 0 0], .int .i64 c])) (im0, c) := ⟨⟨none, 0, none, 0, none, 0, none, 0⟩, [], rfl, OwnIm.zero _ _, hb⟩

set_option maxHeartbeats 1600000 in
theorem writeCluster_spec (a : Im4) (m : Img) (g v : Int) (w : World) (hL : ImL m) (hc : ImS w a m) :
    Calls Tryz.prog 73 #[imV a m, .int .i64 g, .int .i64 v] w fun e w' => AnsI w w' e (wcA m g v) := by
  have HE := hide (ImE.new w a m hc)
  have HL := hide hL
  have ht64 : m.table.length ≤ 9223372036854775807 := hL.t
  obtain ⟨R, HR⟩ : ∃ R, Hid (R = wcA m g v) := ⟨_, rfl⟩
  rw [← unhide HR]
  clear hc hL
  go_enter Tryz.func73, Tryz.ntmps73
  go_upto_region 1 with fail
  revert HE
  generalize ((w.alloc _).alloc _) = W0
  intro HE
  obtain ⟨c0, c1, c2, c3⟩ := (unhide HE).v.cells
  go_wp2_with fail
  refine (imageOK_spec a m _ (unhide HL) (unhide HE).s).mono ?_
  rintro e w1 ⟨rfl, hb⟩
  have HE1 := hide ((unhide HE).below hb)
  clear hb c0 c1 c2 c3 HE
  obtain ⟨c0, c1, c2, c3⟩ := (unhide HE1).v.cells
  obtain ⟨r0, r1, r2, r3⟩ := (unhide HE1).r.cells
  obtain ⟨z0, z1, z2, z3⟩ := (unhide HE1).r.free
  cases him : imB m
  · have HX : Hid (R = (im0, 1)) := hide (by rw [unhide HR, wcA, him]; rfl)
    have HZ := hide (unhide HE1).zero
    go_wp2
    refine bodyPost_ret (res_ic Tryz.results73 rfl rfl (unhide HZ).1) rfl ?_
    rw [unhide HX]
    exact AnsI.bad 1 (unhide HZ).2
  have HM := hide (imB_iff.1 him).M
  have hws : IntKind.i64.wrap ((m.table.length : Int) - 1) = (m.table.length : Int) - 1 := by rw [IntKind.wrap_i64]; omega
  by_cases hok : betw g 0 ((m.table.length : Int) - 1) = true ∧ numB v = true
  · have HX : Hid (R = imWrite m g.toNat v) := hide (by rw [unhide HR, wcA, if_pos him, if_pos hok])
    obtain ⟨hg, hn⟩ := hok
    obtain ⟨l0, l1⟩ := betw_iff.1 hg
    obtain ⟨q, rfl⟩ := Int.eq_ofNat_of_zero_le l0
    rw [Int.toNat_natCast] at HX
    have hq : q < m.table.length := by omega
    clear him l0 l1 HR
    go_wp2_with (first | (go_at_call 71; refine (in_any _ _ _ _).mono ?_; rintro e w' ⟨rfl, hw⟩; replace hw := hw.symm; subst hw; rw [hg]) | (go_at_call 94; refine (l02Int_any _ _).mono ?_; rintro e w' ⟨rfl, hw⟩; replace hw := hw.symm; subst hw; rw [hn]))
    refine (l10Write_R a m q v R _ (unhide HX) (unhide HM) hq (unhide HE1).s).mono ?_
    rintro e w2 ⟨b, ts, rfl, ho, hb⟩
    have HP := hide ((unhide HE1).put hb ho)
    have HE2 := hide ((unhide HE1).below hb)
    clear ho hb c0 c1 c2 c3 r0 r1 r2 r3 z0 z1 z2 z3 HX
    obtain ⟨r0, r1, r2, r3⟩ := (unhide HE2).r.cells
    obtain ⟨z0, z1, z2, z3⟩ := (unhide HE2).r.free
    go_wp2
    refine bodyPost_ret (res_ic Tryz.results73 rfl rfl (unhide HP).1) rfl ?_
    exact AnsI.of rfl rfl (unhide HP).2.1 (unhide HP).2.2
  · have HX : Hid (R = (m, 4)) := hide (by rw [unhide HR, wcA, if_pos him, if_neg hok])
    clear him HR
    cases hg : betw g 0 ((m.table.length : Int) - 1)
    · clear hok
      go_wp2_with (first | (go_at_call 71; refine (in_any _ _ _ _).mono ?_; rintro e w' ⟨rfl, hw⟩; replace hw := hw.symm; subst hw; rw [hg]) | fail)
      refine (l10Own_M a m _ (unhide HM) (unhide HE1).s).mono ?_
      rintro e w2 ⟨b, ts, rfl, ho, hb⟩
      have HP := hide ((unhide HE1).put hb ho)
      have HE2 := hide ((unhide HE1).below hb)
      clear ho hb c0 c1 c2 c3 r0 r1 r2 r3 z0 z1 z2 z3
      obtain ⟨r0, r1, r2, r3⟩ := (unhide HE2).r.cells
      obtain ⟨z0, z1, z2, z3⟩ := (unhide HE2).r.free
      go_wp2
      refine bodyPost_ret (res_ic Tryz.results73 rfl rfl (unhide HP).1) rfl ?_
      rw [unhide HX]
      exact AnsI.of (R := (m, 4)) rfl rfl (unhide HP).2.1 (unhide HP).2.2
    · have hn : numB v = false := by rw [hg] at hok; simpa using hok
      clear hok
      go_wp2_with (first | (go_at_call 71; refine (in_any _ _ _ _).mono ?_; rintro e w' ⟨rfl, hw⟩; replace hw := hw.symm; subst hw; rw [hg]) | (go_at_call 94; refine (l02Int_any _ _).mono ?_; rintro e w' ⟨rfl, hw⟩; replace hw := hw.symm; subst hw; rw [hn]))
      refine (l10Own_M a m _ (unhide HM) (unhide HE1).s).mono ?_
      rintro e w2 ⟨b, ts, rfl, ho, hb⟩
      have HP := hide ((unhide HE1).put hb ho)
      have HE2 := hide ((unhide HE1).below hb)
      clear ho hb c0 c1 c2 c3 r0 r1 r2 r3 z0 z1 z2 z3
      obtain ⟨r0, r1, r2, r3⟩ := (unhide HE2).r.cells
      obtain ⟨z0, z1, z2, z3⟩ := (unhide HE2).r.free
      go_wp2
      refine bodyPost_ret (res_ic Tryz.results73 rfl rfl (unhide HP).1) rfl ?_
      rw [unhide HX]
      exact AnsI.of (R := (m, 4)) rfl rfl (unhide HP).2.1 (unhide HP).2.2

end Go.Proofs.YtpdpnepnfhbonaaGreat

namespace Go.Proofs.YtpdpnepnfhbonaaGreat
open Go.RowKit
set_option linter.unusedVariables false
set_option maxRecDepth 100000

structure Rp where
  c : Int
  v : Int
  ns : List ByteArray
abbrev rpV (r : Rp) (no : Option Addr) (nc : Nat) : Value := .agg #[.int .i64 r.c, .int .i64 r.v, .slice no r.ns.length nc]
def VarY (w : World) (x : Nat) (v0 v1 v2 : Value) : Prop := w.heap[x]? = some (.cells #[v0, v1, v2] 46 (0, 0))
theorem VarY.lt {w : World} {x : Nat} {v0 v1 v2 : Value} (k : VarY w x v0 v1 v2) : x < w.heap.size := (Array.getElem?_eq_some_iff.1 k).1
theorem VarY.cells {w : World} {x : Nat} {v0 v1 v2 : Value} (k : VarY w x v0 v1 v2) : w.cell? ⟨x, 0, none⟩ = some v0 ∧ w.cell? ⟨x, 1, none⟩ = some v1 ∧ w.cell? ⟨x, 2, none⟩ = some v2 := ⟨by rw [Joins.cell_of_block k]; rfl, by rw [Joins.cell_of_block k]; rfl, by rw [Joins.cell_of_block k]; rfl⟩
theorem VarY.free {w : World} {x : Nat} {v0 v1 v2 : Value} (k : VarY w x v0 v1 v2) : w.frozen? ⟨x, 0, none⟩ = false ∧ w.frozen? ⟨x, 1, none⟩ = false ∧ w.frozen? ⟨x, 2, none⟩ = false := ⟨Joins.unfrozen_of_block k 0, Joins.unfrozen_of_block k 1, Joins.unfrozen_of_block k 2⟩
theorem VarY.below {w w' : World} {x : Nat} {v0 v1 v2 : Value} (k : VarY w x v0 v1 v2) (hb : Below w.heap.size w w') : VarY w' x v0 v1 v2 := by
  unfold VarY; rw [hb.block x k.lt]; exact k
theorem VarY.new (w : World) (v0 v1 v2 : Value) : VarY (w.alloc (.cells #[v0, v1, v2] 46)) w.heap.size v0 v1 v2 := heap_alloc_new w _
theorem VarY.other {w : World} {x : Nat} {v0 v1 v2 : Value} (h : VarY w x v0 v1 v2) {p : Addr} (hp : x ≠ p.block) (u : Value) : VarY (w.setCell p u) x v0 v1 v2 := by
  unfold VarY; rw [Below.heap_setCell w p u x hp]; exact h
theorem VarY.set0 {w : World} {x : Nat} {v0 v1 v2 : Value} (h : VarY w x v0 v1 v2) (u : Value) : VarY (w.setCell ⟨x, 0, none⟩ u) x u v1 v2 := Joins.block_setCell (i := 0) h u
theorem VarY.set1 {w : World} {x : Nat} {v0 v1 v2 : Value} (h : VarY w x v0 v1 v2) (u : Value) : VarY (w.setCell ⟨x, 1, none⟩ u) x v0 u v2 := Joins.block_setCell (i := 1) h u
theorem VarY.set2 {w : World} {x : Nat} {v0 v1 v2 : Value} (h : VarY w x v0 v1 v2) (u : Value) : VarY (w.setCell ⟨x, 2, none⟩ u) x v0 v1 u := Joins.block_setCell (i := 2) h u
theorem VarY.at {w : World} {x y : Nat} {v0 v1 v2 : Value} (h : VarY w x v0 v1 v2) (e : x = y) : VarY w y v0 v1 v2 := e ▸ h
abbrev putY (W : World) (x : Nat) (v0 v1 v2 : Value) : World := ((W.setCell ⟨x, 0, none⟩ v0).setCell ⟨x, 1, none⟩ v1).setCell ⟨x, 2, none⟩ v2
abbrev OwnNs (w : World) (B : Nat) (no : Option Addr) (nc : Nat) (ns : List ByteArray) : Prop := OwnR w B 9 1 (.slice no ns.length nc) ns.length (strV ns)
def AnsD (w w' : World) (e : Ending) (M : Img) (r : Rp) : Prop := ∃ a ts no nc, e = .returned (.tuple #[imV a M, rpV r no nc]) ∧ OwnIm w' w.heap.size a M ts ∧ OwnNs w' w.heap.size no nc r.ns ∧ Below w.heap.size w w'
def AnsQ (w w' : World) (e : Ending) (R : Img × Rp × Int) : Prop := ∃ a ts no nc, e = .returned (.tuple #[imV a R.1, rpV R.2.1 no nc, .int .i64 R.2.2]) ∧ OwnIm w' w.heap.size a R.1 ts ∧ OwnNs w' w.heap.size no nc R.2.1.ns ∧ Below w.heap.size w w'
theorem OwnNs.none (w : World) (B : Nat) (no : Option Addr) : OwnNs w B no 0 [] := .inl ⟨rfl, rfl, _, rfl⟩
structure DoR (w W : World) (x : Nat) : Prop where
  r : VarM W x 32 (.slice none 0 0) (.slice none 0 0) (.slice none 0 0) (.slice none 0 0)
  p : VarY W (x + 1) (.int .i64 0) (.int .i64 0) (.slice none 0 0)
  b : Below w.heap.size w W
  x0 : w.heap.size ≤ x
theorem DoR.below {w W W' : World} {x : Nat} (h : DoR w W x) (hb : Below W.heap.size W W') : DoR w W' x := ⟨h.r.below hb, h.p.below hb, fr h.b hb, h.x0⟩
abbrev putD (W : World) (x : Nat) (a : Im4) (M : Img) (v0 v1 v2 : Value) : World := putY (putI W x a M) (x + 1) v0 v1 v2
theorem DoR.put {w W : World} {x B : Nat} {a : Im4} {M : Img} {ts : List Value} {no : Option Addr} {nc : Nat} {ns : List ByteArray} (h : DoR w W x) (ho : OwnIm W B a M ts) (hn : OwnNs W B no nc ns) (hB : x + 2 ≤ B) (v0 v1 v2 : Value) :
    VarM (putD W x a M v0 v1 v2) x 32 (.slice a.ro M.refs.length a.rc) (.slice a.tq M.table.length a.tc) (.slice a.so M.snaps.length a.sc) (.slice a.dq M.data.length a.dc) ∧ VarY (putD W x a M v0 v1 v2) (x + 1) v0 v1 v2 ∧ OwnIm (putD W x a M v0 v1 v2) B a M ts ∧ OwnNs (putD W x a M v0 v1 v2) B no nc ns ∧ Below w.heap.size w (putD W x a M v0 v1 v2) := by
  obtain ⟨h1, h2, h3⟩ := ImSt.put h.r ho h.b h.x0 (by omega) a M
  have hp : VarY (putI W x a M) (x + 1) (.int .i64 0) (.int .i64 0) (.slice none 0 0) := (((h.p.other (p := ⟨x, 0, none⟩) (by simp) _).other (p := ⟨x, 1, none⟩) (by simp) _).other (p := ⟨x, 2, none⟩) (by simp) _).other (p := ⟨x, 3, none⟩) (by simp) _
  have hn1 : OwnNs (putI W x a M) B no nc ns := (((OwnR.setCell hn (a := ⟨x, 0, none⟩) (by show x < B; omega) _).setCell (a := ⟨x, 1, none⟩) (by show x < B; omega) _).setCell (a := ⟨x, 2, none⟩) (by show x < B; omega) _).setCell (a := ⟨x, 3, none⟩) (by show x < B; omega) _
  have hx := h.x0
  refine ⟨((h1.other (p := ⟨x + 1, 0, none⟩) (by simp) _).other (p := ⟨x + 1, 1, none⟩) (by simp) _).other (p := ⟨x + 1, 2, none⟩) (by simp) _, ((hp.set0 _).set1 _).set2 _, ((h2.setCell (p := ⟨x + 1, 0, none⟩) (by show x + 1 < B; omega) _).setCell (p := ⟨x + 1, 1, none⟩) (by show x + 1 < B; omega) _).setCell (p := ⟨x + 1, 2, none⟩) (by show x + 1 < B; omega) _, ((hn1.setCell (a := ⟨x + 1, 0, none⟩) (by show x + 1 < B; omega) _).setCell (a := ⟨x + 1, 1, none⟩) (by show x + 1 < B; omega) _).setCell (a := ⟨x + 1, 2, none⟩) (by show x + 1 < B; omega) _, ((h3.setCell (p := ⟨x + 1, 0, none⟩) (by show w.heap.size ≤ x + 1; omega) _).setCell (p := ⟨x + 1, 1, none⟩) (by show w.heap.size ≤ x + 1; omega) _).setCell (p := ⟨x + 1, 2, none⟩) (by show w.heap.size ≤ x + 1; omega) _⟩
theorem res_ir {fn : Func} {p u : Tmp} {v0 v1 v2 v3 u0 u1 u2 : Value} {x y : Nat} {W : World} {tmps : Array Value} (h : fn.results = #[.cell p 32, .cell u 46]) (hp : tmps.getD p undef = .pointer (some ⟨x, 0, none⟩)) (hu : tmps.getD u undef = .pointer (some ⟨y, 0, none⟩)) (hv : W.heap[x]? = some (.cells #[v0, v1, v2, v3] 32 (0, 0))) (hy : VarY W y u0 u1 u2) :
    (results fn tmps).run Tryz.prog W = .ok (.tuple #[.agg #[v0, v1, v2, v3], .agg #[u0, u1, u2]]) W := by
  obtain ⟨c0, c1, c2, c3⟩ := VarM.cells (t := 32) hv
  obtain ⟨d0, d1, d2⟩ := hy.cells
  rw [Array.getD_eq_getD_getElem?] at hp hu
  simp [results, h, hp, hu, go_sem, c0, c1, c2, c3, d0, d1, d2]
theorem res_irc {fn : Func} {p u q : Tmp} {v0 v1 v2 v3 u0 u1 u2 z : Value} {x y : Nat} {W : World} {tmps : Array Value} (h : fn.results = #[.cell p 32, .cell u 46, .tmp q]) (hp : tmps.getD p undef = .pointer (some ⟨x, 0, none⟩)) (hu : tmps.getD u undef = .pointer (some ⟨y, 0, none⟩)) (hq : tmps.getD q undef = z) (hv : W.heap[x]? = some (.cells #[v0, v1, v2, v3] 32 (0, 0))) (hy : VarY W y u0 u1 u2) :
    (results fn tmps).run Tryz.prog W = .ok (.tuple #[.agg #[v0, v1, v2, v3], .agg #[u0, u1, u2], z]) W := by
  obtain ⟨c0, c1, c2, c3⟩ := VarM.cells (t := 32) hv
  obtain ⟨d0, d1, d2⟩ := hy.cells
  rw [Array.getD_eq_getD_getElem?] at hp hu hq
  simp [results, h, hp, hu, hq, go_sem, c0, c1, c2, c3, d0, d1, d2]

structure DoE (w W : World) (a : Im4) (m : Img) : Prop where
  v : VarM W w.heap.size 32 (.slice a.ro m.refs.length a.rc) (.slice a.tq m.table.length a.tc) (.slice a.so m.snaps.length a.sc) (.slice a.dq m.data.length a.dc)
  d : DoR w W (w.heap.size + 1)
  s : ImS W a m
theorem DoE.below {w W W' : World} {a : Im4} {m : Img} (h : DoE w W a m) (hb : Below W.heap.size W W') : DoE w W' a m := ⟨h.v.below hb, h.d.below hb, h.s.below hb⟩
theorem DoE.new (w : World) (a : Im4) (m : Img) (h : ImS w a m) : DoE w (((w.alloc (.cells #[.slice a.ro m.refs.length a.rc, .slice a.tq m.table.length a.tc, .slice a.so m.snaps.length a.sc, .slice a.dq m.data.length a.dc] 32)).alloc (.cells #[.slice none 0 0, .slice none 0 0, .slice none 0 0, .slice none 0 0] 32)).alloc (.cells #[.int .i64 0, .int .i64 0, .slice none 0 0] 46)) a m :=
  ⟨((VarM.new w _ _ _ _ _).below (Joins.below_alloc1 _ _)).below (Joins.below_alloc1 _ _), ⟨((VarM.new (w.alloc _) _ _ _ _ _).below (Joins.below_alloc1 _ _)).at (by simp), (VarY.new ((w.alloc _).alloc _) _ _ _).at (by simp), Joins.below_alloc3 _ _ _ _, by omega⟩, h.below (Joins.below_alloc3 _ _ _ _)⟩

set_option maxHeartbeats 1600000 in
theorem changedOrNot_any (a : Im4) (M : Img) (c : Int) (w : World) : Calls Tryz.prog 83 #[imV a M, .int .i64 c] w fun e w' => e = .returned (.tuple #[imV a M, rpV ⟨c, 0, []⟩ none 0]) ∧ Below w.heap.size w w' := by
  have HE0 : Hid (DoR w (((w.alloc (.cells #[.slice a.ro M.refs.length a.rc, .slice a.tq M.table.length a.tc, .slice a.so M.snaps.length a.sc, .slice a.dq M.data.length a.dc] 32)).alloc (.cells #[.slice none 0 0, .slice none 0 0, .slice none 0 0, .slice none 0 0] 32)).alloc (.cells #[.int .i64 0, .int .i64 0, .slice none 0 0] 46)) (w.heap.size + 1)) := hide ⟨((VarM.new (w.alloc _) _ _ _ _ _).below (Joins.below_alloc1 _ _)).at (by simp), (VarY.new ((w.alloc _).alloc _) _ _ _).at (by simp), Joins.below_alloc3 _ _ _ _, by omega⟩
  have HV0 : Hid (VarM (((w.alloc (.cells #[.slice a.ro M.refs.length a.rc, .slice a.tq M.table.length a.tc, .slice a.so M.snaps.length a.sc, .slice a.dq M.data.length a.dc] 32)).alloc (.cells #[.slice none 0 0, .slice none 0 0, .slice none 0 0, .slice none 0 0] 32)).alloc (.cells #[.int .i64 0, .int .i64 0, .slice none 0 0] 46)) w.heap.size 32 (.slice a.ro M.refs.length a.rc) (.slice a.tq M.table.length a.tc) (.slice a.so M.snaps.length a.sc) (.slice a.dq M.data.length a.dc)) := hide (((VarM.new w _ _ _ _ _).below (Joins.below_alloc1 _ _)).below (Joins.below_alloc1 _ _))
  go_enter Tryz.func83, Tryz.ntmps83
  go_upto_region 1 with fail
  revert HV0
  revert HE0
  generalize (((w.alloc _).alloc _).alloc _) = W0
  intro HE HV
  obtain ⟨c0, c1, c2, c3⟩ := (unhide HV).cells
  obtain ⟨r0, r1, r2, r3⟩ := (unhide HE).r.cells
  obtain ⟨z0, z1, z2, z3⟩ := (unhide HE).r.free
  obtain ⟨p0, p1, p2⟩ := (unhide HE).p.cells
  obtain ⟨f0, f1, f2⟩ := (unhide HE).p.free
  have hx := (unhide HE).x0
  have HP : Hid (VarM (putD W0 (w.heap.size + 1) a M (.int .i64 c) (.int .i64 0) (.slice none 0 0)) (w.heap.size + 1) 32 (.slice a.ro M.refs.length a.rc) (.slice a.tq M.table.length a.tc) (.slice a.so M.snaps.length a.sc) (.slice a.dq M.data.length a.dc) ∧ VarY (putD W0 (w.heap.size + 1) a M (.int .i64 c) (.int .i64 0) (.slice none 0 0)) (w.heap.size + 1 + 1) (.int .i64 c) (.int .i64 0) (.slice none 0 0) ∧ Below w.heap.size w (putD W0 (w.heap.size + 1) a M (.int .i64 c) (.int .i64 0) (.slice none 0 0))) := hide (by
    have hr := (((((unhide HE).r.set0 (.slice a.ro M.refs.length a.rc)).set1 (.slice a.tq M.table.length a.tc)).set2 (.slice a.so M.snaps.length a.sc)).set3 (.slice a.dq M.data.length a.dc))
    have hp : VarY (putI W0 (w.heap.size + 1) a M) (w.heap.size + 1 + 1) (.int .i64 0) (.int .i64 0) (.slice none 0 0) := ((((unhide HE).p.other (p := ⟨w.heap.size + 1, 0, none⟩) (by simp) _).other (p := ⟨w.heap.size + 1, 1, none⟩) (by simp) _).other (p := ⟨w.heap.size + 1, 2, none⟩) (by simp) _).other (p := ⟨w.heap.size + 1, 3, none⟩) (by simp) _
    exact ⟨((hr.other (p := ⟨w.heap.size + 1 + 1, 0, none⟩) (by simp) _).other (p := ⟨w.heap.size + 1 + 1, 1, none⟩) (by simp) _).other (p := ⟨w.heap.size + 1 + 1, 2, none⟩) (by simp) _, ((hp.set0 _).set1 _).set2 _, (((((((unhide HE).b.setCell (p := ⟨w.heap.size + 1, 0, none⟩) (by simp) _).setCell (p := ⟨w.heap.size + 1, 1, none⟩) (by simp) _).setCell (p := ⟨w.heap.size + 1, 2, none⟩) (by simp) _).setCell (p := ⟨w.heap.size + 1, 3, none⟩) (by simp) _).setCell (p := ⟨w.heap.size + 1 + 1, 0, none⟩) (by show w.heap.size ≤ w.heap.size + 1 + 1; omega) _).setCell (p := ⟨w.heap.size + 1 + 1, 1, none⟩) (by show w.heap.size ≤ w.heap.size + 1 + 1; omega) _).setCell (p := ⟨w.heap.size + 1 + 1, 2, none⟩) (by show w.heap.size ≤ w.heap.size + 1 + 1; omega) _⟩)
  unfold putD putY putI at HP
  go_wp2
  refine bodyPost_ret (res_ir Tryz.results83 rfl rfl (unhide HP).1 (unhide HP).2.1) rfl ?_
  exact ⟨rfl, (unhide HP).2.2⟩

end Go.Proofs.YtpdpnepnfhbonaaGreat
