import Derived.Test.YtjjkppknojecjaaGreatDoorRows
import Derived.Test.YtjjkppknojecjaaGreatDoorXWorldAgreesPart1
import Derived.Test.YtjjkppknojecjaaGreatDoorXWorldAgreesPart4
import Derived.Test.YtjjkppknojecjaaGreatDoorXWorldAgreesPart2
import Derived.Test.YtjjkppknojecjaaGreatDoorXWorldAgreesPart3
import Derived.Test.YtjjkppknojecjaaGreatDoorXWorldAgreesPart5
import Derived.Test.YtjjkppknojecjaaGreatDoorXWorldAgreesPart11
import Derived.Test.YtjjkppknojecjaaGreatDoorXWorldAgreesPart12
import Derived.Test.YtjjkppknojecjaaGreatDoorXWorldAgreesPart7
import Derived.WalkKit
import Derived.WalkSpells
import Derived.Laws.MakeOwn
import Derived.Laws.OwnMore
import Derived.Test.YtjjkppknojecjaaGreatDoorXWorldAgreesPart15
import Derived.KernelRfl
import Derived.LoopN
import Derived.Laws.BytesArg
import Derived.Sort.Grow
import Derived.Shelf.SlSortCmp.QuietGrown
import Derived.Deep.CutRange
import Derived.BigQuiet

namespace Go.Proofs.YtjjkppknojecjaaGreatDoor
open Go.RowKit
set_option linter.unusedVariables false
set_option maxRecDepth 100000

theorem sr_P {sec : Nat → ByteArray} (h : srP sec = false) : srB sec = false := by rw [srB, h]; rfl
theorem sr_sup {sec : Nat → ByteArray} (h : supB sec = false) : srB sec = false := sr_P (by rw [srP, h]; rfl)
theorem sr_cd {sec : Nat → ByteArray} (h : cdB (sec 10) = false) : srB sec = false := sr_P (by rw [srP, h]; simp)
theorem sr_td {sec : Nat → ByteArray} (h : tdB (sec 11) = false) : srB sec = false := sr_P (by rw [srP, h]; simp)
theorem sr_sn {sec : Nat → ByteArray} {k : Nat} (hk : k < srN sec) (h : snB1 sec k = false) : srB sec = false := sr_P (by
  have : (List.range (srN sec)).all (snB1 sec) = false := by
    rw [← Bool.not_eq_true, List.all_eq_true]
    intro h2
    have := h2 k (List.mem_range.2 hk)
    rw [h] at this; cases this
  rw [srP, this]; simp)
theorem sr_da {sec : Nat → ByteArray} {c : Nat} (hc : c < 24) (h : daB1 sec c = false) : srB sec = false := sr_P (by
  have : (List.range 24).all (daB1 sec) = false := by
    rw [← Bool.not_eq_true, List.all_eq_true]
    intro h2
    have := h2 c (List.mem_range.2 hc)
    rw [h] at this; cases this
  rw [srP, this]; simp)
theorem sr_fin {sec : Nat → ByteArray} (h1 : supB sec = true) (h2 : cdB (sec 10) = true) (h3 : tdB (sec 11) = true) (h4 : ∀ i, i < srN sec → snB1 sec i = true) (h5 : ∀ c, c < 24 → daB1 sec c = true) : srB sec = imB (srM sec) := by
  have e4 : (List.range (srN sec)).all (snB1 sec) = true := List.all_eq_true.2 (fun i hi => h4 i (List.mem_range.1 hi))
  have e5 : (List.range 24).all (daB1 sec) = true := List.all_eq_true.2 (fun c hc => h5 c (List.mem_range.1 hc))
  rw [srB, srP, h1, h2, h3, e4, e5]; rfl
theorem srSn_succ (sec : Nat → ByteArray) (k : Nat) : srSn sec (k + 1) = srSn sec k ++ [snR1 sec k] := by
  unfold srSn
  rw [List.range_succ, List.map_append]; rfl
def srD (sec : Nat → ByteArray) (k : Nat) : List Int := (List.range 24).map (fun c => if c < k then daR1 sec c else 0)
theorem srD_len (sec : Nat → ByteArray) (k : Nat) : (srD sec k).length = 24 := by simp [srD]
theorem srD_zero (sec : Nat → ByteArray) : srD sec 0 = List.replicate 24 0 := by
  unfold srD
  simp only [Nat.not_lt_zero, if_false]
  decide
theorem srD_set (sec : Nat → ByteArray) {c : Nat} (hc : c < 24) : (srD sec c).set c (daR1 sec c) = srD sec (c + 1) := by
  apply List.ext_getElem
  · simp [srD]
  · intro j h1 h2
    simp only [srD, List.getElem_set, List.getElem_map, List.getElem_range]
    by_cases e : c = j
    · subst e; simp
    · rw [if_neg e]
      by_cases h3 : j < c
      · rw [if_pos h3, if_pos (by omega)]
      · rw [if_neg h3, if_neg (by omega)]
theorem srD_skip (sec : Nat → ByteArray) {c : Nat} (h : (srR sec).getD c 0 = 0) : srD sec c = srD sec (c + 1) := by
  unfold srD
  apply List.map_congr_left
  intro j _
  by_cases h3 : j < c
  · rw [if_pos h3, if_pos (by omega)]
  · by_cases e : j = c
    · subst e; rw [if_neg h3, if_pos (by omega), daR1, if_pos h]
    · rw [if_neg h3, if_neg (by omega)]
theorem srD_all (sec : Nat → ByteArray) : srD sec 24 = (List.range 24).map (daR1 sec) := by
  unfold srD
  apply List.map_congr_left
  intro j hj
  rw [if_pos (List.mem_range.1 hj)]
theorem ltL_len : ∀ (f n : Nat), (ltL f n).length ≤ f
  | 0, _ => by simp [ltL]
  | f + 1, n => by
    rw [ltL]
    split
    · simp
    · have := ltL_len f (n / 27)
      simp only [List.length_append, List.length_singleton]; omega
theorem unT_short (x : Int) : (unT x).size ≤ 8 := by
  have := ltL_len 8 x.toNat
  show (ltL 8 x.toNat).toArray.size ≤ 8
  simpa using this
structure RdK (w W : World) (x : Nat) (da db : Value) (a : Im4) (M : Img) (ts : List Value) : Prop where
  k : Below w.heap.size w W
  d : VarD W w.heap.size da db
  r : VarM W (w.heap.size + 1) 61 (.slice none 0 0) (.slice none 0 0) (.slice none 0 0) (.slice none 0 0)
  v : VarM W x 61 (.slice a.ro M.refs.length a.rc) (.slice a.tq M.table.length a.tc) (.slice a.so M.snaps.length a.sc) (.slice a.dq M.data.length a.dc)
  o : OwnIm W w.heap.size a M ts
  hx : w.heap.size + 1 < x
  f : M.snaps.length = 0 → a.sc = 0
theorem RdK.below {w W W' : World} {x : Nat} {da db : Value} {a : Im4} {M : Img} {ts : List Value} (J : RdK w W x da db a M ts) (hb : Below W.heap.size W W') : RdK w W' x da db a M ts :=
  ⟨fr J.k hb, J.d.below hb, J.r.below hb, J.v.below hb, J.o.below hb, J.hx, J.f⟩
theorem own_setK {W : World} {B x : Nat} {a : Im4} {M : Img} {ts : List Value} {v0 v1 v2 v3 : Value} (h : OwnIm W B a M ts) (hv : VarM W x 61 v0 v1 v2 v3) (i : Nat) (u : Value) : OwnIm (W.setCell ⟨x, i, none⟩ u) B a M ts :=
  h.keep ((Keep.refl (fun g => g = x) W).setCell (p := ⟨x, i, none⟩) rfl u) (fun g hg e => h.other hv (e ▸ hg))
theorem row_setK {W : World} {B x : Nat} {v : Value} {xs : List Int} {v0 v1 v2 v3 : Value} (h : OwnN W B v xs) (hv : VarM W x 61 v0 v1 v2 v3) (i : Nat) (u : Value) : OwnN (W.setCell ⟨x, i, none⟩ u) B v xs :=
  h.keep ((Keep.refl (fun g => g = x) W).setCell (p := ⟨x, i, none⟩) rfl u) (fun g hg e => h.row.other hv (by decide) (e ▸ hg))
theorem RdK.addS {w W w3 w4 : World} {x g2 cap2 : Nat} {da db : Value} {a : Im4} {M : Img} {ts : List Value} {name : ByteArray} {t : Value} {tbl : List Int} {sv : Value} {SL : List Int} (J : RdK w W x da db a M ts) (hU : OwnN W w.heap.size sv SL) (hb : Below W.heap.size W w3) (ht : OwnN w3 W.heap.size t tbl)
    (ho : w4.ownsRow w.heap.size 96 2 (.slice (some ⟨g2, 0, none⟩) (M.snaps.length + 1) cap2) (M.snaps.length + 1) (snC M.snaps ts ++ [.string name, t])) (hk : Keep (Own (.slice a.so M.snaps.length a.sc)) w3 w4) :
    RdK w (w4.setCell ⟨x, 2, none⟩ (.slice (some ⟨g2, 0, none⟩) (M.snaps.length + 1) cap2)) x da db { a with so := some ⟨g2, 0, none⟩, sc := cap2 } { M with snaps := M.snaps ++ [⟨name, tbl⟩] } (ts ++ [t]) ∧ OwnN (w4.setCell ⟨x, 2, none⟩ (.slice (some ⟨g2, 0, none⟩) (M.snaps.length + 1) cap2)) w.heap.size sv SL ∧ VarM w4 x 61 (.slice a.ro M.refs.length a.rc) (.slice a.tq M.table.length a.tc) (.slice a.so M.snaps.length a.sc) (.slice a.dq M.data.length a.dc) := by
  have J3 := J.below hb
  have hv4 : VarM w4 x 61 (.slice a.ro M.refs.length a.rc) (.slice a.tq M.table.length a.tc) (.slice a.so M.snaps.length a.sc) (.slice a.dq M.data.length a.dc) := (hk.block _ J3.v.lt (J3.o.s.other J3.v (by decide))).trans J3.v
  have hr4 : VarM w4 (w.heap.size + 1) 61 (.slice none 0 0) (.slice none 0 0) (.slice none 0 0) (.slice none 0 0) := (hk.block _ J3.r.lt (J3.o.s.other J3.r (by decide))).trans J3.r
  have hc4 : VarD w4 w.heap.size da db := (hk.block _ J3.d.lt (J3.o.s.other J3.d (by decide))).trans J3.d
  have ho4 := OwnIm.addS J.o J.k.size hb ht ho hk
  have hu4 : OwnN w4 w.heap.size sv SL := (hU.below hb).keep hk (fun g hg hS => own_apartS (hU.below hb).row J3.o.s (by decide) g hg hS)
  have hb4 : Below w.heap.size w w4 := J3.k.trans (hk.below J3.k.size (fun g hg => (J3.o.s.ge g hg).1))
  have hx := J.hx
  refine ⟨⟨hb4.setCell (p := ⟨x, 2, none⟩) (show w.heap.size ≤ x by omega) _, hc4.setOther (p := ⟨x, 2, none⟩) (show x ≠ w.heap.size by omega) _, hr4.other (p := ⟨x, 2, none⟩) (show w.heap.size + 1 ≠ x by omega) _, ?_, own_setK ho4 hv4 2 _, J.hx, fun h => by simp at h⟩, row_setK hu4 hv4 2 _, hv4⟩
  simp only [List.length_append, List.length_singleton]
  exact hv4.set2 _
theorem RdK.setD {w W : World} {x c : Nat} {da db : Value} {a : Im4} {M : Img} {ts : List Value} (J : RdK w W x da db a M ts) (hc : c < M.data.length) : ∃ g, a.dq = some ⟨g, 0, none⟩ ∧ W.cell? ⟨g, c, none⟩ = some (.int .i64 M.data[c]) ∧ W.frozen? ⟨g, c, none⟩ = false ∧ ∀ W' n, Below W.heap.size W W' → RdK w (W'.setCell ⟨g, c, none⟩ (.int .i64 n)) x da db a { M with data := M.data.set c n } ts := by
  obtain ⟨g, e, h1, h2, h3, _⟩ := J.o.setD hc
  refine ⟨g, e, h1, h2, fun W' n hb => ?_⟩
  have J' := J.below hb
  obtain ⟨g', e', h1', h2', h3', h4'⟩ := J'.o.setD hc
  rw [e] at e'
  cases e'
  have hgv : x ≠ g := fun hh => J'.o.other J'.v (hh ▸ h3')
  have hgr : w.heap.size + 1 ≠ g := fun hh => J'.o.other J'.r (hh ▸ h3')
  have hgc : g ≠ w.heap.size := fun hh => by
    subst hh
    rcases h3' with q | q | q | q | ⟨t, ht, q⟩
    · exact (J'.o.rows.own (.slice a.ro M.refs.length a.rc, M.refs) (by simp [imRows])).row.other J'.d (by decide) q
    · exact (J'.o.rows.own (.slice a.tq M.table.length a.tc, M.table) (by simp [imRows])).row.other J'.d (by decide) q
    · exact (J'.o.rows.own (.slice a.dq M.data.length a.dc, M.data) (by simp [imRows])).row.other J'.d (by decide) q
    · exact J'.o.s.other J'.d (by decide) q
    · have hm : t ∈ (ts.zip (M.snaps.map (·.table))).map Prod.fst := by rw [zip_fst _ _ (by rw [List.length_map, J'.o.len])]; exact ht
      obtain ⟨p, hp, rfl⟩ := List.mem_map.1 hm
      exact (J'.o.rows.own p (by simp [imRows, hp])).row.other J'.d (by decide) q
  refine ⟨J'.k.setCell (p := ⟨g, c, none⟩) (J'.o.ge g h3').1 _, J'.d.setOther (p := ⟨g, c, none⟩) hgc _, J'.r.other (p := ⟨g, c, none⟩) hgr _, ?_, h4' n, J.hx, J.f⟩
  simp only [List.length_set]
  exact J'.v.other (p := ⟨g, c, none⟩) hgv _
theorem RdK.fin {w W : World} {x : Nat} {da db : Value} {a : Im4} {M : Img} {ts : List Value} (J : RdK w W x da db a M ts) : VarM (putI W (w.heap.size + 1) a M) (w.heap.size + 1) 61 (.slice a.ro M.refs.length a.rc) (.slice a.tq M.table.length a.tc) (.slice a.so M.snaps.length a.sc) (.slice a.dq M.data.length a.dc) ∧ OwnIm (putI W (w.heap.size + 1) a M) w.heap.size a M ts ∧ Below w.heap.size w (putI W (w.heap.size + 1) a M) := by
  have v1 := J.r.set0 (.slice a.ro M.refs.length a.rc)
  have v2 := v1.set1 (.slice a.tq M.table.length a.tc)
  have v3 := v2.set2 (.slice a.so M.snaps.length a.sc)
  exact ⟨v3.set3 _, own_setK (own_setK (own_setK (own_setK J.o J.r 0 _) v1 1 _) v2 2 _) v3 3 _, (((J.k.setCell (p := ⟨w.heap.size + 1, 0, none⟩) (Nat.le_succ _) _).setCell (p := ⟨w.heap.size + 1, 1, none⟩) (Nat.le_succ _) _).setCell (p := ⟨w.heap.size + 1, 2, none⟩) (Nat.le_succ _) _).setCell (p := ⟨w.heap.size + 1, 3, none⟩) (Nat.le_succ _) _⟩
structure RdP (w W : World) (x : Nat) (da db v2 v3 : Value) (rs : List (Value × List Int)) : Prop where
  k : Below w.heap.size w W
  d : VarD W w.heap.size da db
  r : VarM W (w.heap.size + 1) 61 (.slice none 0 0) (.slice none 0 0) (.slice none 0 0) (.slice none 0 0)
  v : VarM W x 61 (.slice none 0 0) (.slice none 0 0) v2 v3
  a : OwnA W w.heap.size rs
  hx : w.heap.size + 1 < x
theorem RdP.below {w W W' : World} {x : Nat} {da db v2 v3 : Value} {rs : List (Value × List Int)} (J : RdP w W x da db v2 v3 rs) (hb : Below W.heap.size W W') : RdP w W' x da db v2 v3 rs :=
  ⟨fr J.k hb, J.d.below hb, J.r.below hb, J.v.below hb, J.a.below hb, J.hx⟩
theorem RdP.snoc {w W W' : World} {x : Nat} {da db v2 v3 v : Value} {xs : List Int} {rs : List (Value × List Int)} (J : RdP w W x da db v2 v3 rs) (hb : Below W.heap.size W W') (hv : OwnN W' W.heap.size v xs) : RdP w W' x da db v2 v3 (rs ++ [(v, xs)]) :=
  ⟨fr J.k hb, J.d.below hb, J.r.below hb, J.v.below hb, J.a.snoc hb hv J.k.size, J.hx⟩
theorem RdP.put {w W : World} {x zc rc tc sc : Nat} {da db : Value} {zq ro tq so qo : Option Addr} {ZS SL CS TB : List Int} (J : RdP w W x da db (.slice so 0 0) (.slice zq ZS.length zc) [(.slice zq ZS.length zc, ZS), (.slice qo SL.length sc, SL), (.slice ro CS.length rc, CS), (.slice tq TB.length tc, TB)]) :
    RdK w ((W.setCell ⟨x, 0, none⟩ (.slice ro CS.length rc)).setCell ⟨x, 1, none⟩ (.slice tq TB.length tc)) x da db ⟨ro, rc, tq, tc, so, 0, zq, zc⟩ ⟨CS, TB, [], ZS⟩ [] ∧ OwnN ((W.setCell ⟨x, 0, none⟩ (.slice ro CS.length rc)).setCell ⟨x, 1, none⟩ (.slice tq TB.length tc)) w.heap.size (.slice qo SL.length sc) SL := by
  have hx := J.hx
  have v1 := J.v.set0 (.slice ro CS.length rc)
  have v2 := v1.set1 (.slice tq TB.length tc)
  have o0 : OwnIm W w.heap.size ⟨ro, rc, tq, tc, so, 0, zq, zc⟩ ⟨CS, TB, [], ZS⟩ [] := ⟨rfl, .inl ⟨rfl, rfl, so, 0, rfl⟩, by
    have e : imRows ⟨ro, rc, tq, tc, so, 0, zq, zc⟩ ⟨CS, TB, [], ZS⟩ [] = [(.slice ro CS.length rc, CS), (.slice tq TB.length tc, TB), (.slice zq ZS.length zc, ZS)] := by
      simp [imRows]
    rw [e]
    have h3 : OwnA W w.heap.size [(.slice zq ZS.length zc, ZS), (.slice ro CS.length rc, CS), (.slice tq TB.length tc, TB)] := ⟨fun r hr => J.a.own r (by simp only [List.mem_cons, List.not_mem_nil, or_false] at hr ⊢; rcases hr with h | h | h <;> simp [h]), J.a.apart.sublist (List.Sublist.cons_cons _ (List.Sublist.cons _ (List.Sublist.refl _)))⟩
    exact h3.perm ((List.Perm.swap _ _ _).trans (List.Perm.cons _ (List.Perm.swap _ _ _)))⟩
  have hu : OwnN W w.heap.size (.slice qo SL.length sc) SL := J.a.own (.slice qo SL.length sc, SL) (by simp)
  refine ⟨⟨(J.k.setCell (p := ⟨x, 0, none⟩) (show w.heap.size ≤ x by omega) _).setCell (p := ⟨x, 1, none⟩) (show w.heap.size ≤ x by omega) _, (J.d.setOther (p := ⟨x, 0, none⟩) (show x ≠ w.heap.size by omega) _).setOther (p := ⟨x, 1, none⟩) (show x ≠ w.heap.size by omega) _, (J.r.other (p := ⟨x, 0, none⟩) (show w.heap.size + 1 ≠ x by omega) _).other (p := ⟨x, 1, none⟩) (show w.heap.size + 1 ≠ x by omega) _, v2, own_setK (own_setK o0 J.v 0 _) v1 1 _, hx, fun _ => rfl⟩, row_setK (row_setK hu J.v 0 _) v1 1 _⟩
theorem zeros_row (ZS : List Int) (hz : ZS.length = 24) (w : World) : OwnN (w.alloc (.cells (intV ZS).toArray 3)) w.heap.size (.slice (some ⟨w.heap.size, 0, none⟩) 24 24) ZS :=
  OwnN.mk' (.inr ⟨by omega, by have := World.ownsRow_lit (base := w.heap.size) (e := 3) (size := 1) w (intV ZS).toArray 24 (Nat.le_refl _) (by unfold maxLen; omega) (by rw [intV_size, hz]); simpa using this⟩) hz
theorem RdP.new {w W0 : World} (da db : Value) (ZS : List Int) (hz : ZS.length = 24) (hA : Below w.heap.size w W0) (hV : VarD W0 w.heap.size da db) (hR : VarM W0 (w.heap.size + 1) 61 (.slice none 0 0) (.slice none 0 0) (.slice none 0 0) (.slice none 0 0)) :
    RdP w (((W0.alloc (.cells #[] 96)).alloc (.cells (intV ZS).toArray 3)).alloc (.cells #[.slice none 0 0, .slice none 0 0, .slice (some ⟨W0.heap.size, 0, none⟩) 0 0, .slice (some ⟨W0.heap.size + 1, 0, none⟩) 24 24] 61)) (W0.heap.size + 1 + 1) da db (.slice (some ⟨W0.heap.size, 0, none⟩) 0 0) (.slice (some ⟨W0.heap.size + 1, 0, none⟩) ZS.length 24) [(.slice (some ⟨W0.heap.size + 1, 0, none⟩) ZS.length 24, ZS)] := by
  have b1 := Joins.below_alloc1 W0 (.cells #[] 96)
  have b2 := Joins.below_alloc1 (W0.alloc (.cells #[] 96)) (.cells (intV ZS).toArray 3)
  have b3 := Joins.below_alloc1 ((W0.alloc (.cells #[] 96)).alloc (.cells (intV ZS).toArray 3)) (.cells #[.slice none 0 0, .slice none 0 0, .slice (some ⟨W0.heap.size, 0, none⟩) 0 0, .slice (some ⟨W0.heap.size + 1, 0, none⟩) 24 24] 61)
  have hlt := hR.lt
  have hz1 : OwnN ((W0.alloc (.cells #[] 96)).alloc (.cells (intV ZS).toArray 3)) (W0.heap.size + 1) (.slice (some ⟨W0.heap.size + 1, 0, none⟩) 24 24) ZS := by
    have := zeros_row ZS hz (W0.alloc (.cells #[] 96))
    simpa using this
  have hv3 : VarM (((W0.alloc (.cells #[] 96)).alloc (.cells (intV ZS).toArray 3)).alloc (.cells #[.slice none 0 0, .slice none 0 0, .slice (some ⟨W0.heap.size, 0, none⟩) 0 0, .slice (some ⟨W0.heap.size + 1, 0, none⟩) 24 24] 61)) (W0.heap.size + 1 + 1) 61 (.slice none 0 0) (.slice none 0 0) (.slice (some ⟨W0.heap.size, 0, none⟩) 0 0) (.slice (some ⟨W0.heap.size + 1, 0, none⟩) 24 24) := by
    have := VarM.new ((W0.alloc (.cells #[] 96)).alloc (.cells (intV ZS).toArray 3)) 61 (.slice none 0 0) (.slice none 0 0) (.slice (some ⟨W0.heap.size, 0, none⟩) 0 0) (.slice (some ⟨W0.heap.size + 1, 0, none⟩) 24 24)
    simpa using this
  rw [hz]
  exact ⟨fr (fr (fr hA b1) b2) b3, ((hV.below b1).below b2).below b3, ((hR.below b1).below b2).below b3, hv3, OwnA.one ((hz1.below b3).base (by omega)), by omega⟩
theorem AnsR.bad {w w' : World} {sec : Nat → ByteArray} (h : srB sec = false) (hb : Below w.heap.size w w') : AnsR w w' (.returned (.tuple #[.agg #[.slice none 0 0, .slice none 0 0, .slice none 0 0, .slice none 0 0], .bool false])) sec :=
  ⟨⟨none, 0, none, 0, none, 0, none, 0⟩, im0, [], by rw [h]; rfl, OwnIm.zero _ _, fun hh => (by rw [h] at hh; cases hh), hb⟩
def setZ (W : World) (y : Nat) : World := (((W.setCell ⟨y, 0, none⟩ (.slice none 0 0)).setCell ⟨y, 1, none⟩ (.slice none 0 0)).setCell ⟨y, 2, none⟩ (.slice none 0 0)).setCell ⟨y, 3, none⟩ (.slice none 0 0)
theorem setZ_var {w W : World} (hV : VarM W (w.heap.size + 1) 61 (.slice none 0 0) (.slice none 0 0) (.slice none 0 0) (.slice none 0 0)) (hB : Below w.heap.size w W) : VarM (setZ W (w.heap.size + 1)) (w.heap.size + 1) 61 (.slice none 0 0) (.slice none 0 0) (.slice none 0 0) (.slice none 0 0) ∧ Below w.heap.size w (setZ W (w.heap.size + 1)) :=
  ⟨(((hV.set0 _).set1 _).set2 _).set3 _, (((hB.setCell (p := ⟨w.heap.size + 1, 0, none⟩) (Nat.le_succ _) _).setCell (p := ⟨w.heap.size + 1, 1, none⟩) (Nat.le_succ _) _).setCell (p := ⟨w.heap.size + 1, 2, none⟩) (Nat.le_succ _) _).setCell (p := ⟨w.heap.size + 1, 3, none⟩) (Nat.le_succ _) _⟩
theorem OwnN.at {w : World} {B i n k g : Nat} {xs : List Int} (h : OwnN w B (.slice (some ⟨g, 0, none⟩) n k) xs) (hn : n = xs.length) (hi : i < xs.length) : w.cell? ⟨g, i, none⟩ = some (.int .i64 xs[i]) := by
  obtain ⟨g', e, h1, _⟩ := h.spot hn hi
  cases e
  exact h1
theorem OwnN.form {w : World} {B : Nat} {v : Value} {xs : List Int} (h : OwnN w B v xs) (hp : 0 < xs.length) : ∃ g k, v = .slice (some ⟨g, 0, none⟩) xs.length k := by
  obtain ⟨qo, qa, rfl, h2⟩ := h
  obtain ⟨g, e, _⟩ := OwnN.spot (c := 0) (n := xs.length) (k := qa) (ao := qo) ⟨qo, qa, rfl, h2⟩ rfl hp
  exact ⟨g, qa, by rw [e]⟩

section
variable {P : Program} {ops : Array Oper}
end

end Go.Proofs.YtjjkppknojecjaaGreatDoor

namespace Go.Proofs.YtjjkppknojecjaaGreatDoor
open Go.RowKit
set_option linter.unusedVariables false
set_option maxRecDepth 100000

theorem ev_eq {a : Act} {i n : Nat} {v : Value} (hs : a.tmps.size = n) (h : i < n) : (a.put (some i) v).eval (.tmp i) = v := by
  show (a.tmps.setIfInBounds i v).getD i undef = v
  rw [Array.getD_eq_getD_getElem?, Array.getElem?_setIfInBounds, if_pos rfl, if_pos (by omega)]; rfl
theorem sz_put {a : Act} {i n : Nat} {v : Value} (hs : a.tmps.size = n) : (a.put (some i) v).tmps.size = n := by
  show (a.tmps.setIfInBounds i v).size = n
  rw [Array.size_setIfInBounds]; exact hs
theorem tm_ne {a A' : Act} {i j : Nat} {v u : Value} (hA : A' = a.put (some i) v) (h : ∀ hh, a.tmps[j]'hh = u) (ne : i ≠ j) : ∀ hh, A'.tmps[j]'hh = u := by
  subst hA
  intro hh
  have hq : j < (a.tmps.setIfInBounds i v).size := hh
  have hh' : j < a.tmps.size := by rwa [Array.size_setIfInBounds] at hq
  show (a.tmps.setIfInBounds i v)[j]'hq = u
  rw [Array.getElem_setIfInBounds hh', if_neg ne]
  exact h hh'
theorem tm_eq {a A' : Act} {i : Nat} {v : Value} (hA : A' = a.put (some i) v) : ∀ hh, A'.tmps[i]'hh = v := by
  subst hA
  intro hh
  have hq : i < (a.tmps.setIfInBounds i v).size := hh
  have hh' : i < a.tmps.size := by rwa [Array.size_setIfInBounds] at hq
  show (a.tmps.setIfInBounds i v)[i]'hq = v
  rw [Array.getElem_setIfInBounds hh', if_pos rfl]
theorem tm_sz {a A' : Act} {i n : Nat} {v : Value} (hA : A' = a.put (some i) v) (hs : a.tmps.size = n) : A'.tmps.size = n := by
  subst hA; exact sz_put hs
theorem tm_ev {a : Act} {j n : Nat} {v : Value} (h : ∀ hh, a.tmps[j]'hh = v) (hs : a.tmps.size = n) (hj : j < n) : a.eval (.tmp j) = v := by
  show a.tmps.getD j undef = v
  have hj' : j < a.tmps.size := by omega
  rw [Array.getD_eq_getD_getElem?, Array.getElem?_eq_getElem hj']
  exact h hj'
theorem put_swap (a : Act) {i j : Nat} (v u : Value) (h : i ≠ j) : (a.put (some i) v).put (some j) u = (a.put (some j) u).put (some i) v := by
  show (⟨(a.tmps.setIfInBounds i v).setIfInBounds j u, a.defers⟩ : Act) = ⟨(a.tmps.setIfInBounds j u).setIfInBounds i v, a.defers⟩
  rw [Array.setIfInBounds_comm _ _ h]
def putsA (a : Act) : Nat → List Value → Act
  | _, [] => a
  | b, v :: vs => putsA (a.put (some b) v) (b + 1) vs
theorem puts_out : ∀ (vs : List Value) (a : Act) (b n : Nat), a.tmps.size = n → b + vs.length ≤ n → putsA a b vs = ⟨(a.tmps.toList.take b ++ (vs ++ a.tmps.toList.drop (b + vs.length))).toArray, a.defers⟩
  | [], a, b, n, hs, h => by
    show a = _
    simp
  | v :: vs, a, b, n, hs, h => by
    rw [List.length_cons] at h
    rw [putsA, puts_out vs _ (b + 1) n (sz_put hs) (by omega)]
    have e : (a.put (some b) v).tmps.toList = a.tmps.toList.set b v := by
      show (a.tmps.setIfInBounds b v).toList = _
      simp
    have hl : a.tmps.toList.length = n := by simpa using hs
    have hd : (a.put (some b) v).defers = a.defers := rfl
    rw [e, hd]
    congr 1
    have e1 : (a.tmps.toList.set b v).take (b + 1) = a.tmps.toList.take b ++ [v] := by
      apply List.ext_getElem
      · simp [hl]; omega
      · intro j h1 h2
        rw [List.getElem_take, List.getElem_set]
        by_cases hj : j < b
        · rw [if_neg (by omega), List.getElem_append_left (by simp [hl]; omega), List.getElem_take]
        · have : j = b := by simp [hl] at h1; omega
          subst this
          rw [if_pos rfl, List.getElem_append_right (by simp [hl]; omega)]
          simp
    have e2 : (a.tmps.toList.set b v).drop (b + 1 + vs.length) = a.tmps.toList.drop (b + (vs.length + 1)) := by
      rw [List.drop_set_of_lt (by omega), show b + 1 + vs.length = b + (vs.length + 1) by omega]
    rw [e1, e2, List.length_cons]
    simp
section
variable {P : Program} {w : World} {ρ : Operand → Value} {o : Oper}
end

section
variable {P : Program} {Q : Exit → Act → World → Prop} {S : World → Prop} {C : Act → World → Prop} {l : List Oper}
theorem ord_readL {i : Nat} {o : Oper} {r : List (Nat × Nat)} {a : Act} {w : World} (v : Value) (ho : l[i]? = some o) (hg : o.guard = none) (hS : S w) (hv : ∀ w', S w' → (execOp a.eval o).run P w' = .ok (.value v) w') (h : ∀ A', A' = a.put o.dst v → wpOrd P l Q S C r A' w) : wpOrd P l Q S C ((i, 0) :: r) a w :=
  ord_read v ho hg hS hv (h _ rfl)
theorem ord_valL {i : Nat} {o : Oper} {r : List (Nat × Nat)} {a : Act} {w : World} (v : Value) (ho : l[i]? = some o) (hg : o.guard = none) (hv : ∀ w', (execOp a.eval o).run P w' = .ok (.value v) w') (h : ∀ A', A' = a.put o.dst v → wpOrd P l Q S C r A' w) : wpOrd P l Q S C ((i, 4) :: r) a w :=
  ord_val v ho hg hv (h _ rfl)
end

end Go.Proofs.YtjjkppknojecjaaGreatDoor

namespace Go.Proofs.YtjjkppknojecjaaGreatDoor
open Go.RowKit Go.Sort
set_option linter.unusedVariables false
set_option maxRecDepth 100000

theorem lit1K {w W : World} (_ : Hid (∃ os, W = grow w os)) (a : Int) : (convert 132 9 (.slice (some ⟨W.heap.size, 0, none⟩) 1 1)).run Tryz.prog (W.alloc (.cells #[.int .u8 a] 5)) = .ok (.string (strOfNums [a])) (W.alloc (.cells #[.int .u8 a] 5)) := lit1 W a
theorem grown_alloc {w W : World} (h : ∃ os, W = grow w os) (o : Obj) : ∃ os, W.alloc o = grow w os := by
  obtain ⟨os, rfl⟩ := h
  exact ⟨os ++ #[o], by rw [alloc_eq_grow, grow_grow]⟩
theorem grown_below {w : World} (n : Nat) (os : Array Obj) : Below w.heap.size w (grow (w.drewN n) os) := by
  have h1 : Below w.heap.size w (w.drewN n) := ⟨rfl, rfl, rfl, Nat.le_refl _, fun _ _ => rfl⟩
  refine h1.trans ?_
  exact ⟨rfl, rfl, rfl, by simp [grow], fun k hk => heap_grow_old _ _ (by exact hk)⟩

set_option maxHeartbeats 800000 in
theorem l11Unname_grown (N : Nat) (w : World) (hz : N ≤ 2147483647) :
    Calls Tryz.prog 44 #[.int .i64 N] w fun e w' => e = .returned (.string (unT N)) ∧ ∃ os, w' = grow w os := by
  have HJ0 := hide (UnJ.start hz)
  clear hz
  go_enter Tryz.func44, Tryz.ntmps44
  go_wp2
  go_loopw [0, 3] (fun n o wr => ∃ (m : Nat) (s : ByteArray), n = .int .i64 m ∧ o = .string s ∧ Hid (UnJ N m s) ∧ Hid (∃ os, wr = grow w os)) (fun n _ _ => (intOf n).toNat)
  case atStart => exact ⟨N, _, rfl, rfl, HJ0, hide ⟨#[], (grow_empty _).symm⟩⟩
  case round =>
    obtain ⟨m, s, rfl, rfl, HJ, HB⟩ := hrel
    obtain ⟨b1, b2⟩ := (unhide HJ).small
    by_cases hlt : 0 < m
    · have hlti : (0 : Int) < (m : Int) := by omega
      obtain ⟨hj, hsz⟩ := (unhide HJ).step hlt
      have HJ2 := hide hj
      clear hj
      have hcv := lit1K HB (97 + ((m : Int) + 26) % 27)
      have w1 : IntKind.i64.wrap ((m : Int) + 26) = (m : Int) + 26 := by rw [IntKind.wrap_i64]; omega
      have hs1 : (strOfNums [97 + ((m : Int) + 26) % 27]).size = 1 := strOfNums_size _
      clear hsz
      have h1 := Int.emod_nonneg ((m : Int) + 26) (show (27 : Int) ≠ 0 by decide)
      have h2 := Int.emod_lt_of_pos ((m : Int) + 26) (show (0 : Int) < 27 by decide)
      go_wp2
      go_roundw
      case rel => exact ⟨m / 27, _, by go_num, rfl, HJ2, hide (grown_alloc (unhide HB) _)⟩
      case measure => simp [intOf]; omega
    · obtain rfl : m = 0 := by omega
      have HF := hide (unhide HJ).stop
      go_wp2
      go_ret
      exact ⟨ret_str (unhide HF), unhide HB⟩

theorem unname_g (V : Nat) (hz : V ≤ 2147483647) (w : World) (n : Nat) (os : Array Obj) : Calls Tryz.prog 44 #[.int .i64 V] (grow (w.drewN n) os) fun e w'' => e = .returned (.string (unT V)) ∧ ∃ p : GrownBy, w'' = grow (w.drewN p.n) p.os :=
  Calls.grown_of ((l11Unname_grown V _ hz).mono (fun e w' h => by
    obtain ⟨h1, os', h2⟩ := h
    exact ⟨h1, 0, os', h2⟩))
theorem name_g (t : ByteArray) (hz : t.size ≤ 8) (w : World) (n : Nat) (os : Array Obj) : Calls Tryz.prog 43 #[.string t] (grow (w.drewN n) os) fun e w'' => e = .returned (.int .i64 (nmN t)) ∧ ∃ p : GrownBy, w'' = grow (w.drewN p.n) p.os :=
  Calls.grown_of ((l11Name_any t _ hz).mono (fun e w' h => ⟨h.1, 0, #[], by rw [h.2, World.drewN_zero, grow_empty]⟩))

end Go.Proofs.YtjjkppknojecjaaGreatDoor

namespace Go.Proofs.YtjjkppknojecjaaGreatDoor
open Go.RowKit Go.Sort
set_option linter.unusedVariables false
set_option maxRecDepth 100000

theorem froz_below3 {w w' : World} {p : Addr} {v : Value} (hb : Below w.heap.size w w') (hc : w.cell? p = some v) (hf : w.frozen? p = false) : w'.frozen? p = false := by
  have := hb.block p.block (World.block_lt_of_cell? _ _ hc)
  simp only [World.frozen?] at hf ⊢
  rw [this]; exact hf
theorem openL_few3 (s : ByteArray) (hs : s.size ≤ 65536) : (openL s 3).length ≤ 16384 := by
  have h1 := unL_length (bodyT s)
  have h2 := bodyT_size s
  unfold openL
  split
  · rw [h1]; omega
  · simp

set_option maxHeartbeats 12800000 in
theorem l11Read_any (ao bo : Option Addr) (ca cb : Nat) (ss : List ByteArray) (xs : List Wr) (h : Int) (w : World) (hd : diskB ss xs = true) (h1 : Ss w ao ss) (h2 : Ios w bo xs) :
    Calls Tryz.prog 14 #[.agg #[.slice ao ss.length ca, .slice bo xs.length cb], .int .i64 h] w fun e w' => AnsR w w' e (secV ss xs h) := by
  have HNL : Hid (∀ p : Nat, p < 64 → ∀ q : Int, q = (p : Int) → ∀ W, Below w.heap.size w W → Calls Tryz.prog 40 #[.agg #[.slice ao ss.length ca, .slice bo xs.length cb], .int .i64 h, .int .i64 q] W fun e w' => e = .returned (.string (secV ss xs h p)) ∧ Below W.heap.size W w') := hide (fun p hp q hq W hb => l01ReadAt ao bo ca cb ss xs h q _ W hd (by omega) (by omega) (by rw [hq]; rfl) (h1.below hb) (h2.below hb))
  have HSZ : Hid (∀ p : Nat, (secV ss xs h p).size ≤ 65536) := hide (fun p => by have := readV_size hd h p; unfold secV; omega)
  clear hd h1 h2
  generalize secV ss xs h = sec at *
  obtain ⟨da, HDA⟩ : ∃ da : Value, Hid (Value.slice ao ss.length ca = da) := ⟨_, hide rfl⟩
  obtain ⟨db, HDB⟩ : ∃ db : Value, Hid (Value.slice bo xs.length cb = db) := ⟨_, hide rfl⟩
  rw [unhide HDA, unhide HDB] at HNL ⊢
  clear HDA HDB
  obtain ⟨ZS, HZS⟩ : ∃ ZS : List Int, Hid (ZS = List.replicate 24 0) := ⟨_, hide rfl⟩
  have HZL : Hid (ZS.length = 24) := hide (by rw [unhide HZS]; simp)
  have hmk : ∀ W : World, (Instr.makeSlice 29 (.int .i64 24) (.int .i64 24)).run Tryz.prog W = .ok (.slice (some ⟨W.heap.size, 0, none⟩) 24 24) (W.alloc (.cells (intV ZS).toArray 3)) := fun W => by rw [unhide HZS]; exact mkZ 24 (by omega) W
  have HA := hide (Joins.below_alloc2 w (.cells #[da, db] 42) (.cells #[.slice none 0 0, .slice none 0 0, .slice none 0 0, .slice none 0 0] 61))
  have HV := hide ((VarD.new w da db).below (Joins.below_alloc1 _ (.cells #[.slice none 0 0, .slice none 0 0, .slice none 0 0, .slice none 0 0] 61)))
  have HR : Hid (VarM ((w.alloc (.cells #[da, db] 42)).alloc (.cells #[.slice none 0 0, .slice none 0 0, .slice none 0 0, .slice none 0 0] 61)) (w.heap.size + 1) 61 (.slice none 0 0) (.slice none 0 0) (.slice none 0 0) (.slice none 0 0)) := hide (by have := VarM.new (w.alloc (.cells #[da, db] 42)) 61 (.slice none 0 0) (.slice none 0 0) (.slice none 0 0) (.slice none 0 0); simpa using this)
  have HSZW : Hid (((w.alloc (.cells #[da, db] 42)).alloc (.cells #[.slice none 0 0, .slice none 0 0, .slice none 0 0, .slice none 0 0] 61)).heap.size = w.heap.size + 2) := hide (by simp)
  go_enter Tryz.func14, Tryz.ntmps14
  go_upto_region 1 with fail
  revert HSZW
  revert HR
  revert HV
  revert HA
  generalize ((w.alloc _).alloc _) = W0
  intro HA HV HR HSZW
  go_upto_region 2 with fail
  have HP := hide (RdP.new da db ZS (unhide HZL) (unhide HA) (unhide HV) (unhide HR))
  clear HA HV HR HSZW hmk
  revert HP
  generalize (((W0.alloc _).alloc _).alloc _) = W1
  generalize W0.heap.size + 1 + 1 = X
  generalize W0.heap.size + 1 = zg
  generalize W0.heap.size = sg
  intro HP
  obtain ⟨d0, d1⟩ := (unhide HP).d.cells
  go_wp2_with fail
  refine (unhide HNL 9 (by omega) 9 rfl _ (unhide HP).k).mono ?_
  rintro e w1 ⟨rfl, hb1⟩
  have HP1 := hide ((unhide HP).below hb1)
  clear hb1 HP d0 d1
  go_wp2_with fail
  refine (l02Open_any (sec 9) 1 _ (unhide HSZ 9)).mono ?_
  rintro e w2 ⟨sv, rfl, hs2, hb2⟩
  have HP2 := hide ((unhide HP1).snoc hb2 hs2)
  have HS2 := hide hs2
  clear HP1 hb2 hs2
  obtain ⟨SL, HSL⟩ : ∃ SL, Hid (openL (sec 9) 1 = SL) := ⟨_, hide rfl⟩
  have HSS : Hid (srS sec = SL) := hide (by rw [srS, unhide HSL])
  rw [unhide HSL] at HP2 HS2
  have HNEG : Hid (openB (sec 9) 1 = false → srB sec = false) := hide (fun hh => sr_sup (by rw [supB, hh]; rfl))
  have HIN : Hid (openB (sec 9) 1 = true → ∀ j (hj : j < SL.length), 0 ≤ SL[j] ∧ SL[j] ≤ 2147483647) := hide (fun hh => by have := openL_in hh; rw [unhide HSL] at this; exact this)
  have HSLN : Hid (SL.length ≤ 16384) := hide (by
    rw [← unhide HSL]
    have h1 := unL_length (bodyT (sec 9))
    have h2 := bodyT_size (sec 9)
    have h3 := unhide HSZ 9
    unfold openL
    split
    · rw [h1]; omega
    · simp)
  cases hop : openB (sec 9) 1
  · have HF := hide (unhide HNEG hop)
    clear hop
    obtain ⟨c0, c1, c2, c3⟩ := (unhide HP2).r.cells
    obtain ⟨f0, f1, f2, f3⟩ := (unhide HP2).r.free
    have HE := hide (setZ_var (unhide HP2).r (unhide HP2).k)
    unfold setZ at HE
    go_wp2
    refine bodyPost_ret (res_ic Tryz.results14 rfl rfl (unhide HE).1) rfl ?_
    exact AnsR.bad (unhide HF) (unhide HE).2
  have HOP := hide hop
  obtain ⟨HIN2⟩ : Nonempty (Hid (∀ j (hj : j < SL.length), 0 ≤ SL[j] ∧ SL[j] ≤ 2147483647)) := ⟨hide (unhide HIN hop)⟩
  clear hop HNEG HIN
  by_cases h0 : 0 < SL.length
  case neg =>
    have HF : Hid (srB sec = false) := hide (sr_sup (by rw [supB, unhide HSS, decide_eq_false h0]; simp))
    obtain ⟨so, sc, rfl, _⟩ := unhide HS2
    have hl0 : SL.length = 0 := by omega
    have hz : (SL.length : Int) = 0 := by omega
    obtain ⟨c0, c1, c2, c3⟩ := (unhide HP2).r.cells
    obtain ⟨f0, f1, f2, f3⟩ := (unhide HP2).r.free
    have HE := hide (setZ_var (unhide HP2).r (unhide HP2).k)
    unfold setZ at HE
    clear HS2 HP2
    rw [hl0]
    go_wp2
    refine bodyPost_ret (res_ic Tryz.results14 rfl rfl (unhide HE).1) rfl ?_
    exact AnsR.bad (unhide HF) (unhide HE).2
  obtain ⟨sq, sc, rfl⟩ := (unhide HS2).form h0
  have h0i : (0 : Int) < (SL.length : Int) := by omega
  have hlz : ((SL.length : Int) == 0) = false := by rw [beq_eq_false_iff_ne]; omega
  have hc0 := (unhide HS2).at rfl h0
  have HG0 : Hid (SL.getD 0 0 = SL[0]) := hide (by simp [List.getD, h0])
  have hr0 := unhide HIN2 0 h0
  by_cases h3 : SL[0] ≤ 3
  case neg =>
    have HF : Hid (srB sec = false) := hide (sr_sup (by rw [supB, unhide HSS, unhide HG0, decide_eq_false h3]; simp))
    clear HG0
    generalize SL[0] = Y at *
    obtain ⟨c0, c1, c2, c3⟩ := (unhide HP2).r.cells
    obtain ⟨f0, f1, f2, f3⟩ := (unhide HP2).r.free
    have HE := hide (setZ_var (unhide HP2).r (unhide HP2).k)
    unfold setZ at HE
    clear HS2 HP2
    go_wp2
    refine bodyPost_ret (res_ic Tryz.results14 rfl rfl (unhide HE).1) rfl ?_
    exact AnsR.bad (unhide HF) (unhide HE).2
  obtain ⟨n, hn⟩ := Int.eq_ofNat_of_zero_le hr0.1
  rw [hn] at hc0 h3 HG0
  have hw1 : IntKind.i64.wrap (1 + (n : Int)) = 1 + (n : Int) := by rw [IntKind.wrap_i64]; omega
  have hn3 : ¬ (3 : Int) < (n : Int) := by omega
  have hd3 : decide ((3 : Int) < (n : Int)) = false := by simp; omega
  by_cases he : SL.length = 1 + n
  case neg =>
    have hei : ¬ (SL.length : Int) = 1 + (n : Int) := by omega
    have HF : Hid (srB sec = false) := hide (sr_sup (by rw [supB, unhide HSS, unhide HG0, decide_eq_false hei]; simp))
    have heb : ((SL.length : Int) != 1 + (n : Int)) = true := by rw [bne_iff_ne]; omega
    obtain ⟨c0, c1, c2, c3⟩ := (unhide HP2).r.cells
    obtain ⟨f0, f1, f2, f3⟩ := (unhide HP2).r.free
    have HE := hide (setZ_var (unhide HP2).r (unhide HP2).k)
    unfold setZ at HE
    clear HS2 HP2 HG0 hn hr0 he hei hn3 h3
    go_wp2
    refine bodyPost_ret (res_ic Tryz.results14 rfl rfl (unhide HE).1) rfl ?_
    exact AnsR.bad (unhide HF) (unhide HE).2
  have hei : (SL.length : Int) = 1 + (n : Int) := by omega
  have HSUP : Hid (supB sec = true) := hide (by rw [supB, unhide HSS, unhide HG0, unhide HOP, decide_eq_true h0, decide_eq_true h3, decide_eq_true hei]; rfl)
  have HN : Hid (srN sec = n) := hide (by rw [srN, unhide HSS, unhide HG0]; rfl)
  have heb : ((SL.length : Int) != 1 + (n : Int)) = false := by rw [hei]; simp
  obtain ⟨d0, d1⟩ := (unhide HP2).d.cells
  have HN0 := hide hn
  have HLE := hide he
  have HH0 := hide h0
  have HN3 : Hid (n ≤ 3) := hide (by omega)
  clear HG0 hr0 hn he h3 hei hn3
  go_wp2_with fail
  refine (unhide HNL 10 (by omega) 10 rfl _ (unhide HP2).k).mono ?_
  rintro e w3 ⟨rfl, hb3⟩
  have HP3 := hide ((unhide HP2).below hb3)
  clear hb3 HP2 HS2 d0 d1 hc0 hlz heb hd3
  go_wp2_with fail
  refine (l08Decode_any (sec 10) _ (unhide HSZ 10)).mono ?_
  rintro e w4 ⟨cv, rfl, hs4, hb4⟩
  have HP4 := hide ((unhide HP3).snoc hb4 hs4)
  obtain ⟨ro, rc, rfl, _⟩ := hs4
  clear HP3 hb4
  obtain ⟨d0, d1⟩ := (unhide HP4).d.cells
  go_wp2_with fail
  refine (unhide HNL 11 (by omega) 11 rfl _ (unhide HP4).k).mono ?_
  rintro e w5 ⟨rfl, hb5⟩
  have HP5 := hide ((unhide HP4).below hb5)
  clear hb5 HP4 d0 d1
  go_wp2_with fail
  refine (l09Decode_any (sec 11) _ (unhide HSZ 11)).mono ?_
  rintro e w6 ⟨tv, rfl, hs6, hb6⟩
  have HP6 := hide ((unhide HP5).snoc hb6 hs6)
  obtain ⟨tq, tc, rfl, _⟩ := hs6
  clear HP5 hb6
  have HC1 : Hid (cdO (sec 10) = srR sec) := hide rfl
  have HNC : Hid (cdB (sec 10) = false → srB sec = false) := hide sr_cd
  have HNT : Hid (tdB (sec 11) = false → srB sec = false) := hide sr_td
  have HT1 : Hid (tdB (sec 11) = true → tdO (sec 11) = srT sec) := hide (fun hh => by rw [tdO, if_pos hh]; rfl)
  have HCL : Hid (cdB (sec 10) = true → (cdO (sec 10)).length = 24) := hide (fun hh => by rw [cdO, if_pos hh]; exact cdL_len hh)
  rw [unhide HC1] at HP6 HCL ⊢
  cases hcd : cdB (sec 10)
  · have HF := hide (unhide HNC hcd)
    clear hcd
    obtain ⟨c0, c1, c2, c3⟩ := (unhide HP6).r.cells
    obtain ⟨f0, f1, f2, f3⟩ := (unhide HP6).r.free
    have HE := hide (setZ_var (unhide HP6).r (unhide HP6).k)
    unfold setZ at HE
    clear HP6
    go_wp2
    refine bodyPost_ret (res_ic Tryz.results14 rfl rfl (unhide HE).1) rfl ?_
    exact AnsR.bad (unhide HF) (unhide HE).2
  cases htd : tdB (sec 11)
  · have HF := hide (unhide HNT htd)
    clear htd hcd
    obtain ⟨c0, c1, c2, c3⟩ := (unhide HP6).r.cells
    obtain ⟨f0, f1, f2, f3⟩ := (unhide HP6).r.free
    have HE := hide (setZ_var (unhide HP6).r (unhide HP6).k)
    unfold setZ at HE
    clear HP6
    go_wp2
    refine bodyPost_ret (res_ic Tryz.results14 rfl rfl (unhide HE).1) rfl ?_
    exact AnsR.bad (unhide HF) (unhide HE).2
  have HCD := hide hcd
  have HTD := hide htd
  have HCL2 := hide (unhide HCL hcd)
  have HT2 := hide (unhide HT1 htd)
  rw [unhide HT2] at HP6 ⊢
  clear hcd htd HNC HNT HT1 HC1 HCL HT2
  obtain ⟨CS, HCQ⟩ : ∃ CS, Hid (srR sec = CS) := ⟨_, hide rfl⟩
  obtain ⟨TB, HTQ⟩ : ∃ TB, Hid (srT sec = TB) := ⟨_, hide rfl⟩
  rw [unhide HCQ] at HP6 HCL2 ⊢
  rw [unhide HTQ] at HP6 ⊢
  have HPP := hide (unhide HP6).put
  obtain ⟨x0, x1, x2, x3⟩ := (unhide HP6).v.cells
  obtain ⟨z0, z1, z2, z3⟩ := (unhide HP6).v.free
  have hsn : (n : Int) ≤ 3 := by have := unhide HN3; omega
  go_upto_region 11 with fail
  revert HPP
  clear HP6 x0 x1 x2 x3 z0 z1 z2 z3
  generalize ((w6.setCell _ _).setCell _ _) = W7
  intro HPP
  obtain ⟨⟨HJ⟩, ⟨HU⟩⟩ : Nonempty (Hid _) ∧ Nonempty (Hid _) := ⟨⟨hide (unhide HPP).1⟩, ⟨hide (unhide HPP).2⟩⟩
  clear HPP
  obtain ⟨j0, hj, hy0, hy1, hy2⟩ := info_parts infoSn
  go_wp2
  go_loopw [12] (fun i wr => ∃ (k : Nat) (SN : List Snp) (a : Im4) (ts : List Value), k ≤ n ∧ i = .int .i64 k ∧ Hid (srSn sec k = SN) ∧ Hid (SN.length = k) ∧ Hid (∀ j, j < k → snB1 sec j = true) ∧ Hid (RdK w wr X da db a ⟨CS, TB, SN, ZS⟩ ts) ∧ Hid (OwnN wr w.heap.size (.slice (some ⟨sq, 0, none⟩) SL.length sc) SL) ∧ Hid (a.ro = ro)) (fun i _ => n - (intOf i).toNat)
  case atStart => exact ⟨0, [], _, [], Nat.zero_le _, rfl, hide rfl, hide rfl, hide (fun j h => by omega), HJ, HU, hide rfl⟩
  case round =>
    clear HJ HU
    obtain ⟨k, SN, a, ts, hk, rfl, HSN, HSNL, HTS, HJ, HU, HRO⟩ := hrel
    have hc0 := (unhide HU).at rfl (unhide HH0)
    rw [unhide HN0] at hc0
    have h0i : (0 : Int) < (SL.length : Int) := by have := unhide HH0; omega
    have hw1k : IntKind.i64.wrap (1 + (k : Int)) = 1 + (k : Int) := by rw [IntKind.wrap_i64]; omega
    have hw12 : IntKind.i64.wrap (12 + (k : Int)) = 12 + (k : Int) := by rw [IntKind.wrap_i64]; omega
    by_cases hlt : k < n
    · have hlti : (k : Int) < (n : Int) := by omega
      have hkl : 1 + k < SL.length := by have := unhide HLE; omega
      have hkli : 1 + (k : Int) < (SL.length : Int) := by omega
      have hin := unhide HIN2 (1 + k) hkl
      obtain ⟨V, hV⟩ := Int.eq_ofNat_of_zero_le hin.1
      have HV31 : Hid (V ≤ 2147483647) := hide (by omega)
      have HVQ : Hid ((srS sec).getD (1 + k) 0 = (V : Int)) := hide (by rw [unhide HSS]; simp [List.getD, hkl, hV])
      have HS1 : Hid (srSn sec (k + 1) = SN ++ [⟨unT V, openL (sec (12 + k)) 3⟩]) := hide (by rw [srSn_succ, unhide HSN, snR1, unhide HVQ])
      obtain ⟨q, hq⟩ : ∃ q, (nmN (unT V) != (V : Int)) = q := ⟨_, rfl⟩
      have HBAD : Hid (tdB (sec (12 + k)) = false ∨ q = true → srB sec = false) := hide (fun hh => sr_sn (k := k) (by rw [unhide HN]; exact hlt) (by
        rw [snB1, unhide HVQ]
        rcases hh with hh | hh
        · rw [hh]; rfl
        · rw [decide_eq_false (by rw [hh] at hq; exact bne_iff_ne.1 hq)]; simp))
      have HGOOD : Hid (tdB (sec (12 + k)) = true → q = false → ∀ j, j < k + 1 → snB1 sec j = true) := hide (fun h1 h2 j hj => by
        by_cases e : j = k
        · subst e
          rw [snB1, unhide HVQ, h1, decide_eq_true (by rw [h2] at hq; simpa using hq)]; rfl
        · exact unhide HTS j (by omega))
      have HCV : Hid (∀ W, Below wr.heap.size wr W → W.cell? ⟨sq, 1 + k, none⟩ = some (.int .i64 V)) := hide (fun W hW => by have := ((unhide HU).below hW).at rfl hkl; rw [hV] at this; exact this)
      clear hin hV HVQ
      obtain ⟨d0, d1⟩ := (unhide HJ).d.cells
      go_wp2_with fail
      refine (unhide HNL (12 + k) (by omega) (12 + (k : Int)) (by omega) _ (unhide HJ).k).mono ?_
      rintro e w1 ⟨rfl, hb1⟩
      have HJ1 := hide ((unhide HJ).below hb1)
      have HU1 := hide ((unhide HU).below hb1)
      have HB1 := hide hb1
      clear hb1 d0 d1 HJ HU hc0
      go_wp2_with fail
      refine (l09Decode_any (sec (12 + k)) _ (unhide HSZ (12 + k))).mono ?_
      rintro e w2 ⟨tv, rfl, hs2, hb2⟩
      have HT2 := hide hs2
      have HB2 := hide hb2
      have HJ2 := hide ((unhide HJ1).below hb2)
      have HCV2 : Hid (∀ W, Below w2.heap.size w2 W → W.cell? ⟨sq, 1 + k, none⟩ = some (.int .i64 V)) := hide (fun W hW => unhide HCV W (fr (unhide HB1) (fr (unhide HB2) hW)))
      obtain ⟨tq, tc, rfl, _⟩ := hs2
      have HTO : Hid (tdB (sec (12 + k)) = true → tdO (sec (12 + k)) = openL (sec (12 + k)) 3) := hide (fun hh => by rw [tdO, if_pos hh])
      clear hb2 HCV HB1
      go_upto_region 15 with fail
      have HSQ : Hid (sq < w2.heap.size) := hide (World.block_lt_of_cell? _ _ (unhide HCV2 w2 (Below.refl _ _)))
      have hcg : ∀ n os, (grow (w2.drewN n) os).cell? ⟨sq, 1 + k, none⟩ = some (.int .i64 V) := fun n os => cell_grown (unhide HSQ) (unhide HCV2 w2 (Below.refl _ _)) n os
      cases htd : tdB (sec (12 + k))
      · have HF := hide (unhide HBAD (.inl htd))
        clear htd
        refine wp_region_quiet_grown (by kernel_rfl) (by kernel_rfl) ?_
        repeat (go_big_quiet_step (fail))
        refine wpQuiet_nil ?_
        rintro w3 ⟨⟨nq, osq⟩, rfl⟩
        have HB3 := hide (grown_below (w := w2) nq osq)
        clear hcg
        revert HB3
        generalize (grow (w2.drewN nq) osq) = w3
        intro HB3
        have HJ3 := hide ((unhide HJ2).below (unhide HB3))
        obtain ⟨c0, c1, c2, c3⟩ := (unhide HJ3).r.cells
        obtain ⟨f0, f1, f2, f3⟩ := (unhide HJ3).r.free
        have HE := hide (setZ_var (unhide HJ3).r (unhide HJ3).k)
        unfold setZ at HE
        clear HB3 HJ3 HJ2
        go_wp2
        refine bodyPost_ret (res_ic Tryz.results14 rfl rfl (unhide HE).1) rfl ?_
        exact AnsR.bad (unhide HF) (unhide HE).2
      have HTD3 := hide (unhide HTO htd)
      have HGD := hide (unhide HGOOD htd)
      have HBQ := hide (fun hh => unhide HBAD (.inr hh))
      clear htd HTO HGOOD HBAD
      rw [unhide HTD3] at HT2 ⊢
      clear HTD3
      refine wp_region_quiet_grown (by kernel_rfl) (by kernel_rfl) ?_
      repeat (go_big_quiet_step (first | (go_at_call 44; exact unname_g V (unhide HV31) _ _ _) | (go_at_call 43; exact name_g (unT V) (unT_short V) _ _ _)))
      refine wpQuiet_nil ?_
      rintro w3 ⟨⟨nq, osq⟩, rfl⟩
      have HB3 := hide (grown_below (w := w2) nq osq)
      clear hcg hq
      revert HB3
      generalize (grow (w2.drewN nq) osq) = w3
      intro HB3
      cases q
      case true =>
        have HF := hide (unhide HBQ rfl)
        have HJ3 := hide ((unhide HJ2).below (unhide HB3))
        obtain ⟨c0, c1, c2, c3⟩ := (unhide HJ3).r.cells
        obtain ⟨f0, f1, f2, f3⟩ := (unhide HJ3).r.free
        have HE := hide (setZ_var (unhide HJ3).r (unhide HJ3).k)
        unfold setZ at HE
        clear HB3 HJ3 HJ2
        go_wp2
        refine bodyPost_ret (res_ic Tryz.results14 rfl rfl (unhide HE).1) rfl ?_
        exact AnsR.bad (unhide HF) (unhide HE).2
      have HTS2 := hide (unhide HGD rfl)
      clear HGD HBQ HTS
      go_upto_region 17 with fail
      have HJ3 := hide ((unhide HJ2).below (unhide HB3))
      have HB23 := hide (fr (unhide HB2) (unhide HB3))
      have HCV3 : Hid (∀ W, Below w3.heap.size w3 W → W.cell? ⟨sq, 1 + k, none⟩ = some (.int .i64 V)) := hide (fun W hW => unhide HCV2 W (fr (unhide HB3) hW))
      generalize openL (sec (12 + k)) 3 = TT at *
      generalize hA0 : (Act.mk _ _) = A0
      have s0 : A0.tmps.size = 159 := by subst hA0; rfl
      have e6 : ∀ hh, A0.tmps[6]'hh = .pointer (some ⟨X, 0, none⟩) := by subst hA0; intro hh; rfl
      have e7 : ∀ hh, A0.tmps[7]'hh = .slice (some ⟨sq, 0, none⟩) SL.length sc := by subst hA0; intro hh; rfl
      have e12 : ∀ hh, A0.tmps[12]'hh = .int .i64 (k : Int) := by subst hA0; intro hh; rfl
      have e13 : ∀ hh, A0.tmps[13]'hh = .slice tq TT.length tc := by subst hA0; intro hh; rfl
      have HA0 := hide hA0
      clear hA0
      have q1 : (0 : Int) ≤ 1 + (k : Int) := by omega
      have q2 : (1 + (k : Int)).toNat = 1 + k := by omega
      have hS0 : Below w3.heap.size w3 w3.drew := (Below.refl _ _).drew
      refine wp_region_ord (fun w' => Below w3.heap.size w3 w') [0, 1, 2, 3, 4, 5, 6, 7, 8, 9, 10] [(0, 0), (1, 0), (2, 0), (3, 0), (4, 0), (5, 0), (6, 0), (8, 0), (7, 2), (9, 0), (10, 2), (11, 3), (12, 4), (13, 3)] (by kernel_rfl) (by kernel_rfl) rfl (by kernel_rfl) ?_
      refine ord_readL (.pointer (some ⟨X, 2, none⟩)) rfl rfl hS0 (fun W hW => by go_simp) ?_
      intro A1 hA1
      replace hA1 : A1 = A0.put (some 110) (.pointer (some ⟨X, 2, none⟩)) := hA1
      have s1 := tm_sz hA1 s0
      replace e6 := tm_ne hA1 e6 (by decide)
      replace e7 := tm_ne hA1 e7 (by decide)
      replace e12 := tm_ne hA1 e12 (by decide)
      replace e13 := tm_ne hA1 e13 (by decide)
      have e110 := tm_eq hA1
      have HA1 := hide hA1
      clear hA1
      refine ord_readL (.slice a.so SN.length a.sc) rfl rfl hS0 (fun W hW => by obtain ⟨k0, k1, k2, k3⟩ := ((unhide HJ3).below hW).v.cells; go_simp) ?_
      intro A2 hA2
      replace hA2 : A2 = A1.put (some 111) (.slice a.so SN.length a.sc) := hA2
      have s2 := tm_sz hA2 s1
      replace e6 := tm_ne hA2 e6 (by decide)
      replace e7 := tm_ne hA2 e7 (by decide)
      replace e12 := tm_ne hA2 e12 (by decide)
      replace e13 := tm_ne hA2 e13 (by decide)
      clear e110
      have e111 := tm_eq hA2
      have HA2 := hide hA2
      clear hA2
      refine ord_readL (.slice (some ⟨sq, 0, none⟩) SL.length sc) rfl rfl hS0 (fun W hW => by go_simp; first | done | exact e7 _) ?_
      intro A3 hA3
      replace hA3 : A3 = A2.put (some 112) (.slice (some ⟨sq, 0, none⟩) SL.length sc) := hA3
      have s3 := tm_sz hA3 s2
      replace e6 := tm_ne hA3 e6 (by decide)
      clear e7
      replace e12 := tm_ne hA3 e12 (by decide)
      replace e13 := tm_ne hA3 e13 (by decide)
      replace e111 := tm_ne hA3 e111 (by decide)
      have e112 := tm_eq hA3
      have HA3 := hide hA3
      clear hA3
      refine ord_readL (.int .i64 (k : Int)) rfl rfl hS0 (fun W hW => by go_simp; first | done | exact e12 _) ?_
      intro A4 hA4
      replace hA4 : A4 = A3.put (some 113) (.int .i64 (k : Int)) := hA4
      have s4 := tm_sz hA4 s3
      replace e6 := tm_ne hA4 e6 (by decide)
      clear e12
      replace e13 := tm_ne hA4 e13 (by decide)
      replace e111 := tm_ne hA4 e111 (by decide)
      replace e112 := tm_ne hA4 e112 (by decide)
      have e113 := tm_eq hA4
      have HA4 := hide hA4
      clear hA4
      refine ord_readL (.int .i64 (1 + (k : Int))) rfl rfl hS0 (fun W hW => by go_simp) ?_
      intro A5 hA5
      replace hA5 : A5 = A4.put (some 114) (.int .i64 (1 + (k : Int))) := hA5
      have s5 := tm_sz hA5 s4
      replace e6 := tm_ne hA5 e6 (by decide)
      replace e13 := tm_ne hA5 e13 (by decide)
      replace e111 := tm_ne hA5 e111 (by decide)
      replace e112 := tm_ne hA5 e112 (by decide)
      clear e113
      have e114 := tm_eq hA5
      have HA5 := hide hA5
      clear hA5
      refine ord_readL (.pointer (some ⟨sq, 1 + k, none⟩)) rfl rfl hS0 (fun W hW => by go_simp) ?_
      intro A6 hA6
      replace hA6 : A6 = A5.put (some 115) (.pointer (some ⟨sq, 1 + k, none⟩)) := hA6
      have s6 := tm_sz hA6 s5
      replace e6 := tm_ne hA6 e6 (by decide)
      replace e13 := tm_ne hA6 e13 (by decide)
      replace e111 := tm_ne hA6 e111 (by decide)
      clear e112
      clear e114
      have e115 := tm_eq hA6
      have HA6 := hide hA6
      clear hA6
      refine ord_readL (.int .i64 (V : Int)) rfl rfl hS0 (fun W hW => by have hc := unhide HCV3 W hW; go_simp) ?_
      intro A7 hA7
      replace hA7 : A7 = A6.put (some 116) (.int .i64 (V : Int)) := hA7
      have s7 := tm_sz hA7 s6
      replace e6 := tm_ne hA7 e6 (by decide)
      replace e13 := tm_ne hA7 e13 (by decide)
      replace e111 := tm_ne hA7 e111 (by decide)
      clear e115
      have e116 := tm_eq hA7
      have HA7 := hide hA7
      clear hA7
      refine ord_readL (.slice tq TT.length tc) rfl rfl hS0 (fun W hW => by go_simp; first | done | exact e13 _) ?_
      intro A8 hA8
      replace hA8 : A8 = A7.put (some 118) (.slice tq TT.length tc) := hA8
      have s8 := tm_sz hA8 s7
      replace e6 := tm_ne hA8 e6 (by decide)
      clear e13
      replace e111 := tm_ne hA8 e111 (by decide)
      replace e116 := tm_ne hA8 e116 (by decide)
      have e118 := tm_eq hA8
      have HA8 := hide hA8
      clear hA8
      have HB0 := hide hS0
      clear hS0
      refine ord_held rfl rfl ?_
      intro K hK
      unfold Oper.wp
      go_simp
      refine (l11Unname_any V _ (unhide HV31)).mono ?_
      rintro e w4 ⟨rfl, hb⟩
      have HB4 := hide (fr (unhide HB0) hb)
      clear hb
      refine hK _ _ (unhide HB4) ?_
      clear hK K
      obtain ⟨A9, hA9⟩ : ∃ A, A = A8.put (some 117) (.string (unT V)) := ⟨_, rfl⟩
      change wpOrd _ _ _ _ _ _ (A8.put (some 117) (.string (unT V))) _
      rw [← hA9]
      have s9 := tm_sz hA9 s8
      replace e6 := tm_ne hA9 e6 (by decide)
      replace e111 := tm_ne hA9 e111 (by decide)
      clear e116
      replace e118 := tm_ne hA9 e118 (by decide)
      have e117 := tm_eq hA9
      have HA9 := hide hA9
      clear hA9
      refine ord_readL (.agg #[.string (unT V), .slice tq TT.length tc]) rfl rfl (unhide HB4) (fun W hW => by go_simp) ?_
      intro A10 hA10
      replace hA10 : A10 = A9.put (some 119) (.agg #[.string (unT V), .slice tq TT.length tc]) := hA10
      have s10 := tm_sz hA10 s9
      replace e6 := tm_ne hA10 e6 (by decide)
      replace e111 := tm_ne hA10 e111 (by decide)
      clear e118
      clear e117
      have e119 := tm_eq hA10
      have HA10 := hide hA10
      clear hA10
      refine ord_held rfl rfl ?_
      intro K hK
      unfold Oper.wp
      go_simp
      have HB5 := hide (fr (unhide HB4) (Joins.below_alloc1 w4 (.cells #[.string (unT V), .slice tq TT.length tc] 96)))
      have hnew : (w4.alloc (.cells #[.string (unT V), .slice tq TT.length tc] 96)).heap[w4.heap.size]? = some (.cells #[.string (unT V), .slice tq TT.length tc] 96 (0, 0)) := heap_alloc_new _ _
      refine hK _ _ (unhide HB5) ?_
      clear hK K
      generalize (w4.alloc (.cells #[.string (unT V), .slice tq TT.length tc] 96)) = w5 at *
      generalize w4.heap.size = g5 at *
      obtain ⟨A11, hA11⟩ : ∃ A, A = A10.put (some 120) (.slice (some ⟨g5, 0, none⟩) 1 1) := ⟨_, rfl⟩
      change wpOrd _ _ _ _ _ _ (A10.put (some 120) (.slice (some ⟨g5, 0, none⟩) 1 1)) _
      rw [← hA11]
      have s11 := tm_sz hA11 s10
      replace e6 := tm_ne hA11 e6 (by decide)
      replace e111 := tm_ne hA11 e111 (by decide)
      clear e119
      have e120 := tm_eq hA11
      have HA11 := hide hA11
      clear hA11
      have HOT5 := hide ((unhide HT2).below (fr (unhide HB3) (unhide HB5)))
      have HJ5 := hide ((unhide HJ3).below (unhide HB5))
      have hsn5 : SN.length ≤ 3 := by rw [unhide HSNL]; have := unhide HN3; omega
      refine ord_alone rfl rfl ?_
      intro K hK
      refine wp_append_one rfl (.tmp 111) (.tmp 120) 59 rfl w.heap.size 96 j0 (.agg #[.string ⟨#[]⟩, .slice none 0 0]) 2 40 Tryz.underlying59 hj hy0 hy1 hy2 rfl (by omega) a.so SN.length a.sc (snC SN ts) (tm_ev e111 s11 (by decide)) ((unhide HJ5).o.s.toR (unhide HJ5).f) (unhide HJ5).k.size ⟨g5, 0, none⟩ 1 [.string (unT V), .slice tq TT.length tc] (tm_ev e120 s11 (by decide)) rfl (snap_news hnew) (snap_one _ _ _ _) (by unfold maxLen; omega) (by omega) ?_
      intro g6 cap6 w6 ho6 hk6
      obtain ⟨hJ7, hU7, hv6⟩ := (unhide HJ1).addS (unhide HU1) (fr (unhide HB23) (unhide HB5)) (unhide HOT5) ho6 hk6
      have HJ7 := hide hJ7
      have HU7 := hide hU7
      clear hJ7 hU7 ho6 hk6 hnew hsn5
      refine hK _ _ ?_
      clear hK K
      obtain ⟨A12, hA12⟩ : ∃ A, A = A11.put (some 121) (.slice (some ⟨g6, 0, none⟩) (SN.length + 1) cap6) := ⟨_, rfl⟩
      change wpOrd _ _ _ _ _ _ (A11.put (some 121) (.slice (some ⟨g6, 0, none⟩) (SN.length + 1) cap6)) _
      rw [← hA12]
      have s12 := tm_sz hA12 s11
      replace e6 := tm_ne hA12 e6 (by decide)
      clear e111
      clear e120
      have e121 := tm_eq hA12
      have HA12 := hide hA12
      clear hA12
      refine ord_valL (.pointer (some ⟨X, 2, none⟩)) rfl rfl (fun W => by go_simp) ?_
      intro A13 hA13
      replace hA13 : A13 = A12.put (some 122) (.pointer (some ⟨X, 2, none⟩)) := hA13
      have s13 := tm_sz hA13 s12
      clear e6
      replace e121 := tm_ne hA13 e121 (by decide)
      have e122 := tm_eq hA13
      have HA13 := hide hA13
      clear hA13
      obtain ⟨c0, c1, c2, c3⟩ := hv6.cells
      obtain ⟨z0, z1, z2, z3⟩ := hv6.free
      refine ord_alone rfl rfl ?_
      intro K hK
      unfold Oper.wp
      go_simp
      refine hK _ _ ?_
      clear hK K c0 c1 c2 c3 z0 z1 z2 z3 hv6
      refine ord_done ?_
      revert HU7
      revert HJ7
      generalize (w6.setCell _ _) = w7
      intro HJ7 HU7
      have hfin : A13 = putsA A0 110 [.pointer (some ⟨X, 2, none⟩), .slice a.so SN.length a.sc, .slice (some ⟨sq, 0, none⟩) SL.length sc, .int .i64 (k : Int), .int .i64 (1 + (k : Int)), .pointer (some ⟨sq, 1 + k, none⟩), .int .i64 (V : Int), .string (unT V), .slice tq TT.length tc, .agg #[.string (unT V), .slice tq TT.length tc], .slice (some ⟨g5, 0, none⟩) 1 1, .slice (some ⟨g6, 0, none⟩) (SN.length + 1) cap6, .pointer (some ⟨X, 2, none⟩)] := by
        rw [unhide HA13, unhide HA12, unhide HA11, unhide HA10, unhide HA9, unhide HA8, unhide HA7, unhide HA6, unhide HA5, unhide HA4, unhide HA3, unhide HA2, unhide HA1]
        rw [put_swap _ (.slice tq TT.length tc) (.string (unT V)) (by decide)]
        rfl
      rw [hfin, puts_out _ _ _ 159 s0 (by simp only [List.length_cons, List.length_nil]; omega)]
      have h0 := unhide HA0
      clear hfin HA13 HA12 HA11 HA10 HA9 HA8 HA7 HA6 HA5 HA4 HA3 HA2 HA1 HA0 s0 s1 s2 s3 s4 s5 s6 s7 s8 s9 s10 s11 s12 s13
      subst h0
      simp only [List.length_cons, List.length_nil, List.take_succ_cons, List.take_zero, List.drop_succ_cons, List.drop_zero, List.cons_append, List.nil_append]
      go_wp2
      go_roundw
      case rel => exact ⟨k + 1, SN ++ [⟨unT V, TT⟩], { a with so := some ⟨g6, 0, none⟩, sc := cap6 }, ts ++ [.slice tq TT.length tc], by omega, by go_num, HS1, hide (by simp; exact unhide HSNL), HTS2, HJ7, HU7, HRO⟩
      case measure => simp [intOf]; omega
    · skip
      obtain rfl : k = n := by omega
      have HDA0 : Hid (srD sec 0 = ZS) := hide (by rw [srD_zero, unhide HZS])
      clear hw1k hw12 hlt
      go_wp2
      clear hc0 h0i
      go_loopw [15] (fun i wr => ∃ (c : Nat) (DA : List Int), c ≤ 24 ∧ i = .int .i64 c ∧ Hid (srD sec c = DA) ∧ Hid (∀ j, j < c → daB1 sec j = true) ∧ Hid (RdK w wr X da db a ⟨CS, TB, SN, DA⟩ ts)) (fun i _ => 24 - (intOf i).toNat)
      case atStart => exact ⟨0, ZS, by omega, rfl, HDA0, hide (fun j h => by omega), HJ⟩
      case round =>
        clear HJ HU
        rename World => wq
        obtain ⟨c, DA, hc, rfl, HDA, HDS, HJ⟩ := hrel
        have HDL : Hid (DA.length = 24) := hide (by rw [← unhide HDA]; exact srD_len _ _)
        by_cases hltc : c < 24
        · have hci : (c : Int) < 24 := by omega
          have hcx : c < CS.length := by rw [unhide HCL2]; exact hltc
          have hcxi : (c : Int) < (CS.length : Int) := by omega
          obtain ⟨g1, eg1, hcell, _, _, _⟩ := (unhide HJ).o.setR (c := c) hcx
          replace eg1 : a.ro = some ⟨g1, 0, none⟩ := eg1
          replace hcell : wq.cell? ⟨g1, c, none⟩ = some (.int .i64 CS[c]) := hcell
          obtain rfl : ro = some ⟨g1, 0, none⟩ := (unhide HRO).symm.trans eg1
          have HRC : Hid ((srR sec).getD c 0 = CS[c]) := hide (by rw [unhide HCQ]; simp [List.getD, hcx])
          clear eg1
          generalize CS[c] = Y at *
          by_cases hy : Y = 0
          · have by1 : (Y == 0) = true := by simp [hy]
            have HSK : Hid (srD sec (c + 1) = DA) := hide (by rw [← srD_skip sec (c := c) (by rw [unhide HRC]; exact hy)]; exact unhide HDA)
            have HDS2 : Hid (∀ j, j < c + 1 → daB1 sec j = true) := hide (fun j hj => by
              by_cases e : j = c
              · subst e; rw [daB1, decide_eq_true (by rw [unhide HRC]; exact hy)]; rfl
              · exact unhide HDS j (by omega))
            clear hy HRC
            go_wp2
            go_roundw
            case rel => exact ⟨c + 1, DA, by omega, by go_num, HSK, HDS2, HJ⟩
            case measure => simp [intOf]; omega
          · have by1 : (Y == 0) = false := by simp [hy]
            have HYN : Hid (decide ((srR sec).getD c 0 = 0) = false) := hide (decide_eq_false (by rw [unhide HRC]; exact hy))
            have HDAE : Hid (daR1 sec c = (openL (sec (15 + c)) 4).getD 0 0) := hide (by unfold daR1; rw [if_neg (by rw [unhide HRC]; exact hy)])
            have HDBE : Hid (daB1 sec c = (openB (sec (15 + c)) 4 && decide ((openL (sec (15 + c)) 4).length = 1))) := hide (by rw [daB1, unhide HYN]; rfl)
            have HBAD : Hid (daB1 sec c = false → srB sec = false) := hide (fun hh => sr_da hltc hh)
            have HST := hide (srD_set sec hltc)
            have hw15 : IntKind.i64.wrap (15 + (c : Int)) = 15 + (c : Int) := by rw [IntKind.wrap_i64]; omega
            clear hy HRC
            obtain ⟨d0, d1⟩ := (unhide HJ).d.cells
            go_wp2_with fail
            refine (unhide HNL (15 + c) (by omega) (15 + (c : Int)) (by omega) _ (unhide HJ).k).mono ?_
            rintro e w1 ⟨rfl, hb1⟩
            have HJ1 := hide ((unhide HJ).below hb1)
            clear hb1 d0 d1 HJ hcell
            go_wp2_with fail
            refine (l02Open_any (sec (15 + c)) 4 _ (unhide HSZ (15 + c))).mono ?_
            rintro e w2 ⟨sv, rfl, hs2, hb2⟩
            have HJ2 := hide ((unhide HJ1).below hb2)
            have HS2 := hide hs2
            obtain ⟨so, sc2, rfl, _⟩ := hs2
            clear hb2 HJ1
            generalize openL (sec (15 + c)) 4 = VL at *
            cases hob : openB (sec (15 + c)) 4
            · have HF := hide (unhide HBAD (by rw [unhide HDBE, hob]; rfl))
              clear hob
              obtain ⟨c0, c1, c2, c3⟩ := (unhide HJ2).r.cells
              obtain ⟨f0, f1, f2, f3⟩ := (unhide HJ2).r.free
              have HE := hide (setZ_var (unhide HJ2).r (unhide HJ2).k)
              unfold setZ at HE
              clear HJ2 HS2
              go_wp2
              refine bodyPost_ret (res_ic Tryz.results14 rfl rfl (unhide HE).1) rfl ?_
              exact AnsR.bad (unhide HF) (unhide HE).2
            by_cases hl1 : VL.length = 1
            case neg =>
              have hl1b : ((VL.length : Int) != 1) = true := by rw [bne_iff_ne]; omega
              have HF := hide (unhide HBAD (by rw [unhide HDBE, hob, decide_eq_false hl1]; rfl))
              clear hob hl1
              obtain ⟨c0, c1, c2, c3⟩ := (unhide HJ2).r.cells
              obtain ⟨f0, f1, f2, f3⟩ := (unhide HJ2).r.free
              have HE := hide (setZ_var (unhide HJ2).r (unhide HJ2).k)
              unfold setZ at HE
              clear HJ2 HS2
              go_wp2
              refine bodyPost_ret (res_ic Tryz.results14 rfl rfl (unhide HE).1) rfl ?_
              exact AnsR.bad (unhide HF) (unhide HE).2
            have hl1b : ((VL.length : Int) != 1) = false := by rw [hl1]; rfl
            have h0l : 0 < VL.length := by omega
            have h0li : (0 : Int) < (VL.length : Int) := by omega
            have HDS2 : Hid (∀ j, j < c + 1 → daB1 sec j = true) := hide (fun j hj => by
              by_cases e : j = c
              · subst e; rw [unhide HDBE, hob, decide_eq_true hl1]; rfl
              · exact unhide HDS j (by omega))
            obtain ⟨VV, HVV⟩ : ∃ VV, Hid (VL[0] = VV) := ⟨_, hide rfl⟩
            have HSK : Hid (srD sec (c + 1) = DA.set c VV) := hide (by
              rw [← unhide HST, unhide HDA, unhide HDAE, ← unhide HVV]
              simp [List.getD, h0l])
            obtain ⟨vg, vk, ev⟩ := (unhide HS2).form h0l
            simp only [Value.slice.injEq] at ev
            obtain ⟨rfl, _, rfl⟩ := ev
            have HVC : Hid (w2.cell? ⟨vg, 0, none⟩ = some (.int .i64 VV)) := hide (by rw [← unhide HVV]; exact (unhide HS2).at rfl h0l)
            have hdc : c < DA.length := by rw [unhide HDL]; exact hltc
            have hdci : (c : Int) < (DA.length : Int) := by omega
            obtain ⟨g, eg, hdcell, hdf, hset⟩ := (unhide HJ2).setD (c := c) hdc
            replace eg : a.dq = some ⟨g, 0, none⟩ := eg
            have HEG := hide eg
            have HDC := hide hdcell
            have HDF := hide hdf
            have HSET := hide hset
            clear hob hl1 eg hdcell hdf hset HS2
            go_upto_region 25 with fail

            generalize hA0 : (Act.mk _ _) = A0
            have s0 : A0.tmps.size = 159 := by subst hA0; rfl
            have e6 : ∀ hh, A0.tmps[6]'hh = .pointer (some ⟨X, 0, none⟩) := by subst hA0; intro hh; rfl
            have e15 : ∀ hh, A0.tmps[15]'hh = .int .i64 (c : Int) := by subst hA0; intro hh; rfl
            have e16 : ∀ hh, A0.tmps[16]'hh = .slice (some ⟨vg, 0, none⟩) VL.length sc2 := by subst hA0; intro hh; rfl
            have HA0 := hide hA0
            clear hA0
            have hS0 : Below w2.heap.size w2 w2.drew := (Below.refl _ _).drew
            refine wp_region_ord (fun w' => Below w2.heap.size w2 w') [0, 1, 2, 3, 4, 5] [(0, 0), (1, 0), (2, 0), (3, 0), (4, 0), (5, 0), (6, 4), (7, 3)] (by kernel_rfl) (by kernel_rfl) rfl (by kernel_rfl) ?_
            refine ord_readL (.pointer (some ⟨X, 3, none⟩)) rfl rfl hS0 (fun W hW => by go_simp) ?_
            intro A1 hA1
            replace hA1 : A1 = A0.put (some 149) (.pointer (some ⟨X, 3, none⟩)) := hA1
            have s1 := tm_sz hA1 s0
            clear e6
            replace e15 := tm_ne hA1 e15 (by decide)
            replace e16 := tm_ne hA1 e16 (by decide)
            have e149 := tm_eq hA1
            have HA1 := hide hA1
            clear hA1
            refine ord_readL (.slice (some ⟨g, 0, none⟩) DA.length a.dc) rfl rfl hS0 (fun W hW => by obtain ⟨k0, k1, k2, k3⟩ := ((unhide HJ2).below hW).v.cells; rw [unhide HEG] at k3; go_simp) ?_
            intro A2 hA2
            replace hA2 : A2 = A1.put (some 150) (.slice (some ⟨g, 0, none⟩) DA.length a.dc) := hA2
            have s2 := tm_sz hA2 s1
            replace e15 := tm_ne hA2 e15 (by decide)
            replace e16 := tm_ne hA2 e16 (by decide)
            clear e149
            have e150 := tm_eq hA2
            have HA2 := hide hA2
            clear hA2
            refine ord_readL (.int .i64 (c : Int)) rfl rfl hS0 (fun W hW => by go_simp; first | done | exact e15 _) ?_
            intro A3 hA3
            replace hA3 : A3 = A2.put (some 151) (.int .i64 (c : Int)) := hA3
            have s3 := tm_sz hA3 s2
            clear e15
            replace e16 := tm_ne hA3 e16 (by decide)
            replace e150 := tm_ne hA3 e150 (by decide)
            have e151 := tm_eq hA3
            have HA3 := hide hA3
            clear hA3
            refine ord_readL (.slice (some ⟨vg, 0, none⟩) VL.length sc2) rfl rfl hS0 (fun W hW => by go_simp; first | done | exact e16 _) ?_
            intro A4 hA4
            replace hA4 : A4 = A3.put (some 152) (.slice (some ⟨vg, 0, none⟩) VL.length sc2) := hA4
            have s4 := tm_sz hA4 s3
            clear e16
            replace e150 := tm_ne hA4 e150 (by decide)
            replace e151 := tm_ne hA4 e151 (by decide)
            have e152 := tm_eq hA4
            have HA4 := hide hA4
            clear hA4
            refine ord_readL (.pointer (some ⟨vg, 0, none⟩)) rfl rfl hS0 (fun W hW => by go_simp) ?_
            intro A5 hA5
            replace hA5 : A5 = A4.put (some 153) (.pointer (some ⟨vg, 0, none⟩)) := hA5
            have s5 := tm_sz hA5 s4
            replace e150 := tm_ne hA5 e150 (by decide)
            replace e151 := tm_ne hA5 e151 (by decide)
            clear e152
            have e153 := tm_eq hA5
            have HA5 := hide hA5
            clear hA5
            refine ord_readL (.int .i64 VV) rfl rfl hS0 (fun W hW => by have hc := (hW.cell (p := ⟨vg, 0, none⟩) (World.block_lt_of_cell? _ _ (unhide HVC))).trans (unhide HVC); go_simp) ?_
            intro A6 hA6
            replace hA6 : A6 = A5.put (some 154) (.int .i64 VV) := hA6
            have s6 := tm_sz hA6 s5
            replace e150 := tm_ne hA6 e150 (by decide)
            replace e151 := tm_ne hA6 e151 (by decide)
            clear e153
            have e154 := tm_eq hA6
            have HA6 := hide hA6
            clear hA6
            refine ord_valL (.pointer (some ⟨g, c, none⟩)) rfl rfl (fun W => by go_simp) ?_
            intro A7 hA7
            replace hA7 : A7 = A6.put (some 155) (.pointer (some ⟨g, c, none⟩)) := hA7
            have s7 := tm_sz hA7 s6
            clear e150
            clear e151
            replace e154 := tm_ne hA7 e154 (by decide)
            have e155 := tm_eq hA7
            have HA7 := hide hA7
            clear hA7
            have k0 := (hS0.cell (p := ⟨g, c, none⟩) (World.block_lt_of_cell? _ _ (unhide HDC))).trans (unhide HDC)
            have k1 : w2.drew.frozen? ⟨g, c, none⟩ = false := froz_below3 hS0 (unhide HDC) (unhide HDF)
            have HJ5 : Hid (RdK w (w2.setCell ⟨g, c, none⟩ (.int .i64 VV)).drew X da db a ⟨CS, TB, SN, DA.set c VV⟩ ts) := hide (unhide HSET w2.drew VV hS0)
            refine ord_alone rfl rfl ?_
            intro K hK
            unfold Oper.wp
            go_simp
            refine hK _ _ ?_
            clear hK K k0 k1 hS0
            refine ord_done ?_
            revert HJ5
            generalize (World.drew (World.setCell _ _ _)) = w5
            intro HJ5
            have hfin : A7 = putsA A0 149 [.pointer (some ⟨X, 3, none⟩), .slice (some ⟨g, 0, none⟩) DA.length a.dc, .int .i64 (c : Int), .slice (some ⟨vg, 0, none⟩) VL.length sc2, .pointer (some ⟨vg, 0, none⟩), .int .i64 VV, .pointer (some ⟨g, c, none⟩)] := by
              rw [unhide HA7, unhide HA6, unhide HA5, unhide HA4, unhide HA3, unhide HA2, unhide HA1]
              rfl
            rw [hfin, puts_out _ _ _ 159 s0 (by simp only [List.length_cons, List.length_nil]; omega)]
            have h0 := unhide HA0
            clear hfin HA7 HA6 HA5 HA4 HA3 HA2 HA1 HA0 s0 s1 s2 s3 s4 s5 s6 s7
            subst h0
            simp only [List.length_cons, List.length_nil, List.take_succ_cons, List.take_zero, List.drop_succ_cons, List.drop_zero, List.cons_append, List.nil_append]
            go_wp2
            go_roundw
            case rel => exact ⟨c + 1, DA.set c VV, by omega, by go_num, HSK, HDS2, HJ5⟩
            case measure => simp [intOf]; omega
        · obtain rfl : c = 24 := by omega
          clear hltc
          have HM : Hid (srM sec = ⟨CS, TB, SN, DA⟩) := hide (by rw [srM, unhide HCQ, unhide HTQ, unhide HN, unhide HSN, ← srD_all, unhide HDA])
          have HFIN : Hid (srB sec = imB ⟨CS, TB, SN, DA⟩) := hide (by rw [← unhide HM]; exact sr_fin (unhide HSUP) (unhide HCD) (unhide HTD) (fun i hi => unhide HTS i (by rw [unhide HN] at hi; exact hi)) (unhide HDS))
          have HTBL : Hid (TB.length ≤ 16384) := hide (by rw [← unhide HTQ]; exact openL_few3 _ (unhide HSZ 11))
          have HLL : Hid (ImL ⟨CS, TB, SN, DA⟩) := hide ⟨by rw [unhide HCL2]; unfold maxLen; omega, by have := unhide HTBL; unfold maxLen; simp only; omega, by have := unhide HSNL; have := unhide HN3; unfold maxLen; simp only; omega, by rw [unhide HDL]; unfold maxLen; omega⟩
          have HSH : Hid (ImS wq a ⟨CS, TB, SN, DA⟩) := hide ((unhide HJ).o.shows (fun s hs => by
            have hs' : s ∈ srSn sec k := by rw [unhide HSN]; exact hs
            obtain ⟨i, hi, rfl⟩ := List.mem_map.1 hs'
            refine ⟨?_, by have := openL_few3 (sec (12 + i)) (unhide HSZ (12 + i)); unfold maxLen; simp only [snR1]; omega⟩
            have := unT_short ((srS sec).getD (1 + i) 0)
            simp only [snR1]
            unfold maxLen; omega))
          go_upto_region 26 with fail
          generalize hA0 : (Act.mk _ _) = A0
          have s0 : A0.tmps.size = 159 := by subst hA0; rfl
          have e4 : ∀ hh, A0.tmps[4]'hh = .pointer (some ⟨w.heap.size + 1, 0, none⟩) := by subst hA0; intro hh; rfl
          have e6 : ∀ hh, A0.tmps[6]'hh = .pointer (some ⟨X, 0, none⟩) := by subst hA0; intro hh; rfl
          have HA0 := hide hA0
          clear hA0
          have HB0 : Hid (Below wq.heap.size wq wq.drew) := hide (Below.refl _ _).drew
          refine wp_region_ord (fun w' => Below wq.heap.size wq w') [0, 1, 2] [(0, 0), (1, 0), (2, 2), (3, 3), (4, 4)] (by kernel_rfl) (by kernel_rfl) rfl (by kernel_rfl) ?_
          refine ord_readL (imV a ⟨CS, TB, SN, DA⟩) rfl rfl (unhide HB0) (fun W hW => by obtain ⟨k0, k1, k2, k3⟩ := ((unhide HJ).below hW).v.cells; go_simp) ?_
          intro A1 hA1
          replace hA1 : A1 = A0.put (some 156) (imV a ⟨CS, TB, SN, DA⟩) := hA1
          have s1 := tm_sz hA1 s0
          replace e4 := tm_ne hA1 e4 (by decide)
          replace e6 := tm_ne hA1 e6 (by decide)
          have e156 := tm_eq hA1
          have HA1 := hide hA1
          clear hA1
          refine ord_readL (imV a ⟨CS, TB, SN, DA⟩) rfl rfl (unhide HB0) (fun W hW => by obtain ⟨k0, k1, k2, k3⟩ := ((unhide HJ).below hW).v.cells; go_simp) ?_
          intro A2 hA2
          replace hA2 : A2 = A1.put (some 157) (imV a ⟨CS, TB, SN, DA⟩) := hA2
          have s2 := tm_sz hA2 s1
          replace e4 := tm_ne hA2 e4 (by decide)
          clear e6
          replace e156 := tm_ne hA2 e156 (by decide)
          have e157 := tm_eq hA2
          have HA2 := hide hA2
          clear hA2
          refine ord_held rfl rfl ?_
          intro K hK
          unfold Oper.wp
          go_simp
          refine (imageOK_spec a ⟨CS, TB, SN, DA⟩ _ (unhide HLL) ((unhide HSH).below (unhide HB0))).mono ?_
          rintro e w6 ⟨rfl, hb6⟩
          have HB6 := hide (fr (unhide HB0) hb6)
          have HJ6 := hide ((unhide HJ).below (unhide HB6))
          clear hb6 HSH HJ
          rw [← unhide HFIN]
          refine hK _ _ (unhide HB6) ?_
          clear hK K
          obtain ⟨A3, hA3⟩ : ∃ A, A = A2.put (some 158) (.bool (srB sec)) := ⟨_, rfl⟩
          change wpOrd _ _ _ _ _ _ (A2.put (some 158) (.bool (srB sec))) _
          rw [← hA3]
          have s3 := tm_sz hA3 s2
          replace e4 := tm_ne hA3 e4 (by decide)
          replace e156 := tm_ne hA3 e156 (by decide)
          clear e157
          have e158 := tm_eq hA3
          have HA3 := hide hA3
          clear hA3
          have HP := hide (unhide HJ6).fin
          unfold putI at HP
          obtain ⟨r0, r1, r2, r3⟩ := (unhide HJ6).r.cells
          obtain ⟨z0, z1, z2, z3⟩ := (unhide HJ6).r.free
          refine ord_alone rfl rfl ?_
          intro K hK
          unfold Oper.wp
          go_simp
          refine hK _ _ ?_
          clear hK K r0 r1 r2 r3 z0 z1 z2 z3
          refine ord_valL (.bool (srB sec)) rfl rfl (fun W => by go_simp; first | done | exact e158 _) ?_
          intro A4 hA4
          replace hA4 : A4 = A3.put (some 5) (.bool (srB sec)) := hA4
          have s4 := tm_sz hA4 s3
          replace e4 := tm_ne hA4 e4 (by decide)
          clear e156
          clear e158
          have e5 := tm_eq hA4
          have HA4 := hide hA4
          clear hA4
          refine ord_done ?_
          have hp4 := tm_ev e4 s4 (by decide)
          have hp5 := tm_ev e5 s4 (by decide)
          have HP4 := hide hp4
          have HP5 := hide hp5
          clear hp4 hp5 e4 e5
          have HDF := hide (show A4.defers = [] by rw [unhide HA4, unhide HA3, unhide HA2, unhide HA1, ← unhide HA0]; rfl)
          go_wp2
          refine bodyPost_ret (res_ic Tryz.results14 (unhide HP4) (unhide HP5) (unhide HP).1) (unhide HDF) ?_
          exact ⟨a, ⟨CS, TB, SN, DA⟩, ts, rfl, (unhide HP).2.1, fun _ => (unhide HM).symm, (unhide HP).2.2⟩

end Go.Proofs.YtjjkppknojecjaaGreatDoor
