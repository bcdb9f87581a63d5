/- What sectors and names say together, plainly, as the program puts it; the closure that reads. -/
import Derived.Test.YthnpooffhopnkacGreatDoorRows
import Derived.Test.YthnpooffhopnkacGreatDoorPart1
import Derived.Test.YthnpooffhopnkacGreatDoorPart6
import Derived.Test.YthnpooffhopnkacGreatDoorPart8
import Derived.Test.YthnpooffhopnkacGreatDoorPart9
import Derived.Test.YthnpooffhopnkacGreatDoorPart15
import Derived.Test.YthnpooffhopnkacGreatDoorPart19
import Derived.Test.YthnpooffhopnkacGreatDoorPart28
import Derived.Test.YthnpooffhopnkacGreatDoorPart37
import Derived.Test.YthnpooffhopnkacGreatDoorPart26
import Derived.Test.YthnpooffhopnkacGreatDoorPart27
import Derived.Test.YthnpooffhopnkacGreatDoorPart36
import Derived.Test.YthnpooffhopnkacGreatDoorPart18
import Derived.WalkKit
import Derived.WalkSpells

namespace Go.Proofs.YthnpooffhopnkacGreatDoor
open Go.RowKit
set_option linter.unusedVariables false
set_option maxRecDepth 100000

/-- The image that names and sectors tell, and whether they do. -/
def riS (ns : List ByteArray) (sec : Nat → ByteArray) (k : Nat) : List Snp := (List.range k).map (fun i => ⟨ns.getD i ⟨#[]⟩, openL (sec (12 + i)) 3⟩)
def riV (sec : Nat → ByteArray) (c : Nat) : Int := if 0 < (cdL (sec 10)).getD c 0 then (openL (sec (15 + c)) 4).getD 0 0 else 0
def riD (sec : Nat → ByteArray) (k : Nat) : List Int := (List.range 24).map (fun c => if c < k then riV sec c else 0)
def riM (ns : List ByteArray) (sec : Nat → ByteArray) : Img := ⟨cdL (sec 10), openL (sec 11) 3, riS ns sec ns.length, riD sec 24⟩
def riB (ns : List ByteArray) (sec : Nat → ByteArray) : Bool := cdB (sec 10) && (tdB (sec 11) && ((List.range ns.length).all (fun i => tdB (sec (12 + i))) && ((List.range 24).all (fun c => decide (¬ 0 < (cdL (sec 10)).getD c 0) || vlB (sec (15 + c))) && imB (riM ns sec))))
theorem ri_c {ns : List ByteArray} {sec : Nat → ByteArray} (h : cdB (sec 10) = false) : riB ns sec = false := by rw [riB, h]; rfl
theorem ri_t {ns : List ByteArray} {sec : Nat → ByteArray} (h : tdB (sec 11) = false) : riB ns sec = false := by rw [riB, h]; simp
theorem ri_s {ns : List ByteArray} {sec : Nat → ByteArray} {k : Nat} (hk : k < ns.length) (h : tdB (sec (12 + k)) = false) : riB ns sec = false := by
  have : (List.range ns.length).all (fun i => tdB (sec (12 + i))) = false := by
    rw [← Bool.not_eq_true, List.all_eq_true]
    intro h2
    have := h2 k (List.mem_range.2 hk)
    rw [h] at this; cases this
  rw [riB, this]; simp
theorem ri_d {ns : List ByteArray} {sec : Nat → ByteArray} {c : Nat} (hc : c < 24) (hp : 0 < (cdL (sec 10)).getD c 0) (h : vlB (sec (15 + c)) = false) : riB ns sec = false := by
  have : (List.range 24).all (fun c => decide (¬ 0 < (cdL (sec 10)).getD c 0) || vlB (sec (15 + c))) = false := by
    rw [← Bool.not_eq_true, List.all_eq_true]
    intro h2
    have := h2 c (List.mem_range.2 hc)
    rw [h, decide_eq_false (by simpa using hp)] at this; cases this
  rw [riB, this]; simp
theorem ri_i {ns : List ByteArray} {sec : Nat → ByteArray} (h : imB (riM ns sec) = false) : riB ns sec = false := by rw [riB, h]; simp
theorem ri_yes {ns : List ByteArray} {sec : Nat → ByteArray} (h1 : cdB (sec 10) = true) (h2 : tdB (sec 11) = true) (h3 : ∀ i, i < ns.length → tdB (sec (12 + i)) = true) (h4 : ∀ c, c < 24 → 0 < (cdL (sec 10)).getD c 0 → vlB (sec (15 + c)) = true) (h5 : imB (riM ns sec) = true) : riB ns sec = true := by
  have e3 : (List.range ns.length).all (fun i => tdB (sec (12 + i))) = true := List.all_eq_true.2 (fun i hi => h3 i (List.mem_range.1 hi))
  have e4 : (List.range 24).all (fun c => decide (¬ 0 < (cdL (sec 10)).getD c 0) || vlB (sec (15 + c))) = true := List.all_eq_true.2 (fun c hc => by
    by_cases hp : 0 < (cdL (sec 10)).getD c 0
    · rw [h4 c (List.mem_range.1 hc) hp]; simp
    · rw [decide_eq_true hp]; rfl)
  rw [riB, h1, h2, e3, e4, h5]; rfl
theorem riS_succ (ns : List ByteArray) (sec : Nat → ByteArray) (k : Nat) : riS ns sec (k + 1) = riS ns sec k ++ [⟨ns.getD k ⟨#[]⟩, openL (sec (12 + k)) 3⟩] := by
  unfold riS
  rw [List.range_succ, List.map_append]; rfl
theorem riS_len (ns : List ByteArray) (sec : Nat → ByteArray) (k : Nat) : (riS ns sec k).length = k := by simp [riS]
theorem riD_len (sec : Nat → ByteArray) (k : Nat) : (riD sec k).length = 24 := by simp [riD]
theorem riD_zero (sec : Nat → ByteArray) : riD sec 0 = List.replicate 24 0 := by
  unfold riD
  simp only [Nat.not_lt_zero, if_false]
  decide
theorem riD_set (sec : Nat → ByteArray) {c : Nat} (hc : c < 24) : (riD sec c).set c (riV sec c) = riD sec (c + 1) := by
  apply List.ext_getElem
  · simp [riD]
  · intro j h1 h2
    simp only [riD, List.getElem_set, List.getElem_map, List.getElem_range]
    by_cases e : c = j
    · subst e; simp
    · rw [if_neg e]
      by_cases h3 : j < c
      · rw [if_pos h3, if_pos (by omega)]
      · rw [if_neg h3, if_neg (by omega)]
theorem riD_skip (sec : Nat → ByteArray) {c : Nat} (h : ¬ 0 < (cdL (sec 10)).getD c 0) : riD sec c = riD sec (c + 1) := by
  unfold riD
  apply List.map_congr_left
  intro j _
  by_cases h3 : j < c
  · rw [if_pos h3, if_pos (by omega)]
  · by_cases e : j = c
    · subst e; rw [if_neg h3, if_pos (by omega), riV, if_neg h]
    · rw [if_neg h3, if_neg (by omega)]

/-- A disk and a host in variables that a closure has. -/
structure SeeW (W : World) (x y : Nat) (ss : List ByteArray) (xs : List Wr) (h : Int) : Prop where
  d : ∃ ao ca bo cb, VarD W x (.slice ao ss.length ca) (.slice bo xs.length cb) ∧ Ss W ao ss ∧ Ios W bo xs
  h : W.cell? ⟨y, 0, none⟩ = some (.int .i64 h)
theorem SeeW.below {W W' : World} {x y : Nat} {ss : List ByteArray} {xs : List Wr} {h : Int} (k : SeeW W x y ss xs h) (hb : Below W.heap.size W W') : SeeW W' x y ss xs h := by
  obtain ⟨ao, ca, bo, cb, h1, h2, h3⟩ := k.d
  exact ⟨⟨ao, ca, bo, cb, h1.below hb, h2.below hb, h3.below hb⟩, (hb.cell (World.block_lt_of_cell? _ _ k.h)).trans k.h⟩
def seeV (x y : Nat) : Value := .func (.func 30) #[] #[.pointer (some ⟨x, 0, none⟩), .pointer (some ⟨y, 0, none⟩)]

set_option maxHeartbeats 1600000 in
theorem see_any (x y p : Nat) (ss : List ByteArray) (xs : List Wr) (h : Int) (w : World) (hp : p < 64) (hd : diskB ss xs = true) (k : SeeW w x y ss xs h) :
    Calls Tryz.prog 30 #[.int .i64 p, .pointer (some ⟨x, 0, none⟩), .pointer (some ⟨y, 0, none⟩)] w fun e w' => e = .returned (.string (secV ss xs h p)) ∧ Below w.heap.size w w' := by
  obtain ⟨ao, ca, bo, cb, h1, h2, h3⟩ := k.d
  obtain ⟨l1, l2⟩ := diskB_len hd
  obtain ⟨c0, c1⟩ := h1.cells
  have c2 := k.h
  have H2 := hide h2
  have H3 := hide h3
  have HL1 := hide l1
  have HL2 := hide l2
  have HE : Hid (secV ss xs h p = readV ss xs h p) := hide rfl
  clear h1 h2 h3 l1 l2 hd k
  go_enter Tryz.func30, Tryz.ntmps30
  go_wp2_with fail
  refine (seenBy_any ao bo ca cb ss xs h p _ (unhide HL2) (by have := unhide HL1; omega) (by have := unhide HL1; omega) (unhide H2) (unhide H3)).mono ?_
  rintro e w1 ⟨rfl, hb⟩
  have HB := hide hb
  clear hb c0 c1 c2
  go_wp2
  go_ret
  exact ⟨by rw [unhide HE]; rfl, unhide HB⟩

/-- How far readImage has come: its result's variable, its counts, its image. -/
structure RdJ (w W : World) (y x : Nat) (cs : List Int) (a : Im4) (M : Img) (ts : List Value) : Prop where
  k : Below w.heap.size w W
  r : VarM W w.heap.size 26 (.slice none 0 0) (.slice none 0 0) (.slice none 0 0) (.slice none 0 0)
  c : VarC W y cs
  v : VarM W x 26 (.slice a.ro M.refs.length a.rc) (.slice a.tq M.table.length a.tc) (.slice a.so M.snaps.length a.sc) (.slice a.dq M.data.length a.dc)
  o : OwnIm W w.heap.size a M ts
  hx : w.heap.size < x
  f : M.snaps.length = 0 → a.sc = 0
theorem RdJ.below {w W W' : World} {y x : Nat} {cs : List Int} {a : Im4} {M : Img} {ts : List Value} (J : RdJ w W y x cs a M ts) (hb : Below W.heap.size W W') : RdJ w W' y x cs a M ts :=
  ⟨fr J.k hb, J.r.below hb, block_of_below J.c hb, J.v.below hb, J.o.below hb, J.hx, J.f⟩
theorem own_setV {W : World} {B x : Nat} {a : Im4} {M : Img} {ts : List Value} {v0 v1 v2 v3 : Value} (h : OwnIm W B a M ts) (hv : VarM W x 26 v0 v1 v2 v3) (i : Nat) (u : Value) : OwnIm (W.setCell ⟨x, i, none⟩ u) B a M ts :=
  h.keep ((Keep.refl (fun g => g = x) W).setCell (p := ⟨x, i, none⟩) rfl u) (fun g hg e => h.other hv (e ▸ hg))
theorem varC_other {W : World} {y : Nat} {cs : List Int} (h : VarC W y cs) {p : Addr} (hp : y ≠ p.block) (u : Value) : VarC (W.setCell p u) y cs := by
  show (W.setCell p u).heap[y]? = _
  rw [Below.heap_setCell W p u y hp]
  exact h
theorem varC_ne {W : World} {x y : Nat} {cs : List Int} {v0 v1 v2 v3 : Value} (h : VarC W y cs) (hv : VarM W x 26 v0 v1 v2 v3) : y ≠ x := by
  intro e
  subst e
  have h1 : some _ = some _ := h.symm.trans hv
  simp only [Option.some.injEq, Obj.cells.injEq] at h1
  exact absurd h1.2.1 (by decide)
theorem RdJ.addS {w W w3 w4 : World} {y x g2 cap2 : Nat} {cs : List Int} {a : Im4} {M : Img} {ts : List Value} {name : ByteArray} {t : Value} {tbl : List Int} (J : RdJ w W y x cs a M ts) (hb : Below W.heap.size W w3) (ht : OwnN w3 W.heap.size t tbl)
    (ho : w4.ownsRow w.heap.size 75 2 (.slice (some ⟨g2, 0, none⟩) (M.snaps.length + 1) cap2) (M.snaps.length + 1) (snC M.snaps ts ++ [.string name, t])) (hk : Keep (Own (.slice a.so M.snaps.length a.sc)) w3 w4) :
    RdJ w (w4.setCell ⟨x, 2, none⟩ (.slice (some ⟨g2, 0, none⟩) (M.snaps.length + 1) cap2)) y x cs { a with so := some ⟨g2, 0, none⟩, sc := cap2 } { M with snaps := M.snaps ++ [⟨name, tbl⟩] } (ts ++ [t]) ∧ VarM w4 x 26 (.slice a.ro M.refs.length a.rc) (.slice a.tq M.table.length a.tc) (.slice a.so M.snaps.length a.sc) (.slice a.dq M.data.length a.dc) := by
  have J3 := J.below hb
  have hv4 : VarM w4 x 26 (.slice a.ro M.refs.length a.rc) (.slice a.tq M.table.length a.tc) (.slice a.so M.snaps.length a.sc) (.slice a.dq M.data.length a.dc) := (hk.block _ J3.v.lt (J3.o.s.other J3.v (by decide))).trans J3.v
  have hr4 : VarM w4 w.heap.size 26 (.slice none 0 0) (.slice none 0 0) (.slice none 0 0) (.slice none 0 0) := (hk.block _ J3.r.lt (J3.o.s.other J3.r (by decide))).trans J3.r
  have hc4 : VarC w4 y cs := (hk.block _ (Array.getElem?_eq_some_iff.1 J3.c).1 (J3.o.s.other J3.c (by decide))).trans J3.c
  have ho4 := OwnIm.addS J.o J.k.size hb ht ho hk
  have hb4 : Below w.heap.size w w4 := J3.k.trans (hk.below J3.k.size (fun g hg => (J3.o.s.ge g hg).1))
  refine ⟨⟨hb4.setCell (p := ⟨x, 2, none⟩) (Nat.le_of_lt J.hx) _, hr4.other (p := ⟨x, 2, none⟩) (Nat.ne_of_lt J.hx) _, varC_other hc4 (p := ⟨x, 2, none⟩) (varC_ne hc4 hv4) _, ?_, own_setV ho4 hv4 2 _, J.hx, fun h => by simp at h⟩, hv4⟩
  simp only [List.length_append, List.length_singleton]
  exact hv4.set2 _
theorem RdJ.setD {w W : World} {y x c : Nat} {cs : List Int} {a : Im4} {M : Img} {ts : List Value} (J : RdJ w W y x cs a M ts) (hc : c < M.data.length) : ∃ g, a.dq = some ⟨g, 0, none⟩ ∧ W.cell? ⟨g, c, none⟩ = some (.int .i64 M.data[c]) ∧ W.frozen? ⟨g, c, none⟩ = false ∧ ∀ W' n, Below W.heap.size W W' → RdJ w (W'.setCell ⟨g, c, none⟩ (.int .i64 n)) y x cs a { M with data := M.data.set c n } ts := by
  obtain ⟨g, e, h1, h2, h3, _⟩ := J.o.setD hc
  refine ⟨g, e, h1, h2, fun W' n hb => ?_⟩
  have J' := J.below hb
  obtain ⟨g', e', h1', h2', h3', h4'⟩ := J'.o.setD hc
  rw [e] at e'
  cases e'
  have hgv : x ≠ g := fun hh => J'.o.other J'.v (hh ▸ h3')
  have hgr : w.heap.size ≠ g := fun hh => J'.o.other J'.r (hh ▸ h3')
  have hgc : y ≠ g := fun hh => by
    subst hh
    rcases h3' with q | q | q | q | ⟨t, ht, q⟩
    · exact (J'.o.rows.own (.slice a.ro M.refs.length a.rc, M.refs) (by simp [imRows])).row.other J'.c (by decide) q
    · exact (J'.o.rows.own (.slice a.tq M.table.length a.tc, M.table) (by simp [imRows])).row.other J'.c (by decide) q
    · exact (J'.o.rows.own (.slice a.dq M.data.length a.dc, M.data) (by simp [imRows])).row.other J'.c (by decide) q
    · exact J'.o.s.other J'.c (by decide) q
    · have hm : t ∈ (ts.zip (M.snaps.map (·.table))).map Prod.fst := by rw [zip_fst _ _ (by rw [List.length_map, J'.o.len])]; exact ht
      obtain ⟨p, hp, rfl⟩ := List.mem_map.1 hm
      exact (J'.o.rows.own p (by simp [imRows, hp])).row.other J'.c (by decide) q
  refine ⟨J'.k.setCell (p := ⟨g, c, none⟩) (J'.o.ge g h3').1 _, J'.r.other (p := ⟨g, c, none⟩) hgr _, varC_other J'.c (p := ⟨g, c, none⟩) hgc _, ?_, h4' n, J.hx, J.f⟩
  simp only [List.length_set]
  exact J'.v.other (p := ⟨g, c, none⟩) hgv _
/-- Three may come up. -/
theorem tree_three {P : Program} {Q : Exit → Act → World → Prop} {S : World → Prop} {l : List Oper} {hl : List Nat} {fuel i j k : Nat} {oi oj ok : Oper} {listed : Array Bool} {a : Act} {w : World} (hi : l[i]? = some oi) (hj : l[j]? = some oj) (hk : l[k]? = some ok) (gi : oi.guard = none) (gj : oj.guard = none) (gk : ok.guard = none) (hB : (Region.ready .any l.toArray listed == [i, j, k]) = true)
    (h1 : ∀ K : Act → World → Prop, (∀ a' w', (i ∈ hl → S w') → wpT P l Q S hl fuel (listed.setIfInBounds i true) a' w' → K a' w') → oi.wp P a w K Q)
    (h2 : ∀ K : Act → World → Prop, (∀ a' w', (j ∈ hl → S w') → wpT P l Q S hl fuel (listed.setIfInBounds j true) a' w' → K a' w') → oj.wp P a w K Q)
    (h3 : ∀ K : Act → World → Prop, (∀ a' w', (k ∈ hl → S w') → wpT P l Q S hl fuel (listed.setIfInBounds k true) a' w' → K a' w') → ok.wp P a w K Q) : wpT P l Q S hl (fuel + 1) listed a w := fun hc => by
  have hr : Region.ready .any l.toArray listed = [i, j, k] := by simpa using hB
  refine ⟨fun h0 => (by rw [hr] at h0; cases h0), fun q hq => ?_⟩
  have hq' : q = i ∨ q = j ∨ q = k := by rw [hr] at hq; simpa using hq
  rcases hq' with rfl | rfl | rfl
  · unfold wpOp
    have e : l.toArray[q]? = some oi := by simpa using hi
    simp only [e]
    rw [if_pos (by simp [Region.wanted, gi])]
    exact .inl (h1 _ (fun a' w' hS h3 => ⟨hS, h3 (closed_set hc hq)⟩))
  · unfold wpOp
    have e : l.toArray[q]? = some oj := by simpa using hj
    simp only [e]
    rw [if_pos (by simp [Region.wanted, gj])]
    exact .inl (h2 _ (fun a' w' hS h3 => ⟨hS, h3 (closed_set hc hq)⟩))
  · unfold wpOp
    have e : l.toArray[q]? = some ok := by simpa using hk
    simp only [e]
    rw [if_pos (by simp [Region.wanted, gk])]
    exact .inl (h3 _ (fun a' w' hS h3 => ⟨hS, h3 (closed_set hc hq)⟩))

end Go.Proofs.YthnpooffhopnkacGreatDoor
