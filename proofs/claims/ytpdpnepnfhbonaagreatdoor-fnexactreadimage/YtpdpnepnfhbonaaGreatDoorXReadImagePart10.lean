import Derived.Test.YtpdpnepnfhbonaaGreatDoorXReadImagePart1
import Derived.Test.YtpdpnepnfhbonaaGreatDoorXReadImagePart4
import Derived.Test.YtpdpnepnfhbonaaGreatDoorXReadImagePart7
import Derived.WalkKit
import Derived.WalkSpells
import Derived.OrdersHeld
import Derived.Deep.RegionHeld3
import Derived.Test.YtpdpnepnfhbonaaGreatDoorRows
import Derived.Test.YtpdpnepnfhbonaaGreatDoorXReadImagePart6
import Derived.Test.YtpdpnepnfhbonaaGreatDoorXReadImagePart2
import Derived.Test.YtpdpnepnfhbonaaGreatDoorXReadImagePart3
import Derived.Test.YtpdpnepnfhbonaaGreatDoorXReadImagePart9
import Derived.Test.YtpdpnepnfhbonaaGreatDoorXReadImagePart5
import Derived.KernelRfl
import Derived.LoopN
import Derived.BigQuiet
import Derived.Deep.QuietTactic
import Derived.Deep.RegionWith

namespace Go.Proofs.YtpdpnepnfhbonaaGreatDoor
open Go.RowKit
set_option linter.unusedVariables false

section
variable {P : Program} {Q : Exit → Act → World → Prop} {S S' : World → Prop} {C : Act → World → Prop} {l : List Oper} {hl : List Nat}

def PanQ (Q : Exit → Act → World → Prop) : Prop := ∀ c d v (a : Act) w, Q (.panic c) (a.put d v) w → Q (.panic c) a w
theorem anyR_of_ordP (hs : Region.noSelect l.toArray = true) (hQ : PanQ Q) (fuel : Nat) : ∀ (ord : List (Nat × Nat)) (listed : Array Bool) (a : Act) (w : World), Closed l (lsD listed) → rgOrdB l hl ord listed = true → wpOrd P l Q S (fun a w => Closed l (lsD (rgSet ord listed)) → wpAnyR P l Q S hl fuel (rgSet ord listed) a w) ord a w → wpAnyR P l Q S hl (ord.length + fuel) listed a w
  | [], listed, a, w, hc, hB, h => by simpa [rgSet] using h hc
  | (i, k) :: r, listed, a, w, hc, hB, h => by
    rw [show ((i, k) :: r).length + fuel = (r.length + fuel) + 1 by simp only [List.length_cons]; omega]
    have hrs : rgSet ((i, k) :: r) listed = rgSet r (listed.setIfInBounds i true) := rfl
    rw [hrs] at h
    obtain ⟨C, hC⟩ : ∃ C, C = (fun a w => Closed l (lsD (rgSet r (listed.setIfInBounds i true))) → wpAnyR P l Q S hl fuel (rgSet r (listed.setIfInBounds i true)) a w) := ⟨_, rfl⟩
    rw [← hC] at h
    unfold rgOrdB at hB
    rw [Bool.and_eq_true] at hB
    obtain ⟨hB1, hB2⟩ := hB
    have hone : ∀ (hrd : Region.ready .any l.toArray listed = [i]) (hw : ∀ o, l[i]? = some o → Region.wanted o (yielded l.toArray a.tmps) = true ∧ o.wp P a w (fun a' w' => (i ∈ hl → S w') ∧ wpOrd P l Q S C r a' w') Q), wpAnyR P l Q S hl (r.length + fuel + 1) listed a w := by
      intro hrd hw
      refine ⟨fun h0 => (by rw [hrd] at h0; cases h0), fun j hj => ?_⟩
      have hji : j = i := by rw [hrd] at hj; simpa using hj
      subst hji
      obtain ⟨_, o, ho, _⟩ := mem_ready.1 hj
      have ho' : l[j]? = some o := by simpa using ho
      obtain ⟨h1, h2⟩ := hw o ho'
      unfold wpOp
      simp only [ho]
      rw [if_pos h1]
      exact .inl (Oper.wp_mono (fun a' w' h3 => ⟨h3.1, anyR_of_ordP hs hQ fuel r _ a' w' (closed_set hc hj) hB2 (hC ▸ h3.2)⟩) h2)
    have hfirst : ∀ (v : Value) (S' : World → Prop) (hf : rgFrB l listed i = true) (hSS : ∀ w, S w → S' w) (hst : ∀ j, j < l.length → j ∉ hl → j ≠ i → Anc l j i ∨ ((∀ w, S' w) ∧ i ∉ hl)) (hS' : S' w) (hSw : i ∈ hl → S w)
        (hy : ∀ o, l[i]? = some o → YieldsIf P l.toArray S' o v a ∧ wpOrd P l Q S C r (a.put o.dst v) w), wpAnyR P l Q S hl (r.length + fuel + 1) listed a w := by
      intro v S' hf hSS hst hS' hSw hy
      unfold rgFrB at hf
      rw [Bool.and_eq_true] at hf
      have hir : i ∈ Region.ready .any l.toArray listed := by simpa using hf.1
      obtain ⟨_, o, ho, _⟩ := mem_ready.1 hir
      have ho' : l[i]? = some o := by simpa using ho
      obtain ⟨h1, h2⟩ := hy o ho'
      exact wpAnyR_first ho (Region.noSelect_spec hs) (fun c a w h => hQ _ _ _ _ _ h) hSS hst (r.length + fuel) listed a w hc (Region.free_spec ho hf.2) hir h1 hS' hSw (anyR_of_ordP hs hQ fuel r _ _ _ (closed_set hc hir) hB2 (hC ▸ h2))
    match k, hB1, h with
    | 0, hB1, h =>
      simp only [Bool.and_eq_true] at hB1
      have hir : i ∈ Region.ready .any l.toArray listed := by have := hB1.1; unfold rgFrB at this; rw [Bool.and_eq_true] at this; simpa using this.1
      obtain ⟨_, o, ho, _⟩ := mem_ready.1 hir
      have ho' : l[i]? = some o := by simpa using ho
      obtain ⟨h1, h2, v, h3, h4⟩ := h o ho'
      exact hfirst v S hB1.1 (fun _ h => h) (fun j a b c => .inl (rgSt_spec hB1.2 j a b c)) h2 (fun _ => h2) (fun o2 ho2 => by
        rw [ho'] at ho2
        cases ho2
        exact ⟨.inl ⟨h1, h3⟩, h4⟩)
    | 1, hB1, h =>
      simp only [Bool.and_eq_true, Bool.not_eq_true'] at hB1
      exact hfirst undef (fun _ => True) hB1.2 (fun _ _ => trivial) (fun _ _ _ _ => .inr ⟨fun _ => trivial, by simpa using hB1.1⟩) trivial (fun h6 => absurd h6 (by simpa using hB1.1)) (fun o ho => ⟨.inr ⟨(h o ho).1, rfl⟩, (h o ho).2⟩)
    | 2, hB1, h =>
      simp only [Bool.and_eq_true, beq_iff_eq] at hB1
      exact hone hB1.2 (fun o ho => ⟨(h o ho).1, Oper.wp_mono (fun a' w' h3 => ⟨fun _ => h3.1, h3.2⟩) (h o ho).2⟩)
    | 3, hB1, h =>
      simp only [Bool.and_eq_true, beq_iff_eq, Bool.not_eq_true'] at hB1
      exact hone hB1.2 (fun o ho => ⟨(h o ho).1, Oper.wp_mono (fun a' w' h3 => ⟨fun h6 => absurd h6 (by simpa using hB1.1), h3⟩) (h o ho).2⟩)
    | 4, hB1, h =>
      simp only [Bool.and_eq_true, Bool.not_eq_true'] at hB1
      have hir : i ∈ Region.ready .any l.toArray listed := by have := hB1.2; unfold rgFrB at this; rw [Bool.and_eq_true] at this; simpa using this.1
      obtain ⟨_, o, ho, _⟩ := mem_ready.1 hir
      have ho' : l[i]? = some o := by simpa using ho
      obtain ⟨h1, v, h3, h4⟩ := h o ho'
      exact hfirst v (fun _ => True) hB1.2 (fun _ _ => trivial) (fun _ _ _ _ => .inr ⟨fun _ => trivial, by simpa using hB1.1⟩) trivial (fun h6 => absurd h6 (by simpa using hB1.1)) (fun o2 ho2 => by
        rw [ho'] at ho2
        cases ho2
        exact ⟨.inl ⟨h1, fun w' _ => h3 w'⟩, h4⟩)
    | 5, hB1, h =>
      simp only [Bool.and_eq_true] at hB1
      have hir : i ∈ Region.ready .any l.toArray listed := by have := hB1.1; unfold rgFrB at this; rw [Bool.and_eq_true] at this; simpa using this.1
      obtain ⟨_, o, ho, _⟩ := mem_ready.1 hir
      have ho' : l[i]? = some o := by simpa using ho
      obtain ⟨h1, h2, h4⟩ := h o ho'
      exact hfirst undef S hB1.1 (fun _ h => h) (fun j a b c => .inl (rgSt_spec hB1.2 j a b c)) h2 (fun _ => h2) (fun o2 ho2 => by
        rw [ho'] at ho2
        cases ho2
        exact ⟨.inr ⟨h1, rfl⟩, h4⟩)
    | n + 6, hB1, h =>
      simp only [Bool.and_eq_true, Bool.not_eq_true'] at hB1
      exact hfirst undef (fun _ => True) hB1.2 (fun _ _ => trivial) (fun _ _ _ _ => .inr ⟨fun _ => trivial, by simpa using hB1.1⟩) trivial (fun h6 => absurd h6 (by simpa using hB1.1)) (fun o ho => ⟨.inr ⟨(h o ho).1, rfl⟩, (h o ho).2⟩)

theorem wp_region_ordP {id : Nat} {a : Act} {w : World} (hQ : PanQ Q) (S : World → Prop) (hl : List Nat) (ord : List (Nat × Nat)) (hm : P.follows .mixedOrders = true) (hs : Region.noSelect l.toArray = true) (hn : ord.length = l.length) (hB : (rgOrdB l hl ord (Array.replicate l.length false) && (Region.ready .any l.toArray (rgSet ord (Array.replicate l.length false))).isEmpty) = true)
    (h : wpOrd P l Q S (fun a w => Q .normal a w) ord a w.drew) : (Code.region id l.toArray true).wp P Q a w := by
  refine wp_region_any hm (wpAny_of_R (S := S) (hl := hl) _ _ _ _ ?_)
  rw [Bool.and_eq_true] at hB
  have := anyR_of_ordP (P := P) (Q := Q) (S := S) (hl := hl) hs hQ 0 ord _ a w.drew (closed_none _) hB.1 (ord_imp (fun a w h _ => ⟨by simpa using hB.2, h⟩) ord _ _ h)
  rw [Nat.add_zero, hn] at this
  simpa using this
theorem wp_region_treeP {id : Nat} {a : Act} {w : World} (S : World → Prop) (hl : List Nat) (hm : P.follows .mixedOrders = true) (h : wpT P l Q S hl l.length (Array.replicate l.length false) a w.drew) : (Code.region id l.toArray true).wp P Q a w :=
  wp_region_any hm (wpAny_of_R (S := S) (hl := hl) _ _ _ _ (by simpa using h (closed_none _)))
theorem tree_segP {fuel n : Nat} {listed : Array Bool} {a : Act} {w : World} (hQ : PanQ Q) (ord : List (Nat × Nat)) (hs : Region.noSelect l.toArray = true) (hn : fuel = ord.length + n) (hB : rgOrdB l hl ord listed = true)
    (h : wpOrd P l Q S (fun a w => wpT P l Q S hl n (rgSet ord listed) a w) ord a w) : wpT P l Q S hl fuel listed a w := fun hc => by
  rw [hn]
  exact anyR_of_ordP hs hQ n ord listed a w hc hB h
theorem tree_doneP {fuel : Nat} {listed : Array Bool} {a : Act} {w : World} (hB : (Region.ready .any l.toArray listed).isEmpty = true) (h : Q .normal a w) : wpT P l Q S hl fuel listed a w := fun _ => by
  have hr : Region.ready .any l.toArray listed = [] := by simpa using hB
  cases fuel with
  | zero => exact ⟨hr, h⟩
  | succ n => exact ⟨fun _ => h, by rw [hr]; simp⟩
theorem ord_doneP {a : Act} {w : World} (h : Q .normal a w) : wpOrd P l Q S (fun a w => Q .normal a w) [] a w := h
end

end Go.Proofs.YtpdpnepnfhbonaaGreatDoor

namespace Go.Proofs.YtpdpnepnfhbonaaGreatDoor
open Go.RowKit
set_option linter.unusedVariables false
set_option maxRecDepth 100000

def riS (ns : List ByteArray) (sec : Nat → ByteArray) (k : Nat) : List Snp := (List.range k).map (fun i => ⟨ns.getD i ⟨#[]⟩, openL (sec (12 + i)) 3⟩)
def riV (sec : Nat → ByteArray) (c : Nat) : Int := if 0 < (cdL (sec 10)).getD c 0 then (openL (sec (15 + c)) 4).getD 0 0 else 0
def riD (sec : Nat → ByteArray) (k : Nat) : List Int := (List.range 24).map (fun c => if c < k then riV sec c else 0)
def riM (ns : List ByteArray) (sec : Nat → ByteArray) : Img := ⟨cdL (sec 10), openL (sec 11) 3, riS ns sec ns.length, riD sec 24⟩
def riB (ns : List ByteArray) (sec : Nat → ByteArray) : Bool := cdB (sec 10) && (tdB (sec 11) && ((List.range ns.length).all (fun i => tdB (sec (12 + i))) && ((List.range 24).all (fun c => decide (¬ 0 < (cdL (sec 10)).getD c 0) || vlB (sec (15 + c))) && imB (riM ns sec))))
theorem ri_c {ns : List ByteArray} {sec : Nat → ByteArray} (h : cdB (sec 10) = false) : riB ns sec = false := by rw [riB, h]; rfl
theorem ri_t {ns : List ByteArray} {sec : Nat → ByteArray} (h : tdB (sec 11) = false) : riB ns sec = false := by rw [riB, h]; simp
theorem ri_s {ns : List ByteArray} {sec : Nat → ByteArray} {k : Nat} (hk : k < ns.length) (h : tdB (sec (12 + k)) = false) : riB ns sec = false := by
  have : (List.range ns.length).all (fun i => tdB (sec (12 + i))) = false := by
    rw [← Bool.not_eq_true, List.all_eq_true]
    intro h2
    have := h2 k (List.mem_range.2 hk)
    rw [h] at this; cases this
  rw [riB, this]; simp
theorem ri_d {ns : List ByteArray} {sec : Nat → ByteArray} {c : Nat} (hc : c < 24) (hp : 0 < (cdL (sec 10)).getD c 0) (h : vlB (sec (15 + c)) = false) : riB ns sec = false := by
  have : (List.range 24).all (fun c => decide (¬ 0 < (cdL (sec 10)).getD c 0) || vlB (sec (15 + c))) = false := by
    rw [← Bool.not_eq_true, List.all_eq_true]
    intro h2
    have := h2 c (List.mem_range.2 hc)
    rw [h, decide_eq_false (by simpa using hp)] at this; cases this
  rw [riB, this]; simp
theorem ri_i {ns : List ByteArray} {sec : Nat → ByteArray} (h : imB (riM ns sec) = false) : riB ns sec = false := by rw [riB, h]; simp
theorem ri_yes {ns : List ByteArray} {sec : Nat → ByteArray} (h1 : cdB (sec 10) = true) (h2 : tdB (sec 11) = true) (h3 : ∀ i, i < ns.length → tdB (sec (12 + i)) = true) (h4 : ∀ c, c < 24 → 0 < (cdL (sec 10)).getD c 0 → vlB (sec (15 + c)) = true) (h5 : imB (riM ns sec) = true) : riB ns sec = true := by
  have e3 : (List.range ns.length).all (fun i => tdB (sec (12 + i))) = true := List.all_eq_true.2 (fun i hi => h3 i (List.mem_range.1 hi))
  have e4 : (List.range 24).all (fun c => decide (¬ 0 < (cdL (sec 10)).getD c 0) || vlB (sec (15 + c))) = true := List.all_eq_true.2 (fun c hc => by
    by_cases hp : 0 < (cdL (sec 10)).getD c 0
    · rw [h4 c (List.mem_range.1 hc) hp]; simp
    · rw [decide_eq_true hp]; rfl)
  rw [riB, h1, h2, e3, e4, h5]; rfl
theorem riS_succ (ns : List ByteArray) (sec : Nat → ByteArray) (k : Nat) : riS ns sec (k + 1) = riS ns sec k ++ [⟨ns.getD k ⟨#[]⟩, openL (sec (12 + k)) 3⟩] := by
  unfold riS
  rw [List.range_succ, List.map_append]; rfl
theorem riD_len (sec : Nat → ByteArray) (k : Nat) : (riD sec k).length = 24 := by simp [riD]
theorem riD_zero (sec : Nat → ByteArray) : riD sec 0 = List.replicate 24 0 := by
  unfold riD
  simp only [Nat.not_lt_zero, if_false]
  decide
theorem riD_set (sec : Nat → ByteArray) {c : Nat} (hc : c < 24) : (riD sec c).set c (riV sec c) = riD sec (c + 1) := by
  apply List.ext_getElem
  · simp [riD]
  · intro j h1 h2
    simp only [riD, List.getElem_set, List.getElem_map, List.getElem_range]
    by_cases e : c = j
    · subst e; simp
    · rw [if_neg e]
      by_cases h3 : j < c
      · rw [if_pos h3, if_pos (by omega)]
      · rw [if_neg h3, if_neg (by omega)]
theorem riD_skip (sec : Nat → ByteArray) {c : Nat} (h : ¬ 0 < (cdL (sec 10)).getD c 0) : riD sec c = riD sec (c + 1) := by
  unfold riD
  apply List.map_congr_left
  intro j _
  by_cases h3 : j < c
  · rw [if_pos h3, if_pos (by omega)]
  · by_cases e : j = c
    · subst e; rw [if_neg h3, if_pos (by omega), riV, if_neg h]
    · rw [if_neg h3, if_neg (by omega)]

structure SeeW (W : World) (x y : Nat) (ss : List ByteArray) (xs : List Wr) (h : Int) : Prop where
  d : ∃ ao ca bo cb, VarD W x (.slice ao ss.length ca) (.slice bo xs.length cb) ∧ Ss W ao ss ∧ Ios W bo xs
  h : W.cell? ⟨y, 0, none⟩ = some (.int .i64 h)
theorem SeeW.below {W W' : World} {x y : Nat} {ss : List ByteArray} {xs : List Wr} {h : Int} (k : SeeW W x y ss xs h) (hb : Below W.heap.size W W') : SeeW W' x y ss xs h := by
  obtain ⟨ao, ca, bo, cb, h1, h2, h3⟩ := k.d
  exact ⟨⟨ao, ca, bo, cb, h1.below hb, h2.below hb, h3.below hb⟩, (hb.cell (World.block_lt_of_cell? _ _ k.h)).trans k.h⟩
def seeV (x y : Nat) : Value := .func (.func 20) #[] #[.pointer (some ⟨x, 0, none⟩), .pointer (some ⟨y, 0, none⟩)]

set_option maxHeartbeats 1600000 in
theorem see_any (x y p : Nat) (ss : List ByteArray) (xs : List Wr) (h : Int) (w : World) (hp : p < 64) (hd : diskB ss xs = true) (k : SeeW w x y ss xs h) :
    Calls Tryz.prog 20 #[.int .i64 p, .pointer (some ⟨x, 0, none⟩), .pointer (some ⟨y, 0, none⟩)] w fun e w' => e = .returned (.string (secV ss xs h p)) ∧ Below w.heap.size w w' := by
  obtain ⟨ao, ca, bo, cb, h1, h2, h3⟩ := k.d
  obtain ⟨l1, l2⟩ := diskB_len hd
  obtain ⟨c0, c1⟩ := h1.cells
  have c2 := k.h
  have H2 := hide h2
  have H3 := hide h3
  have HL1 := hide l1
  have HL2 := hide l2
  have HE : Hid (secV ss xs h p = readV ss xs h p) := hide rfl
  clear h1 h2 h3 l1 l2 hd k
  go_enter Tryz.func20, Tryz.ntmps20
  go_wp2_with fail
  refine (seenBy_any ao bo ca cb ss xs h p _ (unhide HL2) (by have := unhide HL1; omega) (by have := unhide HL1; omega) (unhide H2) (unhide H3)).mono ?_
  rintro e w1 ⟨rfl, hb⟩
  have HB := hide hb
  clear hb c0 c1 c2
  go_wp2
  go_ret
  exact ⟨by rw [unhide HE]; rfl, unhide HB⟩

structure RdJ (w W : World) (y x : Nat) (cs : List Int) (a : Im4) (M : Img) (ts : List Value) : Prop where
  k : Below w.heap.size w W
  r : VarM W w.heap.size 30 (.slice none 0 0) (.slice none 0 0) (.slice none 0 0) (.slice none 0 0)
  c : VarC W y cs
  v : VarM W x 30 (.slice a.ro M.refs.length a.rc) (.slice a.tq M.table.length a.tc) (.slice a.so M.snaps.length a.sc) (.slice a.dq M.data.length a.dc)
  o : OwnIm W w.heap.size a M ts
  hx : w.heap.size < x
  f : M.snaps.length = 0 → a.sc = 0
theorem RdJ.below {w W W' : World} {y x : Nat} {cs : List Int} {a : Im4} {M : Img} {ts : List Value} (J : RdJ w W y x cs a M ts) (hb : Below W.heap.size W W') : RdJ w W' y x cs a M ts :=
  ⟨fr J.k hb, J.r.below hb, block_of_below J.c hb, J.v.below hb, J.o.below hb, J.hx, J.f⟩
theorem own_setV {W : World} {B x : Nat} {a : Im4} {M : Img} {ts : List Value} {v0 v1 v2 v3 : Value} (h : OwnIm W B a M ts) (hv : VarM W x 30 v0 v1 v2 v3) (i : Nat) (u : Value) : OwnIm (W.setCell ⟨x, i, none⟩ u) B a M ts :=
  h.keep ((Keep.refl (fun g => g = x) W).setCell (p := ⟨x, i, none⟩) rfl u) (fun g hg e => h.other hv (e ▸ hg))
theorem varC_other {W : World} {y : Nat} {cs : List Int} (h : VarC W y cs) {p : Addr} (hp : y ≠ p.block) (u : Value) : VarC (W.setCell p u) y cs := by
  show (W.setCell p u).heap[y]? = _
  rw [Below.heap_setCell W p u y hp]
  exact h
theorem varC_ne {W : World} {x y : Nat} {cs : List Int} {v0 v1 v2 v3 : Value} (h : VarC W y cs) (hv : VarM W x 30 v0 v1 v2 v3) : y ≠ x := by
  intro e
  subst e
  have h1 : some _ = some _ := h.symm.trans hv
  simp only [Option.some.injEq, Obj.cells.injEq] at h1
  exact absurd h1.2.1 (by decide)
theorem RdJ.addS {w W w3 w4 : World} {y x g2 cap2 : Nat} {cs : List Int} {a : Im4} {M : Img} {ts : List Value} {name : ByteArray} {t : Value} {tbl : List Int} (J : RdJ w W y x cs a M ts) (hb : Below W.heap.size W w3) (ht : OwnN w3 W.heap.size t tbl)
    (ho : w4.ownsRow w.heap.size 72 2 (.slice (some ⟨g2, 0, none⟩) (M.snaps.length + 1) cap2) (M.snaps.length + 1) (snC M.snaps ts ++ [.string name, t])) (hk : Keep (Own (.slice a.so M.snaps.length a.sc)) w3 w4) :
    RdJ w (w4.setCell ⟨x, 2, none⟩ (.slice (some ⟨g2, 0, none⟩) (M.snaps.length + 1) cap2)) y x cs { a with so := some ⟨g2, 0, none⟩, sc := cap2 } { M with snaps := M.snaps ++ [⟨name, tbl⟩] } (ts ++ [t]) ∧ VarM w4 x 30 (.slice a.ro M.refs.length a.rc) (.slice a.tq M.table.length a.tc) (.slice a.so M.snaps.length a.sc) (.slice a.dq M.data.length a.dc) := by
  have J3 := J.below hb
  have hv4 : VarM w4 x 30 (.slice a.ro M.refs.length a.rc) (.slice a.tq M.table.length a.tc) (.slice a.so M.snaps.length a.sc) (.slice a.dq M.data.length a.dc) := (hk.block _ J3.v.lt (J3.o.s.other J3.v (by decide))).trans J3.v
  have hr4 : VarM w4 w.heap.size 30 (.slice none 0 0) (.slice none 0 0) (.slice none 0 0) (.slice none 0 0) := (hk.block _ J3.r.lt (J3.o.s.other J3.r (by decide))).trans J3.r
  have hc4 : VarC w4 y cs := (hk.block _ (Array.getElem?_eq_some_iff.1 J3.c).1 (J3.o.s.other J3.c (by decide))).trans J3.c
  have ho4 := OwnIm.addS J.o J.k.size hb ht ho hk
  have hb4 : Below w.heap.size w w4 := J3.k.trans (hk.below J3.k.size (fun g hg => (J3.o.s.ge g hg).1))
  refine ⟨⟨hb4.setCell (p := ⟨x, 2, none⟩) (Nat.le_of_lt J.hx) _, hr4.other (p := ⟨x, 2, none⟩) (Nat.ne_of_lt J.hx) _, varC_other hc4 (p := ⟨x, 2, none⟩) (varC_ne hc4 hv4) _, ?_, own_setV ho4 hv4 2 _, J.hx, fun h => by simp at h⟩, hv4⟩
  simp only [List.length_append, List.length_singleton]
  exact hv4.set2 _
theorem RdJ.setD {w W : World} {y x c : Nat} {cs : List Int} {a : Im4} {M : Img} {ts : List Value} (J : RdJ w W y x cs a M ts) (hc : c < M.data.length) : ∃ g, a.dq = some ⟨g, 0, none⟩ ∧ W.cell? ⟨g, c, none⟩ = some (.int .i64 M.data[c]) ∧ W.frozen? ⟨g, c, none⟩ = false ∧ ∀ W' n, Below W.heap.size W W' → RdJ w (W'.setCell ⟨g, c, none⟩ (.int .i64 n)) y x cs a { M with data := M.data.set c n } ts := by
  obtain ⟨g, e, h1, h2, h3, _⟩ := J.o.setD hc
  refine ⟨g, e, h1, h2, fun W' n hb => ?_⟩
  have J' := J.below hb
  obtain ⟨g', e', h1', h2', h3', h4'⟩ := J'.o.setD hc
  rw [e] at e'
  cases e'
  have hgv : x ≠ g := fun hh => J'.o.other J'.v (hh ▸ h3')
  have hgr : w.heap.size ≠ g := fun hh => J'.o.other J'.r (hh ▸ h3')
  have hgc : y ≠ g := fun hh => by
    subst hh
    rcases h3' with q | q | q | q | ⟨t, ht, q⟩
    · exact (J'.o.rows.own (.slice a.ro M.refs.length a.rc, M.refs) (by simp [imRows])).row.other J'.c (by decide) q
    · exact (J'.o.rows.own (.slice a.tq M.table.length a.tc, M.table) (by simp [imRows])).row.other J'.c (by decide) q
    · exact (J'.o.rows.own (.slice a.dq M.data.length a.dc, M.data) (by simp [imRows])).row.other J'.c (by decide) q
    · exact J'.o.s.other J'.c (by decide) q
    · have hm : t ∈ (ts.zip (M.snaps.map (·.table))).map Prod.fst := by rw [zip_fst _ _ (by rw [List.length_map, J'.o.len])]; exact ht
      obtain ⟨p, hp, rfl⟩ := List.mem_map.1 hm
      exact (J'.o.rows.own p (by simp [imRows, hp])).row.other J'.c (by decide) q
  refine ⟨J'.k.setCell (p := ⟨g, c, none⟩) (J'.o.ge g h3').1 _, J'.r.other (p := ⟨g, c, none⟩) hgr _, varC_other J'.c (p := ⟨g, c, none⟩) hgc _, ?_, h4' n, J.hx, J.f⟩
  simp only [List.length_set]
  exact J'.v.other (p := ⟨g, c, none⟩) hgv _
theorem tree_three {P : Program} {Q : Exit → Act → World → Prop} {S : World → Prop} {l : List Oper} {hl : List Nat} {fuel i j k : Nat} {oi oj ok : Oper} {listed : Array Bool} {a : Act} {w : World} (hi : l[i]? = some oi) (hj : l[j]? = some oj) (hk : l[k]? = some ok) (gi : oi.guard = none) (gj : oj.guard = none) (gk : ok.guard = none) (hB : (Region.ready .any l.toArray listed == [i, j, k]) = true)
    (h1 : ∀ K : Act → World → Prop, (∀ a' w', (i ∈ hl → S w') → wpT P l Q S hl fuel (listed.setIfInBounds i true) a' w' → K a' w') → oi.wp P a w K Q)
    (h2 : ∀ K : Act → World → Prop, (∀ a' w', (j ∈ hl → S w') → wpT P l Q S hl fuel (listed.setIfInBounds j true) a' w' → K a' w') → oj.wp P a w K Q)
    (h3 : ∀ K : Act → World → Prop, (∀ a' w', (k ∈ hl → S w') → wpT P l Q S hl fuel (listed.setIfInBounds k true) a' w' → K a' w') → ok.wp P a w K Q) : wpT P l Q S hl (fuel + 1) listed a w := fun hc => by
  have hr : Region.ready .any l.toArray listed = [i, j, k] := by simpa using hB
  refine ⟨fun h0 => (by rw [hr] at h0; cases h0), fun q hq => ?_⟩
  have hq' : q = i ∨ q = j ∨ q = k := by rw [hr] at hq; simpa using hq
  rcases hq' with rfl | rfl | rfl
  · unfold wpOp
    have e : l.toArray[q]? = some oi := by simpa using hi
    simp only [e]
    rw [if_pos (by simp [Region.wanted, gi])]
    exact .inl (h1 _ (fun a' w' hS h3 => ⟨hS, h3 (closed_set hc hq)⟩))
  · unfold wpOp
    have e : l.toArray[q]? = some oj := by simpa using hj
    simp only [e]
    rw [if_pos (by simp [Region.wanted, gj])]
    exact .inl (h2 _ (fun a' w' hS h3 => ⟨hS, h3 (closed_set hc hq)⟩))
  · unfold wpOp
    have e : l.toArray[q]? = some ok := by simpa using hk
    simp only [e]
    rw [if_pos (by simp [Region.wanted, gk])]
    exact .inl (h3 _ (fun a' w' hS h3 => ⟨hS, h3 (closed_set hc hq)⟩))

end Go.Proofs.YtpdpnepnfhbonaaGreatDoor

namespace Go.Proofs.YtpdpnepnfhbonaaGreatDoor
open Go.RowKit
set_option linter.unusedVariables false
set_option maxRecDepth 100000

def partsB (m : Img) : Bool := ctB m.refs && datB m.data && snpsB m.snaps && tabsB (imTabs m)
def fitB (m : Img) : Bool := decide (imCnt m = m.refs) && clearB m
theorem tabs_all {ts : List (List Int)} : tabsB ts = (ts.all tbB && ts.all onceB) := by
  unfold tabsB
  induction ts with
  | nil => rfl
  | cons t ts ih =>
    simp only [List.all_cons, ih]
    cases tbB t <;> cases onceB t <;> simp
theorem imB_parts (m : Img) : imB m = (partsB m && fitB m) := by
  have e : (imTabs m).all tbB = (tbB m.table && m.snaps.all (fun s => tbB s.table)) := by
    unfold imTabs
    rw [List.all_cons, List.all_map]; rfl
  have e2 : m.snaps.all (fun s => snmB s.name && tbB s.table) = (m.snaps.all (fun s => snmB s.name) && m.snaps.all (fun s => tbB s.table)) := by
    induction m.snaps with
    | nil => rfl
    | cons s ss ih =>
      simp only [List.all_cons, ih]
      cases snmB s.name <;> cases tbB s.table <;> simp
  unfold imB imFm partsB fitB datB snpsB
  rw [tabs_all, e, e2]
  cases ctB m.refs <;> cases tbB m.table <;> cases decide (m.snaps.length ≤ 3) <;> cases decide (m.data.length = 24) <;> cases m.snaps.all (fun s => snmB s.name) <;> cases m.snaps.all (fun s => tbB s.table) <;> cases namesB m.snaps <;> cases m.data.all numB <;> simp [Bool.and_assoc]
theorem parts_of {m : Img} (h : partsB m = true) : m.refs.length = 24 ∧ m.data.length = 24 ∧ m.snaps.length ≤ 3 ∧ ∀ t ∈ imTabs m, tbB t = true := by
  unfold partsB datB snpsB at h
  rw [tabs_all] at h
  simp only [Bool.and_eq_true, decide_eq_true_eq, List.all_eq_true] at h
  obtain ⟨⟨⟨h1, h2, _⟩, ⟨h3, _⟩, _⟩, h4, _⟩ := h
  exact ⟨ctB_len h1, h2, h3, h4⟩
theorem fit_cnt {m : Img} {i : Nat} (hl : m.refs.length = 24) (hi : i < 24) (h : ¬ m.refs.getD i 0 = (imCnt m).getD i 0) : fitB m = false := by
  have e : decide (imCnt m = m.refs) = false := decide_eq_false (fun e => h (by rw [e]))
  rw [fitB, e]; rfl
theorem fit_clear {m : Img} {i : Nat} (hi : i < 24) (he : m.refs.getD i 0 = (imCnt m).getD i 0) (hz : (imCnt m).getD i 0 = 0) (hd : ¬ m.data.getD i 0 = 0) : fitB m = false := by
  have e : clearB m = false := by
    unfold clearB
    cases hh : (List.range 24).all _ with
    | false => rfl
    | true =>
      rw [List.all_eq_true] at hh
      have := hh i (List.mem_range.2 hi)
      simp only [decide_eq_true_eq] at this
      exact absurd (this (he.trans hz)) hd
  rw [fitB, e]; simp
theorem fit_yes {m : Img} (hl : m.refs.length = 24) (h1 : ∀ i, i < 24 → m.refs.getD i 0 = (imCnt m).getD i 0) (h2 : ∀ i, i < 24 → (imCnt m).getD i 0 = 0 → m.data.getD i 0 = 0) : fitB m = true := by
  have e : imCnt m = m.refs := List.ext_getElem (by rw [imCnt_len, hl]) (fun i ha hb => by
    have := h1 i (by omega)
    simpa [List.getD, ha, hb] using this.symm)
  have e2 : clearB m = true := by
    unfold clearB
    rw [List.all_eq_true]
    intro i hi
    have hi' := List.mem_range.1 hi
    exact decide_eq_true (fun h => h2 i hi' (by rw [← h1 i hi']; exact h))
  rw [fitB, decide_eq_true e, e2]; rfl

set_option maxHeartbeats 3200000 in
theorem countsFit_any (a : Im4) (m : Img) (w : World) (hr : m.refs.length = 24) (hd : m.data.length = 24) (hs : m.snaps.length ≤ 3) (ht : ∀ t ∈ imTabs m, tbB t = true) (hc : ImS w a m) :
    Calls Tryz.prog 74 #[imV a m] w fun e w' => e = .returned (.bool (fitB m)) ∧ Below w.heap.size w w' := by
  have HA := hide (Joins.below_alloc1 w (.cells #[.slice a.ro m.refs.length a.rc, .slice a.tq m.table.length a.tc, .slice a.so m.snaps.length a.sc, .slice a.dq m.data.length a.dc] 30))
  have HV := hide (VarM.new w 30 (.slice a.ro m.refs.length a.rc) (.slice a.tq m.table.length a.tc) (.slice a.so m.snaps.length a.sc) (.slice a.dq m.data.length a.dc))
  have HC := hide (hc.below (unhide HA))
  have HR24 := hide hr
  have HD24 := hide hd
  have HTB := hide ht
  have HLT := hide (imTabs_len m)
  clear hc hr hd ht
  go_enter Tryz.func74, Tryz.ntmps74
  go_upto_region 1 with fail
  revert HA HV HC
  generalize (w.alloc _) = W0
  intro HA HV HC
  obtain ⟨c0, c1, c2, c3⟩ := (unhide HV).cells
  go_wp2_with fail
  refine (tablesOf_any a m _ hs (unhide HC)).mono ?_
  rintro e w1 ⟨qo, qa, rfl, hrow, hb⟩
  have HROW := hide hrow
  have HB1 := hide (fr (unhide HA) hb)
  have HC1 := hide ((unhide HC).below hb)
  have HV1 := hide ((unhide HV).below hb)
  clear hb hrow c0 c1 c2 c3 HA HV HC
  go_wp2_with fail
  refine (usesOf_any qo qa (imTabs m) _ (by rw [unhide HLT]; omega) (unhide HTB) (unhide HROW)).mono ?_
  rintro e w2 ⟨B, D, rfl, hBge, hmp, hct, hb⟩
  have HB2 := hide (fr (unhide HB1) hb)
  have HC2 := hide ((unhide HC1).below hb)
  have HV2 := hide ((unhide HV1).below hb)
  have HM : Hid (MpC w2 B 1000 D (imCnt m)) := hide hmp
  clear hb hmp hct hBge HB1 HC1 HV1 HROW
  go_wp2
  go_loopw [8] (fun i wr => ∃ k : Nat, k ≤ 24 ∧ i = .int .i64 k ∧ Hid (∀ j, j < k → m.refs.getD j 0 = (imCnt m).getD j 0) ∧ Hid (∀ j, j < k → (imCnt m).getD j 0 = 0 → m.data.getD j 0 = 0) ∧ Hid (Below w2.heap.size w2 wr)) (fun i _ => 24 - (intOf i).toNat)
  case atStart => exact ⟨0, by omega, rfl, hide (fun j h => by omega), hide (fun j h => by omega), hide (Below.refl _ _)⟩
  case round =>
    obtain ⟨k, hk, rfl, HE, HZ, HB⟩ := hrel
    by_cases hlt : k < 24
    · have hlti : (k : Int) < 24 := by omega
      have kr : k < m.refs.length := by rw [unhide HR24]; exact hlt
      have kd : k < m.data.length := by rw [unhide HD24]; exact hlt
      have kri : (k : Int) < (m.refs.length : Int) := by omega
      have kdi : (k : Int) < (m.data.length : Int) := by omega
      obtain ⟨c0, c1, c2, c3⟩ := ((unhide HV2).below (unhide HB)).cells
      have hlk : ∀ W : World, Below wr.heap.size wr W → (Instr.lookup 107 (.map (some B)) (.int .i64 (k : Int)) false).run Tryz.prog W = .ok (.int .i64 ((imCnt m).getD k 0)) W := fun W hW => ((unhide HM).below (fr (unhide HB) hW)).look hlt
      obtain ⟨b2, o2, e2, hx2⟩ := ((unhide HC2).r.below (unhide HB)) k kr
      obtain ⟨b3, o3, e3, hx3⟩ := ((unhide HC2).d.below (unhide HB)) k kd
      rw [e2] at c0
      rw [e3] at c3
      clear e2 e3 c1 c2
      have er : m.refs.getD k 0 = m.refs[k] := by simp [List.getD, kr]
      have ed : m.data.getD k 0 = m.data[k] := by simp [List.getD, kd]
      have HER : Hid (m.refs[k] = (imCnt m).getD k 0 → ∀ j, j < k + 1 → m.refs.getD j 0 = (imCnt m).getD j 0) := hide (fun h j hj => by
        by_cases e : j = k
        · subst e; rw [er]; exact h
        · exact unhide HE j (by omega))
      have HZR : Hid (((imCnt m).getD k 0 = 0 → m.data[k] = 0) → ∀ j, j < k + 1 → (imCnt m).getD j 0 = 0 → m.data.getD j 0 = 0) := hide (fun h j hj => by
        by_cases e : j = k
        · subst e; rw [ed]; exact h
        · exact unhide HZ j (by omega))
      have HF1 : Hid (¬ m.refs[k] = (imCnt m).getD k 0 → fitB m = false) := hide (fun h => fit_cnt (unhide HR24) hlt (by rw [er]; exact h))
      have HF2 : Hid (m.refs[k] = (imCnt m).getD k 0 → (imCnt m).getD k 0 = 0 → ¬ m.data[k] = 0 → fitB m = false) := hide (fun h0 h1 h2 => fit_clear hlt (by rw [er]; exact h0) h1 (by rw [ed]; exact h2))
      clear er ed
      generalize (imCnt m).getD k 0 = X at *
      generalize m.refs[k] = R at *
      generalize m.data[k] = DD at *
      have hl0 := fun (n : Nat) => hlk (wr.drewN n) (Joins.below_draws _ _ _)
      by_cases hne : R = X
      · by_cases hz : X = 0
        · by_cases hd : DD = 0
          · have HE' := hide (unhide HER hne)
            have HZ' := hide (unhide HZR (fun _ => hd))
            have b1' : (R != X) = false := by simp [hne]
            have b2' : (X == 0) = true := by simp [hz]
            have b3' : (DD != 0) = false := by simp [hd]
            clear hne hz hd
            go_wp2
            go_quiet (fail)
            go_wp2
            go_roundw
            case rel => exact ⟨k + 1, by omega, by go_num, HE', HZ', hide ((unhide HB).trans (Joins.below_draws _ _ _))⟩
            case measure => simp [intOf]; omega
          · have HF := hide (unhide HF2 hne hz hd)
            have b1' : (R != X) = false := by simp [hne]
            have b2' : (X == 0) = true := by simp [hz]
            have b3' : (DD != 0) = true := by simp [hd]
            clear hne hz hd
            go_wp2
            go_quiet (fail)
            go_wp2
            go_ret
            exact ⟨ret_bool (unhide HF).symm, fr (unhide HB2) ((unhide HB).trans (Joins.below_draws _ _ _))⟩
        · have HE' := hide (unhide HER hne)
          have HZ' := hide (unhide HZR (fun h => absurd h hz))
          have b1' : (R != X) = false := by simp [hne]
          have b2' : (X == 0) = false := by simp [hz]
          clear hne hz
          go_wp2
          go_quiet (fail)
          go_wp2
          go_roundw
          case rel => exact ⟨k + 1, by omega, by go_num, HE', HZ', hide ((unhide HB).trans (Joins.below_draws _ _ _))⟩
          case measure => simp [intOf]; omega
      · have HF := hide (unhide HF1 hne)
        have b1' : (R != X) = true := by simp [hne]
        clear hne
        go_wp2
        go_quiet (fail)
        go_wp2
        go_ret
        exact ⟨ret_bool (unhide HF).symm, fr (unhide HB2) ((unhide HB).trans (Joins.below_draws _ _ _))⟩
    · have HF := hide (fit_yes (unhide HR24) (fun i h => unhide HE i (by omega)) (fun i h => unhide HZ i (by omega)))
      go_wp2
      go_ret
      exact ⟨ret_bool (unhide HF).symm, fr (unhide HB2) (unhide HB)⟩

set_option maxHeartbeats 3200000 in
theorem imagePartsOK_any (a : Im4) (m : Img) (w : World) (hL : ImL m) (hc : ImS w a m) :
    Calls Tryz.prog 73 #[imV a m] w fun e w' => e = .returned (.bool (partsB m)) ∧ Below w.heap.size w w' := by
  have HA := hide (Joins.below_alloc1 w (.cells #[.slice a.ro m.refs.length a.rc, .slice a.tq m.table.length a.tc, .slice a.so m.snaps.length a.sc, .slice a.dq m.data.length a.dc] 30))
  have HV := hide (VarM.new w 30 (.slice a.ro m.refs.length a.rc) (.slice a.tq m.table.length a.tc) (.slice a.so m.snaps.length a.sc) (.slice a.dq m.data.length a.dc))
  have HC := hide (hc.below (unhide HA))
  have HL := hide hL
  have HLT := hide (imTabs_len m)
  have HZT : Hid (∀ t ∈ imTabs m, t.length ≤ maxLen) := hide (fun t ht => by
    unfold imTabs at ht
    rw [List.mem_cons, List.mem_map] at ht
    rcases ht with rfl | ⟨s, hs, rfl⟩
    · exact hL.t
    · obtain ⟨j, hj, rfl⟩ := List.mem_iff_getElem.1 hs
      obtain ⟨_, _, _, _, _, _, _, _, _, h⟩ := hc.s j hj
      exact h)
  clear hc hL
  go_enter Tryz.func73, Tryz.ntmps73
  go_upto_region 1 with fail
  revert HA HV HC
  generalize (w.alloc _) = W0
  intro HA HV HC
  obtain ⟨c0, c1, c2, c3⟩ := (unhide HV).cells
  go_wp2_with fail
  refine (refsOK_impl _ _ m.refs _ (unhide HL).r (unhide HC).r).mono ?_
  rintro e w1 ⟨rfl, hw⟩
  replace hw := hw.symm
  subst hw
  cases h1 : ctB m.refs
  · have HF : Hid (partsB m = false) := hide (by rw [partsB, h1]; rfl)
    go_wp2
    go_ret
    exact ⟨ret_bool (unhide HF).symm, unhide HA⟩
  go_wp2_with fail
  refine (dataOK_any _ _ m.data _ (unhide HL).d (unhide HC).d).mono ?_
  rintro e w1 ⟨rfl, hw⟩
  replace hw := hw.symm
  subst hw
  cases h2 : datB m.data
  · have HF : Hid (partsB m = false) := hide (by rw [partsB, h1, h2]; rfl)
    go_wp2
    go_ret
    exact ⟨ret_bool (unhide HF).symm, unhide HA⟩
  go_wp2_with fail
  refine (snapNamesOK_any _ _ m.snaps _ (unhide HL).s (unhide HC).s).mono ?_
  rintro e w2 ⟨rfl, hb⟩
  have HB2 := hide (fr (unhide HA) hb)
  have HC2 := hide ((unhide HC).below hb)
  have HV2 := hide ((unhide HV).below hb)
  clear hb c0 c1 c2 c3 HA HV HC
  cases h3 : snpsB m.snaps
  · have HF : Hid (partsB m = false) := hide (by rw [partsB, h1, h2, h3]; rfl)
    go_wp2
    go_ret
    exact ⟨ret_bool (unhide HF).symm, unhide HB2⟩
  have HF : Hid (partsB m = tabsB (imTabs m)) := hide (by rw [partsB, h1, h2, h3]; rfl)
  have hs3 : m.snaps.length ≤ 3 := by
    unfold snpsB at h3
    simp only [Bool.and_eq_true, decide_eq_true_eq] at h3
    exact h3.1.1
  clear h1 h2 h3
  obtain ⟨c0, c1, c2, c3⟩ := (unhide HV2).cells
  go_wp2_with fail
  refine (tablesOf_any a m _ hs3 (unhide HC2)).mono ?_
  rintro e w3 ⟨qo, qa, rfl, hrow, hb⟩
  have HROW := hide hrow
  have HB3 := hide (fr (unhide HB2) hb)
  clear hb hrow c0 c1 c2 c3
  go_wp2_with fail
  refine (tablesOK_any qo qa (imTabs m) _ (by rw [unhide HLT]; omega) (unhide HZT) (unhide HROW)).mono ?_
  rintro e w4 ⟨rfl, hb⟩
  have HB4 := hide (fr (unhide HB3) hb)
  clear hb
  generalize tabsB (imTabs m) = T at *
  go_wp2
  go_ret
  exact ⟨ret_bool (by rw [unhide HF]), unhide HB4⟩

set_option maxHeartbeats 3200000 in
theorem imageOK_impl (a : Im4) (m : Img) (w : World) (hL : ImL m) (hc : ImS w a m) :
    Calls Tryz.prog 55 #[imV a m] w fun e w' => e = .returned (.bool (imB m)) ∧ Below w.heap.size w w' := by
  have HA := hide (Joins.below_alloc1 w (.cells #[.slice a.ro m.refs.length a.rc, .slice a.tq m.table.length a.tc, .slice a.so m.snaps.length a.sc, .slice a.dq m.data.length a.dc] 30))
  have HV := hide (VarM.new w 30 (.slice a.ro m.refs.length a.rc) (.slice a.tq m.table.length a.tc) (.slice a.so m.snaps.length a.sc) (.slice a.dq m.data.length a.dc))
  have HC := hide (hc.below (unhide HA))
  have HL := hide hL
  have HP := hide (imB_parts m)
  clear hc hL
  go_enter Tryz.func55, Tryz.ntmps55
  go_upto_region 1 with fail
  revert HA HV HC
  generalize (w.alloc _) = W0
  intro HA HV HC
  obtain ⟨c0, c1, c2, c3⟩ := (unhide HV).cells
  go_wp2_with fail
  refine (imagePartsOK_any a m _ (unhide HL) (unhide HC)).mono ?_
  rintro e w1 ⟨rfl, hb⟩
  have HB1 := hide (fr (unhide HA) hb)
  have HC1 := hide ((unhide HC).below hb)
  have HV1 := hide ((unhide HV).below hb)
  clear hb c0 c1 c2 c3 HA HV HC
  cases hp : partsB m
  · have HF : Hid (imB m = false) := hide (by rw [unhide HP, hp]; rfl)
    go_wp2
    go_ret
    exact ⟨ret_bool (unhide HF).symm, unhide HB1⟩
  have HF : Hid (imB m = fitB m) := hide (by rw [unhide HP, hp]; rfl)
  have HX := hide (parts_of hp)
  clear hp
  obtain ⟨c0, c1, c2, c3⟩ := (unhide HV1).cells
  go_wp2_with fail
  refine (countsFit_any a m _ (unhide HX).1 (unhide HX).2.1 (unhide HX).2.2.1 (unhide HX).2.2.2 (unhide HC1)).mono ?_
  rintro e w2 ⟨rfl, hb⟩
  have HB2 := hide (fr (unhide HB1) hb)
  clear hb c0 c1 c2 c3
  generalize fitB m = F at *
  go_wp2
  go_ret
  exact ⟨ret_bool (by rw [unhide HF]), unhide HB2⟩

end Go.Proofs.YtpdpnepnfhbonaaGreatDoor
