/- What a law over disks keeps; the disk's calls at right disks, the answers under names of their own. -/
import Derived.Test.YtoiclgeeaednnaaRows
import Derived.Test.YtoiclgeeaednnaaGen
import Derived.Test.YtoiclgeeaednnaaKeep
import Derived.Test.YtoiclgeeaednnaaDiskOK
import Derived.Test.YtoiclgeeaednnaaReadI
import Derived.Test.YtoiclgeeaednnaaPendI
import Derived.Test.YtoiclgeeaednnaaDiskW
import Derived.Test.YtoiclgeeaednnaaWrD
import Derived.Test.YtoiclgeeaednnaaWriteI
import Derived.Test.YtoiclgeeaednnaaLandInv
import Derived.Test.YtoiclgeeaednnaaFlushX
import Derived.Test.YtoiclgeeaednnaaLoseX
import Derived.Test.YtoiclgeeaednnaaOneI
import Derived.Test.YtoiclgeeaednnaaLandP
import Derived.Test.YtoiclgeeaednnaaSrc
import Derived.Test.YtoiclgeeaednnaaSrcG
import Derived.Test.YtoiclgeeaednnaaSrcE
import Derived.Test.YtoiclgeeaednnaaSrcF
import Derived.Test.YtoiclgeeaednnaaSameD
import Derived.WalkKit
import Derived.WalkSpells
namespace Go.Proofs.Ytoiclgeeaednnaa
open Go.RowKit
set_option linter.unusedVariables false

/-- A disk lies in a variable. -/
def DX (W : World) (C : Nat) (ss : List ByteArray) (xs : List Wr) : Prop := ∃ ao ca bo cb, DV W C ao ca bo cb ss xs
/-- A law's world: a code, disks in variables. -/
structure Se (w W : World) (bo : Option Addr) (n : Nat) (L : List (Nat × List ByteArray × List Wr)) : Prop where
  below : Below w.heap.size w W
  b : Bs W bo n
  dv : ∀ p ∈ L, DX W p.1 p.2.1 p.2.2
  ge : ∀ p ∈ L, w.heap.size ≤ p.1
theorem Se.next {w W W' : World} {bo : Option Addr} {n : Nat} {L : List (Nat × List ByteArray × List Wr)} (h : Se w W bo n L) (hb : Below W.heap.size W W') : Se w W' bo n L :=
  ⟨fr h.below hb, h.b.below hb, fun p hp => by obtain ⟨ao, ca, bo, cb, hd⟩ := h.dv p hp; exact ⟨ao, ca, bo, cb, hd.below hb⟩, h.ge⟩
theorem Se.new {w W : World} {bo : Option Addr} {n : Nat} {L : List (Nat × List ByteArray × List Wr)} {ss : List ByteArray} {xs : List Wr} {po qo : Option Addr} {pa qa : Nat} (h : Se w W bo n L) (hs : Ss W po ss) (hi : Ios W qo xs) :
    Se w (W.alloc (.cells #[.slice po ss.length pa, .slice qo xs.length qa] 26)) bo n ((W.heap.size, ss, xs) :: L) := by
  have hb := Joins.below_alloc1 W (.cells #[.slice po ss.length pa, .slice qo xs.length qa] 26)
  have hn := h.next hb
  refine ⟨hn.below, hn.b, fun p hp => ?_, fun p hp => ?_⟩
  · rcases List.mem_cons.1 hp with rfl | hp
    · exact ⟨po, pa, qo, qa, heap_alloc_new W _, hs.below hb, hi.below hb⟩
    · exact hn.dv p hp
  · rcases List.mem_cons.1 hp with rfl | hp
    · exact h.below.size
    · exact h.ge p hp
theorem Se.dropB {w W : World} {bo : Option Addr} {n : Nat} {L : List (Nat × List ByteArray × List Wr)} (h : Se w W bo n L) : Se w W bo 0 L := ⟨h.below, fun i hi => absurd hi (Nat.not_lt_zero _), h.dv, h.ge⟩
theorem Se.sub {w W : World} {bo : Option Addr} {n : Nat} {L L' : List (Nat × List ByteArray × List Wr)} (h : Se w W bo n L) (hs : ∀ p ∈ L', p ∈ L) : Se w W bo n L' := ⟨h.below, h.b, fun p hp => h.dv p (hs p hp), fun p hp => h.ge p (hs p hp)⟩
/-- One of the variables is stored anew. -/
theorem Se.store {w W : World} {bo : Option Addr} {L : List (Nat × List ByteArray × List Wr)} {Y : Nat} {ss ss' : List ByteArray} {xs xs' : List Wr} {po qo : Option Addr} {pa qa : Nat} (h : Se w W bo 0 ((Y, ss, xs) :: L)) (hL : ∀ p ∈ L, p.1 ≠ Y) (hs : Ss W po ss') (hi : Ios W qo xs') :
    Se w ((W.setCell ⟨Y, 0, none⟩ (.slice po ss'.length pa)).setCell ⟨Y, 1, none⟩ (.slice qo xs'.length qa)) bo 0 ((Y, ss', xs') :: L) := by
  obtain ⟨a1, c1, b1, d1, hd⟩ := h.dv (Y, ss, xs) (List.mem_cons_self ..)
  have hY : w.heap.size ≤ Y := h.ge (Y, ss, xs) (List.mem_cons_self ..)
  have hv : VarD W Y (.slice a1 ss.length c1) (.slice b1 xs.length d1) := hd.var
  obtain ⟨hn, hk⟩ := DV.store (ca := pa) (cb := qa) hv hs hi
  refine ⟨(h.below.setCell (p := ⟨Y, 0, none⟩) hY _).setCell (p := ⟨Y, 1, none⟩) hY _, fun i hi => absurd hi (Nat.not_lt_zero _), fun p hp => ?_, fun p hp => ?_⟩
  · rcases List.mem_cons.1 hp with rfl | hp
    · exact ⟨po, pa, qo, qa, hn⟩
    · obtain ⟨a2, c2, b2, d2, h2⟩ := h.dv p (List.mem_cons_of_mem _ hp)
      exact ⟨a2, c2, b2, d2, h2.var.keep hk (hL p hp), h2.s.keepX hv (noStr_var _ _ _ _ _ _) hk, h2.i.keepX hv (noStr_var _ _ _ _ _ _) hk⟩
  · rcases List.mem_cons.1 hp with rfl | hp
    · exact hY
    · exact h.ge p (List.mem_cons_of_mem _ hp)

theorem Se.lt {w W : World} {bo : Option Addr} {n : Nat} {L : List (Nat × List ByteArray × List Wr)} (h : Se w W bo n L) : ∀ p ∈ L, p.1 < W.heap.size := fun p hp => by
  obtain ⟨a, c, b, d, hd⟩ := h.dv p hp
  exact hd.var.lt
/-- A variable that was made ahead is stored. -/
theorem Se.zstore {w W : World} {bo : Option Addr} {n Z H : Nat} {L : List (Nat × List ByteArray × List Wr)} {ss' : List ByteArray} {xs' : List Wr} {po qo : Option Addr} {pa qa : Nat} (h : Se w W bo n L) (hz : VarD W Z (.slice none 0 0) (.slice none 0 0)) (hH : w.heap.size ≤ H) (hZ : H ≤ Z) (hL : ∀ p ∈ L, p.1 < H) (hs : Ss W po ss') (hi : Ios W qo xs') :
    Se w ((W.setCell ⟨Z, 0, none⟩ (.slice po ss'.length pa)).setCell ⟨Z, 1, none⟩ (.slice qo xs'.length qa)) bo 0 ((Z, ss', xs') :: L) := by
  have h0 : Se w W bo 0 ((Z, [], []) :: L) := by
    refine ⟨h.below, (fun i hi => absurd hi (Nat.not_lt_zero _)), fun p hp => ?_, fun p hp => ?_⟩
    · rcases List.mem_cons.1 hp with rfl | hp
      · exact ⟨none, 0, none, 0, hz, (fun i hi => absurd hi (Nat.not_lt_zero _)), (fun i hi => absurd hi (Nat.not_lt_zero _))⟩
      · exact h.dv p hp
    · rcases List.mem_cons.1 hp with rfl | hp
      · exact Nat.le_trans hH hZ
      · exact h.ge p hp
  exact h0.store (fun p hp => by have := hL p hp; omega) hs hi

section
variable (ao bo : Option Addr) (ca cb : Nat) (ss : List ByteArray) (xs : List Wr) (w : World)
/-- A new disk, as a call's answer. -/
def NewD (w w' : World) (po : Option Addr) (qo : Option Addr) (S : List ByteArray) (X : List Wr) : Prop := Ss w' po S ∧ Ios w' qo X ∧ Below w.heap.size w w'
theorem len_in {ss : List ByteArray} {xs : List Wr} (hd : diskB ss xs = true) : ss.length ≤ maxLen ∧ xs.length ≤ maxLen := by
  have := diskB_len hd
  unfold maxLen
  omega
theorem ret_d {po qo : Option Addr} {n n' m m' pa qa : Nat} {c c' : Int} (h1 : n = n') (h2 : m = m') (h3 : c = c') : Ending.returned (.tuple #[.agg #[.slice po n pa, .slice qo m qa], .int .i64 c]) = Ending.returned (.tuple #[.agg #[.slice po n' pa, .slice qo m' qa], .int .i64 c']) := by rw [h1, h2, h3]

theorem write_in (h a : Int) (t : ByteArray) (X : List Wr) (hX : xs ++ [⟨h, a, t⟩] = X) (hd : diskB ss xs = true) (hl : xs.length < 200) (ht : t.size ≤ 80) (h0 : 0 ≤ h) (h3 : h ≤ 3) (a0 : 0 ≤ a) (a1 : a ≤ 63) (h1 : Ss w ao ss) (h2 : Ios w bo xs) :
    Calls Try.prog 10 #[.agg #[.slice ao ss.length ca, .slice bo xs.length cb], .int .i64 h, .int .i64 a, .string t] w fun e w' => ∃ po pa qo qa, e = .returned (.tuple #[.agg #[.slice po ss.length pa, .slice qo X.length qa], .int .i64 0]) ∧ NewD w w' po qo ss X := by
  subst hX
  obtain ⟨l1, l2⟩ := len_in hd
  obtain ⟨_, ha⟩ := askC_right (h := h) (a := a) hd h0 h3 a0 a1
  obtain ⟨e1, e2, e3⟩ := wr_ok (ss := ss) (xs := xs) (h := h) (a := a) (d := t) (by omega) ha (by omega) (by omega)
  have hX := diskB_snoc hd hl (x := ⟨h, a, t⟩) (ioB_parts.2 ⟨⟨h0, h3⟩, ⟨a0, a1⟩, ht⟩)
  refine (writeSector_impl ao bo ca cb ss xs h a t w (by unfold maxLen; omega) l1 l2 h1 h2).mono ?_
  rintro e w' ⟨po, pa, qo, qa, he, ho, hb⟩
  rw [e1, e2] at ho
  rw [e1, e2, e3] at he
  exact ⟨po, pa, qo, qa, he, ho.ss (right_ss hX), ho.ios (right_xs hX), hb⟩
theorem read_in (h a : Int) (t : ByteArray) (ht : readV ss xs h a = t) (hd : diskB ss xs = true) (h0 : 0 ≤ h) (h3 : h ≤ 3) (a0 : 0 ≤ a) (a1 : a ≤ 63) (h1 : Ss w ao ss) (h2 : Ios w bo xs) :
    Calls Try.prog 11 #[.agg #[.slice ao ss.length ca, .slice bo xs.length cb], .int .i64 h, .int .i64 a] w fun e w' => e = .returned (.tuple #[.string t, .int .i64 0]) ∧ Below w.heap.size w w' := by
  obtain ⟨l1, l2⟩ := len_in hd
  obtain ⟨_, ha⟩ := askC_right (h := h) (a := a) hd h0 h3 a0 a1
  refine (readSector_impl ao bo ca cb ss xs h a w l1 l2 h1 h2).mono ?_
  rintro e w' ⟨he, hb⟩
  exact ⟨by rw [he, ha]; exact ret_rd (by rw [rdS, if_pos ha, ht]) rfl, hb⟩
theorem pend_in (h : Int) (c : Nat) (hc : (ofH h xs).length = c) (hd : diskB ss xs = true) (h0 : 0 ≤ h) (h3 : h ≤ 3) (h1 : Ss w ao ss) (h2 : Ios w bo xs) :
    Calls Try.prog 15 #[.agg #[.slice ao ss.length ca, .slice bo xs.length cb], .int .i64 h] w fun e w' => e = .returned (.tuple #[.int .i64 (c : Int), .int .i64 0]) ∧ Below w.heap.size w w' := by
  obtain ⟨l1, l2⟩ := len_in hd
  obtain ⟨ha, _⟩ := askC_right (h := h) (a := 0) hd h0 h3 (by omega) (by omega)
  refine (pendingOf_impl ao bo ca cb ss xs h w l1 l2 h1 h2).mono ?_
  rintro e w' ⟨he, hb⟩
  exact ⟨by rw [he, ha]; exact ret_two (by rw [cntC, if_pos ha, cntW_of, hc]) rfl, hb⟩
theorem flushed {h : Int} {ss : List ByteArray} {xs : List Wr} (hd : diskB ss xs = true) (ha : hostC ss xs h = 0) : flS ss xs h = putW ss (ofH h xs) ∧ flX ss xs h = dropF h xs ∧ diskB (putW ss (ofH h xs)) (dropF h xs) = true := by
  obtain ⟨e1, e2⟩ := fl_ok ha
  have hc : (ofH h xs).length ≤ 200 := Nat.le_trans (List.length_filter_le _ _) (diskB_len hd).2
  obtain ⟨p1, p2⟩ := landF_put h ss xs 200
  have p1' : (landF h false ss xs 200).1 = putW ss ((ofH h xs).take 200) := p1
  have p2' : (landF h false ss xs 200).2.1 = remH h 200 xs := p2
  rw [List.take_of_length_le hc] at p1'
  rw [rem_all 200 xs hc] at p2'
  exact ⟨e1.trans p1', e2.trans p2', diskB_put hd (fun x hx => of_mem hx) (fun x hx => drop_mem hx) (drop_le h xs)⟩
theorem flush_in (h : Int) (S : List ByteArray) (X : List Wr) (hS : putW ss (ofH h xs) = S) (hX : dropF h xs = X) (hd : diskB ss xs = true) (h0 : 0 ≤ h) (h3 : h ≤ 3) (h1 : Ss w ao ss) (h2 : Ios w bo xs) :
    Calls Try.prog 12 #[.agg #[.slice ao ss.length ca, .slice bo xs.length cb], .int .i64 h] w fun e w' => ∃ po pa qo qa, e = .returned (.tuple #[.agg #[.slice po S.length pa, .slice qo X.length qa], .int .i64 0]) ∧ NewD w w' po qo S X := by
  subst hS hX
  obtain ⟨l1, l2⟩ := len_in hd
  obtain ⟨ha, _⟩ := askC_right (h := h) (a := 0) hd h0 h3 (by omega) (by omega)
  obtain ⟨e1, e2, hr⟩ := flushed hd ha
  refine (flush_impl ao bo ca cb ss xs h w l1 l2 h1 h2).mono ?_
  rintro e w' ⟨po, pa, qo, qa, he, ho, hb⟩
  rw [e1, e2] at ho
  rw [e1, e2, ha] at he
  exact ⟨po, pa, qo, qa, he, ho.ss (right_ss hr), ho.ios (right_xs hr), hb⟩
theorem flushS_in (h : Int) (S : List ByteArray) (X : List Wr) (hS : putW ss (ofH h xs) = S) (hX : dropF h xs = X) (hd : diskB ss xs = true) (h0 : 0 ≤ h) (h3 : h ≤ 3) (h1 : Ss w ao ss) (h2 : Ios w bo xs) :
    Calls Try.prog 14 #[.agg #[.slice ao ss.length ca, .slice bo xs.length cb], .int .i64 h] w fun e w' => ∃ po pa qo qa, e = .returned (.tuple #[.agg #[.slice po S.length pa, .slice qo X.length qa], .int .i64 0]) ∧ NewD w w' po qo S X := by
  subst hS hX
  obtain ⟨l1, l2⟩ := len_in hd
  obtain ⟨ha, _⟩ := askC_right (h := h) (a := 0) hd h0 h3 (by omega) (by omega)
  obtain ⟨e1, e2, hr⟩ := flushed hd ha
  refine (flush_spec ao bo ca cb ss xs h w l1 l2 h1 h2).mono ?_
  rintro e w' ⟨po, pa, qo, qa, he, ho, hb⟩
  rw [e1, e2] at ho
  rw [e1, e2, ha] at he
  exact ⟨po, pa, qo, qa, he, ho.ss (right_ss hr), ho.ios (right_xs hr), hb⟩
theorem lost {h : Int} {ss : List ByteArray} {xs : List Wr} {k : Nat} (hk : k ≤ 200) (hd : diskB ss xs = true) (ha : hostC ss xs h = 0) : loS ss xs h k = putW ss ((ofH h xs).take k) ∧ loX ss xs h k = dropF h xs ∧ loC ss xs h k = 0 ∧ diskB (putW ss ((ofH h xs).take k)) (dropF h xs) = true := by
  obtain ⟨e1, e2, e3⟩ := lo_ok (k := (k : Int)) ha (by simp [inB]; omega)
  obtain ⟨p1, p2⟩ := landF_gone h ss xs k
  exact ⟨e1.trans p1, e2.trans p2, e3, diskB_put hd (fun x hx => of_mem (List.mem_of_mem_take hx)) (fun x hx => drop_mem hx) (drop_le h xs)⟩
theorem lose_in (h : Int) (k : Nat) (S : List ByteArray) (X : List Wr) (hS : putW ss ((ofH h xs).take k) = S) (hX : dropF h xs = X) (hk : k ≤ 200) (hd : diskB ss xs = true) (h0 : 0 ≤ h) (h3 : h ≤ 3) (h1 : Ss w ao ss) (h2 : Ios w bo xs) :
    Calls Try.prog 13 #[.agg #[.slice ao ss.length ca, .slice bo xs.length cb], .int .i64 h, .int .i64 (k : Int)] w fun e w' => ∃ po pa qo qa, e = .returned (.tuple #[.agg #[.slice po S.length pa, .slice qo X.length qa], .int .i64 0]) ∧ NewD w w' po qo S X := by
  subst hS hX
  obtain ⟨l1, l2⟩ := len_in hd
  obtain ⟨ha, _⟩ := askC_right (h := h) (a := 0) hd h0 h3 (by omega) (by omega)
  obtain ⟨e1, e2, e3, hr⟩ := lost hk hd ha
  refine (loseHost_impl ao bo ca cb ss xs h k w l1 l2 h1 h2).mono ?_
  rintro e w' ⟨po, pa, qo, qa, he, ho, hb⟩
  rw [e1, e2] at ho
  rw [e1, e2, e3] at he
  exact ⟨po, pa, qo, qa, he, ho.ss (right_ss hr), ho.ios (right_xs hr), hb⟩
theorem loseS_in (h : Int) (k : Nat) (S : List ByteArray) (X : List Wr) (hS : putW ss ((ofH h xs).take k) = S) (hX : dropF h xs = X) (hk : k ≤ 200) (hd : diskB ss xs = true) (h0 : 0 ≤ h) (h3 : h ≤ 3) (h1 : Ss w ao ss) (h2 : Ios w bo xs) :
    Calls Try.prog 18 #[.agg #[.slice ao ss.length ca, .slice bo xs.length cb], .int .i64 h, .int .i64 (k : Int)] w fun e w' => ∃ po pa qo qa, e = .returned (.tuple #[.agg #[.slice po S.length pa, .slice qo X.length qa], .int .i64 0]) ∧ NewD w w' po qo S X := by
  subst hS hX
  obtain ⟨l1, l2⟩ := len_in hd
  obtain ⟨ha, _⟩ := askC_right (h := h) (a := 0) hd h0 h3 (by omega) (by omega)
  obtain ⟨e1, e2, e3, hr⟩ := lost hk hd ha
  refine (loseHost_spec ao bo ca cb ss xs h k w l1 l2 h1 h2).mono ?_
  rintro e w' ⟨po, pa, qo, qa, he, ho, hb⟩
  rw [e1, e2] at ho
  rw [e1, e2, e3] at he
  exact ⟨po, pa, qo, qa, he, ho.ss (right_ss hr), ho.ios (right_xs hr), hb⟩
theorem one_in (h : Int) (S : List ByteArray) (X : List Wr) (hS : putW ss ((ofH h xs).take 1) = S) (hX : remH h 1 xs = X) (hc : ¬ (ofH h xs).length = 0) (hd : diskB ss xs = true) (h0 : 0 ≤ h) (h3 : h ≤ 3) (h1 : Ss w ao ss) (h2 : Ios w bo xs) :
    Calls Try.prog 19 #[.agg #[.slice ao ss.length ca, .slice bo xs.length cb], .int .i64 h] w fun e w' => ∃ po pa qo qa, e = .returned (.tuple #[.agg #[.slice po S.length pa, .slice qo X.length qa], .int .i64 0]) ∧ NewD w w' po qo S X := by
  subst hS hX
  obtain ⟨l1, l2⟩ := len_in hd
  obtain ⟨ha, _⟩ := askC_right (h := h) (a := 0) hd h0 h3 (by omega) (by omega)
  obtain ⟨e1, e2, e3⟩ := on_ok (ss := ss) (xs := xs) (h := h) ha (by rw [cntW_of]; exact hc)
  obtain ⟨p1, p2⟩ := landF_put h ss xs 1
  have p1' : onS ss xs h = putW ss ((ofH h xs).take 1) := e1.trans p1
  have p2' : onX ss xs h = remH h 1 xs := e2.trans p2
  have hr : diskB (putW ss ((ofH h xs).take 1)) (remH h 1 xs) = true := diskB_put hd (fun x hx => of_mem (List.mem_of_mem_take hx)) (fun x hx => rem_mem 1 hx) (rem_len 1 xs)
  refine (landOne_impl ao bo ca cb ss xs h w l1 l2 h1 h2).mono ?_
  rintro e w' ⟨po, pa, qo, qa, he, ho, hb⟩
  rw [p1', p2'] at ho
  rw [p1', p2', e3] at he
  exact ⟨po, pa, qo, qa, he, ho.ss (right_ss hr), ho.ios (right_xs hr), hb⟩
theorem ok_in (hd : diskB ss xs = true) (h1 : Ss w ao ss) (h2 : Ios w bo xs) :
    Calls Try.prog 17 #[.agg #[.slice ao ss.length ca, .slice bo xs.length cb]] w fun e w' => e = .returned (.bool true) ∧ Below w.heap.size w w' := by
  obtain ⟨l1, l2⟩ := len_in hd
  refine (diskOK_impl ao bo ca cb ss xs w l1 l2 h1 h2).mono ?_
  rintro e w' ⟨he, hb⟩
  exact ⟨by rw [he, hd], hb⟩
end

end Go.Proofs.Ytoiclgeeaednnaa
