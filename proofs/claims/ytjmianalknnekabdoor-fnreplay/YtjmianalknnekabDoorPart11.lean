import Derived.Test.YtjmianalknnekabDoorRows
import Derived.Test.YtjmianalknnekabDoorPart1
import Derived.Test.YtjmianalknnekabDoorPart4
import Derived.Test.YtjmianalknnekabDoorPart9
import Derived.Test.YtjmianalknnekabDoorPart5
import Derived.Test.YtjmianalknnekabDoorPart10
import Derived.Test.YtjmianalknnekabDoorPart6
import Derived.Test.YtjmianalknnekabDoorPart7
import Derived.Test.YtjmianalknnekabDoorPart2
import Derived.WalkKit
import Derived.WalkSpells
import Derived.Test.YtjmianalknnekabDoorPart3
import Derived.KernelRfl
import Derived.Lib.SmallJoins
import Derived.Deep.RegionHeld3
import Derived.Test.YtjmianalknnekabDoorPart8
import Derived.LoopN
import Derived.BigQuiet
import Derived.Deep.QuietTactic
import Derived.Deep.CutRange
import Derived.Deep.RegionWith

/- What a law over disks keeps; the disk's calls at right disks, the answers under names of their own. -/
namespace Go.Proofs.YtjmianalknnekabDoor
open Go.RowKit
set_option linter.unusedVariables false

/-- A disk lies in a variable. -/
def DX (W : World) (C : Nat) (ss : List ByteArray) (xs : List Wr) : Prop := ∃ ao ca bo cb, DV W C ao ca bo cb ss xs
/-- A law's world: a code, disks in variables. -/
structure Se (w W : World) (bo : Option Addr) (n : Nat) (L : List (Nat × List ByteArray × List Wr)) : Prop where
  below : Below w.heap.size w W
  b : Bs W bo n
  dv : ∀ p ∈ L, DX W p.1 p.2.1 p.2.2
  ge : ∀ p ∈ L, w.heap.size ≤ p.1
theorem Se.next {w W W' : World} {bo : Option Addr} {n : Nat} {L : List (Nat × List ByteArray × List Wr)} (h : Se w W bo n L) (hb : Below W.heap.size W W') : Se w W' bo n L :=
  ⟨fr h.below hb, h.b.below hb, fun p hp => by obtain ⟨ao, ca, bo, cb, hd⟩ := h.dv p hp; exact ⟨ao, ca, bo, cb, hd.below hb⟩, h.ge⟩
theorem Se.new {w W : World} {bo : Option Addr} {n : Nat} {L : List (Nat × List ByteArray × List Wr)} {ss : List ByteArray} {xs : List Wr} {po qo : Option Addr} {pa qa : Nat} (h : Se w W bo n L) (hs : Ss W po ss) (hi : Ios W qo xs) :
    Se w (W.alloc (.cells #[.slice po ss.length pa, .slice qo xs.length qa] 39)) bo n ((W.heap.size, ss, xs) :: L) := by
  have hb := Joins.below_alloc1 W (.cells #[.slice po ss.length pa, .slice qo xs.length qa] 39)
  have hn := h.next hb
  refine ⟨hn.below, hn.b, fun p hp => ?_, fun p hp => ?_⟩
  · rcases List.mem_cons.1 hp with rfl | hp
    · exact ⟨po, pa, qo, qa, heap_alloc_new W _, hs.below hb, hi.below hb⟩
    · exact hn.dv p hp
  · rcases List.mem_cons.1 hp with rfl | hp
    · exact h.below.size
    · exact h.ge p hp
theorem Se.dropB {w W : World} {bo : Option Addr} {n : Nat} {L : List (Nat × List ByteArray × List Wr)} (h : Se w W bo n L) : Se w W bo 0 L := ⟨h.below, fun i hi => absurd hi (Nat.not_lt_zero _), h.dv, h.ge⟩
theorem Se.sub {w W : World} {bo : Option Addr} {n : Nat} {L L' : List (Nat × List ByteArray × List Wr)} (h : Se w W bo n L) (hs : ∀ p ∈ L', p ∈ L) : Se w W bo n L' := ⟨h.below, h.b, fun p hp => h.dv p (hs p hp), fun p hp => h.ge p (hs p hp)⟩
/-- One of the variables is stored anew. -/
theorem Se.store {w W : World} {bo : Option Addr} {L : List (Nat × List ByteArray × List Wr)} {Y : Nat} {ss ss' : List ByteArray} {xs xs' : List Wr} {po qo : Option Addr} {pa qa : Nat} (h : Se w W bo 0 ((Y, ss, xs) :: L)) (hL : ∀ p ∈ L, p.1 ≠ Y) (hs : Ss W po ss') (hi : Ios W qo xs') :
    Se w ((W.setCell ⟨Y, 0, none⟩ (.slice po ss'.length pa)).setCell ⟨Y, 1, none⟩ (.slice qo xs'.length qa)) bo 0 ((Y, ss', xs') :: L) := by
  obtain ⟨a1, c1, b1, d1, hd⟩ := h.dv (Y, ss, xs) (List.mem_cons_self ..)
  have hY : w.heap.size ≤ Y := h.ge (Y, ss, xs) (List.mem_cons_self ..)
  have hv : VarD W Y (.slice a1 ss.length c1) (.slice b1 xs.length d1) := hd.var
  obtain ⟨hn, hk⟩ := DV.store (ca := pa) (cb := qa) hv hs hi
  refine ⟨(h.below.setCell (p := ⟨Y, 0, none⟩) hY _).setCell (p := ⟨Y, 1, none⟩) hY _, fun i hi => absurd hi (Nat.not_lt_zero _), fun p hp => ?_, fun p hp => ?_⟩
  · rcases List.mem_cons.1 hp with rfl | hp
    · exact ⟨po, pa, qo, qa, hn⟩
    · obtain ⟨a2, c2, b2, d2, h2⟩ := h.dv p (List.mem_cons_of_mem _ hp)
      exact ⟨a2, c2, b2, d2, h2.var.keep hk (hL p hp), h2.s.keepX hv (noStr_var _ _ _ _ _ _) hk, h2.i.keepX hv (noStr_var _ _ _ _ _ _) hk⟩
  · rcases List.mem_cons.1 hp with rfl | hp
    · exact hY
    · exact h.ge p (List.mem_cons_of_mem _ hp)

theorem Se.lt {w W : World} {bo : Option Addr} {n : Nat} {L : List (Nat × List ByteArray × List Wr)} (h : Se w W bo n L) : ∀ p ∈ L, p.1 < W.heap.size := fun p hp => by
  obtain ⟨a, c, b, d, hd⟩ := h.dv p hp
  exact hd.var.lt
/-- A variable that was made ahead is stored. -/
theorem Se.zstore {w W : World} {bo : Option Addr} {n Z H : Nat} {L : List (Nat × List ByteArray × List Wr)} {ss' : List ByteArray} {xs' : List Wr} {po qo : Option Addr} {pa qa : Nat} (h : Se w W bo n L) (hz : VarD W Z (.slice none 0 0) (.slice none 0 0)) (hH : w.heap.size ≤ H) (hZ : H ≤ Z) (hL : ∀ p ∈ L, p.1 < H) (hs : Ss W po ss') (hi : Ios W qo xs') :
    Se w ((W.setCell ⟨Z, 0, none⟩ (.slice po ss'.length pa)).setCell ⟨Z, 1, none⟩ (.slice qo xs'.length qa)) bo 0 ((Z, ss', xs') :: L) := by
  have h0 : Se w W bo 0 ((Z, [], []) :: L) := by
    refine ⟨h.below, (fun i hi => absurd hi (Nat.not_lt_zero _)), fun p hp => ?_, fun p hp => ?_⟩
    · rcases List.mem_cons.1 hp with rfl | hp
      · exact ⟨none, 0, none, 0, hz, (fun i hi => absurd hi (Nat.not_lt_zero _)), (fun i hi => absurd hi (Nat.not_lt_zero _))⟩
      · exact h.dv p hp
    · rcases List.mem_cons.1 hp with rfl | hp
      · exact Nat.le_trans hH hZ
      · exact h.ge p hp
  exact h0.store (fun p hp => by have := hL p hp; omega) hs hi

section
variable (ao bo : Option Addr) (ca cb : Nat) (ss : List ByteArray) (xs : List Wr) (w : World)
/-- A new disk, as a call's answer. -/
def NewD (w w' : World) (po : Option Addr) (qo : Option Addr) (S : List ByteArray) (X : List Wr) : Prop := Ss w' po S ∧ Ios w' qo X ∧ Below w.heap.size w w'
theorem len_in {ss : List ByteArray} {xs : List Wr} (hd : diskB ss xs = true) : ss.length ≤ maxLen ∧ xs.length ≤ maxLen := by
  have := diskB_len hd
  unfold maxLen
  omega
theorem ret_d {po qo : Option Addr} {n n' m m' pa qa : Nat} {c c' : Int} (h1 : n = n') (h2 : m = m') (h3 : c = c') : Ending.returned (.tuple #[.agg #[.slice po n pa, .slice qo m qa], .int .i64 c]) = Ending.returned (.tuple #[.agg #[.slice po n' pa, .slice qo m' qa], .int .i64 c']) := by rw [h1, h2, h3]

theorem write_in (h a : Int) (t : ByteArray) (X : List Wr) (hX : xs ++ [⟨h, a, t⟩] = X) (hd : diskB ss xs = true) (hl : xs.length < 200) (ht : t.size ≤ 80) (h0 : 0 ≤ h) (h3 : h ≤ 3) (a0 : 0 ≤ a) (a1 : a ≤ 63) (h1 : Ss w ao ss) (h2 : Ios w bo xs) :
    Calls Tryd.prog 62 #[.agg #[.slice ao ss.length ca, .slice bo xs.length cb], .int .i64 h, .int .i64 a, .string t] w fun e w' => ∃ po pa qo qa, e = .returned (.tuple #[.agg #[.slice po ss.length pa, .slice qo X.length qa], .int .i64 0]) ∧ NewD w w' po qo ss X := by
  subst hX
  obtain ⟨l1, l2⟩ := len_in hd
  obtain ⟨_, ha⟩ := askC_right (h := h) (a := a) hd h0 h3 a0 a1
  obtain ⟨e1, e2, e3⟩ := wr_ok (ss := ss) (xs := xs) (h := h) (a := a) (d := t) (by omega) ha (by omega) (by omega)
  have hX := diskB_snoc hd hl (x := ⟨h, a, t⟩) (ioB_parts.2 ⟨⟨h0, h3⟩, ⟨a0, a1⟩, ht⟩)
  refine (writeSector_impl ao bo ca cb ss xs h a t w (by unfold maxLen; omega) l1 l2 h1 h2).mono ?_
  rintro e w' ⟨po, pa, qo, qa, he, ho, hb⟩
  rw [e1, e2] at ho
  rw [e1, e2, e3] at he
  exact ⟨po, pa, qo, qa, he, ho.ss (right_ss hX), ho.ios (right_xs hX), hb⟩
theorem flushed {h : Int} {ss : List ByteArray} {xs : List Wr} (hd : diskB ss xs = true) (ha : hostC ss xs h = 0) : flS ss xs h = putW ss (ofH h xs) ∧ flX ss xs h = dropF h xs ∧ diskB (putW ss (ofH h xs)) (dropF h xs) = true := by
  obtain ⟨e1, e2⟩ := fl_ok ha
  have hc : (ofH h xs).length ≤ 200 := Nat.le_trans (List.length_filter_le _ _) (diskB_len hd).2
  obtain ⟨p1, p2⟩ := landF_put h ss xs 200
  have p1' : (landF h false ss xs 200).1 = putW ss ((ofH h xs).take 200) := p1
  have p2' : (landF h false ss xs 200).2.1 = remH h 200 xs := p2
  rw [List.take_of_length_le hc] at p1'
  rw [rem_all 200 xs hc] at p2'
  exact ⟨e1.trans p1', e2.trans p2', diskB_put hd (fun x hx => of_mem hx) (fun x hx => drop_mem hx) (drop_le h xs)⟩
theorem flush_in (h : Int) (S : List ByteArray) (X : List Wr) (hS : putW ss (ofH h xs) = S) (hX : dropF h xs = X) (hd : diskB ss xs = true) (h0 : 0 ≤ h) (h3 : h ≤ 3) (h1 : Ss w ao ss) (h2 : Ios w bo xs) :
    Calls Tryd.prog 61 #[.agg #[.slice ao ss.length ca, .slice bo xs.length cb], .int .i64 h] w fun e w' => ∃ po pa qo qa, e = .returned (.tuple #[.agg #[.slice po S.length pa, .slice qo X.length qa], .int .i64 0]) ∧ NewD w w' po qo S X := by
  subst hS hX
  obtain ⟨l1, l2⟩ := len_in hd
  obtain ⟨ha, _⟩ := askC_right (h := h) (a := 0) hd h0 h3 (by omega) (by omega)
  obtain ⟨e1, e2, hr⟩ := flushed hd ha
  refine (flush_impl ao bo ca cb ss xs h w l1 l2 h1 h2).mono ?_
  rintro e w' ⟨po, pa, qo, qa, he, ho, hb⟩
  rw [e1, e2] at ho
  rw [e1, e2, ha] at he
  exact ⟨po, pa, qo, qa, he, ho.ss (right_ss hr), ho.ios (right_xs hr), hb⟩
theorem lost {h : Int} {ss : List ByteArray} {xs : List Wr} {k : Nat} (hk : k ≤ 200) (hd : diskB ss xs = true) (ha : hostC ss xs h = 0) : loS ss xs h k = putW ss ((ofH h xs).take k) ∧ loX ss xs h k = dropF h xs ∧ loC ss xs h k = 0 ∧ diskB (putW ss ((ofH h xs).take k)) (dropF h xs) = true := by
  obtain ⟨e1, e2, e3⟩ := lo_ok (k := (k : Int)) ha (by simp [inB]; omega)
  obtain ⟨p1, p2⟩ := landF_gone h ss xs k
  exact ⟨e1.trans p1, e2.trans p2, e3, diskB_put hd (fun x hx => of_mem (List.mem_of_mem_take hx)) (fun x hx => drop_mem hx) (drop_le h xs)⟩
theorem lose_in (h : Int) (k : Nat) (S : List ByteArray) (X : List Wr) (hS : putW ss ((ofH h xs).take k) = S) (hX : dropF h xs = X) (hk : k ≤ 200) (hd : diskB ss xs = true) (h0 : 0 ≤ h) (h3 : h ≤ 3) (h1 : Ss w ao ss) (h2 : Ios w bo xs) :
    Calls Tryd.prog 16 #[.agg #[.slice ao ss.length ca, .slice bo xs.length cb], .int .i64 h, .int .i64 (k : Int)] w fun e w' => ∃ po pa qo qa, e = .returned (.tuple #[.agg #[.slice po S.length pa, .slice qo X.length qa], .int .i64 0]) ∧ NewD w w' po qo S X := by
  subst hS hX
  obtain ⟨l1, l2⟩ := len_in hd
  obtain ⟨ha, _⟩ := askC_right (h := h) (a := 0) hd h0 h3 (by omega) (by omega)
  obtain ⟨e1, e2, e3, hr⟩ := lost hk hd ha
  refine (loseHost_impl ao bo ca cb ss xs h k w l1 l2 h1 h2).mono ?_
  rintro e w' ⟨po, pa, qo, qa, he, ho, hb⟩
  rw [e1, e2] at ho
  rw [e1, e2, e3] at he
  exact ⟨po, pa, qo, qa, he, ho.ss (right_ss hr), ho.ios (right_xs hr), hb⟩
theorem ok_in (hd : diskB ss xs = true) (h1 : Ss w ao ss) (h2 : Ios w bo xs) :
    Calls Tryd.prog 57 #[.agg #[.slice ao ss.length ca, .slice bo xs.length cb]] w fun e w' => e = .returned (.bool true) ∧ Below w.heap.size w w' := by
  obtain ⟨l1, l2⟩ := len_in hd
  refine (diskOK_impl ao bo ca cb ss xs w l1 l2 h1 h2).mono ?_
  rintro e w' ⟨he, hb⟩
  exact ⟨by rw [he, hd], hb⟩
end

end Go.Proofs.YtjmianalknnekabDoor

/- Contracts of the program's WriteSector and Flush at right arguments, what they answer owned; of impl.writeSure. -/
namespace Go.Proofs.YtjmianalknnekabDoor
open Go.RowKit
set_option linter.unusedVariables false
set_option maxRecDepth 100000

theorem codes_right {ss : List ByteArray} {xs : List Wr} {h a : Int} (hd : diskB ss xs = true) (h0 : 0 ≤ h) (h3 : h ≤ 3) (a0 : 0 ≤ a) (a1 : a ≤ 63) : hostC ss xs h = 0 ∧ askC ss xs h a = 0 := by
  have e := hostC_ok hd (show inB h 0 3 = true by simp [inB]; omega)
  exact ⟨e, askC_ok e (by simp [inB]; omega)⟩
theorem own_len {po qo : Option Addr} {n n' m m' pa qa : Nat} {c c' : Int} (h1 : n = n') (h2 : m = m') (h3 : c = c') : Ending.returned (.tuple #[.agg #[.slice po n pa, .slice qo m qa], .int .i64 c]) = Ending.returned (.tuple #[.agg #[.slice po n' pa, .slice qo m' qa], .int .i64 c']) := by rw [h1, h2, h3]
theorem right_sz {ss : List ByteArray} {xs : List Wr} (hd : diskB ss xs = true) : (ss.length ≤ maxLen ∧ xs.length ≤ maxLen) ∧ (∀ s ∈ ss, s.size ≤ maxLen) ∧ ∀ x ∈ xs, x.data.size ≤ maxLen := by
  have hl := diskB_len hd
  refine ⟨by unfold maxLen; omega, fun s hs => Nat.le_trans ((diskB_parts.1 hd).1.2 s hs) (by decide), fun x hx => Nat.le_trans (ioB_parts.1 ((diskB_parts.1 hd).2.2 x hx)).2.2 (by decide)⟩

theorem write_own (ao bo : Option Addr) (ca cb : Nat) (ss : List ByteArray) (xs : List Wr) (h a : Int) (t : ByteArray) (X : List Wr) (w : World) (hX : xs ++ [⟨h, a, t⟩] = X) (hd : diskB ss xs = true) (hl : xs.length < 200) (ht : t.size ≤ 80) (h0 : 0 ≤ h) (h3 : h ≤ 3) (a0 : 0 ≤ a) (a1 : a ≤ 63) (h1 : Ss w ao ss) (h2 : Ios w bo xs) :
    Calls Tryd.prog 62 #[.agg #[.slice ao ss.length ca, .slice bo xs.length cb], .int .i64 h, .int .i64 a, .string t] w fun e w' => ∃ po pa qo qa, e = .returned (.tuple #[.agg #[.slice po ss.length pa, .slice qo X.length qa], .int .i64 0]) ∧ OwnD w' w.heap.size po ss.length pa qo X.length qa ss X ∧ Below w.heap.size w w' := by
  subst hX
  obtain ⟨⟨l1, l2⟩, _⟩ := right_sz hd
  obtain ⟨_, ha⟩ := codes_right (h := h) (a := a) hd h0 h3 a0 a1
  obtain ⟨e1, e2, e3⟩ := wr_ok (ss := ss) (xs := xs) (h := h) (a := a) (d := t) (by omega) ha (by omega) (by omega)
  refine (writeSector_impl ao bo ca cb ss xs h a t w (by unfold maxLen; omega) l1 l2 h1 h2).mono ?_
  rintro e w' ⟨po, pa, qo, qa, he, ho, hb⟩
  rw [e1, e2] at ho
  rw [e1, e2, e3] at he
  exact ⟨po, pa, qo, qa, he, ho, hb⟩
theorem flush_put {h : Int} {ss : List ByteArray} {xs : List Wr} (hd : diskB ss xs = true) (ha : hostC ss xs h = 0) : flS ss xs h = putW ss (ofH h xs) ∧ flX ss xs h = dropF h xs := by
  obtain ⟨e1, e2⟩ := fl_ok ha
  have hc : (ofH h xs).length ≤ 200 := Nat.le_trans (List.length_filter_le _ _) (diskB_len hd).2
  obtain ⟨p1, p2⟩ := landF_put h ss xs 200
  have p1' : (landF h false ss xs 200).1 = putW ss ((ofH h xs).take 200) := p1
  have p2' : (landF h false ss xs 200).2.1 = remH h 200 xs := p2
  rw [List.take_of_length_le hc] at p1'
  rw [rem_all 200 xs hc] at p2'
  exact ⟨e1.trans p1', e2.trans p2'⟩
theorem flush_own (ao bo : Option Addr) (ca cb : Nat) (ss : List ByteArray) (xs : List Wr) (h : Int) (S : List ByteArray) (X : List Wr) (w : World) (hS : putW ss (ofH h xs) = S) (hX : dropF h xs = X) (hd : diskB ss xs = true) (h0 : 0 ≤ h) (h3 : h ≤ 3) (h1 : Ss w ao ss) (h2 : Ios w bo xs) :
    Calls Tryd.prog 61 #[.agg #[.slice ao ss.length ca, .slice bo xs.length cb], .int .i64 h] w fun e w' => ∃ po pa qo qa, e = .returned (.tuple #[.agg #[.slice po S.length pa, .slice qo X.length qa], .int .i64 0]) ∧ OwnD w' w.heap.size po S.length pa qo X.length qa S X ∧ Below w.heap.size w w' := by
  subst hS hX
  obtain ⟨⟨l1, l2⟩, _⟩ := right_sz hd
  obtain ⟨ha, _⟩ := codes_right (h := h) (a := 0) hd h0 h3 (by omega) (by omega)
  obtain ⟨e1, e2⟩ := flush_put hd ha
  refine (flush_impl ao bo ca cb ss xs h w l1 l2 h1 h2).mono ?_
  rintro e w' ⟨po, pa, qo, qa, he, ho, hb⟩
  rw [e1, e2] at ho
  rw [e1, e2, ha] at he
  exact ⟨po, pa, qo, qa, he, ho, hb⟩

end Go.Proofs.YtjmianalknnekabDoor

/- Contracts of ReadSector, of the program and of its model. -/
namespace Go.Proofs.YtjmianalknnekabDoor
open Go.RowKit
set_option linter.unusedVariables false
set_option maxRecDepth 100000

set_option maxHeartbeats 1600000 in
theorem l01Read_any (ao bo : Option Addr) (ca cb : Nat) (ss : List ByteArray) (xs : List Wr) (h : Int) (a : Nat) (w : World) (ha : a < ss.length) (hs : ss.length ≤ 1048576) (hm : xs.length ≤ maxLen) (h1 : Ss w ao ss) (h2 : Ios w bo xs) :
    Calls Tryd.prog 91 #[.agg #[.slice ao ss.length ca, .slice bo xs.length cb], .int .i64 h, .int .i64 a] w fun e w' => e = .returned (.string (readV ss xs h a)) ∧ Below w.heap.size w w' := by
  have HA := hide (Joins.below_alloc1 w (.cells #[.slice ao ss.length ca, .slice bo xs.length cb] 39))
  have H1 := hide (h1.below (unhide HA))
  have H2 := hide (h2.below (unhide HA))
  clear h1 h2
  unfold maxLen at hm
  go_enter Tryd.func91, Tryd.ntmps91
  go_wp2
  go_loop [7] (fun i => ∃ m : Int, i = .int .i64 m ∧ -1 ≤ m ∧ m < xs.length ∧ Hid (∀ j (hj : j < xs.length), m < j → ¬ mat xs[j] h a)) (fun i => (intOf i + 1).toNat)
  case atStart => exact ⟨_, rfl, by omega, by omega, hide (fun j hj hlt => by omega)⟩
  case round =>
    obtain ⟨m, rfl, hm0, hm1, HN⟩ := hrel
    by_cases hge : 0 ≤ m
    · obtain ⟨k, rfl⟩ := Int.eq_ofNat_of_zero_le hge
      have hk : k < xs.length := by omega
      obtain ⟨b, off, rfl, hc0, hc1, hc2, hz⟩ := unhide H2 k hk
      clear hz
      by_cases e0 : xs[k].host = h
      · have b0 : (xs[k].host == h) = true := by simp [e0]
        by_cases e1 : xs[k].at_ = a
        · have b1 : (xs[k].at_ == (a : Int)) = true := by simp [e1]
          have H := hide (readV_hit (ss := ss) hk ⟨e0, e1⟩ (fun j hj hlt => unhide HN j hj (by omega)))
          clear e0 e1
          go_wp2
          go_ret
          exact ⟨ret_rs (unhide H).symm, unhide HA⟩
        · have b1 : (xs[k].at_ == (a : Int)) = false := by simp [e1]
          have HX := hide (no_succ hk (unhide HN) (fun hx => e1 hx.2))
          clear e0 e1
          go_wp2
          go_round
          case rel => exact ⟨_, rfl, by omega, by omega, HX⟩
          case measure => simp [intOf]
      · have b0 : (xs[k].host == h) = false := by simp [e0]
        have HX := hide (no_succ hk (unhide HN) (fun hx => e0 hx.1))
        clear e0
        go_wp2
        go_round
        case rel => exact ⟨_, rfl, by omega, by omega, HX⟩
        case measure => simp [intOf]
    · obtain ⟨b, off, rfl, hc, hz⟩ := unhide H1 a ha
      clear hz
      have hg : ss.getD ((a : Int).toNat) ⟨#[]⟩ = ss[a] := by simp [List.getD, ha]
      have H := hide ((readV_none (ss := ss) (fun j hj => unhide HN j hj (by omega))).trans hg)
      clear hg
      go_wp2
      go_ret
      exact ⟨ret_rs (unhide H).symm, unhide HA⟩

end Go.Proofs.YtjmianalknnekabDoor

/- Contracts of spec's generations, the plain ones: l04Host, DeltaOK, l04Encode, l04Decode. -/
namespace Go.Proofs.YtjmianalknnekabDoor
open Go.RowKit
set_option linter.unusedVariables false
set_option maxRecDepth 100000

theorem l04Host_any (h : Int) (w : World) : Calls Tryd.prog 70 #[.int .i64 h] w fun e w' => e = .returned (.bool (inB h 0 3)) ∧ w' = w := by
  go_enter Tryd.func70, Tryd.ntmps70
  go_wp2_with fail
  refine (l01In_num h 0 3 _).mono ?_
  rintro e w1 ⟨rfl, rfl⟩
  go_wp2
  go_ret
  exact ⟨rfl, rfl⟩

theorem d3_nums {h g s : Int} (hd : dltB h g s = true) : ∀ j (hj : j < [h, g, s].length), 0 ≤ [h, g, s][j] ∧ [h, g, s][j] ≤ 2147483647 := by
  obtain ⟨h1, h2, h3⟩ := dltB_iff.1 hd
  intro j hj
  have hj' : j < 3 := hj
  rcases (show j = 0 ∨ j = 1 ∨ j = 2 by omega) with rfl | rfl | rfl <;> simp <;> omega
theorem is3 (w : World) (n : Nat) (t : TypeId) (a b c : Int) (hn : w.heap.size = n) : Is (w.alloc (.cells #[.int .i64 a, .int .i64 b, .int .i64 c] t)) (some ⟨n, 0, none⟩) [a, b, c] := by
  subst hn
  intro i hi
  have hi' : i < 3 := hi
  refine ⟨w.heap.size, 0, rfl, ?_⟩
  rcases (show i = 0 ∨ i = 1 ∨ i = 2 by omega) with rfl | rfl | rfl <;> simp [go_sem]

theorem ret_db {a b c a' b' c' : Int} {x y : Bool} (h1 : a = a') (h2 : b = b') (h3 : c = c') (k : x = y) : Ending.returned (.tuple #[dltV a b c, .bool x]) = .returned (.tuple #[dltV a' b' c', .bool y]) := by rw [h1, h2, h3, k]
end Go.Proofs.YtjmianalknnekabDoor

/- Contracts of spec's generations on a disk: l04Read, l04Room, l04Put. -/
namespace Go.Proofs.YtjmianalknnekabDoor
open Go.RowKit
set_option linter.unusedVariables false
set_option maxRecDepth 100000

theorem ret_dd {a b c a' b' c' : Int} (h1 : a = a') (h2 : b = b') (h3 : c = c') : Ending.returned (dltV a b c) = .returned (dltV a' b' c') := by rw [h1, h2, h3]

/-- What l04Room answers. -/
def roomC (ss : List ByteArray) (xs : List Wr) (h now : Int) : Int := if hostC ss xs h = 0 then (if inB now 0 10000000 = true then (if xs.length = 200 then 7 else 0) else 4) else hostC ss xs h
theorem room_ask {ss : List ByteArray} {xs : List Wr} {h now : Int} (e : hostC ss xs h ≠ 0) : roomC ss xs h now = hostC ss xs h := if_neg e
theorem room_now {ss : List ByteArray} {xs : List Wr} {h now : Int} (e : hostC ss xs h = 0) (e1 : inB now 0 10000000 = false) : roomC ss xs h now = 4 := by simp [roomC, e, e1]
theorem room_full {ss : List ByteArray} {xs : List Wr} {h now : Int} (e : hostC ss xs h = 0) (e1 : inB now 0 10000000 = true) (e2 : xs.length = 200) : roomC ss xs h now = 7 := by simp [roomC, e, e1, e2]
theorem room_ok {ss : List ByteArray} {xs : List Wr} {h now : Int} (e : hostC ss xs h = 0) (e1 : inB now 0 10000000 = true) (e2 : ¬ xs.length = 200) : roomC ss xs h now = 0 := by simp [roomC, e, e1, e2]
theorem room_eq {ss : List ByteArray} {xs : List Wr} {h now : Int} (e : roomC ss xs h now = 0) : hostC ss xs h = 0 ∧ (0 ≤ now ∧ now ≤ 10000000) ∧ xs.length < 200 := by
  by_cases e0 : hostC ss xs h = 0
  · by_cases e1 : inB now 0 10000000 = true
    · by_cases e2 : xs.length = 200
      · rw [room_full e0 e1 e2] at e; cases e
      · have := (diskB_len (hostC_eq e0).1).2
        refine ⟨e0, by simpa [inB] using e1, by omega⟩
    · rw [Bool.not_eq_true] at e1
      rw [room_now e0 e1] at e; cases e
  · rw [room_ask e0] at e; exact absurd e e0
theorem ret_i {a b : Int} (h : a = b) : Ending.returned (.int .i64 a) = .returned (.int .i64 b) := by rw [h]

/-- The disk behind a write of a generation that is sure. -/
def dwr (h g s : Int) : Wr := ⟨h, 5 + h, encD h g s⟩
def pS (ss : List ByteArray) (xs : List Wr) (h g s : Int) : List ByteArray := putW ss (ofH h (xs ++ [dwr h g s]))
def pX (xs : List Wr) (h g s : Int) : List Wr := dropF h (xs ++ [dwr h g s])
theorem dwr_io {h g s : Int} (h0 : 0 ≤ h) (h3 : h ≤ 3) : ioB (dwr h g s) = true := ioB_parts.2 ⟨⟨h0, h3⟩, ⟨by show 0 ≤ 5 + h; omega, by show 5 + h ≤ 63; omega⟩, by show (encD h g s).size ≤ 80; rw [encD_size]; decide⟩
theorem put_right {ss : List ByteArray} {xs : List Wr} {h g s : Int} (hd : diskB ss xs = true) (hl : xs.length < 200) (h0 : 0 ≤ h) (h3 : h ≤ 3) : diskB ss (xs ++ [dwr h g s]) = true := diskB_snoc hd hl (dwr_io h0 h3)
theorem put_land {ss : List ByteArray} {xs : List Wr} {h : Int} (hl : xs.length ≤ 200) : (landF h false ss xs 200).1 = putW ss (ofH h xs) ∧ (landF h false ss xs 200).2.1 = dropF h xs := by
  have hc : (ofH h xs).length ≤ 200 := Nat.le_trans (List.length_filter_le _ _) hl
  obtain ⟨p1, p2⟩ := landF_put h ss xs 200
  have p1' : (landF h false ss xs 200).1 = putW ss ((ofH h xs).take 200) := p1
  have p2' : (landF h false ss xs 200).2.1 = remH h 200 xs := p2
  rw [List.take_of_length_le hc] at p1'
  rw [rem_all 200 xs hc] at p2'
  exact ⟨p1', p2'⟩
theorem pS_right {ss : List ByteArray} {xs : List Wr} {h g s : Int} (hd : diskB ss xs = true) (hl : xs.length < 200) (h0 : 0 ≤ h) (h3 : h ≤ 3) : diskB (pS ss xs h g s) (pX xs h g s) = true :=
  diskB_put (put_right (g := g) (s := s) hd hl h0 h3) (fun x hx => of_mem hx) (fun x hx => drop_mem hx) (drop_le h _)
theorem pS_len (ss : List ByteArray) (xs : List Wr) (h g s : Int) : (pS ss xs h g s).length = ss.length := put_len _ _

theorem rightX {ss : List ByteArray} {xs : List Wr} (hd : diskB ss xs = true) : ∀ x ∈ xs, x.data.size ≤ maxLen := fun x hx => Nat.le_trans (ioB_parts.1 ((diskB_parts.1 hd).2.2 x hx)).2.2 (by decide)
end Go.Proofs.YtjmianalknnekabDoor

/- Contracts of spec's moves: l07Move, l07Do, MovesDo. -/
namespace Go.Proofs.YtjmianalknnekabDoor
open Go.RowKit
set_option linter.unusedVariables false
set_option maxRecDepth 100000

abbrev wV (x : Wr) : Value := .agg #[.int .i64 x.host, .int .i64 x.at_, .string x.data]
theorem text_none {t : ByteArray} : t.toList.isEmpty = decide (t.size = 0) := by
  by_cases h : t.size = 0
  · obtain rfl := bytes0 h; rw [ByteArray.toList_eq]; rfl
  · rw [text_full h, decide_eq_false h]

end Go.Proofs.YtjmianalknnekabDoor

/- Contract of spec's MovesDo. -/
namespace Go.Proofs.YtjmianalknnekabDoor
open Go.RowKit
set_option linter.unusedVariables false
set_option maxRecDepth 100000

theorem ret_md {po qo : Option Addr} {n n' m m' pa qa : Nat} {c c' : Int} (h1 : n = n') (h2 : m = m') (h3 : c = c') : Ending.returned (.tuple #[.agg #[.slice po n pa, .slice qo m qa], .int .i64 c]) = Ending.returned (.tuple #[.agg #[.slice po n' pa, .slice qo m' qa], .int .i64 c']) := by rw [h1, h2, h3]
/-- The end of a call that lays its answer into the variable R. -/
theorem md_end {w W : World} {R n m pa qa : Nat} {po qo : Option Addr} {SS : List ByteArray} {XX : List Wr} (hR : VarD W R (.slice none 0 0) (.slice none 0 0)) (hb : Below w.heap.size w W) (hr : w.heap.size ≤ R) (ho : OwnD W w.heap.size po n pa qo m qa SS XX) (u v : Value) :
    OwnD ((W.setCell ⟨R, 0, none⟩ u).setCell ⟨R, 1, none⟩ v) w.heap.size po n pa qo m qa SS XX ∧ Below w.heap.size w ((W.setCell ⟨R, 0, none⟩ u).setCell ⟨R, 1, none⟩ v) :=
  ⟨ho.keep (((Keep.refl (fun j => j = R) W).setCell (p := ⟨R, 0, none⟩) rfl u).setCell (p := ⟨R, 1, none⟩) rfl v) (fun g hg e => ho.other hR (by decide) (by decide) (e ▸ hg)), below2 hb hr 0 1 u v⟩

end Go.Proofs.YtjmianalknnekabDoor

/- Contracts of the program's moves: moveOK, movesOK, doneBy, MovesDo. -/
namespace Go.Proofs.YtjmianalknnekabDoor
open Go.RowKit
set_option linter.unusedVariables false
set_option maxRecDepth 100000

set_option maxHeartbeats 1600000 in
theorem moveOK_any (m : Wr) (w : World) (hz : m.data.size ≤ maxLen) : Calls Tryd.prog 58 #[wV m] w fun e w' => e = .returned (.bool (mvB m)) ∧ Below w.heap.size w w' := by
  unfold maxLen at hz
  obtain ⟨k, a, d⟩ := m
  by_cases h1 : k = 1
  · subst h1
    have HE : Hid (mvB ⟨1, a, d⟩ = (inB a 0 63 && decide ((d.size : Int) ≤ 80))) := hide (by
      have e : decide (d.size ≤ 80) = decide ((d.size : Int) ≤ 80) := by rw [decide_eq_decide]; omega
      simp only [mvB, if_true]; rw [e])
    go_enter Tryd.func58, Tryd.ntmps58
    go_wp2_with fail
    refine (placeOK_any a _).mono ?_
    rintro e w1 ⟨rfl, rfl⟩
    by_cases h2 : inB a 0 63 = false
    · go_wp2
      go_ret
      rw [unhide HE, h2]
      exact ⟨rfl, Joins.below_alloc1 _ _⟩
    rw [Bool.not_eq_false] at h2
    go_wp2
    go_ret
    rw [unhide HE, h2]
    exact ⟨rfl, Joins.below_alloc1 _ _⟩
  · have h1b : (k == 1) = false := by simp [h1]
    by_cases h2 : k = 2
    · subst h2
      have HE : Hid (mvB ⟨2, a, d⟩ = (decide (a = 0) && decide (d.size = 0))) := hide (by simp [mvB])
      by_cases h3 : a = 0
      · subst h3
        by_cases h4 : d.size = 0
        · obtain rfl := bytes0 h4
          clear h4
          go_enter Tryd.func58, Tryd.ntmps58
          go_wp2
          go_ret
          rw [unhide HE]
          exact ⟨rfl, Joins.below_alloc1 _ _⟩
        · have h4b := text_full h4
          have HE2 : Hid (mvB ⟨2, 0, d⟩ = false) := hide (by rw [unhide HE, decide_eq_false h4]; simp)
          clear h4 HE
          go_enter Tryd.func58, Tryd.ntmps58
          go_wp2
          go_ret
          rw [unhide HE2]
          exact ⟨rfl, Joins.below_alloc1 _ _⟩
      · have h3b : (a == 0) = false := by simp [h3]
        have HE2 : Hid (mvB ⟨2, a, d⟩ = false) := hide (by rw [unhide HE, decide_eq_false h3]; simp)
        clear h3
        go_enter Tryd.func58, Tryd.ntmps58
        go_wp2
        all_goals
          go_ret
          rw [unhide HE2]
          exact ⟨rfl, Joins.below_alloc1 _ _⟩
    · have h2b : (k == 2) = false := by simp [h2]
      have HE : Hid (mvB ⟨k, a, d⟩ = false) := hide (by simp [mvB, h1, h2])
      clear h1 h2
      go_enter Tryd.func58, Tryd.ntmps58
      go_wp2
      all_goals
        go_ret
        rw [unhide HE]
        exact ⟨rfl, Joins.below_alloc1 _ _⟩

set_option maxHeartbeats 1600000 in
theorem movesOK_any (mo : Option Addr) (mc : Nat) (ms : List Wr) (w : World) (hn : ms.length ≤ 4096) (h3 : Ios w mo ms) : Calls Tryd.prog 34 #[.slice mo ms.length mc] w fun e w' => e = .returned (.bool (msB ms)) ∧ Below w.heap.size w w' := by
  have HM := hide h3
  clear h3
  go_enter Tryd.func34, Tryd.ntmps34
  go_wp2
  go_loopw [7] (fun i wr => ∃ (k : Nat), k ≤ ms.length ∧ i = .int .i64 k ∧ Hid (∀ j (h : j < ms.length), j < k → mvB ms[j] = true) ∧ Hid (Below w.heap.size w wr)) (fun i _ => ms.length - (intOf i).toNat)
  case atStart => exact ⟨0, Nat.zero_le _, rfl, hide (fun j h hj => by omega), hide (Below.refl _ _)⟩
  case round =>
    obtain ⟨k, hk, rfl, HP, HB⟩ := hrel
    by_cases hlt : k < ms.length
    · obtain ⟨b, off, rfl, hc0, hc1, hc2, hcz⟩ := (unhide HM).below (unhide HB) k hlt
      have HZk := hide hcz
      clear hcz
      go_wp2_with fail
      refine (moveOK_any ms[k] _ (unhide HZk)).mono ?_
      rintro e w2 ⟨rfl, hb⟩
      have HB2 := hide (fr (belowAl (unhide HB) _) hb)
      clear hb
      by_cases hp : mvB ms[k] = true
      · have HPP := hide (all_succ hlt (unhide HP) hp)
        go_wp2
        go_roundw
        case rel => exact ⟨k + 1, by omega, by go_num, HPP, HB2⟩
        case measure => simp [intOf]; omega
      · rw [Bool.not_eq_true] at hp
        have HF : Hid (msB ms = false) := hide (all_not hlt hp)
        go_wp2
        go_ret
        exact ⟨ret_bool (unhide HF).symm, unhide HB2⟩
    · have HF : Hid (msB ms = true) := hide (all_of (fun i hi _ => unhide HP i hi (by omega)))
      go_wp2
      go_ret
      exact ⟨ret_bool (unhide HF).symm, unhide HB⟩

set_option maxHeartbeats 3200000 in
theorem doneBy_any (m : Wr) (ao bo : Option Addr) (ca cb : Nat) (ss : List ByteArray) (xs : List Wr) (h : Int) (S : List ByteArray) (X : List Wr) (w : World) (hSX : dm1 h (ss, xs) m = (S, X)) (hh : 0 ≤ h ∧ h ≤ 3) (hd : diskB ss xs = true) (hl : xs.length < 200) (hm : mvB m = true) (h1 : Ss w ao ss) (h2 : Ios w bo xs) :
    Calls Tryd.prog 36 #[wV m, .agg #[.slice ao ss.length ca, .slice bo xs.length cb], .int .i64 h] w fun e w' => ∃ po pa qo qa, e = .returned (.agg #[.slice po S.length pa, .slice qo X.length qa]) ∧ OwnD w' w.heap.size po S.length pa qo X.length qa S X ∧ Below w.heap.size w w' := by
  obtain ⟨hh0, hh3⟩ := hh
  have HA := hide (Joins.below_alloc3 w (.cells #[.int .i64 m.host, .int .i64 m.at_, .string m.data] 71) (.cells #[.slice ao ss.length ca, .slice bo xs.length cb] 39) (.cells #[.slice none 0 0, .slice none 0 0] 39))
  have HV : Hid (VarD (((w.alloc (.cells #[.int .i64 m.host, .int .i64 m.at_, .string m.data] 71)).alloc (.cells #[.slice ao ss.length ca, .slice bo xs.length cb] 39)).alloc (.cells #[.slice none 0 0, .slice none 0 0] 39)) (w.heap.size + 1) (.slice ao ss.length ca) (.slice bo xs.length cb)) := hide (VarD.below (by have := VarD.new (w.alloc (.cells #[.int .i64 m.host, .int .i64 m.at_, .string m.data] 71)) (.slice ao ss.length ca) (.slice bo xs.length cb); simp only [World.size_alloc] at this; exact this) (Joins.below_alloc1 _ _))
  have HR : Hid (VarD (((w.alloc (.cells #[.int .i64 m.host, .int .i64 m.at_, .string m.data] 71)).alloc (.cells #[.slice ao ss.length ca, .slice bo xs.length cb] 39)).alloc (.cells #[.slice none 0 0, .slice none 0 0] 39)) (w.heap.size + 1 + 1) (.slice none 0 0) (.slice none 0 0)) := hide (by have := VarD.new ((w.alloc (.cells #[.int .i64 m.host, .int .i64 m.at_, .string m.data] 71)).alloc (.cells #[.slice ao ss.length ca, .slice bo xs.length cb] 39)) (.slice none 0 0) (.slice none 0 0); simp only [World.size_alloc] at this; exact this)
  have H1 := hide (h1.below (unhide HA))
  have H2 := hide (h2.below (unhide HA))
  have HD := hide hd
  have HMB := hide hm
  have HEND : Hid (∀ W po pa qo qa, OwnD W w.heap.size po S.length pa qo X.length qa S X → Below w.heap.size w W → VarD W (w.heap.size + 1) (.slice ao ss.length ca) (.slice bo xs.length cb) → VarD W (w.heap.size + 1 + 1) (.slice none 0 0) (.slice none 0 0) → ∀ a b c d, OwnD ((((W.setCell ⟨w.heap.size + 1, 0, none⟩ a).setCell ⟨w.heap.size + 1, 1, none⟩ b).setCell ⟨w.heap.size + 1 + 1, 0, none⟩ c).setCell ⟨w.heap.size + 1 + 1, 1, none⟩ d) w.heap.size po S.length pa qo X.length qa S X ∧ Below w.heap.size w ((((W.setCell ⟨w.heap.size + 1, 0, none⟩ a).setCell ⟨w.heap.size + 1, 1, none⟩ b).setCell ⟨w.heap.size + 1 + 1, 0, none⟩ c).setCell ⟨w.heap.size + 1 + 1, 1, none⟩ d)) := hide (fun W po pa qo qa ho hb hv hr a b c d =>
    ⟨ho.keep (((((Keep.refl (fun j => j = w.heap.size + 1 ∨ j = w.heap.size + 1 + 1) W).setCell (p := ⟨w.heap.size + 1, 0, none⟩) (.inl rfl) a).setCell (p := ⟨w.heap.size + 1, 1, none⟩) (.inl rfl) b).setCell (p := ⟨w.heap.size + 1 + 1, 0, none⟩) (.inr rfl) c).setCell (p := ⟨w.heap.size + 1 + 1, 1, none⟩) (.inr rfl) d) (fun g hg e => by
        rcases e with e | e
        · exact ho.other hv (by decide) (by decide) (e ▸ hg)
        · exact ho.other hr (by decide) (by decide) (e ▸ hg)),
      below2 (g := w.heap.size + 1 + 1) (below2 (g := w.heap.size + 1) hb (by omega) 0 1 a b) (by omega) 0 1 c d⟩)
  clear h1 h2 hd hm
  by_cases hf : m.host = 2
  · have hfb : (m.host == 2) = true := by simp [hf]
    have hst := dm1_flush (h := h) (S := ss) (X := xs) hf
    rw [hSX] at hst
    obtain ⟨eS, eX⟩ : putW ss (ofH h xs) = S ∧ dropF h xs = X := by cases hst; exact ⟨rfl, rfl⟩
    have HS := hide eS
    have HX := hide eX
    clear hst hSX hf eS eX
    go_enter Tryd.func36, Tryd.ntmps36
    go_wp2_with fail
    refine (flush_own ao bo ca cb ss xs h S X _ (unhide HS) (unhide HX) (unhide HD) hh0 hh3 (unhide H1) (unhide H2)).mono ?_
    rintro e w2 ⟨po, pa, qo, qa, rfl, ho, hb⟩
    have HB := hide (fr (unhide HA) hb)
    have HO := hide (ho.base (unhide HA).size)
    have HV2 := hide ((unhide HV).below hb)
    have HR2 := hide ((unhide HR).below hb)
    clear ho hb
    obtain ⟨v0, v1⟩ := (unhide HV2).cells
    have vf0 := (unhide HV2).free 0
    have vf1 := (unhide HV2).free 1
    obtain ⟨r0, r1⟩ := (unhide HR2).cells
    have rf0 := (unhide HR2).free 0
    have rf1 := (unhide HR2).free 1
    have HF := hide (unhide HEND w2 po pa qo qa (unhide HO) (unhide HB) (unhide HV2) (unhide HR2))
    go_wp2
    exact bodyPost_ret (v := .agg #[.slice po S.length pa, .slice qo X.length qa]) (by simp [results, Tryd.results36, go_sem, r0, r1]) rfl ⟨po, pa, qo, qa, rfl, unhide HF _ _ _ _⟩
  · have hfb : (m.host == 2) = false := by simp [hf]
    have hst := dm1_write (h := h) (S := ss) (X := xs) hf
    rw [hSX] at hst
    obtain ⟨eS, eX⟩ : ss = S ∧ xs ++ [(⟨h, m.at_, m.data⟩ : Wr)] = X := by cases hst; exact ⟨rfl, rfl⟩
    obtain ⟨p1, p2⟩ := mvB_write (unhide HMB) hf
    have HX := hide eX
    subst eS
    clear hst hSX hf eX
    go_enter Tryd.func36, Tryd.ntmps36
    go_wp2_with fail
    refine (write_own ao bo ca cb ss xs h m.at_ m.data X _ (unhide HX) (unhide HD) hl p2 hh0 hh3 p1.1 p1.2 (unhide H1) (unhide H2)).mono ?_
    rintro e w2 ⟨po, pa, qo, qa, rfl, ho, hb⟩
    have HB := hide (fr (unhide HA) hb)
    have HO := hide (ho.base (unhide HA).size)
    have HV2 := hide ((unhide HV).below hb)
    have HR2 := hide ((unhide HR).below hb)
    clear ho hb
    obtain ⟨v0, v1⟩ := (unhide HV2).cells
    have vf0 := (unhide HV2).free 0
    have vf1 := (unhide HV2).free 1
    obtain ⟨r0, r1⟩ := (unhide HR2).cells
    have rf0 := (unhide HR2).free 0
    have rf1 := (unhide HR2).free 1
    have HF := hide (unhide HEND w2 po pa qo qa (unhide HO) (unhide HB) (unhide HV2) (unhide HR2))
    go_wp2
    exact bodyPost_ret (v := .agg #[.slice po ss.length pa, .slice qo X.length qa]) (by simp [results, Tryd.results36, go_sem, r0, r1]) rfl ⟨po, pa, qo, qa, rfl, unhide HF _ _ _ _⟩

end Go.Proofs.YtjmianalknnekabDoor
