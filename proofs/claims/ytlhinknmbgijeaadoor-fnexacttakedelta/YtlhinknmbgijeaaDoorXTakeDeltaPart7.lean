import Derived.Test.YtlhinknmbgijeaaDoorRows
import Derived.Test.YtlhinknmbgijeaaDoorXTakeDeltaPart1
import Derived.Test.YtlhinknmbgijeaaDoorXTakeDeltaPart3
import Derived.Test.YtlhinknmbgijeaaDoorXTakeDeltaPart4
import Derived.Test.YtlhinknmbgijeaaDoorXTakeDeltaPart6
import Derived.Test.YtlhinknmbgijeaaDoorXTakeDeltaPart5
import Derived.WalkKit
import Derived.WalkSpells
import Derived.KernelRfl
import Derived.Deep.RegionHeld3
import Derived.Test.YtlhinknmbgijeaaDoorXTakeDeltaPart2
import Derived.Deep.RegionWith

/- Contracts of spec's generations on a disk: l04Read, l04Room, l04Put. -/
namespace Go.Proofs.YtlhinknmbgijeaaDoor
open Go.RowKit
set_option linter.unusedVariables false
set_option maxRecDepth 100000

theorem ret_dd {a b c a' b' c' : Int} (h1 : a = a') (h2 : b = b') (h3 : c = c') : Ending.returned (dltV a b c) = .returned (dltV a' b' c') := by rw [h1, h2, h3]

set_option maxHeartbeats 1600000 in
theorem l04Read_any (ao bo : Option Addr) (ca cb : Nat) (ss : List ByteArray) (xs : List Wr) (h o : Int) (w : World) (hd : diskB ss xs = true) (h0 : 0 ≤ o) (h3 : o ≤ 3) (h1 : Ss w ao ss) (h2 : Ios w bo xs) :
    Calls Tryd.prog 46 #[.agg #[.slice ao ss.length ca, .slice bo xs.length cb], .int .i64 h, .int .i64 o] w fun e w' => e = .returned (dltV o (redG ss xs h o) (redS ss xs h o)) ∧ Below w.heap.size w w' := by
  obtain ⟨n, rfl⟩ := Int.eq_ofNat_of_zero_le h0
  have HS := hide (readV_size hd h (5 + (n : Int)))
  obtain ⟨hlen, hlx⟩ := diskB_len hd
  have HL : Hid (ss.length ≤ 1048576) := hide (by omega)
  have HN : Hid (5 + n < ss.length) := hide (by omega)
  have HM : Hid (xs.length ≤ maxLen) := hide (by unfold maxLen; omega)
  have HA := hide (Joins.below_alloc2 w (.cells #[.slice ao ss.length ca, .slice bo xs.length cb] 45) (.cells #[.int .i64 0, .int .i64 0, .int .i64 0] 47))
  have H1 := hide (h1.below (unhide HA))
  have H2 := hide (h2.below (unhide HA))
  have HR : Hid (VarT ((w.alloc (.cells #[.slice ao ss.length ca, .slice bo xs.length cb] 45)).alloc (.cells #[.int .i64 0, .int .i64 0, .int .i64 0] 47)) (w.heap.size + 1) 47 0 0 0) := hide (by have := VarT.new (w.alloc (.cells #[.slice ao ss.length ca, .slice bo xs.length cb] 45)) 47 0 0 0; simp only [World.size_alloc] at this; exact this)
  clear h1 h2 hd hlen hlx
  go_enter Tryd.func46, Tryd.ntmps46
  go_wp2_with fail
  refine Calls.mono (show Calls _ _ #[.agg #[.slice ao ss.length ca, .slice bo xs.length cb], .int .i64 h, .int .i64 (5 + (n : Int))] _ _ from l01Read_any _ _ _ _ ss xs h (5 + n) _ (unhide HN) (unhide HL) (unhide HM) (unhide H1) (unhide H2)) ?_
  rintro e w1 ⟨rfl, hb1⟩
  have HB1 := hide (fr (unhide HA) hb1)
  have HR1 := hide ((unhide HR).below hb1)
  obtain ⟨T, HT⟩ : ∃ T, Hid (readV ss xs h ((5 + n : Nat) : Int) = T) := ⟨_, hide rfl⟩
  have HT' : Hid (readV ss xs h (5 + (n : Int)) = T) := hide (by rw [← unhide HT]; rfl)
  rw [unhide HT'] at HS
  rw [unhide HT]
  clear hb1
  go_wp2_with fail
  refine (l04Decode_any T _ (Nat.le_trans (unhide HS) (by decide))).mono ?_
  rintro e w2 ⟨rfl, hb2⟩
  have HB2 := hide (fr (unhide HB1) hb2)
  have HR2 := hide ((unhide HR1).below hb2)
  obtain ⟨hc0, hc1, hc2⟩ := (unhide HR2).cells
  obtain ⟨hf0, hf1, hf2⟩ := (unhide HR2).free
  have hlt := (unhide HR2).lt
  have HE := hide (fun u v x => fr (below3 (g := w.heap.size + 1) (unhide HB2) (by omega) 0 1 2 u v x) (Joins.below_alloc1 _ (.cells #[.int .i64 (decH T), .int .i64 (decG T), .int .i64 (decS T)] 47)))
  clear hb2
  by_cases hd : decB T = true
  · by_cases ho : decH T = n
    · have HX : Hid (redB ss xs h n = true ∧ redG ss xs h n = decG T ∧ redS ss xs h n = decS T) := hide (by rw [← unhide HT']; exact red_yes (by rw [unhide HT']; exact hd) (by rw [unhide HT']; exact ho))
      rw [ho] at HE
      go_wp2
      refine bodyPost_ret (v := dltV n (decG T) (decS T)) (by simp [results, Tryd.results46, go_sem, hc0, hc1, hc2, hlt]) rfl ⟨?_, unhide HE _ _ _⟩
      exact ret_dd rfl (unhide HX).2.1.symm (unhide HX).2.2.symm
    · have HX : Hid (redG ss xs h n = 0 ∧ redS ss xs h n = 0) := hide (red_no (red_other (by rw [unhide HT']; exact ho)))
      go_wp2
      refine bodyPost_ret (v := dltV n 0 0) (by simp [results, Tryd.results46, go_sem, hc0, hc1, hc2, hlt]) rfl ⟨?_, unhide HE _ _ _⟩
      exact ret_dd rfl (unhide HX).1.symm (unhide HX).2.symm
  · rw [Bool.not_eq_true] at hd
    have HX : Hid (redG ss xs h n = 0 ∧ redS ss xs h n = 0) := hide (red_no (red_none (by rw [unhide HT']; exact hd)))
    go_wp2
    refine bodyPost_ret (v := dltV n 0 0) (by simp [results, Tryd.results46, go_sem, hc0, hc1, hc2, hlt]) rfl ⟨?_, unhide HE _ _ _⟩
    exact ret_dd rfl (unhide HX).1.symm (unhide HX).2.symm

/-- What l04Room answers. -/
def roomC (ss : List ByteArray) (xs : List Wr) (h now : Int) : Int := if hostC ss xs h = 0 then (if inB now 0 10000000 = true then (if xs.length = 200 then 7 else 0) else 4) else hostC ss xs h
theorem room_ask {ss : List ByteArray} {xs : List Wr} {h now : Int} (e : hostC ss xs h ≠ 0) : roomC ss xs h now = hostC ss xs h := if_neg e
theorem room_now {ss : List ByteArray} {xs : List Wr} {h now : Int} (e : hostC ss xs h = 0) (e1 : inB now 0 10000000 = false) : roomC ss xs h now = 4 := by simp [roomC, e, e1]
theorem room_full {ss : List ByteArray} {xs : List Wr} {h now : Int} (e : hostC ss xs h = 0) (e1 : inB now 0 10000000 = true) (e2 : xs.length = 200) : roomC ss xs h now = 7 := by simp [roomC, e, e1, e2]
theorem room_ok {ss : List ByteArray} {xs : List Wr} {h now : Int} (e : hostC ss xs h = 0) (e1 : inB now 0 10000000 = true) (e2 : ¬ xs.length = 200) : roomC ss xs h now = 0 := by simp [roomC, e, e1, e2]
theorem room_eq {ss : List ByteArray} {xs : List Wr} {h now : Int} (e : roomC ss xs h now = 0) : hostC ss xs h = 0 ∧ (0 ≤ now ∧ now ≤ 10000000) ∧ xs.length < 200 := by
  by_cases e0 : hostC ss xs h = 0
  · by_cases e1 : inB now 0 10000000 = true
    · by_cases e2 : xs.length = 200
      · rw [room_full e0 e1 e2] at e; cases e
      · have := (diskB_len (hostC_eq e0).1).2
        refine ⟨e0, by simpa [inB] using e1, by omega⟩
    · rw [Bool.not_eq_true] at e1
      rw [room_now e0 e1] at e; cases e
  · rw [room_ask e0] at e; exact absurd e e0
theorem ret_i {a b : Int} (h : a = b) : Ending.returned (.int .i64 a) = .returned (.int .i64 b) := by rw [h]

set_option maxHeartbeats 1600000 in
theorem l04Room_any (ao bo : Option Addr) (ca cb : Nat) (ss : List ByteArray) (xs : List Wr) (h now : Int) (w : World) (hl : ss.length ≤ maxLen) (hm : xs.length ≤ maxLen) (h1 : Ss w ao ss) (h2 : Ios w bo xs) :
    Calls Tryd.prog 45 #[.agg #[.slice ao ss.length ca, .slice bo xs.length cb], .int .i64 h, .int .i64 now] w fun e w' => e = .returned (.int .i64 (roomC ss xs h now)) ∧ Below w.heap.size w w' := by
  have HA := hide (Joins.below_alloc1 w (.cells #[.slice ao ss.length ca, .slice bo xs.length cb] 45))
  have H1 := hide (h1.below (unhide HA))
  have H2 := hide (h2.below (unhide HA))
  have HV := hide (VarD.new w (.slice ao ss.length ca) (.slice bo xs.length cb))
  have HL := hide hl
  have HM := hide hm
  clear h1 h2 hl hm
  go_enter Tryd.func45, Tryd.ntmps45
  go_wp2_with fail
  refine (l01Ask_any _ _ _ _ ss xs h 0 _ (unhide HL) (unhide HM) (unhide H1) (unhide H2)).mono ?_
  rintro e w1 ⟨rfl, hb1⟩
  have HB1 := hide (fr (unhide HA) hb1)
  obtain ⟨hc0, hc1⟩ := ((unhide HV).below hb1).cells
  clear hb1
  rw [ask_zero]
  by_cases e0 : hostC ss xs h = 0
  · have hb : (hostC ss xs h != 0) = false := by simp [e0]
    go_wp2_with fail
    refine (l01In_num now 0 10000000 _).mono ?_
    rintro e w2 ⟨rfl, rfl⟩
    by_cases e1 : inB now 0 10000000 = true
    · by_cases e2 : xs.length = 200
      · have HX := hide (room_full e0 e1 e2)
        have hfb : ((xs.length : Int) == 200) = true := by simp [e2]
        go_wp2
        go_ret
        exact ⟨ret_i (unhide HX).symm, unhide HB1⟩
      · have HX := hide (room_ok e0 e1 e2)
        have hfb : ((xs.length : Int) == 200) = false := by exact beq_eq_false_iff_ne.2 (by omega)
        go_wp2
        go_ret
        exact ⟨ret_i (unhide HX).symm, unhide HB1⟩
    · rw [Bool.not_eq_true] at e1
      have HX := hide (room_now e0 e1)
      go_wp2
      go_ret
      exact ⟨ret_i (unhide HX).symm, unhide HB1⟩
  · have hb : (hostC ss xs h != 0) = true := by simp [e0]
    have HX := hide (room_ask (now := now) e0)
    go_wp2
    go_ret
    exact ⟨ret_i (unhide HX).symm, unhide HB1⟩

/-- The disk behind a write of a generation that is sure. -/
def dwr (h g s : Int) : Wr := ⟨h, 5 + h, encD h g s⟩
def pS (ss : List ByteArray) (xs : List Wr) (h g s : Int) : List ByteArray := putW ss (ofH h (xs ++ [dwr h g s]))
def pX (xs : List Wr) (h g s : Int) : List Wr := dropF h (xs ++ [dwr h g s])
theorem dwr_io {h g s : Int} (h0 : 0 ≤ h) (h3 : h ≤ 3) : ioB (dwr h g s) = true := ioB_parts.2 ⟨⟨h0, h3⟩, ⟨by show 0 ≤ 5 + h; omega, by show 5 + h ≤ 63; omega⟩, by show (encD h g s).size ≤ 80; rw [encD_size]; decide⟩
theorem put_right {ss : List ByteArray} {xs : List Wr} {h g s : Int} (hd : diskB ss xs = true) (hl : xs.length < 200) (h0 : 0 ≤ h) (h3 : h ≤ 3) : diskB ss (xs ++ [dwr h g s]) = true := diskB_snoc hd hl (dwr_io h0 h3)
theorem put_land {ss : List ByteArray} {xs : List Wr} {h : Int} (hl : xs.length ≤ 200) : (landF h false ss xs 200).1 = putW ss (ofH h xs) ∧ (landF h false ss xs 200).2.1 = dropF h xs := by
  have hc : (ofH h xs).length ≤ 200 := Nat.le_trans (List.length_filter_le _ _) hl
  obtain ⟨p1, p2⟩ := landF_put h ss xs 200
  have p1' : (landF h false ss xs 200).1 = putW ss ((ofH h xs).take 200) := p1
  have p2' : (landF h false ss xs 200).2.1 = remH h 200 xs := p2
  rw [List.take_of_length_le hc] at p1'
  rw [rem_all 200 xs hc] at p2'
  exact ⟨p1', p2'⟩
theorem pS_right {ss : List ByteArray} {xs : List Wr} {h g s : Int} (hd : diskB ss xs = true) (hl : xs.length < 200) (h0 : 0 ≤ h) (h3 : h ≤ 3) : diskB (pS ss xs h g s) (pX xs h g s) = true :=
  diskB_put (put_right (g := g) (s := s) hd hl h0 h3) (fun x hx => of_mem hx) (fun x hx => drop_mem hx) (drop_le h _)
theorem pS_len (ss : List ByteArray) (xs : List Wr) (h g s : Int) : (pS ss xs h g s).length = ss.length := put_len _ _

theorem rightX {ss : List ByteArray} {xs : List Wr} (hd : diskB ss xs = true) : ∀ x ∈ xs, x.data.size ≤ maxLen := fun x hx => Nat.le_trans (ioB_parts.1 ((diskB_parts.1 hd).2.2 x hx)).2.2 (by decide)
theorem l01Flush_put (ao bo : Option Addr) (ca cb : Nat) (ss : List ByteArray) (xs : List Wr) (h : Int) (n m : Nat) (S : List ByteArray) (X : List Wr) (w : World) (hn : ss.length = n) (hm : xs.length = m) (hS : putW ss (ofH h xs) = S) (hX : dropF h xs = X) (hd : diskB ss xs = true) (h1 : Ss w ao ss) (h2 : Ios w bo xs) :
    Calls Tryd.prog 74 #[.agg #[.slice ao n ca, .slice bo m cb], .int .i64 h] w fun e w' => ∃ po pa qo qa, e = .returned (.agg #[.slice po n pa, .slice qo X.length qa]) ∧ OwnD w' w.heap.size po n pa qo X.length qa S X ∧ Below w.heap.size w w' := by
  subst hn hm hS hX
  obtain ⟨l1, l2⟩ := diskB_len hd
  obtain ⟨e1, e2⟩ := put_land (ss := ss) (h := h) l2
  have k := l01Flush_any ao bo ca cb ss xs h 200 w rfl (by decide) (by omega) l2 (diskB_at hd) h1 h2
  rw [e1, e2] at k
  exact k

set_option maxHeartbeats 3200000 in
theorem l04Put_any (ao bo : Option Addr) (ca cb : Nat) (ss : List ByteArray) (xs : List Wr) (h g s : Int) (w : World) (hd : diskB ss xs = true) (hl : xs.length < 200) (hx : dltB h g s = true) (h1 : Ss w ao ss) (h2 : Ios w bo xs) :
    Calls Tryd.prog 48 #[.agg #[.slice ao ss.length ca, .slice bo xs.length cb], dltV h g s] w fun e w' => ∃ po pa qo qa, e = .returned (.agg #[.slice po ss.length pa, .slice qo (pX xs h g s).length qa]) ∧ OwnD w' w.heap.size po ss.length pa qo (pX xs h g s).length qa (pS ss xs h g s) (pX xs h g s) ∧ Below w.heap.size w w' := by
  obtain ⟨⟨d0, d3⟩, _⟩ := dltB_iff.1 hx
  have HP := hide (put_right (g := g) (s := s) hd hl d0 d3)
  have HX := hide hx
  have HXL : Hid (xs.length ≤ 1048576) := hide (by omega)
  have HXN : Hid ((xs ++ [dwr h g s]).length = xs.length + 1) := hide (by simp)
  have HZ : Hid (∀ x ∈ xs ++ [dwr h g s], x.data.size ≤ maxLen) := hide (rightX (unhide HP))
  obtain ⟨S, HS⟩ : ∃ S, Hid (pS ss xs h g s = S) := ⟨_, hide rfl⟩
  obtain ⟨X, HXX⟩ : ∃ X, Hid (pX xs h g s = X) := ⟨_, hide rfl⟩
  rw [unhide HS, unhide HXX]
  have HA := hide (fr (Joins.below_alloc2 w (.cells #[.slice ao ss.length ca, .slice bo xs.length cb] 45) (.cells #[.int .i64 h, .int .i64 g, .int .i64 s] 47)) (Joins.below_alloc1 _ (.cells #[.slice none 0 0, .slice none 0 0] 45)))
  have HV := hide ((VarD.new w (.slice ao ss.length ca) (.slice bo xs.length cb)).below (fr (Joins.below_alloc1 _ (.cells #[.int .i64 h, .int .i64 g, .int .i64 s] 47)) (Joins.below_alloc1 _ (.cells #[.slice none 0 0, .slice none 0 0] 45))))
  have HT : Hid (VarT (((w.alloc (.cells #[.slice ao ss.length ca, .slice bo xs.length cb] 45)).alloc (.cells #[.int .i64 h, .int .i64 g, .int .i64 s] 47)).alloc (.cells #[.slice none 0 0, .slice none 0 0] 45)) (w.heap.size + 1) 47 h g s) := hide (by have := (VarT.new (w.alloc (.cells #[.slice ao ss.length ca, .slice bo xs.length cb] 45)) 47 h g s).below (Joins.below_alloc1 _ (.cells #[.slice none 0 0, .slice none 0 0] 45)); simp only [World.size_alloc] at this; exact this)
  have HR : Hid (VarD (((w.alloc (.cells #[.slice ao ss.length ca, .slice bo xs.length cb] 45)).alloc (.cells #[.int .i64 h, .int .i64 g, .int .i64 s] 47)).alloc (.cells #[.slice none 0 0, .slice none 0 0] 45)) (w.heap.size + 1 + 1) (.slice none 0 0) (.slice none 0 0)) := hide (by have := VarD.new ((w.alloc (.cells #[.slice ao ss.length ca, .slice bo xs.length cb] 45)).alloc (.cells #[.int .i64 h, .int .i64 g, .int .i64 s] 47)) (.slice none 0 0) (.slice none 0 0); simp only [World.size_alloc] at this; exact this)
  have HS0 := hide (h1.below (unhide HA))
  have HX0 := hide (h2.below (unhide HA))
  have HW : Hid (w.heap.size + 3 ≤ (((w.alloc (.cells #[.slice ao ss.length ca, .slice bo xs.length cb] 45)).alloc (.cells #[.int .i64 h, .int .i64 g, .int .i64 s] 47)).alloc (.cells #[.slice none 0 0, .slice none 0 0] 45)).heap.size) := hide (by simp)
  have wr5 : IntKind.i64.wrap (5 + h) = 5 + h := by rw [IntKind.wrap_i64]; omega
  clear h1 h2 hx hd
  go_enter Tryd.func48, Tryd.ntmps48
  go_wp2_with fail
  revert HA HV HT HR HS0 HX0 HW
  generalize (((w.alloc (.cells #[.slice ao ss.length ca, .slice bo xs.length cb] 45)).alloc (.cells #[.int .i64 h, .int .i64 g, .int .i64 s] 47)).alloc (.cells #[.slice none 0 0, .slice none 0 0] 45)) = W0
  intro HA HV HT HR HS0 HX0 HW
  have HQ : Hid (w.heap.size + 1 + 1 < w.heap.size + 3) := hide (by omega)
  generalize hB2 : w.heap.size + 1 + 1 = B2 at *
  generalize hB1 : w.heap.size + 1 = B1 at *
  have n1 : B2 ≠ w.heap.size := by omega
  have n2 : B2 ≠ B1 := by omega
  have HB2 : Hid (w.heap.size ≤ B2) := hide (by omega)
  have n1' := n1.symm
  have n2' := n2.symm
  replace hB1 := hide hB1
  replace hB2 := hide hB2
  obtain ⟨v0, v1⟩ := (unhide HV).cells
  obtain ⟨t0, t1, t2⟩ := (unhide HT).cells
  go_region_held3 (fun w' => w'.cell? ⟨w.heap.size, 0, none⟩ = some (.slice ao ss.length ca) ∧ w'.cell? ⟨w.heap.size, 1, none⟩ = some (.slice bo xs.length cb) ∧ w'.cell? ⟨B1, 0, none⟩ = some (.int .i64 h) ∧ w'.cell? ⟨B1, 1, none⟩ = some (.int .i64 g) ∧ w'.cell? ⟨B1, 2, none⟩ = some (.int .i64 s)) (go_keep)
    (first
      | (go_at_call 76; refine (l04Encode_any h g s _ (unhide HX)).mono ?_; rintro e wA ⟨rfl, hbA⟩; have HBA := hide (fr (Below.refl _ W0).drew hbA); obtain ⟨a0, a1⟩ := ((unhide HV).below (unhide HBA)).cells; obtain ⟨a2, a3, a4⟩ := ((unhide HT).below (unhide HBA)).cells; clear hbA)
      | (go_at_call 75; refine (l01Write_hd ao bo ss.length ca cb xs h (5 + h) (encD h g s) _ (unhide HXL) ((unhide HX0).below (unhide HBA))).mono ?_; rintro e wB ⟨gg, cap, rfl, hoB, hbB⟩; have HOB := hide hoB; have HBB := hide (fr (unhide HBA) hbB); obtain ⟨b0, b1⟩ := ((unhide HV).below (unhide HBB)).cells; obtain ⟨b2, b3, b4⟩ := ((unhide HT).below (unhide HBB)).cells; clear hoB hbB)
      | (go_at_call 74; refine (l01Flush_put ao (some ⟨gg, 0, none⟩) ca cap ss (xs ++ [dwr h g s]) h ss.length (xs.length + 1) S X _ rfl (unhide HXN) (unhide HS) (unhide HXX) (unhide HP) ((unhide HS0).below (unhide HBB)) (ownI (xs := xs ++ [dwr h g s]) (by rw [unhide HXN]; exact unhide HOB) (unhide HZ))).mono ?_; rintro e wC ⟨po, pa, qo, qa, rfl, hoC, hbC⟩; have HOC := hide hoC; have HBC := hide (fr (unhide HBB) hbC); obtain ⟨c0, c1⟩ := ((unhide HV).below (unhide HBC)).cells; obtain ⟨c2, c3, c4⟩ := ((unhide HT).below (unhide HBC)).cells; obtain ⟨r0, r1⟩ := ((unhide HR).below (unhide HBC)).cells; have r2 := ((unhide HR).below (unhide HBC)).free 0; have r3 := ((unhide HR).below (unhide HBC)).free 1; clear hoC hbC))
  have z : B2 < wB.heap.size := by have z0 := unhide HW; have z1 := unhide HQ; have z2 := (unhide HBB).size; omega
  have HE := hide (show OwnD ((wC.setCell ⟨B2, 0, none⟩ (.slice po ss.length pa)).setCell ⟨B2, 1, none⟩ (.slice qo X.length qa)) w.heap.size po ss.length pa qo X.length qa S X ∧ Below w.heap.size w ((wC.setCell ⟨B2, 0, none⟩ (.slice po ss.length pa)).setCell ⟨B2, 1, none⟩ (.slice qo X.length qa)) from
    ⟨(((unhide HOC).setCell (a := ⟨B2, 0, none⟩) z _).setCell (a := ⟨B2, 1, none⟩) z _).base (by have := unhide HB2; omega), ((fr (unhide HA) (unhide HBC)).setCell (p := ⟨B2, 0, none⟩) (unhide HB2) _).setCell (p := ⟨B2, 1, none⟩) (unhide HB2) _⟩)
  clear a0 a1 a2 a3 a4 b0 b1 b2 b3 b4 c0 c1 c2 c3 c4 v0 v1 t0 t1 t2
  go_wp2
  exact bodyPost_ret (v := .agg #[.slice po ss.length pa, .slice qo X.length qa]) (by simp [results, Tryd.results48, go_sem, r0, r1]) rfl ⟨po, pa, qo, qa, rfl, (unhide HE).1, (unhide HE).2⟩

end Go.Proofs.YtlhinknmbgijeaaDoor

/- Contracts of spec.TakeDelta, RenewDelta, ReadDelta. -/
namespace Go.Proofs.YtlhinknmbgijeaaDoor
open Go.RowKit
set_option linter.unusedVariables false
set_option maxRecDepth 100000

theorem rightS {ss : List ByteArray} {xs : List Wr} (hd : diskB ss xs = true) : ∀ s ∈ ss, s.size ≤ maxLen := fun s hs => Nat.le_trans ((diskB_parts.1 hd).1.2 s hs) (by decide)
theorem red_in (ss : List ByteArray) (xs : List Wr) (h o : Int) : 0 ≤ redG ss xs h o ∧ redG ss xs h o ≤ 1000000 := by
  cases e : redB ss xs h o with
  | false => rw [(red_no e).1]; omega
  | true =>
    have hb : decB (readV ss xs h (5 + o)) = true := by simp only [redB, Bool.and_eq_true] at e; exact e.1
    have := (dltB_iff.1 (dec_right hb)).2.1
    rw [redG, if_pos e]
    omega

/-- What a call keeps that has a disk in a variable and answers a disk and a generation: its variables, its argument. -/
structure TkS (w W : World) (B0 B1 B2 : Nat) (ao : Option Addr) (ca : Nat) (bo : Option Addr) (cb : Nat) (ss : List ByteArray) (xs : List Wr) : Prop where
  below : Below w.heap.size w W
  d : VarD W B0 (.slice ao ss.length ca) (.slice bo xs.length cb)
  r : VarD W B1 (.slice none 0 0) (.slice none 0 0)
  t : VarT W B2 47 0 0 0
  s : Ss W ao ss
  i : Ios W bo xs
theorem TkS.next {w W W' : World} {B0 B1 B2 : Nat} {ao : Option Addr} {ca : Nat} {bo : Option Addr} {cb : Nat} {ss : List ByteArray} {xs : List Wr} (h : TkS w W B0 B1 B2 ao ca bo cb ss xs) (hb : Below W.heap.size W W') : TkS w W' B0 B1 B2 ao ca bo cb ss xs :=
  ⟨fr h.below hb, h.d.below hb, h.r.below hb, h.t.below hb, h.s.below hb, h.i.below hb⟩
theorem tk_new (w : World) (ao bo : Option Addr) (ca cb : Nat) (ss : List ByteArray) (xs : List Wr) (h1 : Ss w ao ss) (h2 : Ios w bo xs) :
    TkS w (((w.alloc (.cells #[.slice ao ss.length ca, .slice bo xs.length cb] 45)).alloc (.cells #[.slice none 0 0, .slice none 0 0] 45)).alloc (.cells #[.int .i64 0, .int .i64 0, .int .i64 0] 47)) w.heap.size (w.heap.size + 1) (w.heap.size + 1 + 1) ao ca bo cb ss xs := by
  have hA := fr (Joins.below_alloc2 w (.cells #[.slice ao ss.length ca, .slice bo xs.length cb] 45) (.cells #[.slice none 0 0, .slice none 0 0] 45)) (Joins.below_alloc1 _ (.cells #[.int .i64 0, .int .i64 0, .int .i64 0] 47))
  refine ⟨hA, (VarD.new w _ _).below (fr (Joins.below_alloc1 _ _) (Joins.below_alloc1 _ _)), ?_, ?_, h1.below hA, h2.below hA⟩
  · have := (VarD.new (w.alloc (.cells #[.slice ao ss.length ca, .slice bo xs.length cb] 45)) (.slice none 0 0) (.slice none 0 0)).below (Joins.below_alloc1 _ (.cells #[.int .i64 0, .int .i64 0, .int .i64 0] 47))
    simp only [World.size_alloc] at this
    exact this
  · have := VarT.new ((w.alloc (.cells #[.slice ao ss.length ca, .slice bo xs.length cb] 45)).alloc (.cells #[.slice none 0 0, .slice none 0 0] 45)) 47 0 0 0
    simp only [World.size_alloc] at this
    exact this
/-- The answer is stored into its variables. -/
def set5 (W : World) (B1 B2 : Nat) (a b x y z : Value) : World := ((((W.setCell ⟨B1, 0, none⟩ a).setCell ⟨B1, 1, none⟩ b).setCell ⟨B2, 0, none⟩ x).setCell ⟨B2, 1, none⟩ y).setCell ⟨B2, 2, none⟩ z
theorem below5 {w W : World} {B B1 B2 : Nat} (h : Below B w W) (h1 : B ≤ B1) (h2 : B ≤ B2) (a b x y z : Value) : Below B w (set5 W B1 B2 a b x y z) :=
  ((((h.setCell (p := ⟨B1, 0, none⟩) h1 a).setCell (p := ⟨B1, 1, none⟩) h1 b).setCell (p := ⟨B2, 0, none⟩) h2 x).setCell (p := ⟨B2, 1, none⟩) h2 y).setCell (p := ⟨B2, 2, none⟩) h2 z
theorem own5 {W : World} {B n ca m cb : Nat} {ao bo : Option Addr} {ss : List ByteArray} {xs : List Wr} {B1 B2 : Nat} (h : OwnD W B ao n ca bo m cb ss xs) (h1 : B1 < B) (h2 : B2 < B) (a b x y z : Value) : OwnD (set5 W B1 B2 a b x y z) B ao n ca bo m cb ss xs :=
  ((((h.setCell (a := ⟨B1, 0, none⟩) h1 a).setCell (a := ⟨B1, 1, none⟩) h1 b).setCell (a := ⟨B2, 0, none⟩) h2 x).setCell (a := ⟨B2, 1, none⟩) h2 y).setCell (a := ⟨B2, 2, none⟩) h2 z

set_option maxHeartbeats 1600000 in
theorem take_room (ao bo : Option Addr) (ca cb : Nat) (ss : List ByteArray) (xs : List Wr) (h now : Int) (w : World) (hl : ss.length ≤ maxLen) (hm : xs.length ≤ maxLen) (h1 : Ss w ao ss) (h2 : Ios w bo xs) (hr : roomC ss xs h now ≠ 0) :
    Calls Tryd.prog 19 #[.agg #[.slice ao ss.length ca, .slice bo xs.length cb], .int .i64 h, .int .i64 now] w fun e w' => e = .returned (.tuple #[.agg #[.slice none 0 0, .slice none 0 0], dltV 0 0 0, .int .i64 (roomC ss xs h now)]) ∧ Below w.heap.size w w' := by
  have HS := hide (tk_new w ao bo ca cb ss xs h1 h2)
  have HL := hide hl
  have HM := hide hm
  have hb : (roomC ss xs h now != 0) = true := by simp [hr]
  clear h1 h2 hl hm hr
  go_enter Tryd.func19, Tryd.ntmps19
  go_wp2_with fail
  refine (l04Room_any _ _ _ _ ss xs h now _ (unhide HL) (unhide HM) (unhide HS).s (unhide HS).i).mono ?_
  rintro e w1 ⟨rfl, hb1⟩
  have HS1 := hide ((unhide HS).next hb1)
  obtain ⟨r0, r1⟩ := (unhide HS1).r.cells
  have r2 := (unhide HS1).r.free 0
  have r3 := (unhide HS1).r.free 1
  obtain ⟨t0, t1, t2⟩ := (unhide HS1).t.cells
  obtain ⟨t3, t4, t5⟩ := (unhide HS1).t.free
  have HE := hide (fun a b x y z => below5 (unhide HS1).below (B1 := w.heap.size + 1) (B2 := w.heap.size + 1 + 1) (by omega) (by omega) a b x y z)
  clear hb1
  go_wp2
  exact bodyPost_ret (v := .tuple #[.agg #[.slice none 0 0, .slice none 0 0], dltV 0 0 0, .int .i64 (roomC ss xs h now)]) (by simp [results, Tryd.results19, go_sem, r0, r1, t0, t1, t2]) rfl ⟨rfl, unhide HE _ _ _ _ _⟩

set_option maxHeartbeats 1600000 in
theorem take_many (ao bo : Option Addr) (ca cb : Nat) (ss : List ByteArray) (xs : List Wr) (h now : Int) (w : World) (h1 : Ss w ao ss) (h2 : Ios w bo xs) (hr : roomC ss xs h now = 0) (hg : redG ss xs h h = 1000000) :
    Calls Tryd.prog 19 #[.agg #[.slice ao ss.length ca, .slice bo xs.length cb], .int .i64 h, .int .i64 now] w fun e w' => ∃ po pa qo qa, e = .returned (.tuple #[.agg #[.slice po ss.length pa, .slice qo xs.length qa], dltV 0 0 0, .int .i64 6]) ∧ OwnD w' w.heap.size po ss.length pa qo xs.length qa ss xs ∧ Below w.heap.size w w' := by
  have HS := hide (tk_new w ao bo ca cb ss xs h1 h2)
  have hb : (roomC ss xs h now != 0) = false := by simp [hr]
  obtain ⟨e0, en, el⟩ := room_eq hr
  obtain ⟨ed, eh0, eh3⟩ := hostC_eq e0
  obtain ⟨l1, l2⟩ := diskB_len ed
  have HL : Hid (ss.length ≤ maxLen) := hide (by unfold maxLen; omega)
  have HM : Hid (xs.length ≤ maxLen) := hide (by unfold maxLen; omega)
  have HL' : Hid (ss.length ≤ 1048576) := hide (by omega)
  have HM' : Hid (xs.length ≤ 1048576) := hide (by omega)
  have HD := hide ed
  have hgb : (redG ss xs h h == 1000000) = true := by simp [hg]
  clear h1 h2 hr e0 en el ed l1 l2
  go_enter Tryd.func19, Tryd.ntmps19
  go_wp2_with fail
  refine (l04Room_any _ _ _ _ ss xs h now _ (unhide HL) (unhide HM) (unhide HS).s (unhide HS).i).mono ?_
  rintro e w1 ⟨rfl, hb1⟩
  have HS1 := hide ((unhide HS).next hb1)
  obtain ⟨d0, d1⟩ := (unhide HS1).d.cells
  clear hb1
  go_wp2_with fail
  refine (l04Read_any _ _ _ _ ss xs h h _ (unhide HD) eh0 eh3 (unhide HS1).s (unhide HS1).i).mono ?_
  rintro e w2 ⟨rfl, hb2⟩
  rw [hg]
  have HS2 := hide ((unhide HS1).next hb2)
  have HA2 := hide (Joins.below_alloc1 w2 (.cells #[.int .i64 h, .int .i64 1000000, .int .i64 (redS ss xs h h)] 47))
  have HS3 := hide ((unhide HS2).next (unhide HA2))
  clear hb2 d0 d1
  obtain ⟨d0, d1⟩ := (unhide HS2).d.cells
  have hlt := (unhide HS2).d.lt
  go_wp2_with fail
  refine (l01Own_any _ _ _ _ ss xs _ (unhide HL') (unhide HM') (unhide HS3).s (unhide HS3).i).mono ?_
  rintro e w3 ⟨po, pa, qo, qa, rfl, ho, hb3⟩
  have HS4 := hide ((unhide HS3).next hb3)
  have HO := hide ho
  have z : w.heap.size + 1 + 1 < (w2.alloc (.cells #[.int .i64 h, .int .i64 1000000, .int .i64 (redS ss xs h h)] 47)).heap.size := (unhide HS3).t.lt
  clear ho hb3 d0 d1 hlt
  obtain ⟨r0, r1⟩ := (unhide HS4).r.cells
  have r2 := (unhide HS4).r.free 0
  have r3 := (unhide HS4).r.free 1
  obtain ⟨t0, t1, t2⟩ := (unhide HS4).t.cells
  obtain ⟨t3, t4, t5⟩ := (unhide HS4).t.free
  have HE := hide (fun a b x y t => And.intro ((own5 (unhide HO) (B1 := w.heap.size + 1) (B2 := w.heap.size + 1 + 1) (by omega) z a b x y t).base (B' := w.heap.size) (by omega)) (below5 (unhide HS4).below (B1 := w.heap.size + 1) (B2 := w.heap.size + 1 + 1) (by omega) (by omega) a b x y t))
  clear z
  go_wp2
  exact bodyPost_ret (v := .tuple #[.agg #[.slice po ss.length pa, .slice qo xs.length qa], dltV 0 0 0, .int .i64 6]) (by simp [results, Tryd.results19, go_sem, r0, r1, t0, t1, t2]) rfl ⟨po, pa, qo, qa, rfl, (unhide HE _ _ _ _ _).1, (unhide HE _ _ _ _ _).2⟩

set_option maxHeartbeats 3200000 in
theorem take_ok (ao bo : Option Addr) (ca cb : Nat) (ss : List ByteArray) (xs : List Wr) (h now : Int) (w : World) (h1 : Ss w ao ss) (h2 : Ios w bo xs) (hr : roomC ss xs h now = 0) (hg : redG ss xs h h ≠ 1000000) :
    Calls Tryd.prog 19 #[.agg #[.slice ao ss.length ca, .slice bo xs.length cb], .int .i64 h, .int .i64 now] w fun e w' => ∃ po pa qo qa, e = .returned (.tuple #[.agg #[.slice po (pS ss xs h (redG ss xs h h + 1) now).length pa, .slice qo (pX xs h (redG ss xs h h + 1) now).length qa], dltV h (redG ss xs h h + 1) now, .int .i64 0]) ∧ OwnD w' w.heap.size po (pS ss xs h (redG ss xs h h + 1) now).length pa qo (pX xs h (redG ss xs h h + 1) now).length qa (pS ss xs h (redG ss xs h h + 1) now) (pX xs h (redG ss xs h h + 1) now) ∧ Below w.heap.size w w' := by
  have HS := hide (tk_new w ao bo ca cb ss xs h1 h2)
  have hb : (roomC ss xs h now != 0) = false := by simp [hr]
  obtain ⟨e0, en, el⟩ := room_eq hr
  obtain ⟨ed, eh0, eh3⟩ := hostC_eq e0
  obtain ⟨l1, l2⟩ := diskB_len ed
  have HL : Hid (ss.length ≤ maxLen) := hide (by unfold maxLen; omega)
  have HM : Hid (xs.length ≤ maxLen) := hide (by unfold maxLen; omega)
  have HD := hide ed
  have HXL := hide el
  obtain ⟨g0, g1⟩ := red_in ss xs h h
  have hgb : (redG ss xs h h == 1000000) = false := by simp [hg]
  obtain ⟨G, HG⟩ : ∃ G, Hid (redG ss xs h h = G) := ⟨_, hide rfl⟩
  obtain ⟨S0, HS0⟩ : ∃ G, Hid (redS ss xs h h = G) := ⟨_, hide rfl⟩
  have HR0 := hide (fun w => l04Read_any ao bo ca cb ss xs h h w ed eh0 eh3)
  rw [unhide HG] at hgb g0 g1 hg HR0 ⊢
  rw [unhide HS0] at HR0
  have HDL : Hid (dltB h (G + 1) now = true) := hide (dltB_iff.2 ⟨⟨eh0, eh3⟩, by omega, en⟩)
  have wrG : IntKind.i64.wrap (G + 1) = G + 1 := by rw [IntKind.wrap_i64]; omega
  have HR := hide (pS_right (g := G + 1) (s := now) ed el eh0 eh3)
  have HN := hide (pS_len ss xs h (G + 1) now)
  have HP0 := hide (fun w h1 h2 => l04Put_any ao bo ca cb ss xs h (G + 1) now w ed el (unhide HDL) h1 h2)
  obtain ⟨S, HSS⟩ : ∃ S, Hid (pS ss xs h (G + 1) now = S) := ⟨_, hide rfl⟩
  obtain ⟨X, HXX⟩ : ∃ X, Hid (pX xs h (G + 1) now = X) := ⟨_, hide rfl⟩
  rw [unhide HSS] at HN HR HP0 ⊢
  rw [unhide HXX] at HR HP0 ⊢
  obtain ⟨k1, k2⟩ := diskB_len (unhide HR)
  have HK1 : Hid (S.length ≤ 1048576) := hide (by omega)
  have HK2 : Hid (X.length ≤ 1048576) := hide (by omega)
  have HQS := hide (rightS (unhide HR))
  have HQX := hide (rightX (unhide HR))
  rw [unhide HN]
  clear h1 h2 hr e0 el ed l1 l2 k1 k2
  go_enter Tryd.func19, Tryd.ntmps19
  go_wp2_with fail
  refine (l04Room_any _ _ _ _ ss xs h now _ (unhide HL) (unhide HM) (unhide HS).s (unhide HS).i).mono ?_
  rintro e w1 ⟨rfl, hb1⟩
  have HS1 := hide ((unhide HS).next hb1)
  obtain ⟨d0, d1⟩ := (unhide HS1).d.cells
  clear hb1
  go_wp2_with fail
  refine (unhide HR0 _ (unhide HS1).s (unhide HS1).i).mono ?_
  rintro e w2 ⟨rfl, hb2⟩
  have HS2 := hide ((unhide HS1).next hb2)
  clear hb2 d0 d1
  go_wp2_with fail
  have HS3 := hide ((unhide HS2).next (Joins.below_alloc1 w2 (.cells #[.int .i64 h, .int .i64 (G + 1), .int .i64 now] 47)))
  have HT3 := hide (VarT.new w2 47 h (G + 1) now)
  have HW2 := hide (unhide HS2).t.lt
  revert HS3 HT3
  generalize w2.alloc (.cells #[.int .i64 h, .int .i64 (G + 1), .int .i64 now] 47) = W3
  intro HS3 HT3
  generalize w2.heap.size = C at *
  have HB : Hid (w.heap.size ≤ w.heap.size + 1 ∧ w.heap.size ≤ w.heap.size + 1 + 1) := hide (by omega)
  have m1 : w.heap.size + 1 ≠ w.heap.size := by omega
  have m2 : w.heap.size + 1 + 1 ≠ w.heap.size := by omega
  have m3 : w.heap.size + 1 ≠ C := by have := unhide HW2; omega
  have m4 : w.heap.size + 1 + 1 ≠ C := by have := unhide HW2; omega
  have m5 : w.heap.size + 1 + 1 ≠ w.heap.size + 1 := by omega
  have HZ : Hid (w.heap.size + 1 < w.heap.size + 1 + 1 ∧ w.heap.size + 1 + 1 < W3.heap.size) := hide ⟨by omega, (unhide HS3).t.lt⟩
  generalize w.heap.size + 1 + 1 = B2 at *
  generalize w.heap.size + 1 = B1 at *
  have m1' := m1.symm
  have m2' := m2.symm
  have m3' := m3.symm
  have m4' := m4.symm
  have m5' := m5.symm
  obtain ⟨d0, d1⟩ := (unhide HS3).d.cells
  obtain ⟨x0, x1, x2⟩ := (unhide HT3).cells
  go_region_held3 (fun w' => w'.cell? ⟨w.heap.size, 0, none⟩ = some (.slice ao ss.length ca) ∧ w'.cell? ⟨w.heap.size, 1, none⟩ = some (.slice bo xs.length cb) ∧ w'.cell? ⟨C, 0, none⟩ = some (.int .i64 h) ∧ w'.cell? ⟨C, 1, none⟩ = some (.int .i64 (G + 1)) ∧ w'.cell? ⟨C, 2, none⟩ = some (.int .i64 now)) (go_keep)
    (first
      | (go_at_call 48; refine (unhide HP0 _ ((unhide HS3).s.below (Below.refl _ W3).drew) ((unhide HS3).i.below (Below.refl _ W3).drew)).mono ?_; rintro e wA ⟨po, pa, qo, qa, rfl, hoA, hbA⟩; have HBA := hide (fr (Below.refl _ W3).drew hbA); have HOA := hide hoA; obtain ⟨a0, a1⟩ := ((unhide HS3).d.below (unhide HBA)).cells; obtain ⟨a2, a3, a4⟩ := ((unhide HT3).below (unhide HBA)).cells; clear hoA hbA)
      | (go_at_call 47; refine (l01Own_len po qo pa qa S X ss.length X.length _ (unhide HN).symm rfl (unhide HK1) (unhide HK2) ((unhide HOA).ss (unhide HQS)) ((unhide HOA).ios (unhide HQX))).mono ?_; rintro e wB ⟨po2, pa2, qo2, qa2, rfl, hoB, hbB⟩; have HOB := hide (hoB.base (B' := W3.heap.size) (unhide HBA).size); have HBB := hide (fr (unhide HBA) hbB); obtain ⟨b0, b1⟩ := ((unhide HS3).d.below (unhide HBB)).cells; obtain ⟨b2, b3, b4⟩ := ((unhide HT3).below (unhide HBB)).cells; have HSB := hide ((unhide HS3).next (unhide HBB)); obtain ⟨r0, r1⟩ := (unhide HSB).r.cells; have r2 := (unhide HSB).r.free 0; have r3 := (unhide HSB).r.free 1; obtain ⟨t0, t1, t2⟩ := (unhide HSB).t.cells; obtain ⟨t3, t4, t5⟩ := (unhide HSB).t.free; clear hoB hbB))
  have HE := hide (fun a b x y t => And.intro ((own5 (unhide HOB) (B1 := B1) (B2 := B2) (Nat.lt_trans (unhide HZ).1 (unhide HZ).2) (unhide HZ).2 a b x y t).base (B' := w.heap.size) (unhide HS3).below.size) (below5 (unhide HSB).below (unhide HB).1 (unhide HB).2 a b x y t))
  clear a0 a1 a2 a3 a4 b0 b1 b2 b3 b4 d0 d1 x0 x1 x2
  go_wp2
  exact bodyPost_ret (v := .tuple #[.agg #[.slice po2 ss.length pa2, .slice qo2 X.length qa2], dltV h (G + 1) now, .int .i64 0]) (by simp [results, Tryd.results19, go_sem, *]) rfl ⟨po2, pa2, qo2, qa2, rfl, (unhide HE _ _ _ _ _).1, (unhide HE _ _ _ _ _).2⟩

/-- What TakeDelta answers. -/
def tkC (ss : List ByteArray) (xs : List Wr) (h now : Int) : Int := if roomC ss xs h now = 0 then (if redG ss xs h h = 1000000 then 6 else 0) else roomC ss xs h now
def tkS (ss : List ByteArray) (xs : List Wr) (h now : Int) : List ByteArray := if roomC ss xs h now = 0 then (if redG ss xs h h = 1000000 then ss else pS ss xs h (redG ss xs h h + 1) now) else []
def tkX (ss : List ByteArray) (xs : List Wr) (h now : Int) : List Wr := if roomC ss xs h now = 0 then (if redG ss xs h h = 1000000 then xs else pX xs h (redG ss xs h h + 1) now) else []
def tkH (ss : List ByteArray) (xs : List Wr) (h now : Int) : Int := if tkC ss xs h now = 0 then h else 0
def tkG (ss : List ByteArray) (xs : List Wr) (h now : Int) : Int := if tkC ss xs h now = 0 then redG ss xs h h + 1 else 0
def tkT (ss : List ByteArray) (xs : List Wr) (h now : Int) : Int := if tkC ss xs h now = 0 then now else 0
theorem tk_room {ss : List ByteArray} {xs : List Wr} {h now : Int} (hr : roomC ss xs h now ≠ 0) : tkS ss xs h now = [] ∧ tkX ss xs h now = [] ∧ (tkH ss xs h now = 0 ∧ tkG ss xs h now = 0 ∧ tkT ss xs h now = 0) ∧ tkC ss xs h now = roomC ss xs h now := by
  have e : tkC ss xs h now = roomC ss xs h now := if_neg hr
  have e' : ¬ tkC ss xs h now = 0 := by rw [e]; exact hr
  exact ⟨if_neg hr, if_neg hr, ⟨if_neg e', if_neg e', if_neg e'⟩, e⟩
theorem tk_many {ss : List ByteArray} {xs : List Wr} {h now : Int} (hr : roomC ss xs h now = 0) (hg : redG ss xs h h = 1000000) : tkS ss xs h now = ss ∧ tkX ss xs h now = xs ∧ (tkH ss xs h now = 0 ∧ tkG ss xs h now = 0 ∧ tkT ss xs h now = 0) ∧ tkC ss xs h now = 6 := by
  have e : tkC ss xs h now = 6 := (if_pos hr).trans (if_pos hg)
  have e' : ¬ tkC ss xs h now = 0 := by rw [e]; decide
  exact ⟨(if_pos hr).trans (if_pos hg), (if_pos hr).trans (if_pos hg), ⟨if_neg e', if_neg e', if_neg e'⟩, e⟩
theorem tk_ok {ss : List ByteArray} {xs : List Wr} {h now : Int} (hr : roomC ss xs h now = 0) (hg : redG ss xs h h ≠ 1000000) : tkS ss xs h now = pS ss xs h (redG ss xs h h + 1) now ∧ tkX ss xs h now = pX xs h (redG ss xs h h + 1) now ∧ (tkH ss xs h now = h ∧ tkG ss xs h now = redG ss xs h h + 1 ∧ tkT ss xs h now = now) ∧ tkC ss xs h now = 0 := by
  have e : tkC ss xs h now = 0 := (if_pos hr).trans (if_neg hg)
  exact ⟨(if_pos hr).trans (if_neg hg), (if_pos hr).trans (if_neg hg), ⟨if_pos e, if_pos e, if_pos e⟩, e⟩

theorem takeDelta_spec (ao bo : Option Addr) (ca cb : Nat) (ss : List ByteArray) (xs : List Wr) (h now : Int) (w : World) (hl : ss.length ≤ maxLen) (hm : xs.length ≤ maxLen) (h1 : Ss w ao ss) (h2 : Ios w bo xs) :
    Calls Tryd.prog 19 #[.agg #[.slice ao ss.length ca, .slice bo xs.length cb], .int .i64 h, .int .i64 now] w fun e w' => ∃ po pa qo qa, e = .returned (.tuple #[.agg #[.slice po (tkS ss xs h now).length pa, .slice qo (tkX ss xs h now).length qa], dltV (tkH ss xs h now) (tkG ss xs h now) (tkT ss xs h now), .int .i64 (tkC ss xs h now)]) ∧ OwnD w' w.heap.size po (tkS ss xs h now).length pa qo (tkX ss xs h now).length qa (tkS ss xs h now) (tkX ss xs h now) ∧ Below w.heap.size w w' := by
  by_cases hr : roomC ss xs h now = 0
  · by_cases hg : redG ss xs h h = 1000000
    · obtain ⟨e1, e2, ⟨e3, e4, e5⟩, e6⟩ := tk_many hr hg
      rw [e1, e2, e3, e4, e5, e6]
      exact take_many ao bo ca cb ss xs h now w h1 h2 hr hg
    · obtain ⟨e1, e2, ⟨e3, e4, e5⟩, e6⟩ := tk_ok hr hg
      rw [e1, e2, e3, e4, e5, e6]
      exact take_ok ao bo ca cb ss xs h now w h1 h2 hr hg
  · obtain ⟨e1, e2, ⟨e3, e4, e5⟩, e6⟩ := tk_room hr
    rw [e1, e2, e3, e4, e5, e6]
    refine (take_room ao bo ca cb ss xs h now w hl hm h1 h2 hr).mono ?_
    rintro e w' ⟨rfl, hb⟩
    exact ⟨none, 0, none, 0, rfl, zeroD_own, hb⟩

end Go.Proofs.YtlhinknmbgijeaaDoor

/- Plain: how great TakeDelta's answers are. -/
namespace Go.Proofs.YtlhinknmbgijeaaDoor
set_option linter.unusedVariables false

theorem tkS_mem {ss : List ByteArray} {xs : List Wr} {h now : Int} (hz : ∀ s ∈ ss, s.size ≤ maxLen) : ∀ s ∈ tkS ss xs h now, s.size ≤ maxLen := by
  by_cases hr : roomC ss xs h now = 0
  · obtain ⟨e0, en, el⟩ := room_eq hr
    obtain ⟨ed, eh0, eh3⟩ := hostC_eq e0
    by_cases hg : redG ss xs h h = 1000000
    · rw [(tk_many hr hg).1]; exact hz
    · rw [(tk_ok hr hg).1]; exact rightS (pS_right ed el eh0 eh3)
  · rw [(tk_room hr).1]; intro s hs; cases hs
theorem tkX_mem {ss : List ByteArray} {xs : List Wr} {h now : Int} (hz : ∀ x ∈ xs, x.data.size ≤ maxLen) : ∀ x ∈ tkX ss xs h now, x.data.size ≤ maxLen := by
  by_cases hr : roomC ss xs h now = 0
  · obtain ⟨e0, en, el⟩ := room_eq hr
    obtain ⟨ed, eh0, eh3⟩ := hostC_eq e0
    by_cases hg : redG ss xs h h = 1000000
    · rw [(tk_many hr hg).2.1]; exact hz
    · rw [(tk_ok hr hg).2.1]; exact rightX (pS_right ed el eh0 eh3)
  · rw [(tk_room hr).2.1]; intro s hs; cases hs
theorem tk_len {ss : List ByteArray} {xs : List Wr} {h now : Int} (h1 : ss.length ≤ 1048576) (h2 : xs.length ≤ 1048576) : (tkS ss xs h now).length ≤ 2097152 ∧ (tkX ss xs h now).length ≤ 2097152 := by
  by_cases hr : roomC ss xs h now = 0
  · obtain ⟨e0, en, el⟩ := room_eq hr
    obtain ⟨ed, eh0, eh3⟩ := hostC_eq e0
    by_cases hg : redG ss xs h h = 1000000
    · rw [(tk_many hr hg).1, (tk_many hr hg).2.1]; omega
    · rw [(tk_ok hr hg).1, (tk_ok hr hg).2.1]
      have := diskB_len (pS_right (g := redG ss xs h h + 1) (s := now) ed el eh0 eh3)
      omega
  · rw [(tk_room hr).1, (tk_room hr).2.1]; simp

end Go.Proofs.YtlhinknmbgijeaaDoor

/- Contracts of laws.toDelta, laws.eqDelta. -/
namespace Go.Proofs.YtlhinknmbgijeaaDoor
open Go.RowKit
set_option linter.unusedVariables false
set_option maxRecDepth 100000

set_option maxHeartbeats 1600000 in
theorem eqDelta_same (h g s : Int) (w : World) : Calls Tryd.prog 23 #[dltV h g s, dltV h g s] w fun e w' => e = .returned (.bool true) ∧ Below w.heap.size w w' := by
  go_enter Tryd.func23, Tryd.ntmps23
  go_wp2
  go_ret
  exact ⟨rfl, Joins.below_alloc2 _ _ _⟩

end Go.Proofs.YtlhinknmbgijeaaDoor

/- The walk of laws.FnExactTakeDelta, over a contract of impl.TakeDelta. -/
namespace Go.Proofs.YtlhinknmbgijeaaDoor
open Go.RowKit
set_option linter.unusedVariables false

theorem takeS {RS : List ByteArray} {RX : List Wr} {RH RG RT RC : Int} (ao bo : Option Addr) (ca cb : Nat) (ss : List ByteArray) (xs : List Wr) (h a : Int) (W : World) (e : tkS ss xs h a = RS ∧ tkX ss xs h a = RX ∧ (tkH ss xs h a = RH ∧ tkG ss xs h a = RG ∧ tkT ss xs h a = RT) ∧ tkC ss xs h a = RC) (hl : ss.length ≤ maxLen) (hm : xs.length ≤ maxLen) (h1 : Ss W ao ss) (h2 : Ios W bo xs) :
    Calls Tryd.prog 19 #[.agg #[.slice ao ss.length ca, .slice bo xs.length cb], .int .i64 h, .int .i64 a] W fun e w' => ∃ po pa qo qa, e = .returned (.tuple #[.agg #[.slice po RS.length pa, .slice qo RX.length qa], dltV RH RG RT, .int .i64 RC]) ∧ OwnD w' W.heap.size po RS.length pa qo RX.length qa RS RX ∧ Below W.heap.size W w' := by
  obtain ⟨rfl, rfl, ⟨rfl, rfl, rfl⟩, rfl⟩ := e
  exact takeDelta_spec ao bo ca cb ss xs h a W hl hm h1 h2
theorem eqSame (ao bo co do_ : Option Addr) (ca cb cc cd : Nat) (ss : List ByteArray) (xs : List Wr) (w : World) (hl : ss.length ≤ maxLen) (hm : xs.length ≤ maxLen) (h1 : Ss w ao ss) (h2 : Ios w bo xs) (h3 : Ss w co ss) (h4 : Ios w do_ xs) :
    Calls Tryd.prog 22 #[.agg #[.slice ao ss.length ca, .slice bo xs.length cb], .agg #[.slice co ss.length cc, .slice do_ xs.length cd]] w fun e w' => e = .returned (.bool true) ∧ Below w.heap.size w w' := by
  have h := eqDisk_any ao bo co do_ ca cb cc cd ss ss xs xs w hl hm h1 h2 h3 h4
  rw [eqB_self] at h
  exact h

set_option maxRecDepth 100000 in
set_option maxHeartbeats 3200000 in
theorem lawTakeDelta (ao bo : Option Addr) (ca cb : Nat) (ss : List ByteArray) (xs : List Wr) (h a : Int) (w : World) (hl : ss.length ≤ maxLen) (hm : xs.length ≤ maxLen) (hc : Ss w ao ss) (hd : Ios w bo xs) (HI : ∀ (RS : List ByteArray) (RX : List Wr) (RH RG RT RC : Int), (tkS ss xs h a = RS ∧ tkX ss xs h a = RX ∧ (tkH ss xs h a = RH ∧ tkG ss xs h a = RG ∧ tkT ss xs h a = RT) ∧ tkC ss xs h a = RC) → ∀ (ao bo : Option Addr) (ca cb : Nat) (W : World), Below w.heap.size w W → Ss W ao ss → Ios W bo xs → Calls Tryd.prog 21 #[.agg #[.slice ao ss.length ca, .slice bo xs.length cb], .int .i64 h, .int .i64 a] W fun e w' => ∃ po pa qo qa, e = .returned (.tuple #[.agg #[.slice po RS.length pa, .slice qo RX.length qa], dltV RH RG RT, .int .i64 RC]) ∧ OwnD w' W.heap.size po RS.length pa qo RX.length qa RS RX ∧ Below W.heap.size W w') :
    Calls Tryd.prog 5 #[.agg #[.slice ao ss.length ca, .slice bo xs.length cb], .int .i64 h, .int .i64 a] w fun e w' => e = .returned (.bool true) ∧ Below w.heap.size w w' := by
  have HA := hide (Joins.below_alloc1 w (.cells #[.slice ao ss.length ca, .slice bo xs.length cb] 41))
  have HC := hide (hc.below (unhide HA))
  have HD := hide (hd.below (unhide HA))
  have HL := hide hl
  have HM := hide hm
  replace HI := hide HI
  clear hc hd hl hm
  have hcell : ∀ w', Below (w.alloc (.cells #[.slice ao ss.length ca, .slice bo xs.length cb] 41)).heap.size (w.alloc (.cells #[.slice ao ss.length ca, .slice bo xs.length cb] 41)) w' → w'.cell? ⟨w.heap.size, 0, none⟩ = some (.slice ao ss.length ca) ∧ w'.cell? ⟨w.heap.size, 1, none⟩ = some (.slice bo xs.length cb) :=
    fun w' h => ⟨(h.cell (by simp)).trans (by simp [go_sem]), (h.cell (by simp)).trans (by simp [go_sem])⟩
  have HCELL := hide hcell
  clear hcell
  go_enter Tryd.func5, Tryd.ntmps5
  go_wp2_with fail
  refine (szDisk_any ao bo ca cb ss xs 1048576 _ (unhide HL) (unhide HM) (unhide HC) (unhide HD) (by omega) (by omega)).mono ?_
  rintro e w1 ⟨r, rfl, hr0, hr1, hr2, hb1⟩
  have HB1 := hide hb1
  clear hb1
  by_cases hr : r < 0
  · go_wp2
    go_ret
    exact ⟨rfl, fr (unhide HA) (unhide HB1)⟩
  have hq := hr2 (by omega)
  have hls : ss.length ≤ 1048576 := by omega
  have hlx : xs.length ≤ 1048576 := by omega
  clear hr2 hq
  have HZS := hide (unhide HC).sizes
  have HZX := hide (unhide HD).sizes
  obtain ⟨RS, RX, RH, RG, RT, RC, HE, HRS, HRX, HQS, HQX⟩ : ∃ RS RX RH RG RT RC, Hid (tkS ss xs h a = RS ∧ tkX ss xs h a = RX ∧ (tkH ss xs h a = RH ∧ tkG ss xs h a = RG ∧ tkT ss xs h a = RT) ∧ tkC ss xs h a = RC) ∧ Hid (∀ s ∈ RS, s.size ≤ maxLen) ∧ Hid (∀ x ∈ RX, x.data.size ≤ maxLen) ∧ Hid (RS.length ≤ 2097152) ∧ Hid (RX.length ≤ 2097152) :=
    ⟨_, _, _, _, _, _, hide ⟨rfl, rfl, ⟨rfl, rfl, rfl⟩, rfl⟩, hide (tkS_mem (unhide HZS)), hide (tkX_mem (unhide HZX)), hide (tk_len hls hlx).1, hide (tk_len hls hlx).2⟩
  have HI' := hide (unhide HI RS RX RH RG RT RC (unhide HE))
  have HMS : Hid (RS.length ≤ maxLen) := hide (Nat.le_trans (unhide HQS) (by decide))
  have HMX : Hid (RX.length ≤ maxLen) := hide (Nat.le_trans (unhide HQX) (by decide))
  obtain ⟨hc0, hc1⟩ := unhide HCELL _ (unhide HB1)
  -- a copy, and the model's answer, in a variable
  go_wp2_with fail
  refine (toDisk_any ao bo ca cb ss xs _ hls hlx ((unhide HC).below (unhide HB1)) ((unhide HD).below (unhide HB1))).mono ?_
  rintro e w2 ⟨g2, k2, rfl, ho, hp, hb2⟩
  have HS2 := hide (ownS ho (unhide HZS))
  have HX2 := hide (ownI hp (unhide HZX))
  have HB2 := hide (fr (unhide HB1) hb2)
  clear ho hp hb2 hc0 hc1
  go_wp2_with fail
  refine (takeS _ _ _ _ ss xs h a _ (unhide HE) (unhide HL) (unhide HM) (unhide HS2) (unhide HX2)).mono ?_
  rintro e w3 ⟨p3, pa3, q3, qa3, rfl, ho3, hb3⟩
  have HA3 := hide (Joins.below_alloc2 w3 (.cells #[.slice p3 RS.length pa3, .slice q3 RX.length qa3] 45) (.cells #[.int .i64 RH, .int .i64 RG, .int .i64 RT] 47))
  have HW := hide (ho3.below (unhide HA3))
  have HV := hide ((VarD.new w3 (.slice p3 RS.length pa3) (.slice q3 RX.length qa3)).below (Joins.below_alloc1 _ (.cells #[.int .i64 RH, .int .i64 RG, .int .i64 RT] 47)))
  have HT : Hid (VarT ((w3.alloc (.cells #[.slice p3 RS.length pa3, .slice q3 RX.length qa3] 45)).alloc (.cells #[.int .i64 RH, .int .i64 RG, .int .i64 RT] 47)) (w3.heap.size + 1) 47 RH RG RT) := hide (by have := VarT.new (w3.alloc (.cells #[.slice p3 RS.length pa3, .slice q3 RX.length qa3] 45)) 47 RH RG RT; simp only [World.size_alloc] at this; exact this)
  have HB3 := hide (fr (fr (unhide HB2) hb3) (unhide HA3))
  have HB3' := hide (fr (unhide HB2) hb3)
  clear ho3 hb3
  obtain ⟨hc0, hc1⟩ := unhide HCELL _ (unhide HB3')
  have hlt3 : w.heap.size < w3.heap.size := World.block_lt_of_cell? _ _ hc0
  -- the copy that the program gets, in a variable
  go_wp2_with fail
  refine (toDisk_any ao bo ca cb ss xs _ hls hlx ((unhide HC).below (unhide HB3)) ((unhide HD).below (unhide HB3))).mono ?_
  rintro e w4 ⟨g4, k4, rfl, ho, hp, hb4⟩
  have HA4 := hide (Joins.below_alloc1 w4 (.cells #[.slice (some ⟨g4, 0, none⟩) ss.length ss.length, .slice (some ⟨k4, 0, none⟩) xs.length xs.length] 45))
  have HO4 : Hid (OwnD (w4.alloc (.cells #[.slice (some ⟨g4, 0, none⟩) ss.length ss.length, .slice (some ⟨k4, 0, none⟩) xs.length xs.length] 45)) ((w3.alloc (.cells #[.slice p3 RS.length pa3, .slice q3 RX.length qa3] 45)).alloc (.cells #[.int .i64 RH, .int .i64 RG, .int .i64 RT] 47)).heap.size (some ⟨g4, 0, none⟩) ss.length ss.length (some ⟨k4, 0, none⟩) xs.length xs.length ss xs) := hide (OwnD.below ⟨OwnR.of ho (fun e => ⟨_, by rw [e]⟩), OwnR.of hp (fun e => ⟨_, by rw [e]⟩)⟩ (unhide HA4))
  have HX4 := hide (VarD.new w4 (.slice (some ⟨g4, 0, none⟩) ss.length ss.length) (.slice (some ⟨k4, 0, none⟩) xs.length xs.length))
  have HD4 := hide (fr hb4 (unhide HA4))
  have HB4 := hide (fr (unhide HB3) (unhide HD4))
  clear ho hp hb4 hc0 hc1
  go_wp2_with fail
  refine (unhide HI' _ _ _ _ _ (fr (unhide HA) (unhide HB4)) ((unhide HO4).ss (unhide HZS)) ((unhide HO4).ios (unhide HZX))).mono ?_
  rintro e w5 ⟨p5, pa5, q5, qa5, rfl, ho5, hb5⟩
  have HA5 := hide (Joins.below_alloc2 w5 (.cells #[.slice p5 RS.length pa5, .slice q5 RX.length qa5] 45) (.cells #[.int .i64 RH, .int .i64 RG, .int .i64 RT] 47))
  have HG := hide (ho5.below (unhide HA5))
  have HY := hide ((VarD.new w5 (.slice p5 RS.length pa5) (.slice q5 RX.length qa5)).below (Joins.below_alloc1 _ (.cells #[.int .i64 RH, .int .i64 RG, .int .i64 RT] 47)))
  have HU : Hid (VarT ((w5.alloc (.cells #[.slice p5 RS.length pa5, .slice q5 RX.length qa5] 45)).alloc (.cells #[.int .i64 RH, .int .i64 RG, .int .i64 RT] 47)) (w5.heap.size + 1) 47 RH RG RT) := hide (by have := VarT.new (w5.alloc (.cells #[.slice p5 RS.length pa5, .slice q5 RX.length qa5] 45)) 47 RH RG RT; simp only [World.size_alloc] at this; exact this)
  have HO5 := hide (((unhide HO4).below hb5).below (unhide HA5))
  have HX5 := hide (((unhide HX4).below hb5).below (unhide HA5))
  have HD5 := hide (fr (fr (unhide HD4) hb5) (unhide HA5))
  have HB5 := hide (fr (fr (unhide HB4) hb5) (unhide HA5))
  have HW5 := hide ((unhide HW).below (unhide HD5))
  have hlt5 : w3.heap.size < w5.heap.size := ((unhide HV).below (fr (unhide HD4) hb5)).lt
  obtain ⟨hv0, hv1⟩ := ((unhide HV).below (fr (unhide HD4) hb5)).cells
  clear ho5 hb5
  -- both answers are alike
  go_wp2_with fail
  refine (eqSame _ _ _ _ _ _ _ _ RS RX _ (unhide HMS) (unhide HMX) ((unhide HG).ss (unhide HRS)) ((unhide HG).ios (unhide HRX)) ((unhide HW5).ss (unhide HRS)) ((unhide HW5).ios (unhide HRX))).mono ?_
  rintro e w6a ⟨rfl, hb6a⟩
  obtain ⟨u0, u1, u2⟩ := ((unhide HU).below hb6a).cells
  obtain ⟨k0, k1, k2⟩ := ((unhide HT).below (fr (unhide HD5) hb6a)).cells
  clear hv0 hv1
  go_wp2_with fail
  refine (eqDelta_same _ _ _ _).mono ?_
  rintro e w6 ⟨rfl, hb6b⟩
  have hb6 := fr hb6a hb6b
  clear hb6a hb6b u0 u1 u2 k0 k1 k2
  have HU6 := hide ((unhide HU).below hb6)
  have HG6 := hide ((unhide HG).below hb6)
  have HY6 := hide ((unhide HY).below hb6)
  have HO6 := hide ((unhide HO5).below hb6)
  have HX6 := hide ((unhide HX5).below hb6)
  have HD6 := hide (fr (unhide HD5) hb6)
  have HB6 := hide (fr (unhide HB5) hb6)
  clear hb6
  obtain ⟨hc0, hc1⟩ := unhide HCELL _ (unhide HB6)
  obtain ⟨hx0, hx1⟩ := (unhide HX6).cells
  have hlt4 : w4.heap.size < w6.heap.size := (unhide HX6).lt
  have HCT := hide ((unhide HC).below (unhide HB6).drew)
  have HDT := hide ((unhide HD).below (unhide HB6).drew)
  have HST := hide (((unhide HO6).ss (unhide HZS)).below (Below.refl _ _).drew)
  have HXT := hide (((unhide HO6).ios (unhide HZX)).below (Below.refl _ _).drew)
  go_wp2
  go_region_with (first | (go_at_call 20; refine (toDisk_any ao bo ca cb ss xs _ hls hlx (unhide HCT) (unhide HDT)).mono ?_; rintro e w7 ⟨g7, k7, rfl, ho7, hp7, hb7⟩; have hy0 := (hb7.cell (p := ⟨w4.heap.size, 0, none⟩) hlt4).trans hx0; have hy1 := (hb7.cell (p := ⟨w4.heap.size, 1, none⟩) hlt4).trans hx1) | (go_at_call 22; refine (eqSame _ _ _ _ _ _ _ _ ss xs _ (unhide HL) (unhide HM) (by exact (unhide HST).below hb7) (by exact (unhide HXT).below hb7) (by exact ownS ho7 (unhide HZS)) (by exact ownI hp7 (unhide HZX))).mono ?_; rintro e w8 ⟨rfl, hb8⟩))
  all_goals
    have H68 : Hid (Below w6.heap.size w6 w8) := hide (fr (a := w6) (b := w7) (Below.trans (Below.refl _ _).drew hb7) hb8)
    have HG8 := hide ((unhide HG6).below (unhide H68))
    have HY8 := hide ((unhide HY6).below (unhide H68))
    have HU8 := hide ((unhide HU6).below (unhide H68))
    have HO8 := hide ((unhide HO6).below (unhide H68))
    have HX8 := hide ((unhide HX6).below (unhide H68))
    have HD8 := hide (fr (unhide HD6) (unhide H68))
    have HB8 := hide (fr (unhide HB6) (unhide H68))
    clear hb7 hb8 ho7 hp7 hc0 hc1 hx0 hx1 hlt4
    obtain ⟨hx0, hx1⟩ := (unhide HX8).cells
    go_wp2_with fail
    refine (markDisk_one _ _ _ _ _ _ _ _ _ _ (by omega) (by omega) (unhide HO8)).mono ?_
    rintro e w9 ⟨rfl, ho9, hk9⟩
    have HG9 := hide ((unhide HG8).keep hk9 (fun j hj hx => Nat.lt_irrefl _ (Nat.lt_of_lt_of_le ((unhide HO4).ge j hx).2 ((unhide HG8).ge j hj).1)))
    have HY9 := hide ((unhide HY8).keep hk9 ((unhide HO8).other (unhide HY8) (by decide) (by decide)))
    have HU9 := hide ((unhide HU8).keep hk9 ((unhide HO8).other (unhide HU8) (by decide) (by decide)))
    have HD9 := hide ((unhide HD8).trans (hk9.below (B := ((w3.alloc (.cells #[.slice p3 RS.length pa3, .slice q3 RX.length qa3] 45)).alloc (.cells #[.int .i64 RH, .int .i64 RG, .int .i64 RT] 47)).heap.size) (unhide HD8).size (fun j hj => ((unhide HO8).ge j hj).1)))
    have HB9 := hide ((unhide HB8).trans (hk9.below (B := (w.alloc (.cells #[.slice ao ss.length ca, .slice bo xs.length cb] 41)).heap.size) (unhide HB8).size (fun j hj => Nat.le_trans (unhide HB3).size ((unhide HO8).ge j hj).1)))
    clear ho9 hk9 hx0 hx1
    have HW9 := hide ((unhide HW).below (unhide HD9))
    obtain ⟨hy0', hy1'⟩ := (unhide HY9).cells
    obtain ⟨hv0, hv1⟩ := ((unhide HV).below (unhide HD9)).cells
    go_wp2_with fail
    refine (eqSame _ _ _ _ _ _ _ _ RS RX _ (unhide HMS) (unhide HMX) ((unhide HG9).ss (unhide HRS)) ((unhide HG9).ios (unhide HRX)) ((unhide HW9).ss (unhide HRS)) ((unhide HW9).ios (unhide HRX))).mono ?_
    rintro e w10a ⟨rfl, hb10a⟩
    obtain ⟨u0, u1, u2⟩ := ((unhide HU9).below hb10a).cells
    obtain ⟨k0, k1, k2⟩ := ((unhide HT).below (fr (unhide HD9) hb10a)).cells
    clear hy0' hy1' hv0 hv1
    go_wp2_with fail
    refine (eqDelta_same _ _ _ _).mono ?_
    rintro e w10 ⟨rfl, hb10b⟩
    have hb10 := fr hb10a hb10b
    clear hb10a hb10b u0 u1 u2 k0 k1 k2
    have HG10 := hide ((unhide HG9).below hb10)
    have HY10 := hide ((unhide HY9).below hb10)
    have HD10 := hide (fr (unhide HD9) hb10)
    have HB10 := hide (fr (unhide HB9) hb10)
    clear hb10
    obtain ⟨hy0', hy1'⟩ := (unhide HY10).cells
    go_wp2_with fail
    refine (markDisk_one _ _ _ _ _ _ _ _ _ _ (unhide HQS) (unhide HQX) (unhide HG10)).mono ?_
    rintro e w11 ⟨rfl, ho11, hk11⟩
    have HG11 := hide ho11
    have HY11 := hide ((unhide HY10).keep hk11 ((unhide HG10).other (unhide HY10) (by decide) (by decide)))
    have HD11 := hide ((unhide HD10).trans (hk11.below (B := ((w3.alloc (.cells #[.slice p3 RS.length pa3, .slice q3 RX.length qa3] 45)).alloc (.cells #[.int .i64 RH, .int .i64 RG, .int .i64 RT] 47)).heap.size) (unhide HD10).size (fun j hj => Nat.le_trans (unhide HD4).size ((unhide HG10).ge j hj).1)))
    have HB11 := hide ((unhide HB10).trans (hk11.below (B := (w.alloc (.cells #[.slice ao ss.length ca, .slice bo xs.length cb] 41)).heap.size) (unhide HB10).size (fun j hj => Nat.le_trans (unhide HB4).size ((unhide HG10).ge j hj).1)))
    clear ho11 hk11 hy0' hy1'
    obtain ⟨hy0', hy1'⟩ := (unhide HY11).cells
    go_wp2_with fail
    refine (heldDisk_one _ _ _ _ _ _ _ _ (unhide HQS) (unhide HQX) (unhide HG11)).mono ?_
    rintro e w12 ⟨rfl, hb12⟩
    have HG12 := hide ((unhide HG11).below hb12)
    have HY12 := hide ((unhide HY11).below hb12)
    have HD12 := hide (fr (unhide HD11) hb12)
    have HB12 := hide (fr (unhide HB11) hb12)
    clear hb12 hy0' hy1'
    obtain ⟨hc0, hc1⟩ := unhide HCELL _ (unhide HB12)
    go_wp2_with fail
    refine (toDisk_any ao bo ca cb ss xs _ hls hlx ((unhide HC).below (unhide HB12)) ((unhide HD).below (unhide HB12))).mono ?_
    rintro e w13 ⟨g13, k13, rfl, ho, hp, hb13⟩
    have HS13 := hide (ownS ho (unhide HZS))
    have HX13 := hide (ownI hp (unhide HZX))
    have HG13 := hide ((unhide HG12).below hb13)
    have HY13 := hide ((unhide HY12).below hb13)
    have HD13 := hide (fr (unhide HD12) hb13)
    have HB13 := hide (fr (unhide HB12) hb13)
    clear ho hp hb13 hc0 hc1
    go_wp2_with fail
    refine (unhide HI' _ _ _ _ _ (fr (unhide HA) (unhide HB13)) (unhide HS13) (unhide HX13)).mono ?_
    rintro e w14 ⟨p14, pa14, q14, qa14, rfl, ho14, hb14⟩
    have HA14 := hide (Joins.below_alloc2 w14 (.cells #[.slice p14 RS.length pa14, .slice q14 RX.length qa14] 45) (.cells #[.int .i64 RH, .int .i64 RG, .int .i64 RT] 47))
    have HM14 : Hid (VarT ((w14.alloc (.cells #[.slice p14 RS.length pa14, .slice q14 RX.length qa14] 45)).alloc (.cells #[.int .i64 RH, .int .i64 RG, .int .i64 RT] 47)) (w14.heap.size + 1) 47 RH RG RT) := hide (by have := VarT.new (w14.alloc (.cells #[.slice p14 RS.length pa14, .slice q14 RX.length qa14] 45)) 47 RH RG RT; simp only [World.size_alloc] at this; exact this)
    have HN14 := hide (ho14.below (unhide HA14))
    have HF14 := hide (fr hb14 (unhide HA14))
    have HG14 := hide ((unhide HG13).below (unhide HF14))
    have HY14 := hide ((unhide HY13).below (unhide HF14))
    have HD14 := hide (fr (unhide HD13) (unhide HF14))
    have HB14 := hide (fr (unhide HB13) (unhide HF14))
    have HW14 := hide ((unhide HW).below (unhide HD14))
    have hlt14 : w3.heap.size < w14.heap.size := ((unhide HV).below (fr (unhide HD13) hb14)).lt
    obtain ⟨hv0, hv1⟩ := ((unhide HV).below (fr (unhide HD13) hb14)).cells
    clear ho14 hb14
    go_wp2_with fail
    refine (eqSame _ _ _ _ _ _ _ _ RS RX _ (unhide HMS) (unhide HMX) ((unhide HN14).ss (unhide HRS)) ((unhide HN14).ios (unhide HRX)) ((unhide HW14).ss (unhide HRS)) ((unhide HW14).ios (unhide HRX))).mono ?_
    rintro e w15a ⟨rfl, hb15a⟩
    obtain ⟨u0, u1, u2⟩ := ((unhide HM14).below hb15a).cells
    obtain ⟨k0, k1, k2⟩ := ((unhide HT).below (fr (unhide HD14) hb15a)).cells
    clear hv0 hv1
    go_wp2_with fail
    refine (eqDelta_same _ _ _ _).mono ?_
    rintro e w15 ⟨rfl, hb15b⟩
    have hb15 := fr hb15a hb15b
    clear hb15a hb15b u0 u1 u2 k0 k1 k2
    have HG15 := hide ((unhide HG14).below hb15)
    have HY15 := hide ((unhide HY14).below hb15)
    have HB15 := hide (fr (unhide HB14) hb15)
    clear hb15
    obtain ⟨hy0', hy1'⟩ := (unhide HY15).cells
    go_wp2_with fail
    refine (heldDisk_one _ _ _ _ _ _ _ _ (unhide HQS) (unhide HQX) (unhide HG15)).mono ?_
    rintro e w16 ⟨rfl, hb16⟩
    have HB16 := hide (fr (unhide HA) (fr (unhide HB15) hb16))
    clear hb16
    go_wp2
    go_ret
    exact ⟨rfl, unhide HB16⟩

end Go.Proofs.YtlhinknmbgijeaaDoor
