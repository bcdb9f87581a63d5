import Derived.Test.YtefnapcegeojoaaGreatDoorRows
import Derived.Test.YtefnapcegeojoaaGreatDoorLReleasePart1
import Derived.Test.YtefnapcegeojoaaGreatDoorLReleasePart2
import Derived.Test.YtefnapcegeojoaaGreatDoorLReleasePart3
import Derived.Test.YtefnapcegeojoaaGreatDoorLReleasePart4
import Derived.Test.YtefnapcegeojoaaGreatDoorLReleasePart5
import Derived.WalkKit
import Derived.WalkSpells
import Derived.KernelRfl
import Derived.Deep.RegionLawGrows
import Derived.Deep.RegionLaw
import Derived.Deep.AppendLies
import Derived.Deep.RegionHeld3

namespace Go.Proofs.YtefnapcegeojoaaGreatDoor
open Go.RowKit
set_option linter.unusedVariables false
set_option maxRecDepth 100000

set_option maxHeartbeats 1600000 in
theorem nobodySince_any (v : Int) (w : World) : Calls Tryz.prog 74 #[.int .i64 v] w fun e w' => e = .returned (lV (ldN v)) ∧ Below w.heap.size w w' := by
  go_enter Tryz.func74, Tryz.ntmps74
  go_wp2
  exact bodyPost_ret (v := lV (ldN v)) (by simp [results, Tryz.results74, go_sem, ldN]) rfl ⟨rfl, Joins.below_alloc1 _ _⟩

theorem seenAt (ao bo : Option Addr) (ca cb : Nat) (ss : List ByteArray) (xs : List Wr) (h a : Int) (T : ByteArray) (w : World) (hd : diskB ss xs = true) (h0 : 0 ≤ a) (h3 : a ≤ 63) (hT : readV ss xs h a = T) (h1 : Ss w ao ss) (h2 : Ios w bo xs) :
    Calls Tryz.prog 73 #[.agg #[.slice ao ss.length ca, .slice bo xs.length cb], .int .i64 h, .int .i64 a] w fun e w' => e = .returned (.string T) ∧ Below w.heap.size w w' := by
  obtain ⟨l1, l2⟩ := diskB_len hd
  obtain ⟨n, rfl⟩ := Int.eq_ofNat_of_zero_le h0
  subst hT
  exact seenBy_any ao bo ca cb ss xs h n w l2 (by omega) (by omega) h1 h2

set_option maxHeartbeats 1600000 in
theorem leaderSeen_any (ao bo : Option Addr) (ca cb : Nat) (ss : List ByteArray) (xs : List Wr) (h : Int) (L : Ld) (w : World) (hL : ldOf ss xs h = L) (hd : diskB ss xs = true) (h1 : Ss w ao ss) (h2 : Ios w bo xs) (hE : ErrW w) :
    Calls Tryz.prog 33 #[.agg #[.slice ao ss.length ca, .slice bo xs.length cb], .int .i64 h] w fun e w' => e = .returned (lV L) ∧ Below w.heap.size w w' := by
  have HS := hide (readV_size hd h 0)
  have HA := hide (Joins.below_alloc2 w (.cells #[.slice ao ss.length ca, .slice bo xs.length cb] 26) (.cells #[.int .i64 0, .int .i64 0, .int .i64 0] 30))
  have H1 := hide (h1.below (unhide HA))
  have H2 := hide (h2.below (unhide HA))
  have HE0 := hide (hE.below (unhide HA))
  have HR := hide (varL_new w (.cells #[.slice ao ss.length ca, .slice bo xs.length cb] 26) 0 0 0)
  obtain ⟨T, HT⟩ : ∃ T, Hid (readV ss xs h 0 = T) := ⟨_, hide rfl⟩
  have HK : Hid (ldK T = L) := hide (by rw [← unhide HT]; exact hL)
  rw [unhide HT] at HS
  have HD := hide hd
  clear h1 h2 hd hL hE
  go_enter Tryz.func33, Tryz.ntmps33
  go_wp2_with fail
  refine (seenAt _ _ _ _ ss xs h 0 T _ (unhide HD) (by decide) (by decide) (unhide HT) (unhide H1) (unhide H2)).mono ?_
  rintro e w1 ⟨rfl, hb1⟩
  have HB1 := hide (fr (unhide HA) hb1)
  have HR1 := hide ((unhide HR).below hb1)
  have HE1 := hide ((unhide HE0).below hb1)
  clear hb1
  go_wp2_with fail
  refine (decodeLeader_impl T _ (unhide HE1)).mono ?_
  rintro e w2 ⟨rfl, hb2⟩
  have HB2 := hide (fr (unhide HB1) hb2)
  have HR2 := hide ((unhide HR1).below hb2)
  clear hb2
  by_cases hd : ldD T = true
  · obtain ⟨y1, y2⟩ := lc_yes (t := T) (by have := unhide HS; omega) hd
    rw [y1, y2, unhide HK]
    clear y1 y2 hd
    obtain ⟨hc0, hc1, hc2⟩ := (unhide HR2).cells
    obtain ⟨hf0, hf1, hf2⟩ := (unhide HR2).free
    have hlt := (unhide HR2).lt
    have HE := hide (fun u v x => fr (below3 (g := w.heap.size + 1) (unhide HB2) (by omega) 0 1 2 u v x) (Joins.below_alloc1 _ (.cells #[.int .i64 L.ver, .int .i64 L.own, .int .i64 L.gen] 30)))
    go_wp2
    exact bodyPost_ret (v := lV L) (by simp [results, Tryz.results33, go_sem, hc0, hc1, hc2, hlt]) rfl ⟨rfl, unhide HE _ _ _⟩
  · rw [Bool.not_eq_true] at hd
    obtain ⟨y1, y2⟩ := lc_no (t := T) (by have := unhide HS; omega) hd
    have HY : Hid (ldN 0 = L) := hide (by rw [← ld_no hd]; exact unhide HK)
    rw [y1, y2]
    clear y1 y2 hd
    have HA3 := hide (Joins.below_alloc1 w2 (.cells #[.int .i64 ld0.ver, .int .i64 ld0.own, .int .i64 ld0.gen] 30))
    have HR3 := hide ((unhide HR2).below (unhide HA3))
    go_wp2_with fail
    refine (nobodySince_any 0 _).mono ?_
    rintro e w3 ⟨rfl, hb3⟩
    have HB3 := hide (fr (fr (unhide HB2) (unhide HA3)) hb3)
    have HR4 := hide ((unhide HR3).below hb3)
    clear hb3
    obtain ⟨hc0, hc1, hc2⟩ := (unhide HR4).cells
    obtain ⟨hf0, hf1, hf2⟩ := (unhide HR4).free
    have HE := hide (fun u v x => below3 (g := w.heap.size + 1) (unhide HB3) (by omega) 0 1 2 u v x)
    go_wp2
    exact bodyPost_ret (v := lV (ldN 0)) (by simp [results, Tryz.results33, go_sem, hc0, hc1, hc2]) rfl ⟨ret_l (unhide HY), unhide HE _ _ _⟩

set_option maxHeartbeats 1600000 in
theorem readLeader_impl (ao bo : Option Addr) (ca cb : Nat) (ss : List ByteArray) (xs : List Wr) (h : Int) (w : World) (hl : ss.length ≤ maxLen) (hm : xs.length ≤ maxLen) (h1 : Ss w ao ss) (h2 : Ios w bo xs) (hE : ErrW w) :
    Calls Tryz.prog 9 #[.agg #[.slice ao ss.length ca, .slice bo xs.length cb], .int .i64 h] w fun e w' => e = .returned (.tuple #[lV (rlK ss xs h), .int .i64 (hostC ss xs h)]) ∧ Below w.heap.size w w' := by
  have HA := hide (Joins.below_alloc2 w (.cells #[.slice ao ss.length ca, .slice bo xs.length cb] 26) (.cells #[.int .i64 0, .int .i64 0, .int .i64 0] 30))
  have H1 := hide (h1.below (unhide HA))
  have H2 := hide (h2.below (unhide HA))
  have HE0 := hide (hE.below (unhide HA))
  have HV := hide ((VarD.new w (.slice ao ss.length ca) (.slice bo xs.length cb)).below (Joins.below_alloc1 _ (.cells #[.int .i64 0, .int .i64 0, .int .i64 0] 30)))
  have HR := hide (varL_new w (.cells #[.slice ao ss.length ca, .slice bo xs.length cb] 26) 0 0 0)
  have HL := hide hl
  have HM := hide hm
  clear h1 h2 hl hm hE
  go_enter Tryz.func9, Tryz.ntmps9
  go_wp2_with fail
  refine (hostFault_any _ _ _ _ ss xs h _ (unhide HL) (unhide HM) (unhide H1) (unhide H2)).mono ?_
  rintro e w1 ⟨rfl, hb1⟩
  have HB1 := hide (fr (unhide HA) hb1)
  have HV1 := hide ((unhide HV).below hb1)
  have HR1 := hide ((unhide HR).below hb1)
  have HS1 := hide ((unhide H1).below hb1)
  have HX1 := hide ((unhide H2).below hb1)
  have HE1 := hide ((unhide HE0).below hb1)
  clear hb1
  by_cases e0 : hostC ss xs h = 0
  · have hb : (hostC ss xs h != 0) = false := by simp [e0]
    obtain ⟨ed, eh0, eh3⟩ := hostC_eq e0
    have HD := hide ed
    obtain ⟨d0, d1⟩ := (unhide HV1).cells
    obtain ⟨L, HK⟩ : ∃ L, Hid (ldOf ss xs h = L) := ⟨_, hide rfl⟩
    have HZ : Hid (rlK ss xs h = L) := hide (by rw [rlK, if_pos e0]; exact unhide HK)
    have HC := hide e0
    clear ed e0
    go_wp2_with fail
    refine (leaderSeen_any _ _ _ _ ss xs h L _ (unhide HK) (unhide HD) (unhide HS1) (unhide HX1) (unhide HE1)).mono ?_
    rintro e w3 ⟨rfl, hb3⟩
    have HB3 := hide (fr (unhide HB1) hb3)
    have HR3 := hide ((unhide HR1).below hb3)
    clear hb3 d0 d1
    obtain ⟨c0, c1, c2⟩ := (unhide HR3).cells
    obtain ⟨f0, f1, f2⟩ := (unhide HR3).free
    have HE := hide (fun u v x => below3 (g := w.heap.size + 1) (unhide HB3) (by omega) 0 1 2 u v x)
    go_wp2
    refine bodyPost_ret (v := .tuple #[lV L, .int .i64 0]) (by simp [results, Tryz.results9, go_sem, c0, c1, c2]) rfl ⟨?_, unhide HE _ _ _⟩
    exact ret_li (unhide HZ).symm (unhide HC).symm
  · have hb : (hostC ss xs h != 0) = true := by simp [e0]
    have HZ : Hid (rlK ss xs h = ld0) := hide (if_neg e0)
    obtain ⟨c0, c1, c2⟩ := (unhide HR1).cells
    obtain ⟨f0, f1, f2⟩ := (unhide HR1).free
    have HE := hide (fun u v x => below3 (g := w.heap.size + 1) (unhide HB1) (by omega) 0 1 2 u v x)
    go_wp2
    refine bodyPost_ret (v := .tuple #[lV ld0, .int .i64 (hostC ss xs h)]) (by simp [results, Tryz.results9, go_sem, c0, c1, c2, ld0]) rfl ⟨?_, unhide HE _ _ _⟩
    exact ret_li (unhide HZ).symm rfl

set_option maxHeartbeats 1600000 in
theorem holds_impl (ao bo : Option Addr) (ca cb : Nat) (ss : List ByteArray) (xs : List Wr) (h g : Int) (w : World) (hl : ss.length ≤ maxLen) (hm : xs.length ≤ maxLen) (h1 : Ss w ao ss) (h2 : Ios w bo xs) (hE : ErrW w) :
    Calls Tryz.prog 13 #[.agg #[.slice ao ss.length ca, .slice bo xs.length cb], .int .i64 h, .int .i64 g] w fun e w' => e = .returned (.tuple #[.bool (hlB ss xs h g), .int .i64 (hostC ss xs h)]) ∧ Below w.heap.size w w' := by
  have HA := hide (Joins.below_alloc1 w (.cells #[.slice ao ss.length ca, .slice bo xs.length cb] 26))
  have H1 := hide (h1.below (unhide HA))
  have H2 := hide (h2.below (unhide HA))
  have HE0 := hide (hE.below (unhide HA))
  have HL := hide hl
  have HM := hide hm
  clear h1 h2 hl hm hE
  go_enter Tryz.func13, Tryz.ntmps13
  go_wp2_with fail
  refine (readLeader_impl _ _ _ _ ss xs h _ (unhide HL) (unhide HM) (unhide H1) (unhide H2) (unhide HE0)).mono ?_
  rintro e w1 ⟨rfl, hb1⟩
  obtain ⟨L, HK⟩ : ∃ L, Hid (rlK ss xs h = L) := ⟨_, hide rfl⟩
  rw [unhide HK]
  have HB1 := hide (fr (fr (unhide HA) hb1) (Joins.below_alloc1 _ (.cells #[.int .i64 L.ver, .int .i64 L.own, .int .i64 L.gen] 30)))
  clear hb1
  by_cases e0 : hostC ss xs h = 0
  · have hb : (hostC ss xs h != 0) = false := by simp [e0]
    have HZ : Hid (hlB ss xs h g = (decide (L.own = h) && decide (L.gen = g))) := hide (by rw [hlB, decide_eq_true e0, ← unhide HK, rlK, if_pos e0]; rfl)
    have HC := hide e0
    clear e0
    by_cases k1 : L.own = h
    · have b1 : (L.own == h) = true := beq_iff_eq.2 k1
      have HY : Hid (hlB ss xs h g = (L.gen == g)) := hide (by rw [unhide HZ, Bool.eq_iff_iff]; simp [k1])
      clear k1
      go_wp2
      go_ret2
      exact ⟨ret_bi2 (unhide HY).symm (unhide HC).symm, unhide HB1⟩
    · have b1 : (L.own == h) = false := by simp [k1]
      have HY : Hid (hlB ss xs h g = false) := hide (by rw [unhide HZ]; simp [k1])
      clear k1
      go_wp2
      go_ret2
      exact ⟨ret_bi2 (unhide HY).symm (unhide HC).symm, unhide HB1⟩
  · have hb : (hostC ss xs h != 0) = true := by simp [e0]
    have HZ : Hid (hlB ss xs h g = false) := hide (by rw [hlB, decide_eq_false e0]; rfl)
    go_wp2
    go_ret2
    exact ⟨ret_bi2 (unhide HZ).symm rfl, unhide HB1⟩

end Go.Proofs.YtefnapcegeojoaaGreatDoor

namespace Go.Proofs.YtefnapcegeojoaaGreatDoor
open Go.RowKit
set_option linter.unusedVariables false

theorem allB_in {xs : List Int} (h : allB xs = true) : ∀ j (hj : j < xs.length), 0 ≤ xs[j] ∧ xs[j] ≤ 2147483647 := by
  intro j hj
  rw [allB, List.all_eq_true] at h
  have := h _ (List.getElem_mem hj)
  simpa [numB, inB] using this
theorem pack_byte {xs : List Int} {i j : Nat} (hi : i < xs.length) (hj : j < 4) : byteAt (packS xs) (i * 4 + j) = byteN xs[i] j := by
  obtain ⟨hk, he⟩ := List.getElem?_eq_some_iff.1 (packL_at xs i j hi hj)
  have hb := byteN_in xs[i] j
  rw [packS, byteAt_nums hk (by rw [he]; omega) (by rw [he]; omega), he]
theorem num_of_bytes {n : Int} (h0 : 0 ≤ n) (h1 : n ≤ 2147483647) : byteN n 0 + byteN n 1 * 256 + byteN n 2 * 65536 + byteN n 3 * 16777216 = n := by
  show n / 1 % 256 + n / 256 % 256 * 256 + n / 65536 % 256 * 65536 + n / 16777216 % 256 * 16777216 = n
  omega
theorem un_pack {xs : List Int} (h : allB xs = true) : unL (packS xs) = xs := by
  apply List.ext_getElem
  · rw [unL_length, packS_size]; omega
  · intro i h1 h2
    rw [unL_get h1]
    have hin := allB_in h i h2
    unfold numAt
    have e0 := pack_byte h2 (show 0 < 4 by omega)
    rw [Nat.add_zero] at e0
    rw [e0, pack_byte h2 (show 1 < 4 by omega), pack_byte h2 (show 2 < 4 by omega), pack_byte h2 (show 3 < 4 by omega)]
    exact num_of_bytes hin.1 hin.2
theorem okU_pack {xs : List Int} (h : allB xs = true) (hl : xs.length ≤ 16) : okU (packS xs) = true := by
  rw [okU_even (by rw [packS_size]; omega), un_pack h, intsB, h, decide_eq_true hl]; rfl
theorem kindB_of {k : Int} (hk : 1 ≤ k ∧ k ≤ 9) : kindB k = true := by simp [kindB, inB]; omega
theorem seal_byte {k : Int} {xs : List Int} (hk : 1 ≤ k ∧ k ≤ 9) (hl : xs.length ≤ 16) {j : Nat} (hj : j < 4) : byteAt (sealS k xs) j = (headR k xs)[j]'(by simpa [headR] using hj) := by
  have hr := sumR_in k xs
  rw [sealS, byteAt_left (by rw [strOfNums_size]; simpa [headR] using hj), byteAt_nums]
  · rcases (show j = 0 ∨ j = 1 ∨ j = 2 ∨ j = 3 by omega) with rfl | rfl | rfl | rfl <;> simp [headR] <;> omega
  · rcases (show j = 0 ∨ j = 1 ∨ j = 2 ∨ j = 3 by omega) with rfl | rfl | rfl | rfl <;> simp [headR] <;> omega
theorem body_seal {k : Int} {xs : List Int} : bodyT (sealS k xs) = packS xs := by
  apply bytes_eq
  · rw [bodyT_size, sealS_size, packS_size]; omega
  · intro j hj
    rw [bodyT_size, sealS_size] at hj
    rw [bodyT_byte (by rw [sealS_size]; omega), sealS, byteAt_right (by rw [strOfNums_size]; simp [headR]), strOfNums_size]
    congr 1
    simp [headR]
theorem rec_seal {k : Int} {xs : List Int} (hk : 1 ≤ k ∧ k ≤ 9) (h : allB xs = true) (hl : xs.length ≤ 16) : RecP (sealS k xs) := by
  have e0 := seal_byte hk hl (show 0 < 4 by omega)
  have hkb : kindB (byteAt (sealS k xs) 0) = true := by rw [e0]; exact kindB_of hk
  refine (seal_iff (by rw [sealS_size]; omega) hkb (by rw [body_seal]; exact okU_pack h hl)).1 ?_
  rw [body_seal, un_pack h, e0]
  simp [headR]
theorem seal_kind {k : Int} {xs : List Int} (hk : 1 ≤ k ∧ k ≤ 9) (hl : xs.length ≤ 16) : byteAt (sealS k xs) 0 = k := by rw [seal_byte hk hl (show 0 < 4 by omega)]; simp [headR]
end Go.Proofs.YtefnapcegeojoaaGreatDoor

namespace Go.Proofs.YtefnapcegeojoaaGreatDoor
open Go.RowKit
set_option linter.unusedVariables false

theorem write_end {w wL : World} {g k cap : Nat} {cs : List Value} (ho : wL.ownsRow (w.heap.size + 1 + 1 + 1) 75 3 (.slice (some ⟨g, 0, none⟩) k cap) k cs) (hb : Below w.heap.size w wL) (a b c : Value) :
    (((wL.setCell ⟨w.heap.size, 1, none⟩ a).setCell ⟨w.heap.size + 1 + 1, 0, none⟩ b).setCell ⟨w.heap.size + 1 + 1, 1, none⟩ c).ownsRow w.heap.size 75 3 (.slice (some ⟨g, 0, none⟩) k cap) k cs ∧ Below w.heap.size w (((wL.setCell ⟨w.heap.size, 1, none⟩ a).setCell ⟨w.heap.size + 1 + 1, 0, none⟩ b).setCell ⟨w.heap.size + 1 + 1, 1, none⟩ c) :=
  ⟨own_base (ownsRow_setCell_below (ownsRow_setCell_below (ownsRow_setCell_below ho (a := ⟨w.heap.size, 1, none⟩) (by simp; omega) a) (a := ⟨w.heap.size + 1 + 1, 0, none⟩) (by simp) b) (a := ⟨w.heap.size + 1 + 1, 1, none⟩) (by simp) c) (by omega),
    ((hb.setCell (p := ⟨w.heap.size, 1, none⟩) (by simp) a).setCell (p := ⟨w.heap.size + 1 + 1, 0, none⟩) (by simp; omega) b).setCell (p := ⟨w.heap.size + 1 + 1, 1, none⟩) (by simp; omega) c⟩

set_option maxRecDepth 100000 in
set_option maxHeartbeats 6400000 in
theorem l01Write_any (ao bo : Option Addr) (n ca cb : Nat) (xs : List Wr) (x : Wr) (w : World) (hm : xs.length ≤ 1048576) (h2 : Ios w bo xs) :
    Calls Tryz.prog 53 #[.agg #[.slice ao n ca, .slice bo xs.length cb], .agg #[.int .i64 x.host, .int .i64 x.at_, .string x.data]] w fun e w' => ∃ g cap, e = .returned (.agg #[.slice ao n ca, .slice (some ⟨g, 0, none⟩) (xs.length + 1) cap]) ∧ w'.ownsRow w.heap.size 75 3 (.slice (some ⟨g, 0, none⟩) (xs.length + 1) cap) (xs.length + 1) (ioV (xs ++ [x])) ∧ Below w.heap.size w w' := by
  have HA := hide (Joins.below_alloc3 w (.cells #[.slice ao n ca, .slice bo xs.length cb] 26) (.cells #[.int .i64 x.host, .int .i64 x.at_, .string x.data] 75) (.cells #[.slice none 0 0, .slice none 0 0] 26))
  have HX := hide (h2.below (unhide HA))
  have HV := hide ((VarD.new w (.slice ao n ca) (.slice bo xs.length cb)).below (Joins.below_alloc2 _ (.cells #[.int .i64 x.host, .int .i64 x.at_, .string x.data] 75) (.cells #[.slice none 0 0, .slice none 0 0] 26)))
  have HR : Hid (VarD (((w.alloc (.cells #[.slice ao n ca, .slice bo xs.length cb] 26)).alloc (.cells #[.int .i64 x.host, .int .i64 x.at_, .string x.data] 75)).alloc (.cells #[.slice none 0 0, .slice none 0 0] 26)) (w.heap.size + 1 + 1) (.slice none 0 0) (.slice none 0 0)) := hide (by have := VarD.new ((w.alloc (.cells #[.slice ao n ca, .slice bo xs.length cb] 26)).alloc (.cells #[.int .i64 x.host, .int .i64 x.at_, .string x.data] 75)) (.slice none 0 0) (.slice none 0 0); simp only [World.size_alloc] at this; exact this)
  have HI : Hid (VarI (((w.alloc (.cells #[.slice ao n ca, .slice bo xs.length cb] 26)).alloc (.cells #[.int .i64 x.host, .int .i64 x.at_, .string x.data] 75)).alloc (.cells #[.slice none 0 0, .slice none 0 0] 26)) (w.heap.size + 1) x) := hide (VarI.below (by have := VarI.new (w.alloc (.cells #[.slice ao n ca, .slice bo xs.length cb] 26)) x; simp only [World.size_alloc] at this; exact this) (Joins.below_alloc1 _ _))
  clear h2
  obtain ⟨j0, hj, hy0, hy1, hy2⟩ := info_parts infoW
  go_enter Tryz.func53, Tryz.ntmps53
  go_wp2
  go_region_law
    (first
      | (refine (step_append_fresh ?_ (.tmp 5) (.tmp 7) 24 ?_ 75 j0 (.agg #[.int .i64 0, .int .i64 0, .string ⟨#[]⟩]) 3 32 Tryz.underlying24 hj hy0 hy1 hy2 ?_ ?_ ?_ bo xs.length cb (ioV xs) ?_ ?_ ?_ ?_ ?_ ?_)
         · rfl
         · rfl
         · rfl
         · omega
         · rfl
         · rfl
         · rw [ioV_length]
         · refine Ios.src ((unhide HX).below ?_)
           repeat (first | exact Below.refl _ _ | exact hbA | refine Below.drew ?_ | refine belowAl ?_ _)
         · unfold maxLen; omega
         · omega
         intro qo qa wA hoA hgA
         have hbA : Below (((w.alloc (.cells #[.slice ao n ca, .slice bo xs.length cb] 26)).alloc (.cells #[.int .i64 x.host, .int .i64 x.at_, .string x.data] 75)).alloc (.cells #[.slice none 0 0, .slice none 0 0] 26)).heap.size (((w.alloc (.cells #[.slice ao n ca, .slice bo xs.length cb] 26)).alloc (.cells #[.int .i64 x.host, .int .i64 x.at_, .string x.data] 75)).alloc (.cells #[.slice none 0 0, .slice none 0 0] 26)) wA := belowGr (by repeat (first | exact Below.refl _ _ | exact hbA | refine Below.drew ?_ | refine belowAl ?_ _)) hgA
         obtain ⟨hA0, hA1⟩ := ((unhide HV).below hbA).cells
         obtain ⟨hA2, hA3, hA4⟩ := ((unhide HI).below hbA).cells)
      | (refine (step_append_at ?_ (.tmp 8) (.tmp 10) 24 ?_ (w.heap.size + 1 + 1 + 1) 75 j0 (.agg #[.int .i64 0, .int .i64 0, .string ⟨#[]⟩]) 3 32 Tryz.underlying24 hj hy0 hy1 hy2 ?_ ?_ qo xs.length qa (ioV xs) ?_ ?_ ?_ (wrV x) ?_ ?_ ?_ ?_ ?_ ?_)
         · rfl
         · rfl
         · rfl
         · omega
         · rfl
         · refine OwnR.base (OwnR.below hoA ?_) ?_
           · repeat (first | exact Below.refl _ _ | refine Below.drew ?_ | refine belowAl ?_ _)
           · first | omega | (simp <;> omega)
         · have := hbA.size
           simp at this ⊢
           omega
         · refine ⟨_, _, rfl, VarI.news ?_⟩
           first | exact VarI.new _ _ | (refine VarI.grown ?_ hgA; refine VarI.drew ?_; refine VarI.top ?_; simp) | (refine VarI.grown ?_ hgA; refine VarI.drew ?_; refine VarI.under ?_ _; refine VarI.top ?_; simp)
         · rfl
         · exact wrV_one x
         · unfold maxLen; omega
         · omega
         intro g cap wB hoB hkB
         have hkA := hkB
         have hbB : Below (((w.alloc (.cells #[.slice ao n ca, .slice bo xs.length cb] 26)).alloc (.cells #[.int .i64 x.host, .int .i64 x.at_, .string x.data] 75)).alloc (.cells #[.slice none 0 0, .slice none 0 0] 26)).heap.size (((w.alloc (.cells #[.slice ao n ca, .slice bo xs.length cb] 26)).alloc (.cells #[.int .i64 x.host, .int .i64 x.at_, .string x.data] 75)).alloc (.cells #[.slice none 0 0, .slice none 0 0] 26)) wB := belowKp (by repeat (first | exact hbA | refine Below.drew ?_ | refine belowAl ?_ _)) hkB (fun j hj => Nat.le_trans (by first | (simp; done) | (simp; omega)) (hoA.ge j hj).1)
         obtain ⟨hB0, hB1⟩ := ((unhide HV).below hbB).cells
         have hB6 := ((unhide HV).below hbB).free 1
         obtain ⟨hB2, hB3⟩ := ((unhide HR).below hbB).cells
         have hB4 := ((unhide HR).below hbB).free 0
         have hB5 := ((unhide HR).below hbB).free 1
         obtain ⟨hB7, hB8, hB9⟩ := ((unhide HI).below hbB).cells))
  all_goals
    have HL := hide (write_end (w := w) (wL := wB) hoB (fr (unhide HA) hbB) (.slice (some ⟨g, 0, none⟩) (xs.length + 1) cap) (.slice ao n ca) (.slice (some ⟨g, 0, none⟩) (xs.length + 1) cap))
    clear hoA hoB hgA hkA hkB hbA hbB hA0 hA1 hA2 hA3 hA4 hB7 hB8 hB9
    go_wp2
    exact bodyPost_ret (v := .agg #[.slice ao n ca, .slice (some ⟨g, 0, none⟩) (xs.length + 1) cap]) (by simp [results, Tryz.results53, go_sem, hB2, hB3]) rfl ⟨_, _, rfl, by rw [ioV_snoc]; exact (unhide HL).1, (unhide HL).2⟩

theorem l01Write_hd (ao bo : Option Addr) (n ca cb : Nat) (xs : List Wr) (h a : Int) (d : ByteArray) (w : World) (hm : xs.length ≤ 1048576) (h2 : Ios w bo xs) :
    Calls Tryz.prog 53 #[.agg #[.slice ao n ca, .slice bo xs.length cb], .agg #[.int .i64 h, .int .i64 a, .string d]] w fun e w' => ∃ g cap, e = .returned (.agg #[.slice ao n ca, .slice (some ⟨g, 0, none⟩) (xs.length + 1) cap]) ∧ w'.ownsRow w.heap.size 75 3 (.slice (some ⟨g, 0, none⟩) (xs.length + 1) cap) (xs.length + 1) (ioV (xs ++ [⟨h, a, d⟩])) ∧ Below w.heap.size w w' :=
  l01Write_any ao bo n ca cb xs ⟨h, a, d⟩ w hm h2

end Go.Proofs.YtefnapcegeojoaaGreatDoor

namespace Go.Proofs.YtefnapcegeojoaaGreatDoor
open Go.RowKit
set_option linter.unusedVariables false

def wrC (ss : List ByteArray) (xs : List Wr) (h a : Int) (d : ByteArray) : Int := if 65536 < d.size then 2 else if askC ss xs h a = 0 then (if 80 < d.size then 4 else if xs.length = 200 then 7 else 0) else askC ss xs h a
def wrS (ss : List ByteArray) (xs : List Wr) (h a : Int) (d : ByteArray) : List ByteArray := if 65536 < d.size then [] else if askC ss xs h a = 0 then ss else []
def wrX (ss : List ByteArray) (xs : List Wr) (h a : Int) (d : ByteArray) : List Wr := if 65536 < d.size then [] else if askC ss xs h a = 0 then (if 80 < d.size then xs else if xs.length = 200 then xs else xs ++ [⟨h, a, d⟩]) else []
theorem wr_long {ss : List ByteArray} {xs : List Wr} {h a : Int} {d : ByteArray} (h1 : 65536 < d.size) : wrS ss xs h a d = [] ∧ wrX ss xs h a d = [] ∧ wrC ss xs h a d = 2 := by simp [wrS, wrX, wrC, h1]
theorem wr_ask {ss : List ByteArray} {xs : List Wr} {h a : Int} {d : ByteArray} (h1 : ¬ 65536 < d.size) (h2 : askC ss xs h a ≠ 0) : wrS ss xs h a d = [] ∧ wrX ss xs h a d = [] ∧ wrC ss xs h a d = askC ss xs h a := by simp [wrS, wrX, wrC, h1, h2]
theorem wr_range {ss : List ByteArray} {xs : List Wr} {h a : Int} {d : ByteArray} (h1 : ¬ 65536 < d.size) (h2 : askC ss xs h a = 0) (h3 : 80 < d.size) : wrS ss xs h a d = ss ∧ wrX ss xs h a d = xs ∧ wrC ss xs h a d = 4 := by simp [wrS, wrX, wrC, h1, h2, h3]
theorem wr_full {ss : List ByteArray} {xs : List Wr} {h a : Int} {d : ByteArray} (h1 : ¬ 65536 < d.size) (h2 : askC ss xs h a = 0) (h3 : ¬ 80 < d.size) (h4 : xs.length = 200) : wrS ss xs h a d = ss ∧ wrX ss xs h a d = xs ∧ wrC ss xs h a d = 7 := by simp [wrS, wrX, wrC, h1, h2, h3, h4]
theorem wr_ok {ss : List ByteArray} {xs : List Wr} {h a : Int} {d : ByteArray} (h1 : ¬ 65536 < d.size) (h2 : askC ss xs h a = 0) (h3 : ¬ 80 < d.size) (h4 : ¬ xs.length = 200) : wrS ss xs h a d = ss ∧ wrX ss xs h a d = xs ++ [⟨h, a, d⟩] ∧ wrC ss xs h a d = 0 := by simp [wrS, wrX, wrC, h1, h2, h3, h4]
theorem l01Own_len (ao bo : Option Addr) (ca cb : Nat) (ss : List ByteArray) (xs : List Wr) (n m : Nat) (w : World) (hn : n = ss.length) (hm' : m = xs.length) (hl : ss.length ≤ 1048576) (hm : xs.length ≤ 1048576) (h1 : Ss w ao ss) (h2 : Ios w bo xs) :
    Calls Tryz.prog 31 #[.agg #[.slice ao n ca, .slice bo m cb]] w fun e w' => ∃ po pa qo qa, e = .returned (.agg #[.slice po n pa, .slice qo m qa]) ∧ OwnD w' w.heap.size po n pa qo m qa ss xs ∧ Below w.heap.size w w' := by
  subst hn hm'
  exact l01Own_any ao bo ca cb ss xs w hl hm h1 h2

end Go.Proofs.YtefnapcegeojoaaGreatDoor

namespace Go.Proofs.YtefnapcegeojoaaGreatDoor
open Go.RowKit
set_option linter.unusedVariables false
set_option maxRecDepth 100000

theorem put_land {ss : List ByteArray} {xs : List Wr} {h : Int} (hl : xs.length ≤ 200) : (landF h false ss xs 200).1 = putW ss (ofH h xs) ∧ (landF h false ss xs 200).2.1 = dropF h xs := by
  have hc : (ofH h xs).length ≤ 200 := Nat.le_trans (List.length_filter_le _ _) hl
  obtain ⟨p1, p2⟩ := landF_put h ss xs 200
  have p1' : (landF h false ss xs 200).1 = putW ss ((ofH h xs).take 200) := p1
  have p2' : (landF h false ss xs 200).2.1 = remH h 200 xs := p2
  rw [List.take_of_length_le hc] at p1'
  rw [rem_all 200 xs hc] at p2'
  exact ⟨p1', p2'⟩
theorem rightX {ss : List ByteArray} {xs : List Wr} (hd : diskB ss xs = true) : ∀ x ∈ xs, x.data.size ≤ maxLen := fun x hx => Nat.le_trans (ioB_parts.1 ((diskB_parts.1 hd).2.2 x hx)).2.2 (by decide)
theorem l01Flush_put (ao bo : Option Addr) (ca cb : Nat) (ss : List ByteArray) (xs : List Wr) (h : Int) (n m : Nat) (S : List ByteArray) (X : List Wr) (w : World) (hn : ss.length = n) (hm : xs.length = m) (hS : putW ss (ofH h xs) = S) (hX : dropF h xs = X) (hd : diskB ss xs = true) (h1 : Ss w ao ss) (h2 : Ios w bo xs) :
    Calls Tryz.prog 52 #[.agg #[.slice ao n ca, .slice bo m cb], .int .i64 h] w fun e w' => ∃ po pa qo qa, e = .returned (.agg #[.slice po n pa, .slice qo X.length qa]) ∧ OwnD w' w.heap.size po n pa qo X.length qa S X ∧ Below w.heap.size w w' := by
  subst hn hm hS hX
  obtain ⟨l1, l2⟩ := diskB_len hd
  obtain ⟨e1, e2⟩ := put_land (ss := ss) (h := h) l2
  have k := l01Flush_any ao bo ca cb ss xs h 200 w rfl (by decide) (by omega) l2 (diskB_at hd) h1 h2
  rw [e1, e2] at k
  exact k

end Go.Proofs.YtefnapcegeojoaaGreatDoor

namespace Go.Proofs.YtefnapcegeojoaaGreatDoor
open Go.RowKit
set_option linter.unusedVariables false

theorem openB_in {t : ByteArray} {k : Int} : openB t k = true ↔ RecP t ∧ byteAt t 0 = k := by
  simp only [openB, Bool.and_eq_true, decide_eq_true_eq, recB_iff]
theorem read_nil (ss : List ByteArray) (o a : Int) : readV ss [] o a = ss.getD a.toNat ⟨#[]⟩ := readV_none (fun j hj => absurd hj (Nat.not_lt_zero _))
end Go.Proofs.YtefnapcegeojoaaGreatDoor

namespace Go.Proofs.YtefnapcegeojoaaGreatDoor
open Go.RowKit
set_option linter.unusedVariables false

theorem wi_end {w w3 : World} {v g k cap n pa : Nat} {po : Option Addr} {ss : List ByteArray} {xs' : List Wr} {x y : Value} (hS : OwnR w3 (w.heap.size + 2) 9 1 (.slice po n pa) n (strV ss)) (hI : OwnR w3 (w.heap.size + 2) 75 3 (.slice (some ⟨g, 0, none⟩) k cap) k (ioV xs')) (hv : VarD w3 v x y) (hb : Below w.heap.size w w3) (hvw : w.heap.size ≤ v) (a b c : Value) :
    OwnD (((w3.setCell ⟨v, 1, none⟩ a).setCell ⟨w.heap.size + 1, 0, none⟩ b).setCell ⟨w.heap.size + 1, 1, none⟩ c) w.heap.size po n pa (some ⟨g, 0, none⟩) k cap ss xs' ∧ Below w.heap.size w (((w3.setCell ⟨v, 1, none⟩ a).setCell ⟨w.heap.size + 1, 0, none⟩ b).setCell ⟨w.heap.size + 1, 1, none⟩ c) := by
  have hk : Keep (fun j => j = v) w3 (w3.setCell ⟨v, 1, none⟩ a) := Keep.setCell (S := fun j => j = v) (Keep.refl _ _) (p := ⟨v, 1, none⟩) rfl a
  have h1 : OwnD (w3.setCell ⟨v, 1, none⟩ a) (w.heap.size + 2) po n pa (some ⟨g, 0, none⟩) k cap ss xs' := ⟨hS.keep hk (fun j hj e => hS.other hv (by decide) (e ▸ hj)), hI.keep hk (fun j hj e => hI.other hv (by decide) (e ▸ hj))⟩
  exact copyD_end h1 (hb.setCell (p := ⟨v, 1, none⟩) hvw a) b c

set_option maxRecDepth 100000 in
set_option maxHeartbeats 800000 in
theorem writeSector_impl_range (ao bo : Option Addr) (ca cb : Nat) (ss : List ByteArray) (xs : List Wr) (h a : Int) (d : ByteArray) (w : World) (hz : d.size ≤ maxLen) (hl : ss.length ≤ maxLen) (hm : xs.length ≤ maxLen) (h1 : Ss w ao ss) (h2 : Ios w bo xs) (hlong : ¬ 65536 < d.size) (hask : askC ss xs h a = 0) (hbig : 80 < d.size) :
    Calls Tryz.prog 158 #[.agg #[.slice ao ss.length ca, .slice bo xs.length cb], .int .i64 h, .int .i64 a, .string d] w fun e w' => ∃ po pa qo qa, e = .returned (.tuple #[.agg #[.slice po (wrS ss xs h a d).length pa, .slice qo (wrX ss xs h a d).length qa], .int .i64 (wrC ss xs h a d)]) ∧ OwnD w' w.heap.size po (wrS ss xs h a d).length pa qo (wrX ss xs h a d).length qa (wrS ss xs h a d) (wrX ss xs h a d) ∧ Below w.heap.size w w' := by
  have HA := hide (Joins.below_alloc2 w (.cells #[.slice ao ss.length ca, .slice bo xs.length cb] 26) (.cells #[.slice none 0 0, .slice none 0 0] 26))
  have H1 := hide (h1.below (unhide HA))
  have H2 := hide (h2.below (unhide HA))
  have HV := hide ((VarD.new w (.slice ao ss.length ca) (.slice bo xs.length cb)).below (Joins.below_alloc1 _ (.cells #[.slice none 0 0, .slice none 0 0] 26)))
  have HR : Hid (VarD ((w.alloc (.cells #[.slice ao ss.length ca, .slice bo xs.length cb] 26)).alloc (.cells #[.slice none 0 0, .slice none 0 0] 26)) (w.heap.size + 1) (.slice none 0 0) (.slice none 0 0)) := hide (by have := VarD.new (w.alloc (.cells #[.slice ao ss.length ca, .slice bo xs.length cb] 26)) (.slice none 0 0) (.slice none 0 0); simp only [World.size_alloc] at this; exact this)
  have HS0 := hide h1
  have HX0 := hide h2
  have HL := hide hl
  have HM := hide hm
  clear h1 h2 hl hm
  unfold maxLen at hz
  have hb : (askC ss xs h a != 0) = false := by simp [hask]
  obtain ⟨hh, ha0, ha1⟩ := askC_eq hask
  obtain ⟨hlen, hlx⟩ := diskB_len (hostC_eq hh).1
  have HLS : Hid (ss.length ≤ 1048576) := hide (by omega)
  have HLX : Hid (xs.length ≤ 1048576) := hide (by omega)
  have HASK := hide hask
  clear hask hh hlen
  have HW := hide (wr_range (h := h) (a := a) (d := d) hlong (unhide HASK) hbig)
  go_enter Tryz.func158, Tryz.ntmps158
  go_wp2_with fail
  refine (placeFault_any _ _ _ _ ss xs h a _ (unhide HL) (unhide HM) (unhide H1) (unhide H2)).mono ?_
  rintro e w1 ⟨rfl, hb1⟩
  have HV1 := hide ((unhide HV).below hb1)
  have HR1 := hide ((unhide HR).below hb1)
  have HB1 := hide (fr (unhide HA) hb1)
  have HS1 := hide ((unhide H1).below hb1)
  have HX1 := hide ((unhide H2).below hb1)
  have HZ1 := hide hb1.size
  clear hb1
  obtain ⟨hv0, hv1⟩ := (unhide HV1).cells
  go_wp2_with fail
  refine (copyDisk_any _ _ _ _ ss xs _ (unhide HLS) (unhide HLX) (unhide HS1) (unhide HX1)).mono ?_
  rintro e w2 ⟨po, pa, qo, qa, rfl, ho2, hb2⟩
  have HO2 := hide (ho2.base (B' := w.heap.size + 2) (by have z1 := unhide HZ1; simp at z1; omega))
  have HR2 := hide ((unhide HR1).below hb2)
  have HB2 := hide (fr (unhide HB1) hb2)
  have hlt2 : w.heap.size + 1 < w2.heap.size := (unhide HR2).lt
  clear ho2 hb2 hv0 hv1
  obtain ⟨hr0, hr1⟩ := (unhide HR2).cells
  have hr2 := (unhide HR2).free 0
  have hr3 := (unhide HR2).free 1
  have HE := hide (copyD_end (w := w) (wL := w2) (unhide HO2) (unhide HB2) (.slice po ss.length pa) (.slice qo xs.length qa))
  have HE1 := hide ((unhide HE).1.below (Joins.below_alloc1 _ (.cells #[.slice po ss.length pa, .slice qo xs.length qa] 26)))
  have HE2 := hide (fr (unhide HE).2 (Joins.below_alloc1 _ (.cells #[.slice po ss.length pa, .slice qo xs.length qa] 26)))
  go_wp2
  obtain ⟨e1, e2, e3⟩ := unhide HW
  rw [e1, e2, e3]
  exact bodyPost_ret (v := .tuple #[.agg #[.slice po ss.length pa, .slice qo xs.length qa], .int .i64 4]) (by simp [results, Tryz.results158, go_sem, hr0, hr1, hlt2]) rfl ⟨po, pa, qo, qa, rfl, unhide HE1, unhide HE2⟩

set_option maxRecDepth 100000 in
set_option maxHeartbeats 800000 in
theorem writeSector_impl_full (ao bo : Option Addr) (ca cb : Nat) (ss : List ByteArray) (xs : List Wr) (h a : Int) (d : ByteArray) (w : World) (hz : d.size ≤ maxLen) (hl : ss.length ≤ maxLen) (hm : xs.length ≤ maxLen) (h1 : Ss w ao ss) (h2 : Ios w bo xs) (hlong : ¬ 65536 < d.size) (hask : askC ss xs h a = 0) (hbig : ¬ 80 < d.size) (hfull : xs.length = 200) :
    Calls Tryz.prog 158 #[.agg #[.slice ao ss.length ca, .slice bo xs.length cb], .int .i64 h, .int .i64 a, .string d] w fun e w' => ∃ po pa qo qa, e = .returned (.tuple #[.agg #[.slice po (wrS ss xs h a d).length pa, .slice qo (wrX ss xs h a d).length qa], .int .i64 (wrC ss xs h a d)]) ∧ OwnD w' w.heap.size po (wrS ss xs h a d).length pa qo (wrX ss xs h a d).length qa (wrS ss xs h a d) (wrX ss xs h a d) ∧ Below w.heap.size w w' := by
  have HA := hide (Joins.below_alloc2 w (.cells #[.slice ao ss.length ca, .slice bo xs.length cb] 26) (.cells #[.slice none 0 0, .slice none 0 0] 26))
  have H1 := hide (h1.below (unhide HA))
  have H2 := hide (h2.below (unhide HA))
  have HV := hide ((VarD.new w (.slice ao ss.length ca) (.slice bo xs.length cb)).below (Joins.below_alloc1 _ (.cells #[.slice none 0 0, .slice none 0 0] 26)))
  have HR : Hid (VarD ((w.alloc (.cells #[.slice ao ss.length ca, .slice bo xs.length cb] 26)).alloc (.cells #[.slice none 0 0, .slice none 0 0] 26)) (w.heap.size + 1) (.slice none 0 0) (.slice none 0 0)) := hide (by have := VarD.new (w.alloc (.cells #[.slice ao ss.length ca, .slice bo xs.length cb] 26)) (.slice none 0 0) (.slice none 0 0); simp only [World.size_alloc] at this; exact this)
  have HS0 := hide h1
  have HX0 := hide h2
  have HL := hide hl
  have HM := hide hm
  clear h1 h2 hl hm
  unfold maxLen at hz
  have hb : (askC ss xs h a != 0) = false := by simp [hask]
  obtain ⟨hh, ha0, ha1⟩ := askC_eq hask
  obtain ⟨hlen, hlx⟩ := diskB_len (hostC_eq hh).1
  have HLS : Hid (ss.length ≤ 1048576) := hide (by omega)
  have HLX : Hid (xs.length ≤ 1048576) := hide (by omega)
  have HASK := hide hask
  clear hask hh hlen
  have HW := hide (wr_full (h := h) (a := a) (d := d) hlong (unhide HASK) hbig hfull)
  have hge : 200 ≤ xs.length := by omega
  clear hfull
  go_enter Tryz.func158, Tryz.ntmps158
  go_wp2_with fail
  refine (placeFault_any _ _ _ _ ss xs h a _ (unhide HL) (unhide HM) (unhide H1) (unhide H2)).mono ?_
  rintro e w1 ⟨rfl, hb1⟩
  have HV1 := hide ((unhide HV).below hb1)
  have HR1 := hide ((unhide HR).below hb1)
  have HB1 := hide (fr (unhide HA) hb1)
  have HS1 := hide ((unhide H1).below hb1)
  have HX1 := hide ((unhide H2).below hb1)
  have HZ1 := hide hb1.size
  clear hb1
  obtain ⟨hv0, hv1⟩ := (unhide HV1).cells
  go_wp2_with fail
  refine (copyDisk_any _ _ _ _ ss xs _ (unhide HLS) (unhide HLX) (unhide HS1) (unhide HX1)).mono ?_
  rintro e w2 ⟨po, pa, qo, qa, rfl, ho2, hb2⟩
  have HO2 := hide (ho2.base (B' := w.heap.size + 2) (by have z1 := unhide HZ1; simp at z1; omega))
  have HR2 := hide ((unhide HR1).below hb2)
  have HB2 := hide (fr (unhide HB1) hb2)
  have hlt2 : w.heap.size + 1 < w2.heap.size := (unhide HR2).lt
  clear ho2 hb2 hv0 hv1
  obtain ⟨hr0, hr1⟩ := (unhide HR2).cells
  have hr2 := (unhide HR2).free 0
  have hr3 := (unhide HR2).free 1
  have HE := hide (copyD_end (w := w) (wL := w2) (unhide HO2) (unhide HB2) (.slice po ss.length pa) (.slice qo xs.length qa))
  have HE1 := hide ((unhide HE).1.below (Joins.below_alloc1 _ (.cells #[.slice po ss.length pa, .slice qo xs.length qa] 26)))
  have HE2 := hide (fr (unhide HE).2 (Joins.below_alloc1 _ (.cells #[.slice po ss.length pa, .slice qo xs.length qa] 26)))
  go_wp2
  obtain ⟨e1, e2, e3⟩ := unhide HW
  rw [e1, e2, e3]
  exact bodyPost_ret (v := .tuple #[.agg #[.slice po ss.length pa, .slice qo xs.length qa], .int .i64 7]) (by simp [results, Tryz.results158, go_sem, hr0, hr1, hlt2]) rfl ⟨po, pa, qo, qa, rfl, unhide HE1, unhide HE2⟩

set_option maxRecDepth 100000 in
set_option maxHeartbeats 800000 in
theorem writeSector_impl_ok (ao bo : Option Addr) (ca cb : Nat) (ss : List ByteArray) (xs : List Wr) (h a : Int) (d : ByteArray) (w : World) (hz : d.size ≤ maxLen) (hl : ss.length ≤ maxLen) (hm : xs.length ≤ maxLen) (h1 : Ss w ao ss) (h2 : Ios w bo xs) (hlong : ¬ 65536 < d.size) (hask : askC ss xs h a = 0) (hbig : ¬ 80 < d.size) (hfull : ¬ xs.length = 200) :
    Calls Tryz.prog 158 #[.agg #[.slice ao ss.length ca, .slice bo xs.length cb], .int .i64 h, .int .i64 a, .string d] w fun e w' => ∃ po pa qo qa, e = .returned (.tuple #[.agg #[.slice po (wrS ss xs h a d).length pa, .slice qo (wrX ss xs h a d).length qa], .int .i64 (wrC ss xs h a d)]) ∧ OwnD w' w.heap.size po (wrS ss xs h a d).length pa qo (wrX ss xs h a d).length qa (wrS ss xs h a d) (wrX ss xs h a d) ∧ Below w.heap.size w w' := by
  have HA := hide (Joins.below_alloc2 w (.cells #[.slice ao ss.length ca, .slice bo xs.length cb] 26) (.cells #[.slice none 0 0, .slice none 0 0] 26))
  have H1 := hide (h1.below (unhide HA))
  have H2 := hide (h2.below (unhide HA))
  have HV := hide ((VarD.new w (.slice ao ss.length ca) (.slice bo xs.length cb)).below (Joins.below_alloc1 _ (.cells #[.slice none 0 0, .slice none 0 0] 26)))
  have HR : Hid (VarD ((w.alloc (.cells #[.slice ao ss.length ca, .slice bo xs.length cb] 26)).alloc (.cells #[.slice none 0 0, .slice none 0 0] 26)) (w.heap.size + 1) (.slice none 0 0) (.slice none 0 0)) := hide (by have := VarD.new (w.alloc (.cells #[.slice ao ss.length ca, .slice bo xs.length cb] 26)) (.slice none 0 0) (.slice none 0 0); simp only [World.size_alloc] at this; exact this)
  have HS0 := hide h1
  have HX0 := hide h2
  have HL := hide hl
  have HM := hide hm
  clear h1 h2 hl hm
  unfold maxLen at hz
  have hb : (askC ss xs h a != 0) = false := by simp [hask]
  obtain ⟨hh, ha0, ha1⟩ := askC_eq hask
  obtain ⟨hlen, hlx⟩ := diskB_len (hostC_eq hh).1
  have HLS : Hid (ss.length ≤ 1048576) := hide (by omega)
  have HLX : Hid (xs.length ≤ 1048576) := hide (by omega)
  have HASK := hide hask
  clear hask hh hlen
  have HW := hide (wr_ok (h := h) (a := a) (d := d) hlong (unhide HASK) hbig hfull)
  have HN := hide (show xs.length + 1 = (xs ++ [(⟨h, a, d⟩ : Wr)]).length by simp)
  have hge : xs.length < 200 := by omega
  obtain ⟨j0, hj, hy0, hy1, hy2⟩ := info_parts infoW
  clear hfull
  go_enter Tryz.func158, Tryz.ntmps158
  go_wp2_with fail
  refine (placeFault_any _ _ _ _ ss xs h a _ (unhide HL) (unhide HM) (unhide H1) (unhide H2)).mono ?_
  rintro e w1 ⟨rfl, hb1⟩
  have HV1 := hide ((unhide HV).below hb1)
  have HR1 := hide ((unhide HR).below hb1)
  have HB1 := hide (fr (unhide HA) hb1)
  have HS1 := hide ((unhide H1).below hb1)
  have HX1 := hide ((unhide H2).below hb1)
  have HZ1 := hide hb1.size
  clear hb1
  obtain ⟨hv0, hv1⟩ := (unhide HV1).cells
  go_wp2_with fail
  refine (copyDisk_any _ _ _ _ ss xs _ (unhide HLS) (unhide HLX) (unhide HS1) (unhide HX1)).mono ?_
  rintro e w2 ⟨po, pa, qo, qa, rfl, ho2, hb2⟩
  have HO2 := hide (ho2.base (B' := w.heap.size + 2) (by have z1 := unhide HZ1; simp at z1; omega))
  have HR2 := hide ((unhide HR1).below hb2)
  have HB2 := hide (fr (unhide HB1) hb2)
  have hlt2 : w.heap.size + 1 < w2.heap.size := (unhide HR2).lt
  clear ho2 hb2 hv0 hv1
  obtain ⟨hr0, hr1⟩ := (unhide HR2).cells
  have hr2 := (unhide HR2).free 0
  have hr3 := (unhide HR2).free 1
  have HA2 := hide (Joins.below_alloc2 w2 (.cells #[.slice po ss.length pa, .slice qo xs.length qa] 26) (.cells #[.int .i64 h, .int .i64 a, .string d] 75))
  have HO3 := hide ((unhide HO2).below (unhide HA2))
  have HR3 := hide ((unhide HR2).below (unhide HA2))
  have HV3 := hide ((VarD.new w2 (.slice po ss.length pa) (.slice qo xs.length qa)).below (Joins.below_alloc1 _ (.cells #[.int .i64 h, .int .i64 a, .string d] 75)))
  have HB3 := hide (fr (unhide HB2) (unhide HA2))
  have HI3 : Hid (VarI ((w2.alloc (.cells #[.slice po ss.length pa, .slice qo xs.length qa] 26)).alloc (.cells #[.int .i64 h, .int .i64 a, .string d] 75)) (w2.heap.size + 1) ⟨h, a, d⟩) := hide (VarI.top (x := ⟨h, a, d⟩) (by simp))
  go_wp2_with (at_builtin; refine wpList_append_one rfl _ _ 24 rfl (w.heap.size + 2) 75 j0 (.agg #[.int .i64 0, .int .i64 0, .string ⟨#[]⟩]) 3 32 Tryz.underlying24 hj hy0 hy1 hy2 rfl (by omega) qo xs.length qa (ioV xs) rfl (unhide HO3).i (by simp; omega) ⟨w2.heap.size + 1, 0, none⟩ _ (wrV ⟨h, a, d⟩) rfl rfl (unhide HI3).news (wrV_one _) (by unfold maxLen; omega) (by omega) ?_; intro g cap w3 ho3 hk3; have HV4 := hide ((unhide HV3).keep hk3 ((unhide HO3).i.other (unhide HV3) (by decide))); have HR4 := hide ((unhide HR3).keep hk3 ((unhide HO3).i.other (unhide HR3) (by decide))); have HW4 := hide (wi_end (w := w) (w3 := w3) (v := w2.heap.size) (g := g) (k := xs.length + 1) (cap := cap) (xs' := xs ++ [⟨h, a, d⟩]) ((unhide HO3).s.keep hk3 (own_apart (unhide HO3).s (unhide HO3).i (by decide))) (.inr ⟨Nat.succ_pos _, by rw [ioV_snoc]; exact ho3⟩) (unhide HV4) ((unhide HB3).trans (hk3.below (B := w.heap.size) (unhide HB3).size (fun j hj => Nat.le_trans (show w.heap.size ≤ w.heap.size + 2 from by omega) ((unhide HO3).i.ge j hj).1))) (by omega) (.slice (some ⟨g, 0, none⟩) (xs.length + 1) cap) (.slice po ss.length pa) (.slice (some ⟨g, 0, none⟩) (xs.length + 1) cap)); obtain ⟨q0, q1⟩ := (unhide HV4).cells; have q2 := (unhide HV4).free 1; obtain ⟨q3, q4⟩ := (unhide HR4).cells; have q5 := (unhide HR4).free 0; have q6 := (unhide HR4).free 1; clear ho3 hk3)
  obtain ⟨e1, e2, e3⟩ := unhide HW
  rw [e1, e2, e3, ← unhide HN]
  exact bodyPost_ret (v := .tuple #[.agg #[.slice po ss.length pa, .slice (some ⟨g, 0, none⟩) (xs.length + 1) cap], .int .i64 0]) (by simp [results, Tryz.results158, go_sem, q3, q4]) rfl ⟨po, pa, _, _, rfl, (unhide HW4).1, (unhide HW4).2⟩

set_option maxRecDepth 100000 in
set_option maxHeartbeats 1600000 in
theorem writeSector_impl (ao bo : Option Addr) (ca cb : Nat) (ss : List ByteArray) (xs : List Wr) (h a : Int) (d : ByteArray) (w : World) (hz : d.size ≤ maxLen) (hl : ss.length ≤ maxLen) (hm : xs.length ≤ maxLen) (h1 : Ss w ao ss) (h2 : Ios w bo xs) :
    Calls Tryz.prog 158 #[.agg #[.slice ao ss.length ca, .slice bo xs.length cb], .int .i64 h, .int .i64 a, .string d] w fun e w' => ∃ po pa qo qa, e = .returned (.tuple #[.agg #[.slice po (wrS ss xs h a d).length pa, .slice qo (wrX ss xs h a d).length qa], .int .i64 (wrC ss xs h a d)]) ∧ OwnD w' w.heap.size po (wrS ss xs h a d).length pa qo (wrX ss xs h a d).length qa (wrS ss xs h a d) (wrX ss xs h a d) ∧ Below w.heap.size w w' := by
  have HA := hide (Joins.below_alloc2 w (.cells #[.slice ao ss.length ca, .slice bo xs.length cb] 26) (.cells #[.slice none 0 0, .slice none 0 0] 26))
  have H1 := hide (h1.below (unhide HA))
  have H2 := hide (h2.below (unhide HA))
  have HV := hide ((VarD.new w (.slice ao ss.length ca) (.slice bo xs.length cb)).below (Joins.below_alloc1 _ (.cells #[.slice none 0 0, .slice none 0 0] 26)))
  have HR : Hid (VarD ((w.alloc (.cells #[.slice ao ss.length ca, .slice bo xs.length cb] 26)).alloc (.cells #[.slice none 0 0, .slice none 0 0] 26)) (w.heap.size + 1) (.slice none 0 0) (.slice none 0 0)) := hide (by have := VarD.new (w.alloc (.cells #[.slice ao ss.length ca, .slice bo xs.length cb] 26)) (.slice none 0 0) (.slice none 0 0); simp only [World.size_alloc] at this; exact this)
  have HS0 := hide h1
  have HX0 := hide h2
  have HL := hide hl
  have HM := hide hm
  clear h1 h2 hl hm
  unfold maxLen at hz
  by_cases hlong : 65536 < d.size
  · obtain ⟨e1, e2, e3⟩ := wr_long (ss := ss) (xs := xs) (h := h) (a := a) hlong
    rw [e1, e2, e3]
    clear e1 e2 e3
    go_enter Tryz.func158, Tryz.ntmps158
    go_wp2
    exact bodyPost_ret (v := .tuple #[.agg #[.slice none 0 0, .slice none 0 0], .int .i64 2]) (by simp [results, Tryz.results158, go_sem]) rfl ⟨none, 0, none, 0, rfl, zeroD_own, unhide HA⟩
  by_cases hask : askC ss xs h a = 0
  · by_cases hbig : 80 < d.size
    · exact writeSector_impl_range ao bo ca cb ss xs h a d w (by unfold maxLen; exact hz) (unhide HL) (unhide HM) (unhide HS0) (unhide HX0) hlong hask hbig
    · by_cases hfull : xs.length = 200
      · exact writeSector_impl_full ao bo ca cb ss xs h a d w (by unfold maxLen; exact hz) (unhide HL) (unhide HM) (unhide HS0) (unhide HX0) hlong hask hbig hfull
      · exact writeSector_impl_ok ao bo ca cb ss xs h a d w (by unfold maxLen; exact hz) (unhide HL) (unhide HM) (unhide HS0) (unhide HX0) hlong hask hbig hfull
  · have hb : (askC ss xs h a != 0) = true := by simp [hask]
    obtain ⟨e1, e2, e3⟩ := wr_ask (ss := ss) (xs := xs) (h := h) (a := a) hlong hask
    rw [e1, e2, e3]
    clear e1 e2 e3 hask
    go_enter Tryz.func158, Tryz.ntmps158
    go_wp2_with fail
    refine (placeFault_any _ _ _ _ ss xs h a _ (unhide HL) (unhide HM) (unhide H1) (unhide H2)).mono ?_
    rintro e w1 ⟨rfl, hb1⟩
    have HR1 := hide ((unhide HR).below hb1)
    have HB1 := hide (fr (unhide HA) hb1)
    clear hb1
    obtain ⟨hr0, hr1⟩ := (unhide HR1).cells
    have hr2 := (unhide HR1).free 0
    have hr3 := (unhide HR1).free 1
    have HE := hide (zero_end (w := w) (wL := w1) (unhide HB1) (.slice none 0 0) (.slice none 0 0))
    go_wp2
    exact bodyPost_ret (v := .tuple #[.agg #[.slice none 0 0, .slice none 0 0], .int .i64 (askC ss xs h a)]) (by simp [results, Tryz.results158, go_sem, hr0, hr1]) rfl ⟨none, 0, none, 0, rfl, zeroD_own, unhide HE⟩

end Go.Proofs.YtefnapcegeojoaaGreatDoor

namespace Go.Proofs.YtefnapcegeojoaaGreatDoor
open Go.RowKit
set_option linter.unusedVariables false
set_option maxRecDepth 100000

theorem codes_right {ss : List ByteArray} {xs : List Wr} {h a : Int} (hd : diskB ss xs = true) (h0 : 0 ≤ h) (h3 : h ≤ 3) (a0 : 0 ≤ a) (a1 : a ≤ 63) : hostC ss xs h = 0 ∧ askC ss xs h a = 0 := by
  have e := hostC_ok hd (show inB h 0 3 = true by simp [inB]; omega)
  exact ⟨e, askC_ok e (by simp [inB]; omega)⟩
theorem right_sz {ss : List ByteArray} {xs : List Wr} (hd : diskB ss xs = true) : (ss.length ≤ maxLen ∧ xs.length ≤ maxLen) ∧ (∀ s ∈ ss, s.size ≤ maxLen) ∧ ∀ x ∈ xs, x.data.size ≤ maxLen := by
  have hl := diskB_len hd
  refine ⟨by unfold maxLen; omega, fun s hs => Nat.le_trans ((diskB_parts.1 hd).1.2 s hs) (by decide), fun x hx => Nat.le_trans (ioB_parts.1 ((diskB_parts.1 hd).2.2 x hx)).2.2 (by decide)⟩

theorem write_own (ao bo : Option Addr) (ca cb : Nat) (ss : List ByteArray) (xs : List Wr) (h a : Int) (t : ByteArray) (X : List Wr) (w : World) (hX : xs ++ [⟨h, a, t⟩] = X) (hd : diskB ss xs = true) (hl : xs.length < 200) (ht : t.size ≤ 80) (h0 : 0 ≤ h) (h3 : h ≤ 3) (a0 : 0 ≤ a) (a1 : a ≤ 63) (h1 : Ss w ao ss) (h2 : Ios w bo xs) :
    Calls Tryz.prog 158 #[.agg #[.slice ao ss.length ca, .slice bo xs.length cb], .int .i64 h, .int .i64 a, .string t] w fun e w' => ∃ po pa qo qa, e = .returned (.tuple #[.agg #[.slice po ss.length pa, .slice qo X.length qa], .int .i64 0]) ∧ OwnD w' w.heap.size po ss.length pa qo X.length qa ss X ∧ Below w.heap.size w w' := by
  subst hX
  obtain ⟨⟨l1, l2⟩, _⟩ := right_sz hd
  obtain ⟨_, ha⟩ := codes_right (h := h) (a := a) hd h0 h3 a0 a1
  obtain ⟨e1, e2, e3⟩ := wr_ok (ss := ss) (xs := xs) (h := h) (a := a) (d := t) (by omega) ha (by omega) (by omega)
  refine (writeSector_impl ao bo ca cb ss xs h a t w (by unfold maxLen; omega) l1 l2 h1 h2).mono ?_
  rintro e w' ⟨po, pa, qo, qa, he, ho, hb⟩
  rw [e1, e2] at ho
  rw [e1, e2, e3] at he
  exact ⟨po, pa, qo, qa, he, ho, hb⟩
theorem flush_put {h : Int} {ss : List ByteArray} {xs : List Wr} (hd : diskB ss xs = true) (ha : hostC ss xs h = 0) : flS ss xs h = putW ss (ofH h xs) ∧ flX ss xs h = dropF h xs := by
  obtain ⟨e1, e2⟩ := fl_ok ha
  have hc : (ofH h xs).length ≤ 200 := Nat.le_trans (List.length_filter_le _ _) (diskB_len hd).2
  obtain ⟨p1, p2⟩ := landF_put h ss xs 200
  have p1' : (landF h false ss xs 200).1 = putW ss ((ofH h xs).take 200) := p1
  have p2' : (landF h false ss xs 200).2.1 = remH h 200 xs := p2
  rw [List.take_of_length_le hc] at p1'
  rw [rem_all 200 xs hc] at p2'
  exact ⟨e1.trans p1', e2.trans p2'⟩
theorem flush_own (ao bo : Option Addr) (ca cb : Nat) (ss : List ByteArray) (xs : List Wr) (h : Int) (S : List ByteArray) (X : List Wr) (w : World) (hS : putW ss (ofH h xs) = S) (hX : dropF h xs = X) (hd : diskB ss xs = true) (h0 : 0 ≤ h) (h3 : h ≤ 3) (h1 : Ss w ao ss) (h2 : Ios w bo xs) :
    Calls Tryz.prog 159 #[.agg #[.slice ao ss.length ca, .slice bo xs.length cb], .int .i64 h] w fun e w' => ∃ po pa qo qa, e = .returned (.tuple #[.agg #[.slice po S.length pa, .slice qo X.length qa], .int .i64 0]) ∧ OwnD w' w.heap.size po S.length pa qo X.length qa S X ∧ Below w.heap.size w w' := by
  subst hS hX
  obtain ⟨⟨l1, l2⟩, _⟩ := right_sz hd
  obtain ⟨ha, _⟩ := codes_right (h := h) (a := 0) hd h0 h3 (by omega) (by omega)
  obtain ⟨e1, e2⟩ := flush_put hd ha
  refine (flush_impl ao bo ca cb ss xs h w l1 l2 h1 h2).mono ?_
  rintro e w' ⟨po, pa, qo, qa, he, ho, hb⟩
  rw [e1, e2] at ho
  rw [e1, e2, ha] at he
  exact ⟨po, pa, qo, qa, he, ho, hb⟩

set_option maxHeartbeats 1600000 in
theorem writeSure_ok (ao bo : Option Addr) (ca cb : Nat) (ss : List ByteArray) (xs : List Wr) (h a : Int) (t : ByteArray) (S : List ByteArray) (X : List Wr) (w : World) (hS : putW ss (ofH h (xs ++ [⟨h, a, t⟩])) = S) (hX : dropF h (xs ++ [⟨h, a, t⟩]) = X) (hd : diskB ss xs = true) (hl : xs.length < 200) (ht : t.size ≤ 80) (h0 : 0 ≤ h) (h3 : h ≤ 3) (a0 : 0 ≤ a) (a1 : a ≤ 63) (h1 : Ss w ao ss) (h2 : Ios w bo xs) :
    Calls Tryz.prog 142 #[.agg #[.slice ao ss.length ca, .slice bo xs.length cb], .int .i64 h, .int .i64 a, .string t] w fun e w' => ∃ po pa qo qa, e = .returned (.tuple #[.agg #[.slice po S.length pa, .slice qo X.length qa], .int .i64 0]) ∧ OwnD w' w.heap.size po S.length pa qo X.length qa S X ∧ Below w.heap.size w w' := by
  have HA := hide (Joins.below_alloc2 w (.cells #[.slice ao ss.length ca, .slice bo xs.length cb] 26) (.cells #[.slice none 0 0, .slice none 0 0] 26))
  have H1 := hide (h1.below (unhide HA))
  have H2 := hide (h2.below (unhide HA))
  have HR : Hid (VarD ((w.alloc (.cells #[.slice ao ss.length ca, .slice bo xs.length cb] 26)).alloc (.cells #[.slice none 0 0, .slice none 0 0] 26)) (w.heap.size + 1) (.slice none 0 0) (.slice none 0 0)) := hide (by have := VarD.new (w.alloc (.cells #[.slice ao ss.length ca, .slice bo xs.length cb] 26)) (.slice none 0 0) (.slice none 0 0); simp only [World.size_alloc] at this; exact this)
  obtain ⟨Y, HY⟩ : ∃ Y, Hid (xs ++ [⟨h, a, t⟩] = Y) := ⟨_, hide rfl⟩
  have HYR : Hid (diskB ss Y = true) := hide (by rw [← unhide HY]; exact diskB_snoc hd hl (x := ⟨h, a, t⟩) (ioB_parts.2 ⟨⟨h0, h3⟩, ⟨a0, a1⟩, ht⟩))
  have HYS := hide (right_sz (unhide HYR)).2.1
  have HYX := hide (right_sz (unhide HYR)).2.2
  have HS : Hid (putW ss (ofH h Y) = S) := hide (by rw [← unhide HY]; exact hS)
  have HX : Hid (dropF h Y = X) := hide (by rw [← unhide HY]; exact hX)
  have HD := hide hd
  have HL := hide hl
  have HT := hide ht
  clear h1 h2 hS hX hd hl ht
  go_enter Tryz.func142, Tryz.ntmps142
  go_wp2_with fail
  refine (write_own _ _ _ _ ss xs h a t Y _ (unhide HY) (unhide HD) (unhide HL) (unhide HT) h0 h3 a0 a1 (unhide H1) (unhide H2)).mono ?_
  rintro e w1 ⟨po, pa, qo, qa, rfl, ho1, hb1⟩
  have HA1 := hide (Joins.below_alloc1 w1 (.cells #[.slice po ss.length pa, .slice qo Y.length qa] 26))
  have HO1 := hide (ho1.below (unhide HA1))
  have HB1 := hide (fr (fr (unhide HA) hb1) (unhide HA1))
  have HR1 := hide (((unhide HR).below hb1).below (unhide HA1))
  clear ho1 hb1
  go_wp2_with fail
  refine (flush_own _ _ _ _ ss Y h S X _ (unhide HS) (unhide HX) (unhide HYR) h0 h3 ((unhide HO1).ss (unhide HYS)) ((unhide HO1).ios (unhide HYX))).mono ?_
  rintro e w2 ⟨po2, pa2, qo2, qa2, rfl, ho2, hb2⟩
  have HB2 := hide (fr (unhide HB1) hb2)
  have HR2 := hide ((unhide HR1).below hb2)
  have z : w.heap.size + 1 < (w1.alloc (.cells #[.slice po ss.length pa, .slice qo Y.length qa] 26)).heap.size := (unhide HR1).lt
  have HO2 := hide ho2
  clear ho2 hb2
  obtain ⟨hr0, hr1⟩ := (unhide HR2).cells
  have hr2 := (unhide HR2).free 0
  have hr3 := (unhide HR2).free 1
  have HE := hide (show OwnD ((w2.setCell ⟨w.heap.size + 1, 0, none⟩ (.slice po2 S.length pa2)).setCell ⟨w.heap.size + 1, 1, none⟩ (.slice qo2 X.length qa2)) w.heap.size po2 S.length pa2 qo2 X.length qa2 S X ∧ Below w.heap.size w ((w2.setCell ⟨w.heap.size + 1, 0, none⟩ (.slice po2 S.length pa2)).setCell ⟨w.heap.size + 1, 1, none⟩ (.slice qo2 X.length qa2)) from
    ⟨(((unhide HO2).setCell (a := ⟨w.heap.size + 1, 0, none⟩) z _).setCell (a := ⟨w.heap.size + 1, 1, none⟩) z _).base (by omega), ((unhide HB2).setCell (p := ⟨w.heap.size + 1, 0, none⟩) (Nat.le_succ _) _).setCell (p := ⟨w.heap.size + 1, 1, none⟩) (Nat.le_succ _) _⟩)
  clear z
  go_wp2
  exact bodyPost_ret (v := .tuple #[.agg #[.slice po2 S.length pa2, .slice qo2 X.length qa2], .int .i64 0]) (by simp [results, Tryz.results142, go_sem, hr0, hr1]) rfl ⟨po2, pa2, qo2, qa2, rfl, (unhide HE).1, (unhide HE).2⟩

end Go.Proofs.YtefnapcegeojoaaGreatDoor

namespace Go.Proofs.YtefnapcegeojoaaGreatDoor
set_option linter.unusedVariables false

theorem ld_enc {x : Ld} (hx : ldB x = true) : ldD (encL x) = true ∧ ldK (encL x) = x := by
  obtain ⟨h1, h2, h3⟩ := ldB_lo hx
  have ha : allB [x.ver, x.own + 1, x.gen] = true := by simp [allB, numB, inB]; omega
  have ho : openB (encL x) 6 = true := openB_in.2 ⟨rec_seal ⟨by omega, by omega⟩ ha (by simp), seal_kind ⟨by omega, by omega⟩ (by simp)⟩
  have hl : ldL (encL x) = [x.ver, x.own + 1, x.gen] := by rw [ldL, openL_yes ho, encL, body_seal, un_pack ha]
  have e : (⟨x.ver, x.own + 1 - 1, x.gen⟩ : Ld) = x := by cases x; simp
  have hb : ldD (encL x) = true := by rw [ldD_at ho hl, e]; exact hx
  exact ⟨hb, by rw [ld_yes hb hl, e]⟩
theorem wX_nil (h a : Int) (t : ByteArray) : wX [] h a t = [] := by simp [wX, dropF]
theorem wS_nil (ss : List ByteArray) (h a : Int) (t : ByteArray) : wS ss [] h a t = ss.set a.toNat t := by simp [wS, ofH, putW]
theorem lead_read {ss : List ByteArray} {x : Ld} (h k : Int) (hl : ss.length = 64) (hx : ldB x = true) : ldOf (wS ss [] h 0 (encL x)) [] k = x := by
  rw [ldOf, read_nil, wS_nil]
  have : (ss.set (0 : Int).toNat (encL x)).getD (0 : Int).toNat ⟨#[]⟩ = encL x := by simp [hl]
  rw [this]
  exact (ld_enc hx).2
theorem step_nil {s : Est} (h : s.xs = []) : (elStep s).xs = [] := by
  unfold elStep
  split
  · show wX s.xs _ _ _ = []
    rw [h]; exact wX_nil _ _ _
  · exact h
theorem run_nil : ∀ (n : Nat) (s : Est), s.xs = [] → (elRun n s).xs = []
  | 0, _, h => h
  | n + 1, s, h => by
    rw [elRun]
    split
    · exact run_nil n _ (step_nil h)
    · exact h
theorem le_nil {ss : List ByteArray} {h : Int} (hd : diskB ss [] = true) (h0 : 0 ≤ h) (h3 : h ≤ 3) : leC ss [] h = 0 := leC_ok (codes_right (a := 0) hd h0 h3 (by omega) (by omega)).1 (by simp)
theorem el_plain {ss : List ByteArray} {h o g : Int} {R : Ans} (hR : elA ss [] h o g = R) (hd : diskB ss [] = true) (h0 : 0 ≤ h) (h3 : h ≤ 3) (e1 : (inB o 0 3 && inB g 1 1000000) = true) :
    (R.c = 0 ∨ R.c = 6 ∨ R.c = 19) ∧ R.xs = [] ∧ diskB R.ss [] = true ∧ (R.c = 0 → R.l.ver = (ldOf ss [] h).ver + 1 ∧ ldB R.l = true ∧ (0 ≤ R.l.own ∧ R.l.own ≤ 3) ∧ 1 ≤ R.l.gen ∧ ∀ k, ldOf R.ss [] k = R.l) := by
  subst hR
  have e := le_nil hd h0 h3
  cases e2 : elMany ss [] h with
  | true =>
    rw [elA_many e e1 e2]
    exact ⟨.inr (.inl rfl), rfl, hd, fun k => absurd k (show ¬ (6 : Int) = 0 by decide)⟩
  | false =>
    rw [elA_end e e1 e2]
    have k' : ElOK h (elEnd (elFrom ss [] h o g)) := elRun_ok 13 _ (elFrom_ok e e1 e2)
    have kn : (elEnd (elFrom ss [] h o g)).xs = [] := run_nil 13 _ rfl
    revert k' kn
    generalize elEnd (elFrom ss [] h o g) = E
    intro k' kn
    have kd := k'.d
    have kl := k'.l
    rw [kn] at kd kl
    unfold elLast
    split
    · rename_i hq
      have hv := (px_parts k'.p).2.2.2.2.1
      obtain ⟨q1, q2⟩ := ldB_iff.1 hq.2
      have q3 : (leadOf ((ldOf ss [] h).ver + 1) E.p.value).own = E.p.value % 1024 := rfl
      have hw : diskB (wS E.ss [] h 0 (encL (leadOf ((ldOf ss [] h).ver + 1) E.p.value))) (wX [] h 0 (encL (leadOf ((ldOf ss [] h).ver + 1) E.p.value))) = true := w_right kd kl h0 h3 (by decide) (by decide) (by rw [encL_size]; decide)
      rw [wX_nil] at hw
      refine ⟨.inl rfl, ?_, ?_, fun _ => ⟨rfl, hq.2, ?_, ?_, fun k => ?_⟩⟩
      · show wX E.xs h 0 _ = []
        rw [kn]; exact wX_nil _ _ _
      · show diskB (wS E.ss E.xs h 0 _) [] = true
        rw [kn]; exact hw
      · show 0 ≤ (leadOf ((ldOf ss [] h).ver + 1) E.p.value).own ∧ (leadOf ((ldOf ss [] h).ver + 1) E.p.value).own ≤ 3
        omega
      · show 1 ≤ (leadOf ((ldOf ss [] h).ver + 1) E.p.value).gen
        omega
      · show ldOf (wS E.ss E.xs h 0 _) [] k = _
        rw [kn]
        exact lead_read h k (diskB_len kd).1 hq.2
    · exact ⟨.inr (.inr rfl), kn, kd, fun k => absurd k (show ¬ (19 : Int) = 0 by decide)⟩
theorem hl_yes {ss : List ByteArray} {L : Ld} {h : Int} (hd : diskB ss [] = true) (h0 : 0 ≤ h) (h3 : h ≤ 3) (hL : ldOf ss [] h = L) (ho : L.own = h) : hlB ss [] h L.gen = true ∧ hostC ss [] h = 0 := by
  have e := (codes_right (xs := []) (a := 0) hd h0 h3 (by omega) (by omega)).1
  exact ⟨by simp [hlB, e, hL, ho], e⟩
theorem hl_no {ss : List ByteArray} {L : Ld} {h g : Int} (hd : diskB ss [] = true) (h0 : 0 ≤ h) (h3 : h ≤ 3) (hL : ldOf ss [] h = L) (ho : L.own ≠ h) : hlB ss [] h g = false ∧ hostC ss [] h = 0 := by
  have e := (codes_right (xs := []) (a := 0) hd h0 h3 (by omega) (by omega)).1
  exact ⟨by simp [hlB, e, hL, ho], e⟩
end Go.Proofs.YtefnapcegeojoaaGreatDoor

namespace Go.Proofs.YtefnapcegeojoaaGreatDoor
open Go.RowKit
set_option linter.unusedVariables false
set_option maxRecDepth 100000

theorem rightS {ss : List ByteArray} {xs : List Wr} (hd : diskB ss xs = true) : ∀ s ∈ ss, s.size ≤ maxLen := fun s hs => Nat.le_trans ((diskB_parts.1 hd).1.2 s hs) (by decide)
def set5 (W : World) (B1 B2 : Nat) (a b x y z : Value) : World := ((((W.setCell ⟨B1, 0, none⟩ a).setCell ⟨B1, 1, none⟩ b).setCell ⟨B2, 0, none⟩ x).setCell ⟨B2, 1, none⟩ y).setCell ⟨B2, 2, none⟩ z
theorem below5 {w W : World} {B B1 B2 : Nat} (h : Below B w W) (h1 : B ≤ B1) (h2 : B ≤ B2) (a b x y z : Value) : Below B w (set5 W B1 B2 a b x y z) :=
  ((((h.setCell (p := ⟨B1, 0, none⟩) h1 a).setCell (p := ⟨B1, 1, none⟩) h1 b).setCell (p := ⟨B2, 0, none⟩) h2 x).setCell (p := ⟨B2, 1, none⟩) h2 y).setCell (p := ⟨B2, 2, none⟩) h2 z
end Go.Proofs.YtefnapcegeojoaaGreatDoor

namespace Go.Proofs.YtefnapcegeojoaaGreatDoor
open Go.RowKit
set_option linter.unusedVariables false
set_option maxRecDepth 100000

def VarS (w : World) (x : Nat) (p : Pxs) (b s d : Value) (L : Ld) : Prop := w.heap[x]? = some (.cells #[.int .i64 p.host, .int .i64 p.ver, .int .i64 p.phase, .int .i64 p.ballot, .int .i64 p.value, .int .i64 p.next, .int .i64 p.best, .int .i64 p.bestBal, b, s, d, .int .i64 L.ver, .int .i64 L.own, .int .i64 L.gen] 68 (0, 0))
theorem VarS.lt {w : World} {x : Nat} {p : Pxs} {b s d : Value} {L : Ld} (k : VarS w x p b s d L) : x < w.heap.size := (Array.getElem?_eq_some_iff.1 k).1
theorem VarS.px {w : World} {x : Nat} {p : Pxs} {b s d : Value} {L : Ld} (k : VarS w x p b s d L) : w.cell? ⟨x, 0, none⟩ = some (.int .i64 p.host) ∧ w.cell? ⟨x, 1, none⟩ = some (.int .i64 p.ver) ∧ w.cell? ⟨x, 2, none⟩ = some (.int .i64 p.phase) ∧ w.cell? ⟨x, 3, none⟩ = some (.int .i64 p.ballot) ∧ w.cell? ⟨x, 4, none⟩ = some (.int .i64 p.value) ∧ w.cell? ⟨x, 5, none⟩ = some (.int .i64 p.next) ∧ w.cell? ⟨x, 6, none⟩ = some (.int .i64 p.best) ∧ w.cell? ⟨x, 7, none⟩ = some (.int .i64 p.bestBal) :=
  ⟨by rw [Joins.cell_of_block k]; rfl, by rw [Joins.cell_of_block k]; rfl, by rw [Joins.cell_of_block k]; rfl, by rw [Joins.cell_of_block k]; rfl, by rw [Joins.cell_of_block k]; rfl, by rw [Joins.cell_of_block k]; rfl, by rw [Joins.cell_of_block k]; rfl, by rw [Joins.cell_of_block k]; rfl⟩
theorem VarS.rest {w : World} {x : Nat} {p : Pxs} {b s d : Value} {L : Ld} (k : VarS w x p b s d L) : w.cell? ⟨x, 8, none⟩ = some b ∧ w.cell? ⟨x, 9, none⟩ = some s ∧ w.cell? ⟨x, 10, none⟩ = some d ∧ w.cell? ⟨x, 11, none⟩ = some (.int .i64 L.ver) ∧ w.cell? ⟨x, 12, none⟩ = some (.int .i64 L.own) ∧ w.cell? ⟨x, 13, none⟩ = some (.int .i64 L.gen) :=
  ⟨by rw [Joins.cell_of_block k]; rfl, by rw [Joins.cell_of_block k]; rfl, by rw [Joins.cell_of_block k]; rfl, by rw [Joins.cell_of_block k]; rfl, by rw [Joins.cell_of_block k]; rfl, by rw [Joins.cell_of_block k]; rfl⟩
theorem VarS.free {w : World} {x : Nat} {p : Pxs} {b s d : Value} {L : Ld} (k : VarS w x p b s d L) (i : Nat) : w.frozen? ⟨x, i, none⟩ = false := Joins.unfrozen_of_block k i
theorem VarS.below {w w' : World} {x : Nat} {p : Pxs} {b s d : Value} {L : Ld} (k : VarS w x p b s d L) (hb : Below w.heap.size w w') : VarS w' x p b s d L := by
  unfold VarS; rw [hb.block x k.lt]; exact k
theorem VarS.new (w : World) (p : Pxs) (b s d : Value) (L : Ld) : VarS (w.alloc (.cells #[.int .i64 p.host, .int .i64 p.ver, .int .i64 p.phase, .int .i64 p.ballot, .int .i64 p.value, .int .i64 p.next, .int .i64 p.best, .int .i64 p.bestBal, b, s, d, .int .i64 L.ver, .int .i64 L.own, .int .i64 L.gen] 68)) w.heap.size p b s d L := heap_alloc_new w _
abbrev set8 (w : World) (x : Nat) (q : Pxs) : World := (((((((w.setCell ⟨x, 0, none⟩ (.int .i64 q.host)).setCell ⟨x, 1, none⟩ (.int .i64 q.ver)).setCell ⟨x, 2, none⟩ (.int .i64 q.phase)).setCell ⟨x, 3, none⟩ (.int .i64 q.ballot)).setCell ⟨x, 4, none⟩ (.int .i64 q.value)).setCell ⟨x, 5, none⟩ (.int .i64 q.next)).setCell ⟨x, 6, none⟩ (.int .i64 q.best)).setCell ⟨x, 7, none⟩ (.int .i64 q.bestBal)
theorem VarS.set0 {w : World} {x : Nat} {p : Pxs} {b s d : Value} {L : Ld} (k : VarS w x p b s d L) (n : Int) : VarS (w.setCell ⟨x, 0, none⟩ (.int .i64 n)) x { p with host := n } b s d L := set_heap (i := 0) k _
theorem VarS.set1 {w : World} {x : Nat} {p : Pxs} {b s d : Value} {L : Ld} (k : VarS w x p b s d L) (n : Int) : VarS (w.setCell ⟨x, 1, none⟩ (.int .i64 n)) x { p with ver := n } b s d L := set_heap (i := 1) k _
theorem VarS.set2 {w : World} {x : Nat} {p : Pxs} {b s d : Value} {L : Ld} (k : VarS w x p b s d L) (n : Int) : VarS (w.setCell ⟨x, 2, none⟩ (.int .i64 n)) x { p with phase := n } b s d L := set_heap (i := 2) k _
theorem VarS.set3 {w : World} {x : Nat} {p : Pxs} {b s d : Value} {L : Ld} (k : VarS w x p b s d L) (n : Int) : VarS (w.setCell ⟨x, 3, none⟩ (.int .i64 n)) x { p with ballot := n } b s d L := set_heap (i := 3) k _
theorem VarS.set4 {w : World} {x : Nat} {p : Pxs} {b s d : Value} {L : Ld} (k : VarS w x p b s d L) (n : Int) : VarS (w.setCell ⟨x, 4, none⟩ (.int .i64 n)) x { p with value := n } b s d L := set_heap (i := 4) k _
theorem VarS.set5 {w : World} {x : Nat} {p : Pxs} {b s d : Value} {L : Ld} (k : VarS w x p b s d L) (n : Int) : VarS (w.setCell ⟨x, 5, none⟩ (.int .i64 n)) x { p with next := n } b s d L := set_heap (i := 5) k _
theorem VarS.set6 {w : World} {x : Nat} {p : Pxs} {b s d : Value} {L : Ld} (k : VarS w x p b s d L) (n : Int) : VarS (w.setCell ⟨x, 6, none⟩ (.int .i64 n)) x { p with best := n } b s d L := set_heap (i := 6) k _
theorem VarS.set7 {w : World} {x : Nat} {p : Pxs} {b s d : Value} {L : Ld} (k : VarS w x p b s d L) (n : Int) : VarS (w.setCell ⟨x, 7, none⟩ (.int .i64 n)) x { p with bestBal := n } b s d L := set_heap (i := 7) k _
theorem VarS.put {w : World} {x : Nat} {p : Pxs} {b s d : Value} {L : Ld} (k : VarS w x p b s d L) (q : Pxs) : VarS (set8 w x q) x q b s d L := (((((((k.set0 q.host).set1 q.ver).set2 q.phase).set3 q.ballot).set4 q.value).set5 q.next).set6 q.best).set7 q.bestBal
theorem VarS.row {w : World} {x : Nat} {p : Pxs} {b s d : Value} {L : Ld} (k : VarS w x p b s d L) (b' : Value) : VarS (w.setCell ⟨x, 8, none⟩ b') x p b' s d L := set_heap (i := 8) k b'
theorem VarS.disk {w : World} {x : Nat} {p : Pxs} {b s d : Value} {L : Ld} (k : VarS w x p b s d L) (s' d' : Value) : VarS ((w.setCell ⟨x, 9, none⟩ s').setCell ⟨x, 10, none⟩ d') x p b s' d' L := set_heap (i := 10) (set_heap (i := 9) k s') d'
theorem VarS.lead {w : World} {x : Nat} {p : Pxs} {b s d : Value} {L : Ld} (k : VarS w x p b s d L) (M : Ld) : VarS (((w.setCell ⟨x, 11, none⟩ (.int .i64 M.ver)).setCell ⟨x, 12, none⟩ (.int .i64 M.own)).setCell ⟨x, 13, none⟩ (.int .i64 M.gen)) x p b s d M := set_heap (i := 13) (set_heap (i := 12) (set_heap (i := 11) k (.int .i64 M.ver)) (.int .i64 M.own)) (.int .i64 M.gen)

structure Sto (W : World) (B x : Nat) (s : Est) (L : Ld) (bo : Option Addr) (ba : Nat) (ao : Option Addr) (ca : Nat) (qo : Option Addr) (cb : Nat) : Prop where
  v : VarS W x s.p (.slice bo 4 ba) (.slice ao s.ss.length ca) (.slice qo s.xs.length cb) L
  b : OwnR W B 96 4 (.slice bo 4 ba) 4 (bksV s.bs)
  d : OwnD W B ao s.ss.length ca qo s.xs.length cb s.ss s.xs
  k : B ≤ x
theorem Sto.below {W W' : World} {B x : Nat} {s : Est} {L : Ld} {bo ao qo : Option Addr} {ba ca cb : Nat} (h : Sto W B x s L bo ba ao ca qo cb) (hb : Below W.heap.size W W') : Sto W' B x s L bo ba ao ca qo cb := ⟨h.v.below hb, h.b.below hb, h.d.below hb, h.k⟩
theorem Sto.bks {W : World} {B x : Nat} {s : Est} {L : Ld} {bo ao qo : Option Addr} {ba ca cb : Nat} (h : Sto W B x s L bo ba ao ca qo cb) (h4 : s.bs.length = 4) : Bks W bo s.bs :=
  ownBks (B := B) (e := 96) (cap := ba) (by rw [h4]; exact h.b)
theorem rowX {W W' : World} {B x n : Nat} {p : Pxs} {b s d v : Value} {L : Ld} {xs : List Value} (hv : VarS W x p b s d L) (h : OwnR W B 96 4 v n xs) (hk : Keep (fun j => j = x) W W') : OwnR W' B 96 4 v n xs :=
  h.keep hk (fun g hg e => by have e' : g = x := e; subst e'; exact h.other hv (by decide) hg)
theorem diskX {W W' : World} {B x n m ca cb : Nat} {p : Pxs} {b s d : Value} {L : Ld} {ao bo : Option Addr} {ss : List ByteArray} {xs : List Wr} (hv : VarS W x p b s d L) (h : OwnD W B ao n ca bo m cb ss xs) (hk : Keep (fun j => j = x) W W') : OwnD W' B ao n ca bo m cb ss xs :=
  h.keep hk (fun g hg e => by have e' : g = x := e; subst e'; exact h.other hv (by decide) (by decide) hg)
theorem Sto.owns {W W' : World} {B x : Nat} {s : Est} {L : Ld} {bo ao qo : Option Addr} {ba ca cb : Nat} (h : Sto W B x s L bo ba ao ca qo cb) (hk : Keep (fun j => j = x) W W') : OwnR W' B 96 4 (.slice bo 4 ba) 4 (bksV s.bs) ∧ OwnD W' B ao s.ss.length ca qo s.xs.length cb s.ss s.xs :=
  ⟨rowX h.v h.b hk, diskX h.v h.d hk⟩
theorem keep_set8 (W : World) (x : Nat) (q : Pxs) : Keep (fun j => j = x) W (set8 W x q) := keep8 (Keep.refl (fun j => j = x) W) (show x = x from rfl) _ _ _ _ _ _ _ _
theorem keep_row (W : World) (x : Nat) (b : Value) : Keep (fun j => j = x) W (W.setCell ⟨x, 8, none⟩ b) := (Keep.refl (fun j => j = x) W).setCell (p := ⟨x, 8, none⟩) rfl b
theorem keep_disk (W : World) (x : Nat) (a b : Value) : Keep (fun j => j = x) W ((W.setCell ⟨x, 9, none⟩ a).setCell ⟨x, 10, none⟩ b) := ((Keep.refl (fun j => j = x) W).setCell (p := ⟨x, 9, none⟩) rfl a).setCell (p := ⟨x, 10, none⟩) rfl b
theorem keep_lead (W : World) (x : Nat) (a b c : Value) : Keep (fun j => j = x) W (((W.setCell ⟨x, 11, none⟩ a).setCell ⟨x, 12, none⟩ b).setCell ⟨x, 13, none⟩ c) := (((Keep.refl (fun j => j = x) W).setCell (p := ⟨x, 11, none⟩) rfl a).setCell (p := ⟨x, 12, none⟩) rfl b).setCell (p := ⟨x, 13, none⟩) rfl c
theorem Sto.try {W : World} {B x : Nat} {s : Est} {L : Ld} {bo ao qo : Option Addr} {ba ca cb : Nat} (h : Sto W B x s L bo ba ao ca qo cb) (q : Pxs) : Sto (set8 W x q) B x ⟨s.ss, s.xs, q, s.bs⟩ L bo ba ao ca qo cb :=
  ⟨h.v.put q, (h.owns (keep_set8 W x q)).1, (h.owns (keep_set8 W x q)).2, h.k⟩
theorem Sto.step {W W' : World} {B x : Nat} {s : Est} {L : Ld} {bo ao qo ro : Option Addr} {ba ca cb ra : Nat} {bs : List Bk} (h : Sto W B x s L bo ba ao ca qo cb) (hb : Below W.heap.size W W') (ho : OwnR W' W.heap.size 96 4 (.slice ro 4 ra) 4 (bksV bs)) (q : Pxs) :
    Sto ((set8 W' x q).setCell ⟨x, 8, none⟩ (.slice ro 4 ra)) B x ⟨s.ss, s.xs, q, bs⟩ L ro ra ao ca qo cb ∧ Keep (fun j => j = x) W ((set8 W' x q).setCell ⟨x, 8, none⟩ (.slice ro 4 ra)) := by
  have hk : Keep (fun j => j = x) W' ((set8 W' x q).setCell ⟨x, 8, none⟩ (.slice ro 4 ra)) := (keep_set8 W' x q).trans (keep_row _ x _)
  have h' := h.below hb
  have ho' : OwnR W' B 96 4 (.slice ro 4 ra) 4 (bksV bs) := ho.base (Nat.le_trans h.k (Nat.le_of_lt h.v.lt))
  exact ⟨⟨(h'.v.put q).row _, rowX h'.v ho' hk, (h'.owns hk).2, h.k⟩, (Keep.of_below hb).trans hk⟩
theorem Sto.write {W W' : World} {B x : Nat} {s : Est} {L : Ld} {bo ao qo ro so : Option Addr} {ba ca cb ra sa : Nat} {S : List ByteArray} {X : List Wr} (h : Sto W B x s L bo ba ao ca qo cb) (hb : Below W.heap.size W W') (ho : OwnD W' W.heap.size ro S.length ra so X.length sa S X) :
    Sto ((W'.setCell ⟨x, 9, none⟩ (.slice ro S.length ra)).setCell ⟨x, 10, none⟩ (.slice so X.length sa)) B x ⟨S, X, s.p, s.bs⟩ L bo ba ro ra so sa ∧ Keep (fun j => j = x) W ((W'.setCell ⟨x, 9, none⟩ (.slice ro S.length ra)).setCell ⟨x, 10, none⟩ (.slice so X.length sa)) := by
  have hk := keep_disk W' x (.slice ro S.length ra) (.slice so X.length sa)
  have h' := h.below hb
  have ho' : OwnD W' B ro S.length ra so X.length sa S X := ho.base (Nat.le_trans h.k (Nat.le_of_lt h.v.lt))
  exact ⟨⟨h'.v.disk _ _, (h'.owns hk).1, diskX h'.v ho' hk, h.k⟩, (Keep.of_below hb).trans hk⟩
theorem Sto.leader {W : World} {B x : Nat} {s : Est} {L : Ld} {bo ao qo : Option Addr} {ba ca cb : Nat} (h : Sto W B x s L bo ba ao ca qo cb) (M : Ld) : Sto (((W.setCell ⟨x, 11, none⟩ (.int .i64 M.ver)).setCell ⟨x, 12, none⟩ (.int .i64 M.own)).setCell ⟨x, 13, none⟩ (.int .i64 M.gen)) B x s M bo ba ao ca qo cb :=
  ⟨h.v.lead M, (h.owns (keep_lead W x _ _ _)).1, (h.owns (keep_lead W x _ _ _)).2, h.k⟩
def StoE (W : World) (B x : Nat) (s : Est) (L : Ld) : Prop := ∃ bo ba ao ca qo cb, Sto W B x s L bo ba ao ca qo cb

end Go.Proofs.YtefnapcegeojoaaGreatDoor
