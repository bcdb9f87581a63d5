/- Contracts of the model's drawn disks and texts: disk, DiskOf, TextOf. -/
import Derived.Test.YtoiclgeeaednnaaRows
import Derived.Test.YtoiclgeeaednnaaGen
import Derived.Test.YtoiclgeeaednnaaKeep
import Derived.Test.YtoiclgeeaednnaaDiskW
import Derived.Test.YtoiclgeeaednnaaOwnF
import Derived.Test.YtoiclgeeaednnaaVars
import Derived.Test.YtoiclgeeaednnaaWrite1
import Derived.Test.YtoiclgeeaednnaaLand
import Derived.Test.YtoiclgeeaednnaaLandS
import Derived.Test.YtoiclgeeaednnaaLandInv
import Derived.Test.YtoiclgeeaednnaaLandP
import Derived.Test.YtoiclgeeaednnaaFlushX
import Derived.Test.YtoiclgeeaednnaaNewS
import Derived.Test.YtoiclgeeaednnaaSrc
import Derived.Test.YtoiclgeeaednnaaSrcG
import Derived.Test.YtoiclgeeaednnaaSrcT
import Derived.Test.YtoiclgeeaednnaaSrcE
import Derived.WalkKit
import Derived.WalkSpells
import Derived.Deep.RegionWith
namespace Go.Proofs.Ytoiclgeeaednnaa
open Go.RowKit
set_option linter.unusedVariables false
set_option maxRecDepth 100000

theorem new_right : diskB noSs [] = true := diskB_parts.2 ⟨⟨noSs_len, fun s hs => by rw [List.eq_of_mem_replicate hs]; exact Nat.zero_le _⟩, by simp, fun x hx => by cases hx⟩
theorem right_ss {ss : List ByteArray} {xs : List Wr} (h : diskB ss xs = true) : ∀ s ∈ ss, s.size ≤ maxLen := fun s hs => by
  have := (diskB_parts.1 h).1.2 s hs
  unfold maxLen
  omega
theorem right_xs {ss : List ByteArray} {xs : List Wr} (h : diskB ss xs = true) : ∀ x ∈ xs, x.data.size ≤ maxLen := fun x hx => by
  have := (ioB_parts.1 ((diskB_parts.1 h).2.2 x hx)).2.2
  unfold maxLen
  omega
theorem flush_right {ss : List ByteArray} {xs : List Wr} {h : Int} (hd : diskB ss xs = true) : diskB (landF h false ss xs 200).1 (landF h false ss xs 200).2.1 = true ∧ (landF h false ss xs 200).1.length = ss.length ∧ (landF h false ss xs 200).2.1.length ≤ xs.length := by
  obtain ⟨e1, e2⟩ := landF_put h ss xs 200
  have e1' : (landF h false ss xs 200).1 = putW ss ((ofH h xs).take 200) := e1
  have e2' : (landF h false ss xs 200).2.1 = remH h 200 xs := e2
  rw [e1', e2']
  exact ⟨diskB_put hd (fun x hx => of_mem (List.mem_of_mem_take hx)) (fun x hx => rem_mem 200 hx) (rem_len 200 xs), put_len _ _, rem_len 200 xs⟩

set_option maxHeartbeats 1600000 in
theorem disk_k (b : Nat) (so : Option Addr) (n cap m : Nat) (w : World) (hm : m ≤ 600000) (hn : n ≤ 1048576) (hs : SrcK w b so n cap m) :
    Calls Try.prog 31 #[.pointer (some ⟨b, 0, none⟩)] w fun e w' => (∃ ss xs po pa qo qa, e = .returned (.agg #[.slice po ss.length pa, .slice qo xs.length qa]) ∧ diskB ss xs = true ∧ xs.length ≤ 19 ∧ Ss w' po ss ∧ Ios w' qo xs) ∧ Keep (fun k => k = b) w w' := by
  have HS := hide hs
  have hlt := hs.lt
  clear hs
  have HK0 : Hid (Keep (fun k => k = b ∨ w.heap.size ≤ k) w (w.alloc (.cells #[.slice none 0 0, .slice none 0 0] 26))) := hide (Keep.of_below (Joins.below_alloc1 _ _))
  have HS0 := hide ((unhide HS).below (Joins.below_alloc1 w (.cells #[.slice none 0 0, .slice none 0 0] 26)))
  have HR0 : Hid (VarD (w.alloc (.cells #[.slice none 0 0, .slice none 0 0] 26)) w.heap.size (.slice none 0 0) (.slice none 0 0)) := hide (heap_alloc_new w _)
  go_enter Try.func31, Try.ntmps31
  go_wp2_with fail
  refine (l01New_any _).mono ?_
  rintro e w1 ⟨g, k, rfl, ho, hb1⟩
  have HS1 := hide ((unhide HS0).below hb1)
  have HK1 := hide ((unhide HK0).trans (Keep.of_below hb1))
  have HR1 := hide ((unhide HR0).below hb1)
  have HO1 := hide ho
  have hz1 : w.heap.size < w1.heap.size := (unhide HR1).lt
  clear ho hb1 HS0 HK0 HR0
  have D0 : Hid (DkSt w (w1.alloc (.cells #[.slice (some ⟨g, 0, none⟩) 64 64, .slice (some ⟨k, 0, none⟩) 0 0] 26)) b so n cap m w1.heap.size (some ⟨g, 0, none⟩) 64 (some ⟨k, 0, none⟩) 0 noSs []) := hide (by
    have hbA := Joins.below_alloc1 w1 (.cells #[.slice (some ⟨g, 0, none⟩) 64 64, .slice (some ⟨k, 0, none⟩) 0 0] 26)
    refine ⟨⟨?_, ((unhide HO1).ss (right_ss new_right)).below hbA, ((unhide HO1).ios (right_xs new_right)).below hbA⟩, (unhide HR1).below hbA, (unhide HK1).trans (Keep.of_below hbA), (unhide HS1).below hbA, hz1⟩
    rw [noSs_len]
    exact heap_alloc_new w1 _)
  go_wp2_with fail
  revert D0
  generalize w1.alloc (.cells #[.slice (some ⟨g, 0, none⟩) 64 64, .slice (some ⟨k, 0, none⟩) 0 0] 26) = W1
  generalize w1.heap.size = C at *
  intro D0
  clear HS1 HK1 HR1 HO1
  refine (next_k b so n cap m 20 _ (by omega) (by omega) (by omega) hn (unhide D0).s).mono ?_
  rintro e w2 ⟨q0, rfl, q00, q01, hs2, hk2⟩
  have D1 := hide ((unhide D0).src hlt hs2 hk2)
  clear hs2 hk2 D0
  obtain ⟨j0, rfl⟩ := Int.eq_ofNat_of_zero_le q00
  go_wp2
  go_loopw [4] (fun i wr => ∃ (j : Nat) (ss : List ByteArray) (xs : List Wr) (ao : Option Addr) (ca : Nat) (bo : Option Addr) (cb : Nat), xs.length + j ≤ 19 ∧ i = .int .i64 j ∧ Hid (diskB ss xs = true) ∧ Hid (DkSt w wr b so n cap (m + 600 - 30 * j) C ao ca bo cb ss xs)) (fun i _ => (intOf i).toNat)
  case atStart => exact ⟨j0, noSs, [], _, _, _, _, by simp; omega, rfl, hide new_right, hide ((unhide D1).more (by omega))⟩
  case round =>
    obtain ⟨j, ss, xs, ao, ca, bo, cb, hxj, rfl, HR, HD⟩ := hrel
    have HL : Hid (ss.length ≤ 1048576) := hide (by have := (diskB_len (unhide HR)).1; omega)
    have HM : Hid (xs.length ≤ 200) := hide (by omega)
    by_cases hj : 0 < j
    · go_wp2_with fail
      refine (next_k b so n cap _ 5 _ (by omega) (by omega) (by omega) hn (unhide HD).s).mono ?_
      rintro e w3 ⟨q1, rfl, q10, q11, hs3, hk3⟩
      have D3 := hide ((unhide HD).src hlt hs3 hk3)
      clear hs3 hk3
      obtain ⟨v0, v1⟩ := (unhide D3).dv.var.cells
      by_cases hq : q1 = 0
      · have hqb : (q1 == 0) = true := by simp [hq]
        go_wp2_with fail
        go_region_with (first
          | (go_at_call 60; refine (next_k b so n cap (m + 600 - 30 * j + 3) 4 _ (by omega) (by omega) (by omega) hn ?_).mono ?_; exact (unhide D3).s.below ((Below.refl _ _).drew); rintro e wA ⟨qh, rfl, qh0, qh1, hsA, hkA⟩; have DA := hide (((unhide D3).below ((Below.refl _ _).drew)).src hlt hsA hkA); obtain ⟨a0, a1⟩ := (unhide DA).dv.var.cells; clear hsA hkA)
          | (go_at_call 40; refine (l01Flush_any ao bo ca cb ss xs qh 200 _ rfl (by omega) (unhide HL) (unhide HM) (diskB_at (unhide HR)) ?_ ?_).mono ?_; exact (unhide DA).dv.s; exact (unhide DA).dv.i; rintro e wB ⟨po, pa, qo, qa, rfl, ho, hbB⟩; have DB := hide ((unhide DA).below hbB); obtain ⟨b0, b1⟩ := (unhide DB).dv.var.cells; have z0 := (unhide DB).dv.var.free 0; have z1 := (unhide DB).dv.var.free 1; have HO := hide ho; clear ho hbB))
        all_goals
          obtain ⟨f1, f2, f3⟩ := flush_right (h := qh) (unhide HR)
          have S' := DkSt.store (ca' := pa) (cb' := qa) (unhide DB) (unhide HS) ((unhide HO).ss (right_ss f1)) ((unhide HO).ios (right_xs f1))
          rw [f2] at S'
          have S2 := hide (S'.more (m' := m + 600 - 30 * (j - 1)) (by omega))
          have F1 := hide f1
          have hlen : (landF qh false ss xs 200).2.1.length + (j - 1) ≤ 19 := by omega
          clear S' f1 f2 f3 DA DB HO b0 b1 z0 z1 a0 a1 v0 v1 D3 HD HL HM
          revert S2 F1 hlen
          generalize (wB.setCell ⟨C, 0, none⟩ (.slice po ss.length pa)).setCell ⟨C, 1, none⟩ (.slice qo (landF qh false ss xs 200).2.1.length qa) = WF
          generalize (landF qh false ss xs 200).1 = ss2
          generalize (landF qh false ss xs 200).2.1 = xs2
          intro S2 F1 hlen
          go_wp2
          go_roundw
          case rel => exact ⟨j - 1, ss2, xs2, po, pa, qo, qa, hlen, by go_num, F1, S2⟩
          case measure => simp [intOf]; omega
      · have hqb : (q1 == 0) = false := by simp [hq]
        go_wp2_with fail
        go_region_with (first
          | (go_at_call_of 60 (Value.int IntKind.i64 4); refine (next_k b so n cap (m + 600 - 30 * j + 3) 4 _ (by omega) (by omega) (by omega) hn ?_).mono ?_; exact (unhide D3).s.below ((Below.refl _ _).drew); rintro e wA ⟨qh, rfl, qh0, qh1, hsA, hkA⟩; have DA := hide (((unhide D3).below ((Below.refl _ _).drew)).src hlt hsA hkA); obtain ⟨a0, a1⟩ := (unhide DA).dv.var.cells; clear hsA hkA)
          | (go_at_call_of 60 (Value.int IntKind.i64 8); refine (next_k b so n cap (m + 600 - 30 * j + 3 + 3) 8 _ (by omega) (by omega) (by omega) hn ?_).mono ?_; exact (unhide DA).s; rintro e wB ⟨qa, rfl, qa0, qa1, hsB, hkB⟩; have DB := hide ((unhide DA).src hlt hsB hkB); obtain ⟨b0, b1⟩ := (unhide DB).dv.var.cells; clear hsB hkB)
          | (go_at_call_of 60 (Value.int IntKind.i64 5); refine (next_k b so n cap (m + 600 - 30 * j + 3 + 3 + 3) 5 _ (by omega) (by omega) (by omega) hn ?_).mono ?_; exact (unhide DB).s; rintro e wC ⟨ql, rfl, ql0, ql1, hsC, hkC⟩; have DC := hide ((unhide DB).src hlt hsC hkC); obtain ⟨c0, c1⟩ := (unhide DC).dv.var.cells; obtain ⟨kk, rfl⟩ := Int.eq_ofNat_of_zero_le ql0; clear hsC hkC)
          | (go_at_call 32; refine (some_k b so n cap (m + 600 - 30 * j + 3 + 3 + 3 + 3) kk _ (by omega) (by omega) hn ?_).mono ?_; exact (unhide DC).s; rintro e wD ⟨tx, rfl, htx, hsD, hkD⟩; have DD := hide ((unhide DC).src hlt hsD hkD); obtain ⟨d0, d1⟩ := (unhide DD).dv.var.cells; have HTX := hide htx; clear hsD hkD htx)
          | (go_at_call 61; refine (l01Write_any ao bo ss.length ca cb xs ⟨qh, qa, tx⟩ _ (by omega) ?_).mono ?_; exact (unhide DD).dv.i; rintro e wE ⟨gg, cc, rfl, ho, hbE⟩; have DE := hide ((unhide DD).below hbE); obtain ⟨e0, e1⟩ := (unhide DE).dv.var.cells; have z0 := (unhide DE).dv.var.free 0; have z1 := (unhide DE).dv.var.free 1; have HO := hide ho; clear ho hbE))
        all_goals
          have hio : ioB ⟨qh, qa, tx⟩ = true := ioB_parts.2 ⟨⟨qh0, by show qh ≤ 3; omega⟩, ⟨qa0, by show qa ≤ 63; omega⟩, by show tx.size ≤ 80; rw [unhide HTX]; omega⟩
          have F1 := hide (diskB_snoc (unhide HR) (by omega) hio)
          have hl1 : (xs ++ [(⟨qh, qa, tx⟩ : Wr)]).length = xs.length + 1 := by simp
          have hI : Ios wE (some ⟨gg, 0, none⟩) (xs ++ [(⟨qh, qa, tx⟩ : Wr)]) := ownI (cap := cc) (by rw [hl1]; exact unhide HO) (right_xs (unhide F1))
          have S' := DkSt.store (ca' := ca) (cb' := cc) (unhide DE) (unhide HS) (unhide DE).dv.s hI
          rw [hl1] at S'
          have S2 := hide (S'.more (m' := m + 600 - 30 * (j - 1)) (by omega))
          have hlen : (xs ++ [(⟨qh, qa, tx⟩ : Wr)]).length + (j - 1) ≤ 19 := by rw [hl1]; omega
          clear S' hI hl1 hio DA DB DC DD DE HO e0 e1 d0 d1 c0 c1 b0 b1 a0 a1 z0 z1 v0 v1 D3 HD HL HM
          revert S2
          generalize (wE.setCell ⟨C, 0, none⟩ (.slice ao ss.length ca)).setCell ⟨C, 1, none⟩ (.slice (some ⟨gg, 0, none⟩) (xs.length + 1) cc) = WF
          intro S2
          go_wp2
          go_roundw
          case rel => exact ⟨j - 1, ss, xs ++ [⟨qh, qa, tx⟩], ao, ca, some ⟨gg, 0, none⟩, cc, hlen, by go_num, F1, S2⟩
          case measure => simp [intOf]; omega
    · obtain ⟨v0, v1⟩ := (unhide HD).dv.var.cells
      go_wp2_with fail
      refine (l01Own_any ao bo ca cb ss xs _ (unhide HL) (by omega) (unhide HD).dv.s (unhide HD).dv.i).mono ?_
      rintro e w3 ⟨po, pa, qo, qa, rfl, ho, hb3⟩
      have D3 := hide ((unhide HD).below hb3)
      have HO := hide ho
      clear ho hb3 v0 v1
      obtain ⟨r0, r1⟩ := (unhide D3).r.cells
      have z0 := (unhide D3).r.free 0
      have z1 := (unhide D3).r.free 1
      go_wp2
      obtain ⟨hdv, hkr⟩ := DV.store (ca := pa) (cb := qa) (unhide D3).r ((unhide HO).ss (right_ss (unhide HR))) ((unhide HO).ios (right_xs (unhide HR)))
      exact bodyPost_ret (v := .agg #[.slice po ss.length pa, .slice qo xs.length qa]) (by simp [results, Try.results31, go_sem, r0, r1]) rfl ⟨⟨ss, xs, po, pa, qo, qa, rfl, unhide HR, by omega, hdv.s, hdv.i⟩, keep_drop ((unhide D3).k.trans (hkr.mono (fun k e => .inr (by omega))))⟩

end Go.Proofs.Ytoiclgeeaednnaa
