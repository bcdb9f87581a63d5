import Derived.Test.YtlhinknmbgijeabDoorRows
import Derived.Test.YtlhinknmbgijeabDoorLDeltaPart1
import Derived.Test.YtlhinknmbgijeabDoorLDeltaPart3
import Derived.Test.YtlhinknmbgijeabDoorLDeltaPart7
import Derived.Test.YtlhinknmbgijeabDoorLDeltaPart4
import Derived.Test.YtlhinknmbgijeabDoorLDeltaPart5
import Derived.Test.YtlhinknmbgijeabDoorLDeltaPart9
import Derived.Test.YtlhinknmbgijeabDoorLDeltaPart2
import Derived.WalkKit
import Derived.WalkSpells
import Derived.Deep.RegionWith
import Derived.KernelRfl

/- Contracts of the model's drawn disks and texts: disk, DiskOf, TextOf. -/
namespace Go.Proofs.YtlhinknmbgijeabDoor
open Go.RowKit
set_option linter.unusedVariables false
set_option maxRecDepth 100000

theorem new_right : diskB noSs [] = true := diskB_parts.2 ⟨⟨noSs_len, fun s hs => by rw [List.eq_of_mem_replicate hs]; exact Nat.zero_le _⟩, by simp, fun x hx => by cases hx⟩
theorem right_ss {ss : List ByteArray} {xs : List Wr} (h : diskB ss xs = true) : ∀ s ∈ ss, s.size ≤ maxLen := fun s hs => by
  have := (diskB_parts.1 h).1.2 s hs
  unfold maxLen
  omega
theorem right_xs {ss : List ByteArray} {xs : List Wr} (h : diskB ss xs = true) : ∀ x ∈ xs, x.data.size ≤ maxLen := fun x hx => by
  have := (ioB_parts.1 ((diskB_parts.1 h).2.2 x hx)).2.2
  unfold maxLen
  omega
theorem flush_right {ss : List ByteArray} {xs : List Wr} {h : Int} (hd : diskB ss xs = true) : diskB (landF h false ss xs 200).1 (landF h false ss xs 200).2.1 = true ∧ (landF h false ss xs 200).1.length = ss.length ∧ (landF h false ss xs 200).2.1.length ≤ xs.length := by
  obtain ⟨e1, e2⟩ := landF_put h ss xs 200
  have e1' : (landF h false ss xs 200).1 = putW ss ((ofH h xs).take 200) := e1
  have e2' : (landF h false ss xs 200).2.1 = remH h 200 xs := e2
  rw [e1', e2']
  exact ⟨diskB_put hd (fun x hx => of_mem (List.mem_of_mem_take hx)) (fun x hx => rem_mem 200 hx) (rem_len 200 xs), put_len _ _, rem_len 200 xs⟩

/-- All texts of a disk are such ones. -/
def AllT (P : ByteArray → Prop) (ss : List ByteArray) (xs : List Wr) : Prop := (∀ s ∈ ss, P s) ∧ ∀ x ∈ xs, P x.data
theorem AllT.new {P : ByteArray → Prop} (h : P ⟨#[]⟩) : AllT P noSs [] := ⟨fun s hs => by rw [List.eq_of_mem_replicate hs]; exact h, fun x hx => by cases hx⟩
theorem AllT.mono {P Q : ByteArray → Prop} {ss : List ByteArray} {xs : List Wr} (h : AllT P ss xs) (hq : ∀ t, P t → Q t) : AllT Q ss xs := ⟨fun s hs => hq s (h.1 s hs), fun x hx => hq _ (h.2 x hx)⟩
theorem AllT.snoc {P : ByteArray → Prop} {ss : List ByteArray} {xs : List Wr} {x : Wr} (h : AllT P ss xs) (hx : P x.data) : AllT P ss (xs ++ [x]) := ⟨h.1, fun y hy => by
  rcases List.mem_append.1 hy with hy | hy
  · exact h.2 y hy
  · rw [List.mem_singleton.1 hy]; exact hx⟩
theorem AllT.put {P : ByteArray → Prop} {ss : List ByteArray} {xs fs ys : List Wr} (h : AllT P ss xs) (hf : ∀ x ∈ fs, x ∈ xs) (hy : ∀ x ∈ ys, x ∈ xs) : AllT P (putW ss fs) ys := ⟨put_mem fs ss h.1 (fun x hx => h.2 x (hf x hx)), fun x hx => h.2 x (hy x hx)⟩
theorem AllT.land {P : ByteArray → Prop} {ss : List ByteArray} {xs : List Wr} (h : AllT P ss xs) (q : Int) : AllT P (landF q false ss xs 200).1 (landF q false ss xs 200).2.1 := by
  obtain ⟨e1, e2⟩ := landF_put q ss xs 200
  have e1' : (landF q false ss xs 200).1 = putW ss ((ofH q xs).take 200) := e1
  have e2' : (landF q false ss xs 200).2.1 = remH q 200 xs := e2
  rw [e1', e2']
  exact h.put (fun x hx => of_mem (List.mem_of_mem_take hx)) (fun x hx => rem_mem 200 hx)

set_option maxHeartbeats 1600000 in
theorem disk_k (b : Nat) (so : Option Addr) (n cap m : Nat) (w : World) (hm : m ≤ 600000) (hn : n ≤ 1048576) (hs : SrcK w b so n cap m) :
    Calls Tryd.prog 86 #[.pointer (some ⟨b, 0, none⟩)] w fun e w' => (∃ ss xs po pa qo qa, e = .returned (.agg #[.slice po ss.length pa, .slice qo xs.length qa]) ∧ diskB ss xs = true ∧ xs.length ≤ 19 ∧ Ss w' po ss ∧ Ios w' qo xs ∧ AllT (fun t => t.size ≤ 4) ss xs ∧ OwnD w' (w.heap.size + 1) po ss.length pa qo xs.length qa ss xs) ∧ Keep (fun k => k = b) w w' ∧ SrcK w' b so n cap (m + 600) := by
  have HS := hide hs
  have hlt := hs.lt
  clear hs
  have HK0 : Hid (Keep (fun k => k = b ∨ w.heap.size ≤ k) w (w.alloc (.cells #[.slice none 0 0, .slice none 0 0] 26))) := hide (Keep.of_below (Joins.below_alloc1 _ _))
  have HS0 := hide ((unhide HS).below (Joins.below_alloc1 w (.cells #[.slice none 0 0, .slice none 0 0] 26)))
  have HR0 : Hid (VarD (w.alloc (.cells #[.slice none 0 0, .slice none 0 0] 26)) w.heap.size (.slice none 0 0) (.slice none 0 0)) := hide (heap_alloc_new w _)
  go_enter Tryd.func86, Tryd.ntmps86
  go_wp2_with fail
  refine (l01New_any _).mono ?_
  rintro e w1 ⟨g, k, rfl, ho, hb1⟩
  have HS1 := hide ((unhide HS0).below hb1)
  have HK1 := hide ((unhide HK0).trans (Keep.of_below hb1))
  have HR1 := hide ((unhide HR0).below hb1)
  have HO1 := hide ho
  have hz1 : w.heap.size < w1.heap.size := (unhide HR1).lt
  clear ho hb1 HS0 HK0 HR0
  have D0 : Hid (DkSt w (w1.alloc (.cells #[.slice (some ⟨g, 0, none⟩) 64 64, .slice (some ⟨k, 0, none⟩) 0 0] 26)) b so n cap m w1.heap.size (some ⟨g, 0, none⟩) 64 (some ⟨k, 0, none⟩) 0 noSs []) := hide (by
    have hbA := Joins.below_alloc1 w1 (.cells #[.slice (some ⟨g, 0, none⟩) 64 64, .slice (some ⟨k, 0, none⟩) 0 0] 26)
    refine ⟨⟨?_, ((unhide HO1).ss (right_ss new_right)).below hbA, ((unhide HO1).ios (right_xs new_right)).below hbA⟩, (unhide HR1).below hbA, (unhide HK1).trans (Keep.of_below hbA), (unhide HS1).below hbA, hz1⟩
    rw [noSs_len]
    exact heap_alloc_new w1 _)
  go_wp2_with fail
  revert D0
  generalize w1.alloc (.cells #[.slice (some ⟨g, 0, none⟩) 64 64, .slice (some ⟨k, 0, none⟩) 0 0] 26) = W1
  generalize w1.heap.size = C at *
  intro D0
  clear HS1 HK1 HR1 HO1
  refine (next_k b so n cap m 20 _ (by omega) (by omega) (by omega) hn (unhide D0).s).mono ?_
  rintro e w2 ⟨q0, rfl, q00, q01, hs2, hk2⟩
  have D1 := hide ((unhide D0).src hlt hs2 hk2)
  clear hs2 hk2 D0
  obtain ⟨j0, rfl⟩ := Int.eq_ofNat_of_zero_le q00
  go_wp2
  go_loopw [4] (fun i wr => ∃ (j : Nat) (ss : List ByteArray) (xs : List Wr) (ao : Option Addr) (ca : Nat) (bo : Option Addr) (cb : Nat), xs.length + j ≤ 19 ∧ i = .int .i64 j ∧ Hid (diskB ss xs = true) ∧ Hid (AllT (fun t => t.size ≤ 4) ss xs) ∧ Hid (DkSt w wr b so n cap (m + 600 - 30 * j) C ao ca bo cb ss xs)) (fun i _ => (intOf i).toNat)
  case atStart => exact ⟨j0, noSs, [], _, _, _, _, by simp; omega, rfl, hide new_right, hide (AllT.new (Nat.zero_le _)), hide ((unhide D1).more (by omega))⟩
  case round =>
    obtain ⟨j, ss, xs, ao, ca, bo, cb, hxj, rfl, HR, HT, HD⟩ := hrel
    have HL : Hid (ss.length ≤ 1048576) := hide (by have := (diskB_len (unhide HR)).1; omega)
    have HM : Hid (xs.length ≤ 200) := hide (by omega)
    by_cases hj : 0 < j
    · go_wp2_with fail
      refine (next_k b so n cap _ 5 _ (by omega) (by omega) (by omega) hn (unhide HD).s).mono ?_
      rintro e w3 ⟨q1, rfl, q10, q11, hs3, hk3⟩
      have D3 := hide ((unhide HD).src hlt hs3 hk3)
      clear hs3 hk3
      obtain ⟨v0, v1⟩ := (unhide D3).dv.var.cells
      by_cases hq : q1 = 0
      · have hqb : (q1 == 0) = true := by simp [hq]
        go_wp2_with fail
        go_region_with (first
          | (go_at_call 82; refine (next_k b so n cap (m + 600 - 30 * j + 3) 4 _ (by omega) (by omega) (by omega) hn ?_).mono ?_; exact (unhide D3).s.below ((Below.refl _ _).drew); rintro e wA ⟨qh, rfl, qh0, qh1, hsA, hkA⟩; have DA := hide (((unhide D3).below ((Below.refl _ _).drew)).src hlt hsA hkA); obtain ⟨a0, a1⟩ := (unhide DA).dv.var.cells; clear hsA hkA)
          | (go_at_call 100; refine (l01Flush_any ao bo ca cb ss xs qh 200 _ rfl (by omega) (unhide HL) (unhide HM) (diskB_at (unhide HR)) ?_ ?_).mono ?_; exact (unhide DA).dv.s; exact (unhide DA).dv.i; rintro e wB ⟨po, pa, qo, qa, rfl, ho, hbB⟩; have DB := hide ((unhide DA).below hbB); obtain ⟨b0, b1⟩ := (unhide DB).dv.var.cells; have z0 := (unhide DB).dv.var.free 0; have z1 := (unhide DB).dv.var.free 1; have HO := hide ho; clear ho hbB))
        all_goals
          obtain ⟨f1, f2, f3⟩ := flush_right (h := qh) (unhide HR)
          have S' := DkSt.store (ca' := pa) (cb' := qa) (unhide DB) (unhide HS) ((unhide HO).ss (right_ss f1)) ((unhide HO).ios (right_xs f1))
          rw [f2] at S'
          have S2 := hide (S'.more (m' := m + 600 - 30 * (j - 1)) (by omega))
          have F1 := hide f1
          have F4 := hide ((unhide HT).land qh)
          have hlen : (landF qh false ss xs 200).2.1.length + (j - 1) ≤ 19 := by omega
          clear S' f1 f2 f3 DA DB HO b0 b1 z0 z1 a0 a1 v0 v1 D3 HD HL HM
          revert S2 F1 F4 hlen
          generalize (wB.setCell ⟨C, 0, none⟩ (.slice po ss.length pa)).setCell ⟨C, 1, none⟩ (.slice qo (landF qh false ss xs 200).2.1.length qa) = WF
          generalize (landF qh false ss xs 200).1 = ss2
          generalize (landF qh false ss xs 200).2.1 = xs2
          intro S2 F1 F4 hlen
          go_wp2
          go_roundw
          case rel => exact ⟨j - 1, ss2, xs2, po, pa, qo, qa, hlen, by go_num, F1, F4, S2⟩
          case measure => simp [intOf]; omega
      · have hqb : (q1 == 0) = false := by simp [hq]
        go_wp2_with fail
        go_region_with (first
          | (go_at_call_of 82 (Value.int IntKind.i64 4); refine (next_k b so n cap (m + 600 - 30 * j + 3) 4 _ (by omega) (by omega) (by omega) hn ?_).mono ?_; exact (unhide D3).s.below ((Below.refl _ _).drew); rintro e wA ⟨qh, rfl, qh0, qh1, hsA, hkA⟩; have DA := hide (((unhide D3).below ((Below.refl _ _).drew)).src hlt hsA hkA); obtain ⟨a0, a1⟩ := (unhide DA).dv.var.cells; clear hsA hkA)
          | (go_at_call_of 82 (Value.int IntKind.i64 8); refine (next_k b so n cap (m + 600 - 30 * j + 3 + 3) 8 _ (by omega) (by omega) (by omega) hn ?_).mono ?_; exact (unhide DA).s; rintro e wB ⟨qa, rfl, qa0, qa1, hsB, hkB⟩; have DB := hide ((unhide DA).src hlt hsB hkB); obtain ⟨b0, b1⟩ := (unhide DB).dv.var.cells; clear hsB hkB)
          | (go_at_call_of 82 (Value.int IntKind.i64 5); refine (next_k b so n cap (m + 600 - 30 * j + 3 + 3 + 3) 5 _ (by omega) (by omega) (by omega) hn ?_).mono ?_; exact (unhide DB).s; rintro e wC ⟨ql, rfl, ql0, ql1, hsC, hkC⟩; have DC := hide ((unhide DB).src hlt hsC hkC); obtain ⟨c0, c1⟩ := (unhide DC).dv.var.cells; obtain ⟨kk, rfl⟩ := Int.eq_ofNat_of_zero_le ql0; clear hsC hkC)
          | (go_at_call 99; refine (some_k b so n cap (m + 600 - 30 * j + 3 + 3 + 3 + 3) kk _ (by omega) (by omega) hn ?_).mono ?_; exact (unhide DC).s; rintro e wD ⟨tx, rfl, htx, hsD, hkD⟩; have DD := hide ((unhide DC).src hlt hsD hkD); obtain ⟨d0, d1⟩ := (unhide DD).dv.var.cells; have HTX := hide htx; clear hsD hkD htx)
          | (go_at_call 101; refine (l01Write_any ao bo ss.length ca cb xs ⟨qh, qa, tx⟩ _ (by omega) ?_).mono ?_; exact (unhide DD).dv.i; rintro e wE ⟨gg, cc, rfl, ho, hbE⟩; have DE := hide ((unhide DD).below hbE); obtain ⟨e0, e1⟩ := (unhide DE).dv.var.cells; have z0 := (unhide DE).dv.var.free 0; have z1 := (unhide DE).dv.var.free 1; have HO := hide ho; clear ho hbE))
        all_goals
          have hio : ioB ⟨qh, qa, tx⟩ = true := ioB_parts.2 ⟨⟨qh0, by show qh ≤ 3; omega⟩, ⟨qa0, by show qa ≤ 63; omega⟩, by show tx.size ≤ 80; rw [unhide HTX]; omega⟩
          have F1 := hide (diskB_snoc (unhide HR) (by omega) hio)
          have F4 := hide ((unhide HT).snoc (x := ⟨qh, qa, tx⟩) (by show tx.size ≤ 4; rw [unhide HTX]; omega))
          have hl1 : (xs ++ [(⟨qh, qa, tx⟩ : Wr)]).length = xs.length + 1 := by simp
          have hI : Ios wE (some ⟨gg, 0, none⟩) (xs ++ [(⟨qh, qa, tx⟩ : Wr)]) := ownI (cap := cc) (by rw [hl1]; exact unhide HO) (right_xs (unhide F1))
          have S' := DkSt.store (ca' := ca) (cb' := cc) (unhide DE) (unhide HS) (unhide DE).dv.s hI
          rw [hl1] at S'
          have S2 := hide (S'.more (m' := m + 600 - 30 * (j - 1)) (by omega))
          have hlen : (xs ++ [(⟨qh, qa, tx⟩ : Wr)]).length + (j - 1) ≤ 19 := by rw [hl1]; omega
          clear S' hI hl1 hio DA DB DC DD DE HO e0 e1 d0 d1 c0 c1 b0 b1 a0 a1 z0 z1 v0 v1 D3 HD HL HM
          revert S2
          generalize (wE.setCell ⟨C, 0, none⟩ (.slice ao ss.length ca)).setCell ⟨C, 1, none⟩ (.slice (some ⟨gg, 0, none⟩) (xs.length + 1) cc) = WF
          intro S2
          go_wp2
          go_roundw
          case rel => exact ⟨j - 1, ss, xs ++ [⟨qh, qa, tx⟩], ao, ca, some ⟨gg, 0, none⟩, cc, hlen, by go_num, F1, F4, S2⟩
          case measure => simp [intOf]; omega
    · obtain ⟨v0, v1⟩ := (unhide HD).dv.var.cells
      go_wp2_with fail
      refine (l01Own_any ao bo ca cb ss xs _ (unhide HL) (by omega) (unhide HD).dv.s (unhide HD).dv.i).mono ?_
      rintro e w3 ⟨po, pa, qo, qa, rfl, ho, hb3⟩
      have D3 := hide ((unhide HD).below hb3)
      have HO := hide ho
      have hzw : w.heap.size < wr.heap.size := (unhide HD).r.lt
      clear ho hb3 v0 v1
      obtain ⟨r0, r1⟩ := (unhide D3).r.cells
      have z0 := (unhide D3).r.free 0
      have z1 := (unhide D3).r.free 1
      go_wp2
      obtain ⟨hdv, hkr⟩ := DV.store (ca := pa) (cb := qa) (unhide D3).r ((unhide HO).ss (right_ss (unhide HR))) ((unhide HO).ios (right_xs (unhide HR)))
      exact bodyPost_ret (v := .agg #[.slice po ss.length pa, .slice qo xs.length qa]) (by simp [results, Tryd.results86, go_sem, r0, r1]) rfl ⟨⟨ss, xs, po, pa, qo, qa, rfl, unhide HR, by omega, hdv.s, hdv.i, unhide HT, (((unhide HO).setCell (a := ⟨w.heap.size, 0, none⟩) hzw _).setCell (a := ⟨w.heap.size, 1, none⟩) hzw _).base (by omega)⟩, keep_drop ((unhide D3).k.trans (hkr.mono (fun k e => .inr (by omega)))), ((unhide HS).other (unhide D3).s (keep_drop ((unhide D3).k.trans (hkr.mono (fun k e => .inr (by omega))))) hkr (by omega)).more (by omega)⟩

end Go.Proofs.YtlhinknmbgijeabDoor

/- A drawn disk that is owned, in a variable, beside the source; drawn disks' texts. -/
namespace Go.Proofs.YtlhinknmbgijeabDoor
open Go.RowKit
set_option linter.unusedVariables false
set_option maxRecDepth 100000

structure DkO (w W : World) (b : Nat) (so : Option Addr) (n cap m C : Nat) (po : Option Addr) (pa : Nat) (qo : Option Addr) (qa : Nat) (ss : List ByteArray) (xs : List Wr) : Prop where
  var : VarD W C (.slice po ss.length pa) (.slice qo xs.length qa)
  o : OwnD W (w.heap.size + 1) po ss.length pa qo xs.length qa ss xs
  r : VarD W w.heap.size (.slice none 0 0) (.slice none 0 0)
  k : Keep (fun k => k = b ∨ w.heap.size ≤ k) w W
  s : SrcK W b so n cap m
  c : w.heap.size < C
theorem DkO.below {w W W' : World} {b n cap m C pa qa : Nat} {so po qo : Option Addr} {ss : List ByteArray} {xs : List Wr} (h : DkO w W b so n cap m C po pa qo qa ss xs) (hb : Below W.heap.size W W') : DkO w W' b so n cap m C po pa qo qa ss xs :=
  ⟨h.var.below hb, h.o.below hb, h.r.below hb, h.k.trans (Keep.of_below hb), h.s.below hb, h.c⟩
theorem SrcK.blk {w : World} {b : Nat} {so : Option Addr} {n cap m : Nat} (h : SrcK w b so n cap m) : ∃ c, w.heap[b]? = some (.cells c 87 (0, 0)) := by
  obtain ⟨x, y, _, _, _, _, hblk⟩ := h.src
  exact ⟨_, hblk⟩
theorem DkO.src {w W W' : World} {b n cap m m' C pa qa : Nat} {so po qo : Option Addr} {ss : List ByteArray} {xs : List Wr} (h : DkO w W b so n cap m C po pa qo qa ss xs) (hb : b < w.heap.size) (hs : SrcK W' b so n cap m') (hk : Keep (fun j => j = b) W W') : DkO w W' b so n cap m' C po pa qo qa ss xs := by
  obtain ⟨c, hblk⟩ := h.s.blk
  exact ⟨h.var.keep hk (by have := h.c; omega), h.o.keep hk (fun g hg e => h.o.other hblk (by decide) (by decide) (e ▸ hg)), h.r.keep hk (by omega), h.k.trans (hk.mono (fun k e => .inl e)), hs, h.c⟩
theorem DkO.more {w W : World} {b n cap m m' C pa qa : Nat} {so po qo : Option Addr} {ss : List ByteArray} {xs : List Wr} (h : DkO w W b so n cap m C po pa qo qa ss xs) (hm : m ≤ m') : DkO w W b so n cap m' C po pa qo qa ss xs := ⟨h.var, h.o, h.r, h.k, h.s.more hm, h.c⟩
/-- What a store beside the source and the answer's variable leaves. -/
theorem DkO.other {w W W' : World} {b n cap m m0 C pa qa y : Nat} {so po qo : Option Addr} {ss : List ByteArray} {xs : List Wr} (h : DkO w W b so n cap m C po pa qo qa ss xs) (h0 : SrcK w b so n cap m0) (hy : w.heap.size < y) (hk : Keep (fun j => j = y) W W') :
    VarD W' w.heap.size (.slice none 0 0) (.slice none 0 0) ∧ Keep (fun k => k = b ∨ w.heap.size ≤ k) w W' ∧ SrcK W' b so n cap m := by
  have hb := h0.lt
  have hK : Keep (fun k => k = b ∨ w.heap.size ≤ k) w W' := h.k.trans (hk.mono (fun k e => .inr (by omega)))
  exact ⟨h.r.keep hk (by omega), hK, h0.other h.s (keep_drop hK) hk (by omega)⟩
/-- The variable is stored anew: another owned disk. -/
theorem DkO.store {w W : World} {b n cap m m0 C pa qa pa' qa' : Nat} {so po qo po' qo' : Option Addr} {ss ss' : List ByteArray} {xs xs' : List Wr} (h : DkO w W b so n cap m C po pa qo qa ss xs) (h0 : SrcK w b so n cap m0) (ho : OwnD W (w.heap.size + 1) po' ss'.length pa' qo' xs'.length qa' ss' xs') :
    DkO w ((W.setCell ⟨C, 0, none⟩ (.slice po' ss'.length pa')).setCell ⟨C, 1, none⟩ (.slice qo' xs'.length qa')) b so n cap m C po' pa' qo' qa' ss' xs' := by
  have hk : Keep (fun j => j = C) W ((W.setCell ⟨C, 0, none⟩ (.slice po' ss'.length pa')).setCell ⟨C, 1, none⟩ (.slice qo' xs'.length qa')) := ((Keep.refl (fun j => j = C) W).setCell (p := ⟨C, 0, none⟩) rfl _).setCell (p := ⟨C, 1, none⟩) rfl _
  obtain ⟨h1, h2, h3⟩ := h.other h0 h.c hk
  exact ⟨(h.var.set0 _).set1 _, ho.keep hk (fun g hg e => ho.other h.var (by decide) (by decide) (e ▸ hg)), h1, h2, h3, h.c⟩

/-- A drawn disk as an answer. -/
structure LsD (W : World) (B : Nat) (po : Option Addr) (pa : Nat) (qo : Option Addr) (qa : Nat) (ss : List ByteArray) (xs : List Wr) : Prop where
  s : Ss W po ss
  i : Ios W qo xs
  t : AllT Drw ss xs
  o : ss.length = 64 → OwnD W B po ss.length pa qo xs.length qa ss xs
  l : ss.length ≤ 64 ∧ xs.length ≤ 30
theorem drw_short {t : ByteArray} (h : t.size ≤ 4) : Drw t := .inl h
theorem drw_delta {h g s : Int} (h1 : 0 ≤ h ∧ h ≤ 3) (h2 : 1 ≤ g ∧ g ≤ 3) (h3 : 0 ≤ s ∧ s ≤ 19) : Drw (encD h g s) := .inr (.inr ⟨9, [h, g, s], rfl, by omega, by simp, by simp; omega⟩)
theorem pX_drop (xs : List Wr) (h g s : Int) : pX xs h g s = dropF h xs := by simp [pX, dropF, dwr]
theorem pX_le (xs : List Wr) (h g s : Int) : (pX xs h g s).length ≤ xs.length := by rw [pX_drop]; exact drop_le h xs
theorem AllT.pS {P : ByteArray → Prop} {ss : List ByteArray} {xs : List Wr} (k : AllT P ss xs) (h g s : Int) (he : P (encD h g s)) : AllT P (pS ss xs h g s) (pX xs h g s) :=
  (k.snoc (x := dwr h g s) he).put (fun x hx => of_mem hx) (fun x hx => drop_mem hx)
theorem AllT.sizes {P : ByteArray → Prop} {ss : List ByteArray} {xs : List Wr} (k : AllT P ss xs) (hp : ∀ t, P t → t.size ≤ maxLen) : (∀ s ∈ ss, s.size ≤ maxLen) ∧ ∀ x ∈ xs, x.data.size ≤ maxLen := ⟨fun s hs => hp s (k.1 s hs), fun x hx => hp _ (k.2 x hx)⟩
/-- The answer's variable is stored. -/
theorem DkO.ret {w W : World} {b n cap m m0 C pa qa : Nat} {so po qo : Option Addr} {ss : List ByteArray} {xs : List Wr} (h : DkO w W b so n cap m C po pa qo qa ss xs) (h0 : SrcK w b so n cap m0) (u v : Value) :
    SrcK ((W.setCell ⟨w.heap.size, 0, none⟩ u).setCell ⟨w.heap.size, 1, none⟩ v) b so n cap m ∧ Keep (fun j => j = b) w ((W.setCell ⟨w.heap.size, 0, none⟩ u).setCell ⟨w.heap.size, 1, none⟩ v) ∧ OwnD ((W.setCell ⟨w.heap.size, 0, none⟩ u).setCell ⟨w.heap.size, 1, none⟩ v) (w.heap.size + 1) po ss.length pa qo xs.length qa ss xs := by
  have hb := h0.lt
  have hk : Keep (fun j => j = w.heap.size) W ((W.setCell ⟨w.heap.size, 0, none⟩ u).setCell ⟨w.heap.size, 1, none⟩ v) := ((Keep.refl (fun j => j = w.heap.size) W).setCell (p := ⟨w.heap.size, 0, none⟩) rfl _).setCell (p := ⟨w.heap.size, 1, none⟩) rfl _
  have hK : Keep (fun k => k = b ∨ w.heap.size ≤ k) w ((W.setCell ⟨w.heap.size, 0, none⟩ u).setCell ⟨w.heap.size, 1, none⟩ v) := h.k.trans (hk.mono (fun k e => .inr (by omega)))
  exact ⟨h0.other h.s (keep_drop hK) hk (by omega), keep_drop hK, (h.o.setCell (a := ⟨w.heap.size, 0, none⟩) (Nat.lt_succ_self _) _).setCell (a := ⟨w.heap.size, 1, none⟩) (Nat.lt_succ_self _) _⟩
theorem LsD.of {W : World} {B pa qa : Nat} {po qo : Option Addr} {ss : List ByteArray} {xs : List Wr} (ho : OwnD W B po ss.length pa qo xs.length qa ss xs) (ht : AllT Drw ss xs) (hz : (∀ s ∈ ss, s.size ≤ maxLen) ∧ ∀ x ∈ xs, x.data.size ≤ maxLen) (hl : ss.length ≤ 64 ∧ xs.length ≤ 30) : LsD W B po pa qo qa ss xs :=
  ⟨ho.ss hz.1, ho.ios hz.2, ht, fun _ => ho, hl⟩

end Go.Proofs.YtlhinknmbgijeabDoor

/- Contracts of the model's draws: chance, delta, leader, block; of l05Encode, l06Encode. -/
namespace Go.Proofs.YtlhinknmbgijeabDoor
open Go.RowKit
set_option linter.unusedVariables false
set_option maxRecDepth 100000

set_option maxHeartbeats 1600000 in
theorem chance_k (b : Nat) (ao : Option Addr) (n cap m : Nat) (k : Int) (w : World) (hk0 : 1 ≤ k) (hk1 : k ≤ 1000000) (hm : m ≤ 900000) (hn : n ≤ 1048576) (hs : SrcK w b ao n cap m) :
    Calls Tryd.prog 63 #[.pointer (some ⟨b, 0, none⟩), .int .i64 k] w fun e w' => ∃ q : Bool, e = .returned (.bool q) ∧ SrcK w' b ao n cap (m + 3) ∧ Keep (fun j => j = b) w w' := by
  go_enter Tryd.func63, Tryd.ntmps63
  go_wp2_with fail
  refine (next_k b ao n cap m k _ hk0 hk1 hm hn hs).mono ?_
  rintro e w1 ⟨q, rfl, q0, q1, hs1, hk1'⟩
  have HS := hide hs1
  have HK := hide hk1'
  clear hs1 hk1' hs
  go_wp2
  go_ret
  exact ⟨_, rfl, unhide HS, unhide HK⟩

/-- The world of such a draw: the source, the answer's variable. -/
structure DrS (w W : World) (b : Nat) (ao : Option Addr) (n cap m : Nat) (o : Obj) : Prop where
  s : SrcK W b ao n cap m
  k : Keep (fun k => k = b) w W
  r : W.heap[w.heap.size]? = some o
theorem DrS.new {w : World} {b : Nat} {ao : Option Addr} {n cap m : Nat} (hs : SrcK w b ao n cap m) (c : Array Value) (t : TypeId) : DrS w (w.alloc (.cells c t)) b ao n cap m (.cells c t (0, 0)) :=
  ⟨hs.below (Joins.below_alloc1 _ _), Keep.of_below (Joins.below_alloc1 _ _), heap_alloc_new w _⟩
theorem DrS.src {w W W' : World} {b : Nat} {ao : Option Addr} {n cap m m' : Nat} {o : Obj} (h : DrS w W b ao n cap m o) (hb : b < w.heap.size) (hs : SrcK W' b ao n cap m') (hk : Keep (fun k => k = b) W W') : DrS w W' b ao n cap m' o :=
  ⟨hs, h.k.trans hk, blk_keep hk (by omega) h.r⟩
/-- The answer is stored: three numbers. -/
theorem DrS.end3 {w W : World} {b : Nat} {ao : Option Addr} {n cap m : Nat} {o : Obj} (h : DrS w W b ao n cap m o) (h0 : SrcK w b ao n cap 0 ∨ True) (hb : b < w.heap.size) (hm0 : ∃ m0, SrcK w b ao n cap m0) (u v x : Value) :
    SrcK (((W.setCell ⟨w.heap.size, 0, none⟩ u).setCell ⟨w.heap.size, 1, none⟩ v).setCell ⟨w.heap.size, 2, none⟩ x) b ao n cap m ∧ Keep (fun k => k = b) w (((W.setCell ⟨w.heap.size, 0, none⟩ u).setCell ⟨w.heap.size, 1, none⟩ v).setCell ⟨w.heap.size, 2, none⟩ x) := by
  obtain ⟨m0, h1⟩ := hm0
  have hk : Keep (fun k => k = w.heap.size) W (((W.setCell ⟨w.heap.size, 0, none⟩ u).setCell ⟨w.heap.size, 1, none⟩ v).setCell ⟨w.heap.size, 2, none⟩ x) := (((Keep.refl (fun k => k = w.heap.size) W).setCell (p := ⟨w.heap.size, 0, none⟩) rfl _).setCell (p := ⟨w.heap.size, 1, none⟩) rfl _).setCell (p := ⟨w.heap.size, 2, none⟩) rfl _
  have hw := keep_new h.k hk (fun k e => .inl (by omega))
  exact ⟨h1.other h.s hw hk (by omega), hw⟩

set_option maxHeartbeats 1600000 in
theorem delta_k (b : Nat) (ao : Option Addr) (n cap m : Nat) (w : World) (hm : m ≤ 800000) (hn : n ≤ 1048576) (hs : SrcK w b ao n cap m) :
    Calls Tryd.prog 88 #[.pointer (some ⟨b, 0, none⟩)] w fun e w' => ∃ h g s : Int, e = .returned (dltV h g s) ∧ (0 ≤ h ∧ h ≤ 3) ∧ (1 ≤ g ∧ g ≤ 3) ∧ (0 ≤ s ∧ s ≤ 19) ∧ SrcK w' b ao n cap (m + 9) ∧ Keep (fun j => j = b) w w' := by
  have hlt := hs.lt
  have HS := hide hs
  have D0 := hide (DrS.new hs #[.int .i64 0, .int .i64 0, .int .i64 0] 30)
  clear hs
  go_enter Tryd.func88, Tryd.ntmps88
  go_wp2_with fail
  refine (next_k b ao n cap m 4 _ (by omega) (by omega) (by omega) hn (unhide D0).s).mono ?_
  rintro e w1 ⟨q1, rfl, q10, q11, hs1, hk1⟩
  have D1 := hide ((unhide D0).src hlt hs1 hk1)
  clear hs1 hk1
  go_wp2_with fail
  refine (next_k b ao n cap (m + 3) 3 _ (by omega) (by omega) (by omega) hn (unhide D1).s).mono ?_
  rintro e w2 ⟨q2, rfl, q20, q21, hs1, hk1⟩
  have D2 := hide ((unhide D1).src hlt hs1 hk1)
  clear hs1 hk1
  go_wp2_with fail
  refine (next_k b ao n cap (m + 3 + 3) 20 _ (by omega) (by omega) (by omega) hn (unhide D2).s).mono ?_
  rintro e w3 ⟨q3, rfl, q30, q31, hs1, hk1⟩
  have D3 := hide ((unhide D2).src hlt hs1 hk1)
  clear hs1 hk1
  have HV : Hid (VarT w3 w.heap.size 30 0 0 0) := hide (unhide D3).r
  obtain ⟨c0, c1, c2⟩ := (unhide HV).cells
  obtain ⟨f0, f1, f2⟩ := (unhide HV).free
  have HE := hide (fun u v x => DrS.end3 (unhide D3) (.inr trivial) hlt ⟨m, unhide HS⟩ u v x)
  go_wp2
  exact bodyPost_ret (v := dltV q1 (1 + q2) q3) (by simp [results, Tryd.results88, go_sem, c0, c1, c2]) rfl ⟨q1, 1 + q2, q3, rfl, by omega, by omega, by omega, (unhide HE _ _ _).1, (unhide HE _ _ _).2⟩

end Go.Proofs.YtlhinknmbgijeabDoor

/- A drawn disk in a variable: one sector written, one write more, a field set. -/
namespace Go.Proofs.YtlhinknmbgijeabDoor
open Go.RowKit
set_option linter.unusedVariables false
set_option maxRecDepth 100000

theorem row_form {w : World} {B n pa : Nat} {po : Option Addr} {ss : List ByteArray} (h : OwnR w B 9 1 (.slice po n pa) n (strV ss)) (hn : 0 < n) : ∃ g, po = some ⟨g, 0, none⟩ ∧ B ≤ g ∧ g < w.heap.size ∧ Own (.slice po n pa) g ∧ n ≤ pa := by
  have h' := h
  rcases h' with ⟨h0, _⟩ | ⟨_, ho⟩
  · omega
  rcases ho.2 with ⟨_, e0⟩ | ⟨g, cap, cur, e0, hB, hg, hnc, _⟩
  · omega
  simp only [Value.slice.injEq, true_and] at e0
  obtain ⟨rfl, rfl⟩ := e0
  exact ⟨g, rfl, hB, (h.ge g (own_of hn rfl)).2, own_of hn rfl, hnc⟩
theorem Ss.tail {w : World} {g : Nat} {ss : List ByteArray} (h : Ss w (some ⟨g, 0, none⟩) ss) : Ss w (some ⟨g, 1, none⟩) ss.tail := fun i hi => by
  have hi' : i + 1 < ss.length := by rw [List.length_tail] at hi; omega
  obtain ⟨b, off, e, hc, hz⟩ := h (i + 1) hi'
  cases e
  exact ⟨g, 1, rfl, by rw [List.getElem_tail, show 1 + i = 0 + (i + 1) by omega]; exact hc, by rw [List.getElem_tail]; exact hz⟩
theorem noD_ok {t : ByteArray} (h : t.size ≤ 4) : t.size ≤ maxLen := Nat.le_trans h (by decide)
theorem AllT.set {P : ByteArray → Prop} {ss : List ByteArray} {xs : List Wr} {j : Nat} (k : AllT P ss xs) {d : ByteArray} (hd : P d) : AllT P (ss.set j d) xs := ⟨fun s hs => by
  rcases List.mem_or_eq_of_mem_set hs with h | h
  · exact k.1 s h
  · rw [h]; exact hd, k.2⟩
/-- One sector is written. -/
theorem DkO.cell {w W : World} {b n cap m m0 C pa qa : Nat} {so po qo : Option Addr} {ss : List ByteArray} {xs : List Wr} (h : DkO w W b so n cap m C po pa qo qa ss xs) (h0 : SrcK w b so n cap m0) {j : Nat} (hj : j < ss.length) :
    ∃ g x, po = some ⟨g, 0, none⟩ ∧ g < W.heap.size ∧ W.cell? ⟨g, j, none⟩ = some x ∧ W.frozen? ⟨g, j, none⟩ = false ∧ ∀ d, DkO w (W.setCell ⟨g, j, none⟩ (.string d)) b so n cap m C po pa qo qa (ss.set j d) xs := by
  have hpos : 0 < ss.length := by omega
  obtain ⟨hz0, -, _⟩ | ⟨_, ho⟩ := h.o.s
  · omega
  obtain ⟨g, cap', cur, e0, hg, hcur⟩ := own_form hpos ho
  simp only [Value.slice.injEq, true_and] at e0
  obtain ⟨rfl, rfl⟩ := e0
  have hown : Own (.slice (some ⟨g, 0, none⟩) ss.length pa) g := own_of hpos rfl
  refine ⟨g, _, rfl, (h.o.s.ge g hown).2, (ho.cellAt j (by omega)).trans (List.getElem?_eq_getElem (by rw [strV_length]; exact hj)), ho.frozenAt j, fun d => ?_⟩
  have hk : Keep (fun k => k = g) W (W.setCell ⟨g, j, none⟩ (.string d)) := Keep.setCell (S := fun k => k = g) (Keep.refl _ _) (p := ⟨g, j, none⟩) rfl _
  obtain ⟨h1, h2, h3⟩ := h.other h0 (y := g) (by omega) hk
  have hl : (ss.set j d).length = ss.length := by simp
  refine ⟨?_, ⟨?_, h.o.i.keep hk (fun k hk' e => own_apart h.o.i h.o.s (by decide) k hk' (e ▸ hown))⟩, h1, h2, h3, h.c⟩
  · rw [hl]; exact h.var.keep hk (fun e => h.o.s.other h.var (by decide) (e ▸ hown))
  · rw [hl]
    refine .inr ⟨hpos, ?_⟩
    rw [← strV_set]
    exact (ho.stored j (.string d)).1
/-- One write more. -/
theorem DkO.app {w W W' : World} {b n cap m m0 C pa qa g c : Nat} {so po qo : Option Addr} {ss : List ByteArray} {xs : List Wr} {x : Wr} (h : DkO w W b so n cap m C po pa qo qa ss xs) (h0 : SrcK w b so n cap m0) (ho : W'.ownsRow (w.heap.size + 1) 94 3 (.slice (some ⟨g, 0, none⟩) (xs.length + 1) c) (xs.length + 1) (ioV xs ++ wrV x)) (hk : Keep (Own (.slice qo xs.length qa)) W W') :
    VarD W' C (.slice po ss.length pa) (.slice qo xs.length qa) ∧ VarD W' w.heap.size (.slice none 0 0) (.slice none 0 0) ∧ DkO w (W'.setCell ⟨C, 1, none⟩ (.slice (some ⟨g, 0, none⟩) (xs.length + 1) c)) b so n cap m C po pa (some ⟨g, 0, none⟩) c ss (xs ++ [x]) := by
  obtain ⟨cb, hblk⟩ := h.s.blk
  have hb := h0.lt
  have hva := h.var.keep hk (h.o.i.other h.var (by decide))
  have hra := h.r.keep hk (h.o.i.other h.r (by decide))
  have hsa := h.o.s.keep hk (own_apart h.o.s h.o.i (by decide))
  have hK : Keep (fun k => k = b ∨ w.heap.size ≤ k) w W' := h.k.trans (hk.mono (fun k e => .inr (by have := (h.o.i.ge k e).1; omega)))
  have hS : SrcK W' b so n cap m := h0.other h.s (keep_drop hK) hk (h.o.i.other hblk (by decide))
  have hia : OwnR W' (w.heap.size + 1) 94 3 (.slice (some ⟨g, 0, none⟩) (xs.length + 1) c) (xs.length + 1) (ioV (xs ++ [x])) := .inr ⟨Nat.succ_pos _, by rw [ioV_snoc]; exact ho⟩
  have hl : (xs ++ [x]).length = xs.length + 1 := by simp
  have hk2 : Keep (fun j => j = C) W' (W'.setCell ⟨C, 1, none⟩ (.slice (some ⟨g, 0, none⟩) (xs.length + 1) c)) := Keep.setCell (S := fun j => j = C) (Keep.refl _ _) (p := ⟨C, 1, none⟩) rfl _
  have hc := h.c
  have hK2 : Keep (fun k => k = b ∨ w.heap.size ≤ k) w (W'.setCell ⟨C, 1, none⟩ (.slice (some ⟨g, 0, none⟩) (xs.length + 1) c)) := hK.trans (hk2.mono (fun k e => .inr (by omega)))
  refine ⟨hva, hra, ⟨?_, ⟨hsa.keep hk2 (fun j hj e => hsa.other hva (by decide) (e ▸ hj)), ?_⟩, hra.keep hk2 (by omega), hK2, h0.other hS (keep_drop hK2) hk2 (by omega), hc⟩⟩
  · rw [hl]; exact hva.set1 _
  · rw [hl]; exact hia.keep hk2 (fun j hj e => hia.other hva (by decide) (e ▸ hj))
/-- A field is set, and the answer's variable is stored. -/
theorem DkO.poke {w W : World} {b n cap m m0 C pa qa : Nat} {so po qo : Option Addr} {ss : List ByteArray} {xs : List Wr} (h : DkO w W b so n cap m C po pa qo qa ss xs) (h0 : SrcK w b so n cap m0) (a u v : Value) :
    SrcK (((W.setCell ⟨C, 0, none⟩ a).setCell ⟨w.heap.size, 0, none⟩ u).setCell ⟨w.heap.size, 1, none⟩ v) b so n cap m ∧ Keep (fun j => j = b) w (((W.setCell ⟨C, 0, none⟩ a).setCell ⟨w.heap.size, 0, none⟩ u).setCell ⟨w.heap.size, 1, none⟩ v) ∧ OwnD (((W.setCell ⟨C, 0, none⟩ a).setCell ⟨w.heap.size, 0, none⟩ u).setCell ⟨w.heap.size, 1, none⟩ v) (w.heap.size + 1) po ss.length pa qo xs.length qa ss xs := by
  have hb := h0.lt
  have hc := h.c
  have hk1 : Keep (fun j => j = C) W (W.setCell ⟨C, 0, none⟩ a) := (Keep.refl (fun j => j = C) W).setCell (p := ⟨C, 0, none⟩) rfl _
  obtain ⟨h1, h2, h3⟩ := h.other h0 hc hk1
  have ho : OwnD (W.setCell ⟨C, 0, none⟩ a) (w.heap.size + 1) po ss.length pa qo xs.length qa ss xs := h.o.keep hk1 (fun g hg e => h.o.other h.var (by decide) (by decide) (e ▸ hg))
  have hk : Keep (fun j => j = w.heap.size) (W.setCell ⟨C, 0, none⟩ a) (((W.setCell ⟨C, 0, none⟩ a).setCell ⟨w.heap.size, 0, none⟩ u).setCell ⟨w.heap.size, 1, none⟩ v) := ((Keep.refl (fun j => j = w.heap.size) _).setCell (p := ⟨w.heap.size, 0, none⟩) rfl _).setCell (p := ⟨w.heap.size, 1, none⟩) rfl _
  have hK : Keep (fun k => k = b ∨ w.heap.size ≤ k) w (((W.setCell ⟨C, 0, none⟩ a).setCell ⟨w.heap.size, 0, none⟩ u).setCell ⟨w.heap.size, 1, none⟩ v) := h2.trans (hk.mono (fun k e => .inr (by omega)))
  exact ⟨h0.other h3 (keep_drop hK) hk (by omega), keep_drop hK, (ho.setCell (a := ⟨w.heap.size, 0, none⟩) (Nat.lt_succ_self _) _).setCell (a := ⟨w.heap.size, 1, none⟩) (Nat.lt_succ_self _) _⟩

end Go.Proofs.YtlhinknmbgijeabDoor

/- Contract of the model's anyDisk. -/
namespace Go.Proofs.YtlhinknmbgijeabDoor
open Go.RowKit
set_option linter.unusedVariables false
set_option maxRecDepth 100000

set_option maxHeartbeats 3200000 in
theorem anyDisk_k (b : Nat) (so : Option Addr) (n cap m : Nat) (w : World) (hm : m ≤ 500000) (hn : n ≤ 1048576) (hs : SrcK w b so n cap m) :
    Calls Tryd.prog 89 #[.pointer (some ⟨b, 0, none⟩)] w fun e w' => (∃ ss xs po pa qo qa, e = .returned (.agg #[.slice po ss.length pa, .slice qo xs.length qa]) ∧ LsD w' (w.heap.size + 1) po pa qo qa ss xs) ∧ Keep (fun k => k = b) w w' ∧ SrcK w' b so n cap (m + 900) := by
  have HS := hide hs
  have hlt := hs.lt
  clear hs
  have HK0 : Hid (Keep (fun k => k = b ∨ w.heap.size ≤ k) w (w.alloc (.cells #[.slice none 0 0, .slice none 0 0] 26))) := hide (Keep.of_below (Joins.below_alloc1 _ _))
  have HS0 := hide ((unhide HS).below (Joins.below_alloc1 w (.cells #[.slice none 0 0, .slice none 0 0] 26)))
  have HR0 : Hid (VarD (w.alloc (.cells #[.slice none 0 0, .slice none 0 0] 26)) w.heap.size (.slice none 0 0) (.slice none 0 0)) := hide (heap_alloc_new w _)
  obtain ⟨j0, hj, hy0, hy1, hy2⟩ := info_parts infoW
  go_enter Tryd.func89, Tryd.ntmps89
  go_wp2_with fail
  refine (disk_k b so n cap m _ (by omega) hn (unhide HS0)).mono ?_
  rintro e w1 ⟨⟨ss, xs, po, pa, qo, qa, rfl, hd, hl, h1, h2, ht, ho⟩, hk, hs1⟩
  have HLEN := hide (diskB_len hd).1
  have hl0 : 0 < ss.length := by have := unhide HLEN; omega
  have hl1 : ss.length ≤ 64 := by have := unhide HLEN; omega
  have HT := hide ht
  have HLX := hide hl
  have D0 : Hid (DkO w (w1.alloc (.cells #[.slice po ss.length pa, .slice qo xs.length qa] 26)) b so n cap (m + 600) w1.heap.size po pa qo qa ss xs) := hide (by
    have hbA := Joins.below_alloc1 w1 (.cells #[.slice po ss.length pa, .slice qo xs.length qa] 26)
    have hr1 := (unhide HR0).keep hk (by omega)
    exact ⟨VarD.new _ _ _, (ho.below hbA).base (by simp), hr1.below hbA, ((unhide HK0).trans (hk.mono (fun k e => .inl e))).trans (Keep.of_below hbA), hs1.below hbA, hr1.lt⟩)
  clear hd hl h1 h2 ht ho hk hs1 HK0 HS0 HR0
  go_wp2_with fail
  revert D0
  generalize w1.alloc (.cells #[.slice po ss.length pa, .slice qo xs.length qa] 26) = W1
  generalize w1.heap.size = C
  intro D0
  refine (next_k b so n cap (m + 600) 12 _ (by omega) (by omega) (by omega) hn (unhide D0).s).mono ?_
  rintro e w2 ⟨q, rfl, q0, q1, hs2, hk2⟩
  have D1 := hide ((unhide D0).src hlt hs2 hk2)
  clear hs2 hk2 D0
  obtain ⟨v0, v1⟩ := (unhide D1).var.cells
  have v2 := (unhide D1).var.free 0
  have v3 := (unhide D1).var.free 1
  obtain ⟨r0, r1⟩ := (unhide D1).r.cells
  have r2 := (unhide D1).r.free 0
  have r3 := (unhide D1).r.free 1
  have hcw : w.heap.size < C := (unhide D1).c
  have n1 : C ≠ w.heap.size := by omega
  have n2 : w.heap.size ≠ C := by omega
  by_cases e0 : q = 0
  · have b0 : (q == 0) = true := by simp [e0]
    obtain ⟨g, rfl, _, _, _, hcp⟩ := row_form (unhide D1).o.s (by omega)
    have hp1 : 1 < pa := by have := unhide HLEN; omega
    have HE := hide (fun a u v => (unhide D1).poke (unhide HS) a u v)
    have HTL : Hid (ss.tail.length = ss.length - 1) := hide (List.length_tail)
    clear e0 hcp
    go_wp2
    rw [← unhide HTL]
    exact bodyPost_ret (v := .agg #[.slice (some ⟨g, 1, none⟩) ss.tail.length (pa - 1), .slice qo xs.length qa]) (by simp [results, Tryd.results89, go_sem, r0, r1]) rfl ⟨⟨ss.tail, xs, _, _, _, _, rfl, ⟨((unhide HE _ _ _).2.2.ss ((unhide HT).sizes (fun t h => noD_ok h)).1).tail, (unhide HE _ _ _).2.2.ios ((unhide HT).sizes (fun t h => noD_ok h)).2, ⟨fun s hs => drw_short ((unhide HT).1 s (List.mem_of_mem_tail hs)), fun x hx => drw_short ((unhide HT).2 x hx)⟩, fun e => absurd e (by have := unhide HTL; have := unhide HLEN; omega), by have := unhide HTL; have := unhide HLX; omega⟩⟩, (unhide HE _ _ _).2.1, (unhide HE _ _ _).1.more (by omega)⟩
  have b0 : (q == 0) = false := by simp [e0]
  by_cases e1 : q = 1
  · have b1 : (q == 1) = true := by simp [e1]
    clear e0 e1
    have HI : Hid (VarI (w2.alloc (.cells #[.int .i64 4, .int .i64 0, .string ⟨#[]⟩] 94)) w2.heap.size ⟨4, 0, ⟨#[]⟩⟩) := hide (VarI.new w2 ⟨4, 0, ⟨#[]⟩⟩)
    have D2 := hide ((unhide D1).below (Joins.below_alloc1 w2 (.cells #[.int .i64 4, .int .i64 0, .string ⟨#[]⟩] 94)))
    have hz2 : w.heap.size < w2.heap.size := (unhide D1).r.lt
    have hxl := unhide HLX
    go_wp2_with (at_builtin; refine wpList_append_one rfl _ _ 24 rfl (w.heap.size + 1) 94 j0 (.agg #[.int .i64 0, .int .i64 0, .string ⟨#[]⟩]) 3 32 Tryd.underlying24 hj hy0 hy1 hy2 rfl (by omega) qo xs.length qa (ioV xs) rfl (unhide D2).o.i (by simp; omega) ⟨w2.heap.size, 0, none⟩ _ (wrV ⟨4, 0, ⟨#[]⟩⟩) rfl rfl (unhide HI).news (wrV_one _) (by unfold maxLen; omega) (by omega) ?_; intro g cap3 w3 ho3 hk3; have HA := hide ((unhide D2).app (unhide HS) ho3 hk3); obtain ⟨p0, p1⟩ := (unhide HA).1.cells; have p2 := (unhide HA).1.free 1; obtain ⟨s0, s1⟩ := (unhide HA).2.1.cells; have s2 := (unhide HA).2.1.free 0; have s3 := (unhide HA).2.1.free 1; clear ho3 hk3)
    have HE := hide (fun u v => (unhide HA).2.2.ret (unhide HS) u v)
    have HXN : Hid ((xs ++ [(⟨4, 0, ⟨#[]⟩⟩ : Wr)]).length = xs.length + 1) := hide (by simp)
    have HT2 := hide ((unhide HT).snoc (x := ⟨4, 0, ⟨#[]⟩⟩) (Nat.zero_le _))
    rw [← unhide HXN] at HE ⊢
    exact bodyPost_ret (v := .agg #[.slice po ss.length pa, .slice (some ⟨g, 0, none⟩) (xs ++ [(⟨4, 0, ⟨#[]⟩⟩ : Wr)]).length cap3]) (by simp [results, Tryd.results89, go_sem, s0, s1]) rfl ⟨⟨ss, xs ++ [⟨4, 0, ⟨#[]⟩⟩], po, pa, _, _, rfl, LsD.of (unhide HE _ _).2.2 ((unhide HT2).mono (fun t h => drw_short h)) ((unhide HT2).sizes (fun t h => noD_ok h)) (by rw [unhide HXN]; omega)⟩, (unhide HE _ _).2.1, (unhide HE _ _).1.more (by omega)⟩
  have b1 : (q == 1) = false := by simp [e1]
  by_cases e2 : q = 2
  · have b2 : (q == 2) = true := by simp [e2]
    clear e0 e1 e2
    go_wp2_with fail
    go_region_with (first
      | (go_at_call 99; refine (some_k b so n cap (m + 600 + 3) 81 _ (by omega) (by omega) hn ?_).mono ?_; exact (unhide D1).s.below ((Below.refl _ _).drew); rintro e w3 ⟨tx, rfl, htx, hs3, hk3⟩; have D3 := hide (((unhide D1).below ((Below.refl _ _).drew)).src hlt hs3 hk3); have HTX := hide htx; obtain ⟨t0, t1⟩ := (unhide D3).var.cells; obtain ⟨g, xx, rfl, hgl, hgc, hgf, hgs⟩ := (unhide D3).cell (unhide HS) hl0; have HGS := hide hgs; clear hs3 hk3 htx hgs))
    all_goals
      have D4 := hide (unhide HGS tx)
      clear HGS hgc hgf hgl t0 t1 v0 v1 v2 v3 r0 r1 r2 r3 D3 D1
      revert D4
      generalize w3.setCell ⟨g, 0, none⟩ (.string tx) = W4
      intro D4
      have HTS := hide (AllT.set (j := 0) ((unhide HT).mono (fun t h => (show Drw t ∧ t.size ≤ maxLen from ⟨drw_short h, noD_ok h⟩))) (d := tx) ⟨.inr (.inl (by rw [unhide HTX]; decide)), by rw [unhide HTX]; decide⟩)
      have HSN : Hid ((ss.set 0 tx).length ≤ 64) := hide (by rw [List.length_set]; exact hl1)
      obtain ⟨t0, t1⟩ := (unhide D4).var.cells
      obtain ⟨r0, r1⟩ := (unhide D4).r.cells
      have r2 := (unhide D4).r.free 0
      have r3 := (unhide D4).r.free 1
      have HE := hide (fun u v => (unhide D4).ret (unhide HS) u v)
      go_wp2
      exact bodyPost_ret (v := .agg #[.slice (some ⟨g, 0, none⟩) (ss.set 0 tx).length pa, .slice qo xs.length qa]) (by simp [results, Tryd.results89, go_sem, r0, r1]) rfl ⟨⟨ss.set 0 tx, xs, _, _, _, _, rfl, LsD.of (unhide HE _ _).2.2 ((unhide HTS).mono (fun t h => h.1)) ((unhide HTS).sizes (fun t h => h.2)) ⟨unhide HSN, by have := unhide HLX; omega⟩⟩, (unhide HE _ _).2.1, (unhide HE _ _).1.more (by omega)⟩
  have b2 : (q == 2) = false := by simp [e2]
  clear e0 e1 e2
  have HE := hide (fun u v => (unhide D1).ret (unhide HS) u v)
  go_wp2
  exact bodyPost_ret (v := .agg #[.slice po ss.length pa, .slice qo xs.length qa]) (by simp [results, Tryd.results89, go_sem, r0, r1]) rfl ⟨⟨ss, xs, po, pa, qo, qa, rfl, LsD.of (unhide HE _ _).2.2 ((unhide HT).mono (fun t h => drw_short h)) ((unhide HT).sizes (fun t h => noD_ok h)) (by have := unhide HLX; omega)⟩, (unhide HE _ _).2.1, (unhide HE _ _).1.more (by omega)⟩

end Go.Proofs.YtlhinknmbgijeabDoor

/- Contract of the model's deltaDisk. -/
namespace Go.Proofs.YtlhinknmbgijeabDoor
open Go.RowKit
set_option linter.unusedVariables false
set_option maxRecDepth 100000

/-- The answer is stored into its variable. -/
theorem LsD.ret {W : World} {B R pa qa : Nat} {po qo : Option Addr} {ss : List ByteArray} {xs : List Wr} (h : LsD W B po pa qo qa ss xs) (hr : VarD W R (.slice none 0 0) (.slice none 0 0)) (hR : R < B) :
    LsD ((W.setCell ⟨R, 0, none⟩ (.slice po ss.length pa)).setCell ⟨R, 1, none⟩ (.slice qo xs.length qa)) B po pa qo qa ss xs ∧ Keep (fun j => j = R) W ((W.setCell ⟨R, 0, none⟩ (.slice po ss.length pa)).setCell ⟨R, 1, none⟩ (.slice qo xs.length qa)) := by
  obtain ⟨hd, hk⟩ := DV.store (ca := pa) (cb := qa) hr h.s h.i
  exact ⟨⟨hd.s, hd.i, h.t, fun e => ((h.o e).setCell (a := ⟨R, 0, none⟩) hR _).setCell (a := ⟨R, 1, none⟩) hR _, h.l⟩, hk⟩
theorem LsD.base {W : World} {B B' pa qa : Nat} {po qo : Option Addr} {ss : List ByteArray} {xs : List Wr} (h : LsD W B po pa qo qa ss xs) (hB : B' ≤ B) : LsD W B' po pa qo qa ss xs := ⟨h.s, h.i, h.t, fun e => (h.o e).base hB, h.l⟩

set_option maxHeartbeats 3200000 in
theorem deltaDisk_k (b : Nat) (so : Option Addr) (n cap m : Nat) (w : World) (hm : m ≤ 400000) (hn : n ≤ 1048576) (hs : SrcK w b so n cap m) :
    Calls Tryd.prog 62 #[.pointer (some ⟨b, 0, none⟩)] w fun e w' => (∃ ss xs po pa qo qa, e = .returned (.agg #[.slice po ss.length pa, .slice qo xs.length qa]) ∧ LsD w' (w.heap.size + 1) po pa qo qa ss xs) ∧ Keep (fun k => k = b) w w' ∧ SrcK w' b so n cap (m + 2000) := by
  have HS := hide hs
  have hlt := hs.lt
  clear hs
  have HK0 : Hid (Keep (fun k => k = b ∨ w.heap.size ≤ k) w (w.alloc (.cells #[.slice none 0 0, .slice none 0 0] 26))) := hide (Keep.of_below (Joins.below_alloc1 _ _))
  have HS0 := hide ((unhide HS).below (Joins.below_alloc1 w (.cells #[.slice none 0 0, .slice none 0 0] 26)))
  have HR0 : Hid (VarD (w.alloc (.cells #[.slice none 0 0, .slice none 0 0] 26)) w.heap.size (.slice none 0 0) (.slice none 0 0)) := hide (heap_alloc_new w _)
  go_enter Tryd.func62, Tryd.ntmps62
  go_wp2_with fail
  refine (disk_k b so n cap m _ (by omega) hn (unhide HS0)).mono ?_
  rintro e w1 ⟨⟨ss0, xs0, po0, pa0, qo0, qa0, rfl, hd, hl, h1, h2, ht, ho⟩, hk, hs1⟩
  have HD0 := hide hd
  have HT0 := hide (ht.mono (fun t h => drw_short h))
  have HL0 := hide hl
  have D0 : Hid (DkO w (w1.alloc (.cells #[.slice po0 ss0.length pa0, .slice qo0 xs0.length qa0] 26)) b so n cap (m + 600) w1.heap.size po0 pa0 qo0 qa0 ss0 xs0) := hide (by
    have hbA := Joins.below_alloc1 w1 (.cells #[.slice po0 ss0.length pa0, .slice qo0 xs0.length qa0] 26)
    have hr1 := (unhide HR0).keep hk (by omega)
    exact ⟨VarD.new _ _ _, (ho.below hbA).base (by simp), hr1.below hbA, ((unhide HK0).trans (hk.mono (fun k e => .inl e))).trans (Keep.of_below hbA), hs1.below hbA, hr1.lt⟩)
  clear hd hl h1 h2 ht ho hk hs1 HK0 HS0 HR0
  go_wp2_with fail
  revert D0
  generalize w1.alloc (.cells #[.slice po0 ss0.length pa0, .slice qo0 xs0.length qa0] 26) = W1
  generalize w1.heap.size = C
  intro D0
  refine (next_k b so n cap (m + 600) 4 _ (by omega) (by omega) (by omega) hn (unhide D0).s).mono ?_
  rintro e w2 ⟨q, rfl, q0, q1, hs2, hk2⟩
  have D1 := hide ((unhide D0).src hlt hs2 hk2)
  clear hs2 hk2 D0
  obtain ⟨j0, rfl⟩ := Int.eq_ofNat_of_zero_le q0
  go_wp2
  go_loopw [4] (fun i wr => ∃ (j : Nat) (ss : List ByteArray) (xs : List Wr) (po : Option Addr) (pa : Nat) (qo : Option Addr) (qa : Nat), j ≤ 3 ∧ i = .int .i64 j ∧ xs.length ≤ 19 ∧ Hid (diskB ss xs = true) ∧ Hid (AllT Drw ss xs) ∧ Hid (DkO w wr b so n cap (m + 700 - 20 * j) C po pa qo qa ss xs)) (fun i _ => (intOf i).toNat)
  case atStart => exact ⟨j0, ss0, xs0, _, _, _, _, by omega, rfl, unhide HL0, HD0, HT0, hide ((unhide D1).more (by omega))⟩
  case round =>
    clear HD0 HT0 HL0 D1
    obtain ⟨j, ss, xs, po, pa, qo, qa, hj3, rfl, hxl, HR, HT, HD⟩ := hrel
    have HZ := hide (right_ss (unhide HR))
    have HZX := hide (right_xs (unhide HR))
    obtain ⟨v0, v1⟩ := (unhide HD).var.cells
    by_cases hj : 0 < j
    · go_wp2_with fail
      go_region_with (first
        | (go_at_call 88; refine (delta_k b so n cap (m + 700 - 20 * j) _ (by omega) hn ?_).mono ?_; exact (unhide HD).s.below ((Below.refl _ _).drew); rintro e wA ⟨dh, dg, ds, rfl, k1, k2, k3, hsA, hkA⟩; have DA := hide (((unhide HD).below ((Below.refl _ _).drew)).src hlt hsA hkA); obtain ⟨a0, a1⟩ := (unhide DA).var.cells; clear hsA hkA)
        | (go_at_call 87; refine (l04Put_any po qo pa qa ss xs dh dg ds _ (unhide HR) (by omega) (dltB_iff.2 ⟨k1, ⟨k2.1, by omega⟩, ⟨k3.1, by omega⟩⟩) ?_ ?_).mono ?_; exact (unhide DA).o.ss (unhide HZ); exact (unhide DA).o.ios (unhide HZX); rintro e wB ⟨po2, pa2, qo2, qa2, rfl, ho, hbB⟩; have DB := hide ((unhide DA).below hbB); obtain ⟨b0, b1⟩ := (unhide DB).var.cells; have z0 := (unhide DB).var.free 0; have z1 := (unhide DB).var.free 1; have hzA : w.heap.size < wA.heap.size := (unhide DA).r.lt; have HO := hide ho; clear ho hbB))
      all_goals
        have F1 := hide (pS_right (g := dg) (s := ds) (unhide HR) (by omega) k1.1 k1.2)
        have F2 := hide ((unhide HT).pS dh dg ds (drw_delta k1 k2 k3))
        have F3 : (pX xs dh dg ds).length ≤ 19 := Nat.le_trans (pX_le xs dh dg ds) hxl
        have HLN := hide (pS_len ss xs dh dg ds)
        have HO2 : Hid (OwnD wB (w.heap.size + 1) po2 (pS ss xs dh dg ds).length pa2 qo2 (pX xs dh dg ds).length qa2 (pS ss xs dh dg ds) (pX xs dh dg ds)) := hide (by rw [unhide HLN]; exact (unhide HO).base (by omega))
        have S' := (unhide DB).store (unhide HS) (unhide HO2)
        rw [unhide HLN] at S'
        have S2 := hide (S'.more (m' := m + 700 - 20 * (j - 1)) (by omega))
        clear S' DA DB HO HO2 a0 a1 b0 b1 z0 z1 v0 v1 HD HR HT HZ HZX
        revert S2 F1 F2 F3
        generalize (wB.setCell ⟨C, 0, none⟩ (.slice po2 ss.length pa2)).setCell ⟨C, 1, none⟩ (.slice qo2 (pX xs dh dg ds).length qa2) = WF
        generalize pS ss xs dh dg ds = ss2
        generalize pX xs dh dg ds = xs2
        intro F1 F2 F3 S2
        go_wp2
        go_roundw
        case rel => exact ⟨j - 1, ss2, xs2, po2, pa2, qo2, qa2, by omega, by go_num, F3, F1, F2, S2⟩
        case measure => simp [intOf]; omega
    · go_wp2_with fail
      refine (chance_k b so n cap _ 12 _ (by omega) (by omega) (by omega) hn (unhide HD).s).mono ?_
      rintro e w3 ⟨qc, rfl, hs3, hk3⟩
      have D3 := hide ((unhide HD).src hlt hs3 hk3)
      clear hs3 hk3 v0 v1
      cases qc with
      | true =>
        go_wp2_with fail
        refine (anyDisk_k b so n cap _ _ (by omega) hn (unhide D3).s).mono ?_
        rintro e w4 ⟨⟨ss4, xs4, po4, pa4, qo4, qa4, rfl, hL⟩, hk4, hs4⟩
        have hz3 : w.heap.size < w3.heap.size := (unhide D3).r.lt
        have HR4 := hide ((unhide D3).r.keep hk4 (by omega))
        have HK4 := hide ((unhide D3).k.trans (hk4.mono (fun k e => .inl e)))
        have HS4 := hide hs4
        have HL4 := hide (LsD.ret (hL.base (B' := w.heap.size + 1) (by omega)) (unhide HR4) (Nat.lt_succ_self _))
        clear hL hk4 hs4
        obtain ⟨r0, r1⟩ := (unhide HR4).cells
        have r2 := (unhide HR4).free 0
        have r3 := (unhide HR4).free 1
        go_wp2
        have hK := (unhide HK4).trans ((unhide HL4).2.mono (fun k e => .inr (by omega)))
        exact bodyPost_ret (v := .agg #[.slice po4 ss4.length pa4, .slice qo4 xs4.length qa4]) (by simp [results, Tryd.results62, go_sem, r0, r1]) rfl ⟨⟨ss4, xs4, _, _, _, _, rfl, (unhide HL4).1⟩, keep_drop hK, ((unhide HS).other (unhide HS4) (keep_drop hK) (unhide HL4).2 (by omega)).more (by omega)⟩
      | false =>
        have HLM : Hid (ss.length ≤ 1048576) := hide (by have := (diskB_len (unhide HR)).1; omega)
        have HL64 : Hid (ss.length ≤ 64) := hide (by have := (diskB_len (unhide HR)).1; omega)
        obtain ⟨v0, v1⟩ := (unhide D3).var.cells
        go_wp2_with fail
        refine (l01Own_any po qo pa qa ss xs _ (unhide HLM) (by omega) ((unhide D3).o.ss (unhide HZ)) ((unhide D3).o.ios (unhide HZX))).mono ?_
        rintro e w4 ⟨po4, pa4, qo4, qa4, rfl, ho, hb4⟩
        have hz3 : w.heap.size < w3.heap.size := (unhide D3).r.lt
        have D4 := hide ((unhide D3).below hb4)
        have HL4 := hide (LsD.ret ((LsD.of ho (unhide HT) ⟨unhide HZ, unhide HZX⟩ ⟨unhide HL64, by omega⟩).base (B' := w.heap.size + 1) (by omega)) (unhide D4).r (Nat.lt_succ_self _))
        clear ho hb4 v0 v1
        obtain ⟨r0, r1⟩ := (unhide D4).r.cells
        have r2 := (unhide D4).r.free 0
        have r3 := (unhide D4).r.free 1
        go_wp2
        have hK := (unhide D4).k.trans ((unhide HL4).2.mono (fun k e => .inr (by omega)))
        exact bodyPost_ret (v := .agg #[.slice po4 ss.length pa4, .slice qo4 xs.length qa4]) (by simp [results, Tryd.results62, go_sem, r0, r1]) rfl ⟨⟨ss, xs, _, _, _, _, rfl, (unhide HL4).1⟩, keep_drop hK, ((unhide HS).other (unhide D4).s (keep_drop hK) (unhide HL4).2 (by omega)).more (by omega)⟩

end Go.Proofs.YtlhinknmbgijeabDoor
