import Derived.Test.YtmkegkpnomcnhabRows
import Derived.Test.YtmkegkpnomcnhabPart20
import Derived.WalkKit
import Derived.WalkSpells
import Derived.KernelRfl
import Derived.LoopN
import Derived.BigQuiet
import Derived.Deep.QuietTactic
import Derived.Test.YtmkegkpnomcnhabPart1
import Derived.Test.YtmkegkpnomcnhabPart2
import Derived.Test.YtmkegkpnomcnhabPart3
import Derived.Test.YtmkegkpnomcnhabPart9
import Derived.Test.YtmkegkpnomcnhabPart10
import Derived.Test.YtmkegkpnomcnhabPart13
import Derived.Test.YtmkegkpnomcnhabPart4
import Derived.Test.YtmkegkpnomcnhabPart7
import Derived.Test.YtmkegkpnomcnhabPart6
import Derived.Test.YtmkegkpnomcnhabPart18

/- Contracts of the model's l11Diff, DiffUpdates. (Made ahead of stage 11.) -/
namespace Go.Proofs.Ytmkegkpnomcnhab
open Go.RowKit
set_option linter.unusedVariables false
set_option maxRecDepth 100000

theorem tabU_sz : ∀ (ss : List Snp) (i : Nat), (∀ s ∈ ss, s.table.length ≤ 12) → ∀ u ∈ tabU i ss, u.data.size ≤ 80
  | [], i, _, u, hu => by simp [tabU] at hu
  | s :: ss, i, h, u, hu => by
    simp only [tabU, List.mem_cons] at hu
    rcases hu with rfl | hu
    · have := h s (by simp)
      have e : (encTb s.table).size = 4 + s.table.length * 4 := sealS_size 3 s.table
      simp only
      omega
    · exact tabU_sz ss (i + 1) (fun s hs => h s (by simp [hs])) u hu
theorem allU_sz {m : Img} (h : ImR m) : ∀ u ∈ allU m, u.data.size ≤ 80 := fun u hu => by
  unfold allU at hu
  rw [List.mem_append, List.mem_append] at hu
  rcases hu with (hu | hu) | hu
  · have h1 : (sealS 1 (supL m)).size = 4 + (supL m).length * 4 := sealS_size 1 _
    have h2 : (encT m.refs).size = 20 := sealS_size 2 (ctNs m.refs)
    have h3 : (encTb m.table).size = 4 + m.table.length * 4 := sealS_size 3 m.table
    have h4 : (supL m).length = m.snaps.length + 1 := by simp [supL]
    have h5 := h.few
    have h6 := tbB_len h.table
    simp only [headU, List.mem_cons, List.not_mem_nil, or_false] at hu
    rcases hu with rfl | rfl | rfl <;> simp only <;> omega
  · exact tabU_sz m.snaps 0 (fun s hs => tbB_len (h.snaps s hs).2) u hu
  · unfold dataU at hu
    obtain ⟨c, _, hc⟩ := List.mem_flatMap.1 hu
    unfold datU at hc
    split at hc
    · rw [List.mem_singleton] at hc
      subst hc
      have : (sealS 4 [m.data.getD c 0]).size = 8 := sealS_size 4 _
      simp only
      omega
    · simp at hc
/-- Whether one of these updates is this one, as far as it has gone. -/
def anyK (X : List Up) (u : Up) (k : Nat) : Bool := (X.take k).any fun v => upEq v u
theorem anyK_succ {X : List Up} {u : Up} {k : Nat} (hk : k < X.length) : anyK X u (k + 1) = (anyK X u k || upEq X[k] u) := by
  unfold anyK
  rw [List.take_succ_eq_append_getElem hk, List.any_append]; simp
theorem anyK_all (X : List Up) (u : Up) : anyK X u X.length = X.any fun v => upEq v u := by rw [anyK, List.take_length]
def difK (X Y : List Up) (k : Nat) : List Up := (Y.take k).filter fun u => !(X.any fun v => upEq v u)
theorem difK_succ {X Y : List Up} {k : Nat} (hk : k < Y.length) : difK X Y (k + 1) = if (X.any fun v => upEq v Y[k]) = true then difK X Y k else difK X Y k ++ [Y[k]] := by
  unfold difK
  rw [List.take_succ_eq_append_getElem hk, List.filter_append]
  cases h : X.any fun v => upEq v Y[k] <;> simp [h]
theorem difK_all (X Y : List Up) : difK X Y Y.length = Y.filter fun u => !(X.any fun v => upEq v u) := by rw [difK, List.take_length]

end Go.Proofs.Ytmkegkpnomcnhab

/- The contract of the model's l11Format. (Made ahead of stage 11.) -/
namespace Go.Proofs.Ytmkegkpnomcnhab
open Go.RowKit
set_option linter.unusedVariables false
set_option maxRecDepth 100000

/-- An image's updates as writes of a host. -/
def fmW (h : Int) (us : List Up) : List Wr := us.map fun u => ⟨h, u.at_, u.data⟩
theorem fmW_len (h : Int) (us : List Up) : (fmW h us).length = us.length := by simp [fmW]
theorem fmW_succ {h : Int} {us : List Up} {k : Nat} (hk : k < us.length) (xs : List Wr) : xs ++ (fmW h us).take (k + 1) = xs ++ (fmW h us).take k ++ [⟨h, us[k].at_, us[k].data⟩] := by
  rw [List.take_succ_eq_append_getElem (by rw [fmW_len]; exact hk), List.append_assoc]
  simp [fmW]

/-- A row of updates, behind a store into a variable that lies before it. -/
theorem UpS.setC {W : World} {B : Nat} {qo : Option Addr} {n qa : Nat} {us : List Up} (h : OwnR W B 55 2 (.slice qo n qa) n (upsV us)) {x : Nat} (hx : x < B) (u v : Value) : OwnR ((W.setCell ⟨x, 0, none⟩ u).setCell ⟨x, 1, none⟩ v) B 55 2 (.slice qo n qa) n (upsV us) := (h.setCell (a := ⟨x, 0, none⟩) hx u).setCell (a := ⟨x, 1, none⟩) hx v

set_option maxHeartbeats 1600000 in
theorem l11Format_any (ao bo : Option Addr) (ca cb : Nat) (ss : List ByteArray) (xs : List Wr) (h : Int) (n : Nat) (S : List ByteArray) (Y : List Wr) (w : World) (hn : n ≤ 1000) (hR : ImR (imNew n)) (hd : diskB ss (xs ++ fmW h (allU (imNew n))) = true)
    (hS : putW ss (ofH h (xs ++ fmW h (allU (imNew n)))) = S) (hY : dropF h (xs ++ fmW h (allU (imNew n))) = Y) (h1 : Ss w ao ss) (h2 : Ios w bo xs) :
    Calls Try.prog 16 #[.agg #[.slice ao ss.length ca, .slice bo xs.length cb], .int .i64 h, .int .i64 n] w fun e w' => ∃ po pa qo qa, e = .returned (.agg #[.slice po ss.length pa, .slice qo Y.length qa]) ∧ OwnD w' w.heap.size po ss.length pa qo Y.length qa S Y ∧ Below w.heap.size w w' := by
  have HA := hide (Joins.below_alloc2 w (.cells #[.slice ao ss.length ca, .slice bo xs.length cb] 29) (.cells #[.slice none 0 0, .slice none 0 0] 29))
  have HR : Hid (VarD ((w.alloc (.cells #[.slice ao ss.length ca, .slice bo xs.length cb] 29)).alloc (.cells #[.slice none 0 0, .slice none 0 0] 29)) (w.heap.size + 1) (.slice none 0 0) (.slice none 0 0)) := hide (by have := VarD.new (w.alloc (.cells #[.slice ao ss.length ca, .slice bo xs.length cb] 29)) (.slice none 0 0) (.slice none 0 0); simpa using this)
  have H0 : Hid (DkA w ((w.alloc (.cells #[.slice ao ss.length ca, .slice bo xs.length cb] 29)).alloc (.cells #[.slice none 0 0, .slice none 0 0] 29)) w.heap.size ao ca bo cb ss xs) := hide ⟨(VarD.new w _ _).below (Joins.below_alloc1 _ _), h1.below (unhide HA), h2.below (unhide HA), unhide HA⟩
  have HIR := hide hR
  have HZA := hide (right_sz2 hd).2
  have HUZ : Hid (∀ u ∈ allU (imNew n), u.data.size ≤ maxLen) := hide (fun u hu => by have := allU_sz hR u hu; unfold maxLen; omega)
  have HDB := hide hd
  have HS := hide hS
  have HY := hide hY
  have hln : xs.length + (allU (imNew n)).length ≤ 200 := by have := (diskB_len hd).2; rw [List.length_append, fmW_len] at this; omega
  clear hR hd hS hY h1 h2
  go_enter Try.func16, Try.ntmps16
  go_upto_region 1 with fail
  revert H0
  revert HR
  revert HA
  generalize hW0 : ((w.alloc _).alloc _) = W0
  have hsz0 : w.heap.size + 1 < W0.heap.size := by rw [← hW0]; simp
  clear hW0
  intro HA HR H0
  go_wp2_with fail
  refine (l10New_any n _ hn).mono ?_
  rintro e w1 ⟨a, rfl, ho1, hb1⟩
  have HI1 := hide (ho1.shows (fun s hs => by cases hs))
  have HB1 := hide hb1
  clear ho1 hb1
  go_wp2_with fail
  refine (l11All_any a (imNew n) _ (unhide HIR) (unhide HI1)).mono ?_
  rintro e w2 ⟨uo, ua, rfl, hu⟩
  have HB2 := hide (fr (unhide HB1) hu.k)
  have HU2 := hide (hu.o.base (unhide HB1).size)
  clear hu HI1 HB1 HIR
  revert hln
  revert HY
  revert HS
  revert HDB
  revert HUZ
  revert HZA
  revert HU2
  generalize allU (imNew n) = us
  intro HU2 HZA HUZ HDB HS HY hln
  have HD2 := hide ((unhide H0).next (unhide HB2))
  have HR2 := hide ((unhide HR).below (unhide HB2))
  clear HB2 HA H0 HR
  go_wp2
  go_loopw [8] (fun i wr => ∃ (k : Nat) (XX : List Wr) (qo : Option Addr) (qa : Nat), k ≤ us.length ∧ i = .int .i64 k ∧ Hid (xs ++ (fmW h us).take k = XX) ∧ Hid (DkA w wr w.heap.size ao ca qo qa ss XX) ∧ Hid (VarD wr (w.heap.size + 1) (.slice none 0 0) (.slice none 0 0)) ∧ Hid (OwnR wr W0.heap.size 55 2 (.slice uo us.length ua) us.length (upsV us))) (fun i _ => us.length - (intOf i).toNat)
  case atStart => exact ⟨0, xs, bo, cb, Nat.zero_le _, rfl, hide (by simp), HD2, HR2, HU2⟩
  case round =>
    clear HD2 HR2 HU2
    obtain ⟨k, XX, qo, qa, hk, rfl, HE, HD, HR, HU⟩ := hrel
    by_cases hlt : k < us.length
    · have HN : Hid (xs ++ (fmW h us).take (k + 1) = XX ++ [⟨h, us[k].at_, us[k].data⟩]) := hide (by rw [fmW_succ hlt, unhide HE])
      have hXl : XX.length < 200 := by rw [← unhide HE, List.length_append, List.length_take, fmW_len]; omega
      have HZ : Hid (∀ y ∈ XX ++ [(⟨h, us[k].at_, us[k].data⟩ : Wr)], y.data.size ≤ maxLen) := hide (fun y hy => by
        rw [← unhide HN] at hy
        refine unhide HZA y ?_
        rcases List.mem_append.1 hy with h1 | h1
        · exact List.mem_append_left _ h1
        · exact List.mem_append_right _ (List.mem_of_mem_take h1))
      have hki : (k : Int) < (us.length : Int) := by omega
      have HUS := hide (ownUps (unhide HU) (unhide HUZ))
      obtain ⟨b, off, rfl, _, _, _⟩ := unhide HUS k hlt
      go_upto_region 5 with fail
      have hS0 : Below wr.heap.size wr wr.drew := (Below.refl _ _).drew
      have HCL : Hid (∀ W, Below wr.heap.size wr W → W.cell? ⟨w.heap.size, 0, none⟩ = some (.slice ao ss.length ca) ∧ W.cell? ⟨w.heap.size, 1, none⟩ = some (.slice qo XX.length qa) ∧ W.cell? ⟨b, off + k * 2, none⟩ = some (.int .i64 us[k].at_) ∧ W.cell? ⟨b, off + k * 2 + 1, none⟩ = some (.string us[k].data)) := hide (fun W hW => by
        obtain ⟨d0, d1⟩ := ((unhide HD).next hW).v.cells
        obtain ⟨b', off', e, c0, c1, _⟩ := (unhide HUS).below hW k hlt
        cases e
        exact ⟨d0, d1, c0, c1⟩)
      refine wp_region_ord (fun w' => Below wr.heap.size wr w') [0, 1, 2, 3, 4, 5, 6, 7, 8, 9, 10, 11, 12] [(0, 0), (1, 0), (2, 0), (3, 0), (4, 0), (5, 0), (6, 0), (7, 0), (8, 0), (9, 0), (10, 0), (11, 0), (12, 0), (13, 3), (14, 3)] (by kernel_rfl) (by kernel_rfl) rfl (by kernel_rfl) ?_
      refine ord_read (.agg #[.slice ao ss.length ca, .slice qo XX.length qa]) rfl rfl hS0 (fun W hW => by obtain ⟨k0, k1, k2, k3⟩ := unhide HCL W hW; go_simp) ?_
      refine ord_read (.int .i64 h) rfl rfl hS0 (fun W hW => by go_simp) ?_
      refine ord_read (.slice (some ⟨b, off, none⟩) us.length ua) rfl rfl hS0 (fun W hW => by go_simp) ?_
      refine ord_read (.int .i64 k) rfl rfl hS0 (fun W hW => by go_simp) ?_
      refine ord_read (.pointer (some ⟨b, off + k * 2, none⟩)) rfl rfl hS0 (fun W hW => by go_simp) ?_
      refine ord_read (.pointer (some ⟨b, off + k * 2, none⟩)) rfl rfl hS0 (fun W hW => by go_simp) ?_
      refine ord_read (.int .i64 us[k].at_) rfl rfl hS0 (fun W hW => by obtain ⟨k0, k1, k2, k3⟩ := unhide HCL W hW; go_simp) ?_
      refine ord_read (.slice (some ⟨b, off, none⟩) us.length ua) rfl rfl hS0 (fun W hW => by go_simp) ?_
      refine ord_read (.int .i64 k) rfl rfl hS0 (fun W hW => by go_simp) ?_
      refine ord_read (.pointer (some ⟨b, off + k * 2, none⟩)) rfl rfl hS0 (fun W hW => by go_simp) ?_
      refine ord_read (.pointer (some ⟨b, off + k * 2 + 1, none⟩)) rfl rfl hS0 (fun W hW => by go_simp) ?_
      refine ord_read (.string us[k].data) rfl rfl hS0 (fun W hW => by obtain ⟨k0, k1, k2, k3⟩ := unhide HCL W hW; go_simp) ?_
      refine ord_read (.agg #[.int .i64 h, .int .i64 us[k].at_, .string us[k].data]) rfl rfl hS0 (fun W hW => by go_simp) ?_
      refine ord_alone rfl rfl ?_
      intro K hK
      unfold Oper.wp
      go_simp
      refine (l01Write_len ao qo ss.length XX.length ca qa XX ⟨h, us[k].at_, us[k].data⟩ _ rfl (by omega) ((unhide HD).i.below hS0) (unhide HZ)).mono ?_
      rintro e w3 ⟨g3, cap3, rfl, hi3, hb3⟩
      have HB3 := hide (fr hS0 hb3)
      have HI3 := hide hi3
      clear hi3 hb3
      refine hK _ _ ?_
      clear hK K
      have HD3 := hide ((unhide HD).next (unhide HB3))
      have HR3 := hide ((unhide HR).below (unhide HB3))
      have HU3 := hide ((unhide HU).below (unhide HB3))
      obtain ⟨e0, e1⟩ := (unhide HD3).v.cells
      have f0 := (unhide HD3).v.free 0
      have f1 := (unhide HD3).v.free 1
      refine ord_alone rfl rfl ?_
      intro K hK
      unfold Oper.wp
      go_simp
      refine hK _ _ ?_
      clear hK K
      refine ord_done ?_
      have HP : Hid (DkA w ((w3.setCell ⟨w.heap.size, 0, none⟩ (.slice ao ss.length ca)).setCell ⟨w.heap.size, 1, none⟩ (.slice (some ⟨g3, 0, none⟩) (XX.length + 1) cap3)) w.heap.size ao ca (some ⟨g3, 0, none⟩) cap3 ss (XX ++ [⟨h, us[k].at_, us[k].data⟩])) := hide ((unhide HD3).put (Nat.le_refl _) rfl (by simp) (unhide HD3).s (unhide HI3))
      have HRP := hide (((unhide HR3).apart (y := w.heap.size) (by omega) 0 (.slice ao ss.length ca)).apart (y := w.heap.size) (by omega) 1 (.slice (some ⟨g3, 0, none⟩) (XX.length + 1) cap3))
      have HUP := hide (UpS.setC (unhide HU3) (x := w.heap.size) (by omega) (.slice ao ss.length ca) (.slice (some ⟨g3, 0, none⟩) (XX.length + 1) cap3))
      clear e0 e1 f0 f1 HD3 HR3 HU3 HB3 HI3 hS0 HCL HUS HD HR HU HZ HE
      go_wp2
      go_roundw
      case rel => exact ⟨k + 1, _, _, _, by omega, by go_num, HN, HP, HRP, HUP⟩
      case measure => simp [intOf]; omega
    · obtain rfl : k = us.length := by omega
      have hXX : xs ++ fmW h us = XX := by have := unhide HE; rwa [List.take_of_length_le (by rw [fmW_len]; exact Nat.le_refl _)] at this
      clear HE
      rw [hXX] at HS HY HDB
      clear hXX HZA
      obtain ⟨d0, d1⟩ := (unhide HD).v.cells
      go_wp2_with fail
      refine (l01Flush_put ao qo ca qa ss XX h ss.length XX.length S Y _ rfl rfl (unhide HS) (unhide HY) (unhide HDB) (unhide HD).s (unhide HD).i).mono ?_
      rintro e w3 ⟨po3, pa3, qo3, qa3, rfl, ho, hb⟩
      have HR3 := hide ((unhide HR).below hb)
      obtain ⟨r0, r1⟩ := (unhide HR3).cells
      have rf0 := (unhide HR3).free 0
      have rf1 := (unhide HR3).free 1
      have HO := hide (fun u v => md_end (unhide HR3) (fr (unhide HD).k hb) (Nat.le_succ _) (ho.base (unhide HD).k.size) u v)
      clear ho hb d0 d1
      go_wp2
      refine bodyPost_ret (v := .agg #[.slice po3 ss.length pa3, .slice qo3 Y.length qa3]) (by simp [results, Try.results16, go_sem, r0, r1]) rfl ?_
      exact ⟨po3, pa3, qo3, qa3, rfl, unhide HO _ _⟩

end Go.Proofs.Ytmkegkpnomcnhab

/- The contract of the model's Format. (Made ahead of stage 11.) -/
namespace Go.Proofs.Ytmkegkpnomcnhab
open Go.RowKit
set_option linter.unusedVariables false
set_option maxRecDepth 100000

/-- What Format answers. -/
def fuW (h : Int) (n : Nat) : List Wr := fmW h (allU (imNew n))
def foC (ss : List ByteArray) (xs : List Wr) (h n : Int) : Int := if hostC ss xs h = 0 then (if inB n 0 12 = true then (if 200 < xs.length + 3 then 7 else 0) else 4) else hostC ss xs h
def foS (ss : List ByteArray) (xs : List Wr) (h n : Int) : List ByteArray := if hostC ss xs h = 0 then (if inB n 0 12 = true then (if 200 < xs.length + 3 then ss else putW ss (ofH h (xs ++ fuW h n.toNat))) else []) else []
def foX (ss : List ByteArray) (xs : List Wr) (h n : Int) : List Wr := if hostC ss xs h = 0 then (if inB n 0 12 = true then (if 200 < xs.length + 3 then xs else dropF h (xs ++ fuW h n.toNat)) else []) else []
theorem fo_bad {ss : List ByteArray} {xs : List Wr} {h n : Int} (hc : ¬ hostC ss xs h = 0) : foS ss xs h n = [] ∧ foX ss xs h n = [] ∧ foC ss xs h n = hostC ss xs h := by simp [foS, foX, foC, hc]
theorem fo_range {ss : List ByteArray} {xs : List Wr} {h n : Int} (hc : hostC ss xs h = 0) (hp : inB n 0 12 = false) : foS ss xs h n = [] ∧ foX ss xs h n = [] ∧ foC ss xs h n = 4 := by simp [foS, foX, foC, hc, hp]
theorem fo_full {ss : List ByteArray} {xs : List Wr} {h n : Int} (hc : hostC ss xs h = 0) (hp : inB n 0 12 = true) (hf : 200 < xs.length + 3) : foS ss xs h n = ss ∧ foX ss xs h n = xs ∧ foC ss xs h n = 7 := by simp [foS, foX, foC, hc, hp, hf]
theorem fo_ok {ss : List ByteArray} {xs : List Wr} {h : Int} {n : Nat} (hc : hostC ss xs h = 0) (hp : inB n 0 12 = true) (hf : ¬ 200 < xs.length + 3) : foS ss xs h n = putW ss (ofH h (xs ++ fuW h n)) ∧ foX ss xs h n = dropF h (xs ++ fuW h n) ∧ foC ss xs h n = 0 := by simp [foS, foX, foC, hc, hp, hf]
/-- A new image's updates. -/
theorem allU_new (n : Nat) : allU (imNew n) = headU (imNew n) := by
  have e : dataU (imNew n) 24 = [] := by rfl
  unfold allU
  rw [e]
  simp [imNew, tabU]
theorem fuW_len (h : Int) (n : Nat) : (fuW h n).length = 3 := by rw [fuW, fmW_len, allU_new]; rfl
theorem fuW_right {ss : List ByteArray} {xs : List Wr} {h : Int} {n : Nat} (hd : diskB ss xs = true) (hh : 0 ≤ h ∧ h ≤ 3) (hn : n ≤ 12) (hl : xs.length + 3 ≤ 200) : diskB ss (xs ++ fuW h n) = true := by
  obtain ⟨⟨a1, a2⟩, a3, a4⟩ := diskB_parts.1 hd
  refine diskB_parts.2 ⟨⟨a1, a2⟩, by rw [List.length_append, fuW_len]; exact hl, fun y hy => ?_⟩
  rcases List.mem_append.1 hy with h1 | h1
  · exact a4 y h1
  · unfold fuW fmW at h1
    obtain ⟨u, hu, rfl⟩ := List.mem_map.1 h1
    refine ioB_parts.2 ⟨hh, ?_, allU_sz (ImR.new hn) u hu⟩
    rw [allU_new] at hu
    simp only [headU, List.mem_cons, List.not_mem_nil, or_false] at hu
    rcases hu with rfl | rfl | rfl <;> simp

set_option maxHeartbeats 1600000 in
theorem format_spec (ao bo : Option Addr) (ca cb : Nat) (ss : List ByteArray) (xs : List Wr) (h k : Int) (w : World) (hl : ss.length ≤ maxLen) (hm : xs.length ≤ maxLen) (h1 : Ss w ao ss) (h2 : Ios w bo xs) :
    Calls Try.prog 5 #[.agg #[.slice ao ss.length ca, .slice bo xs.length cb], .int .i64 h, .int .i64 k] w fun e w' => ∃ po pa qo qa, e = .returned (.tuple #[.agg #[.slice po (foS ss xs h k).length pa, .slice qo (foX ss xs h k).length qa], .int .i64 (foC ss xs h k)]) ∧ OwnD w' w.heap.size po (foS ss xs h k).length pa qo (foX ss xs h k).length qa (foS ss xs h k) (foX ss xs h k) ∧ Below w.heap.size w w' := by
  have HA := hide (Joins.below_alloc2 w (.cells #[.slice ao ss.length ca, .slice bo xs.length cb] 29) (.cells #[.slice none 0 0, .slice none 0 0] 29))
  have H1 := hide (h1.below (unhide HA))
  have H2 := hide (h2.below (unhide HA))
  have HV := hide ((VarD.new w (.slice ao ss.length ca) (.slice bo xs.length cb)).below (Joins.below_alloc1 _ (.cells #[.slice none 0 0, .slice none 0 0] 29)))
  have HR : Hid (VarD ((w.alloc (.cells #[.slice ao ss.length ca, .slice bo xs.length cb] 29)).alloc (.cells #[.slice none 0 0, .slice none 0 0] 29)) (w.heap.size + 1) (.slice none 0 0) (.slice none 0 0)) := hide (by have := VarD.new (w.alloc (.cells #[.slice ao ss.length ca, .slice bo xs.length cb] 29)) (.slice none 0 0) (.slice none 0 0); simpa using this)
  have HL := hide hl
  have HM := hide hm
  have HQ := hide (ask_zero ss xs h)
  clear h1 h2 hl hm
  by_cases hc : hostC ss xs h = 0
  · have hb : (askC ss xs h 0 != 0) = false := by rw [unhide HQ]; simp [hc]
    have HD := hide (hostC_eq hc).1
    have HHB := hide (hostC_eq hc).2
    have HC := hide hc
    have HLS : Hid (ss.length ≤ 1048576) := hide (by have := (diskB_len (unhide HD)).1; omega)
    have hlx := (diskB_len (unhide HD)).2
    clear hc
    cases hp : inB k 0 12
    · have HW := hide (fo_range (unhide HC) hp)
      go_enter Try.func5, Try.ntmps5
      go_wp2_with fail
      refine (l01Ask_any _ _ _ _ ss xs h 0 _ (unhide HL) (unhide HM) (unhide H1) (unhide H2)).mono ?_
      rintro e w1 ⟨rfl, hb1⟩
      have HR1 := hide ((unhide HR).below hb1)
      have HB1 := hide (fr (unhide HA) hb1)
      clear hb1
      obtain ⟨hr0, hr1⟩ := (unhide HR1).cells
      have hr2 := (unhide HR1).free 0
      have hr3 := (unhide HR1).free 1
      have HE := hide (zero_end (w := w) (wL := w1) (unhide HB1) (.slice none 0 0) (.slice none 0 0))
      go_wp2_with fail
      refine (l01In_any _ _ _ _).mono ?_
      rintro e w' ⟨rfl, rfl⟩
      go_wp2
      obtain ⟨e1, e2, e3⟩ := unhide HW
      rw [e1, e2, e3]
      exact bodyPost_ret (v := .tuple #[.agg #[.slice none 0 0, .slice none 0 0], .int .i64 4]) (by simp [results, Try.results5, go_sem, hr0, hr1]) rfl ⟨none, 0, none, 0, rfl, zeroD_own, unhide HE⟩
    · obtain ⟨hk0, hk1⟩ := inB_eq hp
      obtain ⟨n, rfl⟩ : ∃ n : Nat, k = (n : Int) := ⟨k.toNat, by omega⟩
      have hn : n ≤ 12 := by omega
      have wr1 : IntKind.i64.wrap ((xs.length : Int) + 3) = (xs.length : Int) + 3 := by rw [IntKind.wrap_i64]; omega
      by_cases hf : 200 < xs.length + 3
      · have HW := hide (fo_full (unhide HC) hp hf)
        have hfi : (xs.length : Int) + 3 > 200 := by omega
        go_enter Try.func5, Try.ntmps5
        go_wp2_with fail
        refine (l01Ask_any _ _ _ _ ss xs h 0 _ (unhide HL) (unhide HM) (unhide H1) (unhide H2)).mono ?_
        rintro e w1 ⟨rfl, hb1⟩
        have HV1 := hide ((unhide HV).below hb1)
        have HR1 := hide ((unhide HR).below hb1)
        have HB1 := hide (fr (unhide HA) hb1)
        have HS1 := hide ((unhide H1).below hb1)
        have HX1 := hide ((unhide H2).below hb1)
        clear hb1
        obtain ⟨hv0, hv1⟩ := (unhide HV1).cells
        go_wp2_with fail
        refine (l01In_any _ _ _ _).mono ?_
        rintro e w' ⟨rfl, rfl⟩
        go_wp2_with fail
        refine (l01Own_any ao bo ca cb ss xs _ (unhide HLS) (by omega) (unhide HS1) (unhide HX1)).mono ?_
        rintro e w2 ⟨po, pa, qo, qa, rfl, ho, hb2⟩
        have HR2 := hide ((unhide HR1).below hb2)
        obtain ⟨r0, r1⟩ := (unhide HR2).cells
        have rf0 := (unhide HR2).free 0
        have rf1 := (unhide HR2).free 1
        have HO := hide (fun u v => md_end (unhide HR2) (fr (unhide HB1) hb2) (Nat.le_succ _) (ho.base (unhide HB1).size) u v)
        clear ho hb2 hv0 hv1
        go_wp2
        refine bodyPost_ret (v := .tuple #[.agg #[.slice po ss.length pa, .slice qo xs.length qa], .int .i64 7]) (by simp [results, Try.results5, go_sem, r0, r1]) rfl ?_
        rw [(unhide HW).1, (unhide HW).2.1, (unhide HW).2.2]
        exact ⟨po, pa, qo, qa, rfl, unhide HO _ _⟩
      · have HW := hide (fo_ok (unhide HC) hp hf)
        have hfi : ¬ ((xs.length : Int) + 3 > 200) := by omega
        have HP := hide (fuW_right (n := n) (unhide HD) (unhide HHB) hn (by omega))
        have HSL : Hid ((putW ss (ofH h (xs ++ fuW h n))).length = ss.length) := hide (put_len ss _)
        have HSZ := hide (right_sz2 (S := putW ss (ofH h (xs ++ fuW h n))) (X := dropF h (xs ++ fuW h n)) (diskB_put (unhide HP) (fun x hx => of_mem hx) (fun x hx => drop_mem hx) (drop_le h (xs ++ fuW h n))))
        have HYL : Hid ((dropF h (xs ++ fuW h n)).length ≤ 1048576) := hide (by have := drop_le h (xs ++ fuW h n); rw [List.length_append, fuW_len] at this; omega)
        obtain ⟨S, HES⟩ : ∃ S, Hid (putW ss (ofH h (xs ++ fuW h n)) = S) := ⟨_, hide rfl⟩
        obtain ⟨Y, HEY⟩ : ∃ Y, Hid (dropF h (xs ++ fuW h n) = Y) := ⟨_, hide rfl⟩
        rw [unhide HES] at HSL HSZ HW
        rw [unhide HEY] at HSZ HW HYL
        go_enter Try.func5, Try.ntmps5
        go_wp2_with fail
        refine (l01Ask_any _ _ _ _ ss xs h 0 _ (unhide HL) (unhide HM) (unhide H1) (unhide H2)).mono ?_
        rintro e w1 ⟨rfl, hb1⟩
        have HV1 := hide ((unhide HV).below hb1)
        have HR1 := hide ((unhide HR).below hb1)
        have HB1 := hide (fr (unhide HA) hb1)
        have HS1 := hide ((unhide H1).below hb1)
        have HX1 := hide ((unhide H2).below hb1)
        clear hb1
        obtain ⟨hv0, hv1⟩ := (unhide HV1).cells
        go_wp2_with fail
        refine (l01In_any _ _ _ _).mono ?_
        rintro e w' ⟨rfl, rfl⟩
        go_wp2_with fail
        refine (l11Format_any ao bo ca cb ss xs h n S Y _ (by omega) (ImR.new hn) (unhide HP) (unhide HES) (unhide HEY) (unhide HS1) (unhide HX1)).mono ?_
        rintro e w2 ⟨po2, pa2, qo2, qa2, rfl, ho2, hb2⟩
        rw [← unhide HSL] at ho2
        have HO2 := hide ho2
        have HB2 := hide (fr (unhide HB1) hb2)
        have HR2 := hide ((unhide HR1).below hb2)
        clear ho2 hb2 hv0 hv1
        rw [← unhide HSL]
        go_wp2_with fail
        refine (l01Own_any po2 qo2 pa2 qa2 S Y _ (by rw [unhide HSL]; exact unhide HLS) (unhide HYL) ((unhide HO2).ss (unhide HSZ).1) ((unhide HO2).ios (unhide HSZ).2)).mono ?_
        rintro e w3 ⟨po, pa, qo, qa, rfl, ho, hb3⟩
        have HR3 := hide ((unhide HR2).below hb3)
        obtain ⟨r0, r1⟩ := (unhide HR3).cells
        have rf0 := (unhide HR3).free 0
        have rf1 := (unhide HR3).free 1
        have HO := hide (fun u v => md_end (unhide HR3) (fr (unhide HB2) hb3) (Nat.le_succ _) (ho.base (unhide HB2).size) u v)
        clear ho hb3
        go_wp2
        refine bodyPost_ret (v := .tuple #[.agg #[.slice po S.length pa, .slice qo Y.length qa], .int .i64 0]) (by simp [results, Try.results5, go_sem, r0, r1]) rfl ?_
        rw [(unhide HW).1, (unhide HW).2.1, (unhide HW).2.2]
        exact ⟨po, pa, qo, qa, rfl, unhide HO _ _⟩
  · have hb : (askC ss xs h 0 != 0) = true := by rw [unhide HQ]; simp [hc]
    obtain ⟨e1, e2, e3⟩ := fo_bad (n := k) hc
    rw [e1, e2, e3]
    clear e1 e2 e3 hc
    go_enter Try.func5, Try.ntmps5
    go_wp2_with fail
    refine (l01Ask_any _ _ _ _ ss xs h 0 _ (unhide HL) (unhide HM) (unhide H1) (unhide H2)).mono ?_
    rintro e w1 ⟨rfl, hb1⟩
    have HR1 := hide ((unhide HR).below hb1)
    have HB1 := hide (fr (unhide HA) hb1)
    clear hb1
    obtain ⟨hr0, hr1⟩ := (unhide HR1).cells
    have hr2 := (unhide HR1).free 0
    have hr3 := (unhide HR1).free 1
    have HE := hide (zero_end (w := w) (wL := w1) (unhide HB1) (.slice none 0 0) (.slice none 0 0))
    go_wp2
    exact bodyPost_ret (v := .tuple #[.agg #[.slice none 0 0, .slice none 0 0], .int .i64 (hostC ss xs h)]) (by simp [results, Try.results5, go_sem, hr0, hr1, unhide HQ]) rfl ⟨none, 0, none, 0, rfl, zeroD_own, unhide HE⟩

end Go.Proofs.Ytmkegkpnomcnhab
