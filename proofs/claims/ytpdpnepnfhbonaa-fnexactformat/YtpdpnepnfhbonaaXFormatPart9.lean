import Derived.Test.YtpdpnepnfhbonaaRows
import Derived.Test.YtpdpnepnfhbonaaXFormatPart1
import Derived.Test.YtpdpnepnfhbonaaXFormatPart2
import Derived.Test.YtpdpnepnfhbonaaXFormatPart7
import Derived.Test.YtpdpnepnfhbonaaXFormatPart4
import Derived.Test.YtpdpnepnfhbonaaXFormatPart5
import Derived.Test.YtpdpnepnfhbonaaXFormatPart6
import Derived.Test.YtpdpnepnfhbonaaXFormatPart8
import Derived.WalkKit
import Derived.WalkSpells
import Derived.KernelRfl
import Derived.LoopN

namespace Go.Proofs.Ytpdpnepnfhbonaa
open Go.RowKit Go.Maps
set_option linter.unusedVariables false
set_option maxRecDepth 100000

def VarU1 (w : World) (x : Nat) (u : Up) : Prop := w.heap[x]? = some (.cells #[.int .i64 u.at_, .string u.data] 80 (0, 0))
theorem VarU1.cells {w : World} {x : Nat} {u : Up} (k : VarU1 w x u) : w.cell? ⟨x, 0, none⟩ = some (.int .i64 u.at_) ∧ w.cell? ⟨x, 1, none⟩ = some (.string u.data) := ⟨by rw [Joins.cell_of_block k]; rfl, by rw [Joins.cell_of_block k]; rfl⟩
theorem take_right {ss : List ByteArray} {xs : List Wr} {F : List Wr} (hd : diskB ss (xs ++ F) = true) (k : Nat) : diskB ss (xs ++ F.take k) = true := by
  obtain ⟨⟨a1, a2⟩, a3, a4⟩ := diskB_parts.1 hd
  refine diskB_parts.2 ⟨⟨a1, a2⟩, ?_, fun y hy => a4 y ?_⟩
  · rw [List.length_append] at a3 ⊢
    rw [List.length_take]
    omega
  · rcases List.mem_append.1 hy with h1 | h1
    · exact List.mem_append_left _ h1
    · exact List.mem_append_right _ (List.mem_of_mem_take h1)

set_option maxHeartbeats 6400000 in
theorem format_impl (ao bo : Option Addr) (ca cb : Nat) (ss : List ByteArray) (xs : List Wr) (h k : Int) (w : World) (hl : ss.length ≤ maxLen) (hm : xs.length ≤ maxLen) (h1 : Ss w ao ss) (h2 : Ios w bo xs) :
    Calls Try.prog 20 #[.agg #[.slice ao ss.length ca, .slice bo xs.length cb], .int .i64 h, .int .i64 k] w fun e w' => ∃ po pa qo qa, e = .returned (.tuple #[.agg #[.slice po (foS ss xs h k).length pa, .slice qo (foX ss xs h k).length qa], .int .i64 (foC ss xs h k)]) ∧ OwnD w' w.heap.size po (foS ss xs h k).length pa qo (foX ss xs h k).length qa (foS ss xs h k) (foX ss xs h k) ∧ Below w.heap.size w w' := by
  have HA := hide (Joins.below_alloc2 w (.cells #[.slice ao ss.length ca, .slice bo xs.length cb] 43) (.cells #[.slice none 0 0, .slice none 0 0] 43))
  have HR : Hid (VarD ((w.alloc (.cells #[.slice ao ss.length ca, .slice bo xs.length cb] 43)).alloc (.cells #[.slice none 0 0, .slice none 0 0] 43)) (w.heap.size + 1) (.slice none 0 0) (.slice none 0 0)) := hide (by have := VarD.new (w.alloc (.cells #[.slice ao ss.length ca, .slice bo xs.length cb] 43)) (.slice none 0 0) (.slice none 0 0); simpa using this)
  have H0 : Hid (DkA w ((w.alloc (.cells #[.slice ao ss.length ca, .slice bo xs.length cb] 43)).alloc (.cells #[.slice none 0 0, .slice none 0 0] 43)) w.heap.size ao ca bo cb ss xs) := hide ⟨(VarD.new w _ _).below (Joins.below_alloc1 _ _), h1.below (unhide HA), h2.below (unhide HA), unhide HA⟩
  have HL := hide hl
  have HM := hide hm
  clear h1 h2 hl hm
  go_enter Try.func20, Try.ntmps20
  go_upto_region 1 with fail
  revert H0
  revert HR
  revert HA
  generalize hW0 : ((w.alloc _).alloc _) = W0
  have hsz0 : w.heap.size + 1 < W0.heap.size := by rw [← hW0]; simp
  clear hW0
  intro HA HR H0
  obtain ⟨v0, v1⟩ := (unhide H0).v.cells
  go_wp2_with fail
  refine (hostFault_any ao bo ca cb ss xs h _ (unhide HL) (unhide HM) (unhide H0).s (unhide H0).i).mono ?_
  rintro e w1 ⟨rfl, hb⟩
  have HD1 := hide ((unhide H0).next hb)
  have HR1 := hide ((unhide HR).below hb)
  have hsz1 : w.heap.size + 1 < w1.heap.size := Nat.lt_of_lt_of_le hsz0 hb.size
  clear hb v0 v1 H0 HR HA hsz0
  by_cases hc : hostC ss xs h = 0
  case neg =>
    have hbn : (hostC ss xs h != 0) = true := by simp [hc]
    have HE := hide (fo_bad (n := k) hc)
    clear hc
    obtain ⟨r0, r1⟩ := (unhide HR1).cells
    have rf0 := (unhide HR1).free 0
    have rf1 := (unhide HR1).free 1
    have HZ := hide (zero_end (w := w) (wL := w1) (unhide HD1).k (.slice none 0 0) (.slice none 0 0))
    go_wp2
    refine bodyPost_ret (v := .tuple #[.agg #[.slice none 0 0, .slice none 0 0], .int .i64 (hostC ss xs h)]) (by simp [results, Try.results20, go_sem, r0, r1]) rfl ?_
    rw [(unhide HE).1, (unhide HE).2.1, (unhide HE).2.2]
    exact ⟨none, 0, none, 0, rfl, zeroD_own, unhide HZ⟩
  have hbn : (hostC ss xs h != 0) = false := by simp [hc]
  have HDB := hide (hostC_eq hc).1
  obtain ⟨hh0, hh3⟩ := (hostC_eq hc).2
  have HC := hide hc
  have hlx := (diskB_len (unhide HDB)).2
  have HLS : Hid (ss.length ≤ 1048576) := hide (by have := (diskB_len (unhide HDB)).1; omega)
  clear hc
  have HNE : Hid (niF k = if inB k 0 12 = true then 0 else 4) := hide rfl
  go_wp2_with fail
  refine (newImage_impl k _).mono ?_
  rintro e w2 ⟨a, ts, rfl, ho, hb⟩
  have HD2 := hide ((unhide HD1).next hb)
  have HR2 := hide ((unhide HR1).below hb)
  have HIS := hide (ho.shows (fun s hs => by unfold niI imNew im0 at hs; split at hs <;> cases hs))
  have hsz2 : w.heap.size + 1 < w2.heap.size := Nat.lt_of_lt_of_le hsz1 hb.size
  clear ho hb HD1 HR1
  simp only
  generalize hNI : niI k = NI at *
  have HNI := hide hNI
  clear hNI
  have HVI := hide (VarM.new w2 26 (.slice a.ro NI.refs.length a.rc) (.slice a.tq NI.table.length a.tc) (.slice a.so NI.snaps.length a.sc) (.slice a.dq NI.data.length a.dc))
  have HAI := hide (Joins.below_alloc1 w2 (.cells #[.slice a.ro NI.refs.length a.rc, .slice a.tq NI.table.length a.tc, .slice a.so NI.snaps.length a.sc, .slice a.dq NI.data.length a.dc] 26))
  have HD3 := hide ((unhide HD2).next (unhide HAI))
  have HR3 := hide ((unhide HR2).below (unhide HAI))
  have HI3 := hide ((unhide HIS).below (unhide HAI))
  have hsz3 := Nat.lt_of_lt_of_le hsz2 (unhide HAI).size
  clear HD2 HR2 HIS
  go_upto_region 5 with fail
  revert hsz3
  revert HI3
  revert HR3
  revert HD3
  revert HAI
  revert HVI
  generalize w2.heap.size = xi
  generalize (w2.alloc _) = w3
  intro HVI HAI HD3 HR3 HI3 hsz3
  clear HAI hsz2 hsz1
  cases hp : inB k 0 12
  · have HE := hide (fo_range (unhide HC) hp)
    have HN4 : Hid (niF k = 4) := hide (by rw [unhide HNE, hp]; rfl)
    rw [unhide HN4]
    obtain ⟨r0, r1⟩ := (unhide HR3).cells
    have rf0 := (unhide HR3).free 0
    have rf1 := (unhide HR3).free 1
    have HZ := hide (zero_end (w := w) (wL := w3) (unhide HD3).k (.slice none 0 0) (.slice none 0 0))
    clear hp
    go_wp2
    refine bodyPost_ret (v := .tuple #[.agg #[.slice none 0 0, .slice none 0 0], .int .i64 4]) (by simp [results, Try.results20, go_sem, r0, r1]) rfl ?_
    rw [(unhide HE).1, (unhide HE).2.1, (unhide HE).2.2]
    exact ⟨none, 0, none, 0, rfl, zeroD_own, unhide HZ⟩
  obtain ⟨hk0, hk1⟩ := inB_eq hp
  obtain ⟨n, rfl⟩ : ∃ n : Nat, k = (n : Int) := ⟨k.toNat, by omega⟩
  have hn : n ≤ 12 := by omega
  have HN0 : Hid (niF (n : Int) = 0) := hide (by rw [unhide HNE, hp]; rfl)
  have HNM : Hid (NI = imNew n) := hide (by rw [← unhide HNI, niI, if_pos (unhide HN0)]; simp)
  rw [unhide HN0]
  have HIR := hide (ImR.new hn)
  have HP := hide hp
  clear hp HNI HNE
  replace HNM := unhide HNM
  subst HNM
  obtain ⟨i0, i1, i2, i3⟩ := (unhide HVI).cells
  go_wp2_with fail
  refine (recordsOf_any a (imNew n) _ (unhide HIR) (unhide HI3)).mono ?_
  rintro e w4 ⟨B, nb, D, rfl, hnb, hge, hmp, hb⟩
  have HD4 := hide ((unhide HD3).next hb)
  have HR4 := hide ((unhide HR3).below hb)
  have HMP := hide hmp
  have hsz4 := Nat.lt_of_lt_of_le hsz3 hb.size
  clear hmp hb i0 i1 i2 i3 HD3 HR3 hge hsz3
  go_wp2_with fail
  refine (recUps_any (imNew n) (unhide HIR) B nb D _ (unhide HMP) hnb).mono ?_
  rintro e w5 ⟨uo, ua, rfl, hu⟩
  have HD5 := hide ((unhide HD4).next hu.k)
  have HR5 := hide ((unhide HR4).below hu.k)
  have HU5 := hide hu.o
  clear hu HD4 HR4
  have HUL : Hid ((allU (imNew n)).length = 3) := hide (by rw [allU_new]; rfl)
  have HUZ : Hid (∀ u ∈ allU (imNew n), u.data.size ≤ maxLen) := hide (fun u hu => by have := allU_sz (unhide HIR) u hu; unfold maxLen; omega)
  have HUA : Hid (∀ u ∈ allU (imNew n), u.data.size ≤ 80 ∧ 0 ≤ u.at_ ∧ u.at_ ≤ 63) := hide (fun u hu => by
    refine ⟨allU_sz (unhide HIR) u hu, ?_⟩
    rw [allU_new] at hu
    simp only [headU, List.mem_cons, List.not_mem_nil, or_false] at hu
    rcases hu with rfl | rfl | rfl <;> simp)
  have HFU : Hid (fuW h n = fmW h (allU (imNew n))) := hide rfl
  obtain ⟨v0, v1⟩ := (unhide HD5).v.cells
  have wr1 : IntKind.i64.wrap ((xs.length : Int) + 3) = (xs.length : Int) + 3 := by rw [IntKind.wrap_i64]; omega
  rw [unhide HUL] at HU5 ⊢
  by_cases hf : 200 < xs.length + 3
  · have HW := hide (fo_full (unhide HC) (unhide HP) hf)
    have hfi : (xs.length : Int) + 3 > 200 := by omega
    go_wp2_with fail
    refine (copyDisk_any ao bo ca cb ss xs _ (unhide HLS) (by omega) (unhide HD5).s (unhide HD5).i).mono ?_
    rintro e w6 ⟨po, pa, qo, qa, rfl, ho, hb⟩
    have HR6 := hide ((unhide HR5).below hb)
    obtain ⟨r0, r1⟩ := (unhide HR6).cells
    have rf0 := (unhide HR6).free 0
    have rf1 := (unhide HR6).free 1
    have HO := hide (fun u v => md_end (unhide HR6) (fr (unhide HD5).k hb) (Nat.le_succ _) (ho.base (unhide HD5).k.size) u v)
    clear ho hb v0 v1
    go_wp2
    refine bodyPost_ret (v := .tuple #[.agg #[.slice po ss.length pa, .slice qo xs.length qa], .int .i64 7]) (by simp [results, Try.results20, go_sem, r0, r1]) rfl ?_
    rw [(unhide HW).1, (unhide HW).2.1, (unhide HW).2.2]
    exact ⟨po, pa, qo, qa, rfl, unhide HO _ _⟩
  have HW := hide (fo_ok (unhide HC) (unhide HP) hf)
  have hfi : ¬ ((xs.length : Int) + 3 > 200) := by omega
  have HRG := hide (fuW_right (n := n) (unhide HDB) ⟨hh0, hh3⟩ hn (by omega))
  rw [unhide HFU] at HRG HW
  clear HFU HMP HIR HI3 HVI
  generalize allU (imNew n) = us at *
  go_wp2
  clear v0 v1
  go_loopw [44] (fun i wr => ∃ (j : Nat) (XX : List Wr) (po : Option Addr) (pa : Nat) (qo : Option Addr) (qa : Nat), j ≤ 3 ∧ i = .int .i64 j ∧ Hid (xs ++ (fmW h us).take j = XX) ∧ Hid (DkA w wr w.heap.size po pa qo qa ss XX) ∧ Hid (VarD wr (w.heap.size + 1) (.slice none 0 0) (.slice none 0 0)) ∧ Hid (OwnR wr w4.heap.size 80 2 (.slice uo 3 ua) 3 (upsV us))) (fun i _ => 3 - (intOf i).toNat)
  case atStart => exact ⟨0, xs, ao, ca, bo, cb, by omega, rfl, hide (by simp), HD5, HR5, HU5⟩
  case round =>
    clear HD5 HR5 HU5
    obtain ⟨j, XX, po, pa, qo, qa, hj, rfl, HEX, HD, HR, HU⟩ := hrel
    by_cases hlt : j < 3
    · have hju : j < us.length := by rw [unhide HUL]; exact hlt
      have hji : (j : Int) < 3 := by omega
      have HUS : Hid (Ups wr uo us) := hide (by
        have h := unhide HU
        rw [← unhide HUL] at h
        exact ownUps h (unhide HUZ))
      obtain ⟨b, off, rfl, hu0, hu1, _⟩ := unhide HUS j hju
      have HX := hide (heap_alloc_new wr (.cells #[.int .i64 us[j].at_, .string us[j].data] 80))
      have HBX := hide (Joins.below_alloc1 wr (.cells #[.int .i64 us[j].at_, .string us[j].data] 80))
      go_upto_region 13 with fail
      revert HX
      revert HBX
      generalize (wr.alloc _) = w6
      intro HBX HX
      obtain ⟨x0, x1⟩ := VarU1.cells (u := us[j]) (unhide HX)
      have HD6 := hide ((unhide HD).next (unhide HBX))
      have HR6 := hide ((unhide HR).below (unhide HBX))
      have HU6 := hide ((unhide HU).below (unhide HBX))
      clear HX HBX hu0 hu1 HUS HD HR HU
      obtain ⟨d0, d1⟩ := (unhide HD6).v.cells
      obtain ⟨az, a0, a1⟩ := unhide HUA us[j] (List.getElem_mem hju)
      obtain ⟨X7, HX7⟩ : ∃ X7, Hid (xs ++ (fmW h us).take (j + 1) = X7) := ⟨_, hide rfl⟩
      have HN : Hid (XX ++ [⟨h, us[j].at_, us[j].data⟩] = X7) := hide (by rw [← unhide HX7, ← unhide HEX]; exact (fmW_succ hju xs).symm)
      have hXl : XX.length < 200 := by rw [← unhide HEX, List.length_append, List.length_take, fmW_len, unhide HUL]; omega
      have HDK : Hid (diskB ss XX = true) := hide (by rw [← unhide HEX]; exact take_right (unhide HRG) j)
      have HZK : Hid ((∀ s ∈ ss, s.size ≤ maxLen) ∧ ∀ x ∈ X7, x.data.size ≤ maxLen) := hide (by rw [← unhide HX7]; exact right_sz2 (take_right (unhide HRG) (j + 1)))
      go_wp2_with fail
      refine (write_own po qo pa qa ss XX h us[j].at_ us[j].data X7 _ (unhide HN) (unhide HDK) hXl az hh0 hh3 a0 a1 (unhide HD6).s (unhide HD6).i).mono ?_
      rintro e w7 ⟨po7, pa7, qo7, qa7, rfl, ho, hb⟩
      have HS7 := hide (ho.ss (unhide HZK).1)
      have HI7 := hide (ho.ios (unhide HZK).2)
      have HD7 := hide ((unhide HD6).next hb)
      have HR7 := hide ((unhide HR6).below hb)
      have HU7 := hide ((unhide HU6).below hb)
      clear ho hb d0 d1 x0 x1 HD6 HR6 HU6 HDK HZK HN
      obtain ⟨t0, t1⟩ := (unhide HD7).v.cells
      have tf0 := (unhide HD7).v.free 0
      have tf1 := (unhide HD7).v.free 1
      have HDn := hide ((unhide HD7).put (pa' := pa7) (qa' := qa7) (Nat.le_refl _) rfl rfl (unhide HS7) (unhide HI7))
      have HRn := hide (((unhide HR7).apart (y := w.heap.size) (by omega) 0 (.slice po7 ss.length pa7)).apart (y := w.heap.size) (by omega) 1 (.slice qo7 X7.length qa7))
      have HUn := hide (UpS.setC (unhide HU7) (x := w.heap.size) (by omega) (.slice po7 ss.length pa7) (.slice qo7 X7.length qa7))
      go_wp2
      go_roundw
      case rel => exact ⟨j + 1, X7, po7, pa7, qo7, qa7, by omega, by go_num, HX7, HDn, HRn, HUn⟩
      case measure => simp [intOf]; omega
    · obtain rfl : j = 3 := by omega
      have HDE := HD
      have HXE : Hid (xs ++ fmW h us = XX) := hide (by
        have := unhide HEX
        rwa [List.take_of_length_le (by rw [fmW_len, unhide HUL]; exact Nat.le_refl _)] at this)
      clear HD HU
      rw [unhide HXE] at HW HRG
      obtain ⟨S, HES⟩ : ∃ S, Hid (putW ss (ofH h XX) = S) := ⟨_, hide rfl⟩
      obtain ⟨Y, HEY⟩ : ∃ Y, Hid (dropF h XX = Y) := ⟨_, hide rfl⟩
      rw [unhide HES, unhide HEY] at HW
      obtain ⟨d0, d1⟩ := (unhide HDE).v.cells
      go_wp2_with fail
      refine (flush_own po qo pa qa ss XX h S Y _ (unhide HES) (unhide HEY) (unhide HRG) hh0 hh3 (unhide HDE).s (unhide HDE).i).mono ?_
      rintro e w8 ⟨po8, pa8, qo8, qa8, rfl, ho, hb⟩
      have HR8 := hide ((unhide HR).below hb)
      obtain ⟨r0, r1⟩ := (unhide HR8).cells
      have rf0 := (unhide HR8).free 0
      have rf1 := (unhide HR8).free 1
      have HO := hide (fun u v => md_end (unhide HR8) (fr (unhide HDE).k hb) (Nat.le_succ _) (ho.base (unhide HDE).k.size) u v)
      clear ho hb d0 d1
      go_wp2
      refine bodyPost_ret (v := .tuple #[.agg #[.slice po8 S.length pa8, .slice qo8 Y.length qa8], .int .i64 0]) (by simp [results, Try.results20, go_sem, r0, r1]) rfl ?_
      rw [(unhide HW).1, (unhide HW).2.1, (unhide HW).2.2]
      exact ⟨po8, pa8, qo8, qa8, rfl, unhide HO _ _⟩

end Go.Proofs.Ytpdpnepnfhbonaa

namespace Go.Proofs.Ytpdpnepnfhbonaa
open Go.RowKit
set_option linter.unusedVariables false
set_option maxRecDepth 100000

theorem fo_bd (ss : List ByteArray) (xs : List Wr) (h k : Int) : (∀ s ∈ foS ss xs h k, s.size ≤ maxLen) ∧ (∀ x ∈ foX ss xs h k, x.data.size ≤ maxLen) ∧ (foS ss xs h k).length ≤ 2097152 ∧ (foX ss xs h k).length ≤ 2097152 := by
  by_cases hc : hostC ss xs h = 0
  case neg =>
    obtain ⟨e1, e2, _⟩ := fo_bad (n := k) hc
    rw [e1, e2]
    simp
  obtain ⟨hd, hh⟩ := hostC_eq hc
  obtain ⟨l1, l2⟩ := diskB_len hd
  cases hp : inB k 0 12
  · obtain ⟨e1, e2, _⟩ := fo_range hc hp
    rw [e1, e2]
    simp
  obtain ⟨hk0, hk1⟩ := inB_eq hp
  obtain ⟨n, rfl⟩ : ∃ n : Nat, k = (n : Int) := ⟨k.toNat, by omega⟩
  by_cases hf : 200 < xs.length + 3
  · obtain ⟨e1, e2, _⟩ := fo_full hc hp hf
    rw [e1, e2]
    have := right_sz2 hd
    exact ⟨this.1, this.2, by omega, by omega⟩
  · obtain ⟨e1, e2, _⟩ := fo_ok hc hp hf
    rw [e1, e2]
    have hp2 := fuW_right (n := n) hd hh (by omega) (by omega)
    have := right_sz2 (S := putW ss (ofH h (xs ++ fuW h n))) (X := dropF h (xs ++ fuW h n)) (diskB_put hp2 (fun x hx => of_mem hx) (fun x hx => drop_mem hx) (drop_le h (xs ++ fuW h n)))
    refine ⟨this.1, this.2, by rw [put_len]; omega, ?_⟩
    have := drop_le h (xs ++ fuW h n)
    rw [List.length_append, fuW_len] at this
    omega
theorem wkFormat (ao bo : Option Addr) (ca cb : Nat) (ss : List ByteArray) (xs : List Wr) (h k : Int) (w : World) (hl : ss.length ≤ maxLen) (hm : xs.length ≤ maxLen) (hc : Ss w ao ss) (hd : Ios w bo xs) (hh : (Lit.int .i64 h).wf = true) (hk : (Lit.int .i64 k).wf = true) :
    Calls Try.prog 4 #[.agg #[.slice ao ss.length ca, .slice bo xs.length cb], .int .i64 h, .int .i64 k] w fun e w' => e = .returned (.bool true) ∧ Below w.heap.size w w' :=
  lawFormat ao bo ca cb ss xs h k (foS ss xs h k) (foX ss xs h k) (foC ss xs h k) w hl hm hc hd hh hk (fo_bd ss xs h k)
    (fun po qo pa qa W h1 h2 => format_spec po qo pa qa ss xs h k W hl hm h1 h2) (fun po qo pa qa W h1 h2 => format_impl po qo pa qa ss xs h k W hl hm h1 h2)

end Go.Proofs.Ytpdpnepnfhbonaa
