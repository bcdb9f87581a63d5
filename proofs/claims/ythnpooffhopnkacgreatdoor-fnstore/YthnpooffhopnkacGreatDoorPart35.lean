import Derived.Test.YthnpooffhopnkacGreatDoorRows
import Derived.Test.YthnpooffhopnkacGreatDoorPart1
import Derived.Test.YthnpooffhopnkacGreatDoorPart3
import Derived.Test.YthnpooffhopnkacGreatDoorPart4
import Derived.Test.YthnpooffhopnkacGreatDoorPart34
import Derived.Test.YthnpooffhopnkacGreatDoorPart28
import Derived.Test.YthnpooffhopnkacGreatDoorPart23
import Derived.Test.YthnpooffhopnkacGreatDoorStL
import Derived.Test.YthnpooffhopnkacGreatDoorPart33
import Derived.WalkKit
import Derived.WalkSpells
import Derived.KernelRfl
import Derived.LoopN
import Derived.Test.YthnpooffhopnkacGreatDoorPart2
import Derived.Defers
import Derived.Recover

/- The contract of the program's Format. -/
namespace Go.Proofs.YthnpooffhopnkacGreatDoor
open Go.RowKit Go.Maps
set_option linter.unusedVariables false
set_option maxRecDepth 100000

theorem inB_betw (n : Int) (a b : Int) : inB n a b = betw n a b := rfl
/-- An update in a variable. -/
def VarU1 (w : World) (x : Nat) (u : Up) : Prop := w.heap[x]? = some (.cells #[.int .i64 u.at_, .string u.data] 43 (0, 0))
theorem VarU1.cells {w : World} {x : Nat} {u : Up} (k : VarU1 w x u) : w.cell? ⟨x, 0, none⟩ = some (.int .i64 u.at_) ∧ w.cell? ⟨x, 1, none⟩ = some (.string u.data) := ⟨by rw [Joins.cell_of_block k]; rfl, by rw [Joins.cell_of_block k]; rfl⟩
theorem take_right {ss : List ByteArray} {xs : List Wr} {F : List Wr} (hd : diskB ss (xs ++ F) = true) (k : Nat) : diskB ss (xs ++ F.take k) = true := by
  obtain ⟨⟨a1, a2⟩, a3, a4⟩ := diskB_parts.1 hd
  refine diskB_parts.2 ⟨⟨a1, a2⟩, ?_, fun y hy => a4 y ?_⟩
  · rw [List.length_append] at a3 ⊢
    rw [List.length_take]
    omega
  · rcases List.mem_append.1 hy with h1 | h1
    · exact List.mem_append_left _ h1
    · exact List.mem_append_right _ (List.mem_of_mem_take h1)

set_option maxHeartbeats 6400000 in
theorem format_impl (ao bo : Option Addr) (ca cb : Nat) (ss : List ByteArray) (xs : List Wr) (h k : Int) (w : World) (hl : ss.length ≤ maxLen) (hm : xs.length ≤ maxLen) (h1 : Ss w ao ss) (h2 : Ios w bo xs) :
    Calls Tryz.prog 8 #[.agg #[.slice ao ss.length ca, .slice bo xs.length cb], .int .i64 h, .int .i64 k] w fun e w' => ∃ po pa qo qa, e = .returned (.tuple #[.agg #[.slice po (foS ss xs h k).length pa, .slice qo (foX ss xs h k).length qa], .int .i64 (foC ss xs h k)]) ∧ OwnD w' w.heap.size po (foS ss xs h k).length pa qo (foX ss xs h k).length qa (foS ss xs h k) (foX ss xs h k) ∧ Below w.heap.size w w' := by
  have HA := hide (Joins.below_alloc2 w (.cells #[.slice ao ss.length ca, .slice bo xs.length cb] 34) (.cells #[.slice none 0 0, .slice none 0 0] 34))
  have HR : Hid (VarD ((w.alloc (.cells #[.slice ao ss.length ca, .slice bo xs.length cb] 34)).alloc (.cells #[.slice none 0 0, .slice none 0 0] 34)) (w.heap.size + 1) (.slice none 0 0) (.slice none 0 0)) := hide (by have := VarD.new (w.alloc (.cells #[.slice ao ss.length ca, .slice bo xs.length cb] 34)) (.slice none 0 0) (.slice none 0 0); simpa using this)
  have H0 : Hid (DkA w ((w.alloc (.cells #[.slice ao ss.length ca, .slice bo xs.length cb] 34)).alloc (.cells #[.slice none 0 0, .slice none 0 0] 34)) w.heap.size ao ca bo cb ss xs) := hide ⟨(VarD.new w _ _).below (Joins.below_alloc1 _ _), h1.below (unhide HA), h2.below (unhide HA), unhide HA⟩
  have HL := hide hl
  have HM := hide hm
  clear h1 h2 hl hm
  go_enter Tryz.func8, Tryz.ntmps8
  go_upto_region 1 with fail
  revert H0
  revert HR
  revert HA
  generalize hW0 : ((w.alloc _).alloc _) = W0
  have hsz0 : w.heap.size + 1 < W0.heap.size := by rw [← hW0]; simp
  clear hW0
  intro HA HR H0
  obtain ⟨v0, v1⟩ := (unhide H0).v.cells
  go_wp2_with fail
  refine (hostFault_any ao bo ca cb ss xs h _ (unhide HL) (unhide HM) (unhide H0).s (unhide H0).i).mono ?_
  rintro e w1 ⟨rfl, hb⟩
  have HD1 := hide ((unhide H0).next hb)
  have HR1 := hide ((unhide HR).below hb)
  have hsz1 : w.heap.size + 1 < w1.heap.size := Nat.lt_of_lt_of_le hsz0 hb.size
  clear hb v0 v1 H0 HR HA hsz0
  by_cases hc : hostC ss xs h = 0
  case neg =>
    have hbn : (hostC ss xs h != 0) = true := by simp [hc]
    have HE := hide (fo_bad (n := k) hc)
    clear hc
    obtain ⟨r0, r1⟩ := (unhide HR1).cells
    have rf0 := (unhide HR1).free 0
    have rf1 := (unhide HR1).free 1
    have HZ := hide (zero_end (w := w) (wL := w1) (unhide HD1).k (.slice none 0 0) (.slice none 0 0))
    go_wp2
    refine bodyPost_ret (v := .tuple #[.agg #[.slice none 0 0, .slice none 0 0], .int .i64 (hostC ss xs h)]) (by simp [results, Tryz.results8, go_sem, r0, r1]) rfl ?_
    rw [(unhide HE).1, (unhide HE).2.1, (unhide HE).2.2]
    exact ⟨none, 0, none, 0, rfl, zeroD_own, unhide HZ⟩
  have hbn : (hostC ss xs h != 0) = false := by simp [hc]
  have HDB := hide (hostC_eq hc).1
  obtain ⟨hh0, hh3⟩ := (hostC_eq hc).2
  have HC := hide hc
  have hlx := (diskB_len (unhide HDB)).2
  have HLS : Hid (ss.length ≤ 1048576) := hide (by have := (diskB_len (unhide HDB)).1; omega)
  clear hc
  have HNE : Hid (niF k = if inB k 0 12 = true then 0 else 4) := hide rfl
  go_wp2_with fail
  refine (newImage_impl k _).mono ?_
  rintro e w2 ⟨a, ts, rfl, ho, hb⟩
  have HD2 := hide ((unhide HD1).next hb)
  have HR2 := hide ((unhide HR1).below hb)
  have HIS := hide (ho.shows (fun s hs => by unfold niI imNew im0 at hs; split at hs <;> cases hs))
  have hsz2 : w.heap.size + 1 < w2.heap.size := Nat.lt_of_lt_of_le hsz1 hb.size
  clear ho hb HD1 HR1
  simp only
  generalize hNI : niI k = NI at *
  have HNI := hide hNI
  clear hNI
  have HVI := hide (VarM.new w2 26 (.slice a.ro NI.refs.length a.rc) (.slice a.tq NI.table.length a.tc) (.slice a.so NI.snaps.length a.sc) (.slice a.dq NI.data.length a.dc))
  have HAI := hide (Joins.below_alloc1 w2 (.cells #[.slice a.ro NI.refs.length a.rc, .slice a.tq NI.table.length a.tc, .slice a.so NI.snaps.length a.sc, .slice a.dq NI.data.length a.dc] 26))
  have HD3 := hide ((unhide HD2).next (unhide HAI))
  have HR3 := hide ((unhide HR2).below (unhide HAI))
  have HI3 := hide ((unhide HIS).below (unhide HAI))
  have hsz3 := Nat.lt_of_lt_of_le hsz2 (unhide HAI).size
  clear HD2 HR2 HIS
  go_upto_region 5 with fail
  revert hsz3
  revert HI3
  revert HR3
  revert HD3
  revert HAI
  revert HVI
  generalize w2.heap.size = xi
  generalize (w2.alloc _) = w3
  intro HVI HAI HD3 HR3 HI3 hsz3
  clear HAI hsz2 hsz1
  cases hp : inB k 0 12
  · have HE := hide (fo_range (unhide HC) hp)
    have HN4 : Hid (niF k = 4) := hide (by rw [unhide HNE, hp]; rfl)
    rw [unhide HN4]
    obtain ⟨r0, r1⟩ := (unhide HR3).cells
    have rf0 := (unhide HR3).free 0
    have rf1 := (unhide HR3).free 1
    have HZ := hide (zero_end (w := w) (wL := w3) (unhide HD3).k (.slice none 0 0) (.slice none 0 0))
    clear hp
    go_wp2
    refine bodyPost_ret (v := .tuple #[.agg #[.slice none 0 0, .slice none 0 0], .int .i64 4]) (by simp [results, Tryz.results8, go_sem, r0, r1]) rfl ?_
    rw [(unhide HE).1, (unhide HE).2.1, (unhide HE).2.2]
    exact ⟨none, 0, none, 0, rfl, zeroD_own, unhide HZ⟩
  obtain ⟨hk0, hk1⟩ := inB_eq hp
  obtain ⟨n, rfl⟩ : ∃ n : Nat, k = (n : Int) := ⟨k.toNat, by omega⟩
  have hn : n ≤ 12 := by omega
  have HN0 : Hid (niF (n : Int) = 0) := hide (by rw [unhide HNE, hp]; rfl)
  have HNM : Hid (NI = imNew n) := hide (by rw [← unhide HNI, niI, if_pos (unhide HN0)]; simp)
  rw [unhide HN0]
  have HIR := hide (ImR.new hn)
  have HP := hide hp
  clear hp HNI HNE
  replace HNM := unhide HNM
  subst HNM
  obtain ⟨i0, i1, i2, i3⟩ := (unhide HVI).cells
  go_wp2_with fail
  refine (recordsOf_any a (imNew n) _ (unhide HIR) (unhide HI3)).mono ?_
  rintro e w4 ⟨B, nb, D, rfl, hnb, hge, hmp, hb⟩
  have HD4 := hide ((unhide HD3).next hb)
  have HR4 := hide ((unhide HR3).below hb)
  have HMP := hide hmp
  have hsz4 := Nat.lt_of_lt_of_le hsz3 hb.size
  clear hmp hb i0 i1 i2 i3 HD3 HR3 hge hsz3
  go_wp2_with fail
  refine (recUps_any (imNew n) (unhide HIR) B nb D _ (unhide HMP) hnb).mono ?_
  rintro e w5 ⟨uo, ua, rfl, hu⟩
  have HD5 := hide ((unhide HD4).next hu.k)
  have HR5 := hide ((unhide HR4).below hu.k)
  have HU5 := hide hu.o
  clear hu HD4 HR4
  have HUL : Hid ((allU (imNew n)).length = 3) := hide (by rw [allU_new]; rfl)
  have HUZ : Hid (∀ u ∈ allU (imNew n), u.data.size ≤ maxLen) := hide (fun u hu => by have := allU_sz (unhide HIR) u hu; unfold maxLen; omega)
  have HUA : Hid (∀ u ∈ allU (imNew n), u.data.size ≤ 80 ∧ 0 ≤ u.at_ ∧ u.at_ ≤ 63) := hide (fun u hu => by
    refine ⟨allU_sz (unhide HIR) u hu, ?_⟩
    rw [allU_new] at hu
    simp only [headU, List.mem_cons, List.not_mem_nil, or_false] at hu
    rcases hu with rfl | rfl | rfl <;> simp)
  have HFU : Hid (fuW h n = fmW h (allU (imNew n))) := hide rfl
  obtain ⟨v0, v1⟩ := (unhide HD5).v.cells
  have wr1 : IntKind.i64.wrap ((xs.length : Int) + 3) = (xs.length : Int) + 3 := by rw [IntKind.wrap_i64]; omega
  rw [unhide HUL] at HU5 ⊢
  by_cases hf : 200 < xs.length + 3
  · have HW := hide (fo_full (unhide HC) (unhide HP) hf)
    have hfi : (xs.length : Int) + 3 > 200 := by omega
    go_wp2_with fail
    refine (copyDisk_any ao bo ca cb ss xs _ (unhide HLS) (by omega) (unhide HD5).s (unhide HD5).i).mono ?_
    rintro e w6 ⟨po, pa, qo, qa, rfl, ho, hb⟩
    have HR6 := hide ((unhide HR5).below hb)
    obtain ⟨r0, r1⟩ := (unhide HR6).cells
    have rf0 := (unhide HR6).free 0
    have rf1 := (unhide HR6).free 1
    have HO := hide (fun u v => md_end (unhide HR6) (fr (unhide HD5).k hb) (Nat.le_succ _) (ho.base (unhide HD5).k.size) u v)
    clear ho hb v0 v1
    go_wp2
    refine bodyPost_ret (v := .tuple #[.agg #[.slice po ss.length pa, .slice qo xs.length qa], .int .i64 7]) (by simp [results, Tryz.results8, go_sem, r0, r1]) rfl ?_
    rw [(unhide HW).1, (unhide HW).2.1, (unhide HW).2.2]
    exact ⟨po, pa, qo, qa, rfl, unhide HO _ _⟩
  have HW := hide (fo_ok (unhide HC) (unhide HP) hf)
  have hfi : ¬ ((xs.length : Int) + 3 > 200) := by omega
  have HRG := hide (fuW_right (n := n) (unhide HDB) ⟨hh0, hh3⟩ hn (by omega))
  rw [unhide HFU] at HRG HW
  clear HFU HMP HIR HI3 HVI
  generalize allU (imNew n) = us at *
  go_wp2
  clear v0 v1
  go_loopw [44] (fun i wr => ∃ (j : Nat) (XX : List Wr) (po : Option Addr) (pa : Nat) (qo : Option Addr) (qa : Nat), j ≤ 3 ∧ i = .int .i64 j ∧ Hid (xs ++ (fmW h us).take j = XX) ∧ Hid (DkA w wr w.heap.size po pa qo qa ss XX) ∧ Hid (VarD wr (w.heap.size + 1) (.slice none 0 0) (.slice none 0 0)) ∧ Hid (OwnR wr w4.heap.size 43 2 (.slice uo 3 ua) 3 (upsV us))) (fun i _ => 3 - (intOf i).toNat)
  case atStart => exact ⟨0, xs, ao, ca, bo, cb, by omega, rfl, hide (by simp), HD5, HR5, HU5⟩
  case round =>
    clear HD5 HR5 HU5
    obtain ⟨j, XX, po, pa, qo, qa, hj, rfl, HEX, HD, HR, HU⟩ := hrel
    by_cases hlt : j < 3
    · have hju : j < us.length := by rw [unhide HUL]; exact hlt
      have hji : (j : Int) < 3 := by omega
      have HUS : Hid (Ups wr uo us) := hide (by
        have h := unhide HU
        rw [← unhide HUL] at h
        exact ownUps h (unhide HUZ))
      obtain ⟨b, off, rfl, hu0, hu1, _⟩ := unhide HUS j hju
      have HX := hide (heap_alloc_new wr (.cells #[.int .i64 us[j].at_, .string us[j].data] 43))
      have HBX := hide (Joins.below_alloc1 wr (.cells #[.int .i64 us[j].at_, .string us[j].data] 43))
      go_upto_region 13 with fail
      revert HX
      revert HBX
      generalize (wr.alloc _) = w6
      intro HBX HX
      obtain ⟨x0, x1⟩ := VarU1.cells (u := us[j]) (unhide HX)
      have HD6 := hide ((unhide HD).next (unhide HBX))
      have HR6 := hide ((unhide HR).below (unhide HBX))
      have HU6 := hide ((unhide HU).below (unhide HBX))
      clear HX HBX hu0 hu1 HUS HD HR HU
      obtain ⟨d0, d1⟩ := (unhide HD6).v.cells
      obtain ⟨az, a0, a1⟩ := unhide HUA us[j] (List.getElem_mem hju)
      obtain ⟨X7, HX7⟩ : ∃ X7, Hid (xs ++ (fmW h us).take (j + 1) = X7) := ⟨_, hide rfl⟩
      have HN : Hid (XX ++ [⟨h, us[j].at_, us[j].data⟩] = X7) := hide (by rw [← unhide HX7, ← unhide HEX]; exact (fmW_succ hju xs).symm)
      have hXl : XX.length < 200 := by rw [← unhide HEX, List.length_append, List.length_take, fmW_len, unhide HUL]; omega
      have HDK : Hid (diskB ss XX = true) := hide (by rw [← unhide HEX]; exact take_right (unhide HRG) j)
      have HZK : Hid ((∀ s ∈ ss, s.size ≤ maxLen) ∧ ∀ x ∈ X7, x.data.size ≤ maxLen) := hide (by rw [← unhide HX7]; exact right_sz2 (take_right (unhide HRG) (j + 1)))
      go_wp2_with fail
      refine (write_own po qo pa qa ss XX h us[j].at_ us[j].data X7 _ (unhide HN) (unhide HDK) hXl az hh0 hh3 a0 a1 (unhide HD6).s (unhide HD6).i).mono ?_
      rintro e w7 ⟨po7, pa7, qo7, qa7, rfl, ho, hb⟩
      have HS7 := hide (ho.ss (unhide HZK).1)
      have HI7 := hide (ho.ios (unhide HZK).2)
      have HD7 := hide ((unhide HD6).next hb)
      have HR7 := hide ((unhide HR6).below hb)
      have HU7 := hide ((unhide HU6).below hb)
      clear ho hb d0 d1 x0 x1 HD6 HR6 HU6 HDK HZK HN
      obtain ⟨t0, t1⟩ := (unhide HD7).v.cells
      have tf0 := (unhide HD7).v.free 0
      have tf1 := (unhide HD7).v.free 1
      have HDn := hide ((unhide HD7).put (pa' := pa7) (qa' := qa7) (Nat.le_refl _) rfl rfl (unhide HS7) (unhide HI7))
      have HRn := hide (((unhide HR7).apart (y := w.heap.size) (by omega) 0 (.slice po7 ss.length pa7)).apart (y := w.heap.size) (by omega) 1 (.slice qo7 X7.length qa7))
      have HUn := hide (UpS.setC (unhide HU7) (x := w.heap.size) (by omega) (.slice po7 ss.length pa7) (.slice qo7 X7.length qa7))
      go_wp2
      go_roundw
      case rel => exact ⟨j + 1, X7, po7, pa7, qo7, qa7, by omega, by go_num, HX7, HDn, HRn, HUn⟩
      case measure => simp [intOf]; omega
    · obtain rfl : j = 3 := by omega
      have HDE := HD
      have HXE : Hid (xs ++ fmW h us = XX) := hide (by
        have := unhide HEX
        rwa [List.take_of_length_le (by rw [fmW_len, unhide HUL]; exact Nat.le_refl _)] at this)
      clear HD HU
      rw [unhide HXE] at HW HRG
      obtain ⟨S, HES⟩ : ∃ S, Hid (putW ss (ofH h XX) = S) := ⟨_, hide rfl⟩
      obtain ⟨Y, HEY⟩ : ∃ Y, Hid (dropF h XX = Y) := ⟨_, hide rfl⟩
      rw [unhide HES, unhide HEY] at HW
      obtain ⟨d0, d1⟩ := (unhide HDE).v.cells
      go_wp2_with fail
      refine (flush_own po qo pa qa ss XX h S Y _ (unhide HES) (unhide HEY) (unhide HRG) hh0 hh3 (unhide HDE).s (unhide HDE).i).mono ?_
      rintro e w8 ⟨po8, pa8, qo8, qa8, rfl, ho, hb⟩
      have HR8 := hide ((unhide HR).below hb)
      obtain ⟨r0, r1⟩ := (unhide HR8).cells
      have rf0 := (unhide HR8).free 0
      have rf1 := (unhide HR8).free 1
      have HO := hide (fun u v => md_end (unhide HR8) (fr (unhide HDE).k hb) (Nat.le_succ _) (ho.base (unhide HDE).k.size) u v)
      clear ho hb d0 d1
      go_wp2
      refine bodyPost_ret (v := .tuple #[.agg #[.slice po8 S.length pa8, .slice qo8 Y.length qa8], .int .i64 0]) (by simp [results, Tryz.results8, go_sem, r0, r1]) rfl ?_
      rw [(unhide HW).1, (unhide HW).2.1, (unhide HW).2.2]
      exact ⟨po8, pa8, qo8, qa8, rfl, unhide HO _ _⟩

end Go.Proofs.YthnpooffhopnkacGreatDoor

/- Contract of impl.readNumbers. -/
namespace Go.Proofs.YthnpooffhopnkacGreatDoor
open Go.RowKit
set_option linter.unusedVariables false
set_option maxRecDepth 100000

def txt : Value → ByteArray
  | .string s => s
  | _ => ⟨#[]⟩
/-- What is left of a text behind some bytes. -/
def Rest (s u : ByteArray) (k : Nat) : Prop := u.size + k = s.size ∧ ∀ j, j < u.size → byteAt u j = byteAt s (k + j)
theorem Rest.zero (s : ByteArray) : Rest s s 0 := ⟨rfl, fun j _ => by rw [Nat.zero_add]⟩
theorem Rest.num {s u : ByteArray} {k : Nat} (h : Rest s u k) (h4 : 4 ≤ u.size) : numAt u 0 = numAt s k := by
  unfold numAt
  rw [h.2 0 (by omega), h.2 (0 + 1) (by omega), h.2 (0 + 2) (by omega), h.2 (0 + 3) (by omega)]
  simp

theorem cut_size {u : ByteArray} (a : Nat) : (u.extract a u.size).size = u.size - a := by simp
theorem cut_byte {u : ByteArray} {a j : Nat} (h : a + j < u.size) : byteAt (u.extract a u.size) j = byteAt u (a + j) := by
  have h' : a + j < u.data.size := h
  have e : (u.extract a u.size).data = u.data.extract a u.size := by simp
  unfold byteAt
  rw [e, Array.getElem?_extract]
  have : j < u.size - a := by omega
  simp [this]
theorem Rest.cut {s u : ByteArray} {k : Nat} (h : Rest s u k) (h4 : 4 ≤ u.size) : Rest s (u.extract 4 u.size) (k + 4) := by
  refine ⟨by rw [cut_size]; have := h.1; omega, fun j hj => ?_⟩
  rw [cut_size] at hj
  rw [cut_byte (by omega), h.2 (4 + j) (by omega), Nat.add_assoc]

set_option maxHeartbeats 1600000 in
theorem readNumbers_ok (s : ByteArray) (w : World) (h4 : s.size % 4 = 0) (hl : s.size ≤ 64) (hn : ∀ k, k < s.size / 4 → numB (numAt s (k * 4)) = true) :
    Calls Tryz.prog 135 #[.string s] w fun e w' => ∃ v, e = .returned v ∧ OwnN w' w.heap.size v (unL s) ∧ Below w.heap.size w w' := by
  obtain ⟨j0, hj, hy0, hy1, hy2⟩ := info_parts infoM
  have hb4 : ((s.size : Int) % 4 == 0) = true := by simp; omega
  have hli : (s.size : Int) ≤ 64 := by omega
  have HN := hide hn
  clear hn
  go_enter Tryz.func135, Tryz.ntmps135
  go_wp2_with (go_at_call 82; refine (demand_true _).mono ?_; rintro e w' ⟨rfl, hw⟩; replace hw := hw.symm; subst hw)
  go_loopw [0, 3] (fun t o wr => ∃ (k : Nat) (u : ByteArray) (qo : Option Addr) (qa : Nat), k ≤ s.size / 4 ∧ t = .string u ∧ o = .slice qo k qa ∧ u.size + k * 4 = s.size ∧ Hid (Rest s u (k * 4)) ∧ Hid (OwnR wr w.heap.size 3 1 (.slice qo k qa) k (intV ((unL s).take k))) ∧ Hid (Below w.heap.size w wr)) (fun t _ _ => (txt t).size)
  case atStart => exact ⟨0, s, _, _, Nat.zero_le _, rfl, rfl, rfl, hide (Rest.zero s), hide (.inl ⟨rfl, rfl, _, rfl⟩), hide (Below.refl _ _)⟩
  case round =>
    obtain ⟨k, u, qo, qa, hk, rfl, rfl, hu, HR, HO, HB⟩ := hrel
    by_cases hlt : k < s.size / 4
    · have hu4 : 4 ≤ u.size := by omega
      have HNU : Hid (numB (numAt u 0) = true) := hide (by rw [(unhide HR).num hu4]; exact unhide HN k hlt)
      have HNE := hide ((unhide HR).num hu4)
      have hu0 : 0 < u.size := by omega
      have HSZU := hide (cut_size (u := u) 4)
      go_wp2_with fail
      refine (readNumber_ok u _ hu4 (unhide HNU)).mono ?_
      rintro e w1 ⟨rfl, hb1⟩
      have HB1 := hide (fr (unhide HB) hb1)
      have HO1 := hide ((unhide HO).below hb1)
      clear hb1
      have HOA := hide ((unhide HO1).below (Joins.below_alloc1 _ (.cells #[.int .i64 (numAt u 0)] 3)))
      have HBA := hide (fr (unhide HB1) (Joins.below_alloc1 _ (.cells #[.int .i64 (numAt u 0)] 3)))
      have HSZ := hide (unhide HB1).size
      go_wp2_with (at_builtin; refine wpList_append_one rfl _ _ 23 rfl w.heap.size 3 j0 (.int .i64 0) 1 8 Tryz.underlying23 hj hy0 hy1 hy2 rfl (by omega) qo k qa (intV ((unL s).take k)) rfl (unhide HOA) (by have := unhide HSZ; simp; omega) ⟨w1.heap.size, 0, none⟩ _ [.int .i64 (numAt u 0)] rfl rfl (byte_news w1 _ _) (int_one _) (by unfold maxLen; omega) (by omega) ?_; intro g2 cap2 wA hoA hkA; have HSF := hide (And.intro hoA (keep_below (unhide HBA) (unhide HOA) (Nat.le_refl _) hkA)); clear hoA hkA)
      go_roundw
      case rel => exact ⟨k + 1, _, _, _, by omega, rfl, rfl, by rw [unhide HSZU]; omega, hide (by rw [show (k + 1) * 4 = k * 4 + 4 by omega]; exact (unhide HR).cut hu4), hide (.inr ⟨by omega, by rw [unL_succ hlt, intV_snoc, ← unhide HNE]; exact (unhide HSF).1⟩), hide (unhide HSF).2⟩
      case measure => show (u.extract 4 u.size).size < u.size; rw [unhide HSZU]; omega
    · have hke : k = (unL s).length := by rw [unL_length]; omega
      have hu0 : u.size = 0 := by omega
      have HT : Hid ((unL s).take k = unL s) := hide (List.take_of_length_le (by omega))
      have HON : Hid (OwnR wr w.heap.size 3 1 (.slice qo (unL s).length qa) (unL s).length (intV (unL s))) := hide (by have := unhide HO; rw [unhide HT, hke] at this; exact this)
      subst hke
      go_wp2
      go_ret
      exact ⟨.slice qo (unL s).length qa, rfl, ⟨qo, qa, rfl, unhide HON⟩, unhide HB⟩

set_option maxHeartbeats 1600000 in
theorem readNumbers_bad (s : ByteArray) (w : World) (k0 : Nat) (h4 : s.size % 4 = 0) (hl : s.size ≤ 64) (hk0 : k0 < s.size / 4) (hn : ∀ k, k < k0 → numB (numAt s (k * 4)) = true) (hn0 : numB (numAt s (k0 * 4)) = false) (hE : ErrW w) :
    Calls Tryz.prog 135 #[.string s] w fun e w' => (∃ u pv, e = .panicked [{ v := .iface u pv, recovered := false }]) ∧ Below w.heap.size w w' := by
  obtain ⟨j0, hj, hy0, hy1, hy2⟩ := info_parts infoM
  have hb4 : ((s.size : Int) % 4 == 0) = true := by simp; omega
  have hli : (s.size : Int) ≤ 64 := by omega
  have HN := hide hn
  have HN0 := hide hn0
  have HE := hide hE
  clear hn hn0 hE
  go_enter Tryz.func135, Tryz.ntmps135
  go_wp2_with (go_at_call 82; refine (demand_true _).mono ?_; rintro e w' ⟨rfl, hw⟩; replace hw := hw.symm; subst hw)
  go_loopw [0, 3] (fun t o wr => ∃ (k : Nat) (u : ByteArray) (qo : Option Addr) (qa : Nat), k ≤ k0 ∧ t = .string u ∧ o = .slice qo k qa ∧ u.size + k * 4 = s.size ∧ Hid (Rest s u (k * 4)) ∧ Hid (OwnR wr w.heap.size 3 1 (.slice qo k qa) k (intV ((unL s).take k))) ∧ Hid (Below w.heap.size w wr)) (fun t _ _ => (txt t).size)
  case atStart => exact ⟨0, s, _, _, Nat.zero_le _, rfl, rfl, rfl, hide (Rest.zero s), hide (.inl ⟨rfl, rfl, _, rfl⟩), hide (Below.refl _ _)⟩
  case round =>
    obtain ⟨k, u, qo, qa, hk, rfl, rfl, hu, HR, HO, HB⟩ := hrel
    have hlt0 : k < s.size / 4 := by omega
    by_cases hlt : k < k0
    · have hu4 : 4 ≤ u.size := by omega
      have HNU : Hid (numB (numAt u 0) = true) := hide (by rw [(unhide HR).num hu4]; exact unhide HN k hlt)
      have HNE := hide ((unhide HR).num hu4)
      have hu0 : 0 < u.size := by omega
      have HSZU := hide (cut_size (u := u) 4)
      go_wp2_with fail
      refine (readNumber_ok u _ hu4 (unhide HNU)).mono ?_
      rintro e w1 ⟨rfl, hb1⟩
      have HB1 := hide (fr (unhide HB) hb1)
      have HO1 := hide ((unhide HO).below hb1)
      clear hb1
      have HOA := hide ((unhide HO1).below (Joins.below_alloc1 _ (.cells #[.int .i64 (numAt u 0)] 3)))
      have HBA := hide (fr (unhide HB1) (Joins.below_alloc1 _ (.cells #[.int .i64 (numAt u 0)] 3)))
      have HSZ := hide (unhide HB1).size
      go_wp2_with (at_builtin; refine wpList_append_one rfl _ _ 23 rfl w.heap.size 3 j0 (.int .i64 0) 1 8 Tryz.underlying23 hj hy0 hy1 hy2 rfl (by omega) qo k qa (intV ((unL s).take k)) rfl (unhide HOA) (by have := unhide HSZ; simp; omega) ⟨w1.heap.size, 0, none⟩ _ [.int .i64 (numAt u 0)] rfl rfl (byte_news w1 _ _) (int_one _) (by unfold maxLen; omega) (by omega) ?_; intro g2 cap2 wA hoA hkA; have HSF := hide (And.intro hoA (keep_below (unhide HBA) (unhide HOA) (Nat.le_refl _) hkA)); clear hoA hkA)
      go_roundw
      case rel => exact ⟨k + 1, _, _, _, by omega, rfl, rfl, by rw [unhide HSZU]; omega, hide (by rw [show (k + 1) * 4 = k * 4 + 4 by omega]; exact (unhide HR).cut hu4), hide (.inr ⟨by omega, by rw [unL_succ hlt0, intV_snoc, ← unhide HNE]; exact (unhide HSF).1⟩), hide (unhide HSF).2⟩
      case measure => show (u.extract 4 u.size).size < u.size; rw [unhide HSZU]; omega
    · have hu4 : 4 ≤ u.size := by omega
      have hu0 : 0 < u.size := by omega
      have hke : k = k0 := by omega
      have HNU : Hid (numB (numAt u 0) = false) := hide (by rw [(unhide HR).num hu4, hke]; exact unhide HN0)
      go_wp2_with fail
      refine (readNumber_no u _ hu4 (unhide HNU) ((unhide HE).below (unhide HB))).mono ?_
      rintro e w1 ⟨⟨u1, pv, rfl⟩, hb1⟩
      have HB1 := hide (fr (unhide HB) hb1)
      clear hb1
      go_wp2
      exact ⟨rfl, ⟨u1, pv, rfl⟩, unhide HB1⟩

set_option maxHeartbeats 800000 in
theorem readNumbers_form (s : ByteArray) (w : World) (h : s.size % 4 ≠ 0 ∨ 64 < s.size) (hE : ErrW w) :
    Calls Tryz.prog 135 #[.string s] w fun e w' => (∃ u pv, e = .panicked [{ v := .iface u pv, recovered := false }]) ∧ Below w.heap.size w w' := by
  have HE := hide hE
  clear hE
  by_cases h4 : s.size % 4 = 0
  · have hb4 : ((s.size : Int) % 4 == 0) = true := by simp; omega
    have hli : ¬ (s.size : Int) ≤ 64 := by omega
    go_enter Tryz.func135, Tryz.ntmps135
    go_wp2_with (go_at_call 82; refine (demand_false _ (unhide HE)).mono ?_; rintro e w' ⟨⟨u1, pv, rfl⟩, hw⟩; replace hw := hw.symm; subst hw)
    exact ⟨rfl, ⟨_, _, rfl⟩, Below.refl _ _⟩
  · have hb4 : ((s.size : Int) % 4 == 0) = false := by simp; omega
    go_enter Tryz.func135, Tryz.ntmps135
    go_wp2_with (go_at_call 82; refine (demand_false _ (unhide HE)).mono ?_; rintro e w' ⟨⟨u1, pv, rfl⟩, hw⟩; replace hw := hw.symm; subst hw)
    exact ⟨rfl, ⟨_, _, rfl⟩, Below.refl _ _⟩

theorem first_bad {p : Nat → Bool} : ∀ n, (∀ k, k < n → p k = true) ∨ ∃ k0, k0 < n ∧ (∀ k, k < k0 → p k = true) ∧ p k0 = false
  | 0 => .inl (fun k hk => by omega)
  | n + 1 => by
    rcases first_bad (p := p) n with h | ⟨k0, h0, h1, h2⟩
    · cases hp : p n with
      | true => exact .inl (fun k hk => by
          by_cases e : k = n
          · subst e; exact hp
          · exact h k (by omega))
      | false => exact .inr ⟨n, by omega, h, hp⟩
    · exact .inr ⟨k0, by omega, h1, h2⟩

/-- readNumbers, by what the text is. -/
theorem readNumbers_yes (s : ByteArray) (w : World) (h : okU s = true) :
    Calls Tryz.prog 135 #[.string s] w fun e w' => ∃ v, e = .returned v ∧ OwnN w' w.heap.size v (unL s) ∧ Below w.heap.size w w' := by
  have h4 : s.size % 4 = 0 := by
    by_cases h4 : s.size % 4 = 0
    · exact h4
    · rw [okU_rest h4] at h; cases h
  have hl : s.size ≤ 64 := by
    by_cases hl : 64 < s.size
    · rw [okU_long hl] at h; cases h
    · omega
  refine readNumbers_ok s w h4 hl (fun k hk => ?_)
  cases hb : numB (numAt s (k * 4)) with
  | true => rfl
  | false => rw [okU_bad hk hb] at h; cases h
theorem readNumbers_no (s : ByteArray) (w : World) (h : okU s = false) (hE : ErrW w) :
    Calls Tryz.prog 135 #[.string s] w fun e w' => (∃ u pv, e = .panicked [{ v := .iface u pv, recovered := false }]) ∧ Below w.heap.size w w' := by
  by_cases h4 : s.size % 4 = 0
  · by_cases hl : s.size ≤ 64
    · rcases first_bad (p := fun k => numB (numAt s (k * 4))) (s.size / 4) with hg | ⟨k0, h0, h1, h2⟩
      · rw [okU_true h4 hl hg] at h; cases h
      · exact readNumbers_bad s w k0 h4 hl h0 h1 h2 hE
    · exact readNumbers_form s w (.inr (by omega)) hE
  · exact readNumbers_form s w (.inl h4) hE

end Go.Proofs.YthnpooffhopnkacGreatDoor

/- Contract of impl.readText[[]int] and impl.UnpackInts. -/
namespace Go.Proofs.YthnpooffhopnkacGreatDoor
open Go.RowKit
set_option linter.unusedVariables false
set_option maxRecDepth 100000

/-- The variable that holds the code. -/
theorem code_block {w w1 : World} (hb : Below (w.alloc (.cells #[.int .i64 0] 3)).heap.size (w.alloc (.cells #[.int .i64 0] 3)) w1) : w1.heap[w.heap.size]? = some (.cells #[.int .i64 0] 3 (0, 0)) := by
  rw [hb.block _ (by simp)]; exact heap_alloc_new w _

end Go.Proofs.YthnpooffhopnkacGreatDoor
