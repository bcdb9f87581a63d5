import Derived.Test.YtjoafbkcnnhdiacRows
import Derived.Test.YtjoafbkcnnhdiacXRepairPart1
import Derived.Test.YtjoafbkcnnhdiacXRepairPart6
import Derived.Test.YtjoafbkcnnhdiacXRepairPart3
import Derived.Test.YtjoafbkcnnhdiacXRepairPart7
import Derived.Test.YtjoafbkcnnhdiacXRepairPart2
import Derived.Test.YtjoafbkcnnhdiacXRepairPart5
import Derived.WalkKit
import Derived.WalkSpells
import Derived.KernelRfl
import Derived.LoopN
import Derived.BigQuiet
import Derived.Deep.LoopGhost
import Derived.Outline
import Derived.Deep.QuietTactic
import Derived.Deep.RegionWith
import Derived.Deep.MidRow
import Derived.Laws.ResultCell

namespace Go.Proofs.Ytjoafbkcnnhdiac
open Go.RowKit
set_option linter.unusedVariables false
set_option maxRecDepth 100000

theorem parts_ck (m : Img) : partsB m = ckB m := by
  have e : (imTabs m).all tbB = (tbB m.table && m.snaps.all (fun s => tbB s.table)) := by
    unfold imTabs
    rw [List.all_cons, List.all_map]; rfl
  have e2 : m.snaps.all (fun s => snmB s.name && tbB s.table) = (m.snaps.all (fun s => snmB s.name) && m.snaps.all (fun s => tbB s.table)) := by
    induction m.snaps with
    | nil => rfl
    | cons s ss ih =>
      simp only [List.all_cons, ih]
      cases snmB s.name <;> cases tbB s.table <;> simp
  unfold ckB imFm partsB datB snpsB
  rw [tabs_all, e, e2]
  cases ctB m.refs <;> cases tbB m.table <;> cases decide (m.snaps.length ≤ 3) <;> cases decide (m.data.length = 24) <;> cases m.snaps.all (fun s => snmB s.name) <;> cases m.snaps.all (fun s => tbB s.table) <;> cases namesB m.snaps <;> cases m.data.all numB <;> simp

def hit1 (t : List Int) (c : Nat) : Int := if (2 + (c : Int)) ∈ t then 1 else 0
def hitN (ts : List (List Int)) (c j : Nat) : Int := ((ts.take j).map fun t => hit1 t c).sum
theorem hitN_zero (ts : List (List Int)) (c : Nat) : hitN ts c 0 = 0 := by simp [hitN]
theorem hitN_succ {ts : List (List Int)} {c j : Nat} (h : j < ts.length) : hitN ts c (j + 1) = hitN ts c j + hit1 ts[j] c := by
  unfold hitN
  rw [List.take_succ_eq_append_getElem h, List.map_append, List.sum_append]; simp
theorem hitN_bd {ts : List (List Int)} {c : Nat} : ∀ j, j ≤ ts.length → 0 ≤ hitN ts c j ∧ hitN ts c j ≤ j := by
  intro j
  induction j with
  | zero => intro _; rw [hitN_zero]; omega
  | succ j ih =>
    intro h
    have := ih (by omega)
    rw [hitN_succ (by omega)]
    unfold hit1
    split <;> omega
theorem hit_yes {t : List Int} {c : Nat} (h : (2 + (c : Int)) ∈ t) : hit1 t c = 1 := if_pos h
theorem hit_no {t : List Int} {c : Nat} (h : ¬ (2 + (c : Int)) ∈ t) : hit1 t c = 0 := if_neg h
def ysA (ts : List (List Int)) (k j : Nat) : List Int := (List.range 24).map fun c => if c < k then hitN ts c ts.length else if c = k then hitN ts c j else 0
theorem ysA_len (ts : List (List Int)) (k j : Nat) : (ysA ts k j).length = 24 := by simp [ysA]
theorem ysA_at {ts : List (List Int)} {k j c : Nat} (h : c < (ysA ts k j).length) : (ysA ts k j)[c] = if c < k then hitN ts c ts.length else if c = k then hitN ts c j else 0 := by simp [ysA]
theorem ysA_zero (ts : List (List Int)) : ysA ts 0 0 = zero24 := by
  refine List.ext_getElem (by rw [ysA_len]; rfl) (fun i h1 h2 => ?_)
  rw [ysA_at, if_neg (by omega)]
  have e : zero24[i] = 0 := List.getElem_replicate ..
  rw [e]
  split
  · exact hitN_zero _ _
  · rfl
theorem ysA_next (ts : List (List Int)) (k : Nat) : ysA ts k ts.length = ysA ts (k + 1) 0 := by
  refine List.ext_getElem (by rw [ysA_len, ysA_len]) (fun i h1 h2 => ?_)
  rw [ysA_at, ysA_at]
  by_cases a : i < k
  · rw [if_pos a, if_pos (by omega)]
  · by_cases b : i = k
    · rw [if_neg a, if_pos b, if_pos (by omega)]
    · rw [if_neg a, if_neg b, if_neg (by omega)]
      split
      · exact (hitN_zero _ _).symm
      · rfl
theorem ysA_no {ts : List (List Int)} {k j : Nat} (hj : j < ts.length) (h : hit1 ts[j] k = 0) : ysA ts k (j + 1) = ysA ts k j := by
  refine List.ext_getElem (by rw [ysA_len, ysA_len]) (fun i h1 h2 => ?_)
  rw [ysA_at, ysA_at]
  by_cases b : i = k
  · subst b
    simp [hitN_succ hj, h]
  · rw [if_neg b, if_neg b]
theorem ysA_yes {ts : List (List Int)} {k j : Nat} (hk : k < 24) (hj : j < ts.length) (h : hit1 ts[j] k = 1) : ysA ts k (j + 1) = (ysA ts k j).set k (hitN ts k j + 1) := by
  refine List.ext_getElem (by rw [List.length_set, ysA_len, ysA_len]) (fun i h1 h2 => ?_)
  rw [List.getElem_set, ysA_at]
  by_cases b : k = i
  · subst b
    rw [if_neg (by omega), if_pos rfl, if_pos rfl, hitN_succ hj, h]
  · have b' : ¬ i = k := fun e => b e.symm
    rw [if_neg b', if_neg b, ysA_at, if_neg b']
theorem ysA_k {ts : List (List Int)} {k j : Nat} (hk : k < (ysA ts k j).length) : (ysA ts k j)[k] = hitN ts k j := by
  rw [ysA_at, if_neg (by omega), if_pos rfl]
theorem hit_once {t : List Int} (h : onceB t = true) (c : Nat) : hit1 t c = cN t c := by
  have h' : (clA t).Nodup := of_decide_eq_true h
  have e := clA_count t c
  have e2 : cN t c = (t.count (2 + (c : Int)) : Int) := by unfold cN; rw [show (c : Int) + 2 = 2 + (c : Int) by omega]
  have hle : (clA t).count (c : Int) ≤ 1 := List.nodup_iff_count.1 h' _
  unfold hit1
  split
  · rename_i hm
    have := List.count_pos_iff.2 hm
    omega
  · rename_i hm
    have := List.count_eq_zero.2 hm
    omega
theorem hits_cnt {m : Img} (h1 : ∀ t ∈ imTabs m, tbB t = true) (h2 : ∀ t ∈ imTabs m, onceB t = true) : ysA (imTabs m) 24 0 = imCnt m := by
  refine List.ext_getElem (by rw [ysA_len, imCnt_len]) (fun i ha hb => ?_)
  have hi : i < 24 := by rw [ysA_len] at ha; exact ha
  have e := cnt_get h1 hi
  have e0 : (imCnt m).getD i 0 = (imCnt m)[i] := by simp [List.getD, hb]
  rw [e0] at e
  rw [ysA_at, if_pos hi, e]
  unfold hitN sN
  rw [List.take_length]
  congr 1
  exact List.map_congr_left (fun t ht => hit_once (h2 t ht) i)

theorem infoPt : (Try.prog.info? 102).map (fun i => (i.zero, i.size, i.bytes)) = some (some (.pointer none), 1, 8) := by kernel_rfl
theorem ptr_one (p : Option Addr) : ∀ u ∈ [Value.pointer p], u.oneCell' = true := by
  intro u hu
  simp at hu
  subst hu
  rfl
def PtrV (w : World) (vs : List Value) (ts : List (List Int)) : Prop := vs.length = ts.length ∧ ∀ j (h : j < ts.length), ∃ pb po tq tc, vs[j]? = some (.pointer (some ⟨pb, po, none⟩)) ∧ w.cell? ⟨pb, po, none⟩ = some (.slice tq ts[j].length tc) ∧ Is w tq ts[j]
theorem PtrV.snoc {w : World} {vs : List Value} {ts : List (List Int)} {t : List Int} {pb po : Nat} {tq : Option Addr} {tc : Nat} (h : PtrV w vs ts) (hc : w.cell? ⟨pb, po, none⟩ = some (.slice tq t.length tc)) (ht : Is w tq t) : PtrV w (vs ++ [.pointer (some ⟨pb, po, none⟩)]) (ts ++ [t]) := by
  refine ⟨by simp [h.1], fun j hj => ?_⟩
  rw [List.length_append, List.length_singleton] at hj
  by_cases e : j < ts.length
  · obtain ⟨a, b, c, d, h1, h2, h3⟩ := h.2 j e
    refine ⟨a, b, c, d, ?_, ?_, ?_⟩
    · rw [List.getElem?_append_left (by rw [h.1]; exact e)]; exact h1
    · rw [List.getElem_append_left e]; exact h2
    · rw [List.getElem_append_left e]; exact h3
  · obtain rfl : j = ts.length := by omega
    refine ⟨pb, po, tq, tc, ?_, ?_, ?_⟩
    · rw [List.getElem?_append_right (by rw [h.1]; exact Nat.le_refl _), h.1]; simp
    · simpa using hc
    · simpa using ht
def RowP (w : World) (qo : Option Addr) (ts : List (List Int)) : Prop := ∀ j (h : j < ts.length), ∃ b off pb po tq tc, qo = some ⟨b, off, none⟩ ∧ w.cell? ⟨b, off + j, none⟩ = some (.pointer (some ⟨pb, po, none⟩)) ∧ w.cell? ⟨pb, po, none⟩ = some (.slice tq ts[j].length tc) ∧ Is w tq ts[j]
theorem RowP.below {w w' : World} {qo : Option Addr} {ts : List (List Int)} (h : RowP w qo ts) (hb : Below w.heap.size w w') : RowP w' qo ts := fun j hj => by
  obtain ⟨b, off, pb, po, tq, tc, e, h1, h2, h3⟩ := h j hj
  exact ⟨b, off, pb, po, tq, tc, e, (hb.cell (p := ⟨b, off + j, none⟩) (World.block_lt_of_cell? _ _ h1)).trans h1, (hb.cell (p := ⟨pb, po, none⟩) (World.block_lt_of_cell? _ _ h2)).trans h2, h3.below hb⟩

set_option maxHeartbeats 3200000 in
theorem tablePointers_any (x : Nat) (a : Im4) (m : Img) (w : World) (hs : m.snaps.length ≤ 3) (hv : VarM w x 29 (.slice a.ro m.refs.length a.rc) (.slice a.tq m.table.length a.tc) (.slice a.so m.snaps.length a.sc) (.slice a.dq m.data.length a.dc)) (hc : ImS w a m) :
    Calls Try.prog 56 #[.pointer (some ⟨x, 0, none⟩)] w fun e w' => ∃ qo qa, e = .returned (.slice qo (imTabs m).length qa) ∧ RowP w' qo (imTabs m) ∧ Below w.heap.size w w' := by
  have HV := hide hv
  have HC := hide hc
  clear hc
  obtain ⟨j0, hj, hy0, hy1, hy2⟩ := info_parts infoPt
  obtain ⟨d0, d1, d2, d3⟩ := hv.cells
  have HD1 := hide d1
  clear hv d0 d1 d2 d3
  have HOT : Hid (OwnR (w.alloc (.cells #[.pointer (some ⟨x, 1, none⟩)] 102)) w.heap.size 102 1 (.slice (some ⟨w.heap.size, 0, none⟩) 1 1) 1 [.pointer (some ⟨x, 1, none⟩)]) := hide (.inr ⟨by omega, rfl, .inr ⟨w.heap.size, 1, #[.pointer (some ⟨x, 1, none⟩)], rfl, Nat.le_refl _, heap_alloc_new w _, Nat.le_refl _, by unfold maxLen; omega, rfl, rfl⟩⟩)
  have HBA := hide (Joins.below_alloc1 w (.cells #[.pointer (some ⟨x, 1, none⟩)] 102))
  go_enter Try.func56, Try.ntmps56
  go_upto_region 2 with fail
  revert HOT HBA
  generalize (w.alloc _) = W1
  intro HOT HBA
  obtain ⟨c0, c1, c2, c3⟩ := ((unhide HV).below (unhide HBA)).cells
  go_wp2
  clear c0 c1 c2 c3
  go_loopw [3, 14] (fun o i wr => ∃ (k : Nat) (qo : Option Addr) (qa : Nat) (vs : List Value), k ≤ m.snaps.length ∧ i = .int .i64 k ∧ o = .slice qo (k + 1) qa ∧ Hid (OwnR wr w.heap.size 102 1 (.slice qo (k + 1) qa) (k + 1) vs) ∧ Hid (PtrV w vs ((imTabs m).take (k + 1))) ∧ Hid (Below w.heap.size w wr)) (fun _ i _ => m.snaps.length - (intOf i).toNat)
  case atStart => exact ⟨0, _, _, [.pointer (some ⟨x, 1, none⟩)], Nat.zero_le _, rfl, rfl, HOT, hide (by
    have h0 : PtrV w [] [] := ⟨rfl, fun j h => by simp at h⟩
    have := h0.snoc (unhide HD1) (unhide HC).t
    simpa [imTabs] using this), HBA⟩
  case round =>
    clear HOT HBA
    obtain ⟨k, qo, qa, vs, hk, rfl, rfl, HO, HT, HB⟩ := hrel
    by_cases hlt : k < m.snaps.length
    · obtain ⟨b, off, tq, tc, hso, _, ht0, hIs, _, _⟩ := (unhide HC).s k hlt
      have hlti : (k : Int) < (m.snaps.length : Int) := by omega
      have HT' : Hid (PtrV w (vs ++ [.pointer (some ⟨b, off + k * 2 + 1, none⟩)]) ((imTabs m).take (k + 1 + 1))) := hide (by
        rw [imTabs_take hlt]
        exact (unhide HT).snoc ht0 hIs)
      obtain ⟨c0, c1, c2, c3⟩ := ((unhide HV).below (unhide HB)).cells
      rw [hso] at c2
      have HSZ := hide (unhide HB).size
      have HOA := hide ((unhide HO).below (Joins.below_alloc1 wr (.cells #[.pointer (some ⟨b, off + k * 2 + 1, none⟩)] 102)))
      have HBA := hide (fr (unhide HB) (Joins.below_alloc1 wr (.cells #[.pointer (some ⟨b, off + k * 2 + 1, none⟩)] 102)))
      clear hIs ht0 hso
      go_wp2_with (at_builtin; refine wpList_append_one rfl _ _ 77 rfl w.heap.size 102 j0 (.pointer none) 1 8 Try.underlying77 hj hy0 hy1 hy2 rfl (by omega) qo (k + 1) qa vs rfl (unhide HOA) (by have := unhide HSZ; simp; omega) ⟨wr.heap.size, 0, none⟩ _ [.pointer (some ⟨b, off + k * 2 + 1, none⟩)] rfl rfl (byte_news wr _ _) (ptr_one _) (by unfold maxLen; omega) (by omega) ?_; intro g2 cap2 wA hoA hkA; have HSF := hide (And.intro hoA (keep_below (unhide HBA) (unhide HOA) (Nat.le_refl _) hkA)); clear hoA hkA)
      go_roundw
      case rel => exact ⟨k + 1, some ⟨g2, 0, none⟩, cap2, vs ++ [.pointer (some ⟨b, off + k * 2 + 1, none⟩)], by omega, by go_num, rfl, hide (.inr ⟨by omega, (unhide HSF).1⟩), HT', hide (unhide HSF).2⟩
      case measure => simp [intOf]; omega
    · obtain rfl : k = m.snaps.length := by omega
      have HTT : Hid (PtrV w vs (imTabs m)) := hide (by
        have := unhide HT
        rwa [List.take_of_length_le (by rw [imTabs_len]; exact Nat.le_refl _)] at this)
      have HLT := hide (imTabs_len m)
      have HR : Hid (RowP wr qo (imTabs m)) := hide (fun j hj => by
        have hjn : j < m.snaps.length + 1 := by rw [← unhide HLT]; exact hj
        obtain ⟨pb, po, tq, tc, hvk, hpc, hIs⟩ := (unhide HTT).2 j hj
        obtain ⟨q2, cap2, cur2, eq2, _, _⟩ := own_form (by omega) ((unhide HO).row (by omega))
        have hcell := ((unhide HO).row (by omega))
        rw [eq2] at hcell
        have hck := (hcell.cellAt j (by omega)).trans hvk
        cases eq2
        exact ⟨q2, 0, pb, po, tq, tc, rfl, by rw [Nat.zero_add]; exact hck, ((unhide HB).cell (p := ⟨pb, po, none⟩) (World.block_lt_of_cell? _ _ hpc)).trans hpc, hIs.below (unhide HB)⟩)
      go_wp2
      go_ret
      exact ⟨qo, qa, by rw [unhide HLT]; rfl, unhide HR, unhide HB⟩

structure CkW (w wr : World) (G H : Nat) (xs : List Int) : Prop where
  v : VarC wr G xs
  r : VarC wr H zero24
  b : Below w.heap.size w wr
  ge : w.heap.size ≤ G
  ne : G ≠ H
theorem CkW.new (w : World) : CkW w ((w.alloc (.cells #[.int .i64 0, .int .i64 0, .int .i64 0, .int .i64 0, .int .i64 0, .int .i64 0, .int .i64 0, .int .i64 0, .int .i64 0, .int .i64 0, .int .i64 0, .int .i64 0, .int .i64 0, .int .i64 0, .int .i64 0, .int .i64 0, .int .i64 0, .int .i64 0, .int .i64 0, .int .i64 0, .int .i64 0, .int .i64 0, .int .i64 0, .int .i64 0] 75)).alloc (.cells #[.int .i64 0, .int .i64 0, .int .i64 0, .int .i64 0, .int .i64 0, .int .i64 0, .int .i64 0, .int .i64 0, .int .i64 0, .int .i64 0, .int .i64 0, .int .i64 0, .int .i64 0, .int .i64 0, .int .i64 0, .int .i64 0, .int .i64 0, .int .i64 0, .int .i64 0, .int .i64 0, .int .i64 0, .int .i64 0, .int .i64 0, .int .i64 0] 75)) (w.heap.size + 1) w.heap.size zero24 where
  v := by have h := arr_new (w.alloc (.cells #[.int .i64 0, .int .i64 0, .int .i64 0, .int .i64 0, .int .i64 0, .int .i64 0, .int .i64 0, .int .i64 0, .int .i64 0, .int .i64 0, .int .i64 0, .int .i64 0, .int .i64 0, .int .i64 0, .int .i64 0, .int .i64 0, .int .i64 0, .int .i64 0, .int .i64 0, .int .i64 0, .int .i64 0, .int .i64 0, .int .i64 0, .int .i64 0] 75)); rw [World.size_alloc] at h; exact h
  r := block_of_below (arr_new w) (Joins.below_alloc1 _ _)
  b := Joins.below_alloc2 w _ _
  ge := by omega
  ne := by omega
theorem CkW.set {w wr : World} {G H : Nat} {xs : List Int} (h : CkW w wr G H xs) (k : Nat) (n : Int) : CkW w (wr.setCell ⟨G, k, none⟩ (.int .i64 n)) G H (xs.set k n) where
  v := arr_set h.v k n
  r := by
    show (wr.setCell ⟨G, k, none⟩ (.int .i64 n)).heap[H]? = _
    rw [Below.heap_setCell wr ⟨G, k, none⟩ (.int .i64 n) H h.ne.symm]; exact h.r
  b := h.b.setCell (p := ⟨G, k, none⟩) h.ge (.int .i64 n)
  ge := h.ge
  ne := h.ne
theorem hit_mem {t : List Int} {c i : Nat} (hi : i < t.length) (h : t[i] = 2 + (c : Int)) : hit1 t c = 1 := hit_yes (by rw [← h]; exact List.getElem_mem hi)
theorem hit_none {t : List Int} {c : Nat} (h : ∀ q (hq : q < t.length), q < t.length → t[q] ≠ 2 + (c : Int)) : hit1 t c = 0 := hit_no (fun hm => by
  obtain ⟨q, hq, e⟩ := List.mem_iff_getElem.1 hm
  exact h q hq hq e)

set_option maxHeartbeats 3200000 in
theorem countTables_any (qo : Option Addr) (qa : Nat) (ts : List (List Int)) (w : World) (hl : ts.length ≤ 4) (ht : ∀ t ∈ ts, t.length ≤ 12) (hc : RowP w qo ts) :
    Calls Try.prog 55 #[.slice qo ts.length qa] w fun e w' => e = .returned (ctV (ysA ts 24 0)) ∧ Below w.heap.size w w' := by
  have HC := hide hc
  have HT := hide ht
  have HW0 := hide (CkW.new w)
  have HZ := hide (ysA_zero ts)
  clear hc ht
  go_enter Try.func55, Try.ntmps55
  go_upto_region 2 with fail
  revert HW0
  generalize ((w.alloc (.cells #[.int .i64 0, .int .i64 0, .int .i64 0, .int .i64 0, .int .i64 0, .int .i64 0, .int .i64 0, .int .i64 0, .int .i64 0, .int .i64 0, .int .i64 0, .int .i64 0, .int .i64 0, .int .i64 0, .int .i64 0, .int .i64 0, .int .i64 0, .int .i64 0, .int .i64 0, .int .i64 0, .int .i64 0, .int .i64 0, .int .i64 0, .int .i64 0] 75)).alloc (.cells #[.int .i64 0, .int .i64 0, .int .i64 0, .int .i64 0, .int .i64 0, .int .i64 0, .int .i64 0, .int .i64 0, .int .i64 0, .int .i64 0, .int .i64 0, .int .i64 0, .int .i64 0, .int .i64 0, .int .i64 0, .int .i64 0, .int .i64 0, .int .i64 0, .int .i64 0, .int .i64 0, .int .i64 0, .int .i64 0, .int .i64 0, .int .i64 0] 75)) = W1
  generalize w.heap.size + 1 = G1
  intro HW0
  go_wp2
  go_loopg [9] 24 (fun g i wr => ∃ k : Nat, k + g = 24 ∧ i = .int .i64 k ∧ Hid (CkW w wr G1 w.heap.size (ysA ts k 0)))
  case atStart => exact ⟨0, by omega, rfl, hide (by rw [unhide HZ]; exact unhide HW0)⟩
  case round =>
    obtain ⟨k, hkg, rfl, HW⟩ := hrel
    cases gk with
    | zero =>
      have hk : k = 24 := by omega
      have hkz : ¬ ((k : Int) < 24) := by omega
      have HK := hide hk
      clear hk hkg
      have HL := hide (ysA_len ts k 0)
      have HH := hide (Array.getElem?_eq_some_iff.1 (unhide HW).r).1
      go_wp2_with (first | (refine wpList_load_arr rfl 75 _ rfl G1 rfl (intV (ysA ts k 0)).toArray _ _ (unhide HW).v und24 rfl (sizeA (unhide HL)) ?_) | (refine wpList_store_arr rfl 75 _ _ rfl w.heap.size rfl (intV (ysA ts k 0)).toArray rfl _ _ (unhide HW).r (sizeA (unhide HL)) (by rw [intV_size, intV_size, unhide HL]; rfl) (intV_one _) ?_; intro w2 hn2 hk2 hs2; have HN2 := hide hn2; have HB2 := hide (keep_one (unhide HW).b hk2 (Nat.le_refl _)); clear hn2 hk2 hs2))
      refine bodyPost_ret (v := ctV (ysA ts k 0)) ?_ rfl ⟨by rw [unhide HK], unhide HB2⟩
      exact results_cell_row Try.results55 _ _ w.heap.size 75 (intV (ysA ts k 0)).toArray (0, 0) _ rfl (unhide HN2) und24 rfl (sizeA (unhide HL))
    | succ g =>
      have hk24 : k < 24 := by omega
      have hkz : (k : Int) < 24 := by omega
      go_wp2
      go_step3
      go_wp2
      go_step3
      go_wp2
      go_loopg [14] ts.length (fun g2 i wy => ∃ j : Nat, j + g2 = ts.length ∧ i = .int .i64 j ∧ Hid (CkW w wy G1 w.heap.size (ysA ts k j)))
      case atStart => exact ⟨0, by omega, rfl, HW⟩
      case round =>
        clear HW
        obtain ⟨j, hjg, rfl, HW⟩ := hrel
        have HLT := hide (ysA_len ts k j)
        cases gk with
        | zero =>
          have hjz : ¬ ((j : Int) < (ts.length : Int)) := by omega
          have HJ : Hid (ysA ts k j = ysA ts (k + 1) 0) := hide (by rw [show j = ts.length by omega]; exact ysA_next ts k)
          go_wp2
          go_roundg g
          case measure => omega
          case rel => exact ⟨k + 1, by omega, by go_num, hide (by rw [← unhide HJ]; exact unhide HW)⟩
        | succ g2 =>
          have hjl : j < ts.length := by omega
          have hjz : (j : Int) < (ts.length : Int) := by omega
          have HTL := hide (unhide HT ts[j] (List.getElem_mem hjl))
          obtain ⟨b, off, pb, po, tq, tc, eqo, hp, hs, hIs⟩ := ((unhide HC).below (unhide HW).b) j hjl
          subst eqo
          have HIS := hide hIs
          have HNO := hide (fun h => ysA_no (ts := ts) (k := k) hjl (hit_none h))
          have HYE := hide (fun i (hi : i < ts[j].length) h => ysA_yes (ts := ts) (k := k) hk24 hjl (hit_mem hi h))
          have HYK := hide (ysA_k (ts := ts) (k := k) (j := j) (by rw [ysA_len]; exact hk24))
          have HBD := hide (hitN_bd (ts := ts) (c := k) j (Nat.le_of_lt hjl))
          clear hIs
          generalize ts[j] = t at *
          go_wp2
          clear hp hs
          go_loopg [22] t.length (fun g3 i wz => ∃ q : Nat, q + g3 = t.length ∧ i = .int .i64 q ∧ Hid (∀ r (hr : r < t.length), r < q → t[r] ≠ 2 + (k : Int)) ∧ wr = wz)
          case atStart => exact ⟨0, by omega, rfl, hide (fun r hr h => by omega), rfl⟩
          case round =>
            obtain ⟨q, hqg, rfl, HQ, hwz⟩ := hrel
            subst hwz
            cases gk with
            | zero =>
              have hqz : ¬ ((q : Int) < (t.length : Int)) := by omega
              have HJ := hide (unhide HNO (fun r hr _ => unhide HQ r hr (by omega)))
              go_wp2
              go_roundg g2
              case measure => omega
              case rel => exact ⟨j + 1, by omega, by go_num, hide (by rw [unhide HJ]; exact unhide HW)⟩
            | succ g3 =>
              have hql : q < t.length := by omega
              have hq12 : q < 12 := by have := unhide HTL; omega
              have hqz : (q : Int) < (t.length : Int) := by omega
              obtain ⟨b2, off2, rfl, hcell⟩ := unhide HIS q hql
              by_cases he : t[q] = 2 + (k : Int)
              · have HY := hide (unhide HYE q hql he)
                have be : (t[q] == 2 + (k : Int)) = true := by simp [he]
                have hwr0 : IntKind.i64.wrap (2 + (k : Int)) = 2 + (k : Int) := by rw [IntKind.wrap_i64]; omega
                have hc1 := arr_cell (unhide HW).v (k := k) (by rw [unhide HLT]; exact hk24)
                rw [unhide HYK] at hc1
                have hfz := Joins.unfrozen_of_block (unhide HW).v k
                have hwr : IntKind.i64.wrap (hitN ts k j + 1) = hitN ts k j + 1 := by have := unhide HBD; rw [IntKind.wrap_i64]; omega
                have HS := hide ((unhide HW).set k (hitN ts k j + 1))
                clear he
                go_wp2
                go_roundg g2
                case measure => omega
                case rel => exact ⟨j + 1, by omega, by go_num, hide (by rw [unhide HY]; exact unhide HS)⟩
              · have be : (t[q] == 2 + (k : Int)) = false := by simpa using he
                have hwr0 : IntKind.i64.wrap (2 + (k : Int)) = 2 + (k : Int) := by rw [IntKind.wrap_i64]; omega
                have HQ' : Hid (∀ r (hr : r < t.length), r < q + 1 → t[r] ≠ 2 + (k : Int)) := hide (fun r hr h => by
                  by_cases e : r = q
                  · subst e; exact he
                  · exact unhide HQ r hr (by omega))
                clear he
                go_wp2
                go_roundg g3
                case measure => omega
                case rel => exact ⟨q + 1, by omega, by go_num, HQ', rfl⟩

set_option maxHeartbeats 3200000 in
theorem countRefs_impl (a : Im4) (m : Img) (w : World) (hL : ImL m) (hc : ImS w a m) :
    Calls Try.prog 28 #[imV a m] w fun e w' => AnsN w w' e (crA m) := by
  have HA := hide (Joins.below_alloc1 w (.cells #[.slice a.ro m.refs.length a.rc, .slice a.tq m.table.length a.tc, .slice a.so m.snaps.length a.sc, .slice a.dq m.data.length a.dc] 29))
  have HV := hide (VarM.new w 29 (.slice a.ro m.refs.length a.rc) (.slice a.tq m.table.length a.tc) (.slice a.so m.snaps.length a.sc) (.slice a.dq m.data.length a.dc))
  have HC := hide (hc.below (unhide HA))
  have HL := hide hL
  have HPC := hide (parts_ck m)
  clear hc hL
  go_enter Try.func28, Try.ntmps28
  go_upto_region 1 with fail
  revert HA HV HC
  generalize (w.alloc _) = W0
  intro HA HV HC
  obtain ⟨c0, c1, c2, c3⟩ := (unhide HV).cells
  go_wp2_with fail
  refine (imagePartsOK_any a m _ (unhide HL) (unhide HC)).mono ?_
  rintro e w1 ⟨rfl, hb⟩
  rw [unhide HPC]
  have HB1 := hide (fr (unhide HA) hb)
  have HC1 := hide ((unhide HC).below hb)
  have HV1 := hide ((unhide HV).below hb)
  clear hb c0 c1 c2 c3 HA HV HC
  cases hk : ckB m
  · have HE : Hid (crA m = ([], 1)) := hide (by simp [crA, hk])
    clear hk
    go_wp2
    go_ret2
    exact ⟨none, 0, by rw [unhide HE]; rfl, by rw [unhide HE]; exact .inl ⟨rfl, rfl, _, rfl⟩, unhide HB1⟩
  have HE : Hid (crA m = (imCnt m, 0)) := hide (by simp [crA, hk])
  have HX := hide (parts_of ((unhide HPC).trans hk))
  have HQ := hide (hits_cnt (unhide HX).2.2.2 (ck_parts hk).2)
  have HLN := hide (imCnt_len m)
  clear hk HPC
  go_wp2_with fail
  refine (tablePointers_any w.heap.size a m _ (unhide HX).2.2.1 (unhide HV1) (unhide HC1)).mono ?_
  rintro e w2 ⟨qo, qa, rfl, hr, hb⟩
  have HR := hide hr
  have HB2 := hide (fr (unhide HB1) hb)
  clear hr hb
  go_wp2_with fail
  refine (countTables_any qo qa (imTabs m) _ (by have := (unhide HX).2.2.1; rw [imTabs_len]; omega) (fun t ht => tbB_len ((unhide HX).2.2.2 t ht)) (unhide HR)).mono ?_
  rintro e w3 ⟨rfl, hb⟩
  rw [unhide HQ]
  have HB3 := hide (fr (unhide HB2) hb)
  clear hb
  go_wp2_with fail
  refine (list_any (imCnt m) _ (unhide HLN)).mono ?_
  rintro e w4 ⟨g, rfl, ho, hb⟩
  have HO := hide (own_base ho (unhide HB3).size)
  have HB4 := hide (fr (unhide HB3) hb)
  clear ho hb
  go_wp2
  go_ret2
  exact ⟨some ⟨g, 0, none⟩, 24, by rw [unhide HE]; simp only [unhide HLN]; rfl, by rw [unhide HE]; simp only [unhide HLN]; exact .inr ⟨by omega, unhide HO⟩, unhide HB4⟩

end Go.Proofs.Ytjoafbkcnnhdiac

namespace Go.Proofs.Ytjoafbkcnnhdiac
open Go.RowKit
set_option linter.unusedVariables false
set_option maxRecDepth 100000

set_option maxHeartbeats 3200000 in
theorem repair_impl (a : Im4) (m : Img) (w : World) (hL : ImL m) (hc : ImS w a m) :
    Calls Try.prog 8 #[imV a m] w fun e w' => AnsI w w' e (rpA m) := by
  have HE := hide (ImE.new w a m hc)
  have HL := hide hL
  have HZ0 := hide (World.size_alloc w (.cells #[.slice a.ro m.refs.length a.rc, .slice a.tq m.table.length a.tc, .slice a.so m.snaps.length a.sc, .slice a.dq m.data.length a.dc] 29))
  obtain ⟨R, HR⟩ : ∃ R, Hid (R = rpA m) := ⟨_, hide rfl⟩
  rw [← unhide HR]
  clear hc hL
  have HW0 : Hid (((w.alloc (.cells #[.slice a.ro m.refs.length a.rc, .slice a.tq m.table.length a.tc, .slice a.so m.snaps.length a.sc, .slice a.dq m.data.length a.dc] 29)).alloc (.cells #[.slice none 0 0, .slice none 0 0, .slice none 0 0, .slice none 0 0] 29)).heap.size = w.heap.size + 2) := hide (by rw [World.size_alloc, World.size_alloc])
  go_enter Try.func8, Try.ntmps8
  go_upto_region 1 with fail
  revert HE HW0
  generalize ((w.alloc _).alloc _) = W0
  intro HE HW0
  obtain ⟨c0, c1, c2, c3⟩ := (unhide HE).v.cells
  go_wp2_with fail
  refine (countRefs_impl a m _ (unhide HL) (unhide HE).s).mono ?_
  obtain ⟨R1, HR1⟩ : ∃ R, Hid (R = crA m) := ⟨_, hide rfl⟩
  rw [← unhide HR1]
  rintro e w1 ⟨qo, qa, rfl, ho, hb⟩
  have HO1 := hide ho
  have HSZ1 := hide hb.size
  have HE1 := hide ((unhide HE).below hb)
  clear ho hb c0 c1 c2 c3 HE
  cases hk : ckB m
  · have HX : Hid (R = (im0, 1)) := hide (by rw [unhide HR]; simp only [rpA, hk]; rfl)
    have hR1 : R1.2 = 1 := by rw [unhide HR1]; simp [crA, hk]
    have b1 : (R1.2 != 0) = true := by rw [hR1]; rfl
    have HRR := hide hR1
    have HZ := hide (unhide HE1).zero
    obtain ⟨r0, r1, r2, r3⟩ := (unhide HE1).r.cells
    obtain ⟨z0, z1, z2, z3⟩ := (unhide HE1).r.free
    clear hk hR1
    go_wp2
    refine bodyPost_ret (res_ic Try.results8 rfl rfl (unhide HZ).1) rfl ?_
    rw [unhide HX, unhide HRR]
    exact AnsI.bad 1 (unhide HZ).2
  have HX : Hid (R = (rpI m, 0)) := hide (by rw [unhide HR]; simp [rpA, hk])
  have hR : R1 = (imCnt m, 0) := by rw [unhide HR1]; simp [crA, hk]
  have HP := hide (fm_parts (ck_parts hk).1)
  subst hR
  have HLN := hide (imCnt_len m)
  have HRI : Hid (rpI m = rpF m (imCnt m) 24) := hide rfl
  clear hk HR HR1
  generalize imCnt m = cs at *
  obtain ⟨c0, c1, c2, c3⟩ := (unhide HE1).v.cells
  go_wp2_with fail
  refine (copyImage_full a m _ ⟨by rw [ctB_len (unhide HP).1]; omega, by have := tbB_len ((unhide HP).2.2.2 m.table (by simp [imTabs])); omega, by rw [(unhide HP).2.2.1]; omega⟩ (fun s hs => by have := tbB_len ((unhide HP).2.2.2 s.table (by unfold imTabs; exact List.mem_cons_of_mem _ (List.mem_map.2 ⟨s, hs, rfl⟩))); omega) (by have := (unhide HP).2.1; omega) (unhide HE1).s).mono ?_
  rintro e w2 ⟨a1, ts1, rfl, ⟨ho, _⟩, hb⟩
  have HB2 := hide (fr (unhide HE1).b hb)
  have HR2 := hide ((unhide HE1).r.below hb)
  have HI2 : Hid (OwnIm w2 W0.heap.size { a1 with ro := qo, rc := qa } { m with refs := cs } ts1) := hide ((ho.base (unhide HSZ1)).putR ((unhide HO1).below hb) (fun g hg hg' => by
    have e1 := ((unhide HO1).ge g hg).2
    have e2 := (ho.ge g hg').1
    omega))
  have HPX : Hid (w.heap.size + 1 < w2.heap.size) := hide (unhide HR2).lt
  have HV3 := hide (VarM.new w2 29 (.slice a1.ro m.refs.length a1.rc) (.slice a1.tq m.table.length a1.tc) (.slice a1.so m.snaps.length a1.sc) (.slice a1.dq m.data.length a1.dc))
  have HA3 := hide (Joins.below_alloc1 w2 (.cells #[.slice a1.ro m.refs.length a1.rc, .slice a1.tq m.table.length a1.tc, .slice a1.so m.snaps.length a1.sc, .slice a1.dq m.data.length a1.dc] 29))
  have HI3 := hide ((unhide HI2).below (unhide HA3))
  have HR3 := hide ((unhide HR2).below (unhide HA3))
  have HB3 := hide (fr (unhide HB2) (unhide HA3))
  have HPL : Hid (∀ g, ImB { a1 with ro := qo, rc := qa } { m with refs := cs } ts1 g → g ≠ w2.heap.size) := hide (fun g hg e => by have := ((unhide HI2).ge g hg).2; omega)
  clear ho hb c0 c1 c2 c3 HO1 HI2 HR2 HB2
  go_upto_region 5 with fail
  revert HV3
  revert HI3
  revert HR3
  revert HB3
  revert HA3
  generalize (w2.alloc _) = w3
  generalize w2.heap.size = p at *
  intro HA3 HB3 HR3 HI3 HV3
  have HV4 := hide ((unhide HV3).set0 (.slice qo cs.length qa))
  have HI4 := hide ((unhide HI3).keep ((Keep.refl (fun k => k = p) w3).setCell (p := ⟨p, 0, none⟩) rfl (.slice qo cs.length qa)) (unhide HPL))
  have HR4 := hide ((unhide HR3).other (p := ⟨p, 0, none⟩) (by have := unhide HPX; simp; omega) (.slice qo cs.length qa))
  have HB4 := hide ((unhide HB3).setCell (p := ⟨p, 0, none⟩) (by have := unhide HPX; simp; omega) (.slice qo cs.length qa))
  obtain ⟨c0, c1, c2, c3⟩ := (unhide HV3).cells
  obtain ⟨z0, z1, z2, z3⟩ := (unhide HV3).free
  go_upto_region 6 with fail
  clear c0 c1 c2 c3 z0 z1 z2 z3 HV3 HI3 HR3 HB3 HA3
  revert HB4
  revert HR4
  revert HI4
  revert HV4
  generalize (w3.setCell _ _) = w4
  intro HV4 HI4 HR4 HB4
  have HD24 := hide (unhide HP).2.2.1
  have hll : Hid ((cs.length : Int) = 24) := hide (by rw [unhide HLN]; rfl)
  go_wp2
  go_loopw [24] (fun i wr => ∃ k : Nat, k ≤ cs.length ∧ i = .int .i64 k ∧ Hid (OwnIm wr W0.heap.size { a1 with ro := qo, rc := qa } (rpF m cs k) ts1) ∧ Hid (VarM wr p 29 (.slice qo cs.length qa) (.slice a1.tq m.table.length a1.tc) (.slice a1.so m.snaps.length a1.sc) (.slice a1.dq m.data.length a1.dc)) ∧ Hid (VarM wr (w.heap.size + 1) 29 (.slice none 0 0) (.slice none 0 0) (.slice none 0 0) (.slice none 0 0)) ∧ Hid (Below w.heap.size w wr)) (fun i _ => cs.length - (intOf i).toNat)
  case atStart => exact ⟨0, Nat.zero_le _, rfl, HI4, HV4, HR4, HB4⟩
  case round =>
    clear HI4 HV4 HR4 HB4
    obtain ⟨k, hk, rfl, HI, HV, HR, HB⟩ := hrel
    by_cases hlt : k < cs.length
    · have hlti : (k : Int) < (cs.length : Int) := by omega
      have hk24 : k < 24 := by have := unhide HLN; omega
      have kdl : k < m.data.length := by rw [unhide HD24]; exact hk24
      have kdi : (k : Int) < (m.data.length : Int) := by omega
      have HDL : Hid ((rpF m cs k).data.length = m.data.length) := hide (rpD_len cs m.data k)
      have HST : Hid (cs[k] = 0 → rpF m cs (k + 1) = { rpF m cs k with data := (rpF m cs k).data.set k 0 }) := hide (fun h => by
        have e : cs.getD k 0 = 0 := by simp [List.getD, hlt, h]
        simp only [rpF, rpD, if_pos e])
      have HSN : Hid (¬ cs[k] = 0 → rpF m cs (k + 1) = rpF m cs k) := hide (fun h => by
        have e : ¬ cs.getD k 0 = 0 := by simp [List.getD, hlt, h]
        simp only [rpF, rpD, if_neg e])
      obtain ⟨g1, e1, hg1, _, _, _⟩ := (unhide HI).setR (c := k) hlt
      replace e1 : qo = some ⟨g1, 0, none⟩ := e1
      replace hg1 : wr.cell? ⟨g1, k, none⟩ = some (.int .i64 cs[k]) := hg1
      obtain ⟨g2, e2, hg2, hf2, hi2, hs2⟩ := (unhide HI).setD (c := k) (by rw [unhide HDL]; exact kdl)
      have hpg : p ≠ g2 := fun e => (unhide HI).other (e ▸ unhide HV) hi2
      have hxg : w.heap.size + 1 ≠ g2 := fun e => (unhide HI).other (e ▸ unhide HR) hi2
      have hge := ((unhide HI).ge g2 hi2).1
      have HI2 := hide (hs2 0)
      have HV2 := hide ((unhide HV).other (p := ⟨g2, k, none⟩) hpg (.int .i64 0))
      have HR2 := hide ((unhide HR).other (p := ⟨g2, k, none⟩) hxg (.int .i64 0))
      have HB2 := hide ((unhide HB).setCell (p := ⟨g2, k, none⟩) (Nat.le_trans (by have := unhide HW0; omega) hge) (.int .i64 0))
      obtain ⟨c0, c1, c2, c3⟩ := (unhide HV).cells
      replace e2 : a1.dq = some ⟨g2, 0, none⟩ := e2
      rw [e2] at c3
      subst e1
      clear e2 hs2 hi2 hpg hxg hge
      by_cases hz : cs[k] = 0
      · have HS := hide (unhide HST hz)
        have bz : (cs[k] == 0) = true := by simp [hz]
        clear hz
        go_wp2
        go_roundw
        case rel => exact ⟨k + 1, by omega, by go_num, hide (by rw [unhide HS]; exact unhide HI2), HV2, HR2, HB2⟩
        case measure => simp [intOf]; omega
      · have HS := hide (unhide HSN hz)
        have bz : (cs[k] == 0) = false := by simp [hz]
        clear hz
        go_wp2
        go_roundw
        case rel => exact ⟨k + 1, by omega, by go_num, hide (by rw [unhide HS]; exact unhide HI), HV, HR, HB⟩
        case measure => simp [intOf]; omega
    · have HK : Hid (rpF m cs k = rpF m cs 24) := hide (by have := unhide HLN; rw [show k = 24 by omega])
      have HDL : Hid ((rpF m cs k).data.length = m.data.length) := hide (rpD_len cs m.data k)
      have HPT := hide (ImSt.put (unhide HR) (unhide HI) (unhide HB) (Nat.le_succ _) (by rw [unhide HW0]; omega) { a1 with ro := qo, rc := qa } { m with refs := cs })
      have HLE : Hid (imV { a1 with ro := qo, rc := qa } { m with refs := cs } = imV { a1 with ro := qo, rc := qa } (rpF m cs 24)) := hide (by
        rw [← unhide HK, imV, imV, unhide HDL]; rfl)
      obtain ⟨c0, c1, c2, c3⟩ := (unhide HV).cells
      obtain ⟨r0, r1, r2, r3⟩ := (unhide HR).cells
      obtain ⟨z0, z1, z2, z3⟩ := (unhide HR).free
      go_wp2
      refine bodyPost_ret (res_ic Try.results8 rfl rfl (unhide HPT).1) rfl ?_
      rw [unhide HX]
      exact AnsI.of (R := (rpI m, 0)) (by rw [unhide HRI]; exact unhide HLE) rfl (by rw [unhide HRI, ← unhide HK]; exact (unhide HPT).2.1.base (by rw [unhide HW0]; omega)) (unhide HPT).2.2

end Go.Proofs.Ytjoafbkcnnhdiac

namespace Go.Proofs.Ytjoafbkcnnhdiac
open Go.RowKit
set_option linter.unusedVariables false
set_option maxRecDepth 100000

theorem ImBd.like {m n : Img} (h : ImBd m) (e1 : n.refs.length = m.refs.length) (e2 : n.table.length ≤ 1048576) (e3 : n.snaps = m.snaps) (e4 : n.data.length = m.data.length) : ImBd n :=
  ⟨by rw [e1]; exact h.r, e2, by rw [e3]; exact h.s, by rw [e4]; exact h.d, by rw [e3]; exact h.st, by rw [e3]; exact h.k⟩
end Go.Proofs.Ytjoafbkcnnhdiac

namespace Go.Proofs.Ytjoafbkcnnhdiac
open Go.RowKit
set_option linter.unusedVariables false
set_option maxRecDepth 100000

theorem rp_bd (m : Img) : imSz m ≤ 1048576 → ImBd (rpA m).1 := fun h => by
  unfold rpA
  split
  · rename_i hk
    exact (ImBd.of h).like (by show (imCnt m).length = _; rw [imCnt_len, ctB_len (fm_parts (ck_parts hk).1).1]) (ImBd.of h).t rfl (rpD_len _ _ _)
  · exact ImBd.zero

theorem wkRepair (a : Im4) (m : Img) (w : World) (hl : m.refs.length ≤ maxLen ∧ m.table.length ≤ maxLen ∧ m.snaps.length ≤ maxLen ∧ m.data.length ≤ maxLen) (hc : ImS w a m) :
    Calls Try.prog 3 #[imV a m] w fun e w' => e = .returned (.bool true) ∧ Below w.heap.size w w' :=
  have hL : ImL m := ⟨hl.1, hl.2.1, hl.2.2.1, hl.2.2.2⟩
  lawImRepair a m (rpA m) w hL hc (fun s hs => by obtain ⟨j, hj, rfl⟩ := List.mem_iff_getElem.1 hs; obtain ⟨_, _, _, _, _, _, _, _, h1, h2⟩ := hc.s j hj; exact ⟨h1, h2⟩) (rp_bd m) (fun b W h => repair_spec b m W hL h) (fun b W h => repair_impl b m W hL h)

end Go.Proofs.Ytjoafbkcnnhdiac
