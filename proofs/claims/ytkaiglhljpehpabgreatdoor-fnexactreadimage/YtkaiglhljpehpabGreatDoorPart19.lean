import Derived.Test.YtkaiglhljpehpabGreatDoorPart1
import Derived.Test.YtkaiglhljpehpabGreatDoorPart14
import Derived.Test.YtkaiglhljpehpabGreatDoorPart15
import Derived.Test.YtkaiglhljpehpabGreatDoorPart18
import Derived.WalkKit
import Derived.OwnWalk
import Derived.Deep.RegionLawGrows
import Derived.Test.YtkaiglhljpehpabGreatDoorRows
import Derived.Test.YtkaiglhljpehpabGreatDoorPart2
import Derived.Test.YtkaiglhljpehpabGreatDoorPart3
import Derived.Test.YtkaiglhljpehpabGreatDoorPart4
import Derived.Test.YtkaiglhljpehpabGreatDoorPart7
import Derived.WalkSpells
import Derived.KernelRfl
import Derived.Lib.SmallJoins
import Derived.Deep.RegionWith
import Derived.Deep.RegionHeld3
import Derived.LoopN
import Derived.Test.YtkaiglhljpehpabGreatDoorPart13
import Derived.BigQuiet
import Derived.Deep.QuietTactic
import Derived.Deep.CutRange
import Derived.Test.YtkaiglhljpehpabGreatDoorPart6
import Derived.Test.YtkaiglhljpehpabGreatDoorPart5
import Derived.Test.YtkaiglhljpehpabGreatDoorPart9
import Derived.Test.YtkaiglhljpehpabGreatDoorPart12

/- Plain words of plans; laws on append of several elements. -/
namespace Go.Proofs.YtkaiglhljpehpabGreatDoor
open Go.RowKit
set_option linter.unusedVariables false
section
variable {P : Program}
theorem run_append_many (w : World) (B : Nat) (t ty e : TypeId) (i : TypeInfo) (z : Value) (size bytes : Nat) (ht : P.underlying t = some (.slice e)) (hi : P.info? e = some i) (hz : i.zero = some z)
    (hsize : i.size = size) (hby : i.bytes = bytes) (hzs : z.cells.size = size) (hsz : 0 < size)
    (qo : Option Addr) (n cap : Nat) (xs : List Value) (h : OwnR w B e size (.slice qo n cap) n xs) (hB : B ≤ w.heap.size)
    (ad : Addr) (m c : Nat) (news : List Value) (hm : 0 < m) (hl : news.length = m * size) (hnews : ∀ j u, news[j]? = some u → w.cell? (ad.add j) = some u) (h1 : ∀ u ∈ news, u.oneCell' = true)
    (b1 : n + m ≤ maxLen) (b2 : (n + m) * bytes ≤ 140737488355328) :
    ∃ g cap' w', (Builtin.append_ #[t, t] ty #[.slice qo n cap, .slice (some ad) m c]).run P w = .ok (.slice (some ⟨g, 0, none⟩) (n + m) cap') w' ∧
      w'.ownsRow B e size (.slice (some ⟨g, 0, none⟩) (n + m) cap') (n + m) (xs ++ news) ∧ Keep (Own (.slice qo n cap)) w w' := by
  rcases h with ⟨rfl, rfl, ao, hv⟩ | ⟨h0, h⟩
  · simp only [Value.slice.injEq, true_and] at hv
    obtain ⟨rfl, rfl⟩ := hv
    cases qo with
    | none =>
      obtain ⟨v', w', hrun, r1, r2, _⟩ := run_append_own (P := P) w B t ty e i z size bytes ht hi hz hsize hby hzs hsz (.slice none 0 0) 0 [] (World.ownsRow_nil w _ e size) ad m c news hl hnews h1 b1 b2 hB
      obtain ⟨g, cap, cur, rfl, _, _⟩ := own_form (by omega) r1
      exact ⟨g, cap, w', hrun, r1, keep_grown r2 (fun k hk => by cases hk)⟩
    | some d =>
      obtain ⟨v', w', hrun, r1, r2⟩ := run_append_arg_grows (P := P) w t ty e i z size bytes ht hi hz hsize hby hzs hsz d 0 0 [] (by simp) (by simp) ad m c news hl hnews (by omega) b1 b2
      obtain ⟨g, cap, cur, rfl, _, _⟩ := own_form (by omega) r1
      exact ⟨g, cap, w', hrun, own_base r1 hB, keep_grown r2 (fun k hk => by cases hk)⟩
  · obtain ⟨g0, cap0, cur0, e0, _, _⟩ := own_form h0 h
    rw [e0] at h
    obtain ⟨v', w', hrun, r1, r2, _⟩ := run_append_own (P := P) w B t ty e i z size bytes ht hi hz hsize hby hzs hsz _ n xs h ad m c news hl hnews h1 b1 b2 hB
    obtain ⟨g, cap, cur, rfl, _, _⟩ := own_form (by omega) r1
    rw [e0]
    exact ⟨g, cap, w', hrun, r1, keep_grown r2 (fun k hk => by cases hk; exact own_of h0 rfl)⟩
theorem wpList_append_many {w : World} {ops : Array Oper} {rest : List Oper} {o : Oper} {a : Act} {Q : Exit → Act → World → Prop} (hgd : o.guard = none) (s x : Operand) (t : TypeId)
    (ho : o.op = .call { callee := .builtin .append, args := #[s, x], argTypes := #[t, t] })
    (B : Nat) (e : TypeId) (i : TypeInfo) (z : Value) (size bytes : Nat) (ht : P.underlying t = some (.slice e)) (hi : P.info? e = some i) (hz : i.zero = some z)
    (hsize : i.size = size) (hby : i.bytes = bytes) (hzs : z.cells.size = size) (hsz : 0 < size)
    (qo : Option Addr) (n cap : Nat) (xs : List Value) (hs : a.eval s = .slice qo n cap) (h : OwnR w B e size (.slice qo n cap) n xs) (hB : B ≤ w.heap.size)
    (so : Option Addr) (m c : Nat) (news : List Value) (hx : a.eval x = .slice so m c) (hm : 0 < m) (hl : news.length = m * size) (hnews : 0 < m → ∃ ad, so = some ad ∧ ∀ j u, news[j]? = some u → w.cell? (ad.add j) = some u) (h1 : ∀ u ∈ news, u.oneCell' = true)
    (b1 : n + m ≤ maxLen) (b2 : (n + m) * bytes ≤ 140737488355328)
    (hK : ∀ g cap' w', w'.ownsRow B e size (.slice (some ⟨g, 0, none⟩) (n + m) cap') (n + m) (xs ++ news) → Keep (Own (.slice qo n cap)) w w' → wpList P ops Q rest (a.put o.dst (.slice (some ⟨g, 0, none⟩) (n + m) cap')) w') : wpList P ops Q (o :: rest) a w := by
  refine wpList_plain hgd fun K hK' => ?_
  obtain ⟨ad, rfl, hnew⟩ := hnews hm
  obtain ⟨g, cap', w', hrun, r1, r2⟩ := run_append_many (P := P) w B t o.type e i z size bytes ht hi hz hsize hby hzs hsz qo n cap xs h hB ad m c news hm hl hnew h1 b1 b2
  unfold Oper.wp
  simp [execOp, ho, resolve, invoke, builtin, hs, hx, hrun, Result.andThen]
  exact hK' _ _ (hK _ _ _ r1 r2)
/-- .. onto a row with room, empty or not. -/
theorem run_append_room (w : World) (B : Nat) (t ty e : TypeId) (i : TypeInfo) (z : Value) (size bytes : Nat) (ht : P.underlying t = some (.slice e)) (hi : P.info? e = some i) (hz : i.zero = some z)
    (hsize : i.size = size) (hby : i.bytes = bytes) (hzs : z.cells.size = size) (hsz : 0 < size)
    (g0 n cap : Nat) (xs : List Value) (h : w.ownsRow B e size (.slice (some ⟨g0, 0, none⟩) n cap) n xs) (hB : B ≤ w.heap.size)
    (ad : Addr) (m c : Nat) (news : List Value) (hm : 0 < m) (hl : news.length = m * size) (hnews : ∀ j u, news[j]? = some u → w.cell? (ad.add j) = some u) (h1 : ∀ u ∈ news, u.oneCell' = true)
    (b1 : n + m ≤ maxLen) (b2 : (n + m) * bytes ≤ 140737488355328) :
    ∃ g cap' w', (Builtin.append_ #[t, t] ty #[.slice (some ⟨g0, 0, none⟩) n cap, .slice (some ad) m c]).run P w = .ok (.slice (some ⟨g, 0, none⟩) (n + m) cap') w' ∧
      w'.ownsRow B e size (.slice (some ⟨g, 0, none⟩) (n + m) cap') (n + m) (xs ++ news) ∧ Keep (fun j => j = g0) w w' := by
  by_cases hc : n + m ≤ cap
  · obtain ⟨w', hrun, r1, r2⟩ := run_append_fits (P := P) w B t ty e i size ht hi hsize g0 n cap xs h ad m c news hl hnews h1 hc
    exact ⟨g0, cap, w', hrun, r1, keep_grown r2 (fun k hk => by cases hk; rfl)⟩
  · obtain ⟨v', w', hrun, r1, r2⟩ := run_append_arg_grows (P := P) w t ty e i z size bytes ht hi hz hsize hby hzs hsz ⟨g0, 0, none⟩ n cap xs h.1 (fun j u hu => by
      have hj : j < n * size := by have := (List.getElem?_eq_some_iff.1 hu).1; rw [h.1] at this; exact this
      have ha : (⟨g0, 0, none⟩ : Addr).add j = ⟨g0, j, none⟩ := by unfold Addr.add; split <;> simp_all
      rw [ha, h.cellAt j hj]; exact hu) ad m c news hl hnews (by omega) b1 b2
    obtain ⟨g, cap', cur, rfl, hg, _⟩ := own_form (by omega) r1
    exact ⟨g, cap', w', hrun, own_base r1 hB, keep_grown r2 (fun k hk => by cases hk)⟩
theorem wpList_append_room {w : World} {ops : Array Oper} {rest : List Oper} {o : Oper} {a : Act} {Q : Exit → Act → World → Prop} (hgd : o.guard = none) (s x : Operand) (t : TypeId)
    (ho : o.op = .call { callee := .builtin .append, args := #[s, x], argTypes := #[t, t] })
    (B : Nat) (e : TypeId) (i : TypeInfo) (z : Value) (size bytes : Nat) (ht : P.underlying t = some (.slice e)) (hi : P.info? e = some i) (hz : i.zero = some z)
    (hsize : i.size = size) (hby : i.bytes = bytes) (hzs : z.cells.size = size) (hsz : 0 < size)
    (g0 n cap : Nat) (xs : List Value) (hs : a.eval s = .slice (some ⟨g0, 0, none⟩) n cap) (h : w.ownsRow B e size (.slice (some ⟨g0, 0, none⟩) n cap) n xs) (hB : B ≤ w.heap.size)
    (so : Option Addr) (m c : Nat) (news : List Value) (hx : a.eval x = .slice so m c) (hm : 0 < m) (hl : news.length = m * size) (hnews : 0 < m → ∃ ad, so = some ad ∧ ∀ j u, news[j]? = some u → w.cell? (ad.add j) = some u) (h1 : ∀ u ∈ news, u.oneCell' = true)
    (b1 : n + m ≤ maxLen) (b2 : (n + m) * bytes ≤ 140737488355328)
    (hK : ∀ g cap' w', w'.ownsRow B e size (.slice (some ⟨g, 0, none⟩) (n + m) cap') (n + m) (xs ++ news) → Keep (fun j => j = g0) w w' → wpList P ops Q rest (a.put o.dst (.slice (some ⟨g, 0, none⟩) (n + m) cap')) w') : wpList P ops Q (o :: rest) a w := by
  refine wpList_plain hgd fun K hK' => ?_
  obtain ⟨ad, rfl, hnew⟩ := hnews hm
  obtain ⟨g, cap', w', hrun, r1, r2⟩ := run_append_room (P := P) w B t o.type e i z size bytes ht hi hz hsize hby hzs hsz g0 n cap xs h hB ad m c news hm hl hnew h1 b1 b2
  unfold Oper.wp
  simp [execOp, ho, resolve, invoke, builtin, hs, hx, hrun, Result.andThen]
  exact hK' _ _ (hK _ _ _ r1 r2)
end
theorem news3 (w : World) (x : Wr) (t : TypeId) : ∀ j u, (wrV x)[j]? = some u → (w.alloc (.cells #[.int .i64 x.host, .int .i64 x.at_, .string x.data] t)).cell? ((⟨w.heap.size, 0, none⟩ : Addr).add j) = some u :=
  World.news_of_block (cs := #[.int .i64 x.host, .int .i64 x.at_, .string x.data]) (heap_alloc_new w _)
theorem news3_at (w : World) (n : Nat) (x : Wr) (t : TypeId) (hn : w.heap.size = n) : ∀ j u, (wrV x)[j]? = some u → (w.alloc (.cells #[.int .i64 x.host, .int .i64 x.at_, .string x.data] t)).cell? ((⟨n, 0, none⟩ : Addr).add j) = some u := by
  subst hn; exact news3 w x t

/-- Moves, and lists of them. -/
def mvF : Wr := ⟨2, 0, ⟨#[]⟩⟩
def mvW (u : Up) : Wr := ⟨1, u.at_, u.data⟩
def hdT (n seq : Int) : ByteArray := sealS 7 [n, seq]
theorem hdT_size (n seq : Int) : (hdT n seq).size = 12 := by rw [hdT, sealS_size]; rfl
def mvH (slot n seq : Int) : Wr := ⟨1, slot, hdT n seq⟩
def mvT (slot : Int) (i : Nat) (u : Up) : Wr := ⟨1, slot + 1 + i, encU u⟩
def chL (us : List Up) : List Wr := us.map mvW
def txL (slot : Int) (us : List Up) : List Wr := us.mapIdx (mvT slot)
def apL (slot seq : Int) (us : List Up) : List Wr := chL us ++ [mvF] ++ [mvH slot 0 seq] ++ [mvF]
def bgL (slot seq : Int) (us : List Up) : List Wr := txL slot us ++ [mvF] ++ [mvH slot us.length seq] ++ [mvF]
def plL (slot seq : Int) (us : List Up) : List Wr := if us.length = 0 then [] else bgL slot seq us ++ apL slot seq us
def rpL (slot seq : Int) (us : List Up) : List Wr := if us.length = 0 then [] else apL slot seq us
theorem chL_length (us : List Up) : (chL us).length = us.length := by simp [chL]
theorem txL_length (slot : Int) (us : List Up) : (txL slot us).length = us.length := by simp [txL]
theorem apL_length (slot seq : Int) (us : List Up) : (apL slot seq us).length = us.length + 3 := by simp [apL, chL]
theorem bgL_length (slot seq : Int) (us : List Up) : (bgL slot seq us).length = us.length + 3 := by simp [bgL, txL]
theorem chL_take {us : List Up} {k : Nat} (h : k < us.length) : (chL us).take (k + 1) = (chL us).take k ++ [mvW us[k]] := by
  rw [List.take_succ_eq_append_getElem (by rw [chL_length]; exact h)]; simp [chL]
theorem txL_take {slot : Int} {us : List Up} {k : Nat} (h : k < us.length) : (txL slot us).take (k + 1) = (txL slot us).take k ++ [mvT slot k us[k]] := by
  rw [List.take_succ_eq_append_getElem (by rw [txL_length]; exact h)]; simp [txL]
theorem chL_done {us : List Up} {k : Nat} (h : us.length ≤ k) : (chL us).take k = chL us := List.take_of_length_le (by rw [chL_length]; exact h)
theorem txL_done {slot : Int} {us : List Up} {k : Nat} (h : us.length ≤ k) : (txL slot us).take k = txL slot us := List.take_of_length_le (by rw [txL_length]; exact h)
def upsB (us : List Up) : Bool := us.all upB
theorem upsB_at {us : List Up} (h : upsB us = true) {k : Nat} (hk : k < us.length) : upB us[k] = true := List.all_eq_true.1 h _ (List.getElem_mem hk)
/-- Moves with short texts. -/
def short (ms : List Wr) : Prop := ∀ x ∈ ms, x.data.size ≤ 80
theorem short.sizes {ms : List Wr} (h : short ms) : ∀ x ∈ ms, x.data.size ≤ maxLen := fun x hx => by have := h x hx; unfold maxLen; omega
theorem short.app {a b : List Wr} (h : short a) (k : short b) : short (a ++ b) := fun x hx => by
  rcases List.mem_append.1 hx with h' | h'
  · exact h x h'
  · exact k x h'
theorem short.one {x : Wr} (h : x.data.size ≤ 80) : short [x] := fun y hy => by simp at hy; subst hy; exact h
theorem short_nil : short [] := fun x hx => by cases hx
theorem short_F : short [mvF] := short.one (by decide)
theorem short_H (slot n seq : Int) : short [mvH slot n seq] := short.one (by show (hdT n seq).size ≤ 80; rw [hdT_size]; omega)
theorem short_ch {us : List Up} (h : upsB us = true) : short (chL us) := fun x hx => by
  simp only [chL, List.mem_map] at hx
  obtain ⟨u, hu, rfl⟩ := hx
  have := (upB_iff.1 (List.all_eq_true.1 h u hu)).2
  show u.data.size ≤ 80
  omega
theorem short_tx {slot : Int} {us : List Up} (h : upsB us = true) : short (txL slot us) := fun x hx => by
  obtain ⟨i, hi, rfl⟩ := List.mem_iff_getElem.1 hx
  have hi' : i < us.length := by rwa [txL_length] at hi
  have := (upB_iff.1 (upsB_at h hi')).2
  simp only [txL, List.getElem_mapIdx, mvT]
  rw [encU_size]; omega
theorem short_ap {slot seq : Int} {us : List Up} (h : upsB us = true) : short (apL slot seq us) := (((short_ch h).app short_F).app (short_H _ _ _)).app short_F
theorem short_bg {slot seq : Int} {us : List Up} (h : upsB us = true) : short (bgL slot seq us) := (((short_tx h).app short_F).app (short_H _ _ _)).app short_F
theorem short_pl {slot seq : Int} {us : List Up} (h : upsB us = true) : short (plL slot seq us) := by
  unfold plL; split
  · exact short_nil
  · exact (short_bg h).app (short_ap h)
theorem short_rp {slot seq : Int} {us : List Up} (h : upsB us = true) : short (rpL slot seq us) := by
  unfold rpL; split
  · exact short_nil
  · exact short_ap h
/-- A head's numbers. -/
theorem hd_nums {n seq : Int} (h : 0 ≤ n ∧ n ≤ 5) (hs : numB seq = true) : ∀ j (hj : j < [n, seq].length), 0 ≤ [n, seq][j] ∧ [n, seq][j] ≤ 2147483647 := by
  have h2 : 0 ≤ seq ∧ seq ≤ 2147483647 := by simpa [numB, inB] using hs
  intro j hj
  have hj' : j < 2 := hj
  rcases (show j = 0 ∨ j = 1 by omega) with rfl | rfl <;> simp <;> omega
theorem hd_seal {n seq : Int} (h : 0 ≤ n ∧ n ≤ 5) (hs : numB seq = true) : sealC 7 [n, seq] = 0 ∧ sealT 7 [n, seq] = hdT n seq := by
  have h2 : 0 ≤ seq ∧ seq ≤ 2147483647 := by simpa [numB, inB] using hs
  have hc : sealC 7 [n, seq] = 0 := sealC_ok (listC_ok (by simp) (by
    rw [intsB_len]
    · rfl
    · intro j hj
      have hj' : j < 2 := hj
      rcases (show j = 0 ∨ j = 1 by omega) with rfl | rfl <;> simp [numB, inB] <;> omega)) rfl
  exact ⟨hc, sealT_ok hc⟩
/-- The fault of updates. -/
def fuC (us : List Up) : Int := if 5 < us.length then 6 else if upsB us = true then 0 else 1
theorem fuC_many {us : List Up} (h : 5 < us.length) : fuC us = 6 := if_pos h
theorem fuC_ok {us : List Up} (h : ¬ 5 < us.length) (hb : upsB us = true) : fuC us = 0 := by rw [fuC, if_neg h, if_pos hb]
theorem fuC_bad {us : List Up} (h : ¬ 5 < us.length) (hb : upsB us = false) : fuC us = 1 := by rw [fuC, if_neg h, if_neg (by simp [hb])]
theorem fuC_zero {us : List Up} (h : fuC us = 0) : us.length ≤ 5 ∧ upsB us = true := by
  unfold fuC at h
  split at h
  · cases h
  · split at h
    · exact ⟨by omega, by assumption⟩
    · cases h
/-- What JournalPlan answers. -/
def jpC (h seq : Int) (us : List Up) : Int := if 4096 < us.length then 2 else if inB h 0 3 = false then 4 else if numB seq = false then 4 else fuC us
theorem jpC_long {h seq : Int} {us : List Up} (h1 : 4096 < us.length) : jpC h seq us = 2 := if_pos h1
theorem jpC_host {h seq : Int} {us : List Up} (h1 : ¬ 4096 < us.length) (h2 : inB h 0 3 = false) : jpC h seq us = 4 := by rw [jpC, if_neg h1, if_pos h2]
theorem jpC_seq {h seq : Int} {us : List Up} (h1 : ¬ 4096 < us.length) (h2 : inB h 0 3 = true) (h3 : numB seq = false) : jpC h seq us = 4 := by rw [jpC, if_neg h1, if_neg (by simp [h2]), if_pos h3]
theorem jpC_list {h seq : Int} {us : List Up} (h1 : ¬ 4096 < us.length) (h2 : inB h 0 3 = true) (h3 : numB seq = true) : jpC h seq us = fuC us := by rw [jpC, if_neg h1, if_neg (by simp [h2]), if_neg (by simp [h3])]
def jpL (h seq : Int) (us : List Up) : List Wr := if jpC h seq us = 0 then plL (slN h) seq us else []
theorem jpL_no {h seq : Int} {us : List Up} (h1 : jpC h seq us ≠ 0) : jpL h seq us = [] := if_neg h1
theorem jpL_yes {h seq : Int} {us : List Up} (h1 : jpC h seq us = 0) : jpL h seq us = plL (slN h) seq us := if_pos h1
end Go.Proofs.YtkaiglhljpehpabGreatDoor

/- Plain: what waits in a slot, as a host reads it. -/
namespace Go.Proofs.YtkaiglhljpehpabGreatDoor
open Go.RowKit
set_option linter.unusedVariables false

theorem bytes0 {t : ByteArray} (h : t.size = 0) : t = ⟨#[]⟩ := by
  cases t with
  | mk a => cases a with
    | mk l => cases l with
      | nil => rfl
      | cons x xs => simp [ByteArray.size] at h
theorem text_full {t : ByteArray} (h : t.size ≠ 0) : t.toList.isEmpty = false := by
  rw [ByteArray.toList_eq]
  cases t with
  | mk a => cases a with
    | mk l => cases l with
      | nil => exact absurd rfl h
      | cons x xs => rfl
/-- What a slot's head says. -/
def sdL (t : ByteArray) : List Int := openL t 7
def sdB (t : ByteArray) : Bool := decide (t.size = 0) || (openB t 7 && (decide ((sdL t).length = 2) && decide ((sdL t).getD 0 0 ≤ 5)))
def sdN (t : ByteArray) : Nat := if t.size = 0 then 0 else ((sdL t).getD 0 0).toNat
def sdS (t : ByteArray) : Int := if t.size = 0 then 0 else (sdL t).getD 1 0
theorem two_ofJ {l : List Int} (h : l.length = 2) : ∃ a b, l = [a, b] := by
  match l, h with
  | [a, b], _ => exact ⟨a, b, rfl⟩
theorem open_numsJ {t : ByteArray} {k : Int} (h : openB t k = true) : ∀ x ∈ openL t k, 0 ≤ x ∧ x ≤ 2147483647 := by
  intro x hx
  rw [openL_yes h] at hx
  simp only [openB, Bool.and_eq_true] at h
  obtain ⟨_, _, _, _, _, hu⟩ := recB_iff.1 h.1
  obtain ⟨j, hj, rfl⟩ := List.mem_iff_getElem.1 hx
  exact (intsB_parts (okU_parts hu).2.2).1 j hj
theorem sd_empty {t : ByteArray} (h : t.size = 0) : sdB t = true ∧ sdN t = 0 ∧ sdS t = 0 := by simp [sdB, sdN, sdS, h]
theorem sd_shut {t : ByteArray} (h : t.size ≠ 0) (ho : openB t 7 = false) : sdB t = false := by simp [sdB, h, ho]
theorem sd_len {t : ByteArray} (h : t.size ≠ 0) (hl : ¬ (sdL t).length = 2) : sdB t = false := by simp [sdB, h, hl]
theorem sd_many {t : ByteArray} {a b : Int} (h : t.size ≠ 0) (hl : sdL t = [a, b]) (ha : ¬ a ≤ 5) : sdB t = false := by simp [sdB, h, hl, ha]
theorem sd_yes {t : ByteArray} {a b : Int} (h : t.size ≠ 0) (ho : openB t 7 = true) (hl : sdL t = [a, b]) (ha : a ≤ 5) : sdB t = true ∧ (sdN t : Int) = a ∧ sdN t ≤ 5 ∧ sdS t = b ∧ numB b = true := by
  have h0 := open_numsJ ho a (by rw [show openL t 7 = [a, b] from hl]; simp)
  have h1 := open_numsJ ho b (by rw [show openL t 7 = [a, b] from hl]; simp)
  have e : sdN t = a.toNat := by rw [sdN, if_neg h, hl]; rfl
  refine ⟨by simp [sdB, h, ho, hl, ha], ?_, ?_, ?_, ?_⟩
  · rw [e]; omega
  · rw [e]; omega
  · rw [sdS, if_neg h, hl]; rfl
  · simp [numB, inB]; omega
theorem sd_seq {t : ByteArray} (h : sdB t = true) (hn : sdN t ≠ 0) : numB (sdS t) = true ∧ sdN t ≤ 5 := by
  by_cases h0 : t.size = 0
  · exact absurd (sd_empty h0).2.1 hn
  · by_cases ho : openB t 7 = false
    · rw [sd_shut h0 ho] at h; cases h
    rw [Bool.not_eq_false] at ho
    by_cases hl : (sdL t).length = 2
    · obtain ⟨a, b, e⟩ := two_ofJ hl
      by_cases ha : a ≤ 5
      · obtain ⟨_, _, h3, h4, h5⟩ := sd_yes h0 ho e ha
        rw [h4]; exact ⟨h5, h3⟩
      · rw [sd_many h0 e ha] at h; cases h
    · rw [sd_len h0 hl] at h; cases h
theorem sdN_le {t : ByteArray} (h : sdB t = true) : sdN t ≤ 5 := by
  by_cases hn : sdN t = 0
  · omega
  · exact (sd_seq h hn).2
/-- The updates that wait, text by text. -/
def fuL (F : Nat → ByteArray) (n : Nat) : List Up := (List.range n).map fun i => duU (F i)
def fuB (F : Nat → ByteArray) (n : Nat) : Bool := (List.range n).all fun i => duB (F i)
theorem fuL_length (F : Nat → ByteArray) (n : Nat) : (fuL F n).length = n := by simp [fuL]
theorem fuL_take {F : Nat → ByteArray} {n k : Nat} (h : k < n) : (fuL F n).take (k + 1) = (fuL F n).take k ++ [duU (F k)] := by
  rw [List.take_succ_eq_append_getElem (by rw [fuL_length]; exact h)]; simp [fuL]
theorem fuL_done {F : Nat → ByteArray} {n k : Nat} (h : n ≤ k) : (fuL F n).take k = fuL F n := List.take_of_length_le (by rw [fuL_length]; exact h)
theorem fuB_yes {F : Nat → ByteArray} {n : Nat} (h : ∀ i, i < n → duB (F i) = true) : fuB F n = true := by
  simp only [fuB, List.all_eq_true, List.mem_range]; exact h
theorem fuB_no {F : Nat → ByteArray} {n k : Nat} (hk : k < n) (h : duB (F k) = false) : fuB F n = false := by
  cases hb : fuB F n with
  | false => rfl
  | true =>
    simp only [fuB, List.all_eq_true, List.mem_range] at hb
    rw [hb k hk] at h; cases h
theorem fuB_at {F : Nat → ByteArray} {n : Nat} (h : fuB F n = true) : ∀ i, i < n → duB (F i) = true := by
  simp only [fuB, List.all_eq_true, List.mem_range] at h; exact h
theorem fu_right {F : Nat → ByteArray} {n : Nat} (h : fuB F n = true) : upsB (fuL F n) = true := by
  simp only [upsB, fuL, List.all_map, List.all_eq_true, List.mem_range, Function.comp_apply]
  exact fun i hi => du_right (fuB_at h i hi)
def joF (ss : List ByteArray) (xs : List Wr) (h o : Int) : Nat → ByteArray := fun i => readV ss xs h (slN o + 1 + (i : Int))
def joH (ss : List ByteArray) (xs : List Wr) (h o : Int) : ByteArray := readV ss xs h (slN o)
/-- .. of a head's text T and the updates' texts F. -/
def jkB (T : ByteArray) (F : Nat → ByteArray) : Bool := sdB T && fuB F (sdN T)
def jkL (T : ByteArray) (F : Nat → ByteArray) : List Up := if jkB T F = true then fuL F (sdN T) else []
def jkS (T : ByteArray) (F : Nat → ByteArray) : Int := if jkB T F = true then sdS T else 0
theorem jk_shut {T : ByteArray} {F : Nat → ByteArray} (h : sdB T = false) : jkB T F = false ∧ jkL T F = [] ∧ jkS T F = 0 := by
  have e : jkB T F = false := by simp [jkB, h]
  exact ⟨e, if_neg (by simp [e]), if_neg (by simp [e])⟩
theorem jk_bad {T : ByteArray} {F : Nat → ByteArray} (h : fuB F (sdN T) = false) : jkB T F = false ∧ jkL T F = [] ∧ jkS T F = 0 := by
  have e : jkB T F = false := by simp [jkB, h]
  exact ⟨e, if_neg (by simp [e]), if_neg (by simp [e])⟩
theorem jk_yes {T : ByteArray} {F : Nat → ByteArray} (h : sdB T = true) (hf : fuB F (sdN T) = true) : jkB T F = true ∧ jkL T F = fuL F (sdN T) ∧ jkS T F = sdS T := by
  have e : jkB T F = true := by simp [jkB, h, hf]
  exact ⟨e, if_pos e, if_pos e⟩
theorem jk_right (T : ByteArray) (F : Nat → ByteArray) : upsB (jkL T F) = true ∧ (jkL T F).length ≤ 5 ∧ ((jkL T F).length ≠ 0 → numB (jkS T F) = true) := by
  by_cases h : jkB T F = true
  · have h' := h
    simp only [jkB, Bool.and_eq_true] at h'
    obtain ⟨_, e1, e2⟩ := jk_yes h'.1 h'.2
    rw [e1, e2, fuL_length]
    exact ⟨fu_right h'.2, sdN_le h'.1, fun hn => (sd_seq h'.1 hn).1⟩
  · have e1 : jkL T F = [] := if_neg h
    rw [e1]
    exact ⟨rfl, by simp, fun h => absurd rfl h⟩
/-- What JournalOf and ReplayPlan answer. -/
def joC (ss : List ByteArray) (xs : List Wr) (h o : Int) : Int := if hostC ss xs h = 0 then (if inB o 0 3 = true then (if jkB (joH ss xs h o) (joF ss xs h o) = true then 0 else 18) else 4) else hostC ss xs h
def joL (ss : List ByteArray) (xs : List Wr) (h o : Int) : List Up := if joC ss xs h o = 0 then jkL (joH ss xs h o) (joF ss xs h o) else []
def joS (ss : List ByteArray) (xs : List Wr) (h o : Int) : Int := if joC ss xs h o = 0 then jkS (joH ss xs h o) (joF ss xs h o) else 0
def joM (ss : List ByteArray) (xs : List Wr) (h o : Int) : List Wr := rpL (slN o) (joS ss xs h o) (joL ss xs h o)
theorem joC_host {ss : List ByteArray} {xs : List Wr} {h o : Int} (e : hostC ss xs h ≠ 0) : joC ss xs h o = hostC ss xs h := if_neg e
theorem joC_range {ss : List ByteArray} {xs : List Wr} {h o : Int} (e : hostC ss xs h = 0) (e1 : inB o 0 3 = false) : joC ss xs h o = 4 := by rw [joC, if_pos e, if_neg (by simp [e1])]
theorem joC_broken {ss : List ByteArray} {xs : List Wr} {h o : Int} (e : hostC ss xs h = 0) (e1 : inB o 0 3 = true) (e2 : jkB (joH ss xs h o) (joF ss xs h o) = false) : joC ss xs h o = 18 := by rw [joC, if_pos e, if_pos e1, if_neg (by simp [e2])]
theorem joC_ok {ss : List ByteArray} {xs : List Wr} {h o : Int} (e : hostC ss xs h = 0) (e1 : inB o 0 3 = true) (e2 : jkB (joH ss xs h o) (joF ss xs h o) = true) : joC ss xs h o = 0 := by rw [joC, if_pos e, if_pos e1, if_pos e2]
theorem jo_no {ss : List ByteArray} {xs : List Wr} {h o : Int} (e : joC ss xs h o ≠ 0) : joL ss xs h o = [] ∧ joS ss xs h o = 0 ∧ joM ss xs h o = [] := by
  have e1 : joL ss xs h o = [] := if_neg e
  exact ⟨e1, if_neg e, by rw [joM, e1]; rfl⟩
theorem jo_yes {ss : List ByteArray} {xs : List Wr} {h o : Int} (e : joC ss xs h o = 0) : joL ss xs h o = jkL (joH ss xs h o) (joF ss xs h o) ∧ joS ss xs h o = jkS (joH ss xs h o) (joF ss xs h o) := ⟨if_pos e, if_pos e⟩
theorem jo_right (ss : List ByteArray) (xs : List Wr) (h o : Int) : upsB (joL ss xs h o) = true ∧ (joL ss xs h o).length ≤ 5 ∧ ((joL ss xs h o).length ≠ 0 → numB (joS ss xs h o) = true) := by
  by_cases e : joC ss xs h o = 0
  · rw [(jo_yes e).1, (jo_yes e).2]; exact jk_right _ _
  · rw [(jo_no e).1]; exact ⟨rfl, by simp, fun h => absurd rfl h⟩
theorem upB_size {us : List Up} (h : upsB us = true) : ∀ x ∈ us, x.data.size ≤ maxLen := fun x hx => by
  have := (upB_iff.1 (List.all_eq_true.1 h x hx)).2
  unfold maxLen; omega
def upV (x : Up) : List Value := [.int .i64 x.at_, .string x.data]
theorem upV_one (x : Up) : ∀ u ∈ upV x, u.oneCell' = true := by
  intro u hu
  simp [upV] at hu
  rcases hu with rfl | rfl <;> rfl
theorem news2_at (w : World) (n : Nat) (x : Up) (t : TypeId) (hn : w.heap.size = n) : ∀ j u, (upV x)[j]? = some u → (w.alloc (.cells #[.int .i64 x.at_, .string x.data] t)).cell? ((⟨n, 0, none⟩ : Addr).add j) = some u := by
  subst hn
  exact World.news_of_block (cs := #[.int .i64 x.at_, .string x.data]) (heap_alloc_new w _)
/-- An update that a statement lays into a new variable. -/
structure GotU (W0 W : World) (C : Nat) (t : TypeId) (u : Up) : Prop where
  k : Below W0.heap.size W0 W
  v : VarU W C t u
  c : W0.heap.size ≤ C
theorem GotU.top {W0 W : World} (t : TypeId) (u : Up) (h : Below W0.heap.size W0 W) : GotU W0 (W.alloc (.cells #[.int .i64 u.at_, .string u.data] t)) W.heap.size t u := ⟨belowAl h _, VarU.new W t u, h.size⟩
theorem GotU.set {W0 W : World} {t : TypeId} {u u0 : Up} {C : Nat} (h : Below W0.heap.size W0 W) (hv : VarU W C t u0) (hC : W0.heap.size ≤ C) : GotU W0 ((W.setCell ⟨C, 0, none⟩ (.int .i64 u.at_)).setCell ⟨C, 1, none⟩ (.string u.data)) C t u :=
  ⟨below2 h hC 0 1 _ _, Joins.block_setCell (i := 1) (Joins.block_setCell (i := 0) hv _) _, hC⟩
end Go.Proofs.YtkaiglhljpehpabGreatDoor

/- Contracts of spec's updates: l07Slot, SlotOf, l07Update, l07Encode, EncodeUpdate. -/
namespace Go.Proofs.YtkaiglhljpehpabGreatDoor
open Go.RowKit
set_option linter.unusedVariables false
set_option maxRecDepth 100000

end Go.Proofs.YtkaiglhljpehpabGreatDoor

/- Contracts of spec's l07Decode, DecodeUpdate. -/
namespace Go.Proofs.YtkaiglhljpehpabGreatDoor
open Go.RowKit
set_option linter.unusedVariables false
set_option maxRecDepth 100000

end Go.Proofs.YtkaiglhljpehpabGreatDoor

/- Contracts of spec's plans: l07Head, l07Apply. -/
namespace Go.Proofs.YtkaiglhljpehpabGreatDoor
open Go.RowKit
set_option linter.unusedVariables false
set_option maxRecDepth 100000

abbrev mV (x : Wr) : Value := .agg #[.int .i64 x.host, .int .i64 x.at_, .string x.data]

end Go.Proofs.YtkaiglhljpehpabGreatDoor

/- Contracts of spec's journals that are read: l07Of, l07Ask, JournalOf, l07Replay, ReplayPlan. -/
namespace Go.Proofs.YtkaiglhljpehpabGreatDoor
open Go.RowKit
set_option linter.unusedVariables false
set_option maxRecDepth 100000

theorem l01ReadAt (ao bo : Option Addr) (ca cb : Nat) (ss : List ByteArray) (xs : List Wr) (h a : Int) (T : ByteArray) (w : World) (hd : diskB ss xs = true) (h0 : 0 ≤ a) (h3 : a ≤ 63) (hT : readV ss xs h a = T) (h1 : Ss w ao ss) (h2 : Ios w bo xs) :
    Calls Tryz.prog 40 #[.agg #[.slice ao ss.length ca, .slice bo xs.length cb], .int .i64 h, .int .i64 a] w fun e w' => e = .returned (.string T) ∧ Below w.heap.size w w' := by
  obtain ⟨l1, l2⟩ := diskB_len hd
  obtain ⟨n, rfl⟩ := Int.eq_ofNat_of_zero_le h0
  subst hT
  exact l01Read_any ao bo ca cb ss xs h n w (by omega) (by omega) (by unfold maxLen; omega) h1 h2
theorem slN_at {o : Int} (h : inB o 0 3 = true) : 39 ≤ slN o ∧ slN o ≤ 57 := by
  have : 0 ≤ o ∧ o ≤ 3 := by simpa [inB] using h
  unfold slN; omega

end Go.Proofs.YtkaiglhljpehpabGreatDoor

/- Contracts of the model's l08Decode, DecodeRefs. -/
namespace Go.Proofs.YtkaiglhljpehpabGreatDoor
open Go.RowKit
set_option linter.unusedVariables false
set_option maxRecDepth 100000

def cdO (s : ByteArray) : List Int := if cdB s = true then cdL s else []
theorem cdN_iff (p : Int) : cdN p = true ↔ p / 16 ^ 6 = 0 := by simp [cdN]

set_option maxHeartbeats 3200000 in
theorem l08Decode_any (s : ByteArray) (w : World) (hs : s.size ≤ 65536) :
    Calls Tryz.prog 41 #[.string s] w fun e w' => ∃ v, e = .returned (.tuple #[v, .bool (cdB s)]) ∧ OwnN w' w.heap.size v (cdO s) ∧ Below w.heap.size w w' := by
  obtain ⟨j0, hj, hy0, hy1, hy2⟩ := info_parts infoM
  go_enter Tryz.func41, Tryz.ntmps41
  go_wp2_with fail
  refine (l02Open_any s 2 _ hs).mono ?_
  rintro e w1 ⟨v, rfl, ⟨qo, qa, rfl, ho⟩, hb1⟩
  have HB1 := hide hb1
  have HI := hide (ownRN ho)
  clear ho hb1
  cases hop : openB s 2
  · have HE := hide (cd_open hop)
    have HCO : Hid (cdO s = []) := hide (by rw [cdO, cd_open hop]; rfl)
    clear hop
    go_wp2
    go_ret2
    exact ⟨.slice (some ⟨w1.heap.size, 0, none⟩) 0 0, ret_nb rfl (unhide HE).symm, by rw [unhide HCO]; exact OwnN.nil _ _ _, fr (unhide HB1) (Joins.below_alloc1 _ _)⟩
  by_cases h4 : (openL s 2).length = 4
  · have HIN := hide (openL_in hop)
    have H4 := hide h4
    have HOP := hide hop
    have b4 : ((((openL s 2).length : Nat) : Int) != 4) = false := by simp [h4]
    have HA : Hid (Below w1.heap.size w1 (w1.alloc (.cells #[] 3))) := hide (Joins.below_alloc1 _ _)
    have HCL : Hid (cdL s = sxA (openL s 2) 4) := hide rfl
    have HNO : Hid (∀ k (hk : k < (openL s 2).length), cdN (openL s 2)[k] = false → cdB s = false) := hide (fun k hk h => cd_num hk h)
    have HYES : Hid ((∀ j (hj : j < (openL s 2).length), cdN (openL s 2)[j] = true) → cdB s = true) := hide (fun h => cd_yes (unhide HOP) (unhide H4) h)
    clear hop h4
    generalize openL s 2 = ns at *
    go_wp2
    go_loopw [6, 7] (fun o i wr => ∃ (k : Nat) (po : Option Addr) (pa : Nat), k ≤ ns.length ∧ i = .int .i64 k ∧ o = .slice po (6 * k) pa ∧ Hid (∀ j (h : j < ns.length), j < k → cdN ns[j] = true) ∧ Hid (OwnR wr w1.heap.size 3 1 (.slice po (6 * k) pa) (6 * k) (intV (sxA ns k))) ∧ Hid (Below w1.heap.size w1 wr)) (fun _ i _ => ns.length - (intOf i).toNat)
    case atStart => exact ⟨0, _, _, Nat.zero_le _, rfl, rfl, hide (fun j _ h => by omega), hide (.inl ⟨rfl, rfl, _, rfl⟩), HA⟩
    case round =>
      obtain ⟨k, po, pa, hk, rfl, rfl, HAL, HO, HB⟩ := hrel
      by_cases hlt : k < ns.length
      · obtain ⟨b, off, rfl, hcl⟩ := (unhide HI).below (unhide HB) k hlt
        obtain ⟨hp0, hp1⟩ := unhide HIN k hlt
        have HP := hide (And.intro hp0 hp1)
        have HK4 : Hid (k < 4) := hide (by have := unhide H4; omega)
        have HSU := hide (sxA_succ hlt)
        have HP6 : Hid (cdN ns[k] = true ↔ ns[k] / 16 ^ 6 = 0) := hide (cdN_iff _)
        have HNK := hide (unhide HNO k hlt)
        have HAK := hide (fun (h : cdN ns[k] = true) => all_succ hlt (unhide HAL) h)
        have HSL := hide (sxA_len ns k hk)
        go_wp2
        clear hcl
        generalize ns[k] = p at *
        go_loopw [6, 8, 9] (fun o n j wq => ∃ (m : Nat) (ro : Option Addr) (ra : Nat), m ≤ 6 ∧ j = .int .i64 m ∧ n = .int .i64 (p / 16 ^ m) ∧ o = .slice ro (6 * k + m) ra ∧ Hid (OwnR wq w1.heap.size 3 1 (.slice ro (6 * k + m) ra) (6 * k + m) (intV (sxA ns k ++ sxT p m))) ∧ Hid (Below w1.heap.size w1 wq)) (fun _ _ j _ => 6 - (intOf j).toNat)
        case atStart => exact ⟨0, po, pa, by omega, rfl, by simp, rfl, hide (by simpa [sxT] using unhide HO), HB⟩
        case round =>
          clear HO HB
          obtain ⟨m, ro, ra, hm, rfl, rfl, rfl, HO, HB⟩ := hrel
          by_cases hm6 : m < 6
          · obtain ⟨r0, r1⟩ := rest_in (unhide HP).1 (unhide HP).2 m
            have HRS := hide (rest_succ p m)
            have HSS := hide (sxT_succ p m)
            have hm6' : (m : Int) < 6 := by omega
            have hkm : 6 * k + m ≤ 1000 := by have := unhide HK4; omega
            generalize p / 16 ^ m = V at *
            have HOA := hide ((unhide HO).below (Joins.below_alloc1 _ (.cells #[.int .i64 (V % 16)] 3)))
            have HBA := hide (fr (unhide HB) (Joins.below_alloc1 _ (.cells #[.int .i64 (V % 16)] 3)))
            have HSZ := hide (unhide HB).size
            go_wp2_with (at_builtin; refine wpList_append_one rfl _ _ 27 rfl w1.heap.size 3 j0 (.int .i64 0) 1 8 Tryz.underlying27 hj hy0 hy1 hy2 rfl (by omega) ro (6 * k + m) ra (intV (sxA ns k ++ sxT p m)) rfl (unhide HOA) (by have := unhide HSZ; simp; omega) ⟨wr.heap.size, 0, none⟩ _ [.int .i64 (V % 16)] rfl rfl (byte_news wr _ _) (int_one _) (by unfold maxLen; omega) (by omega) ?_; intro g2 cap2 wA hoA hkA; have HSF := hide (And.intro hoA (keep_below (unhide HBA) (unhide HOA) (Nat.le_refl _) hkA)); clear hoA hkA)
            go_roundw
            case rel => exact ⟨m + 1, some ⟨g2, 0, none⟩, cap2, by omega, by go_num, by rw [← unhide HRS], by rfl, hide (.inr ⟨by omega, by rw [unhide HSS, ← List.append_assoc, intV_snoc]; exact (unhide HSF).1⟩), hide (unhide HSF).2⟩
            case measure => simp [intOf]; omega
          · have hm66 : m = 6 := by omega
            subst hm66
            obtain ⟨r0, r1⟩ := rest_in (unhide HP).1 (unhide HP).2 6
            have HON : Hid (OwnR wr w1.heap.size 3 1 (.slice ro (6 * (k + 1)) ra) (6 * (k + 1)) (intV (sxA ns (k + 1)))) := hide (by rw [← unhide HSU]; exact unhide HO)
            by_cases hz : p / 16 ^ 6 = 0
            · have HAN := hide (unhide HAK ((unhide HP6).2 hz))
              have hgt : ¬ (0 < p / 16 ^ 6) := by omega
              have hk4i : (k : Int) < 4 := by have := unhide HK4; omega
              clear hz
              generalize p / 16 ^ 6 = V at *
              go_wp2
              go_roundw
              case rel => exact ⟨k + 1, ro, ra, by omega, by go_num, by rfl, HAN, HON, HB⟩
              case measure => simp [intOf]; omega
            · have HE := hide (unhide HNK (by rw [← Bool.not_eq_true]; exact fun h => hz ((unhide HP6).1 h)))
              have HCO : Hid (cdO s = []) := hide (by rw [cdO, unhide HE]; rfl)
              have hgt : 0 < p / 16 ^ 6 := by omega
              clear hz
              generalize p / 16 ^ 6 = V at *
              go_wp2
              go_ret2
              exact ⟨.slice (some ⟨wr.heap.size, 0, none⟩) 0 0, ret_nb rfl (unhide HE).symm, by rw [unhide HCO]; exact OwnN.nil _ _ _, fr (unhide HB1) (fr (unhide HB) (Joins.below_alloc1 _ _))⟩
      · have hk4 : k = 4 := by have := unhide H4; omega
        subst hk4
        have HE := hide (unhide HYES (fun j h => unhide HAL j h (by have := unhide H4; omega)))
        have HCO : Hid (cdO s = sxA ns 4) := hide (by rw [cdO, unhide HE, if_pos rfl, unhide HCL])
        have HL24 := hide (sxA_len ns 4 (by have := unhide H4; omega))
        have HSZ := hide (unhide HB1).size
        go_wp2
        go_ret2
        refine ⟨.slice po (6 * 4) pa, ret_nb rfl (unhide HE).symm, ?_, fr (unhide HB1) (unhide HB)⟩
        rw [unhide HCO]
        refine ⟨po, pa, by rw [unhide HL24], ?_⟩
        rw [unhide HL24]
        exact (unhide HO).base (unhide HSZ)
  · have HE := hide (cd_len h4)
    have HCO : Hid (cdO s = []) := hide (by rw [cdO, cd_len h4]; rfl)
    have b4 : ((((openL s 2).length : Nat) : Int) != 4) = true := by simp; omega
    clear hop h4
    go_wp2
    go_ret2
    exact ⟨.slice (some ⟨w1.heap.size, 0, none⟩) 0 0, ret_nb rfl (unhide HE).symm, by rw [unhide HCO]; exact OwnN.nil _ _ _, fr (unhide HB1) (Joins.below_alloc1 _ _)⟩

end Go.Proofs.YtkaiglhljpehpabGreatDoor

/- Contract of the model's l10Raise. (Made ahead of stage 10.) -/
namespace Go.Proofs.YtkaiglhljpehpabGreatDoor
open Go.RowKit
set_option linter.unusedVariables false
set_option maxRecDepth 100000

theorem ImB_len {a : Im4} {m m' : Img} {ts : List Value} {g : Nat} (e1 : m'.refs.length = m.refs.length) (e2 : m'.table.length = m.table.length) (e3 : m'.snaps.length = m.snaps.length) (e4 : m'.data.length = m.data.length) (h : ImB a m' ts g) : ImB a m ts g := by
  unfold ImB at h ⊢
  rwa [e1, e2, e3, e4] at h
/-- Counts raised so far. -/
def raD (m : Img) (L : List Int) (k : Nat) : Img := { m with refs := (L.take k).foldl incr m.refs }
theorem foldl_incr_len (L : List Int) : ∀ ns : List Int, (L.foldl incr ns).length = ns.length := by
  induction L with
  | nil => intro ns; rfl
  | cons c cs ih => intro ns; rw [List.foldl_cons, ih, incr_len]
/-- Counts that grow stay small. -/
def RvU (ns : List Int) (lo hi : Int) : Prop := ∀ c (h : c < ns.length), lo ≤ ns[c] ∧ ns[c] ≤ hi
theorem RvU.up {ns : List Int} {lo hi : Int} (h : RvU ns lo hi) (c : Nat) (hc : c < ns.length) (hlo : lo ≤ hi) : RvU (incr ns c) lo (hi + 1) := by
  rw [incr_set]
  intro i hi'
  rw [List.length_set] at hi'
  rw [List.getElem_set]
  have := h i hi'
  by_cases e : c = i
  · have h2 : ns.getD c 0 = ns[i] := by simp [List.getD, e, hi']
    rw [if_pos e, h2]
    omega
  · rw [if_neg e]
    omega
/-- A law's world within l10Raise. -/
structure RaJ (w W : World) (B : Nat) (a : Im4) (m m' : Img) (ts : List Value) : Prop where
  v : VarM W w.heap.size 30 (.slice a.ro m.refs.length a.rc) (.slice a.tq m.table.length a.tc) (.slice a.so m.snaps.length a.sc) (.slice a.dq m.data.length a.dc)
  r : VarM W (w.heap.size + 1) 30 (.slice none 0 0) (.slice none 0 0) (.slice none 0 0) (.slice none 0 0)
  o : OwnIm W B a m' ts
  k : Keep (fun g => ImB a m ts g ∨ w.heap.size ≤ g) w W
  e1 : m'.refs.length = m.refs.length
  e2 : m'.table.length = m.table.length
  e3 : m'.snaps.length = m.snaps.length
  e4 : m'.data.length = m.data.length

theorem RaJ.drew {w W : World} {B : Nat} {a : Im4} {m m' : Img} {ts : List Value} (h : RaJ w W B a m m' ts) : RaJ w W.drew B a m m' ts := ⟨h.v.below (Below.refl _ _).drew, h.r.below (Below.refl _ _).drew, h.o.below (Below.refl _ _).drew, h.k.trans (Keep.of_below (Below.refl _ _).drew), h.e1, h.e2, h.e3, h.e4⟩

end Go.Proofs.YtkaiglhljpehpabGreatDoor
