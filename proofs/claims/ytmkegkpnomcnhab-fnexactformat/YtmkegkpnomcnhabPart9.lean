import Derived.Test.YtmkegkpnomcnhabPart1
import Derived.Test.YtmkegkpnomcnhabPart2
import Derived.Test.YtmkegkpnomcnhabPart5
import Derived.Test.YtmkegkpnomcnhabPart4
import Derived.Test.YtmkegkpnomcnhabPart8
import Derived.WalkKit
import Derived.OwnWalk
import Derived.Deep.RegionLawGrows
import Derived.Test.YtmkegkpnomcnhabPart3
import Derived.Test.YtmkegkpnomcnhabPart7
import Derived.Test.YtmkegkpnomcnhabRows
import Derived.WalkSpells
import Derived.Deep.RegionLaw
import Derived.Deep.AppendLies

/- Plain words of plans; laws on append of several elements. -/
namespace Go.Proofs.Ytmkegkpnomcnhab
open Go.RowKit
set_option linter.unusedVariables false
section
variable {P : Program}
theorem run_append_many (w : World) (B : Nat) (t ty e : TypeId) (i : TypeInfo) (z : Value) (size bytes : Nat) (ht : P.underlying t = some (.slice e)) (hi : P.info? e = some i) (hz : i.zero = some z)
    (hsize : i.size = size) (hby : i.bytes = bytes) (hzs : z.cells.size = size) (hsz : 0 < size)
    (qo : Option Addr) (n cap : Nat) (xs : List Value) (h : OwnR w B e size (.slice qo n cap) n xs) (hB : B ≤ w.heap.size)
    (ad : Addr) (m c : Nat) (news : List Value) (hm : 0 < m) (hl : news.length = m * size) (hnews : ∀ j u, news[j]? = some u → w.cell? (ad.add j) = some u) (h1 : ∀ u ∈ news, u.oneCell' = true)
    (b1 : n + m ≤ maxLen) (b2 : (n + m) * bytes ≤ 140737488355328) :
    ∃ g cap' w', (Builtin.append_ #[t, t] ty #[.slice qo n cap, .slice (some ad) m c]).run P w = .ok (.slice (some ⟨g, 0, none⟩) (n + m) cap') w' ∧
      w'.ownsRow B e size (.slice (some ⟨g, 0, none⟩) (n + m) cap') (n + m) (xs ++ news) ∧ Keep (Own (.slice qo n cap)) w w' := by
  rcases h with ⟨rfl, rfl, ao, hv⟩ | ⟨h0, h⟩
  · simp only [Value.slice.injEq, true_and] at hv
    obtain ⟨rfl, rfl⟩ := hv
    cases qo with
    | none =>
      obtain ⟨v', w', hrun, r1, r2, _⟩ := run_append_own (P := P) w B t ty e i z size bytes ht hi hz hsize hby hzs hsz (.slice none 0 0) 0 [] (World.ownsRow_nil w _ e size) ad m c news hl hnews h1 b1 b2 hB
      obtain ⟨g, cap, cur, rfl, _, _⟩ := own_form (by omega) r1
      exact ⟨g, cap, w', hrun, r1, keep_grown r2 (fun k hk => by cases hk)⟩
    | some d =>
      obtain ⟨v', w', hrun, r1, r2⟩ := run_append_arg_grows (P := P) w t ty e i z size bytes ht hi hz hsize hby hzs hsz d 0 0 [] (by simp) (by simp) ad m c news hl hnews (by omega) b1 b2
      obtain ⟨g, cap, cur, rfl, _, _⟩ := own_form (by omega) r1
      exact ⟨g, cap, w', hrun, own_base r1 hB, keep_grown r2 (fun k hk => by cases hk)⟩
  · obtain ⟨g0, cap0, cur0, e0, _, _⟩ := own_form h0 h
    rw [e0] at h
    obtain ⟨v', w', hrun, r1, r2, _⟩ := run_append_own (P := P) w B t ty e i z size bytes ht hi hz hsize hby hzs hsz _ n xs h ad m c news hl hnews h1 b1 b2 hB
    obtain ⟨g, cap, cur, rfl, _, _⟩ := own_form (by omega) r1
    rw [e0]
    exact ⟨g, cap, w', hrun, r1, keep_grown r2 (fun k hk => by cases hk; exact own_of h0 rfl)⟩
theorem wpList_append_many {w : World} {ops : Array Oper} {rest : List Oper} {o : Oper} {a : Act} {Q : Exit → Act → World → Prop} (hgd : o.guard = none) (s x : Operand) (t : TypeId)
    (ho : o.op = .call { callee := .builtin .append, args := #[s, x], argTypes := #[t, t] })
    (B : Nat) (e : TypeId) (i : TypeInfo) (z : Value) (size bytes : Nat) (ht : P.underlying t = some (.slice e)) (hi : P.info? e = some i) (hz : i.zero = some z)
    (hsize : i.size = size) (hby : i.bytes = bytes) (hzs : z.cells.size = size) (hsz : 0 < size)
    (qo : Option Addr) (n cap : Nat) (xs : List Value) (hs : a.eval s = .slice qo n cap) (h : OwnR w B e size (.slice qo n cap) n xs) (hB : B ≤ w.heap.size)
    (so : Option Addr) (m c : Nat) (news : List Value) (hx : a.eval x = .slice so m c) (hm : 0 < m) (hl : news.length = m * size) (hnews : 0 < m → ∃ ad, so = some ad ∧ ∀ j u, news[j]? = some u → w.cell? (ad.add j) = some u) (h1 : ∀ u ∈ news, u.oneCell' = true)
    (b1 : n + m ≤ maxLen) (b2 : (n + m) * bytes ≤ 140737488355328)
    (hK : ∀ g cap' w', w'.ownsRow B e size (.slice (some ⟨g, 0, none⟩) (n + m) cap') (n + m) (xs ++ news) → Keep (Own (.slice qo n cap)) w w' → wpList P ops Q rest (a.put o.dst (.slice (some ⟨g, 0, none⟩) (n + m) cap')) w') : wpList P ops Q (o :: rest) a w := by
  refine wpList_plain hgd fun K hK' => ?_
  obtain ⟨ad, rfl, hnew⟩ := hnews hm
  obtain ⟨g, cap', w', hrun, r1, r2⟩ := run_append_many (P := P) w B t o.type e i z size bytes ht hi hz hsize hby hzs hsz qo n cap xs h hB ad m c news hm hl hnew h1 b1 b2
  unfold Oper.wp
  simp [execOp, ho, resolve, invoke, builtin, hs, hx, hrun, Result.andThen]
  exact hK' _ _ (hK _ _ _ r1 r2)
/-- .. onto a row with room, empty or not. -/
theorem run_append_room (w : World) (B : Nat) (t ty e : TypeId) (i : TypeInfo) (z : Value) (size bytes : Nat) (ht : P.underlying t = some (.slice e)) (hi : P.info? e = some i) (hz : i.zero = some z)
    (hsize : i.size = size) (hby : i.bytes = bytes) (hzs : z.cells.size = size) (hsz : 0 < size)
    (g0 n cap : Nat) (xs : List Value) (h : w.ownsRow B e size (.slice (some ⟨g0, 0, none⟩) n cap) n xs) (hB : B ≤ w.heap.size)
    (ad : Addr) (m c : Nat) (news : List Value) (hm : 0 < m) (hl : news.length = m * size) (hnews : ∀ j u, news[j]? = some u → w.cell? (ad.add j) = some u) (h1 : ∀ u ∈ news, u.oneCell' = true)
    (b1 : n + m ≤ maxLen) (b2 : (n + m) * bytes ≤ 140737488355328) :
    ∃ g cap' w', (Builtin.append_ #[t, t] ty #[.slice (some ⟨g0, 0, none⟩) n cap, .slice (some ad) m c]).run P w = .ok (.slice (some ⟨g, 0, none⟩) (n + m) cap') w' ∧
      w'.ownsRow B e size (.slice (some ⟨g, 0, none⟩) (n + m) cap') (n + m) (xs ++ news) ∧ Keep (fun j => j = g0) w w' := by
  by_cases hc : n + m ≤ cap
  · obtain ⟨w', hrun, r1, r2⟩ := run_append_fits (P := P) w B t ty e i size ht hi hsize g0 n cap xs h ad m c news hl hnews h1 hc
    exact ⟨g0, cap, w', hrun, r1, keep_grown r2 (fun k hk => by cases hk; rfl)⟩
  · obtain ⟨v', w', hrun, r1, r2⟩ := run_append_arg_grows (P := P) w t ty e i z size bytes ht hi hz hsize hby hzs hsz ⟨g0, 0, none⟩ n cap xs h.1 (fun j u hu => by
      have hj : j < n * size := by have := (List.getElem?_eq_some_iff.1 hu).1; rw [h.1] at this; exact this
      have ha : (⟨g0, 0, none⟩ : Addr).add j = ⟨g0, j, none⟩ := by unfold Addr.add; split <;> simp_all
      rw [ha, h.cellAt j hj]; exact hu) ad m c news hl hnews (by omega) b1 b2
    obtain ⟨g, cap', cur, rfl, hg, _⟩ := own_form (by omega) r1
    exact ⟨g, cap', w', hrun, own_base r1 hB, keep_grown r2 (fun k hk => by cases hk)⟩
theorem wpList_append_room {w : World} {ops : Array Oper} {rest : List Oper} {o : Oper} {a : Act} {Q : Exit → Act → World → Prop} (hgd : o.guard = none) (s x : Operand) (t : TypeId)
    (ho : o.op = .call { callee := .builtin .append, args := #[s, x], argTypes := #[t, t] })
    (B : Nat) (e : TypeId) (i : TypeInfo) (z : Value) (size bytes : Nat) (ht : P.underlying t = some (.slice e)) (hi : P.info? e = some i) (hz : i.zero = some z)
    (hsize : i.size = size) (hby : i.bytes = bytes) (hzs : z.cells.size = size) (hsz : 0 < size)
    (g0 n cap : Nat) (xs : List Value) (hs : a.eval s = .slice (some ⟨g0, 0, none⟩) n cap) (h : w.ownsRow B e size (.slice (some ⟨g0, 0, none⟩) n cap) n xs) (hB : B ≤ w.heap.size)
    (so : Option Addr) (m c : Nat) (news : List Value) (hx : a.eval x = .slice so m c) (hm : 0 < m) (hl : news.length = m * size) (hnews : 0 < m → ∃ ad, so = some ad ∧ ∀ j u, news[j]? = some u → w.cell? (ad.add j) = some u) (h1 : ∀ u ∈ news, u.oneCell' = true)
    (b1 : n + m ≤ maxLen) (b2 : (n + m) * bytes ≤ 140737488355328)
    (hK : ∀ g cap' w', w'.ownsRow B e size (.slice (some ⟨g, 0, none⟩) (n + m) cap') (n + m) (xs ++ news) → Keep (fun j => j = g0) w w' → wpList P ops Q rest (a.put o.dst (.slice (some ⟨g, 0, none⟩) (n + m) cap')) w') : wpList P ops Q (o :: rest) a w := by
  refine wpList_plain hgd fun K hK' => ?_
  obtain ⟨ad, rfl, hnew⟩ := hnews hm
  obtain ⟨g, cap', w', hrun, r1, r2⟩ := run_append_room (P := P) w B t o.type e i z size bytes ht hi hz hsize hby hzs hsz g0 n cap xs h hB ad m c news hm hl hnew h1 b1 b2
  unfold Oper.wp
  simp [execOp, ho, resolve, invoke, builtin, hs, hx, hrun, Result.andThen]
  exact hK' _ _ (hK _ _ _ r1 r2)
end
theorem news3 (w : World) (x : Wr) (t : TypeId) : ∀ j u, (wrV x)[j]? = some u → (w.alloc (.cells #[.int .i64 x.host, .int .i64 x.at_, .string x.data] t)).cell? ((⟨w.heap.size, 0, none⟩ : Addr).add j) = some u :=
  World.news_of_block (cs := #[.int .i64 x.host, .int .i64 x.at_, .string x.data]) (heap_alloc_new w _)
theorem news3_at (w : World) (n : Nat) (x : Wr) (t : TypeId) (hn : w.heap.size = n) : ∀ j u, (wrV x)[j]? = some u → (w.alloc (.cells #[.int .i64 x.host, .int .i64 x.at_, .string x.data] t)).cell? ((⟨n, 0, none⟩ : Addr).add j) = some u := by
  subst hn; exact news3 w x t

/-- Moves, and lists of them. -/
def mvF : Wr := ⟨2, 0, ⟨#[]⟩⟩
def mvW (u : Up) : Wr := ⟨1, u.at_, u.data⟩
def hdT (n seq : Int) : ByteArray := sealS 7 [n, seq]
theorem hdT_size (n seq : Int) : (hdT n seq).size = 12 := by rw [hdT, sealS_size]; rfl
def mvH (slot n seq : Int) : Wr := ⟨1, slot, hdT n seq⟩
def mvT (slot : Int) (i : Nat) (u : Up) : Wr := ⟨1, slot + 1 + i, encU u⟩
def chL (us : List Up) : List Wr := us.map mvW
def txL (slot : Int) (us : List Up) : List Wr := us.mapIdx (mvT slot)
def apL (slot seq : Int) (us : List Up) : List Wr := chL us ++ [mvF] ++ [mvH slot 0 seq] ++ [mvF]
def bgL (slot seq : Int) (us : List Up) : List Wr := txL slot us ++ [mvF] ++ [mvH slot us.length seq] ++ [mvF]
def plL (slot seq : Int) (us : List Up) : List Wr := if us.length = 0 then [] else bgL slot seq us ++ apL slot seq us
def rpL (slot seq : Int) (us : List Up) : List Wr := if us.length = 0 then [] else apL slot seq us
theorem chL_length (us : List Up) : (chL us).length = us.length := by simp [chL]
theorem txL_length (slot : Int) (us : List Up) : (txL slot us).length = us.length := by simp [txL]
theorem apL_length (slot seq : Int) (us : List Up) : (apL slot seq us).length = us.length + 3 := by simp [apL, chL]
theorem bgL_length (slot seq : Int) (us : List Up) : (bgL slot seq us).length = us.length + 3 := by simp [bgL, txL]
theorem chL_take {us : List Up} {k : Nat} (h : k < us.length) : (chL us).take (k + 1) = (chL us).take k ++ [mvW us[k]] := by
  rw [List.take_succ_eq_append_getElem (by rw [chL_length]; exact h)]; simp [chL]
theorem txL_take {slot : Int} {us : List Up} {k : Nat} (h : k < us.length) : (txL slot us).take (k + 1) = (txL slot us).take k ++ [mvT slot k us[k]] := by
  rw [List.take_succ_eq_append_getElem (by rw [txL_length]; exact h)]; simp [txL]
theorem chL_done {us : List Up} {k : Nat} (h : us.length ≤ k) : (chL us).take k = chL us := List.take_of_length_le (by rw [chL_length]; exact h)
theorem txL_done {slot : Int} {us : List Up} {k : Nat} (h : us.length ≤ k) : (txL slot us).take k = txL slot us := List.take_of_length_le (by rw [txL_length]; exact h)
def upsB (us : List Up) : Bool := us.all upB
theorem upsB_at {us : List Up} (h : upsB us = true) {k : Nat} (hk : k < us.length) : upB us[k] = true := List.all_eq_true.1 h _ (List.getElem_mem hk)
/-- Moves with short texts. -/
def short (ms : List Wr) : Prop := ∀ x ∈ ms, x.data.size ≤ 80
theorem short.sizes {ms : List Wr} (h : short ms) : ∀ x ∈ ms, x.data.size ≤ maxLen := fun x hx => by have := h x hx; unfold maxLen; omega
theorem short.app {a b : List Wr} (h : short a) (k : short b) : short (a ++ b) := fun x hx => by
  rcases List.mem_append.1 hx with h' | h'
  · exact h x h'
  · exact k x h'
theorem short.one {x : Wr} (h : x.data.size ≤ 80) : short [x] := fun y hy => by simp at hy; subst hy; exact h
theorem short_nil : short [] := fun x hx => by cases hx
theorem short_F : short [mvF] := short.one (by decide)
theorem short_H (slot n seq : Int) : short [mvH slot n seq] := short.one (by show (hdT n seq).size ≤ 80; rw [hdT_size]; omega)
theorem short_ch {us : List Up} (h : upsB us = true) : short (chL us) := fun x hx => by
  simp only [chL, List.mem_map] at hx
  obtain ⟨u, hu, rfl⟩ := hx
  have := (upB_iff.1 (List.all_eq_true.1 h u hu)).2
  show u.data.size ≤ 80
  omega
theorem short_tx {slot : Int} {us : List Up} (h : upsB us = true) : short (txL slot us) := fun x hx => by
  obtain ⟨i, hi, rfl⟩ := List.mem_iff_getElem.1 hx
  have hi' : i < us.length := by rwa [txL_length] at hi
  have := (upB_iff.1 (upsB_at h hi')).2
  simp only [txL, List.getElem_mapIdx, mvT]
  rw [encU_size]; omega
theorem short_ap {slot seq : Int} {us : List Up} (h : upsB us = true) : short (apL slot seq us) := (((short_ch h).app short_F).app (short_H _ _ _)).app short_F
theorem short_bg {slot seq : Int} {us : List Up} (h : upsB us = true) : short (bgL slot seq us) := (((short_tx h).app short_F).app (short_H _ _ _)).app short_F
theorem short_pl {slot seq : Int} {us : List Up} (h : upsB us = true) : short (plL slot seq us) := by
  unfold plL; split
  · exact short_nil
  · exact (short_bg h).app (short_ap h)
theorem short_rp {slot seq : Int} {us : List Up} (h : upsB us = true) : short (rpL slot seq us) := by
  unfold rpL; split
  · exact short_nil
  · exact short_ap h
/-- A head's numbers. -/
theorem hd_nums {n seq : Int} (h : 0 ≤ n ∧ n ≤ 5) (hs : numB seq = true) : ∀ j (hj : j < [n, seq].length), 0 ≤ [n, seq][j] ∧ [n, seq][j] ≤ 2147483647 := by
  have h2 : 0 ≤ seq ∧ seq ≤ 2147483647 := by simpa [numB, inB] using hs
  intro j hj
  have hj' : j < 2 := hj
  rcases (show j = 0 ∨ j = 1 by omega) with rfl | rfl <;> simp <;> omega
theorem hd_seal {n seq : Int} (h : 0 ≤ n ∧ n ≤ 5) (hs : numB seq = true) : sealC 7 [n, seq] = 0 ∧ sealT 7 [n, seq] = hdT n seq := by
  have h2 : 0 ≤ seq ∧ seq ≤ 2147483647 := by simpa [numB, inB] using hs
  have hc : sealC 7 [n, seq] = 0 := sealC_ok (listC_ok (by simp) (by
    rw [intsB_len]
    · rfl
    · intro j hj
      have hj' : j < 2 := hj
      rcases (show j = 0 ∨ j = 1 by omega) with rfl | rfl <;> simp [numB, inB] <;> omega)) rfl
  exact ⟨hc, sealT_ok hc⟩
/-- The fault of updates. -/
def fuC (us : List Up) : Int := if 5 < us.length then 6 else if upsB us = true then 0 else 1
theorem fuC_many {us : List Up} (h : 5 < us.length) : fuC us = 6 := if_pos h
theorem fuC_ok {us : List Up} (h : ¬ 5 < us.length) (hb : upsB us = true) : fuC us = 0 := by rw [fuC, if_neg h, if_pos hb]
theorem fuC_bad {us : List Up} (h : ¬ 5 < us.length) (hb : upsB us = false) : fuC us = 1 := by rw [fuC, if_neg h, if_neg (by simp [hb])]
theorem fuC_zero {us : List Up} (h : fuC us = 0) : us.length ≤ 5 ∧ upsB us = true := by
  unfold fuC at h
  split at h
  · cases h
  · split at h
    · exact ⟨by omega, by assumption⟩
    · cases h
/-- What JournalPlan answers. -/
def jpC (h seq : Int) (us : List Up) : Int := if 4096 < us.length then 2 else if inB h 0 3 = false then 4 else if numB seq = false then 4 else fuC us
theorem jpC_long {h seq : Int} {us : List Up} (h1 : 4096 < us.length) : jpC h seq us = 2 := if_pos h1
theorem jpC_host {h seq : Int} {us : List Up} (h1 : ¬ 4096 < us.length) (h2 : inB h 0 3 = false) : jpC h seq us = 4 := by rw [jpC, if_neg h1, if_pos h2]
theorem jpC_seq {h seq : Int} {us : List Up} (h1 : ¬ 4096 < us.length) (h2 : inB h 0 3 = true) (h3 : numB seq = false) : jpC h seq us = 4 := by rw [jpC, if_neg h1, if_neg (by simp [h2]), if_pos h3]
theorem jpC_list {h seq : Int} {us : List Up} (h1 : ¬ 4096 < us.length) (h2 : inB h 0 3 = true) (h3 : numB seq = true) : jpC h seq us = fuC us := by rw [jpC, if_neg h1, if_neg (by simp [h2]), if_neg (by simp [h3])]
def jpL (h seq : Int) (us : List Up) : List Wr := if jpC h seq us = 0 then plL (slN h) seq us else []
theorem jpL_no {h seq : Int} {us : List Up} (h1 : jpC h seq us ≠ 0) : jpL h seq us = [] := if_neg h1
theorem jpL_yes {h seq : Int} {us : List Up} (h1 : jpC h seq us = 0) : jpL h seq us = plL (slN h) seq us := if_pos h1
end Go.Proofs.Ytmkegkpnomcnhab

/- Plain: moves that are right, what they do to a disk, what MovesDo answers. -/
namespace Go.Proofs.Ytmkegkpnomcnhab
open Go.RowKit
set_option linter.unusedVariables false

def mvB (m : Wr) : Bool := if m.host = 1 then (inB m.at_ 0 63 && decide (m.data.size ≤ 80)) else (decide (m.host = 2) && (decide (m.at_ = 0) && decide (m.data.size = 0)))
def msB (ms : List Wr) : Bool := ms.all mvB
theorem msB_at {ms : List Wr} (h : msB ms = true) {k : Nat} (hk : k < ms.length) : mvB ms[k] = true := List.all_eq_true.1 h _ (List.getElem_mem hk)
theorem mvB_write {m : Wr} (h : mvB m = true) (hn : m.host ≠ 2) : (0 ≤ m.at_ ∧ m.at_ ≤ 63) ∧ m.data.size ≤ 80 := by
  unfold mvB at h
  split at h
  · simpa [inB] using h
  · simp [hn] at h
/-- What one move does. -/
def dm1 (h : Int) (st : List ByteArray × List Wr) (m : Wr) : List ByteArray × List Wr := if m.host = 2 then (putW st.1 (ofH h st.2), dropF h st.2) else (st.1, st.2 ++ [⟨h, m.at_, m.data⟩])
def dmL (h : Int) (ss : List ByteArray) (xs : List Wr) (ms : List Wr) : List ByteArray × List Wr := ms.foldl (dm1 h) (ss, xs)
theorem dmL_succ {h : Int} {ss : List ByteArray} {xs ms : List Wr} {k : Nat} (hk : k < ms.length) : dmL h ss xs (ms.take (k + 1)) = dm1 h (dmL h ss xs (ms.take k)) ms[k] := by
  unfold dmL
  rw [List.take_succ_eq_append_getElem hk, List.foldl_append]; rfl
theorem dm1_flush {h : Int} {S : List ByteArray} {X : List Wr} {m : Wr} (hm : m.host = 2) : dm1 h (S, X) m = (putW S (ofH h X), dropF h X) := if_pos hm
theorem dm1_write {h : Int} {S : List ByteArray} {X : List Wr} {m : Wr} (hm : m.host ≠ 2) : dm1 h (S, X) m = (S, X ++ [⟨h, m.at_, m.data⟩]) := if_neg hm
theorem dm1_right {h : Int} {S : List ByteArray} {X : List Wr} {m : Wr} (hh : 0 ≤ h ∧ h ≤ 3) (hd : diskB S X = true) (hl : X.length < 200) (hm : mvB m = true) : diskB (dm1 h (S, X) m).1 (dm1 h (S, X) m).2 = true ∧ (dm1 h (S, X) m).2.length ≤ X.length + 1 := by
  by_cases h2 : m.host = 2
  · rw [dm1_flush h2]
    exact ⟨diskB_put hd (fun x hx => of_mem hx) (fun x hx => drop_mem hx) (drop_le h X), by have := drop_le h X; show (dropF h X).length ≤ X.length + 1; omega⟩
  · rw [dm1_write h2]
    obtain ⟨p1, p2⟩ := mvB_write hm h2
    exact ⟨diskB_snoc hd hl (ioB_parts.2 ⟨hh, p1, p2⟩), by simp⟩
theorem dmL_right {h : Int} {ss : List ByteArray} {xs ms : List Wr} (hh : 0 ≤ h ∧ h ≤ 3) (hd : diskB ss xs = true) (hm : msB ms = true) (hl : xs.length + ms.length ≤ 200) : ∀ k, k ≤ ms.length → diskB (dmL h ss xs (ms.take k)).1 (dmL h ss xs (ms.take k)).2 = true ∧ (dmL h ss xs (ms.take k)).2.length ≤ xs.length + k := by
  intro k
  induction k with
  | zero => intro _; exact ⟨by simpa [dmL] using hd, by simp [dmL]⟩
  | succ k ih =>
    intro hk
    obtain ⟨i1, i2⟩ := ih (by omega)
    rw [dmL_succ (show k < ms.length by omega)]
    obtain ⟨r1, r2⟩ := dm1_right (S := (dmL h ss xs (ms.take k)).1) (X := (dmL h ss xs (ms.take k)).2) hh i1 (by omega) (msB_at hm (show k < ms.length by omega))
    exact ⟨r1, Nat.le_trans r2 (by omega)⟩
/-- What MovesDo answers. -/
def mdC (ss : List ByteArray) (xs : List Wr) (h : Int) (ms : List Wr) : Int := if 4096 < ms.length then 2 else if hostC ss xs h = 0 then (if msB ms = true then (if 200 < xs.length + ms.length then 7 else 0) else 1) else hostC ss xs h
def mdS (ss : List ByteArray) (xs : List Wr) (h : Int) (ms : List Wr) : List ByteArray := if mdC ss xs h ms = 0 then (dmL h ss xs ms).1 else if mdC ss xs h ms = 7 then ss else []
def mdX (ss : List ByteArray) (xs : List Wr) (h : Int) (ms : List Wr) : List Wr := if mdC ss xs h ms = 0 then (dmL h ss xs ms).2 else if mdC ss xs h ms = 7 then xs else []
theorem md_long {ss : List ByteArray} {xs : List Wr} {h : Int} {ms : List Wr} (h1 : 4096 < ms.length) : mdC ss xs h ms = 2 ∧ mdS ss xs h ms = [] ∧ mdX ss xs h ms = [] := by
  have e : mdC ss xs h ms = 2 := if_pos h1
  exact ⟨e, by simp [mdS, e], by simp [mdX, e]⟩
theorem hostC_cases (ss : List ByteArray) (xs : List Wr) (h : Int) : hostC ss xs h = 0 ∨ hostC ss xs h = 1 ∨ hostC ss xs h = 4 := by
  unfold hostC; split
  · split
    · exact .inl rfl
    · exact .inr (.inr rfl)
  · exact .inr (.inl rfl)
theorem md_host {ss : List ByteArray} {xs : List Wr} {h : Int} {ms : List Wr} (h1 : ¬ 4096 < ms.length) (h2 : hostC ss xs h ≠ 0) : mdC ss xs h ms = hostC ss xs h ∧ mdS ss xs h ms = [] ∧ mdX ss xs h ms = [] := by
  have e : mdC ss xs h ms = hostC ss xs h := by rw [mdC, if_neg h1, if_neg h2]
  have h7 : hostC ss xs h ≠ 7 := by rcases hostC_cases ss xs h with e | e | e <;> rw [e] <;> decide
  exact ⟨e, by simp [mdS, e, h2, h7], by simp [mdX, e, h2, h7]⟩
theorem md_bad {ss : List ByteArray} {xs : List Wr} {h : Int} {ms : List Wr} (h1 : ¬ 4096 < ms.length) (h2 : hostC ss xs h = 0) (h3 : msB ms = false) : mdC ss xs h ms = 1 ∧ mdS ss xs h ms = [] ∧ mdX ss xs h ms = [] := by
  have e : mdC ss xs h ms = 1 := by rw [mdC, if_neg h1, if_pos h2, if_neg (by simp [h3])]
  exact ⟨e, by simp [mdS, e], by simp [mdX, e]⟩
theorem md_full {ss : List ByteArray} {xs : List Wr} {h : Int} {ms : List Wr} (h1 : ¬ 4096 < ms.length) (h2 : hostC ss xs h = 0) (h3 : msB ms = true) (h4 : 200 < xs.length + ms.length) : mdC ss xs h ms = 7 ∧ mdS ss xs h ms = ss ∧ mdX ss xs h ms = xs := by
  have e : mdC ss xs h ms = 7 := by rw [mdC, if_neg h1, if_pos h2, if_pos h3, if_pos h4]
  exact ⟨e, by simp [mdS, e], by simp [mdX, e]⟩
theorem md_ok {ss : List ByteArray} {xs : List Wr} {h : Int} {ms : List Wr} (h1 : ¬ 4096 < ms.length) (h2 : hostC ss xs h = 0) (h3 : msB ms = true) (h4 : ¬ 200 < xs.length + ms.length) : mdC ss xs h ms = 0 ∧ mdS ss xs h ms = (dmL h ss xs ms).1 ∧ mdX ss xs h ms = (dmL h ss xs ms).2 := by
  have e : mdC ss xs h ms = 0 := by rw [mdC, if_neg h1, if_pos h2, if_pos h3, if_neg h4]
  exact ⟨e, by simp [mdS, e], by simp [mdX, e]⟩
/-- What MovesDo answers is no greater than what it was given. -/
theorem md_right {ss : List ByteArray} {xs : List Wr} {h : Int} {ms : List Wr} (hs : ∀ s ∈ ss, s.size ≤ maxLen) (hx : ∀ x ∈ xs, x.data.size ≤ maxLen) : (∀ s ∈ mdS ss xs h ms, s.size ≤ maxLen) ∧ (∀ x ∈ mdX ss xs h ms, x.data.size ≤ maxLen) ∧ (mdS ss xs h ms).length ≤ max ss.length 64 ∧ (mdX ss xs h ms).length ≤ max xs.length 200 := by
  by_cases h1 : 4096 < ms.length
  · obtain ⟨_, e1, e2⟩ := md_long (ss := ss) (xs := xs) (h := h) h1
    rw [e1, e2]; exact ⟨fun _ h => (by cases h), fun _ h => (by cases h), by simp, by simp⟩
  by_cases h2 : hostC ss xs h = 0
  case neg =>
    obtain ⟨_, e1, e2⟩ := md_host (ms := ms) h1 h2
    rw [e1, e2]; exact ⟨fun _ h => (by cases h), fun _ h => (by cases h), by simp, by simp⟩
  by_cases h3 : msB ms = true
  case neg =>
    rw [Bool.not_eq_true] at h3
    obtain ⟨_, e1, e2⟩ := md_bad (ss := ss) (xs := xs) h1 h2 h3
    rw [e1, e2]; exact ⟨fun _ h => (by cases h), fun _ h => (by cases h), by simp, by simp⟩
  by_cases h4 : 200 < xs.length + ms.length
  · obtain ⟨_, e1, e2⟩ := md_full h1 h2 h3 h4
    rw [e1, e2]; exact ⟨hs, hx, Nat.le_max_left _ _, Nat.le_max_left _ _⟩
  · obtain ⟨_, e1, e2⟩ := md_ok h1 h2 h3 h4
    obtain ⟨hd, h0, h5⟩ := hostC_eq h2
    obtain ⟨r1, r2⟩ := dmL_right (ms := ms) ⟨h0, h5⟩ hd h3 (by omega) ms.length (Nat.le_refl _)
    rw [List.take_of_length_le (Nat.le_refl _)] at r1 r2
    obtain ⟨⟨q1, q2⟩, q3, q4⟩ := diskB_parts.1 r1
    rw [e1, e2]
    refine ⟨fun s h => (by have := q2 s h; unfold maxLen; omega), fun x h => (by have := (ioB_parts.1 (q4 x h)).2.2; unfold maxLen; omega), by rw [q1]; exact Nat.le_max_right _ _, Nat.le_trans q3 (Nat.le_max_right _ _)⟩
/-- A row's texts lie apart from a variable that holds a disk. -/
theorem cell_apart {w : World} {x b j : Nat} {u v c : Value} (hv : VarD w x u v) (h : w.cell? ⟨b, j, none⟩ = some c) (h1 : c ≠ u) (h2 : c ≠ v) : b ≠ x := by
  rintro rfl
  rw [Joins.cell_of_block hv] at h
  match j, h with
  | 0, h => simp at h; exact h1 h.symm
  | 1, h => simp at h; exact h2 h.symm
  | j + 2, h => simp at h
theorem Ss.setX {w : World} {x : Nat} {po qo ao : Option Addr} {n pa m qa : Nat} {ss : List ByteArray} (h : Ss w ao ss) (hv : VarD w x (.slice po n pa) (.slice qo m qa)) (i : Nat) (v : Value) : Ss (w.setCell ⟨x, i, none⟩ v) ao ss := fun j hj => by
  obtain ⟨b, off, e, hc, hz⟩ := h j hj
  have hne : b ≠ x := cell_apart hv hc (by simp) (by simp)
  exact ⟨b, off, e, (World.cell?_of_block (w := w) (Below.heap_setCell w ⟨x, i, none⟩ v b hne)).trans hc, hz⟩
theorem Ios.setX {w : World} {x : Nat} {po qo ao : Option Addr} {n pa m qa : Nat} {xs : List Wr} (h : Ios w ao xs) (hv : VarD w x (.slice po n pa) (.slice qo m qa)) (i : Nat) (v : Value) : Ios (w.setCell ⟨x, i, none⟩ v) ao xs := fun j hj => by
  obtain ⟨b, off, e, h0, h1, h2, hz⟩ := h j hj
  have hne : b ≠ x := cell_apart hv h0 (by simp) (by simp)
  have hb := Below.heap_setCell w ⟨x, i, none⟩ v b hne
  exact ⟨b, off, e, (World.cell?_of_block (w := w) hb).trans h0, (World.cell?_of_block (w := w) hb).trans h1, (World.cell?_of_block (w := w) hb).trans h2, hz⟩
theorem right_sz2 {S : List ByteArray} {X : List Wr} (hd : diskB S X = true) : (∀ s ∈ S, s.size ≤ maxLen) ∧ ∀ x ∈ X, x.data.size ≤ maxLen := by
  obtain ⟨⟨_, q2⟩, _, q4⟩ := diskB_parts.1 hd
  exact ⟨fun s h => (by have := q2 s h; unfold maxLen; omega), fun x h => (by have := (ioB_parts.1 (q4 x h)).2.2; unfold maxLen; omega)⟩
theorem VarD.put {w : World} {x : Nat} {a b : Value} (h : VarD w x a b) (u v : Value) : VarD ((w.setCell ⟨x, 0, none⟩ u).setCell ⟨x, 1, none⟩ v) x u v := Joins.block_setCell (i := 1) (Joins.block_setCell (i := 0) h u) v
theorem VarD.apart {w : World} {x y : Nat} {a b : Value} (h : VarD w x a b) (hne : x ≠ y) (i : Nat) (u : Value) : VarD (w.setCell ⟨y, i, none⟩ u) x a b := by
  unfold VarD; rw [Below.heap_setCell w ⟨y, i, none⟩ u x hne]; exact h
/-- A disk in a variable, as a call shows it. -/
structure DkA (w W : World) (x : Nat) (po : Option Addr) (pa : Nat) (qo : Option Addr) (qa : Nat) (SS : List ByteArray) (XX : List Wr) : Prop where
  v : VarD W x (.slice po SS.length pa) (.slice qo XX.length qa)
  s : Ss W po SS
  i : Ios W qo XX
  k : Below w.heap.size w W
theorem DkA.next {w W W' : World} {x pa qa : Nat} {po qo : Option Addr} {SS : List ByteArray} {XX : List Wr} (h : DkA w W x po pa qo qa SS XX) (hb : Below W.heap.size W W') : DkA w W' x po pa qo qa SS XX := ⟨h.v.below hb, h.s.below hb, h.i.below hb, fr h.k hb⟩
theorem DkA.put {w W : World} {x pa qa pa' qa' n m : Nat} {po qo po' qo' : Option Addr} {SS SS' : List ByteArray} {XX XX' : List Wr} (h : DkA w W x po pa qo qa SS XX) (hx : w.heap.size ≤ x) (hn : n = SS'.length) (hm : m = XX'.length) (h1 : Ss W po' SS') (h2 : Ios W qo' XX') :
    DkA w ((W.setCell ⟨x, 0, none⟩ (.slice po' n pa')).setCell ⟨x, 1, none⟩ (.slice qo' m qa')) x po' pa' qo' qa' SS' XX' := by
  subst hn hm
  have hv0 : VarD (W.setCell ⟨x, 0, none⟩ (.slice po' SS'.length pa')) x (.slice po' SS'.length pa') (.slice qo XX.length qa) := Joins.block_setCell (i := 0) h.v _
  exact ⟨h.v.put _ _, (h1.setX h.v 0 _).setX hv0 1 _, (h2.setX h.v 0 _).setX hv0 1 _, below2 h.k hx 0 1 _ _⟩
end Go.Proofs.Ytmkegkpnomcnhab

/- Contract of spec.l01Write: the disk with one write more, whose row of writes is new. -/
namespace Go.Proofs.Ytmkegkpnomcnhab
open Go.RowKit
set_option linter.unusedVariables false

theorem write_end {w wL : World} {g k cap : Nat} {cs : List Value} (ho : wL.ownsRow (w.heap.size + 1 + 1 + 1) 68 3 (.slice (some ⟨g, 0, none⟩) k cap) k cs) (hb : Below w.heap.size w wL) (a b c : Value) :
    (((wL.setCell ⟨w.heap.size, 1, none⟩ a).setCell ⟨w.heap.size + 1 + 1, 0, none⟩ b).setCell ⟨w.heap.size + 1 + 1, 1, none⟩ c).ownsRow w.heap.size 68 3 (.slice (some ⟨g, 0, none⟩) k cap) k cs ∧ Below w.heap.size w (((wL.setCell ⟨w.heap.size, 1, none⟩ a).setCell ⟨w.heap.size + 1 + 1, 0, none⟩ b).setCell ⟨w.heap.size + 1 + 1, 1, none⟩ c) :=
  ⟨own_base (ownsRow_setCell_below (ownsRow_setCell_below (ownsRow_setCell_below ho (a := ⟨w.heap.size, 1, none⟩) (by simp; omega) a) (a := ⟨w.heap.size + 1 + 1, 0, none⟩) (by simp) b) (a := ⟨w.heap.size + 1 + 1, 1, none⟩) (by simp) c) (by omega),
    ((hb.setCell (p := ⟨w.heap.size, 1, none⟩) (by simp) a).setCell (p := ⟨w.heap.size + 1 + 1, 0, none⟩) (by simp; omega) b).setCell (p := ⟨w.heap.size + 1 + 1, 1, none⟩) (by simp; omega) c⟩


set_option maxRecDepth 100000 in
set_option maxHeartbeats 6400000 in
theorem l01Write_any (ao bo : Option Addr) (n ca cb : Nat) (xs : List Wr) (x : Wr) (w : World) (hm : xs.length ≤ 1048576) (h2 : Ios w bo xs) :
    Calls Try.prog 36 #[.agg #[.slice ao n ca, .slice bo xs.length cb], .agg #[.int .i64 x.host, .int .i64 x.at_, .string x.data]] w fun e w' => ∃ g cap, e = .returned (.agg #[.slice ao n ca, .slice (some ⟨g, 0, none⟩) (xs.length + 1) cap]) ∧ w'.ownsRow w.heap.size 68 3 (.slice (some ⟨g, 0, none⟩) (xs.length + 1) cap) (xs.length + 1) (ioV (xs ++ [x])) ∧ Below w.heap.size w w' := by
  have HA := hide (Joins.below_alloc3 w (.cells #[.slice ao n ca, .slice bo xs.length cb] 29) (.cells #[.int .i64 x.host, .int .i64 x.at_, .string x.data] 68) (.cells #[.slice none 0 0, .slice none 0 0] 29))
  have HX := hide (h2.below (unhide HA))
  have HV := hide ((VarD.new w (.slice ao n ca) (.slice bo xs.length cb)).below (Joins.below_alloc2 _ (.cells #[.int .i64 x.host, .int .i64 x.at_, .string x.data] 68) (.cells #[.slice none 0 0, .slice none 0 0] 29)))
  have HR : Hid (VarD (((w.alloc (.cells #[.slice ao n ca, .slice bo xs.length cb] 29)).alloc (.cells #[.int .i64 x.host, .int .i64 x.at_, .string x.data] 68)).alloc (.cells #[.slice none 0 0, .slice none 0 0] 29)) (w.heap.size + 1 + 1) (.slice none 0 0) (.slice none 0 0)) := hide (by have := VarD.new ((w.alloc (.cells #[.slice ao n ca, .slice bo xs.length cb] 29)).alloc (.cells #[.int .i64 x.host, .int .i64 x.at_, .string x.data] 68)) (.slice none 0 0) (.slice none 0 0); simp only [World.size_alloc] at this; exact this)
  have HI : Hid (VarI (((w.alloc (.cells #[.slice ao n ca, .slice bo xs.length cb] 29)).alloc (.cells #[.int .i64 x.host, .int .i64 x.at_, .string x.data] 68)).alloc (.cells #[.slice none 0 0, .slice none 0 0] 29)) (w.heap.size + 1) x) := hide (VarI.below (by have := VarI.new (w.alloc (.cells #[.slice ao n ca, .slice bo xs.length cb] 29)) x; simp only [World.size_alloc] at this; exact this) (Joins.below_alloc1 _ _))
  clear h2
  obtain ⟨j0, hj, hy0, hy1, hy2⟩ := info_parts infoW
  go_enter Try.func36, Try.ntmps36
  go_wp2
  go_region_law
    (first
      | (refine (step_append_fresh ?_ (.tmp 5) (.tmp 7) 27 ?_ 68 j0 (.agg #[.int .i64 0, .int .i64 0, .string ⟨#[]⟩]) 3 32 Try.underlying27 hj hy0 hy1 hy2 ?_ ?_ ?_ bo xs.length cb (ioV xs) ?_ ?_ ?_ ?_ ?_ ?_)
         · rfl
         · rfl
         · rfl
         · omega
         · rfl
         · rfl
         · rw [ioV_length]
         · refine Ios.src ((unhide HX).below ?_)
           repeat (first | exact Below.refl _ _ | exact hbA | refine Below.drew ?_ | refine belowAl ?_ _)
         · unfold maxLen; omega
         · omega
         intro qo qa wA hoA hgA
         have hbA : Below (((w.alloc (.cells #[.slice ao n ca, .slice bo xs.length cb] 29)).alloc (.cells #[.int .i64 x.host, .int .i64 x.at_, .string x.data] 68)).alloc (.cells #[.slice none 0 0, .slice none 0 0] 29)).heap.size (((w.alloc (.cells #[.slice ao n ca, .slice bo xs.length cb] 29)).alloc (.cells #[.int .i64 x.host, .int .i64 x.at_, .string x.data] 68)).alloc (.cells #[.slice none 0 0, .slice none 0 0] 29)) wA := belowGr (by repeat (first | exact Below.refl _ _ | exact hbA | refine Below.drew ?_ | refine belowAl ?_ _)) hgA
         obtain ⟨hA0, hA1⟩ := ((unhide HV).below hbA).cells
         obtain ⟨hA2, hA3, hA4⟩ := ((unhide HI).below hbA).cells)
      | (refine (step_append_at ?_ (.tmp 8) (.tmp 10) 27 ?_ (w.heap.size + 1 + 1 + 1) 68 j0 (.agg #[.int .i64 0, .int .i64 0, .string ⟨#[]⟩]) 3 32 Try.underlying27 hj hy0 hy1 hy2 ?_ ?_ qo xs.length qa (ioV xs) ?_ ?_ ?_ (wrV x) ?_ ?_ ?_ ?_ ?_ ?_)
         · rfl
         · rfl
         · rfl
         · omega
         · rfl
         · refine OwnR.base (OwnR.below hoA ?_) ?_
           · repeat (first | exact Below.refl _ _ | refine Below.drew ?_ | refine belowAl ?_ _)
           · first | omega | (simp <;> omega)
         · have := hbA.size
           simp at this ⊢
           omega
         · refine ⟨_, _, rfl, VarI.news ?_⟩
           first | exact VarI.new _ _ | (refine VarI.grown ?_ hgA; refine VarI.drew ?_; refine VarI.top ?_; simp) | (refine VarI.grown ?_ hgA; refine VarI.drew ?_; refine VarI.under ?_ _; refine VarI.top ?_; simp)
         · rfl
         · exact wrV_one x
         · unfold maxLen; omega
         · omega
         intro g cap wB hoB hkB
         have hkA := hkB
         have hbB : Below (((w.alloc (.cells #[.slice ao n ca, .slice bo xs.length cb] 29)).alloc (.cells #[.int .i64 x.host, .int .i64 x.at_, .string x.data] 68)).alloc (.cells #[.slice none 0 0, .slice none 0 0] 29)).heap.size (((w.alloc (.cells #[.slice ao n ca, .slice bo xs.length cb] 29)).alloc (.cells #[.int .i64 x.host, .int .i64 x.at_, .string x.data] 68)).alloc (.cells #[.slice none 0 0, .slice none 0 0] 29)) wB := belowKp (by repeat (first | exact hbA | refine Below.drew ?_ | refine belowAl ?_ _)) hkB (fun j hj => Nat.le_trans (by first | (simp; done) | (simp; omega)) (hoA.ge j hj).1)
         obtain ⟨hB0, hB1⟩ := ((unhide HV).below hbB).cells
         have hB6 := ((unhide HV).below hbB).free 1
         obtain ⟨hB2, hB3⟩ := ((unhide HR).below hbB).cells
         have hB4 := ((unhide HR).below hbB).free 0
         have hB5 := ((unhide HR).below hbB).free 1
         obtain ⟨hB7, hB8, hB9⟩ := ((unhide HI).below hbB).cells))
  all_goals
    have HL := hide (write_end (w := w) (wL := wB) hoB (fr (unhide HA) hbB) (.slice (some ⟨g, 0, none⟩) (xs.length + 1) cap) (.slice ao n ca) (.slice (some ⟨g, 0, none⟩) (xs.length + 1) cap))
    clear hoA hoB hgA hkA hkB hbA hbB hA0 hA1 hA2 hA3 hA4 hB7 hB8 hB9
    go_wp2
    exact bodyPost_ret (v := .agg #[.slice ao n ca, .slice (some ⟨g, 0, none⟩) (xs.length + 1) cap]) (by simp [results, Try.results36, go_sem, hB2, hB3]) rfl ⟨_, _, rfl, by rw [ioV_snoc]; exact (unhide HL).1, (unhide HL).2⟩

theorem l01Write_hd (ao bo : Option Addr) (n ca cb : Nat) (xs : List Wr) (h a : Int) (d : ByteArray) (w : World) (hm : xs.length ≤ 1048576) (h2 : Ios w bo xs) :
    Calls Try.prog 36 #[.agg #[.slice ao n ca, .slice bo xs.length cb], .agg #[.int .i64 h, .int .i64 a, .string d]] w fun e w' => ∃ g cap, e = .returned (.agg #[.slice ao n ca, .slice (some ⟨g, 0, none⟩) (xs.length + 1) cap]) ∧ w'.ownsRow w.heap.size 68 3 (.slice (some ⟨g, 0, none⟩) (xs.length + 1) cap) (xs.length + 1) (ioV (xs ++ [⟨h, a, d⟩])) ∧ Below w.heap.size w w' :=
  l01Write_any ao bo n ca cb xs ⟨h, a, d⟩ w hm h2

end Go.Proofs.Ytmkegkpnomcnhab

/- Contracts of impl.seenBy, impl.ReadSector. -/
namespace Go.Proofs.Ytmkegkpnomcnhab
open Go.RowKit
set_option linter.unusedVariables false
set_option maxRecDepth 100000

theorem ret_rs {a b : ByteArray} (h : a = b) : Ending.returned (.string a) = .returned (.string b) := by rw [h]
theorem ret_rd {a b : ByteArray} {c d : Int} (h : a = b) (k : c = d) : Ending.returned (.tuple #[.string a, .int .i64 c]) = .returned (.tuple #[.string b, .int .i64 d]) := by rw [h, k]
theorem no_succ {xs : List Wr} {h a : Int} {k : Nat} (hk : k < xs.length) (hn : ∀ j (hj : j < xs.length), (k : Int) < j → ¬ mat xs[j] h a) (hx : ¬ mat xs[k] h a) : ∀ j (hj : j < xs.length), (k : Int) - 1 < j → ¬ mat xs[j] h a := by
  intro j hj hlt
  by_cases e : j = k
  · subst e; exact hx
  · exact hn j hj (by omega)

end Go.Proofs.Ytmkegkpnomcnhab

/- Contracts of ReadSector, of the program and of its model. -/
namespace Go.Proofs.Ytmkegkpnomcnhab
open Go.RowKit
set_option linter.unusedVariables false
set_option maxRecDepth 100000

end Go.Proofs.Ytmkegkpnomcnhab
