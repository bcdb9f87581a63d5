import Derived.Test.YtboolfckaagfoabPart1
import Derived.Test.YtboolfckaagfoabPart6
import Derived.Test.YtboolfckaagfoabPart7
import Derived.Test.YtboolfckaagfoabPart4
import Derived.WalkKit
import Derived.OwnWalk
import Derived.Deep.RegionLawGrows
import Derived.Test.YtboolfckaagfoabPart2
import Derived.Test.YtboolfckaagfoabRows
import Derived.Test.YtboolfckaagfoabPart3
import Derived.WalkSpells

/- Plain: what landing and losing leave of a disk, written out. -/
namespace Go.Proofs.Ytboolfckaagfoab
set_option linter.unusedVariables false

/-- A host's writes; sectors behind writes; what is left of writes without a host's first ones. -/
def ofH (h : Int) (xs : List Wr) : List Wr := xs.filter fun x => x.host == h
def putW (ss : List ByteArray) (fs : List Wr) : List ByteArray := fs.foldl (fun s x => s.set x.at_.toNat x.data) ss
def remH (h : Int) : Nat → List Wr → List Wr
  | _, [] => []
  | 0, x :: xs => x :: remH h 0 xs
  | n + 1, x :: xs => if x.host = h then remH h n xs else x :: remH h (n + 1) xs

theorem remH_zero (h : Int) : ∀ xs : List Wr, remH h 0 xs = xs
  | [] => rfl
  | x :: xs => by rw [remH, remH_zero h xs]
theorem ofH_cons_hit {h : Int} {x : Wr} (xs : List Wr) (hx : x.host = h) : ofH h (x :: xs) = x :: ofH h xs := by simp [ofH, hx]
theorem ofH_cons_miss {h : Int} {x : Wr} (xs : List Wr) (hx : ¬ x.host = h) : ofH h (x :: xs) = ofH h xs := by simp [ofH, hx]
theorem remH_hit {h : Int} {x : Wr} (n : Nat) (xs : List Wr) (hx : x.host = h) : remH h (n + 1) (x :: xs) = remH h n xs := by rw [remH, if_pos hx]
theorem remH_miss {h : Int} {x : Wr} (n : Nat) (xs : List Wr) (hx : ¬ x.host = h) : remH h n (x :: xs) = x :: remH h n xs := by
  cases n with
  | zero => rw [remH]
  | succ n => rw [remH, if_neg hx]

theorem fold_land (h : Int) : ∀ (xs : List Wr) (SS : List ByteArray) (LX : List Wr) (n : Nat),
    xs.foldl (stepF h false) (SS, LX, (n : Int)) = (putW SS ((ofH h xs).take n), LX ++ remH h n xs, ((n - (ofH h xs).length : Nat) : Int))
  | [], SS, LX, n => by simp [ofH, putW, remH]
  | x :: xs, SS, LX, n => by
    rw [List.foldl_cons]
    by_cases hx : x.host = h
    · cases n with
      | zero =>
        rw [step_keep hx SS LX (by simp), show ((0 : Nat) : Int) = ((0 : Nat) : Int) from rfl, fold_land h xs, remH_zero, remH_zero]
        simp [putW]
      | succ n =>
        rw [step_land hx SS LX (by omega), show ((n + 1 : Nat) : Int) - 1 = (n : Int) by omega, fold_land h xs, ofH_cons_hit xs hx, remH_hit n xs hx]
        rw [List.take_succ_cons, List.length_cons, show n + 1 - ((ofH h xs).length + 1) = n - (ofH h xs).length by omega]
        rfl
    · rw [step_other hx, fold_land h xs, ofH_cons_miss xs hx, remH_miss n xs hx]
      simp
theorem landF_put (h : Int) (ss : List ByteArray) (xs : List Wr) (n : Nat) : (landF h false ss xs (n : Int)).1 = putW ss ((ofH h xs).take n) ∧ (landF h false ss xs (n : Int)).2.1 = remH h n xs := by
  unfold landF
  rw [fold_land]
  exact ⟨rfl, by simp⟩

theorem cntW_of (xs : List Wr) (h : Int) : cntW xs h = (ofH h xs).length := rfl
theorem drop_rem (h : Int) : ∀ (n : Nat) (xs : List Wr), dropF h (remH h n xs) = dropF h xs
  | _, [] => by cases ‹Nat› <;> rfl
  | 0, x :: xs => by rw [remH_zero]
  | n + 1, x :: xs => by
    by_cases hx : x.host = h
    · rw [remH_hit n xs hx, drop_rem h n xs]; simp [dropF, hx]
    · rw [remH_miss _ xs hx]
      have := drop_rem h (n + 1) xs
      simp only [dropF, List.filter_cons] at this ⊢
      simp [hx, this]
theorem of_rem (h : Int) : ∀ (n : Nat) (xs : List Wr), ofH h (remH h n xs) = (ofH h xs).drop n
  | _, [] => by cases ‹Nat› <;> simp [remH, ofH]
  | 0, x :: xs => by rw [remH_zero]; rfl
  | n + 1, x :: xs => by
    by_cases hx : x.host = h
    · rw [remH_hit n xs hx, of_rem h n xs, ofH_cons_hit xs hx]; rfl
    · rw [remH_miss _ xs hx, ofH_cons_miss _ hx, ofH_cons_miss _ hx, of_rem h (n + 1) xs]
theorem rem_rem (h : Int) : ∀ (n : Nat) (xs : List Wr), remH h 1 (remH h n xs) = remH h (n + 1) xs
  | _, [] => by cases ‹Nat› <;> rfl
  | 0, x :: xs => by rw [remH_zero]
  | n + 1, x :: xs => by
    by_cases hx : x.host = h
    · rw [remH_hit n xs hx, rem_rem h n xs, remH_hit (n + 1) xs hx]
    · rw [remH_miss _ xs hx, remH_miss _ _ hx, rem_rem h (n + 1) xs, remH_miss _ xs hx]
theorem rem_none {h : Int} : ∀ (n : Nat) {xs : List Wr}, ofH h xs = [] → remH h n xs = xs
  | _, [], _ => by cases ‹Nat› <;> rfl
  | n, x :: xs, e => by
    have hx : ¬ x.host = h := fun hx => by rw [ofH_cons_hit xs hx] at e; cases e
    rw [ofH_cons_miss xs hx] at e
    rw [remH_miss n xs hx, rem_none n e]
theorem rem_all {h : Int} : ∀ (n : Nat) (xs : List Wr), (ofH h xs).length ≤ n → remH h n xs = dropF h xs
  | _, [], _ => by cases ‹Nat› <;> rfl
  | n, x :: xs, e => by
    by_cases hx : x.host = h
    · rw [ofH_cons_hit xs hx] at e
      cases n with
      | zero => simp at e
      | succ n =>
        rw [remH_hit n xs hx, rem_all n xs (by simpa using e)]; simp [dropF, hx]
    · rw [ofH_cons_miss xs hx] at e
      rw [remH_miss n xs hx, rem_all n xs e]; simp [dropF, hx]
theorem of_drop (h : Int) (xs : List Wr) : ofH h (dropF h xs) = [] := by
  simp [ofH, dropF, List.filter_filter]
theorem drop_len (h : Int) : ∀ xs : List Wr, (dropF h xs).length + (ofH h xs).length = xs.length
  | [] => rfl
  | x :: xs => by
    have := drop_len h xs
    by_cases hx : x.host = h
    · rw [ofH_cons_hit xs hx]; simp only [dropF, List.filter_cons] at this ⊢; simp [hx]; omega
    · rw [ofH_cons_miss xs hx]; simp only [dropF, List.filter_cons] at this ⊢; simp [hx]; omega

/-- Losing a host: the first writes are sure, the others gone. -/
theorem landF_gone (h : Int) (ss : List ByteArray) (xs : List Wr) (n : Nat) : (landF h true ss xs (n : Int)).1 = putW ss ((ofH h xs).take n) ∧ (landF h true ss xs (n : Int)).2.1 = dropF h xs := by
  obtain ⟨e1, e2⟩ := landF_lost h (n : Int) ss xs
  obtain ⟨p1, p2⟩ := landF_put h ss xs n
  rw [e1, e2, p1, p2, drop_rem]
  exact ⟨rfl, rfl⟩
theorem put_snoc (ss : List ByteArray) (fs : List Wr) (x : Wr) : putW ss (fs ++ [x]) = (putW ss fs).set x.at_.toNat x.data := by simp [putW]
theorem put_len (ss : List ByteArray) : ∀ fs : List Wr, (putW ss fs).length = ss.length := fun fs => by
  induction fs generalizing ss with
  | nil => rfl
  | cons x fs ih => simp only [putW, List.foldl_cons] at ih ⊢; rw [ih]; simp
theorem put_more (ss : List ByteArray) (fs : List Wr) (n : Nat) : putW (putW ss (fs.take n)) ((fs.drop n).take 1) = putW ss (fs.take (n + 1)) := by
  rw [List.take_add]
  simp [putW]

theorem diskB_parts {ss : List ByteArray} {xs : List Wr} : diskB ss xs = true ↔ (ss.length = 64 ∧ ∀ s ∈ ss, s.size ≤ 80) ∧ xs.length ≤ 200 ∧ ∀ x ∈ xs, ioB x = true := by
  simp only [diskB, secB, penB, Bool.and_eq_true, decide_eq_true_eq, List.all_eq_true]
theorem ioB_parts {x : Wr} : ioB x = true ↔ (0 ≤ x.host ∧ x.host ≤ 3) ∧ (0 ≤ x.at_ ∧ x.at_ ≤ 63) ∧ x.data.size ≤ 80 := by
  simp only [ioB, Bool.and_eq_true, decide_eq_true_eq]
  omega
theorem put_mem {P : ByteArray → Prop} : ∀ (fs : List Wr) (ss : List ByteArray), (∀ s ∈ ss, P s) → (∀ x ∈ fs, P x.data) → ∀ s ∈ putW ss fs, P s
  | [], ss, h1, _ => h1
  | x :: fs, ss, h1, h2 => by
    have := put_mem fs (ss.set x.at_.toNat x.data) (fun s hs => by
      rcases List.mem_or_eq_of_mem_set hs with h | h
      · exact h1 s h
      · rw [h]; exact h2 x (List.mem_cons_self ..)) (fun y hy => h2 y (List.mem_cons_of_mem _ hy))
    simpa [putW] using this
theorem of_mem {h : Int} {xs : List Wr} {x : Wr} (hx : x ∈ ofH h xs) : x ∈ xs := (List.mem_filter.1 hx).1
theorem drop_mem {h : Int} {xs : List Wr} {x : Wr} (hx : x ∈ dropF h xs) : x ∈ xs := (List.mem_filter.1 hx).1
theorem rem_mem {h : Int} : ∀ (n : Nat) {xs : List Wr} {x : Wr}, x ∈ remH h n xs → x ∈ xs
  | n, [], x, hx => by cases n <;> exact hx
  | 0, y :: ys, x, hx => by rwa [remH_zero] at hx
  | n + 1, y :: ys, x, hx => by
    by_cases hy : y.host = h
    · rw [remH_hit n ys hy] at hx; exact List.mem_cons_of_mem _ (rem_mem n hx)
    · rw [remH_miss _ ys hy] at hx
      rcases List.mem_cons.1 hx with rfl | hx
      · exact List.mem_cons_self ..
      · exact List.mem_cons_of_mem _ (rem_mem (n + 1) hx)
theorem rem_len {h : Int} (n : Nat) (xs : List Wr) : (remH h n xs).length ≤ xs.length := by
  induction xs generalizing n with
  | nil => cases n <;> exact Nat.le_refl _
  | cons x xs ih =>
    cases n with
    | zero => rw [remH_zero]; exact Nat.le_refl _
    | succ n =>
      by_cases hx : x.host = h
      · rw [remH_hit n xs hx]; have := ih n; simp; omega
      · rw [remH_miss _ xs hx]; have := ih (n + 1); simp; omega
/-- A right disk stays right where writes land, or are gone. -/
theorem diskB_put {ss : List ByteArray} {xs ys fs : List Wr} (hd : diskB ss xs = true) (hf : ∀ x ∈ fs, x ∈ xs) (hy : ∀ x ∈ ys, x ∈ xs) (hl : ys.length ≤ xs.length) : diskB (putW ss fs) ys = true := by
  obtain ⟨⟨a1, a2⟩, a3, a4⟩ := diskB_parts.1 hd
  refine diskB_parts.2 ⟨⟨by rw [put_len]; exact a1, put_mem fs ss a2 (fun x hx => (ioB_parts.1 (a4 x (hf x hx))).2.2)⟩, by omega, fun x hx => a4 x (hy x hx)⟩
theorem diskB_snoc {ss : List ByteArray} {xs : List Wr} {x : Wr} (hd : diskB ss xs = true) (hl : xs.length < 200) (hx : ioB x = true) : diskB ss (xs ++ [x]) = true := by
  obtain ⟨⟨a1, a2⟩, a3, a4⟩ := diskB_parts.1 hd
  refine diskB_parts.2 ⟨⟨a1, a2⟩, by simp; omega, fun y hy => ?_⟩
  rcases List.mem_append.1 hy with h | h
  · exact a4 y h
  · simp at h; subst h; exact hx
theorem drop_le (h : Int) (xs : List Wr) : (dropF h xs).length ≤ xs.length := by have := drop_len h xs; omega
theorem askC_right {ss : List ByteArray} {xs : List Wr} {h a : Int} (hd : diskB ss xs = true) (h0 : 0 ≤ h) (h1 : h ≤ 3) (a0 : 0 ≤ a) (a1 : a ≤ 63) : hostC ss xs h = 0 ∧ askC ss xs h a = 0 := by
  have e := hostC_ok (h := h) hd (by simp [inB]; omega)
  exact ⟨e, askC_ok e (by simp [inB]; omega)⟩

/-- What a host reads behind its own write, and what another one reads. -/
theorem read_own {ss : List ByteArray} {xs : List Wr} {h a : Int} {t : ByteArray} : readV ss (xs ++ [⟨h, a, t⟩]) h a = t := by
  have hk : xs.length < (xs ++ [(⟨h, a, t⟩ : Wr)]).length := by simp
  rw [readV_hit (k := xs.length) hk (by simp) (fun j hj hlt => by simp at hj; omega)]
  simp
theorem read_sure {ss : List ByteArray} {xs : List Wr} {h a : Int} (hn : ofH h xs = []) : readV ss xs h a = ss.getD a.toNat ⟨#[]⟩ := by
  refine readV_none fun j hj hm => ?_
  have : xs[j] ∈ ofH h xs := List.mem_filter.2 ⟨List.getElem_mem hj, by simp [hm.1]⟩
  rw [hn] at this
  cases this
theorem read_other {ss : List ByteArray} {xs : List Wr} {h o a b : Int} {t : ByteArray} (ho : o ≠ h) : readV ss (xs ++ [⟨h, a, t⟩]) o b = readV ss xs o b := by
  by_cases e : ∃ k, IsLast xs o b k
  · obtain ⟨k, ⟨hk, hm⟩, hn⟩ := e
    have hk' : k < (xs ++ [(⟨h, a, t⟩ : Wr)]).length := by simp; omega
    have hg : (xs ++ [(⟨h, a, t⟩ : Wr)])[k] = xs[k] := List.getElem_append_left hk
    rw [readV_hit hk hm hn, readV_hit hk' (by rw [hg]; exact hm) (fun j hj hlt => ?_), hg]
    by_cases hj' : j < xs.length
    · rw [List.getElem_append_left hj']; exact hn j hj' hlt
    · have : j = xs.length := by simp at hj; omega
      subst this
      simp only [mat]
      rw [List.getElem_append_right (Nat.le_refl _)]
      simp
      intro e2
      exact absurd e2.symm ho
  · have hn : ∀ j (hj : j < xs.length), ¬ mat xs[j] o b := by
      intro j hj hm
      -- the greatest such place
      have : ∀ d j, (hj : j < xs.length) → xs.length - j = d → mat xs[j] o b → ∃ k, IsLast xs o b k := by
        intro d
        induction d using Nat.strongRecOn with
        | ind d ih =>
          intro j hj hd hm
          by_cases more : ∃ i, ∃ hi : i < xs.length, j < i ∧ mat xs[i] o b
          · obtain ⟨i, hi, hlt, hmi⟩ := more
            exact ih (xs.length - i) (by omega) i hi rfl hmi
          · exact ⟨j, ⟨hj, hm⟩, fun i hi hlt hmi => more ⟨i, hi, hlt, hmi⟩⟩
      exact e (this _ j hj rfl hm)
    rw [readV_none hn, readV_none]
    intro j hj hm
    by_cases hj' : j < xs.length
    · rw [List.getElem_append_left hj'] at hm; exact hn j hj' hm
    · have : j = xs.length := by simp at hj; omega
      subst this
      simp only [mat] at hm
      rw [List.getElem_append_right (Nat.le_refl _)] at hm
      simp at hm
      exact ho hm.1.symm

end Go.Proofs.Ytboolfckaagfoab

/- Plain words of plans; laws on append of several elements. -/
namespace Go.Proofs.Ytboolfckaagfoab
open Go.RowKit
set_option linter.unusedVariables false
section
variable {P : Program}
theorem run_append_many (w : World) (B : Nat) (t ty e : TypeId) (i : TypeInfo) (z : Value) (size bytes : Nat) (ht : P.underlying t = some (.slice e)) (hi : P.info? e = some i) (hz : i.zero = some z)
    (hsize : i.size = size) (hby : i.bytes = bytes) (hzs : z.cells.size = size) (hsz : 0 < size)
    (qo : Option Addr) (n cap : Nat) (xs : List Value) (h : OwnR w B e size (.slice qo n cap) n xs) (hB : B ≤ w.heap.size)
    (ad : Addr) (m c : Nat) (news : List Value) (hm : 0 < m) (hl : news.length = m * size) (hnews : ∀ j u, news[j]? = some u → w.cell? (ad.add j) = some u) (h1 : ∀ u ∈ news, u.oneCell' = true)
    (b1 : n + m ≤ maxLen) (b2 : (n + m) * bytes ≤ 140737488355328) :
    ∃ g cap' w', (Builtin.append_ #[t, t] ty #[.slice qo n cap, .slice (some ad) m c]).run P w = .ok (.slice (some ⟨g, 0, none⟩) (n + m) cap') w' ∧
      w'.ownsRow B e size (.slice (some ⟨g, 0, none⟩) (n + m) cap') (n + m) (xs ++ news) ∧ Keep (Own (.slice qo n cap)) w w' := by
  rcases h with ⟨rfl, rfl, ao, hv⟩ | ⟨h0, h⟩
  · simp only [Value.slice.injEq, true_and] at hv
    obtain ⟨rfl, rfl⟩ := hv
    cases qo with
    | none =>
      obtain ⟨v', w', hrun, r1, r2, _⟩ := run_append_own (P := P) w B t ty e i z size bytes ht hi hz hsize hby hzs hsz (.slice none 0 0) 0 [] (World.ownsRow_nil w _ e size) ad m c news hl hnews h1 b1 b2 hB
      obtain ⟨g, cap, cur, rfl, _, _⟩ := own_form (by omega) r1
      exact ⟨g, cap, w', hrun, r1, keep_grown r2 (fun k hk => by cases hk)⟩
    | some d =>
      obtain ⟨v', w', hrun, r1, r2⟩ := run_append_arg_grows (P := P) w t ty e i z size bytes ht hi hz hsize hby hzs hsz d 0 0 [] (by simp) (by simp) ad m c news hl hnews (by omega) b1 b2
      obtain ⟨g, cap, cur, rfl, _, _⟩ := own_form (by omega) r1
      exact ⟨g, cap, w', hrun, own_base r1 hB, keep_grown r2 (fun k hk => by cases hk)⟩
  · obtain ⟨g0, cap0, cur0, e0, _, _⟩ := own_form h0 h
    rw [e0] at h
    obtain ⟨v', w', hrun, r1, r2, _⟩ := run_append_own (P := P) w B t ty e i z size bytes ht hi hz hsize hby hzs hsz _ n xs h ad m c news hl hnews h1 b1 b2 hB
    obtain ⟨g, cap, cur, rfl, _, _⟩ := own_form (by omega) r1
    rw [e0]
    exact ⟨g, cap, w', hrun, r1, keep_grown r2 (fun k hk => by cases hk; exact own_of h0 rfl)⟩
theorem wpList_append_many {w : World} {ops : Array Oper} {rest : List Oper} {o : Oper} {a : Act} {Q : Exit → Act → World → Prop} (hgd : o.guard = none) (s x : Operand) (t : TypeId)
    (ho : o.op = .call { callee := .builtin .append, args := #[s, x], argTypes := #[t, t] })
    (B : Nat) (e : TypeId) (i : TypeInfo) (z : Value) (size bytes : Nat) (ht : P.underlying t = some (.slice e)) (hi : P.info? e = some i) (hz : i.zero = some z)
    (hsize : i.size = size) (hby : i.bytes = bytes) (hzs : z.cells.size = size) (hsz : 0 < size)
    (qo : Option Addr) (n cap : Nat) (xs : List Value) (hs : a.eval s = .slice qo n cap) (h : OwnR w B e size (.slice qo n cap) n xs) (hB : B ≤ w.heap.size)
    (so : Option Addr) (m c : Nat) (news : List Value) (hx : a.eval x = .slice so m c) (hm : 0 < m) (hl : news.length = m * size) (hnews : 0 < m → ∃ ad, so = some ad ∧ ∀ j u, news[j]? = some u → w.cell? (ad.add j) = some u) (h1 : ∀ u ∈ news, u.oneCell' = true)
    (b1 : n + m ≤ maxLen) (b2 : (n + m) * bytes ≤ 140737488355328)
    (hK : ∀ g cap' w', w'.ownsRow B e size (.slice (some ⟨g, 0, none⟩) (n + m) cap') (n + m) (xs ++ news) → Keep (Own (.slice qo n cap)) w w' → wpList P ops Q rest (a.put o.dst (.slice (some ⟨g, 0, none⟩) (n + m) cap')) w') : wpList P ops Q (o :: rest) a w := by
  refine wpList_plain hgd fun K hK' => ?_
  obtain ⟨ad, rfl, hnew⟩ := hnews hm
  obtain ⟨g, cap', w', hrun, r1, r2⟩ := run_append_many (P := P) w B t o.type e i z size bytes ht hi hz hsize hby hzs hsz qo n cap xs h hB ad m c news hm hl hnew h1 b1 b2
  unfold Oper.wp
  simp [execOp, ho, resolve, invoke, builtin, hs, hx, hrun, Result.andThen]
  exact hK' _ _ (hK _ _ _ r1 r2)
/-- .. onto a row with room, empty or not. -/
theorem run_append_room (w : World) (B : Nat) (t ty e : TypeId) (i : TypeInfo) (z : Value) (size bytes : Nat) (ht : P.underlying t = some (.slice e)) (hi : P.info? e = some i) (hz : i.zero = some z)
    (hsize : i.size = size) (hby : i.bytes = bytes) (hzs : z.cells.size = size) (hsz : 0 < size)
    (g0 n cap : Nat) (xs : List Value) (h : w.ownsRow B e size (.slice (some ⟨g0, 0, none⟩) n cap) n xs) (hB : B ≤ w.heap.size)
    (ad : Addr) (m c : Nat) (news : List Value) (hm : 0 < m) (hl : news.length = m * size) (hnews : ∀ j u, news[j]? = some u → w.cell? (ad.add j) = some u) (h1 : ∀ u ∈ news, u.oneCell' = true)
    (b1 : n + m ≤ maxLen) (b2 : (n + m) * bytes ≤ 140737488355328) :
    ∃ g cap' w', (Builtin.append_ #[t, t] ty #[.slice (some ⟨g0, 0, none⟩) n cap, .slice (some ad) m c]).run P w = .ok (.slice (some ⟨g, 0, none⟩) (n + m) cap') w' ∧
      w'.ownsRow B e size (.slice (some ⟨g, 0, none⟩) (n + m) cap') (n + m) (xs ++ news) ∧ Keep (fun j => j = g0) w w' := by
  by_cases hc : n + m ≤ cap
  · obtain ⟨w', hrun, r1, r2⟩ := run_append_fits (P := P) w B t ty e i size ht hi hsize g0 n cap xs h ad m c news hl hnews h1 hc
    exact ⟨g0, cap, w', hrun, r1, keep_grown r2 (fun k hk => by cases hk; rfl)⟩
  · obtain ⟨v', w', hrun, r1, r2⟩ := run_append_arg_grows (P := P) w t ty e i z size bytes ht hi hz hsize hby hzs hsz ⟨g0, 0, none⟩ n cap xs h.1 (fun j u hu => by
      have hj : j < n * size := by have := (List.getElem?_eq_some_iff.1 hu).1; rw [h.1] at this; exact this
      have ha : (⟨g0, 0, none⟩ : Addr).add j = ⟨g0, j, none⟩ := by unfold Addr.add; split <;> simp_all
      rw [ha, h.cellAt j hj]; exact hu) ad m c news hl hnews (by omega) b1 b2
    obtain ⟨g, cap', cur, rfl, hg, _⟩ := own_form (by omega) r1
    exact ⟨g, cap', w', hrun, own_base r1 hB, keep_grown r2 (fun k hk => by cases hk)⟩
theorem wpList_append_room {w : World} {ops : Array Oper} {rest : List Oper} {o : Oper} {a : Act} {Q : Exit → Act → World → Prop} (hgd : o.guard = none) (s x : Operand) (t : TypeId)
    (ho : o.op = .call { callee := .builtin .append, args := #[s, x], argTypes := #[t, t] })
    (B : Nat) (e : TypeId) (i : TypeInfo) (z : Value) (size bytes : Nat) (ht : P.underlying t = some (.slice e)) (hi : P.info? e = some i) (hz : i.zero = some z)
    (hsize : i.size = size) (hby : i.bytes = bytes) (hzs : z.cells.size = size) (hsz : 0 < size)
    (g0 n cap : Nat) (xs : List Value) (hs : a.eval s = .slice (some ⟨g0, 0, none⟩) n cap) (h : w.ownsRow B e size (.slice (some ⟨g0, 0, none⟩) n cap) n xs) (hB : B ≤ w.heap.size)
    (so : Option Addr) (m c : Nat) (news : List Value) (hx : a.eval x = .slice so m c) (hm : 0 < m) (hl : news.length = m * size) (hnews : 0 < m → ∃ ad, so = some ad ∧ ∀ j u, news[j]? = some u → w.cell? (ad.add j) = some u) (h1 : ∀ u ∈ news, u.oneCell' = true)
    (b1 : n + m ≤ maxLen) (b2 : (n + m) * bytes ≤ 140737488355328)
    (hK : ∀ g cap' w', w'.ownsRow B e size (.slice (some ⟨g, 0, none⟩) (n + m) cap') (n + m) (xs ++ news) → Keep (fun j => j = g0) w w' → wpList P ops Q rest (a.put o.dst (.slice (some ⟨g, 0, none⟩) (n + m) cap')) w') : wpList P ops Q (o :: rest) a w := by
  refine wpList_plain hgd fun K hK' => ?_
  obtain ⟨ad, rfl, hnew⟩ := hnews hm
  obtain ⟨g, cap', w', hrun, r1, r2⟩ := run_append_room (P := P) w B t o.type e i z size bytes ht hi hz hsize hby hzs hsz g0 n cap xs h hB ad m c news hm hl hnew h1 b1 b2
  unfold Oper.wp
  simp [execOp, ho, resolve, invoke, builtin, hs, hx, hrun, Result.andThen]
  exact hK' _ _ (hK _ _ _ r1 r2)
end
theorem news3 (w : World) (x : Wr) (t : TypeId) : ∀ j u, (wrV x)[j]? = some u → (w.alloc (.cells #[.int .i64 x.host, .int .i64 x.at_, .string x.data] t)).cell? ((⟨w.heap.size, 0, none⟩ : Addr).add j) = some u :=
  World.news_of_block (cs := #[.int .i64 x.host, .int .i64 x.at_, .string x.data]) (heap_alloc_new w _)
theorem news3_at (w : World) (n : Nat) (x : Wr) (t : TypeId) (hn : w.heap.size = n) : ∀ j u, (wrV x)[j]? = some u → (w.alloc (.cells #[.int .i64 x.host, .int .i64 x.at_, .string x.data] t)).cell? ((⟨n, 0, none⟩ : Addr).add j) = some u := by
  subst hn; exact news3 w x t

/-- Moves, and lists of them. -/
def mvF : Wr := ⟨2, 0, ⟨#[]⟩⟩
def mvW (u : Up) : Wr := ⟨1, u.at_, u.data⟩
def hdT (n seq : Int) : ByteArray := sealS 7 [n, seq]
theorem hdT_size (n seq : Int) : (hdT n seq).size = 12 := by rw [hdT, sealS_size]; rfl
def mvH (slot n seq : Int) : Wr := ⟨1, slot, hdT n seq⟩
def mvT (slot : Int) (i : Nat) (u : Up) : Wr := ⟨1, slot + 1 + i, encU u⟩
def chL (us : List Up) : List Wr := us.map mvW
def txL (slot : Int) (us : List Up) : List Wr := us.mapIdx (mvT slot)
def apL (slot seq : Int) (us : List Up) : List Wr := chL us ++ [mvF] ++ [mvH slot 0 seq] ++ [mvF]
def bgL (slot seq : Int) (us : List Up) : List Wr := txL slot us ++ [mvF] ++ [mvH slot us.length seq] ++ [mvF]
def plL (slot seq : Int) (us : List Up) : List Wr := if us.length = 0 then [] else bgL slot seq us ++ apL slot seq us
def rpL (slot seq : Int) (us : List Up) : List Wr := if us.length = 0 then [] else apL slot seq us
theorem chL_length (us : List Up) : (chL us).length = us.length := by simp [chL]
theorem txL_length (slot : Int) (us : List Up) : (txL slot us).length = us.length := by simp [txL]
theorem apL_length (slot seq : Int) (us : List Up) : (apL slot seq us).length = us.length + 3 := by simp [apL, chL]
theorem bgL_length (slot seq : Int) (us : List Up) : (bgL slot seq us).length = us.length + 3 := by simp [bgL, txL]
theorem chL_take {us : List Up} {k : Nat} (h : k < us.length) : (chL us).take (k + 1) = (chL us).take k ++ [mvW us[k]] := by
  rw [List.take_succ_eq_append_getElem (by rw [chL_length]; exact h)]; simp [chL]
theorem txL_take {slot : Int} {us : List Up} {k : Nat} (h : k < us.length) : (txL slot us).take (k + 1) = (txL slot us).take k ++ [mvT slot k us[k]] := by
  rw [List.take_succ_eq_append_getElem (by rw [txL_length]; exact h)]; simp [txL]
theorem chL_done {us : List Up} {k : Nat} (h : us.length ≤ k) : (chL us).take k = chL us := List.take_of_length_le (by rw [chL_length]; exact h)
theorem txL_done {slot : Int} {us : List Up} {k : Nat} (h : us.length ≤ k) : (txL slot us).take k = txL slot us := List.take_of_length_le (by rw [txL_length]; exact h)
def upsB (us : List Up) : Bool := us.all upB
theorem upsB_at {us : List Up} (h : upsB us = true) {k : Nat} (hk : k < us.length) : upB us[k] = true := List.all_eq_true.1 h _ (List.getElem_mem hk)
/-- Moves with short texts. -/
def short (ms : List Wr) : Prop := ∀ x ∈ ms, x.data.size ≤ 80
theorem short.sizes {ms : List Wr} (h : short ms) : ∀ x ∈ ms, x.data.size ≤ maxLen := fun x hx => by have := h x hx; unfold maxLen; omega
theorem short.app {a b : List Wr} (h : short a) (k : short b) : short (a ++ b) := fun x hx => by
  rcases List.mem_append.1 hx with h' | h'
  · exact h x h'
  · exact k x h'
theorem short.one {x : Wr} (h : x.data.size ≤ 80) : short [x] := fun y hy => by simp at hy; subst hy; exact h
theorem short_nil : short [] := fun x hx => by cases hx
theorem short_F : short [mvF] := short.one (by decide)
theorem short_H (slot n seq : Int) : short [mvH slot n seq] := short.one (by show (hdT n seq).size ≤ 80; rw [hdT_size]; omega)
theorem short_ch {us : List Up} (h : upsB us = true) : short (chL us) := fun x hx => by
  simp only [chL, List.mem_map] at hx
  obtain ⟨u, hu, rfl⟩ := hx
  have := (upB_iff.1 (List.all_eq_true.1 h u hu)).2
  show u.data.size ≤ 80
  omega
theorem short_tx {slot : Int} {us : List Up} (h : upsB us = true) : short (txL slot us) := fun x hx => by
  obtain ⟨i, hi, rfl⟩ := List.mem_iff_getElem.1 hx
  have hi' : i < us.length := by rwa [txL_length] at hi
  have := (upB_iff.1 (upsB_at h hi')).2
  simp only [txL, List.getElem_mapIdx, mvT]
  rw [encU_size]; omega
theorem short_ap {slot seq : Int} {us : List Up} (h : upsB us = true) : short (apL slot seq us) := (((short_ch h).app short_F).app (short_H _ _ _)).app short_F
theorem short_bg {slot seq : Int} {us : List Up} (h : upsB us = true) : short (bgL slot seq us) := (((short_tx h).app short_F).app (short_H _ _ _)).app short_F
theorem short_pl {slot seq : Int} {us : List Up} (h : upsB us = true) : short (plL slot seq us) := by
  unfold plL; split
  · exact short_nil
  · exact (short_bg h).app (short_ap h)
theorem short_rp {slot seq : Int} {us : List Up} (h : upsB us = true) : short (rpL slot seq us) := by
  unfold rpL; split
  · exact short_nil
  · exact short_ap h
/-- A head's numbers. -/
theorem hd_nums {n seq : Int} (h : 0 ≤ n ∧ n ≤ 5) (hs : numB seq = true) : ∀ j (hj : j < [n, seq].length), 0 ≤ [n, seq][j] ∧ [n, seq][j] ≤ 2147483647 := by
  have h2 : 0 ≤ seq ∧ seq ≤ 2147483647 := by simpa [numB, inB] using hs
  intro j hj
  have hj' : j < 2 := hj
  rcases (show j = 0 ∨ j = 1 by omega) with rfl | rfl <;> simp <;> omega
theorem hd_seal {n seq : Int} (h : 0 ≤ n ∧ n ≤ 5) (hs : numB seq = true) : sealC 7 [n, seq] = 0 ∧ sealT 7 [n, seq] = hdT n seq := by
  have h2 : 0 ≤ seq ∧ seq ≤ 2147483647 := by simpa [numB, inB] using hs
  have hc : sealC 7 [n, seq] = 0 := sealC_ok (listC_ok (by simp) (by
    rw [intsB_len]
    · rfl
    · intro j hj
      have hj' : j < 2 := hj
      rcases (show j = 0 ∨ j = 1 by omega) with rfl | rfl <;> simp [numB, inB] <;> omega)) rfl
  exact ⟨hc, sealT_ok hc⟩
/-- The fault of updates. -/
def fuC (us : List Up) : Int := if 5 < us.length then 6 else if upsB us = true then 0 else 1
theorem fuC_many {us : List Up} (h : 5 < us.length) : fuC us = 6 := if_pos h
theorem fuC_ok {us : List Up} (h : ¬ 5 < us.length) (hb : upsB us = true) : fuC us = 0 := by rw [fuC, if_neg h, if_pos hb]
theorem fuC_bad {us : List Up} (h : ¬ 5 < us.length) (hb : upsB us = false) : fuC us = 1 := by rw [fuC, if_neg h, if_neg (by simp [hb])]
theorem fuC_zero {us : List Up} (h : fuC us = 0) : us.length ≤ 5 ∧ upsB us = true := by
  unfold fuC at h
  split at h
  · cases h
  · split at h
    · exact ⟨by omega, by assumption⟩
    · cases h
/-- What JournalPlan answers. -/
def jpC (h seq : Int) (us : List Up) : Int := if 4096 < us.length then 2 else if inB h 0 3 = false then 4 else if numB seq = false then 4 else fuC us
theorem jpC_long {h seq : Int} {us : List Up} (h1 : 4096 < us.length) : jpC h seq us = 2 := if_pos h1
theorem jpC_host {h seq : Int} {us : List Up} (h1 : ¬ 4096 < us.length) (h2 : inB h 0 3 = false) : jpC h seq us = 4 := by rw [jpC, if_neg h1, if_pos h2]
theorem jpC_seq {h seq : Int} {us : List Up} (h1 : ¬ 4096 < us.length) (h2 : inB h 0 3 = true) (h3 : numB seq = false) : jpC h seq us = 4 := by rw [jpC, if_neg h1, if_neg (by simp [h2]), if_pos h3]
theorem jpC_list {h seq : Int} {us : List Up} (h1 : ¬ 4096 < us.length) (h2 : inB h 0 3 = true) (h3 : numB seq = true) : jpC h seq us = fuC us := by rw [jpC, if_neg h1, if_neg (by simp [h2]), if_neg (by simp [h3])]
def jpL (h seq : Int) (us : List Up) : List Wr := if jpC h seq us = 0 then plL (slN h) seq us else []
theorem jpL_no {h seq : Int} {us : List Up} (h1 : jpC h seq us ≠ 0) : jpL h seq us = [] := if_neg h1
theorem jpL_yes {h seq : Int} {us : List Up} (h1 : jpC h seq us = 0) : jpL h seq us = plL (slN h) seq us := if_pos h1
/-- A row of moves that grows, of the call's own. -/
structure ApS (w W : World) (qo : Option Addr) (n qa : Nat) (ms : List Wr) : Prop where
  o : OwnR W w.heap.size 49 3 (.slice qo n qa) n (ioV ms)
  k : Below w.heap.size w W
theorem ApS.next {w W W' : World} {qo : Option Addr} {n qa : Nat} {ms : List Wr} (h : ApS w W qo n qa ms) (hb : Below W.heap.size W W') : ApS w W' qo n qa ms := ⟨h.o.below hb, fr h.k hb⟩
theorem ApS.app {w W W' : World} {qo : Option Addr} {n qa m g cap : Nat} {ms : List Wr} {vs : List Value} {ns : List Wr} (h : ApS w W qo n qa ms) (hv : vs = ioV ns) (hm : 0 < n + m)
    (ho : W'.ownsRow w.heap.size 49 3 (.slice (some ⟨g, 0, none⟩) (n + m) cap) (n + m) (ioV ms ++ vs)) (hk : Keep (Own (.slice qo n qa)) W W') : ApS w W' (some ⟨g, 0, none⟩) (n + m) cap (ms ++ ns) := by
  subst hv
  refine ⟨.inr ⟨hm, ?_⟩, belowKp h.k hk (fun j hj => (h.o.ge j hj).1)⟩
  rw [ioV_append]; exact ho
theorem ApS.one {w W W' : World} {qo : Option Addr} {n qa g cap : Nat} {ms : List Wr} {x : Wr} (h : ApS w W qo n qa ms)
    (ho : W'.ownsRow w.heap.size 49 3 (.slice (some ⟨g, 0, none⟩) (n + 1) cap) (n + 1) (ioV ms ++ wrV x)) (hk : Keep (Own (.slice qo n qa)) W W') : ApS w W' (some ⟨g, 0, none⟩) (n + 1) cap (ms ++ [x]) :=
  h.app (by simp [ioV, wrV]) (by omega) ho hk
theorem ApS.sz {w W : World} {qo : Option Addr} {n qa : Nat} {ms : List Wr} (h : ApS w W qo n qa ms) : w.heap.size ≤ W.heap.size := h.k.size
theorem ApS.len {w W : World} {qo : Option Addr} {n qa : Nat} {ms : List Wr} (h : ApS w W qo n qa ms) : n = ms.length := by
  have := h.o.len; rw [ioV_length] at this; omega
end Go.Proofs.Ytboolfckaagfoab

/- Plain: moves that are right, what they do to a disk, what MovesDo answers. -/
namespace Go.Proofs.Ytboolfckaagfoab
open Go.RowKit
set_option linter.unusedVariables false

def mvB (m : Wr) : Bool := if m.host = 1 then (inB m.at_ 0 63 && decide (m.data.size ≤ 80)) else (decide (m.host = 2) && (decide (m.at_ = 0) && decide (m.data.size = 0)))
def msB (ms : List Wr) : Bool := ms.all mvB
theorem msB_at {ms : List Wr} (h : msB ms = true) {k : Nat} (hk : k < ms.length) : mvB ms[k] = true := List.all_eq_true.1 h _ (List.getElem_mem hk)
theorem mvB_write {m : Wr} (h : mvB m = true) (hn : m.host ≠ 2) : (0 ≤ m.at_ ∧ m.at_ ≤ 63) ∧ m.data.size ≤ 80 := by
  unfold mvB at h
  split at h
  · simpa [inB] using h
  · simp [hn] at h
/-- What one move does. -/
def dm1 (h : Int) (st : List ByteArray × List Wr) (m : Wr) : List ByteArray × List Wr := if m.host = 2 then (putW st.1 (ofH h st.2), dropF h st.2) else (st.1, st.2 ++ [⟨h, m.at_, m.data⟩])
def dmL (h : Int) (ss : List ByteArray) (xs : List Wr) (ms : List Wr) : List ByteArray × List Wr := ms.foldl (dm1 h) (ss, xs)
theorem dmL_succ {h : Int} {ss : List ByteArray} {xs ms : List Wr} {k : Nat} (hk : k < ms.length) : dmL h ss xs (ms.take (k + 1)) = dm1 h (dmL h ss xs (ms.take k)) ms[k] := by
  unfold dmL
  rw [List.take_succ_eq_append_getElem hk, List.foldl_append]; rfl
theorem dm1_flush {h : Int} {S : List ByteArray} {X : List Wr} {m : Wr} (hm : m.host = 2) : dm1 h (S, X) m = (putW S (ofH h X), dropF h X) := if_pos hm
theorem dm1_write {h : Int} {S : List ByteArray} {X : List Wr} {m : Wr} (hm : m.host ≠ 2) : dm1 h (S, X) m = (S, X ++ [⟨h, m.at_, m.data⟩]) := if_neg hm
theorem dm1_right {h : Int} {S : List ByteArray} {X : List Wr} {m : Wr} (hh : 0 ≤ h ∧ h ≤ 3) (hd : diskB S X = true) (hl : X.length < 200) (hm : mvB m = true) : diskB (dm1 h (S, X) m).1 (dm1 h (S, X) m).2 = true ∧ (dm1 h (S, X) m).2.length ≤ X.length + 1 := by
  by_cases h2 : m.host = 2
  · rw [dm1_flush h2]
    exact ⟨diskB_put hd (fun x hx => of_mem hx) (fun x hx => drop_mem hx) (drop_le h X), by have := drop_le h X; show (dropF h X).length ≤ X.length + 1; omega⟩
  · rw [dm1_write h2]
    obtain ⟨p1, p2⟩ := mvB_write hm h2
    exact ⟨diskB_snoc hd hl (ioB_parts.2 ⟨hh, p1, p2⟩), by simp⟩
theorem dmL_right {h : Int} {ss : List ByteArray} {xs ms : List Wr} (hh : 0 ≤ h ∧ h ≤ 3) (hd : diskB ss xs = true) (hm : msB ms = true) (hl : xs.length + ms.length ≤ 200) : ∀ k, k ≤ ms.length → diskB (dmL h ss xs (ms.take k)).1 (dmL h ss xs (ms.take k)).2 = true ∧ (dmL h ss xs (ms.take k)).2.length ≤ xs.length + k := by
  intro k
  induction k with
  | zero => intro _; exact ⟨by simpa [dmL] using hd, by simp [dmL]⟩
  | succ k ih =>
    intro hk
    obtain ⟨i1, i2⟩ := ih (by omega)
    rw [dmL_succ (show k < ms.length by omega)]
    obtain ⟨r1, r2⟩ := dm1_right (S := (dmL h ss xs (ms.take k)).1) (X := (dmL h ss xs (ms.take k)).2) hh i1 (by omega) (msB_at hm (show k < ms.length by omega))
    exact ⟨r1, Nat.le_trans r2 (by omega)⟩
/-- What MovesDo answers. -/
def mdC (ss : List ByteArray) (xs : List Wr) (h : Int) (ms : List Wr) : Int := if 4096 < ms.length then 2 else if hostC ss xs h = 0 then (if msB ms = true then (if 200 < xs.length + ms.length then 7 else 0) else 1) else hostC ss xs h
def mdS (ss : List ByteArray) (xs : List Wr) (h : Int) (ms : List Wr) : List ByteArray := if mdC ss xs h ms = 0 then (dmL h ss xs ms).1 else if mdC ss xs h ms = 7 then ss else []
def mdX (ss : List ByteArray) (xs : List Wr) (h : Int) (ms : List Wr) : List Wr := if mdC ss xs h ms = 0 then (dmL h ss xs ms).2 else if mdC ss xs h ms = 7 then xs else []
theorem md_long {ss : List ByteArray} {xs : List Wr} {h : Int} {ms : List Wr} (h1 : 4096 < ms.length) : mdC ss xs h ms = 2 ∧ mdS ss xs h ms = [] ∧ mdX ss xs h ms = [] := by
  have e : mdC ss xs h ms = 2 := if_pos h1
  exact ⟨e, by simp [mdS, e], by simp [mdX, e]⟩
theorem hostC_cases (ss : List ByteArray) (xs : List Wr) (h : Int) : hostC ss xs h = 0 ∨ hostC ss xs h = 1 ∨ hostC ss xs h = 4 := by
  unfold hostC; split
  · split
    · exact .inl rfl
    · exact .inr (.inr rfl)
  · exact .inr (.inl rfl)
theorem md_host {ss : List ByteArray} {xs : List Wr} {h : Int} {ms : List Wr} (h1 : ¬ 4096 < ms.length) (h2 : hostC ss xs h ≠ 0) : mdC ss xs h ms = hostC ss xs h ∧ mdS ss xs h ms = [] ∧ mdX ss xs h ms = [] := by
  have e : mdC ss xs h ms = hostC ss xs h := by rw [mdC, if_neg h1, if_neg h2]
  have h7 : hostC ss xs h ≠ 7 := by rcases hostC_cases ss xs h with e | e | e <;> rw [e] <;> decide
  exact ⟨e, by simp [mdS, e, h2, h7], by simp [mdX, e, h2, h7]⟩
theorem md_bad {ss : List ByteArray} {xs : List Wr} {h : Int} {ms : List Wr} (h1 : ¬ 4096 < ms.length) (h2 : hostC ss xs h = 0) (h3 : msB ms = false) : mdC ss xs h ms = 1 ∧ mdS ss xs h ms = [] ∧ mdX ss xs h ms = [] := by
  have e : mdC ss xs h ms = 1 := by rw [mdC, if_neg h1, if_pos h2, if_neg (by simp [h3])]
  exact ⟨e, by simp [mdS, e], by simp [mdX, e]⟩
theorem md_full {ss : List ByteArray} {xs : List Wr} {h : Int} {ms : List Wr} (h1 : ¬ 4096 < ms.length) (h2 : hostC ss xs h = 0) (h3 : msB ms = true) (h4 : 200 < xs.length + ms.length) : mdC ss xs h ms = 7 ∧ mdS ss xs h ms = ss ∧ mdX ss xs h ms = xs := by
  have e : mdC ss xs h ms = 7 := by rw [mdC, if_neg h1, if_pos h2, if_pos h3, if_pos h4]
  exact ⟨e, by simp [mdS, e], by simp [mdX, e]⟩
theorem md_ok {ss : List ByteArray} {xs : List Wr} {h : Int} {ms : List Wr} (h1 : ¬ 4096 < ms.length) (h2 : hostC ss xs h = 0) (h3 : msB ms = true) (h4 : ¬ 200 < xs.length + ms.length) : mdC ss xs h ms = 0 ∧ mdS ss xs h ms = (dmL h ss xs ms).1 ∧ mdX ss xs h ms = (dmL h ss xs ms).2 := by
  have e : mdC ss xs h ms = 0 := by rw [mdC, if_neg h1, if_pos h2, if_pos h3, if_neg h4]
  exact ⟨e, by simp [mdS, e], by simp [mdX, e]⟩
/-- What MovesDo answers is no greater than what it was given. -/
theorem md_right {ss : List ByteArray} {xs : List Wr} {h : Int} {ms : List Wr} (hs : ∀ s ∈ ss, s.size ≤ maxLen) (hx : ∀ x ∈ xs, x.data.size ≤ maxLen) : (∀ s ∈ mdS ss xs h ms, s.size ≤ maxLen) ∧ (∀ x ∈ mdX ss xs h ms, x.data.size ≤ maxLen) ∧ (mdS ss xs h ms).length ≤ max ss.length 64 ∧ (mdX ss xs h ms).length ≤ max xs.length 200 := by
  by_cases h1 : 4096 < ms.length
  · obtain ⟨_, e1, e2⟩ := md_long (ss := ss) (xs := xs) (h := h) h1
    rw [e1, e2]; exact ⟨fun _ h => (by cases h), fun _ h => (by cases h), by simp, by simp⟩
  by_cases h2 : hostC ss xs h = 0
  case neg =>
    obtain ⟨_, e1, e2⟩ := md_host (ms := ms) h1 h2
    rw [e1, e2]; exact ⟨fun _ h => (by cases h), fun _ h => (by cases h), by simp, by simp⟩
  by_cases h3 : msB ms = true
  case neg =>
    rw [Bool.not_eq_true] at h3
    obtain ⟨_, e1, e2⟩ := md_bad (ss := ss) (xs := xs) h1 h2 h3
    rw [e1, e2]; exact ⟨fun _ h => (by cases h), fun _ h => (by cases h), by simp, by simp⟩
  by_cases h4 : 200 < xs.length + ms.length
  · obtain ⟨_, e1, e2⟩ := md_full h1 h2 h3 h4
    rw [e1, e2]; exact ⟨hs, hx, Nat.le_max_left _ _, Nat.le_max_left _ _⟩
  · obtain ⟨_, e1, e2⟩ := md_ok h1 h2 h3 h4
    obtain ⟨hd, h0, h5⟩ := hostC_eq h2
    obtain ⟨r1, r2⟩ := dmL_right (ms := ms) ⟨h0, h5⟩ hd h3 (by omega) ms.length (Nat.le_refl _)
    rw [List.take_of_length_le (Nat.le_refl _)] at r1 r2
    obtain ⟨⟨q1, q2⟩, q3, q4⟩ := diskB_parts.1 r1
    rw [e1, e2]
    refine ⟨fun s h => (by have := q2 s h; unfold maxLen; omega), fun x h => (by have := (ioB_parts.1 (q4 x h)).2.2; unfold maxLen; omega), by rw [q1]; exact Nat.le_max_right _ _, Nat.le_trans q3 (Nat.le_max_right _ _)⟩
/-- A row's texts lie apart from a variable that holds a disk. -/
theorem cell_apart {w : World} {x b j : Nat} {u v c : Value} (hv : VarD w x u v) (h : w.cell? ⟨b, j, none⟩ = some c) (h1 : c ≠ u) (h2 : c ≠ v) : b ≠ x := by
  rintro rfl
  rw [Joins.cell_of_block hv] at h
  match j, h with
  | 0, h => simp at h; exact h1 h.symm
  | 1, h => simp at h; exact h2 h.symm
  | j + 2, h => simp at h
theorem Ss.setX {w : World} {x : Nat} {po qo ao : Option Addr} {n pa m qa : Nat} {ss : List ByteArray} (h : Ss w ao ss) (hv : VarD w x (.slice po n pa) (.slice qo m qa)) (i : Nat) (v : Value) : Ss (w.setCell ⟨x, i, none⟩ v) ao ss := fun j hj => by
  obtain ⟨b, off, e, hc, hz⟩ := h j hj
  have hne : b ≠ x := cell_apart hv hc (by simp) (by simp)
  exact ⟨b, off, e, (World.cell?_of_block (w := w) (Below.heap_setCell w ⟨x, i, none⟩ v b hne)).trans hc, hz⟩
theorem Ios.setX {w : World} {x : Nat} {po qo ao : Option Addr} {n pa m qa : Nat} {xs : List Wr} (h : Ios w ao xs) (hv : VarD w x (.slice po n pa) (.slice qo m qa)) (i : Nat) (v : Value) : Ios (w.setCell ⟨x, i, none⟩ v) ao xs := fun j hj => by
  obtain ⟨b, off, e, h0, h1, h2, hz⟩ := h j hj
  have hne : b ≠ x := cell_apart hv h0 (by simp) (by simp)
  have hb := Below.heap_setCell w ⟨x, i, none⟩ v b hne
  exact ⟨b, off, e, (World.cell?_of_block (w := w) hb).trans h0, (World.cell?_of_block (w := w) hb).trans h1, (World.cell?_of_block (w := w) hb).trans h2, hz⟩
theorem right_sz2 {S : List ByteArray} {X : List Wr} (hd : diskB S X = true) : (∀ s ∈ S, s.size ≤ maxLen) ∧ ∀ x ∈ X, x.data.size ≤ maxLen := by
  obtain ⟨⟨_, q2⟩, _, q4⟩ := diskB_parts.1 hd
  exact ⟨fun s h => (by have := q2 s h; unfold maxLen; omega), fun x h => (by have := (ioB_parts.1 (q4 x h)).2.2; unfold maxLen; omega)⟩
theorem VarD.put {w : World} {x : Nat} {a b : Value} (h : VarD w x a b) (u v : Value) : VarD ((w.setCell ⟨x, 0, none⟩ u).setCell ⟨x, 1, none⟩ v) x u v := Joins.block_setCell (i := 1) (Joins.block_setCell (i := 0) h u) v
theorem VarD.apart {w : World} {x y : Nat} {a b : Value} (h : VarD w x a b) (hne : x ≠ y) (i : Nat) (u : Value) : VarD (w.setCell ⟨y, i, none⟩ u) x a b := by
  unfold VarD; rw [Below.heap_setCell w ⟨y, i, none⟩ u x hne]; exact h
/-- A disk in a variable, as a call shows it. -/
structure DkA (w W : World) (x : Nat) (po : Option Addr) (pa : Nat) (qo : Option Addr) (qa : Nat) (SS : List ByteArray) (XX : List Wr) : Prop where
  v : VarD W x (.slice po SS.length pa) (.slice qo XX.length qa)
  s : Ss W po SS
  i : Ios W qo XX
  k : Below w.heap.size w W
theorem DkA.next {w W W' : World} {x pa qa : Nat} {po qo : Option Addr} {SS : List ByteArray} {XX : List Wr} (h : DkA w W x po pa qo qa SS XX) (hb : Below W.heap.size W W') : DkA w W' x po pa qo qa SS XX := ⟨h.v.below hb, h.s.below hb, h.i.below hb, fr h.k hb⟩
theorem DkA.put {w W : World} {x pa qa pa' qa' n m : Nat} {po qo po' qo' : Option Addr} {SS SS' : List ByteArray} {XX XX' : List Wr} (h : DkA w W x po pa qo qa SS XX) (hx : w.heap.size ≤ x) (hn : n = SS'.length) (hm : m = XX'.length) (h1 : Ss W po' SS') (h2 : Ios W qo' XX') :
    DkA w ((W.setCell ⟨x, 0, none⟩ (.slice po' n pa')).setCell ⟨x, 1, none⟩ (.slice qo' m qa')) x po' pa' qo' qa' SS' XX' := by
  subst hn hm
  have hv0 : VarD (W.setCell ⟨x, 0, none⟩ (.slice po' SS'.length pa')) x (.slice po' SS'.length pa') (.slice qo XX.length qa) := Joins.block_setCell (i := 0) h.v _
  exact ⟨h.v.put _ _, (h1.setX h.v 0 _).setX hv0 1 _, (h2.setX h.v 0 _).setX hv0 1 _, below2 h.k hx 0 1 _ _⟩
end Go.Proofs.Ytboolfckaagfoab

/- Contracts of the program's code of a place. -/
namespace Go.Proofs.Ytboolfckaagfoab
open Go.RowKit
set_option linter.unusedVariables false
set_option maxRecDepth 100000

set_option maxHeartbeats 1600000 in
theorem placeFault_any (ao bo : Option Addr) (ca cb : Nat) (ss : List ByteArray) (xs : List Wr) (h a : Int) (w : World) (hl : ss.length ≤ maxLen) (hm : xs.length ≤ maxLen) (h1 : Ss w ao ss) (h2 : Ios w bo xs) :
    Calls Try.prog 57 #[.agg #[.slice ao ss.length ca, .slice bo xs.length cb], .int .i64 h, .int .i64 a] w fun e w' => e = .returned (.int .i64 (askC ss xs h a)) ∧ Below w.heap.size w w' := by
  have HA := hide (Joins.below_alloc1 w (.cells #[.slice ao ss.length ca, .slice bo xs.length cb] 31))
  have H1 := hide (h1.below (unhide HA))
  have H2 := hide (h2.below (unhide HA))
  have HL := hide hl
  have HM := hide hm
  clear h1 h2 hl hm
  by_cases hc : hostC ss xs h = 0
  · have hb : (hostC ss xs h != 0) = false := by simp [hc]
    cases hh : inB a 0 63
    · have H := hide (askC_place hc hh)
      clear hc
      go_enter Try.func57, Try.ntmps57
      go_wp2_with fail
      refine (hostFault_any _ _ _ _ ss xs h _ (unhide HL) (unhide HM) (unhide H1) (unhide H2)).mono ?_
      rintro e w1 ⟨rfl, hb⟩
      have HB := hide (fr (unhide HA) hb)
      clear hb
      go_wp2_with (go_at_call 55; refine (placeOK_any _ _).mono ?_; rintro e w' ⟨rfl, rfl⟩)
      go_ret
      exact ⟨ret_int (unhide H).symm, unhide HB⟩
    · have H := hide (askC_ok hc hh)
      clear hc
      go_enter Try.func57, Try.ntmps57
      go_wp2_with fail
      refine (hostFault_any _ _ _ _ ss xs h _ (unhide HL) (unhide HM) (unhide H1) (unhide H2)).mono ?_
      rintro e w1 ⟨rfl, hb⟩
      have HB := hide (fr (unhide HA) hb)
      clear hb
      go_wp2_with (go_at_call 55; refine (placeOK_any _ _).mono ?_; rintro e w' ⟨rfl, rfl⟩)
      go_ret
      exact ⟨ret_int (unhide H).symm, unhide HB⟩
  · have H := hide (askC_host (a := a) hc)
    have hb : (hostC ss xs h != 0) = true := by simp [hc]
    clear hc
    go_enter Try.func57, Try.ntmps57
    go_wp2_with fail
    refine (hostFault_any _ _ _ _ ss xs h _ (unhide HL) (unhide HM) (unhide H1) (unhide H2)).mono ?_
    rintro e w1 ⟨rfl, hb⟩
    have HB := hide (fr (unhide HA) hb)
    clear hb
    go_wp2
    go_ret
    exact ⟨ret_int (unhide H).symm, unhide HB⟩

end Go.Proofs.Ytboolfckaagfoab
