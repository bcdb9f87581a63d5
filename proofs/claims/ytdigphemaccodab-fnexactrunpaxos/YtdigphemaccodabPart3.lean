import Derived.Test.YtdigphemaccodabRows
import Derived.Test.YtdigphemaccodabPart1
import Derived.WalkKit
import Derived.WalkSpells
import Derived.Deep.RegionLawGrows
import Derived.Test.YtdigphemaccodabPart2
import Derived.Laws.BytesArg
import Derived.Deep.RegionWith
import Derived.KernelRfl
import Derived.BigQuiet
import Derived.Deep.QuietTactic
import Derived.LoopN

/- Contracts of what asks whether numbers are right: the program's and its model's. -/
namespace Go.Proofs.Ytdigphemaccodab
open Go.RowKit
set_option linter.unusedVariables false
set_option maxRecDepth 100000

theorem l01In_num (n low high : Int) (w : World) : Calls Try.prog 30 #[.int .i64 n, .int .i64 low, .int .i64 high] w fun e w' => e = .returned (.bool (inB n low high)) ∧ w' = w := by
  go_enter Try.func30, Try.ntmps30
  go_wp2
  all_goals
    go_ret
    exact ⟨ret_bool (by rw [Bool.eq_iff_iff]; simp [inB]; omega), rfl⟩
theorem l02Int_any (n : Int) (w : World) : Calls Try.prog 31 #[.int .i64 n] w fun e w' => e = .returned (.bool (numB n)) ∧ w' = w := by
  go_enter Try.func31, Try.ntmps31
  go_wp2_with (go_at_call 30; refine (l01In_num _ _ _ _).mono ?_; rintro e w' ⟨rfl, rfl⟩)
  go_ret
  exact ⟨rfl, rfl⟩
theorem isNumber_any (n : Int) (w : World) : Calls Try.prog 36 #[.int .i64 n] w fun e w' => e = .returned (.bool (numB n)) ∧ w' = w := by
  go_enter Try.func36, Try.ntmps36
  go_wp2
  all_goals
    go_ret
    exact ⟨ret_bool (by rw [Bool.eq_iff_iff]; simp [numB, inB]; omega), rfl⟩

set_option maxHeartbeats 800000 in
theorem l02Ints_any (ao : Option Addr) (cap : Nat) (xs : List Int) (w : World) (hl : xs.length ≤ 1048576) (hc : Is w ao xs) :
    Calls Try.prog 46 #[.slice ao xs.length cap] w fun e w' => e = .returned (.bool (intsB xs)) ∧ w' = w := by
  have HC := hide hc
  clear hc
  go_enter Try.func46, Try.ntmps46
  go_wp2
  go_loop [3] (fun i => ∃ k : Nat, k ≤ xs.length ∧ i = .int .i64 k ∧ Hid (∀ j (h : j < xs.length), j < k → numB xs[j] = true)) (fun i => xs.length - (intOf i).toNat)
  case atStart => exact ⟨0, Nat.zero_le _, rfl, hide (fun j _ h => by omega)⟩
  case round =>
    obtain ⟨k, hk, rfl, HA⟩ := hrel
    by_cases hlt : k < xs.length
    · obtain ⟨b, off, rfl, hc⟩ := unhide HC k hlt
      by_cases hn : numB xs[k] = true
      · have HN := hide (all_succ hlt (unhide HA) hn)
        go_wp2_with (go_at_call 31; refine (l02Int_any _ _).mono ?_; rintro e w' ⟨rfl, rfl⟩)
        go_round
        case rel => exact ⟨k + 1, by omega, by go_num, HN⟩
        case measure => simp [intOf]; omega
      · have hn' : numB xs[k] = false := by simpa using hn
        have HF := hide (intsB_false_at hlt hn')
        clear hn
        go_wp2_with (go_at_call 31; refine (l02Int_any _ _).mono ?_; rintro e w' ⟨rfl, rfl⟩)
        go_ret
        exact ⟨ret_bool (unhide HF).symm, rfl⟩
    · have HF := hide (intsB_len (xs := xs) (fun j h => unhide HA j h (by omega)))
      go_wp2
      go_ret
      exact ⟨ret_bool (by rw [unhide HF, Bool.eq_iff_iff]; simp; omega), rfl⟩

end Go.Proofs.Ytdigphemaccodab

/- A law on append: one element more at the end of a row of the call's own. -/
namespace Go.Proofs.Ytdigphemaccodab
open Go.RowKit
set_option linter.unusedVariables false
section
variable {P : Program}

theorem keep_grown {S : Nat → Prop} {w w' : World} {row : Option Nat} (h : w.grownBy w' row) (hs : ∀ k, row = some k → S k) : Keep S w w' :=
  ⟨h.os, h.tape, h.output, h.size, fun k hk hn => h.block k hk (fun e => hn (hs k e.symm))⟩

theorem run_append_one (w : World) (B : Nat) (t ty e : TypeId) (i : TypeInfo) (z : Value) (size bytes : Nat) (ht : P.underlying t = some (.slice e)) (hi : P.info? e = some i) (hz : i.zero = some z)
    (hsize : i.size = size) (hby : i.bytes = bytes) (hzs : z.cells.size = size) (hsz : 0 < size)
    (qo : Option Addr) (n cap : Nat) (xs : List Value) (h : OwnR w B e size (.slice qo n cap) n xs) (hB : B ≤ w.heap.size)
    (ad : Addr) (c : Nat) (news : List Value) (hl : news.length = size) (hnews : ∀ j u, news[j]? = some u → w.cell? (ad.add j) = some u) (h1 : ∀ u ∈ news, u.oneCell' = true)
    (b1 : n + 1 ≤ maxLen) (b2 : (n + 1) * bytes ≤ 140737488355328) :
    ∃ g cap' w', (Builtin.append_ #[t, t] ty #[.slice qo n cap, .slice (some ad) 1 c]).run P w = .ok (.slice (some ⟨g, 0, none⟩) (n + 1) cap') w' ∧
      w'.ownsRow B e size (.slice (some ⟨g, 0, none⟩) (n + 1) cap') (n + 1) (xs ++ news) ∧ Keep (Own (.slice qo n cap)) w w' := by
  rcases h with ⟨rfl, rfl, ao, hv⟩ | ⟨h0, h⟩
  · simp only [Value.slice.injEq, true_and] at hv
    obtain ⟨rfl, rfl⟩ := hv
    cases qo with
    | none =>
      obtain ⟨v', w', hrun, r1, r2, _⟩ := run_append_own (P := P) w B t ty e i z size bytes ht hi hz hsize hby hzs hsz (.slice none 0 0) 0 [] (World.ownsRow_nil w _ e size) ad 1 c news (by omega) hnews h1 b1 b2 hB
      obtain ⟨g, cap, cur, rfl, _, _⟩ := own_form (by omega) r1
      exact ⟨g, cap, w', hrun, r1, keep_grown r2 (fun k hk => by cases hk)⟩
    | some d =>
      obtain ⟨v', w', hrun, r1, r2⟩ := run_append_arg_grows (P := P) w t ty e i z size bytes ht hi hz hsize hby hzs hsz d 0 0 [] (by simp) (by simp) ad 1 c news (by omega) hnews (by omega) b1 b2
      obtain ⟨g, cap, cur, rfl, _, _⟩ := own_form (by omega) r1
      exact ⟨g, cap, w', hrun, own_base r1 hB, keep_grown r2 (fun k hk => by cases hk)⟩
  · obtain ⟨g0, cap0, cur0, e0, _, _⟩ := own_form h0 h
    rw [e0] at h
    obtain ⟨v', w', hrun, r1, r2, _⟩ := run_append_own (P := P) w B t ty e i z size bytes ht hi hz hsize hby hzs hsz _ n xs h ad 1 c news (by omega) hnews h1 b1 b2 hB
    obtain ⟨g, cap, cur, rfl, _, _⟩ := own_form (by omega) r1
    rw [e0]
    exact ⟨g, cap, w', hrun, r1, keep_grown r2 (fun k hk => by cases hk; exact own_of h0 rfl)⟩

theorem wpList_append_one {w : World} {ops : Array Oper} {rest : List Oper} {o : Oper} {a : Act} {Q : Exit → Act → World → Prop} (hgd : o.guard = none) (s x : Operand) (t : TypeId)
    (ho : o.op = .call { callee := .builtin .append, args := #[s, x], argTypes := #[t, t] })
    (B : Nat) (e : TypeId) (i : TypeInfo) (z : Value) (size bytes : Nat) (ht : P.underlying t = some (.slice e)) (hi : P.info? e = some i) (hz : i.zero = some z)
    (hsize : i.size = size) (hby : i.bytes = bytes) (hzs : z.cells.size = size) (hsz : 0 < size)
    (qo : Option Addr) (n cap : Nat) (xs : List Value) (hs : a.eval s = .slice qo n cap) (h : OwnR w B e size (.slice qo n cap) n xs) (hB : B ≤ w.heap.size)
    (ad : Addr) (c : Nat) (news : List Value) (hx : a.eval x = .slice (some ad) 1 c) (hl : news.length = size) (hnews : ∀ j u, news[j]? = some u → w.cell? (ad.add j) = some u) (h1 : ∀ u ∈ news, u.oneCell' = true)
    (b1 : n + 1 ≤ maxLen) (b2 : (n + 1) * bytes ≤ 140737488355328)
    (hK : ∀ g cap' w', w'.ownsRow B e size (.slice (some ⟨g, 0, none⟩) (n + 1) cap') (n + 1) (xs ++ news) → Keep (Own (.slice qo n cap)) w w' → wpList P ops Q rest (a.put o.dst (.slice (some ⟨g, 0, none⟩) (n + 1) cap')) w') : wpList P ops Q (o :: rest) a w := by
  refine wpList_plain hgd fun K hK' => ?_
  obtain ⟨g, cap', w', hrun, r1, r2⟩ := run_append_one (P := P) w B t o.type e i z size bytes ht hi hz hsize hby hzs hsz qo n cap xs h hB ad c news hl hnews h1 b1 b2
  unfold Oper.wp
  simp [execOp, ho, resolve, invoke, builtin, hs, hx, hrun, Result.andThen]
  exact hK' _ _ (hK _ _ _ r1 r2)

theorem step_append_one {w : World} {ops : Array Oper} {o : Oper} {a : Act} {K : Act → World → Prop} {Q : Exit → Act → World → Prop} {E : Prop} (hgd : o.guard = none) (s x : Operand) (t : TypeId)
    (ho : o.op = .call { callee := .builtin .append, args := #[s, x], argTypes := #[t, t] })
    (B : Nat) (e : TypeId) (i : TypeInfo) (z : Value) (size bytes : Nat) (ht : P.underlying t = some (.slice e)) (hi : P.info? e = some i) (hz : i.zero = some z)
    (hsize : i.size = size) (hby : i.bytes = bytes) (hzs : z.cells.size = size) (hsz : 0 < size)
    (qo : Option Addr) (n cap : Nat) (xs : List Value) (hs : a.eval s = .slice qo n cap) (h : OwnR w B e size (.slice qo n cap) n xs) (hB : B ≤ w.heap.size)
    (ad : Addr) (c : Nat) (news : List Value) (hx : a.eval x = .slice (some ad) 1 c) (hl : news.length = size) (hnews : ∀ j u, news[j]? = some u → w.cell? (ad.add j) = some u) (h1 : ∀ u ∈ news, u.oneCell' = true)
    (b1 : n + 1 ≤ maxLen) (b2 : (n + 1) * bytes ≤ 140737488355328)
    (hK : ∀ g cap' w', w'.ownsRow B e size (.slice (some ⟨g, 0, none⟩) (n + 1) cap') (n + 1) (xs ++ news) → Keep (Own (.slice qo n cap)) w w' → K (a.put o.dst (.slice (some ⟨g, 0, none⟩) (n + 1) cap')) w') :
    if Region.wanted o (yielded ops a.tmps) = true then Oper.wp P o a w K Q else E := by
  have hw : Region.wanted o (yielded ops a.tmps) = true := by simp [Region.wanted, hgd]
  rw [if_pos hw]
  obtain ⟨g, cap', w', hrun, r1, r2⟩ := run_append_one (P := P) w B t o.type e i z size bytes ht hi hz hsize hby hzs hsz qo n cap xs h hB ad c news hl hnews h1 b1 b2
  unfold Oper.wp
  simp [execOp, ho, resolve, invoke, builtin, hs, hx, hrun, Result.andThen]
  exact hK _ _ _ r1 r2
theorem step_append_at {w : World} {ops : Array Oper} {o : Oper} {a : Act} {K : Act → World → Prop} {Q : Exit → Act → World → Prop} {E : Prop} (hgd : o.guard = none) (s x : Operand) (t : TypeId)
    (ho : o.op = .call { callee := .builtin .append, args := #[s, x], argTypes := #[t, t] })
    (B : Nat) (e : TypeId) (i : TypeInfo) (z : Value) (size bytes : Nat) (ht : P.underlying t = some (.slice e)) (hi : P.info? e = some i) (hz : i.zero = some z)
    (hsize : i.size = size) (hby : i.bytes = bytes) (hzs : z.cells.size = size) (hsz : 0 < size)
    (qo : Option Addr) (n cap : Nat) (xs : List Value) (hs : a.eval s = .slice qo n cap) (h : OwnR w B e size (.slice qo n cap) n xs) (hB : B ≤ w.heap.size)
    (news : List Value) (hx : ∃ y c, a.eval x = .slice (some ⟨y, 0, none⟩) 1 c ∧ ∀ j u, news[j]? = some u → w.cell? ((⟨y, 0, none⟩ : Addr).add j) = some u) (hl : news.length = size) (h1 : ∀ u ∈ news, u.oneCell' = true)
    (b1 : n + 1 ≤ maxLen) (b2 : (n + 1) * bytes ≤ 140737488355328)
    (hK : ∀ g cap' w', w'.ownsRow B e size (.slice (some ⟨g, 0, none⟩) (n + 1) cap') (n + 1) (xs ++ news) → Keep (Own (.slice qo n cap)) w w' → K (a.put o.dst (.slice (some ⟨g, 0, none⟩) (n + 1) cap')) w') :
    if Region.wanted o (yielded ops a.tmps) = true then Oper.wp P o a w K Q else E := by
  obtain ⟨y, c, hx, hnews⟩ := hx
  exact step_append_one hgd s x t ho B e i z size bytes ht hi hz hsize hby hzs hsz qo n cap xs hs h hB ⟨y, 0, none⟩ c news hx hl hnews h1 b1 b2 hK
end
end Go.Proofs.Ytdigphemaccodab

/- Rows of numbers that a call made; ends of calls. -/
namespace Go.Proofs.Ytdigphemaccodab
open Go.RowKit
set_option linter.unusedVariables false

theorem infoM : (Try.prog.info? 3).map (fun i => (i.zero, i.size, i.bytes)) = some (some (.int .i64 0), 1, 8) := by kernel_rfl
theorem int_one (n : Int) : ∀ u ∈ [Value.int .i64 n], u.oneCell' = true := by
  intro u hu
  simp at hu
  subst hu
  rfl

/-- A row of numbers that the call made. -/
def OwnN (w : World) (B : Nat) (v : Value) (xs : List Int) : Prop := ∃ qo qa, v = .slice qo xs.length qa ∧ OwnR w B 3 1 (.slice qo xs.length qa) xs.length (intV xs)
theorem OwnN.below {w w' : World} {B : Nat} {v : Value} {xs : List Int} (h : OwnN w B v xs) (hb : Below w.heap.size w w') : OwnN w' B v xs := by
  obtain ⟨qo, qa, e, ho⟩ := h
  exact ⟨qo, qa, e, ho.below hb⟩
theorem OwnN.base {w : World} {B B' : Nat} {v : Value} {xs : List Int} (h : OwnN w B v xs) (hB : B' ≤ B) : OwnN w B' v xs := by
  obtain ⟨qo, qa, e, ho⟩ := h
  exact ⟨qo, qa, e, ho.base hB⟩
theorem OwnN.nil (w : World) (B : Nat) (ao : Option Addr) : OwnN w B (.slice ao 0 0) [] := ⟨ao, 0, rfl, .inl ⟨rfl, rfl, ao, rfl⟩⟩

theorem ret_nb {v u : Value} {a b : Bool} (h : v = u) (k : a = b) : Ending.returned (.tuple #[v, .bool a]) = .returned (.tuple #[u, .bool b]) := by rw [h, k]
theorem ret_ni {v u : Value} {a b : Int} (h : v = u) (k : a = b) : Ending.returned (.tuple #[v, .int .i64 a]) = .returned (.tuple #[u, .int .i64 b]) := by rw [h, k]

theorem ret_two2 {a b c d : Int} (h : a = b) (k : c = d) : Ending.returned (.tuple #[.int .i64 a, .int .i64 c]) = .returned (.tuple #[.int .i64 b, .int .i64 d]) := by rw [h, k]

end Go.Proofs.Ytdigphemaccodab

/- Contract of spec.l02Unpack. -/
namespace Go.Proofs.Ytdigphemaccodab
open Go.RowKit
set_option linter.unusedVariables false
set_option maxRecDepth 100000

end Go.Proofs.Ytdigphemaccodab

/- Contracts of SumOf, of the program and of its model. -/
namespace Go.Proofs.Ytdigphemaccodab
open Go.RowKit
set_option linter.unusedVariables false
set_option maxRecDepth 100000

end Go.Proofs.Ytdigphemaccodab

/- Contracts of spec.l02Pack and impl.packNumbers. -/
namespace Go.Proofs.Ytdigphemaccodab
open Go.RowKit
set_option linter.unusedVariables false

theorem infoB : (Try.prog.info? 5).map (fun i => (i.zero, i.size, i.bytes)) = some (some (.int .u8 0), 1, 1) := by kernel_rfl

theorem ret_str {a b : ByteArray} (h : a = b) : Ending.returned (.string a) = .returned (.string b) := by rw [h]

end Go.Proofs.Ytdigphemaccodab

/- Contracts of the model's l02Kind, l02Seal. -/
namespace Go.Proofs.Ytdigphemaccodab
open Go.RowKit
set_option linter.unusedVariables false
set_option maxRecDepth 100000

end Go.Proofs.Ytdigphemaccodab

/- Contracts of the model's readers of records: l02Open, OpenRecord, KindOf. -/
namespace Go.Proofs.Ytdigphemaccodab
open Go.RowKit
set_option linter.unusedVariables false
set_option maxRecDepth 100000

/-- What l02Open answers. -/
def openB (s : ByteArray) (k : Int) : Bool := recB s && decide (byteAt s 0 = k)
def openL (s : ByteArray) (k : Int) : List Int := if openB s k = true then unL (bodyT s) else []
theorem openB_no {s : ByteArray} {k : Int} (h : ¬ RecP s) : openB s k = false := by rw [openB, recB_false h]; rfl
theorem openB_kind {s : ByteArray} {k : Int} (h : byteAt s 0 ≠ k) : openB s k = false := by rw [openB, decide_eq_false h]; simp
theorem openB_yes {s : ByteArray} {k : Int} (h : RecP s) (hk : byteAt s 0 = k) : openB s k = true := by rw [openB, recB_true h, decide_eq_true hk]; rfl
theorem openL_no {s : ByteArray} {k : Int} (h : openB s k = false) : openL s k = [] := if_neg (by simp [h])
theorem openL_yes {s : ByteArray} {k : Int} (h : openB s k = true) : openL s k = unL (bodyT s) := if_pos h

end Go.Proofs.Ytdigphemaccodab

/- Plain words of the ballots' blocks: what a right one is, its text, what a text says; rows of blocks. -/
namespace Go.Proofs.Ytdigphemaccodab
open Go.RowKit
set_option linter.unusedVariables false

abbrev bV (x : Bk) : Value := .agg #[.int .i64 x.ver, .int .i64 x.mbal, .int .i64 x.bal, .int .i64 x.inp]
def bkB (x : Bk) : Bool := inB x.ver 0 1000000 && (inB x.mbal 0 1000000 && (inB x.bal 0 x.mbal && (numB x.inp && (decide (0 < x.bal) || decide (x.inp = 0)))))
theorem bkB_iff {x : Bk} : bkB x = true ↔ (0 ≤ x.ver ∧ x.ver ≤ 1000000) ∧ (0 ≤ x.mbal ∧ x.mbal ≤ 1000000) ∧ (0 ≤ x.bal ∧ x.bal ≤ x.mbal) ∧ (0 ≤ x.inp ∧ x.inp ≤ 2147483647) ∧ (0 < x.bal ∨ x.inp = 0) := by
  simp only [bkB, numB, inB, Bool.and_eq_true, Bool.or_eq_true, decide_eq_true_eq]
theorem bkB_1 {x : Bk} (e : inB x.ver 0 1000000 = false) : bkB x = false := by simp [bkB, e]
theorem bkB_2 {x : Bk} (e : inB x.mbal 0 1000000 = false) : bkB x = false := by simp [bkB, e]
theorem bkB_3 {x : Bk} (e : inB x.bal 0 x.mbal = false) : bkB x = false := by simp [bkB, e]
theorem bkB_4 {x : Bk} (e : numB x.inp = false) : bkB x = false := by simp [bkB, e]
theorem bkB_5 {x : Bk} (e1 : inB x.ver 0 1000000 = true) (e2 : inB x.mbal 0 1000000 = true) (e3 : inB x.bal 0 x.mbal = true) (e4 : numB x.inp = true) : bkB x = (decide (0 < x.bal) || decide (x.inp = 0)) := by simp [bkB, e1, e2, e3, e4]
/-- Its text. -/
def encB (x : Bk) : ByteArray := sealS 5 [x.ver, x.mbal, x.bal, x.inp]
theorem encB_size (x : Bk) : (encB x).size = 20 := by rw [encB, sealS_size]; rfl
def ebC (x : Bk) : Int := if bkB x = true then 0 else 1
def ebR (x : Bk) : ByteArray := if bkB x = true then encB x else ⟨#[]⟩
theorem ret_se {a b : ByteArray} {c d : Int} (h : a = b) (k : c = d) : Ending.returned (.tuple #[.string a, .int .i64 c]) = .returned (.tuple #[.string b, .int .i64 d]) := by rw [h, k]
/-- What a text says. -/
def bdL (t : ByteArray) : List Int := openL t 5
def bk4 (l : List Int) : Bk := ⟨l.getD 0 0, l.getD 1 0, l.getD 2 0, l.getD 3 0⟩
def bdB (t : ByteArray) : Bool := openB t 5 && (decide ((bdL t).length = 4) && bkB (bk4 (bdL t)))
def bdK (t : ByteArray) : Bk := if bdB t = true then bk4 (bdL t) else bk0
theorem bdB_open {t : ByteArray} (h : openB t 5 = false) : bdB t = false := by simp [bdB, h]
theorem bdB_len {t : ByteArray} (h : ¬ (bdL t).length = 4) : bdB t = false := by simp [bdB, h]
theorem bdB_at {t : ByteArray} {a b c d : Int} (h : openB t 5 = true) (hl : bdL t = [a, b, c, d]) : bdB t = bkB ⟨a, b, c, d⟩ := by
  have e : bk4 (bdL t) = ⟨a, b, c, d⟩ := by rw [hl]; rfl
  simp [bdB, h, e]
  rw [hl]; simp
theorem bd_no {t : ByteArray} (h : bdB t = false) : bdK t = bk0 := by simp [bdK, h]
theorem bd_yes {t : ByteArray} {a b c d : Int} (h : bdB t = true) (hl : bdL t = [a, b, c, d]) : bdK t = ⟨a, b, c, d⟩ := by rw [bdK, if_pos h, hl]; rfl
theorem fourK {l : List Int} (h : l.length = 4) : ∃ a b c d, l = [a, b, c, d] := by
  match l, h with
  | [a, b, c, d], _ => exact ⟨a, b, c, d, rfl⟩
theorem bd_right {t : ByteArray} (h : bdB t = true) : bkB (bdK t) = true := by
  have h' := h
  simp only [bdB, Bool.and_eq_true, decide_eq_true_eq] at h'
  rw [bdK, if_pos h]; exact h'.2.2
/-- What DecodeBlock answers. -/
def bcC (t : ByteArray) : Int := if 65536 < t.size then 2 else if bdB t = true then 0 else 3
def bcK (t : ByteArray) : Bk := if 65536 < t.size then bk0 else bdK t
theorem bc_long {t : ByteArray} (h : 65536 < t.size) : bcK t = bk0 ∧ bcC t = 2 := ⟨if_pos h, if_pos h⟩
theorem bc_no {t : ByteArray} (h : ¬ 65536 < t.size) (hd : bdB t = false) : bcK t = bk0 ∧ bcC t = 3 := ⟨(if_neg h).trans (bd_no hd), (if_neg h).trans (if_neg (by simp [hd]))⟩
theorem bc_yes {t : ByteArray} (h : ¬ 65536 < t.size) (hd : bdB t = true) : bcK t = bdK t ∧ bcC t = 0 := ⟨if_neg h, (if_neg h).trans (if_pos hd)⟩
theorem ret_bi {a b : Bk} {x y : Int} (h : a = b) (k : x = y) : Ending.returned (.tuple #[bV a, .int .i64 x]) = .returned (.tuple #[bV b, .int .i64 y]) := by rw [h, k]
theorem ret_bb {a b : Bk} {x y : Bool} (h : a = b) (k : x = y) : Ending.returned (.tuple #[bV a, .bool x]) = .returned (.tuple #[bV b, .bool y]) := by rw [h, k]

/-- One in a variable. -/
def VarB (w : World) (x : Nat) (t : TypeId) (b : Bk) : Prop := w.heap[x]? = some (.cells #[.int .i64 b.ver, .int .i64 b.mbal, .int .i64 b.bal, .int .i64 b.inp] t (0, 0))
theorem VarB.lt {w : World} {x t : Nat} {b : Bk} (k : VarB w x t b) : x < w.heap.size := (Array.getElem?_eq_some_iff.1 k).1
theorem VarB.cells {w : World} {x t : Nat} {b : Bk} (k : VarB w x t b) : w.cell? ⟨x, 0, none⟩ = some (.int .i64 b.ver) ∧ w.cell? ⟨x, 1, none⟩ = some (.int .i64 b.mbal) ∧ w.cell? ⟨x, 2, none⟩ = some (.int .i64 b.bal) ∧ w.cell? ⟨x, 3, none⟩ = some (.int .i64 b.inp) := ⟨by rw [Joins.cell_of_block k]; rfl, by rw [Joins.cell_of_block k]; rfl, by rw [Joins.cell_of_block k]; rfl, by rw [Joins.cell_of_block k]; rfl⟩
theorem VarB.free {w : World} {x t : Nat} {b : Bk} (k : VarB w x t b) : w.frozen? ⟨x, 0, none⟩ = false ∧ w.frozen? ⟨x, 1, none⟩ = false ∧ w.frozen? ⟨x, 2, none⟩ = false ∧ w.frozen? ⟨x, 3, none⟩ = false := ⟨Joins.unfrozen_of_block k 0, Joins.unfrozen_of_block k 1, Joins.unfrozen_of_block k 2, Joins.unfrozen_of_block k 3⟩
theorem VarB.below {w w' : World} {x t : Nat} {b : Bk} (k : VarB w x t b) (hb : Below w.heap.size w w') : VarB w' x t b := by
  unfold VarB; rw [hb.block x k.lt]; exact k
theorem VarB.keep {S : Nat → Prop} {w w' : World} {x t : Nat} {b : Bk} (k : VarB w x t b) (hk : Keep S w w') (hs : ¬ S x) : VarB w' x t b := by
  unfold VarB; rw [hk.block x k.lt hs]; exact k
theorem VarB.new (w : World) (t : TypeId) (b : Bk) : VarB (w.alloc (.cells #[.int .i64 b.ver, .int .i64 b.mbal, .int .i64 b.bal, .int .i64 b.inp] t)) w.heap.size t b := heap_alloc_new w _
theorem VarB.new0 (w : World) (t : TypeId) : VarB (w.alloc (.cells #[.int .i64 0, .int .i64 0, .int .i64 0, .int .i64 0] t)) w.heap.size t bk0 := heap_alloc_new w _
theorem below4 {w0 w : World} {B g : Nat} (h : Below B w0 w) (hg : B ≤ g) (i j k l : Nat) (u v x y : Value) : Below B w0 ((((w.setCell ⟨g, i, none⟩ u).setCell ⟨g, j, none⟩ v).setCell ⟨g, k, none⟩ x).setCell ⟨g, l, none⟩ y) :=
  (below3 h hg i j k u v x).setCell (p := ⟨g, l, none⟩) hg y
theorem is4 (w : World) (n : Nat) (t : TypeId) (a b c d : Int) (hn : w.heap.size = n) : Is (w.alloc (.cells #[.int .i64 a, .int .i64 b, .int .i64 c, .int .i64 d] t)) (some ⟨n, 0, none⟩) [a, b, c, d] := by
  subst hn
  intro i hi
  have hi' : i < 4 := hi
  refine ⟨w.heap.size, 0, rfl, ?_⟩
  rcases (show i = 0 ∨ i = 1 ∨ i = 2 ∨ i = 3 by omega) with rfl | rfl | rfl | rfl <;> simp [go_sem]
theorem b4_nums {x : Bk} (hd : bkB x = true) : ∀ j (hj : j < [x.ver, x.mbal, x.bal, x.inp].length), 0 ≤ [x.ver, x.mbal, x.bal, x.inp][j] ∧ [x.ver, x.mbal, x.bal, x.inp][j] ≤ 2147483647 := by
  obtain ⟨h1, h2, h3, h4, _⟩ := bkB_iff.1 hd
  intro j hj
  have hj' : j < 4 := hj
  rcases (show j = 0 ∨ j = 1 ∨ j = 2 ∨ j = 3 by omega) with rfl | rfl | rfl | rfl <;> simp <;> omega
theorem b4_ints {x : Bk} (hd : bkB x = true) : intsB [x.ver, x.mbal, x.bal, x.inp] = true := by
  obtain ⟨h1, h2, h3, h4, _⟩ := bkB_iff.1 hd
  rw [intsB_len]
  · rfl
  · intro j hj
    have hj' : j < 4 := hj
    rcases (show j = 0 ∨ j = 1 ∨ j = 2 ∨ j = 3 by omega) with rfl | rfl | rfl | rfl <;> simp [numB, inB] <;> omega
theorem b4_seal {x : Bk} (hd : bkB x = true) : sealC 5 [x.ver, x.mbal, x.bal, x.inp] = 0 ∧ sealT 5 [x.ver, x.mbal, x.bal, x.inp] = encB x := by
  have hc : sealC 5 [x.ver, x.mbal, x.bal, x.inp] = 0 := sealC_ok (listC_ok (by simp) (b4_ints hd)) rfl
  exact ⟨hc, sealT_ok hc⟩

end Go.Proofs.Ytdigphemaccodab

/- Plain words of a host's ballot: what a right one is; one in a variable; rows of blocks. -/
namespace Go.Proofs.Ytdigphemaccodab
open Go.RowKit
set_option linter.unusedVariables false

abbrev pV (p : Pxs) : Value := .agg #[.int .i64 p.host, .int .i64 p.ver, .int .i64 p.phase, .int .i64 p.ballot, .int .i64 p.value, .int .i64 p.next, .int .i64 p.best, .int .i64 p.bestBal]
def pxB (p : Pxs) : Bool := inB p.host 0 3 && (inB p.ver 0 1000000 && (inB p.phase 1 6 && (inB p.ballot 1 1000000 && (decide (p.ballot % 4 = p.host) && (numB p.value && (inB p.next 0 4 && (numB p.best && inB p.bestBal 0 1000000)))))))
theorem pxB_iff {p : Pxs} : pxB p = true ↔ (0 ≤ p.host ∧ p.host ≤ 3) ∧ (0 ≤ p.ver ∧ p.ver ≤ 1000000) ∧ (1 ≤ p.phase ∧ p.phase ≤ 6) ∧ (1 ≤ p.ballot ∧ p.ballot ≤ 1000000) ∧ p.ballot % 4 = p.host ∧ (0 ≤ p.value ∧ p.value ≤ 2147483647) ∧ (0 ≤ p.next ∧ p.next ≤ 4) ∧ (0 ≤ p.best ∧ p.best ≤ 2147483647) ∧ 0 ≤ p.bestBal ∧ p.bestBal ≤ 1000000 := by
  simp only [pxB, numB, inB, Bool.and_eq_true, decide_eq_true_eq]
def p00 : Pxs := ⟨0, 0, 0, 0, 0, 0, 0, 0⟩

def VarP (w : World) (x : Nat) (t : TypeId) (p : Pxs) : Prop := w.heap[x]? = some (.cells #[.int .i64 p.host, .int .i64 p.ver, .int .i64 p.phase, .int .i64 p.ballot, .int .i64 p.value, .int .i64 p.next, .int .i64 p.best, .int .i64 p.bestBal] t (0, 0))
theorem VarP.lt {w : World} {x t : Nat} {p : Pxs} (k : VarP w x t p) : x < w.heap.size := (Array.getElem?_eq_some_iff.1 k).1
theorem VarP.cells {w : World} {x t : Nat} {p : Pxs} (k : VarP w x t p) : w.cell? ⟨x, 0, none⟩ = some (.int .i64 p.host) ∧ w.cell? ⟨x, 1, none⟩ = some (.int .i64 p.ver) ∧ w.cell? ⟨x, 2, none⟩ = some (.int .i64 p.phase) ∧ w.cell? ⟨x, 3, none⟩ = some (.int .i64 p.ballot) ∧ w.cell? ⟨x, 4, none⟩ = some (.int .i64 p.value) ∧ w.cell? ⟨x, 5, none⟩ = some (.int .i64 p.next) ∧ w.cell? ⟨x, 6, none⟩ = some (.int .i64 p.best) ∧ w.cell? ⟨x, 7, none⟩ = some (.int .i64 p.bestBal) := ⟨by rw [Joins.cell_of_block k]; rfl, by rw [Joins.cell_of_block k]; rfl, by rw [Joins.cell_of_block k]; rfl, by rw [Joins.cell_of_block k]; rfl, by rw [Joins.cell_of_block k]; rfl, by rw [Joins.cell_of_block k]; rfl, by rw [Joins.cell_of_block k]; rfl, by rw [Joins.cell_of_block k]; rfl⟩
theorem VarP.free {w : World} {x t : Nat} {p : Pxs} (k : VarP w x t p) : w.frozen? ⟨x, 0, none⟩ = false ∧ w.frozen? ⟨x, 1, none⟩ = false ∧ w.frozen? ⟨x, 2, none⟩ = false ∧ w.frozen? ⟨x, 3, none⟩ = false ∧ w.frozen? ⟨x, 4, none⟩ = false ∧ w.frozen? ⟨x, 5, none⟩ = false ∧ w.frozen? ⟨x, 6, none⟩ = false ∧ w.frozen? ⟨x, 7, none⟩ = false := ⟨Joins.unfrozen_of_block k 0, Joins.unfrozen_of_block k 1, Joins.unfrozen_of_block k 2, Joins.unfrozen_of_block k 3, Joins.unfrozen_of_block k 4, Joins.unfrozen_of_block k 5, Joins.unfrozen_of_block k 6, Joins.unfrozen_of_block k 7⟩
theorem VarP.below {w w' : World} {x t : Nat} {p : Pxs} (k : VarP w x t p) (hb : Below w.heap.size w w') : VarP w' x t p := by
  unfold VarP; rw [hb.block x k.lt]; exact k
theorem VarP.keep {S : Nat → Prop} {w w' : World} {x t : Nat} {p : Pxs} (k : VarP w x t p) (hk : Keep S w w') (hs : ¬ S x) : VarP w' x t p := by
  unfold VarP; rw [hk.block x k.lt hs]; exact k
theorem VarP.new (w : World) (t : TypeId) (p : Pxs) : VarP (w.alloc (.cells #[.int .i64 p.host, .int .i64 p.ver, .int .i64 p.phase, .int .i64 p.ballot, .int .i64 p.value, .int .i64 p.next, .int .i64 p.best, .int .i64 p.bestBal] t)) w.heap.size t p := heap_alloc_new w _
theorem VarP.new0 (w : World) (t : TypeId) : VarP (w.alloc (.cells #[.int .i64 0, .int .i64 0, .int .i64 0, .int .i64 0, .int .i64 0, .int .i64 0, .int .i64 0, .int .i64 0] t)) w.heap.size t p00 := heap_alloc_new w _
theorem set_heap {w : World} {k t i : Nat} {a : Array Value} (h : w.heap[k]? = some (.cells a t (0, 0))) (v : Value) : (w.setCell ⟨k, i, none⟩ v).heap[k]? = some (.cells (a.setIfInBounds i v) t (0, 0)) := by
  obtain ⟨hk, hf⟩ := Array.getElem?_eq_some_iff.1 h
  unfold World.setCell
  simp [hk]
  rw [Array.getElem_modify]
  simp [hf]
theorem VarP.set0 {w : World} {x t : Nat} {p : Pxs} (k : VarP w x t p) (n : Int) : VarP (w.setCell ⟨x, 0, none⟩ (.int .i64 n)) x t { p with host := n } := set_heap (i := 0) k _
theorem VarP.set1 {w : World} {x t : Nat} {p : Pxs} (k : VarP w x t p) (n : Int) : VarP (w.setCell ⟨x, 1, none⟩ (.int .i64 n)) x t { p with ver := n } := set_heap (i := 1) k _
theorem VarP.set2 {w : World} {x t : Nat} {p : Pxs} (k : VarP w x t p) (n : Int) : VarP (w.setCell ⟨x, 2, none⟩ (.int .i64 n)) x t { p with phase := n } := set_heap (i := 2) k _
theorem VarP.set3 {w : World} {x t : Nat} {p : Pxs} (k : VarP w x t p) (n : Int) : VarP (w.setCell ⟨x, 3, none⟩ (.int .i64 n)) x t { p with ballot := n } := set_heap (i := 3) k _
theorem VarP.set4 {w : World} {x t : Nat} {p : Pxs} (k : VarP w x t p) (n : Int) : VarP (w.setCell ⟨x, 4, none⟩ (.int .i64 n)) x t { p with value := n } := set_heap (i := 4) k _
theorem VarP.set5 {w : World} {x t : Nat} {p : Pxs} (k : VarP w x t p) (n : Int) : VarP (w.setCell ⟨x, 5, none⟩ (.int .i64 n)) x t { p with next := n } := set_heap (i := 5) k _
theorem VarP.set6 {w : World} {x t : Nat} {p : Pxs} (k : VarP w x t p) (n : Int) : VarP (w.setCell ⟨x, 6, none⟩ (.int .i64 n)) x t { p with best := n } := set_heap (i := 6) k _
theorem VarP.set7 {w : World} {x t : Nat} {p : Pxs} (k : VarP w x t p) (n : Int) : VarP (w.setCell ⟨x, 7, none⟩ (.int .i64 n)) x t { p with bestBal := n } := set_heap (i := 7) k _
theorem VarP.put {w : World} {x t : Nat} {p : Pxs} (k : VarP w x t p) (q : Pxs) : VarP ((((((((w.setCell ⟨x, 0, none⟩ (.int .i64 q.host)).setCell ⟨x, 1, none⟩ (.int .i64 q.ver)).setCell ⟨x, 2, none⟩ (.int .i64 q.phase)).setCell ⟨x, 3, none⟩ (.int .i64 q.ballot)).setCell ⟨x, 4, none⟩ (.int .i64 q.value)).setCell ⟨x, 5, none⟩ (.int .i64 q.next)).setCell ⟨x, 6, none⟩ (.int .i64 q.best)).setCell ⟨x, 7, none⟩ (.int .i64 q.bestBal)) x t q := (((((((k.set0 q.host).set1 q.ver).set2 q.phase).set3 q.ballot).set4 q.value).set5 q.next).set6 q.best).set7 q.bestBal

theorem below8 {w0 w : World} {B g : Nat} (h : Below B w0 w) (hg : B ≤ g) (u0 u1 u2 u3 u4 u5 u6 u7 : Value) : Below B w0 ((((((((w.setCell ⟨g, 0, none⟩ u0).setCell ⟨g, 1, none⟩ u1).setCell ⟨g, 2, none⟩ u2).setCell ⟨g, 3, none⟩ u3).setCell ⟨g, 4, none⟩ u4).setCell ⟨g, 5, none⟩ u5).setCell ⟨g, 6, none⟩ u6).setCell ⟨g, 7, none⟩ u7) :=
  (((((((h.setCell (p := ⟨g, 0, none⟩) hg u0).setCell (p := ⟨g, 1, none⟩) hg u1).setCell (p := ⟨g, 2, none⟩) hg u2).setCell (p := ⟨g, 3, none⟩) hg u3).setCell (p := ⟨g, 4, none⟩) hg u4).setCell (p := ⟨g, 5, none⟩) hg u5).setCell (p := ⟨g, 6, none⟩) hg u6).setCell (p := ⟨g, 7, none⟩) hg u7
theorem keep8 {S : Nat → Prop} {w0 w : World} {g : Nat} (h : Keep S w0 w) (hg : S g) (u0 u1 u2 u3 u4 u5 u6 u7 : Value) : Keep S w0 ((((((((w.setCell ⟨g, 0, none⟩ u0).setCell ⟨g, 1, none⟩ u1).setCell ⟨g, 2, none⟩ u2).setCell ⟨g, 3, none⟩ u3).setCell ⟨g, 4, none⟩ u4).setCell ⟨g, 5, none⟩ u5).setCell ⟨g, 6, none⟩ u6).setCell ⟨g, 7, none⟩ u7) :=
  (((((((h.setCell (p := ⟨g, 0, none⟩) hg u0).setCell (p := ⟨g, 1, none⟩) hg u1).setCell (p := ⟨g, 2, none⟩) hg u2).setCell (p := ⟨g, 3, none⟩) hg u3).setCell (p := ⟨g, 4, none⟩) hg u4).setCell (p := ⟨g, 5, none⟩) hg u5).setCell (p := ⟨g, 6, none⟩) hg u6).setCell (p := ⟨g, 7, none⟩) hg u7

/-- Of what was there only blocks of S have turned; what is new may. -/
theorem keepN {S : Nat → Prop} {a b c : World} (h : Keep S a b) {T : Nat → Prop} (k : Keep T b c) (hT : ∀ i, T i → S i ∨ a.heap.size ≤ i) : Keep S a c :=
  ⟨k.os.trans h.os, k.tape.trans h.tape, k.output.trans h.output, Nat.le_trans h.size k.size, fun i hi hs => (k.block i (Nat.lt_of_lt_of_le hi h.size) (fun ht => by rcases hT i ht with h1 | h1; exact hs h1; omega)).trans (h.block i hi hs)⟩

/-- A slice shows these blocks, four cells each. -/
def Bks (w : World) (ao : Option Addr) (xs : List Bk) : Prop := ∀ i (h : i < xs.length), ∃ b off, ao = some ⟨b, off, none⟩ ∧
  w.cell? ⟨b, off + i * 4, none⟩ = some (.int .i64 xs[i].ver) ∧ w.cell? ⟨b, off + i * 4 + 1, none⟩ = some (.int .i64 xs[i].mbal) ∧ w.cell? ⟨b, off + i * 4 + 2, none⟩ = some (.int .i64 xs[i].bal) ∧ w.cell? ⟨b, off + i * 4 + 3, none⟩ = some (.int .i64 xs[i].inp)
theorem Bks.below {w w' : World} {ao : Option Addr} {xs : List Bk} (h : Bks w ao xs) (hb : Below w.heap.size w w') : Bks w' ao xs := fun i hi => by
  obtain ⟨b, off, e, h0, h1, h2, h3⟩ := h i hi
  exact ⟨b, off, e, (hb.cell (p := ⟨b, off + i * 4, none⟩) (World.block_lt_of_cell? _ _ h0)).trans h0, (hb.cell (p := ⟨b, off + i * 4 + 1, none⟩) (World.block_lt_of_cell? _ _ h1)).trans h1, (hb.cell (p := ⟨b, off + i * 4 + 2, none⟩) (World.block_lt_of_cell? _ _ h2)).trans h2, (hb.cell (p := ⟨b, off + i * 4 + 3, none⟩) (World.block_lt_of_cell? _ _ h3)).trans h3⟩
def bksV (xs : List Bk) : List Value := xs.flatMap fun x => [.int .i64 x.ver, .int .i64 x.mbal, .int .i64 x.bal, .int .i64 x.inp]
theorem bksV_cons (x : Bk) (xs : List Bk) : bksV (x :: xs) = [.int .i64 x.ver, .int .i64 x.mbal, .int .i64 x.bal, .int .i64 x.inp] ++ bksV xs := rfl
theorem bksV_append (xs ys : List Bk) : bksV (xs ++ ys) = bksV xs ++ bksV ys := by simp [bksV]
theorem bksV_length (xs : List Bk) : (bksV xs).length = xs.length * 4 := by
  induction xs with
  | nil => rfl
  | cons x xs ih => simp only [bksV, List.flatMap_cons, List.length_append, List.length_cons, List.length_nil] at ih ⊢; omega
theorem bksV_get : ∀ {xs : List Bk} {i : Nat} (h : i < xs.length), (bksV xs)[i * 4]? = some (.int .i64 xs[i].ver) ∧ (bksV xs)[i * 4 + 1]? = some (.int .i64 xs[i].mbal) ∧ (bksV xs)[i * 4 + 2]? = some (.int .i64 xs[i].bal) ∧ (bksV xs)[i * 4 + 3]? = some (.int .i64 xs[i].inp)
  | [], _, h => absurd h (Nat.not_lt_zero _)
  | x :: xs, 0, _ => by simp [bksV_cons]
  | x :: xs, i + 1, h => by
    have ih := bksV_get (xs := xs) (i := i) (by simpa using h)
    rw [bksV_cons, show (i + 1) * 4 = i * 4 + 4 by omega]
    refine ⟨?_, ?_, ?_, ?_⟩
    · rw [List.getElem?_append_right (by simp)]; simpa using ih.1
    · rw [List.getElem?_append_right (by simp)]; simpa [Nat.add_right_comm] using ih.2.1
    · rw [List.getElem?_append_right (by simp)]; simpa [Nat.add_right_comm] using ih.2.2.1
    · rw [List.getElem?_append_right (by simp)]; simpa [Nat.add_right_comm] using ih.2.2.2
theorem bksV_set : ∀ {xs : List Bk} {i : Nat} (h : i < xs.length) (y : Bk), ((((bksV xs).set (i * 4) (.int .i64 y.ver)).set (i * 4 + 1) (.int .i64 y.mbal)).set (i * 4 + 2) (.int .i64 y.bal)).set (i * 4 + 3) (.int .i64 y.inp) = bksV (xs.set i y)
  | [], _, h, _ => absurd h (Nat.not_lt_zero _)
  | x :: xs, 0, _, y => by simp [bksV_cons]
  | x :: xs, i + 1, h, y => by
    have ih := bksV_set (xs := xs) (i := i) (by simpa using h) y
    rw [bksV_cons, List.set_cons_succ, bksV_cons, ← ih, show (i + 1) * 4 = i * 4 + 4 by omega]
    simp [List.set_cons_succ]
theorem bksV_one (xs : List Bk) : ∀ v ∈ bksV xs, v.oneCell' = true := by
  intro v hv
  simp only [bksV, List.mem_flatMap] at hv
  obtain ⟨x, _, hv⟩ := hv
  simp at hv
  rcases hv with rfl | rfl | rfl | rfl <;> rfl
theorem ownBks {w : World} {B e cap : Nat} {ao : Option Addr} {xs : List Bk} (h : OwnR w B e 4 (.slice ao xs.length cap) xs.length (bksV xs)) : Bks w ao xs := by
  rcases h with ⟨h0, _, _⟩ | ⟨h0, h⟩
  · intro i hi; omega
  rcases h.2 with ⟨e0, h0'⟩ | ⟨g, cap, cur, e0, hb, hg, hnc, hcm, hcs, ht⟩
  · omega
  · simp only [Value.slice.injEq, true_and] at e0
    obtain ⟨rfl, rfl⟩ := e0
    have g4 := fun i (hi : i < xs.length) => bksV_get hi
    refine fun i hi => ⟨g, 0, rfl, ?_, ?_, ?_, ?_⟩
    · rw [Nat.zero_add, h.cellAt _ (by omega)]; exact (g4 i hi).1
    · rw [Nat.zero_add, h.cellAt _ (by omega)]; exact (g4 i hi).2.1
    · rw [Nat.zero_add, h.cellAt _ (by omega)]; exact (g4 i hi).2.2.1
    · rw [Nat.zero_add, h.cellAt _ (by omega)]; exact (g4 i hi).2.2.2
theorem Bks.at {w : World} {ao : Option Addr} {xs : List Bk} (h : Bks w ao xs) (hp : 0 < xs.length) : ∃ b off, ao = some ⟨b, off, none⟩ ∧ b < w.heap.size ∧ ∀ j v, (bksV xs)[j]? = some v → w.cell? (Addr.add ⟨b, off, none⟩ j) = some v := by
  obtain ⟨b, off, rfl, h0, _⟩ := h 0 hp
  refine ⟨b, off, rfl, World.block_lt_of_cell? _ _ h0, fun j v hv => ?_⟩
  have hj : j < xs.length * 4 := by have := (List.getElem?_eq_some_iff.1 hv).1; rwa [bksV_length] at this
  obtain ⟨b', off', e, c0, c1, c2, c3⟩ := h (j / 4) (by omega)
  simp only [Option.some.injEq, Addr.mk.injEq, and_true] at e
  obtain ⟨rfl, rfl⟩ := e
  obtain ⟨g0, g1, g2, g3⟩ := bksV_get (xs := xs) (i := j / 4) (by omega)
  rw [show Addr.add ⟨b, off, none⟩ j = ⟨b, off + j, none⟩ from by unfold Addr.add; split <;> simp_all]
  rcases (show j = j / 4 * 4 ∨ j = j / 4 * 4 + 1 ∨ j = j / 4 * 4 + 2 ∨ j = j / 4 * 4 + 3 by omega) with e | e | e | e
  · rw [e] at hv ⊢; rw [g0] at hv; cases hv; exact c0
  · rw [e] at hv ⊢; rw [g1] at hv; cases hv; exact c1
  · rw [e] at hv ⊢; rw [g2] at hv; cases hv; exact c2
  · rw [e] at hv ⊢; rw [g3] at hv; cases hv; exact c3
theorem Bks.src {w : World} {ao : Option Addr} {xs : List Bk} (h : Bks w ao xs) : 0 < xs.length → ∃ ad, ao = some ad ∧ ∀ j u, (bksV xs)[j]? = some u → w.cell? (ad.add j) = some u := fun hp => by
  obtain ⟨b, off, rfl, _, hc⟩ := h.at hp
  exact ⟨_, rfl, hc⟩
/-- The element at a place, its address and its cells. -/
theorem Bks.get {w : World} {ao : Option Addr} {xs : List Bk} (h : Bks w ao xs) (i : Nat) (hi : i < xs.length) : ∃ b off, ao = some ⟨b, off, none⟩ ∧ b < w.heap.size ∧ w.cell? ⟨b, off + i * 4, none⟩ = some (.int .i64 (xs.getD i bk0).ver) ∧ w.cell? ⟨b, off + i * 4 + 1, none⟩ = some (.int .i64 (xs.getD i bk0).mbal) ∧ w.cell? ⟨b, off + i * 4 + 2, none⟩ = some (.int .i64 (xs.getD i bk0).bal) ∧ w.cell? ⟨b, off + i * 4 + 3, none⟩ = some (.int .i64 (xs.getD i bk0).inp) := by
  obtain ⟨b, off, e, h0, h1, h2, h3⟩ := h i hi
  have : xs.getD i bk0 = xs[i] := by simp [hi]
  rw [this]
  exact ⟨b, off, e, World.block_lt_of_cell? _ _ h0, h0, h1, h2, h3⟩

/-- What a call on a block has brought, in a variable. -/
structure Got (W0 W : World) (C : Nat) (t : TypeId) (b : Bk) : Prop where
  k : Below W0.heap.size W0 W
  v : VarB W C t b
  gt : W0.heap.size ≤ C
theorem Got.top {W0 W : World} (t : TypeId) (b : Bk) (h : Below W0.heap.size W0 W) : Got W0 (W.alloc (.cells #[.int .i64 b.ver, .int .i64 b.mbal, .int .i64 b.bal, .int .i64 b.inp] t)) W.heap.size t b :=
  ⟨fr h (Joins.below_alloc1 _ _), VarB.new _ _ _, h.size⟩
theorem VarB.put {w : World} {x t : Nat} {b : Bk} (k : VarB w x t b) (q : Bk) : VarB ((((w.setCell ⟨x, 0, none⟩ (.int .i64 q.ver)).setCell ⟨x, 1, none⟩ (.int .i64 q.mbal)).setCell ⟨x, 2, none⟩ (.int .i64 q.bal)).setCell ⟨x, 3, none⟩ (.int .i64 q.inp)) x t q := set_heap (i := 3) (set_heap (i := 2) (set_heap (i := 1) (set_heap (i := 0) k _) _) _) _
theorem Got.set {W0 W : World} {t : TypeId} {b : Bk} {C : Nat} (b0 : Bk) (h : Below W0.heap.size W0 W) (hv : VarB W C t b0) (hC : W0.heap.size ≤ C) : Got W0 ((((W.setCell ⟨C, 0, none⟩ (.int .i64 b.ver)).setCell ⟨C, 1, none⟩ (.int .i64 b.mbal)).setCell ⟨C, 2, none⟩ (.int .i64 b.bal)).setCell ⟨C, 3, none⟩ (.int .i64 b.inp)) C t b :=
  ⟨below4 h hC 0 1 2 3 _ _ _ _, hv.put b, hC⟩

end Go.Proofs.Ytdigphemaccodab

/- Contracts of laws.toBlock, laws.eqBlock, laws.toPx, laws.eqPx. -/
namespace Go.Proofs.Ytdigphemaccodab
open Go.RowKit
set_option linter.unusedVariables false
set_option maxRecDepth 100000

set_option maxHeartbeats 1600000 in
theorem toBlock_any (x : Bk) (w : World) : Calls Try.prog 39 #[bV x] w fun e w' => e = .returned (bV x) ∧ Below w.heap.size w w' := by
  go_enter Try.func39, Try.ntmps39
  go_wp2
  exact bodyPost_ret (v := bV x) (by simp [results, Try.results39, go_sem]) rfl ⟨rfl, fr (Joins.below_alloc2 _ _ _) (Joins.below_alloc1 _ _)⟩

set_option maxHeartbeats 1600000 in
theorem eqBlock_same (x : Bk) (w : World) : Calls Try.prog 43 #[bV x, bV x] w fun e w' => e = .returned (.bool true) ∧ Below w.heap.size w w' := by
  go_enter Try.func43, Try.ntmps43
  go_wp2
  go_ret
  exact ⟨rfl, Joins.below_alloc2 _ _ _⟩

set_option maxHeartbeats 1600000 in
theorem toPx_any (x : Pxs) (w : World) : Calls Try.prog 9 #[pV x] w fun e w' => e = .returned (pV x) ∧ Below w.heap.size w w' := by
  go_enter Try.func9, Try.ntmps9
  go_wp2
  exact bodyPost_ret (v := pV x) (by simp [results, Try.results9, go_sem]) rfl ⟨rfl, fr (Joins.below_alloc2 _ _ _) (Joins.below_alloc1 _ _)⟩

set_option maxHeartbeats 1600000 in
theorem eqPx_same (x : Pxs) (w : World) : Calls Try.prog 13 #[pV x, pV x] w fun e w' => e = .returned (.bool true) ∧ Below w.heap.size w w' := by
  go_enter Try.func13, Try.ntmps13
  go_wp2
  go_ret
  exact ⟨rfl, Joins.below_alloc2 _ _ _⟩

end Go.Proofs.Ytdigphemaccodab

/- Contracts of the laws' own hands on lists of blocks: toBlockS, eqBlockS, szBlockS, markBlockS, heldBlockS. -/
namespace Go.Proofs.Ytdigphemaccodab
open Go.RowKit
set_option linter.unusedVariables false
set_option maxRecDepth 100000

theorem infoT : (Try.prog.info? 55).map (fun i => (i.zero, i.size, i.bytes)) = some (some (.agg #[.int .i64 0, .int .i64 0, .int .i64 0, .int .i64 0]), 4, 32) := by kernel_rfl
theorem stored4 {w : World} {B e size g n cap : Nat} {xs : List Value} (h : w.ownsRow B e size (.slice (some ⟨g, 0, none⟩) n cap) n xs) (i j k l : Nat) (u v x y : Value) :
    ((((w.setCell ⟨g, i, none⟩ u).setCell ⟨g, j, none⟩ v).setCell ⟨g, k, none⟩ x).setCell ⟨g, l, none⟩ y).ownsRow B e size (.slice (some ⟨g, 0, none⟩) n cap) n ((((xs.set i u).set j v).set k x).set l y) :=
  ((stored3 h i j k u v x).stored l y).1
theorem bks_take {ys : List Value} {xs : List Bk} {k : Nat} (hk : k < xs.length) (hl : ys.length = xs.length * 4) (h : ys.take (k * 4) = (bksV xs).take (k * 4)) :
    ((((ys.set (k * 4) (.int .i64 xs[k].ver)).set (k * 4 + 1) (.int .i64 xs[k].mbal)).set (k * 4 + 2) (.int .i64 xs[k].bal)).set (k * 4 + 3) (.int .i64 xs[k].inp)).take ((k + 1) * 4) = (bksV xs).take ((k + 1) * 4) := by
  obtain ⟨h0, h1, h2, h3⟩ := bksV_get hk
  have e0 := set_take' (by rw [hl, bksV_length]) h0 h
  have e1 := set_take' (by rw [List.length_set, hl, bksV_length]) h1 e0
  have e2 := set_take' (by rw [List.length_set, List.length_set, hl, bksV_length]) h2 e1
  have e3 := set_take' (by rw [List.length_set, List.length_set, List.length_set, hl, bksV_length]) h3 e2
  rw [show (k + 1) * 4 = k * 4 + 3 + 1 by omega]
  exact e3

set_option maxHeartbeats 1600000 in
theorem toBlockS_any (ao : Option Addr) (cap : Nat) (xs : List Bk) (w : World) (hl : xs.length ≤ 1048576) (hc : Bks w ao xs) :
    Calls Try.prog 16 #[.slice ao xs.length cap] w fun e w' => ∃ g, e = .returned (.slice (some ⟨g, 0, none⟩) xs.length xs.length) ∧ w'.ownsRow w.heap.size 55 4 (.slice (some ⟨g, 0, none⟩) xs.length xs.length) xs.length (bksV xs) ∧ Below w.heap.size w w' := by
  have HC := hide hc
  clear hc
  obtain ⟨i0, hi, hz0, hz1, hz2⟩ := info_parts infoT
  go_enter Try.func16, Try.ntmps16
  go_wp2_with (first | (at_make; refine wpList_make_full _ rfl _ _ 34 rfl w.heap.size 55 i0 _ 4 Try.underlying34 hi hz0 hz1 _ _ _ _ xs.length rfl rfl rfl rfl ?c1 ?c2 ?c3 ?_))
  case c1 => rw [hz2]; omega
  case c2 => unfold maxLen; omega
  case c3 => exact Nat.le_refl _
  intro w1 hown hgrow
  have hB : Below w.heap.size w w1 := (Below.refl _ _).grown hgrow (Nat.le_refl _) (fun _ h => by cases h)
  have HO := hide hown
  have HB := hide hB
  clear hown hB hgrow
  go_wp2
  go_loopw [4] (fun i wr => ∃ (k : Nat) (ys : List Value), k ≤ xs.length ∧ i = .int .i64 k ∧ Hid (ys.length = xs.length * 4) ∧ Hid (ys.take (k * 4) = (bksV xs).take (k * 4)) ∧ Hid (wr.ownsRow w.heap.size 55 4 (.slice (some ⟨w.heap.size, 0, none⟩) xs.length xs.length) xs.length ys) ∧ Hid (Below w.heap.size w wr)) (fun i _ => xs.length - (intOf i).toNat)
  case atStart => exact ⟨0, _, Nat.zero_le _, rfl, hide (by rw [(unhide HO).1]), hide (by simp), HO, HB⟩
  case round =>
    obtain ⟨k, ys, hk, rfl, HL, HT, HO, HB⟩ := hrel
    by_cases hlt : k < xs.length
    · obtain ⟨b, off, rfl, hc0, hc1, hc2, hc3⟩ := (unhide HC).below (unhide HB) k hlt
      go_wp2_with fail
      refine (toBlock_any xs[k] _).mono ?_
      rintro e w2 ⟨rfl, hb2⟩
      have HO2 := hide (own_below (unhide HO) hb2)
      have HB2 := hide ((unhide HB).trans (hb2.mono (unhide HB).size))
      clear hb2
      have hf0 := (unhide HO2).frozenAt (k * 4)
      have hf1 := (unhide HO2).frozenAt (k * 4 + 1)
      have hf2 := (unhide HO2).frozenAt (k * 4 + 2)
      have hf3 := (unhide HO2).frozenAt (k * 4 + 3)
      obtain ⟨x0, hx0⟩ : ∃ x, w2.cell? ⟨w.heap.size, k * 4, none⟩ = some x := ⟨_, ((unhide HO2).cellAt (k * 4) (by omega)).trans (List.getElem?_eq_getElem (by rw [unhide HL]; omega))⟩
      obtain ⟨x1, hx1⟩ : ∃ x, w2.cell? ⟨w.heap.size, k * 4 + 1, none⟩ = some x := ⟨_, ((unhide HO2).cellAt (k * 4 + 1) (by omega)).trans (List.getElem?_eq_getElem (by rw [unhide HL]; omega))⟩
      obtain ⟨x2, hx2⟩ : ∃ x, w2.cell? ⟨w.heap.size, k * 4 + 2, none⟩ = some x := ⟨_, ((unhide HO2).cellAt (k * 4 + 2) (by omega)).trans (List.getElem?_eq_getElem (by rw [unhide HL]; omega))⟩
      obtain ⟨x3, hx3⟩ : ∃ x, w2.cell? ⟨w.heap.size, k * 4 + 3, none⟩ = some x := ⟨_, ((unhide HO2).cellAt (k * 4 + 3) (by omega)).trans (List.getElem?_eq_getElem (by rw [unhide HL]; omega))⟩
      have HST := hide (stored4 (unhide HO2) (k * 4) (k * 4 + 1) (k * 4 + 2) (k * 4 + 3) (.int .i64 xs[k].ver) (.int .i64 xs[k].mbal) (.int .i64 xs[k].bal) (.int .i64 xs[k].inp))
      have HBT := hide (below4 (unhide HB2) (Nat.le_refl _) (k * 4) (k * 4 + 1) (k * 4 + 2) (k * 4 + 3) (.int .i64 xs[k].ver) (.int .i64 xs[k].mbal) (.int .i64 xs[k].bal) (.int .i64 xs[k].inp))
      go_wp2
      go_roundw
      case rel => exact ⟨k + 1, _, by omega, by go_num, hide (by rw [List.length_set, List.length_set, List.length_set, List.length_set]; exact unhide HL), hide (bks_take hlt (unhide HL) (unhide HT)), HST, HBT⟩
      case measure => simp [intOf]; omega
    · go_wp2
      go_ret
      have hkn : k = xs.length := by omega
      subst hkn
      have hxs : ys = bksV xs := by
        have := unhide HT
        rwa [List.take_of_length_le (by rw [unhide HL]; exact Nat.le_refl _), List.take_of_length_le (by rw [bksV_length]; exact Nat.le_refl _)] at this
      subst hxs
      exact ⟨_, rfl, unhide HO, unhide HB⟩

set_option maxHeartbeats 1600000 in
theorem eqBlockS_same (ao bo : Option Addr) (ca cb : Nat) (xs : List Bk) (w : World) (hl : xs.length ≤ 1048576) (hc : Bks w ao xs) (hd : Bks w bo xs) :
    Calls Try.prog 18 #[.slice ao xs.length ca, .slice bo xs.length cb] w fun e w' => e = .returned (.bool true) ∧ Below w.heap.size w w' := by
  have HC := hide hc
  have HD := hide hd
  clear hc hd
  go_enter Try.func18, Try.ntmps18
  go_wp2
  go_loopw [5] (fun i wr => ∃ k : Nat, k ≤ xs.length ∧ i = .int .i64 k ∧ Hid (Below w.heap.size w wr)) (fun i _ => xs.length - (intOf i).toNat)
  case atStart => exact ⟨0, Nat.zero_le _, rfl, hide (Below.refl _ _)⟩
  case round =>
    obtain ⟨k, hk, rfl, HB⟩ := hrel
    by_cases hlt : k < xs.length
    · obtain ⟨b, off, rfl, hc0, hc1, hc2, hc3⟩ := (unhide HC).below (unhide HB) k hlt
      obtain ⟨b', off', rfl, hd0, hd1, hd2, hd3⟩ := (unhide HD).below (unhide HB) k hlt
      go_wp2
      go_region_with (go_at_call 43; refine (eqBlock_same _ _).mono ?_; rintro e w2 ⟨rfl, hb2⟩)
      all_goals
        have HB2 : Hid (Below w.heap.size w w2) := hide (Below.trans (by repeat (first | exact unhide HB | apply Below.drew)) (hb2.mono (unhide HB).size))
        clear hb2
        go_wp2
        go_roundw
        case rel => exact ⟨k + 1, by omega, by go_num, HB2⟩
        case measure => simp [intOf]; omega
    · go_wp2
      go_ret
      exact ⟨rfl, unhide HB⟩

set_option maxHeartbeats 1600000 in
theorem szBlockS_any (ao : Option Addr) (n cap : Nat) (left : Int) (w : World) (h1 : left = 1048576) (hl : n ≤ 9223372036854775807) :
    Calls Try.prog 14 #[.slice ao n cap, .int .i64 left] w fun e w' => e = .returned (.int .i64 (if n ≤ 1048576 then 1048576 - n else -1)) ∧ Below w.heap.size w w' := by
  subst h1
  have wr1 : IntKind.i64.wrap (1048576 - (n : Int)) = 1048576 - (n : Int) := by rw [IntKind.wrap_i64]; omega
  by_cases h : n ≤ 1048576
  · have hb : ¬ (1048576 - (n : Int) < 0) := by omega
    rw [if_pos h]
    clear h
    go_enter Try.func14, Try.ntmps14
    go_wp2
    go_ret
    exact ⟨rfl, Below.refl _ _⟩
  · have hb : (1048576 - (n : Int) < 0) := by omega
    rw [if_neg h]
    clear h
    go_enter Try.func14, Try.ntmps14
    go_wp2
    go_ret
    exact ⟨rfl, Below.refl _ _⟩

/-- The marks of a row of blocks. -/
def mkB (k n : Nat) : List Bk := (List.range n).map fun i => ⟨((k + i * 4 : Nat) : Int), ((k + i * 4 + 1 : Nat) : Int), ((k + i * 4 + 2 : Nat) : Int), ((k + i * 4 + 3 : Nat) : Int)⟩
theorem mkB_length (k n : Nat) : (mkB k n).length = n := by simp [mkB]
theorem mkB_at {k n j : Nat} (h : j < (mkB k n).length) : (mkB k n)[j] = ⟨((k + j * 4 : Nat) : Int), ((k + j * 4 + 1 : Nat) : Int), ((k + j * 4 + 2 : Nat) : Int), ((k + j * 4 + 3 : Nat) : Int)⟩ := by simp [mkB]

set_option maxHeartbeats 1600000 in
theorem markBlockS_any (v : Value) (n k : Nat) (xs : List Value) (B : Nat) (w : World) (hn : n ≤ 4194304) (hk0 : 0 < k) (hk1 : k ≤ 268435456) (ho : OwnR w B 55 4 v n xs) :
    Calls Try.prog 19 #[v, .int .i64 k] w fun e w' => e = .returned (.int .i64 ((k + n * 4 : Nat) : Int)) ∧ OwnR w' B 55 4 v n (bksV (mkB k n)) ∧ Keep (Own v) w w' := by
  rcases ho with ⟨rfl, rfl, ao, rfl⟩ | ⟨hpos, ho'⟩
  · go_enter Try.func19, Try.ntmps19
    go_wp2
    refine wp_loop_rounds 1 ?_
    rw [rounds_succ]
    go_wp2
    go_ret
    refine ⟨ret_int (by simp), .inl ⟨rfl, rfl, ao, rfl⟩, Keep.refl _ _⟩
  · obtain ⟨g, cap, cur, rfl, _, _⟩ := own_form hpos ho'
    have HO := hide ho'
    clear ho'
    go_enter Try.func19, Try.ntmps19
    go_wp2
    go_loopw [1, 5] (fun kk i wr => ∃ (j : Nat) (ys : List Value), j ≤ n ∧ i = .int .i64 j ∧ kk = .int .i64 ((k + j * 4 : Nat) : Int) ∧ Hid (ys.length = n * 4) ∧ Hid (ys.take (j * 4) = (bksV (mkB k n)).take (j * 4)) ∧ Hid (wr.ownsRow B 55 4 (.slice (some ⟨g, 0, none⟩) n cap) n ys) ∧ Hid (Keep (Own (.slice (some ⟨g, 0, none⟩) n cap)) w wr)) (fun _ i _ => n - (intOf i).toNat)
    case atStart => exact ⟨0, xs, Nat.zero_le _, rfl, by simp, hide (by rw [(unhide HO).1]), hide (by simp), HO, hide (Keep.refl _ _)⟩
    case round =>
      obtain ⟨j, ys, hj, rfl, rfl, HL, HT, HO, HK⟩ := hrel
      by_cases hlt : j < n
      · have hf := fun i => (unhide HO).frozenAt i
        have hf0 := hf (j * 4)
        have hf1 := hf (j * 4 + 1)
        have hf2 := hf (j * 4 + 2)
        have hf3 := hf (j * 4 + 3)
        clear hf
        obtain ⟨x0, hx0⟩ : ∃ x, wr.cell? ⟨g, j * 4, none⟩ = some x := ⟨_, ((unhide HO).cellAt (j * 4) (by omega)).trans (List.getElem?_eq_getElem (by rw [unhide HL]; omega))⟩
        obtain ⟨x1, hx1⟩ : ∃ x, wr.cell? ⟨g, j * 4 + 1, none⟩ = some x := ⟨_, ((unhide HO).cellAt (j * 4 + 1) (by omega)).trans (List.getElem?_eq_getElem (by rw [unhide HL]; omega))⟩
        obtain ⟨x2, hx2⟩ : ∃ x, wr.cell? ⟨g, j * 4 + 2, none⟩ = some x := ⟨_, ((unhide HO).cellAt (j * 4 + 2) (by omega)).trans (List.getElem?_eq_getElem (by rw [unhide HL]; omega))⟩
        obtain ⟨x3, hx3⟩ : ∃ x, wr.cell? ⟨g, j * 4 + 3, none⟩ = some x := ⟨_, ((unhide HO).cellAt (j * 4 + 3) (by omega)).trans (List.getElem?_eq_getElem (by rw [unhide HL]; omega))⟩
        have HST := hide (stored4 (unhide HO) (j * 4) (j * 4 + 1) (j * 4 + 2) (j * 4 + 3) (.int .i64 ((k + j * 4 : Nat) : Int)) (.int .i64 ((k + j * 4 + 1 : Nat) : Int)) (.int .i64 ((k + j * 4 + 2 : Nat) : Int)) (.int .i64 ((k + j * 4 + 3 : Nat) : Int)))
        have HKS := hide (((((unhide HK).setCell (p := ⟨g, j * 4, none⟩) (own_of hpos rfl) (.int .i64 ((k + j * 4 : Nat) : Int))).setCell (p := ⟨g, j * 4 + 1, none⟩) (own_of hpos rfl) (.int .i64 ((k + j * 4 + 1 : Nat) : Int))).setCell (p := ⟨g, j * 4 + 2, none⟩) (own_of hpos rfl) (.int .i64 ((k + j * 4 + 2 : Nat) : Int))).setCell (p := ⟨g, j * 4 + 3, none⟩) (own_of hpos rfl) (.int .i64 ((k + j * 4 + 3 : Nat) : Int)))
        have HTT := hide (bks_take (xs := mkB k n) (k := j) (by rw [mkB_length]; exact hlt) (by rw [mkB_length]; exact unhide HL) (unhide HT))
        rw [mkB_at] at HTT
        go_wp2
        go_roundw
        case rel => exact ⟨j + 1, _, by omega, by go_num, by go_num, hide (by rw [List.length_set, List.length_set, List.length_set, List.length_set]; exact unhide HL), HTT, HST, HKS⟩
        case measure => simp [intOf]; omega
      · go_wp2
        go_ret
        have hjn : j = n := by omega
        subst hjn
        have hxs : ys = bksV (mkB k j) := by
          have := unhide HT
          rwa [List.take_of_length_le (by rw [unhide HL]; exact Nat.le_refl _), List.take_of_length_le (by rw [bksV_length, mkB_length]; exact Nat.le_refl _)] at this
        subst hxs
        exact ⟨rfl, .inr ⟨hpos, unhide HO⟩, unhide HK⟩

set_option maxHeartbeats 1600000 in
theorem heldBlockS_any (v : Value) (n k : Nat) (B : Nat) (w : World) (hn : n ≤ 4194304) (hk0 : 0 < k) (hk1 : k ≤ 268435456) (ho : OwnR w B 55 4 v n (bksV (mkB k n))) :
    Calls Try.prog 20 #[v, .int .i64 k] w fun e w' => e = .returned (.int .i64 ((k + n * 4 : Nat) : Int)) ∧ Below w.heap.size w w' := by
  rcases ho with ⟨rfl, _, ao, rfl⟩ | ⟨hpos, ho'⟩
  · go_enter Try.func20, Try.ntmps20
    go_wp2
    refine wp_loop_rounds 1 ?_
    rw [rounds_succ]
    go_wp2
    go_ret
    exact ⟨ret_int (by simp), Below.refl _ _⟩
  · obtain ⟨g, cap, cur, rfl, _, _⟩ := own_form hpos ho'
    have HO := hide ho'
    clear ho'
    go_enter Try.func20, Try.ntmps20
    go_wp2
    go_loopw [1, 5] (fun kk i wr => ∃ (j : Nat), j ≤ n ∧ i = .int .i64 j ∧ kk = .int .i64 ((k + j * 4 : Nat) : Int) ∧ Hid (Below w.heap.size w wr)) (fun _ i _ => n - (intOf i).toNat)
    case atStart => exact ⟨0, Nat.zero_le _, rfl, by simp, hide (Below.refl _ _)⟩
    case round =>
      obtain ⟨j, hj, rfl, rfl, HB⟩ := hrel
      by_cases hlt : j < n
      · obtain ⟨q0, q1, q2, q3⟩ := bksV_get (xs := mkB k n) (i := j) (by rw [mkB_length]; exact hlt)
        rw [mkB_at] at q0 q1 q2 q3
        have hx0 : wr.cell? ⟨g, j * 4, none⟩ = some (.int .i64 ((k + j * 4 : Nat) : Int)) := ((own_below (unhide HO) (unhide HB)).cellAt (j * 4) (by omega)).trans q0
        have hx1 : wr.cell? ⟨g, j * 4 + 1, none⟩ = some (.int .i64 ((k + j * 4 + 1 : Nat) : Int)) := ((own_below (unhide HO) (unhide HB)).cellAt (j * 4 + 1) (by omega)).trans q1
        have hx2 : wr.cell? ⟨g, j * 4 + 2, none⟩ = some (.int .i64 ((k + j * 4 + 2 : Nat) : Int)) := ((own_below (unhide HO) (unhide HB)).cellAt (j * 4 + 2) (by omega)).trans q2
        have hx3 : wr.cell? ⟨g, j * 4 + 3, none⟩ = some (.int .i64 ((k + j * 4 + 3 : Nat) : Int)) := ((own_below (unhide HO) (unhide HB)).cellAt (j * 4 + 3) (by omega)).trans q3
        clear q0 q1 q2 q3
        go_wp2
        go_roundw
        case rel => exact ⟨j + 1, by omega, by go_num, by go_num, HB⟩
        case measure => simp [intOf]; omega
      · go_wp2
        go_ret
        have hjn : j = n := by omega
        subst hjn
        exact ⟨rfl, unhide HB⟩

end Go.Proofs.Ytdigphemaccodab

/- Plain: what is right of a ballot, limb by limb. -/
namespace Go.Proofs.Ytdigphemaccodab
set_option linter.unusedVariables false
theorem pxB_1 {p : Pxs} (e : inB p.host 0 3 = false) : pxB p = false := by simp [pxB, e]
theorem pxB_2 {p : Pxs} (e : inB p.ver 0 1000000 = false) : pxB p = false := by simp [pxB, e]
theorem pxB_3 {p : Pxs} (e : inB p.phase 1 6 = false) : pxB p = false := by simp [pxB, e]
theorem pxB_4 {p : Pxs} (e : inB p.ballot 1 1000000 = false) : pxB p = false := by simp [pxB, e]
theorem pxB_5 {p : Pxs} (e : ¬ p.ballot % 4 = p.host) : pxB p = false := by simp [pxB, e]
theorem pxB_6 {p : Pxs} (e : numB p.value = false) : pxB p = false := by simp [pxB, e]
theorem pxB_7 {p : Pxs} (e : inB p.next 0 4 = false) : pxB p = false := by simp [pxB, e]
theorem pxB_8 {p : Pxs} (e : numB p.best = false) : pxB p = false := by simp [pxB, e]
theorem pxB_9 {p : Pxs} (e1 : inB p.host 0 3 = true) (e2 : inB p.ver 0 1000000 = true) (e3 : inB p.phase 1 6 = true) (e4 : inB p.ballot 1 1000000 = true) (e5 : p.ballot % 4 = p.host) (e6 : numB p.value = true) (e7 : inB p.next 0 4 = true) (e8 : numB p.best = true) : pxB p = inB p.bestBal 0 1000000 := by simp [pxB, e1, e2, e3, e4, e5, e6, e7, e8]
def baB (b h : Int) : Bool := inB b 1 1000000 && decide (b % 4 = h)
theorem pxB_ba {p : Pxs} (e : baB p.ballot p.host = false) : pxB p = false := by
  simp only [baB, Bool.and_eq_false_iff] at e
  rcases e with e | e
  · exact pxB_4 e
  · exact pxB_5 (by simpa using e)
theorem pxB_9b {p : Pxs} (e1 : inB p.host 0 3 = true) (e2 : inB p.ver 0 1000000 = true) (e3 : inB p.phase 1 6 = true) (e4 : baB p.ballot p.host = true) (e6 : numB p.value = true) (e7 : inB p.next 0 4 = true) (e8 : numB p.best = true) : pxB p = inB p.bestBal 0 1000000 := by
  simp only [baB, Bool.and_eq_true, decide_eq_true_eq] at e4
  exact pxB_9 e1 e2 e3 e4.1 e4.2 e6 e7 e8
theorem ball_mod {b : Int} (h : inB b 1 1000000 = true) : Int.tmod b 4 = b % 4 := by
  simp only [inB, Bool.and_eq_true, decide_eq_true_eq] at h
  exact Int.tmod_eq_emod_of_nonneg (by omega)
theorem ret_pi {a b : Pxs} {x y : Int} (h : a = b) (k : x = y) : Go.Ending.returned (.tuple #[pV a, .int .i64 x]) = .returned (.tuple #[pV b, .int .i64 y]) := by rw [h, k]
/-- What PxStart answers. -/
def ps0 (h v b x : Int) : Pxs := ⟨h, v, 1, b, x, 0, 0, 0⟩
def psP (h v b x : Int) : Pxs := if pxB (ps0 h v b x) = true then ps0 h v b x else p00
def psC (h v b x : Int) : Int := if pxB (ps0 h v b x) = true then 0 else 4
end Go.Proofs.Ytdigphemaccodab
