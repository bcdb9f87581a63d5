import Derived.Test.YtlhinknmbgijeabXEncodeLeaderPart1
import Derived.WalkKit
import Derived.Deep.RegionLawGrows
import Derived.Test.YtlhinknmbgijeabRows
import Derived.WalkSpells
import Derived.Laws.BytesArg
import Derived.Deep.RegionWith
import Derived.Laws.CopyRow
import Derived.Laws.CopyOwn
import Derived.Outline
import Derived.Deep.RegionHeld3
import Derived.Deep.AppendLies

/- A law on append: one element more at the end of a row of the call's own. -/
namespace Go.Proofs.Ytlhinknmbgijeab
open Go.RowKit
set_option linter.unusedVariables false
section
variable {P : Program}

theorem keep_grown {S : Nat → Prop} {w w' : World} {row : Option Nat} (h : w.grownBy w' row) (hs : ∀ k, row = some k → S k) : Keep S w w' :=
  ⟨h.os, h.tape, h.output, h.size, fun k hk hn => h.block k hk (fun e => hn (hs k e.symm))⟩

theorem run_append_one (w : World) (B : Nat) (t ty e : TypeId) (i : TypeInfo) (z : Value) (size bytes : Nat) (ht : P.underlying t = some (.slice e)) (hi : P.info? e = some i) (hz : i.zero = some z)
    (hsize : i.size = size) (hby : i.bytes = bytes) (hzs : z.cells.size = size) (hsz : 0 < size)
    (qo : Option Addr) (n cap : Nat) (xs : List Value) (h : OwnR w B e size (.slice qo n cap) n xs) (hB : B ≤ w.heap.size)
    (ad : Addr) (c : Nat) (news : List Value) (hl : news.length = size) (hnews : ∀ j u, news[j]? = some u → w.cell? (ad.add j) = some u) (h1 : ∀ u ∈ news, u.oneCell' = true)
    (b1 : n + 1 ≤ maxLen) (b2 : (n + 1) * bytes ≤ 140737488355328) :
    ∃ g cap' w', (Builtin.append_ #[t, t] ty #[.slice qo n cap, .slice (some ad) 1 c]).run P w = .ok (.slice (some ⟨g, 0, none⟩) (n + 1) cap') w' ∧
      w'.ownsRow B e size (.slice (some ⟨g, 0, none⟩) (n + 1) cap') (n + 1) (xs ++ news) ∧ Keep (Own (.slice qo n cap)) w w' := by
  rcases h with ⟨rfl, rfl, ao, hv⟩ | ⟨h0, h⟩
  · simp only [Value.slice.injEq, true_and] at hv
    obtain ⟨rfl, rfl⟩ := hv
    cases qo with
    | none =>
      obtain ⟨v', w', hrun, r1, r2, _⟩ := run_append_own (P := P) w B t ty e i z size bytes ht hi hz hsize hby hzs hsz (.slice none 0 0) 0 [] (World.ownsRow_nil w _ e size) ad 1 c news (by omega) hnews h1 b1 b2 hB
      obtain ⟨g, cap, cur, rfl, _, _⟩ := own_form (by omega) r1
      exact ⟨g, cap, w', hrun, r1, keep_grown r2 (fun k hk => by cases hk)⟩
    | some d =>
      obtain ⟨v', w', hrun, r1, r2⟩ := run_append_arg_grows (P := P) w t ty e i z size bytes ht hi hz hsize hby hzs hsz d 0 0 [] (by simp) (by simp) ad 1 c news (by omega) hnews (by omega) b1 b2
      obtain ⟨g, cap, cur, rfl, _, _⟩ := own_form (by omega) r1
      exact ⟨g, cap, w', hrun, own_base r1 hB, keep_grown r2 (fun k hk => by cases hk)⟩
  · obtain ⟨g0, cap0, cur0, e0, _, _⟩ := own_form h0 h
    rw [e0] at h
    obtain ⟨v', w', hrun, r1, r2, _⟩ := run_append_own (P := P) w B t ty e i z size bytes ht hi hz hsize hby hzs hsz _ n xs h ad 1 c news (by omega) hnews h1 b1 b2 hB
    obtain ⟨g, cap, cur, rfl, _, _⟩ := own_form (by omega) r1
    rw [e0]
    exact ⟨g, cap, w', hrun, r1, keep_grown r2 (fun k hk => by cases hk; exact own_of h0 rfl)⟩

theorem wpList_append_one {w : World} {ops : Array Oper} {rest : List Oper} {o : Oper} {a : Act} {Q : Exit → Act → World → Prop} (hgd : o.guard = none) (s x : Operand) (t : TypeId)
    (ho : o.op = .call { callee := .builtin .append, args := #[s, x], argTypes := #[t, t] })
    (B : Nat) (e : TypeId) (i : TypeInfo) (z : Value) (size bytes : Nat) (ht : P.underlying t = some (.slice e)) (hi : P.info? e = some i) (hz : i.zero = some z)
    (hsize : i.size = size) (hby : i.bytes = bytes) (hzs : z.cells.size = size) (hsz : 0 < size)
    (qo : Option Addr) (n cap : Nat) (xs : List Value) (hs : a.eval s = .slice qo n cap) (h : OwnR w B e size (.slice qo n cap) n xs) (hB : B ≤ w.heap.size)
    (ad : Addr) (c : Nat) (news : List Value) (hx : a.eval x = .slice (some ad) 1 c) (hl : news.length = size) (hnews : ∀ j u, news[j]? = some u → w.cell? (ad.add j) = some u) (h1 : ∀ u ∈ news, u.oneCell' = true)
    (b1 : n + 1 ≤ maxLen) (b2 : (n + 1) * bytes ≤ 140737488355328)
    (hK : ∀ g cap' w', w'.ownsRow B e size (.slice (some ⟨g, 0, none⟩) (n + 1) cap') (n + 1) (xs ++ news) → Keep (Own (.slice qo n cap)) w w' → wpList P ops Q rest (a.put o.dst (.slice (some ⟨g, 0, none⟩) (n + 1) cap')) w') : wpList P ops Q (o :: rest) a w := by
  refine wpList_plain hgd fun K hK' => ?_
  obtain ⟨g, cap', w', hrun, r1, r2⟩ := run_append_one (P := P) w B t o.type e i z size bytes ht hi hz hsize hby hzs hsz qo n cap xs h hB ad c news hl hnews h1 b1 b2
  unfold Oper.wp
  simp [execOp, ho, resolve, invoke, builtin, hs, hx, hrun, Result.andThen]
  exact hK' _ _ (hK _ _ _ r1 r2)

theorem step_append_one {w : World} {ops : Array Oper} {o : Oper} {a : Act} {K : Act → World → Prop} {Q : Exit → Act → World → Prop} {E : Prop} (hgd : o.guard = none) (s x : Operand) (t : TypeId)
    (ho : o.op = .call { callee := .builtin .append, args := #[s, x], argTypes := #[t, t] })
    (B : Nat) (e : TypeId) (i : TypeInfo) (z : Value) (size bytes : Nat) (ht : P.underlying t = some (.slice e)) (hi : P.info? e = some i) (hz : i.zero = some z)
    (hsize : i.size = size) (hby : i.bytes = bytes) (hzs : z.cells.size = size) (hsz : 0 < size)
    (qo : Option Addr) (n cap : Nat) (xs : List Value) (hs : a.eval s = .slice qo n cap) (h : OwnR w B e size (.slice qo n cap) n xs) (hB : B ≤ w.heap.size)
    (ad : Addr) (c : Nat) (news : List Value) (hx : a.eval x = .slice (some ad) 1 c) (hl : news.length = size) (hnews : ∀ j u, news[j]? = some u → w.cell? (ad.add j) = some u) (h1 : ∀ u ∈ news, u.oneCell' = true)
    (b1 : n + 1 ≤ maxLen) (b2 : (n + 1) * bytes ≤ 140737488355328)
    (hK : ∀ g cap' w', w'.ownsRow B e size (.slice (some ⟨g, 0, none⟩) (n + 1) cap') (n + 1) (xs ++ news) → Keep (Own (.slice qo n cap)) w w' → K (a.put o.dst (.slice (some ⟨g, 0, none⟩) (n + 1) cap')) w') :
    if Region.wanted o (yielded ops a.tmps) = true then Oper.wp P o a w K Q else E := by
  have hw : Region.wanted o (yielded ops a.tmps) = true := by simp [Region.wanted, hgd]
  rw [if_pos hw]
  obtain ⟨g, cap', w', hrun, r1, r2⟩ := run_append_one (P := P) w B t o.type e i z size bytes ht hi hz hsize hby hzs hsz qo n cap xs h hB ad c news hl hnews h1 b1 b2
  unfold Oper.wp
  simp [execOp, ho, resolve, invoke, builtin, hs, hx, hrun, Result.andThen]
  exact hK _ _ _ r1 r2
theorem step_append_at {w : World} {ops : Array Oper} {o : Oper} {a : Act} {K : Act → World → Prop} {Q : Exit → Act → World → Prop} {E : Prop} (hgd : o.guard = none) (s x : Operand) (t : TypeId)
    (ho : o.op = .call { callee := .builtin .append, args := #[s, x], argTypes := #[t, t] })
    (B : Nat) (e : TypeId) (i : TypeInfo) (z : Value) (size bytes : Nat) (ht : P.underlying t = some (.slice e)) (hi : P.info? e = some i) (hz : i.zero = some z)
    (hsize : i.size = size) (hby : i.bytes = bytes) (hzs : z.cells.size = size) (hsz : 0 < size)
    (qo : Option Addr) (n cap : Nat) (xs : List Value) (hs : a.eval s = .slice qo n cap) (h : OwnR w B e size (.slice qo n cap) n xs) (hB : B ≤ w.heap.size)
    (news : List Value) (hx : ∃ y c, a.eval x = .slice (some ⟨y, 0, none⟩) 1 c ∧ ∀ j u, news[j]? = some u → w.cell? ((⟨y, 0, none⟩ : Addr).add j) = some u) (hl : news.length = size) (h1 : ∀ u ∈ news, u.oneCell' = true)
    (b1 : n + 1 ≤ maxLen) (b2 : (n + 1) * bytes ≤ 140737488355328)
    (hK : ∀ g cap' w', w'.ownsRow B e size (.slice (some ⟨g, 0, none⟩) (n + 1) cap') (n + 1) (xs ++ news) → Keep (Own (.slice qo n cap)) w w' → K (a.put o.dst (.slice (some ⟨g, 0, none⟩) (n + 1) cap')) w') :
    if Region.wanted o (yielded ops a.tmps) = true then Oper.wp P o a w K Q else E := by
  obtain ⟨y, c, hx, hnews⟩ := hx
  exact step_append_one hgd s x t ho B e i z size bytes ht hi hz hsize hby hzs hsz qo n cap xs hs h hB ⟨y, 0, none⟩ c news hx hl hnews h1 b1 b2 hK
end
end Go.Proofs.Ytlhinknmbgijeab

/- Rows of numbers that a call made; ends of calls. -/
namespace Go.Proofs.Ytlhinknmbgijeab
open Go.RowKit
set_option linter.unusedVariables false

theorem infoM : (Try.prog.info? 3).map (fun i => (i.zero, i.size, i.bytes)) = some (some (.int .i64 0), 1, 8) := by kernel_rfl
theorem int_one (n : Int) : ∀ u ∈ [Value.int .i64 n], u.oneCell' = true := by
  intro u hu
  simp at hu
  subst hu
  rfl

/-- A row of numbers that the call made. -/
def OwnN (w : World) (B : Nat) (v : Value) (xs : List Int) : Prop := ∃ qo qa, v = .slice qo xs.length qa ∧ OwnR w B 3 1 (.slice qo xs.length qa) xs.length (intV xs)
theorem OwnN.below {w w' : World} {B : Nat} {v : Value} {xs : List Int} (h : OwnN w B v xs) (hb : Below w.heap.size w w') : OwnN w' B v xs := by
  obtain ⟨qo, qa, e, ho⟩ := h
  exact ⟨qo, qa, e, ho.below hb⟩
theorem OwnN.base {w : World} {B B' : Nat} {v : Value} {xs : List Int} (h : OwnN w B v xs) (hB : B' ≤ B) : OwnN w B' v xs := by
  obtain ⟨qo, qa, e, ho⟩ := h
  exact ⟨qo, qa, e, ho.base hB⟩
theorem OwnN.nil (w : World) (B : Nat) (ao : Option Addr) : OwnN w B (.slice ao 0 0) [] := ⟨ao, 0, rfl, .inl ⟨rfl, rfl, ao, rfl⟩⟩

theorem ret_nb {v u : Value} {a b : Bool} (h : v = u) (k : a = b) : Ending.returned (.tuple #[v, .bool a]) = .returned (.tuple #[u, .bool b]) := by rw [h, k]
theorem ret_ni {v u : Value} {a b : Int} (h : v = u) (k : a = b) : Ending.returned (.tuple #[v, .int .i64 a]) = .returned (.tuple #[u, .int .i64 b]) := by rw [h, k]

theorem ret_two2 {a b c d : Int} (h : a = b) (k : c = d) : Ending.returned (.tuple #[.int .i64 a, .int .i64 c]) = .returned (.tuple #[.int .i64 b, .int .i64 d]) := by rw [h, k]

theorem OwnN.setCell {w : World} {B : Nat} {v : Value} {xs : List Int} (h : OwnN w B v xs) {a : Addr} (ha : a.block < B) (u : Value) : OwnN (w.setCell a u) B v xs := by
  obtain ⟨qo, qa, e, ho⟩ := h
  exact ⟨qo, qa, e, ho.setCell ha u⟩

end Go.Proofs.Ytlhinknmbgijeab

/- Contract of spec.l02Unpack. -/
namespace Go.Proofs.Ytlhinknmbgijeab
open Go.RowKit
set_option linter.unusedVariables false
set_option maxRecDepth 100000

end Go.Proofs.Ytlhinknmbgijeab

/- Contracts of SumOf, of the program and of its model. -/
namespace Go.Proofs.Ytlhinknmbgijeab
open Go.RowKit
set_option linter.unusedVariables false
set_option maxRecDepth 100000

theorem l02Sum_any (s : ByteArray) (w : World) (hs : s.size ≤ 1048576) :
    Calls Try.prog 41 #[.string s] w fun e w' => e = .returned (.int .i64 (sumS s)) ∧ w' = w := by
  go_enter Try.func41, Try.ntmps41
  go_wp2
  go_loop [3, 4] (fun n i => ∃ k : Nat, k ≤ s.size ∧ i = .int .i64 k ∧ n = .int .i64 (sumTo s k)) (fun _ i => s.size - (intOf i).toNat)
  case atStart => exact ⟨0, Nat.zero_le _, rfl, rfl⟩
  case round =>
    obtain ⟨k, hk, rfl, rfl⟩ := hrel
    by_cases hlt : k < s.size
    · have HN := hide (sumTo_walk hlt (by omega))
      go_wp2
      go_round
      case rel => exact ⟨k + 1, by omega, by go_num, by rw [← unhide HN]⟩
      case measure => simp [intOf]; omega
    · go_wp2
      go_ret
      exact ⟨ret_int (by rw [sumS, show k = s.size by omega]), rfl⟩

theorem sumOf_impl (s : ByteArray) (w : World) (hs : s.size ≤ 1048576) :
    Calls Try.prog 37 #[.string s] w fun e w' => e = .returned (.int .i64 (sumC s)) ∧ w' = w := by
  by_cases h1 : 65536 < s.size
  · have HF := hide (sumC_long h1)
    go_enter Try.func37, Try.ntmps37
    go_wp2
    go_ret
    exact ⟨ret_int (unhide HF).symm, rfl⟩
  have HF := hide (sumC_short (s := s) (by omega))
  go_enter Try.func37, Try.ntmps37
  go_wp2
  go_loop [3, 4] (fun n i => ∃ k : Nat, k ≤ s.size ∧ i = .int .i64 k ∧ n = .int .i64 (sumTo s k)) (fun _ i => s.size - (intOf i).toNat)
  case atStart => exact ⟨0, Nat.zero_le _, rfl, rfl⟩
  case round =>
    obtain ⟨k, hk, rfl, rfl⟩ := hrel
    by_cases hlt : k < s.size
    · have HN := hide (sumTo_walk hlt (by omega))
      go_wp2
      go_round
      case rel => exact ⟨k + 1, by omega, by go_num, by rw [← unhide HN]⟩
      case measure => simp [intOf]; omega
    · go_wp2
      go_ret
      exact ⟨ret_int (by rw [unhide HF, sumS, show k = s.size by omega]), rfl⟩

end Go.Proofs.Ytlhinknmbgijeab

/- Contracts of spec.l02Pack and impl.packNumbers. -/
namespace Go.Proofs.Ytlhinknmbgijeab
open Go.RowKit
set_option linter.unusedVariables false

theorem infoB : (Try.prog.info? 5).map (fun i => (i.zero, i.size, i.bytes)) = some (some (.int .u8 0), 1, 1) := by kernel_rfl

theorem ret_str {a b : ByteArray} (h : a = b) : Ending.returned (.string a) = .returned (.string b) := by rw [h]

set_option maxRecDepth 100000 in
set_option maxHeartbeats 1600000 in
theorem l02Pack_any (ao : Option Addr) (cap : Nat) (xs : List Int) (w : World) (hl : xs.length ≤ 4096) (hn : ∀ j (h : j < xs.length), 0 ≤ xs[j] ∧ xs[j] ≤ 2147483647) (hc : Is w ao xs) :
    Calls Try.prog 40 #[.slice ao xs.length cap] w fun e w' => e = .returned (.string (packS xs)) ∧ Below w.heap.size w w' := by
  have HC := hide hc
  have HN := hide hn
  clear hc hn
  obtain ⟨j0, hj, hy0, hy1, hy2⟩ := info_parts infoB
  go_enter Try.func40, Try.ntmps40
  go_wp2
  go_loopw [3, 4] (fun o i wr => ∃ (k : Nat) (qo : Option Addr) (qa : Nat), k ≤ xs.length ∧ i = .int .i64 k ∧ o = .slice qo (k * 4) qa ∧ Hid (OwnR wr w.heap.size 5 1 (.slice qo (k * 4) qa) (k * 4) (byteV (packL (xs.take k)))) ∧ Hid (Below w.heap.size w wr)) (fun _ i _ => xs.length - (intOf i).toNat)
  case atStart => exact ⟨0, _, _, Nat.zero_le _, rfl, rfl, hide (.inl ⟨rfl, rfl, _, rfl⟩), hide (by first | exact Below.refl _ _ | exact Joins.below_alloc1 _ _)⟩
  case round =>
    obtain ⟨k, qo, qa, hk, rfl, rfl, HO, HB⟩ := hrel
    by_cases hlt : k < xs.length
    · obtain ⟨b, off, rfl, hc⟩ := (unhide HC).below (unhide HB) k hlt
      obtain ⟨h0, h1⟩ := unhide HN k hlt
      go_wp2
      go_loopw [3, 5, 6] (fun o m i wq => ∃ (j : Nat) (qo : Option Addr) (qa : Nat), j ≤ 4 ∧ i = .int .i64 j ∧ m = .int .i64 (shN xs[k] j) ∧ o = .slice qo (k * 4 + j) qa ∧ Hid (OwnR wq w.heap.size 5 1 (.slice qo (k * 4 + j) qa) (k * 4 + j) (byteV (packL (xs.take k) ++ fourTo xs[k] j))) ∧ Hid (Below w.heap.size w wq)) (fun _ _ i _ => 4 - (intOf i).toNat)
      case atStart => exact ⟨0, qo, qa, by omega, rfl, by simp [shN], rfl, hide (by simpa [fourTo] using unhide HO), HB⟩
      case round =>
        clear HO HB
        obtain ⟨j, qo, qa, hj4, rfl, rfl, rfl, HO, HB⟩ := hrel
        obtain ⟨hs0, hs1⟩ := shN_in h0 h1 j
        by_cases hj4 : j < 4
        · have HOA := hide ((unhide HO).below (Joins.below_alloc1 _ (.cells #[.int .u8 (shN xs[k] j % 256)] 5)))
          have HBA := hide (fr (unhide HB) (Joins.below_alloc1 _ (.cells #[.int .u8 (shN xs[k] j % 256)] 5)))
          have HSZ := hide (unhide HB).size
          have HSH := hide (shN_succ xs[k] j)
          go_wp2_with (at_builtin; refine wpList_append_one rfl _ _ 59 rfl w.heap.size 5 j0 (.int .u8 0) 1 1 Try.underlying59 hj hy0 hy1 hy2 rfl (by omega) qo (k * 4 + j) qa (byteV (packL (xs.take k) ++ fourTo xs[k] j)) rfl (unhide HOA) (by have := unhide HSZ; simp; omega) ⟨wr.heap.size, 0, none⟩ _ [.int .u8 (shN xs[k] j % 256)] rfl rfl (byte_news wr _ _) (byte_one _) (by unfold maxLen; omega) (by omega) ?_; intro g2 cap2 wA hoA hkA; have HSF := hide (And.intro hoA (keep_below (unhide HBA) (unhide HOA) (Nat.le_refl _) hkA)); clear hoA hkA)
          go_roundw
          case rel => exact ⟨j + 1, _, _, by omega, by go_num, by rw [unhide HSH], rfl, hide (.inr ⟨by omega, by rw [fourTo_succ, ← List.append_assoc, byteV_snoc, ← shN_byte]; exact (unhide HSF).1⟩), hide (unhide HSF).2⟩
          case measure => simp [intOf]; omega
        · have HE : Hid (j = 4) := hide (by omega)
          go_wp2
          go_roundw
          case rel => exact ⟨k + 1, qo, qa, by omega, by go_num, by rw [unhide HE, show (k + 1) * 4 = k * 4 + 4 by omega], hide (by have := unhide HO; rw [unhide HE] at this; rw [packL_succ hlt, show (k + 1) * 4 = k * 4 + 4 by omega]; exact this), HB⟩
          case measure => simp [intOf]; omega
    · have HE : Hid (xs.take k = xs) := hide (List.take_of_length_le (by omega))
      have hcv := convert_own (P := Try.prog) Try.underlying59 Try.underlying5 Try.underlying9 (unhide HO)
      go_wp2
      go_ret
      exact ⟨ret_str (by rw [unhide HE]; rfl), unhide HB⟩

end Go.Proofs.Ytlhinknmbgijeab

/- Contracts of the model's l02Kind, l02Seal. -/
namespace Go.Proofs.Ytlhinknmbgijeab
open Go.RowKit
set_option linter.unusedVariables false
set_option maxRecDepth 100000

/-- 'string([]byte{a, b})'. -/
theorem lit2 (W : World) (g : Nat) (a b : Int) (h : W.heap.size = g) : (convert 59 9 (.slice (some ⟨g, 0, none⟩) 2 2)).run Try.prog (W.alloc (.cells #[.int .u8 a, .int .u8 b] 5)) = .ok (.string (strOfNums [a, b])) (W.alloc (.cells #[.int .u8 a, .int .u8 b] 5)) := by
  subst h
  refine run_convert_bytes_arg _ 59 5 Try.underlying59 Try.underlying5 W.heap.size 0 2 2 [a, b] rfl ?_ 9 Try.underlying9
  intro i hi
  rcases (show i = 0 ∨ i = 1 by omega) with rfl | rfl <;> simp [go_sem, List.getD]

theorem sum_spec (k : Int) (xs : List Int) (w : World) (hl : xs.length ≤ 16) : Calls Try.prog 41 #[.string (strOfNums [k, (xs.length : Int)] ++ packS xs)] w fun e w' => e = .returned (.int .i64 (sumR k xs)) ∧ w' = w :=
  l02Sum_any (sumT k xs) w (by rw [sumT_size]; omega)
set_option maxHeartbeats 1600000 in
theorem l02Seal_any (k : Int) (ao : Option Addr) (cap : Nat) (xs : List Int) (w : World) (hk : 1 ≤ k ∧ k ≤ 9) (hl : xs.length ≤ 16) (hn : ∀ j (h : j < xs.length), 0 ≤ xs[j] ∧ xs[j] ≤ 2147483647) (hc : Is w ao xs) :
    Calls Try.prog 30 #[.int .i64 k, .slice ao xs.length cap] w fun e w' => e = .returned (.string (sealS k xs)) ∧ Below w.heap.size w w' := by
  have HC := hide hc
  have HN := hide hn
  clear hc hn
  have hp := packS_size xs
  have hs2 : (strOfNums [k, (xs.length : Int)]).size = 2 := strOfNums_size _
  go_enter Try.func30, Try.ntmps30
  go_wp2_with fail
  refine (l02Pack_any _ _ xs _ (by omega) (unhide HN) (unhide HC)).mono ?_
  rintro e w1 ⟨rfl, hb1⟩
  have HB1 := hide hb1
  have hc1 := lit2 w1 w1.heap.size k xs.length rfl
  clear hb1
  go_wp2_with fail
  refine (sum_spec k xs _ hl).mono ?_
  rintro e w2 ⟨rfl, rfl⟩
  obtain ⟨hr0, hr1⟩ := sumR_in k xs
  have hc2 := lit2 (w1.alloc (.cells #[.int .u8 k, .int .u8 xs.length] 5)) (w1.heap.size + 1) (sumR k xs) 0 (by simp)
  have hs3 : (strOfNums [sumR k xs, 0]).size = 2 := strOfNums_size _
  have hs4 : (strOfNums [k, (xs.length : Int)] ++ strOfNums [sumR k xs, 0]).size = 4 := by rw [ByteArray.size_append, hs2, hs3]
  have HE := hide (sealS_parts k xs)
  go_wp2
  go_ret
  exact ⟨ret_str (unhide HE), fr (unhide HB1) (Joins.below_alloc2 _ _ _)⟩

end Go.Proofs.Ytlhinknmbgijeab

/- Contracts of the model's readers of records: l02Open, OpenRecord, KindOf. -/
namespace Go.Proofs.Ytlhinknmbgijeab
open Go.RowKit
set_option linter.unusedVariables false
set_option maxRecDepth 100000

/-- What l02Open answers. -/
def openB (s : ByteArray) (k : Int) : Bool := recB s && decide (byteAt s 0 = k)
def openL (s : ByteArray) (k : Int) : List Int := if openB s k = true then unL (bodyT s) else []
theorem openB_no {s : ByteArray} {k : Int} (h : ¬ RecP s) : openB s k = false := by rw [openB, recB_false h]; rfl
theorem openB_kind {s : ByteArray} {k : Int} (h : byteAt s 0 ≠ k) : openB s k = false := by rw [openB, decide_eq_false h]; simp
theorem openB_yes {s : ByteArray} {k : Int} (h : RecP s) (hk : byteAt s 0 = k) : openB s k = true := by rw [openB, recB_true h, decide_eq_true hk]; rfl
theorem openL_no {s : ByteArray} {k : Int} (h : openB s k = false) : openL s k = [] := if_neg (by simp [h])
theorem openL_yes {s : ByteArray} {k : Int} (h : openB s k = true) : openL s k = unL (bodyT s) := if_pos h

end Go.Proofs.Ytlhinknmbgijeab

/- Contracts of DiskOK, of the program and of its model: both answer one plain function of the disk. -/
namespace Go.Proofs.Ytlhinknmbgijeab
open Go.RowKit
set_option linter.unusedVariables false
set_option maxRecDepth 100000

theorem l01In_any (n low high : Int) (w : World) : Calls Try.prog 29 #[.int .i64 n, .int .i64 low, .int .i64 high] w fun e w' => e = .returned (.bool (inB n low high)) ∧ w' = w := by
  go_enter Try.func29, Try.ntmps29
  go_wp2
  all_goals
    go_ret
    exact ⟨ret_bool (by rw [Bool.eq_iff_iff]; simp [inB]; omega), rfl⟩

theorem hostOK_any (n : Int) (w : World) : Calls Try.prog 43 #[.int .i64 n] w fun e w' => e = .returned (.bool (inB n 0 3)) ∧ w' = w := by
  go_enter Try.func43, Try.ntmps43
  go_wp2
  all_goals
    go_ret
    exact ⟨ret_bool (by rw [Bool.eq_iff_iff]; simp [inB]; omega), rfl⟩

end Go.Proofs.Ytlhinknmbgijeab

/- Contracts of the disk's codes and of ReadSector, of the program and of its model. -/
namespace Go.Proofs.Ytlhinknmbgijeab
open Go.RowKit
set_option linter.unusedVariables false
set_option maxRecDepth 100000

end Go.Proofs.Ytlhinknmbgijeab

/- Contract of impl.PendingOf. -/
namespace Go.Proofs.Ytlhinknmbgijeab
open Go.RowKit
set_option linter.unusedVariables false
set_option maxRecDepth 100000

/-- How many writes a host has. -/
def cntW (xs : List Wr) (h : Int) : Nat := (xs.filter fun x => x.host == h).length
theorem cntW_le (xs : List Wr) (h : Int) : cntW xs h ≤ xs.length := List.length_filter_le _ _
theorem cnt_hit {xs : List Wr} {h : Int} {k : Nat} (hk : k < xs.length) (he : xs[k].host = h) : cntW (xs.take (k + 1)) h = cntW (xs.take k) h + 1 := by
  rw [cntW, cntW, List.take_succ_eq_append_getElem hk, List.filter_append, List.length_append]; simp [he]
theorem cnt_miss {xs : List Wr} {h : Int} {k : Nat} (hk : k < xs.length) (he : ¬ xs[k].host = h) : cntW (xs.take (k + 1)) h = cntW (xs.take k) h := by
  rw [cntW, cntW, List.take_succ_eq_append_getElem hk, List.filter_append, List.length_append]; simp [he]
theorem askC_zero (ss : List ByteArray) (xs : List Wr) (h : Int) : askC ss xs h 0 = hostC ss xs h := by
  unfold askC
  split
  · rename_i e; rw [e]; rfl
  · rfl
def cntC (ss : List ByteArray) (xs : List Wr) (h : Int) : Int := if hostC ss xs h = 0 then (cntW xs h : Int) else 0
theorem ret_two {a b c d : Int} (h : a = b) (k : c = d) : Ending.returned (.tuple #[.int .i64 a, .int .i64 c]) = .returned (.tuple #[.int .i64 b, .int .i64 d]) := by rw [h, k]

end Go.Proofs.Ytlhinknmbgijeab

/- A disk in rows of the call's own; variables that hold a disk. -/
namespace Go.Proofs.Ytlhinknmbgijeab
open Go.RowKit
set_option linter.unusedVariables false

def OwnB (ao : Option Addr) (n ca : Nat) (bo : Option Addr) (m cb : Nat) (k : Nat) : Prop := Own (.slice ao n ca) k ∨ Own (.slice bo m cb) k

end Go.Proofs.Ytlhinknmbgijeab

/- Contracts of copyList, at texts and at writes: what was there, in new memory. -/
namespace Go.Proofs.Ytlhinknmbgijeab
open Go.RowKit
set_option linter.unusedVariables false
set_option maxRecDepth 100000

section
variable {P : Program}

/-- 'copy(out, src)', both of n elements of some cells each. -/
theorem run_copy_whole (w : World) (dT sT ty elem : TypeId) (size g n dCap : Nat) (a : Addr) (sCap : Nat) (cur : Array Value) (t : TypeId) (cs : List Value)
    (hu : P.underlying dT = some (.slice elem)) (hs : (P.info? elem).map (·.size) = some size)
    (hg : w.heap[g]? = some (.cells cur t (0, 0))) (hl : n * size = cs.length)
    (hsrc : ∀ j v, cs[j]? = some v → w.cell? (a.add j) = some v) (hfit : cs.length ≤ cur.size) (h1 : ∀ v ∈ cs, v.oneCell' = true) :
    (Builtin.copy_ #[dT, sT] ty #[.slice (some ⟨g, 0, none⟩) n dCap, .slice (some a) n sCap]).run P w = .ok (goInt n) (w.setRow g (cs ++ cur.toList.drop cs.length).toArray) := by
  have hld := run_loadCells_list (P := P) w a cs hsrc
  have hst := run_storeCells_at P g 0 t cs 0 cur w hg (by simpa using hfit) h1
  cases hq : P.info? elem with
  | none => simp [hq] at hs
  | some i =>
    have hi : i.size = size := by simpa [hq] using hs
    simp [Builtin.copy_, run_underlying hu, Builtin.lenOf, Builtin.firstCells, sizeOf, typeInfo, hq, hi, hl, hld, hst]

theorem wpList_copy_whole {w : World} {ops : Array Oper} {rest : List Oper} {o : Oper} {a : Act} {Q : Exit → Act → World → Prop} (hgd : o.guard = none) (d s : Operand) (dT sT : TypeId)
    (ho : o.op = .call { callee := .builtin .copy, args := #[d, s], argTypes := #[dT, sT] }) (elem : TypeId) (size : Nat) (hu : P.underlying dT = some (.slice elem)) (hsz : (P.info? elem).map (·.size) = some size)
    (B g n : Nat) (ad : Addr) (sCap : Nat) (hd : a.eval d = .slice (some ⟨g, 0, none⟩) n n) (hs : a.eval s = .slice (some ad) n sCap)
    (xs : List Value) (hown : w.ownsRow B elem size (.slice (some ⟨g, 0, none⟩) n n) n xs) (cs : List Value) (hn : cs.length = n * size)
    (hsrc : ∀ j v, cs[j]? = some v → w.cell? (ad.add j) = some v) (h1 : ∀ v ∈ cs, v.oneCell' = true)
    (h : ∀ w', w'.ownsRow B elem size (.slice (some ⟨g, 0, none⟩) n n) n cs → w.grownBy w' (some g) → wpList P ops Q rest (a.put o.dst (goInt n)) w') : wpList P ops Q (o :: rest) a w := by
  refine wpList_plain hgd fun K hK => ?_
  rcases hown.2 with ⟨e, _⟩ | ⟨g', cap', cur, e, hB, hg, hnc, hcm, hcs, ht⟩
  · simp at e
  · simp only [Value.slice.injEq, Option.some.injEq, Addr.mk.injEq, and_true, true_and] at e
    obtain ⟨rfl, rfl⟩ := e
    have hrun := run_copy_whole (P := P) w dT sT o.type elem size g n n ad sCap cur elem cs hu hsz hg hn.symm hsrc (by omega) h1
    unfold Oper.wp
    simp [execOp, ho, resolve, invoke, builtin, hd, hs, hrun, Result.andThen]
    refine hK _ _ (h _ ⟨hn, .inr ⟨g, n, _, rfl, hB, setRow_heap w g _ _ elem _ hg, hnc, hcm, ?_, ?_⟩⟩ ⟨rfl, rfl, rfl, by simp, fun k _ hk => setRow_other w g k _ (fun e => hk (by simp [e]))⟩)
    · simp; omega
    · rw [← hn]; simp
end

theorem infoS : (Try.prog.info? 9).map (fun i => (i.zero, i.size, i.bytes)) = some (some (.string ⟨#[]⟩), 1, 16) := by kernel_rfl
theorem sizeS : (Try.prog.info? 9).map (·.size) = some 1 := by kernel_rfl
theorem strV_one (ss : List ByteArray) : ∀ v ∈ strV ss, v.oneCell' = true := by
  intro v hv
  simp only [strV, List.mem_map] at hv
  obtain ⟨s, _, rfl⟩ := hv
  rfl
theorem ioV_one (xs : List Wr) : ∀ v ∈ ioV xs, v.oneCell' = true := by
  intro v hv
  simp only [ioV, List.mem_flatMap] at hv
  obtain ⟨x, _, hv⟩ := hv
  simp at hv
  rcases hv with rfl | rfl | rfl <;> rfl
/-- A slice that is not empty has an address at which its cells lie. -/
theorem Ss.at {w : World} {ao : Option Addr} {ss : List ByteArray} (h : Ss w ao ss) (hp : 0 < ss.length) : ∃ b off, ao = some ⟨b, off, none⟩ ∧ ∀ j v, (strV ss)[j]? = some v → w.cell? (Addr.add ⟨b, off, none⟩ j) = some v := by
  obtain ⟨b, off, rfl, _⟩ := h 0 hp
  refine ⟨b, off, rfl, fun j v hv => ?_⟩
  have hj : j < ss.length := by have := (List.getElem?_eq_some_iff.1 hv).1; rwa [strV_length] at this
  obtain ⟨b', off', e, hc, _⟩ := h j hj
  simp only [Option.some.injEq, Addr.mk.injEq, and_true] at e
  obtain ⟨rfl, rfl⟩ := e
  rw [strV_get hj] at hv
  cases hv
  rw [show Addr.add ⟨b, off, none⟩ j = ⟨b, off + j, none⟩ from by unfold Addr.add; split <;> simp_all]
  exact hc
theorem ioV_at {xs : List Wr} {j : Nat} {v : Value} (h : (ioV xs)[j]? = some v) : ∃ i r, ∃ hi : i < xs.length, j = i * 3 + r ∧ ((r = 0 ∧ v = .int .i64 xs[i].host) ∨ (r = 1 ∧ v = .int .i64 xs[i].at_) ∨ (r = 2 ∧ v = .string xs[i].data)) := by
  have hj : j < xs.length * 3 := by have := (List.getElem?_eq_some_iff.1 h).1; rwa [ioV_length] at this
  have hi : j / 3 < xs.length := by omega
  obtain ⟨g0, g1, g2⟩ := ioV_get hi
  rcases (show j % 3 = 0 ∨ j % 3 = 1 ∨ j % 3 = 2 by omega) with e | e | e
  · rw [show j = j / 3 * 3 by omega, g0] at h; cases h
    exact ⟨j / 3, 0, hi, by omega, .inl ⟨rfl, rfl⟩⟩
  · rw [show j = j / 3 * 3 + 1 by omega, g1] at h; cases h
    exact ⟨j / 3, 1, hi, by omega, .inr (.inl ⟨rfl, rfl⟩)⟩
  · rw [show j = j / 3 * 3 + 2 by omega, g2] at h; cases h
    exact ⟨j / 3, 2, hi, by omega, .inr (.inr ⟨rfl, rfl⟩)⟩
theorem Ios.at {w : World} {ao : Option Addr} {xs : List Wr} (h : Ios w ao xs) (hp : 0 < xs.length) : ∃ b off, ao = some ⟨b, off, none⟩ ∧ ∀ j v, (ioV xs)[j]? = some v → w.cell? (Addr.add ⟨b, off, none⟩ j) = some v := by
  obtain ⟨b, off, rfl, _⟩ := h 0 hp
  refine ⟨b, off, rfl, fun j v hv => ?_⟩
  obtain ⟨i, r, hi, rfl, hr⟩ := ioV_at hv
  obtain ⟨b', off', e, h0, h1, h2, _⟩ := h i hi
  simp only [Option.some.injEq, Addr.mk.injEq, and_true] at e
  obtain ⟨rfl, rfl⟩ := e
  rw [show Addr.add ⟨b, off, none⟩ (i * 3 + r) = ⟨b, off + i * 3 + r, none⟩ from by unfold Addr.add; split <;> simp_all [Nat.add_assoc]]
  rcases hr with ⟨rfl, rfl⟩ | ⟨rfl, rfl⟩ | ⟨rfl, rfl⟩
  · exact h0
  · exact h1
  · exact h2

end Go.Proofs.Ytlhinknmbgijeab

/- Contract of impl.copyDisk: the disk as it was, in new memory. -/
namespace Go.Proofs.Ytlhinknmbgijeab
open Go.RowKit
set_option linter.unusedVariables false
set_option maxRecDepth 100000

end Go.Proofs.Ytlhinknmbgijeab

/- Laws on append onto an empty literal, of no program's own. -/
namespace Go.Proofs.Ytlhinknmbgijeab
open Go.RowKit
set_option linter.unusedVariables false
set_option maxRecDepth 100000

section
variable {P : Program}
theorem run_append_nothing (w : World) (t ty e : TypeId) (i : TypeInfo) (ht : P.underlying t = some (.slice e)) (hi : P.info? e = some i) (d so : Option Addr) (cap c : Nat) :
    (Builtin.append_ #[t, t] ty #[.slice d 0 cap, .slice so 0 c]).run P w = .ok (.slice d 0 cap) w := by
  have hl : ∀ (x : Addr), (loadCells x 0).run P w = .ok #[] w := fun x => by simpa using run_loadCells_list (P := P) w x [] (by simp)
  cases d <;> cases so <;> simp [Builtin.append_, run_underlying ht, sizeOf, typeInfo, hi, Builtin.lenOf, Builtin.firstCells, storeCells, hl]

theorem run_append_fresh (w : World) (t ty e : TypeId) (i : TypeInfo) (z : Value) (size bytes : Nat) (ht : P.underlying t = some (.slice e)) (hi : P.info? e = some i) (hz : i.zero = some z)
    (hsize : i.size = size) (hby : i.bytes = bytes) (hzs : z.cells.size = size) (hsz : 0 < size)
    (d : Addr) (so : Option Addr) (m c : Nat) (news : List Value) (hn : news.length = m * size) (hc : 0 < m → ∃ ad, so = some ad ∧ ∀ j u, news[j]? = some u → w.cell? (ad.add j) = some u)
    (b1 : m ≤ maxLen) (b2 : m * bytes ≤ 140737488355328) :
    ∃ ao cap w', (Builtin.append_ #[t, t] ty #[.slice (some d) 0 0, .slice so m c]).run P w = .ok (.slice ao m cap) w' ∧ OwnR w' w.heap.size e size (.slice ao m cap) m news ∧ w.grownBy w' none := by
  rcases Nat.eq_zero_or_pos m with h0 | h0
  · subst h0
    exact ⟨some d, 0, w, run_append_nothing w t ty e i ht hi _ _ _ _, .inl ⟨rfl, List.eq_nil_of_length_eq_zero (by simpa using hn), _, rfl⟩, World.grownBy.refl w none⟩
  · obtain ⟨ad, rfl, hcs⟩ := hc h0
    obtain ⟨v', w', hrun, r1, r2⟩ := run_append_arg_grows (P := P) w t ty e i z size bytes ht hi hz hsize hby hzs hsz d 0 0 [] (by simp) (by simp) ad m c news hn hcs (by omega) (by simpa using b1) (by simpa using b2)
    simp only [Nat.zero_add, List.nil_append] at r1
    obtain ⟨g, cap, cur, rfl, _, _⟩ := own_form h0 r1
    exact ⟨_, _, w', hrun, .inr ⟨h0, r1⟩, r2⟩

def isFresh : Value → Bool
  | .slice (some _) 0 0 => true
  | _ => false
theorem isFresh_form {v : Value} (h : isFresh v = true) : ∃ d, v = .slice (some d) 0 0 := by
  unfold isFresh at h
  split at h
  · exact ⟨_, rfl⟩
  · cases h

theorem step_append_fresh {ops : Array Oper} {o : Oper} {a : Act} {w : World} {K : Act → World → Prop} {Q : Exit → Act → World → Prop} {E : Prop}
    (hg : o.guard = none) (s x : Operand) (t : TypeId) (hop : o.op = Op.call { callee := Callee.builtin Builtin.append, args := #[s, x], argTypes := #[t, t] })
    (e : TypeId) (i : TypeInfo) (z : Value) (size bytes : Nat) (h1 : P.underlying t = some (.slice e)) (h2 : P.info? e = some i) (h3 : i.zero = some z) (h4 : i.size = size) (h5 : i.bytes = bytes) (h6 : z.cells.size = size) (h7 : 0 < size)
    (hs0 : isFresh (a.eval s) = true) (so : Option Addr) (m c : Nat) (news : List Value) (hx : a.eval x = .slice so m c) (hn : news.length = m * size)
    (hc : 0 < m → ∃ ad, so = some ad ∧ ∀ j u, news[j]? = some u → w.cell? (ad.add j) = some u) (b1 : m ≤ maxLen) (b2 : m * bytes ≤ 140737488355328)
    (hK : ∀ ao cap w', OwnR w' w.heap.size e size (.slice ao m cap) m news → w.grownBy w' none → K (a.put o.dst (.slice ao m cap)) w') :
    if Region.wanted o (yielded ops a.tmps) = true then Oper.wp P o a w K Q else E := by
  have hw : Region.wanted o (yielded ops a.tmps) = true := by simp [Region.wanted, hg]
  rw [if_pos hw]
  obtain ⟨d, hs⟩ := isFresh_form hs0
  obtain ⟨ao, cap, w', hrun, r1, r2⟩ := run_append_fresh (P := P) w t o.type e i z size bytes h1 h2 h3 h4 h5 h6 h7 d so m c news hn hc b1 b2
  unfold Oper.wp
  simp [execOp, hop, resolve, invoke, builtin, hs, hx, hrun, Result.andThen]
  exact hK _ _ _ r1 r2
end


theorem belowAl {W0 W : World} (h : Below W0.heap.size W0 W) (o : Obj) : Below W0.heap.size W0 (W.alloc o) := h.alloc h.size o
theorem belowGr {W0 W W' : World} (h : Below W0.heap.size W0 W) (hg : W.grownBy W' none) : Below W0.heap.size W0 W' := h.grown hg h.size (fun _ h => by cases h)
end Go.Proofs.Ytlhinknmbgijeab

/- Contract of spec.l01Own: the disk as it was, in new memory. -/
namespace Go.Proofs.Ytlhinknmbgijeab
open Go.RowKit
set_option linter.unusedVariables false
set_option maxRecDepth 100000

/-- The cells of a slice's texts, of its writes, for an append. -/
theorem Ss.src {w : World} {ao : Option Addr} {ss : List ByteArray} (h : Ss w ao ss) : 0 < ss.length → ∃ ad, ao = some ad ∧ ∀ j u, (strV ss)[j]? = some u → w.cell? (ad.add j) = some u := fun hp => by
  obtain ⟨b, off, rfl, hc⟩ := h.at hp
  exact ⟨_, rfl, hc⟩
theorem Ios.src {w : World} {ao : Option Addr} {xs : List Wr} (h : Ios w ao xs) : 0 < xs.length → ∃ ad, ao = some ad ∧ ∀ j u, (ioV xs)[j]? = some u → w.cell? (ad.add j) = some u := fun hp => by
  obtain ⟨b, off, rfl, hc⟩ := h.at hp
  exact ⟨_, rfl, hc⟩


end Go.Proofs.Ytlhinknmbgijeab

/- Variables that hold a write; ends of calls that answer with a disk. -/
namespace Go.Proofs.Ytlhinknmbgijeab
open Go.RowKit
set_option linter.unusedVariables false

def wrV (x : Wr) : List Value := [.int .i64 x.host, .int .i64 x.at_, .string x.data]
theorem wrV_one (x : Wr) : ∀ u ∈ wrV x, u.oneCell' = true := by
  intro u hu
  simp [wrV] at hu
  rcases hu with rfl | rfl | rfl <;> rfl
theorem ioV_snoc (xs : List Wr) (x : Wr) : ioV (xs ++ [x]) = ioV xs ++ wrV x := by simp [ioV, wrV]

theorem belowKp {W0 W W' : World} {S : Nat → Prop} (h : Below W0.heap.size W0 W) (hk : Keep S W W') (hs : ∀ j, S j → W0.heap.size ≤ j) : Below W0.heap.size W0 W' := h.trans (hk.below h.size hs)
theorem zero_end {w wL : World} (hb : Below w.heap.size w wL) (a b : Value) : Below w.heap.size w ((wL.setCell ⟨w.heap.size + 1, 0, none⟩ a).setCell ⟨w.heap.size + 1, 1, none⟩ b) :=
  (hb.setCell (p := ⟨w.heap.size + 1, 0, none⟩) (by simp) a).setCell (p := ⟨w.heap.size + 1, 1, none⟩) (by simp) b

theorem ask_zero (ss : List ByteArray) (xs : List Wr) (h : Int) : askC ss xs h 0 = hostC ss xs h := by
  unfold askC
  split
  · rename_i e; rw [e]; rfl
  · rfl
end Go.Proofs.Ytlhinknmbgijeab

/- Contract of impl.landFirst: of a host's writes the first ones are sure. -/
namespace Go.Proofs.Ytlhinknmbgijeab
open Go.RowKit
set_option linter.unusedVariables false

/-- One write of a disk's, as a host's writes land: the sectors, what is left, how many may still land. -/
def stepF (h : Int) (lost : Bool) (st : List ByteArray × List Wr × Int) (x : Wr) : List ByteArray × List Wr × Int :=
  if x.host = h then (if 0 < st.2.2 then (st.1.set x.at_.toNat x.data, st.2.1, st.2.2 - 1) else if lost = true then st else (st.1, st.2.1 ++ [x], st.2.2)) else (st.1, st.2.1 ++ [x], st.2.2)
def landF (h : Int) (lost : Bool) (ss : List ByteArray) (xs : List Wr) (n : Int) : List ByteArray × List Wr × Int := xs.foldl (stepF h lost) (ss, [], n)
theorem landF_succ {h : Int} {lost : Bool} {ss : List ByteArray} {xs : List Wr} {n : Int} {k : Nat} (hk : k < xs.length) : landF h lost ss (xs.take (k + 1)) n = stepF h lost (landF h lost ss (xs.take k) n) xs[k] := by
  unfold landF
  rw [List.take_succ_eq_append_getElem hk, List.foldl_append]
  rfl
theorem step_other {h : Int} {lost : Bool} {x : Wr} (ha : x.host ≠ h) (SS : List ByteArray) (LX : List Wr) (N : Int) : stepF h lost (SS, LX, N) x = (SS, LX ++ [x], N) := by simp [stepF, ha]
theorem step_land {h : Int} {lost : Bool} {x : Wr} (ha : x.host = h) (SS : List ByteArray) (LX : List Wr) {N : Int} (hn : 0 < N) : stepF h lost (SS, LX, N) x = (SS.set x.at_.toNat x.data, LX, N - 1) := by simp [stepF, ha, hn]
theorem step_keep {h : Int} {x : Wr} (ha : x.host = h) (SS : List ByteArray) (LX : List Wr) {N : Int} (hn : ¬ 0 < N) : stepF h false (SS, LX, N) x = (SS, LX ++ [x], N) := by simp [stepF, ha, hn]

theorem strV_set (SS : List ByteArray) (j : Nat) (d : ByteArray) : (strV SS).set j (.string d) = strV (SS.set j d) := by simp [strV, List.map_set]

end Go.Proofs.Ytlhinknmbgijeab

/- Contract of spec.l01Land: of a host's writes the first ones are sure, the others stay or are lost. -/
namespace Go.Proofs.Ytlhinknmbgijeab
open Go.RowKit
set_option linter.unusedVariables false

theorem step_drop {h : Int} {x : Wr} (ha : x.host = h) (SS : List ByteArray) (LX : List Wr) {N : Int} (hn : ¬ 0 < N) : stepF h true (SS, LX, N) x = (SS, LX, N) := by simp [stepF, ha, hn]

end Go.Proofs.Ytlhinknmbgijeab

/- What lands comes out of what was there; the bounds of a right disk. -/
namespace Go.Proofs.Ytlhinknmbgijeab
open Go.RowKit
set_option linter.unusedVariables false

/-- What lands comes out of what was there. -/
theorem land_inv (h : Int) (lost : Bool) (P : ByteArray → Prop) : ∀ (xs : List Wr) (SS : List ByteArray) (LX : List Wr) (N : Int), (∀ s ∈ SS, P s) → (∀ x ∈ xs, P x.data) → (∀ x ∈ LX, P x.data) →
    (∀ s ∈ (xs.foldl (stepF h lost) (SS, LX, N)).1, P s) ∧ (∀ x ∈ (xs.foldl (stepF h lost) (SS, LX, N)).2.1, P x.data) ∧ (xs.foldl (stepF h lost) (SS, LX, N)).1.length = SS.length ∧ (xs.foldl (stepF h lost) (SS, LX, N)).2.1.length ≤ LX.length + xs.length
  | [], SS, LX, N, h1, _, h3 => ⟨h1, h3, rfl, Nat.le_refl _⟩
  | x :: xs, SS, LX, N, h1, h2, h3 => by
    have hx := h2 x (List.mem_cons_self ..)
    have hr : ∀ y ∈ xs, P y.data := fun y hy => h2 y (List.mem_cons_of_mem _ hy)
    have happ : ∀ y ∈ LX ++ [x], P y.data := by
      intro y hy
      rcases List.mem_append.1 hy with h | h
      · exact h3 y h
      · simp at h; subst h; exact hx
    have hset : ∀ s ∈ SS.set x.at_.toNat x.data, P s := by
      intro s hs
      rcases List.mem_or_eq_of_mem_set hs with h | h
      · exact h1 s h
      · rw [h]; exact hx
    rw [List.foldl_cons]
    by_cases ha : x.host = h
    · by_cases hn : 0 < N
      · rw [step_land ha SS LX hn]
        obtain ⟨q1, q2, q3, q4⟩ := land_inv h lost P xs (SS.set x.at_.toNat x.data) LX (N - 1) hset hr h3
        exact ⟨q1, q2, by rw [q3, List.length_set], by simp only [List.length_cons]; omega⟩
      · cases lost
        · rw [step_keep ha SS LX hn]
          obtain ⟨q1, q2, q3, q4⟩ := land_inv h false P xs SS (LX ++ [x]) N h1 hr happ
          exact ⟨q1, q2, q3, by simp only [List.length_cons, List.length_append, List.length_nil] at q4 ⊢; omega⟩
        · rw [step_drop ha SS LX hn]
          obtain ⟨q1, q2, q3, q4⟩ := land_inv h true P xs SS LX N h1 hr h3
          exact ⟨q1, q2, q3, by simp only [List.length_cons]; omega⟩
    · rw [step_other ha SS LX N]
      obtain ⟨q1, q2, q3, q4⟩ := land_inv h lost P xs SS (LX ++ [x]) N h1 hr happ
      exact ⟨q1, q2, q3, by simp only [List.length_cons, List.length_append, List.length_nil] at q4 ⊢; omega⟩
theorem landF_inv {h n : Int} {lost : Bool} {ss : List ByteArray} {xs : List Wr} (P : ByteArray → Prop) (h1 : ∀ s ∈ ss, P s) (h2 : ∀ x ∈ xs, P x.data) :
    (∀ s ∈ (landF h lost ss xs n).1, P s) ∧ (∀ x ∈ (landF h lost ss xs n).2.1, P x.data) ∧ (landF h lost ss xs n).1.length = ss.length ∧ (landF h lost ss xs n).2.1.length ≤ xs.length := by
  have := land_inv h lost P xs ss [] n h1 h2 (fun _ h => by cases h)
  simpa [landF] using this

theorem diskB_at {ss : List ByteArray} {xs : List Wr} (h : diskB ss xs = true) : ∀ i (hi : i < xs.length), 0 ≤ xs[i].at_ ∧ xs[i].at_ < ss.length := by
  intro i hi
  have hl := (diskB_len h).1
  simp only [diskB, penB, Bool.and_eq_true, List.all_eq_true] at h
  have := h.2.2 xs[i] (List.getElem_mem hi)
  simp only [ioB, Bool.and_eq_true, decide_eq_true_eq] at this
  omega

/-- What Flush answers. -/
def flS (ss : List ByteArray) (xs : List Wr) (h : Int) : List ByteArray := if hostC ss xs h = 0 then (landF h false ss xs 200).1 else []
def flX (ss : List ByteArray) (xs : List Wr) (h : Int) : List Wr := if hostC ss xs h = 0 then (landF h false ss xs 200).2.1 else []
theorem fl_ok {ss : List ByteArray} {xs : List Wr} {h : Int} (h1 : hostC ss xs h = 0) : flS ss xs h = (landF h false ss xs 200).1 ∧ flX ss xs h = (landF h false ss xs 200).2.1 := by simp [flS, flX, h1]
theorem fl_bad {ss : List ByteArray} {xs : List Wr} {h : Int} (h1 : ¬ hostC ss xs h = 0) : flS ss xs h = [] ∧ flX ss xs h = [] := by simp [flS, flX, h1]
theorem landF_slen {h n : Int} {lost : Bool} {ss : List ByteArray} {xs : List Wr} : (landF h lost ss xs n).1.length = ss.length := (landF_inv (fun _ => True) (fun _ _ => trivial) (fun _ _ => trivial)).2.2.1

end Go.Proofs.Ytlhinknmbgijeab

/- Contract of impl.dropWrites: a host's writes are gone; and that what lands with the others lost is what lands, the host's writes dropped. -/
namespace Go.Proofs.Ytlhinknmbgijeab
open Go.RowKit
set_option linter.unusedVariables false

/-- The writes of other hosts. -/
def dropF (h : Int) (xs : List Wr) : List Wr := xs.filter fun x => x.host != h
theorem dropF_succ_hit {h : Int} {xs : List Wr} {k : Nat} (hk : k < xs.length) (he : xs[k].host = h) : dropF h (xs.take (k + 1)) = dropF h (xs.take k) := by
  rw [dropF, dropF, List.take_succ_eq_append_getElem hk, List.filter_append]; simp [he]
theorem dropF_succ_miss {h : Int} {xs : List Wr} {k : Nat} (hk : k < xs.length) (he : ¬ xs[k].host = h) : dropF h (xs.take (k + 1)) = dropF h (xs.take k) ++ [xs[k]] := by
  rw [dropF, dropF, List.take_succ_eq_append_getElem hk, List.filter_append]; simp [he]
theorem land_drop (h : Int) : ∀ (xs : List Wr) (SS : List ByteArray) (LX : List Wr) (N : Int), xs.foldl (stepF h true) (SS, dropF h LX, N) = ((xs.foldl (stepF h false) (SS, LX, N)).1, dropF h (xs.foldl (stepF h false) (SS, LX, N)).2.1, (xs.foldl (stepF h false) (SS, LX, N)).2.2)
  | [], SS, LX, N => rfl
  | x :: xs, SS, LX, N => by
    rw [List.foldl_cons, List.foldl_cons]
    by_cases ha : x.host = h
    · by_cases hn : 0 < N
      · rw [step_land ha SS LX hn, step_land ha SS (dropF h LX) hn]
        exact land_drop h xs _ _ _
      · rw [step_keep ha SS LX hn, step_drop ha SS (dropF h LX) hn]
        have : dropF h LX = dropF h (LX ++ [x]) := by simp [dropF, ha]
        rw [this]
        exact land_drop h xs _ _ _
    · rw [step_other ha SS LX N, step_other ha SS (dropF h LX) N]
      have : dropF h LX ++ [x] = dropF h (LX ++ [x]) := by simp [dropF, ha]
      rw [this]
      exact land_drop h xs _ _ _
theorem landF_lost (h n : Int) (ss : List ByteArray) (xs : List Wr) : (landF h true ss xs n).1 = (landF h false ss xs n).1 ∧ (landF h true ss xs n).2.1 = dropF h (landF h false ss xs n).2.1 := by
  have := land_drop h xs ss [] n
  have e : landF h true ss xs n = xs.foldl (stepF h true) (ss, dropF h [], n) := rfl
  rw [e, this]
  exact ⟨rfl, rfl⟩

end Go.Proofs.Ytlhinknmbgijeab

/- Flush: contracts of the model and of the program. -/
namespace Go.Proofs.Ytlhinknmbgijeab
open Go.RowKit
set_option linter.unusedVariables false

end Go.Proofs.Ytlhinknmbgijeab

/- LoseHost: contracts of the model and of the program. -/
namespace Go.Proofs.Ytlhinknmbgijeab
open Go.RowKit
set_option linter.unusedVariables false

/-- What LoseHost answers. -/
def loS (ss : List ByteArray) (xs : List Wr) (h k : Int) : List ByteArray := if hostC ss xs h = 0 then (if inB k 0 200 = true then (landF h true ss xs k).1 else []) else []
def loX (ss : List ByteArray) (xs : List Wr) (h k : Int) : List Wr := if hostC ss xs h = 0 then (if inB k 0 200 = true then (landF h true ss xs k).2.1 else []) else []
def loC (ss : List ByteArray) (xs : List Wr) (h k : Int) : Int := if hostC ss xs h = 0 then (if inB k 0 200 = true then 0 else 4) else hostC ss xs h
theorem lo_ok {ss : List ByteArray} {xs : List Wr} {h k : Int} (h1 : hostC ss xs h = 0) (h2 : inB k 0 200 = true) : loS ss xs h k = (landF h true ss xs k).1 ∧ loX ss xs h k = (landF h true ss xs k).2.1 ∧ loC ss xs h k = 0 := by simp [loS, loX, loC, h1, h2]
theorem lo_range {ss : List ByteArray} {xs : List Wr} {h k : Int} (h1 : hostC ss xs h = 0) (h2 : inB k 0 200 = false) : loS ss xs h k = [] ∧ loX ss xs h k = [] ∧ loC ss xs h k = 4 := by simp [loS, loX, loC, h1, h2]
theorem lo_bad {ss : List ByteArray} {xs : List Wr} {h k : Int} (h1 : ¬ hostC ss xs h = 0) : loS ss xs h k = [] ∧ loX ss xs h k = [] ∧ loC ss xs h k = hostC ss xs h := by simp [loS, loX, loC, h1]
theorem inB_eq {k a b : Int} (h : inB k a b = true) : a ≤ k ∧ k ≤ b := by simpa [inB] using h
theorem inB_ne {k a b : Int} (h : inB k a b = false) (hk : ¬ k < a) : b < k := by
  simp [inB] at h
  omega

end Go.Proofs.Ytlhinknmbgijeab
