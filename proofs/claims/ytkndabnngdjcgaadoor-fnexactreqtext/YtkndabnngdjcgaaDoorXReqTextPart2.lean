import Derived.Test.YtkndabnngdjcgaaDoorXReqTextPart1
import Derived.WalkKit
import Derived.WalkSpells
import Derived.Orders
import Derived.Still
import Derived.Lib.ItoaMem
import Derived.Deep.Cut
import Derived.OrdersHeld
import Derived.Deep.RegionHeld3
import Derived.KernelRfl
import Derived.Test.YtkndabnngdjcgaaDoorRows
import Derived.BigQuiet
import Derived.Deep.QuietTactic
import Derived.Deep.RegionWith
import Derived.Lib.SmallJoins
import Derived.Laws.BytesArg
import Derived.Laws.BitsLemmas
import Derived.Lib.EndianBits

/- A region that draws its order, met by an invariant: one step law an operation, whatever order is drawn. -/
namespace Go.Proofs.YtkndabnngdjcgaaDoor
open Go.RowKit
set_option linter.unusedVariables false

section
variable {P : Program}
/-- Every operation waits for earlier ones alone. -/
def linB (l : List Oper) : Bool := (List.range l.length).all fun i => ((l[i]?).map fun o => o.after.all fun e => decide (e.on < i)).getD true
theorem linB_spec {l : List Oper} (h : linB l = true) {i : Nat} {o : Oper} (hi : l[i]? = some o) {e : Edge} (he : e ∈ o.after) : e.on < i := by
  have hl := (List.getElem?_eq_some_iff.1 hi).1
  have := List.all_eq_true.1 h i (List.mem_range.2 hl)
  rw [hi] at this
  simp only [Option.map_some, Option.getD_some] at this
  have := Array.all_eq_true_iff_forall_mem.1 this e he
  exact of_decide_eq_true this

/-- No operation is guarded. -/
def noG (l : List Oper) : Bool := l.all fun o => o.guard.isNone
theorem noG_spec {l : List Oper} (h : noG l = true) (i : Nat) (o : Oper) (hi : l[i]? = some o) : o.guard = none := by
  have := List.all_eq_true.1 h o (List.mem_of_getElem? hi)
  simpa using this
/-- What has been done, and one more. -/
def updD (d : Nat → Bool) (i : Nat) : Nat → Bool := fun j => d j || decide (j = i)

theorem wp_region_inv {id : Nat} {Q : Exit → Act → World → Prop} {a : Act} {w : World} {l : List Oper} (I : (Nat → Bool) → Act → World → Prop) (hm : P.follows .mixedOrders = true) (hl : linB l = true)
    (hg : ∀ (i : Nat) (o : Oper), l[i]? = some o → o.guard = none)
    (h0 : I (fun _ => false) a { w with drawn := w.drawn + 1 })
    (hs : ∀ (d : Nat → Bool) (a : Act) (w : World) (i : Nat) (o : Oper), I d a w → l[i]? = some o → d i = false → (∀ e ∈ o.after, Region.binds .any e = true → d e.on = true) → ∀ K : Act → World → Prop, (∀ a' w', I (updD d i) a' w' → K a' w') → o.wp P a w K Q)
    (he : ∀ (d : Nat → Bool) (a : Act) (w : World), I d a w → (∀ i, i < l.length → d i = true) → Q .normal a w) : (Code.region id l.toArray true).wp P Q a w := by
  refine wp_region_any hm ?_
  have key : ∀ (fuel : Nat) (listed : Array Bool) (a : Act) (w : World), listed.size = l.length → ((List.range l.length).filter fun i => !listed.getD i true).length ≤ fuel → I (fun j => listed.getD j true && decide (j < l.length)) a w → wpAny P .any l.toArray Q fuel listed a w := by
    intro fuel
    induction fuel with
    | zero =>
      intro listed a w hsz hn hI
      have hall : ∀ i, i < l.length → listed.getD i true = true := fun i hi => by
        cases h : listed.getD i true with
        | true => rfl
        | false =>
          have : i ∈ (List.range l.length).filter fun i => !listed.getD i true := List.mem_filter.2 ⟨List.mem_range.2 hi, by rw [h]; rfl⟩
          have := List.length_pos_of_mem this
          omega
      refine ⟨?_, he _ _ _ hI (fun i hi => by rw [hall i hi]; simp [hi])⟩
      rw [List.eq_nil_iff_forall_not_mem]
      intro i hi
      obtain ⟨h1, o, ho, _⟩ := mem_ready.1 hi
      have hil : i < l.length := by have := (Array.getElem?_eq_some_iff.1 ho).1; simpa using this
      rw [hall i hil] at h1
      cases h1
    | succ fuel ih =>
      intro listed a w hsz hn hI
      refine ⟨fun hr => he _ _ _ hI ?_, fun i hi => ?_⟩
      · have : ∀ n, ∀ i, i < n → i < l.length → listed.getD i true = true := by
          intro n
          induction n with
          | zero => intro i hi; omega
          | succ n ihn =>
            intro i hi hil
            by_cases hin : i < n
            · exact ihn i hin hil
            obtain rfl : i = n := by omega
            cases h : listed.getD i true with
            | true => rfl
            | false =>
              have hm' : i ∈ Region.ready .any l.toArray listed := mem_ready.2 ⟨h, l[i], by simp [hil], fun e he hb => by
                have hlt := linB_spec hl (List.getElem?_eq_getElem hil) he
                have h1 := ihn e.on hlt (by omega)
                have hz : e.on < listed.size := by omega
                rw [Array.getD_eq_getD_getElem?, Array.getElem?_eq_getElem hz] at h1 ⊢
                simpa only [Option.getD_some] using h1⟩
              rw [hr] at hm'
              cases hm'
        intro i hil
        rw [this (i + 1) i (by omega) hil]
        simp [hil]
      · obtain ⟨h1, o, ho, hp⟩ := mem_ready.1 hi
        have hil : i < l.length := by have := (Array.getElem?_eq_some_iff.1 ho).1; simpa using this
        have hoL : l[i]? = some o := by simpa using ho
        unfold wpOp
        simp only [ho]
        have hw : Region.wanted o (yielded l.toArray a.tmps) = true := by simp [Region.wanted, hg i o hoL]
        rw [if_pos hw]
        refine .inl (hs _ a w i o hI hoL (by rw [h1]; rfl) (fun e he hb => ?_) _ (fun a' w' hI' => ?_))
        · have h2 := hp e he hb
          have hlt := linB_spec hl hoL he
          have : e.on < listed.size := by omega
          rw [Array.getD_eq_getD_getElem?, Array.getElem?_eq_getElem this] at h2 ⊢
          simp only [Option.getD_some] at h2 ⊢
          rw [h2]
          simp
          omega
        · refine ih _ a' w' (by simpa using hsz) ?_ ?_
          · have hlt : ((List.range l.length).filter fun j => !(listed.setIfInBounds i true).getD j true).length < ((List.range l.length).filter fun j => !listed.getD j true).length := by
              have hsub : ((List.range l.length).filter fun j => !(listed.setIfInBounds i true).getD j true) = ((List.range l.length).filter fun j => !listed.getD j true).filter fun j => decide (j ≠ i) := by
                rw [List.filter_filter]
                congr 1
                funext j
                by_cases hji : j = i
                · subst hji
                  simp [Array.getD_eq_getD_getElem?, hsz, hil]
                · have : i ≠ j := fun e => hji e.symm
                  simp [Array.getD_eq_getD_getElem?, this, hji]
              rw [hsub]
              refine Nat.lt_of_le_of_ne (List.length_filter_le _ _) (fun e => ?_)
              have := List.length_filter_eq_length_iff.1 e i (List.mem_filter.2 ⟨List.mem_range.2 hil, by rw [h1]; rfl⟩)
              simp at this
            omega
          · have e : (fun j => (listed.setIfInBounds i true).getD j true && decide (j < l.length)) = updD (fun j => listed.getD j true && decide (j < l.length)) i := by
              funext j
              unfold updD
              by_cases hji : j = i
              · subst hji
                simp [Array.getD_eq_getD_getElem?, hsz, hil]
              · have : i ≠ j := fun e => hji e.symm
                simp [Array.getD_eq_getD_getElem?, this, hji]
            rw [e]
            exact hI'
  refine key _ _ _ _ (by simp) ?_ ?_
  · refine Nat.le_trans (List.length_filter_le _ _) ?_
    simp
  · have e : (fun j => (Array.replicate l.toArray.size false).getD j true && decide (j < l.length)) = fun _ => false := by
      funext j
      by_cases hj : j < l.length
      · simp [Array.getD_eq_getD_getElem?, hj]
      · simp [hj]
    rw [e]
    exact h0
/-- What has been done is closed: whatever an operation waits for has been done before it. -/
def Closed (l : List Oper) (d : Nat → Bool) : Prop := ∀ (j : Nat) (o : Oper), l[j]? = some o → d j = true → ∀ e ∈ o.after, Region.binds .any e = true → d e.on = true
/-- The second has been done where the first has. -/
def reachB (l : List Oper) : Nat → Nat → Nat → Bool
  | 0, j, i => decide (j = i)
  | f + 1, j, i => decide (j = i) || ((l[j]?).map fun o => o.after.any fun e => Region.binds .any e && reachB l f e.on i).getD false
theorem reach_done {l : List Oper} {d : Nat → Bool} (hc : Closed l d) : ∀ {f j i : Nat}, reachB l f j i = true → d j = true → d i = true
  | 0, j, i, h, hj => by
    simp only [reachB, decide_eq_true_eq] at h
    rwa [← h]
  | f + 1, j, i, h, hj => by
    simp only [reachB, Bool.or_eq_true, decide_eq_true_eq] at h
    rcases h with h | h
    · rwa [← h]
    · cases ho : l[j]? with
      | none => rw [ho] at h; simp at h
      | some o =>
        rw [ho] at h
        simp only [Option.map_some, Option.getD_some] at h
        rw [Array.any_eq_true] at h
        obtain ⟨n, hn, he⟩ := h
        rw [Bool.and_eq_true] at he
        exact reach_done hc he.2 (hc j o ho hj o.after[n] (Array.getElem_mem hn) he.1)
theorem not_yet {l : List Oper} {d : Nat → Bool} (hc : Closed l d) (f : Nat) {j i : Nat} (hr : reachB l f j i = true) (hi : d i = false) : d j = false := by
  cases h : d j with
  | false => rfl
  | true => rw [reach_done hc hr h] at hi; cases hi
theorem wp_region_inv2 {id : Nat} {Q : Exit → Act → World → Prop} {a : Act} {w : World} {l : List Oper} (I : (Nat → Bool) → Act → World → Prop) (hm : P.follows .mixedOrders = true) (hl : linB l = true)
    (hg : ∀ (i : Nat) (o : Oper), l[i]? = some o → o.guard = none)
    (h0 : I (fun _ => false) a { w with drawn := w.drawn + 1 })
    (hs : ∀ (d : Nat → Bool) (a : Act) (w : World) (i : Nat) (o : Oper), Closed l d → I d a w → l[i]? = some o → d i = false → (∀ e ∈ o.after, Region.binds .any e = true → d e.on = true) → ∀ K : Act → World → Prop, (∀ a' w', I (updD d i) a' w' → K a' w') → o.wp P a w K Q)
    (he : ∀ (d : Nat → Bool) (a : Act) (w : World), I d a w → (∀ i, i < l.length → d i = true) → Q .normal a w) : (Code.region id l.toArray true).wp P Q a w := by
  refine wp_region_inv (fun d a w => Closed l d ∧ I d a w) hm hl hg ⟨fun j o _ h => (by cases h), h0⟩ (fun d a w i o hI ho hd hp K hK => ?_) (fun d a w hI hall => he d a w hI.2 hall)
  refine hs d a w i o hI.1 hI.2 ho hd hp K (fun a' w' hI' => hK a' w' ⟨fun j oj hj hd' e he' hb => ?_, hI'⟩)
  simp only [updD, Bool.or_eq_true, decide_eq_true_eq] at hd' ⊢
  rcases hd' with hd' | rfl
  · exact .inl (hI.1 j oj hj hd' e he' hb)
  · rw [ho] at hj
    cases hj
    exact .inl (hp e he' hb)
end

end Go.Proofs.YtkndabnngdjcgaaDoor

/- Contract of the model's l00Digits at numbers from 0 on. (Written by gens/dgs.py.) -/
namespace Go.Proofs.YtkndabnngdjcgaaDoor
open Go.RowKit
set_option linter.unusedVariables false
set_option maxRecDepth 100000

theorem updG_ne {d : Nat → Bool} {i k : Nat} (hk : k ≠ i) (h : updD d i k = true) : d k = true := by
  unfold updD at h
  rw [decide_eq_false hk] at h
  simpa using h
theorem dg_wrap {x : Int} (h : -9223372036854775808 ≤ x) (h' : x ≤ 9223372036854775807) : IntKind.i64.wrap x = x := by rw [IntKind.wrap_i64]; omega
theorem dg_wrap8 {x : Int} (h : 0 ≤ x) (h' : x ≤ 255) : IntKind.u8.wrap x = x := by rw [show IntKind.u8.wrap x = x % 256 from rfl]; omega
/-- A number's digits. -/
def dgS (n : Nat) : ByteArray := ⟨(Lib.decDigits n).toArray⟩
theorem dg_len : ∀ n : Nat, (Lib.decDigits n).length ≤ n + 1 := by
  intro n
  induction n using Nat.strongRecOn with
  | _ n ih =>
    rw [Lib.decDigits]
    split
    · simp
    · have := ih (n / 10) (by omega)
      simp only [List.length_append, List.length_cons, List.length_nil]
      omega
theorem dgS_size (n : Nat) : (dgS n).size ≤ n + 1 := by
  have := dg_len n
  simpa [dgS, ByteArray.size] using this
theorem dgS_one {n : Nat} (h : n < 10) : dgS n = strOfNums [48 + (n : Int)] := by
  unfold dgS strOfNums
  rw [Lib.decDigits_one h]
  simp [show (48 + (n : Int)).toNat = 48 + n by omega]
theorem dgS_step {n : Nat} (h : ¬ n < 10) : dgS n = dgS (n / 10) ++ strOfNums [48 + ((n % 10 : Nat) : Int)] := by
  apply ByteArray.ext
  unfold dgS strOfNums
  conv => lhs; rw [Lib.decDigits, dif_neg h]
  rw [ByteArray.data_append]
  simp only [List.map_cons, List.map_nil, List.append_toArray]
  rw [show (48 + ((n % 10 : Nat) : Int)).toNat = 48 + n % 10 by omega]
/-- 'string([]byte{a})'. -/
theorem lit1 (W : World) (g : Nat) (a : Int) (h : W.heap[g]? = some (.cells #[.int .u8 a] 5 (0, 0))) : (convert 59 9 (.slice (some ⟨g, 0, none⟩) 1 1)).run Tryd.prog W = .ok (.string (strOfNums [a])) W := by
  refine run_convert_bytes_arg _ 59 5 Tryd.underlying59 Tryd.underlying5 g 0 1 1 [a] rfl ?_ 9 Tryd.underlying9
  intro i hi
  obtain rfl : i = 0 := by simpa using hi
  rw [Joins.cell_of_block h]; rfl

structure DgJ (Wq : World) (n : Nat) (X Y : ByteArray) (D : Nat → Bool) (w : World) (s2 s18 s19 s20 s21 s22 s23 s24 s25 s26 s27 : Value) : Prop where
  bw : Below Wq.heap.size Wq w
  f0 : D 0 = true → s18 = .int .i64 n
  f1 : D 1 = true → s19 = .int .i64 ((n / 10 : Nat) : Int)
  f2 : D 2 = true → s20 = .string X
  f3 : D 3 = true → s21 = .int .i64 n
  f4 : D 4 = true → s22 = .int .i64 ((n % 10 : Nat) : Int)
  f5 : D 5 = true → s23 = .int .i64 (48 + ((n % 10 : Nat) : Int))
  f6 : D 6 = true → s24 = .int .u8 (48 + ((n % 10 : Nat) : Int))
  p7 : D 7 = true → ∃ q, s25 = .slice (some ⟨q, 0, none⟩) 1 1 ∧ w.heap[q]? = some (.cells #[.int .u8 (48 + ((n % 10 : Nat) : Int))] 5 (0, 0))
  f8 : D 8 = true → s26 = .string (strOfNums [48 + ((n % 10 : Nat) : Int)])
  f9 : D 9 = true → s27 = .string Y
  f10 : D 10 = true → s2 = .string Y

theorem DgJ.grow {Wq : World} {n : Nat} {X Y : ByteArray} {D : Nat → Bool} {w w2 : World} {s2 s18 s19 s20 s21 s22 s23 s24 s25 s26 s27 : Value} (I : DgJ Wq n X Y D w s2 s18 s19 s20 s21 s22 s23 s24 s25 s26 s27) (hb : Below w.heap.size w w2) : DgJ Wq n X Y D w2 s2 s18 s19 s20 s21 s22 s23 s24 s25 s26 s27 where
  bw := fr I.bw hb
  f0 := I.f0
  f1 := I.f1
  f2 := I.f2
  f3 := I.f3
  f4 := I.f4
  f5 := I.f5
  f6 := I.f6
  p7 := fun h => (I.p7 h).imp fun q h1 => ⟨h1.1, by rw [hb.block q (Array.getElem?_eq_some_iff.1 h1.2).1]; exact h1.2⟩
  f8 := I.f8
  f9 := I.f9
  f10 := I.f10

theorem DgJ.s0 {Wq : World} {n : Nat} {X Y : ByteArray} {D : Nat → Bool} {w : World} {s2 s18 s19 s20 s21 s22 s23 s24 s25 s26 s27 v : Value} (I : DgJ Wq n X Y D w s2 s18 s19 s20 s21 s22 s23 s24 s25 s26 s27) (hd : D 0 = false) (hv : v = .int .i64 n) : DgJ Wq n X Y (updD D 0) w s2 v s19 s20 s21 s22 s23 s24 s25 s26 s27 where
  bw := I.bw
  f0 := fun _ => hv
  f1 := fun h => I.f1 (updG_ne (by decide) h)
  f2 := fun h => I.f2 (updG_ne (by decide) h)
  f3 := fun h => I.f3 (updG_ne (by decide) h)
  f4 := fun h => I.f4 (updG_ne (by decide) h)
  f5 := fun h => I.f5 (updG_ne (by decide) h)
  f6 := fun h => I.f6 (updG_ne (by decide) h)
  p7 := fun h => I.p7 (updG_ne (by decide) h)
  f8 := fun h => I.f8 (updG_ne (by decide) h)
  f9 := fun h => I.f9 (updG_ne (by decide) h)
  f10 := fun h => I.f10 (updG_ne (by decide) h)

theorem DgJ.s1 {Wq : World} {n : Nat} {X Y : ByteArray} {D : Nat → Bool} {w : World} {s2 s18 s19 s20 s21 s22 s23 s24 s25 s26 s27 v : Value} (I : DgJ Wq n X Y D w s2 s18 s19 s20 s21 s22 s23 s24 s25 s26 s27) (hd : D 1 = false) (hv : v = .int .i64 ((n / 10 : Nat) : Int)) : DgJ Wq n X Y (updD D 1) w s2 s18 v s20 s21 s22 s23 s24 s25 s26 s27 where
  bw := I.bw
  f0 := fun h => I.f0 (updG_ne (by decide) h)
  f1 := fun _ => hv
  f2 := fun h => I.f2 (updG_ne (by decide) h)
  f3 := fun h => I.f3 (updG_ne (by decide) h)
  f4 := fun h => I.f4 (updG_ne (by decide) h)
  f5 := fun h => I.f5 (updG_ne (by decide) h)
  f6 := fun h => I.f6 (updG_ne (by decide) h)
  p7 := fun h => I.p7 (updG_ne (by decide) h)
  f8 := fun h => I.f8 (updG_ne (by decide) h)
  f9 := fun h => I.f9 (updG_ne (by decide) h)
  f10 := fun h => I.f10 (updG_ne (by decide) h)

theorem DgJ.s2 {Wq : World} {n : Nat} {X Y : ByteArray} {D : Nat → Bool} {w : World} {s2 s18 s19 s20 s21 s22 s23 s24 s25 s26 s27 v : Value} (I : DgJ Wq n X Y D w s2 s18 s19 s20 s21 s22 s23 s24 s25 s26 s27) (hd : D 2 = false) (hv : v = .string X) : DgJ Wq n X Y (updD D 2) w s2 s18 s19 v s21 s22 s23 s24 s25 s26 s27 where
  bw := I.bw
  f0 := fun h => I.f0 (updG_ne (by decide) h)
  f1 := fun h => I.f1 (updG_ne (by decide) h)
  f2 := fun _ => hv
  f3 := fun h => I.f3 (updG_ne (by decide) h)
  f4 := fun h => I.f4 (updG_ne (by decide) h)
  f5 := fun h => I.f5 (updG_ne (by decide) h)
  f6 := fun h => I.f6 (updG_ne (by decide) h)
  p7 := fun h => I.p7 (updG_ne (by decide) h)
  f8 := fun h => I.f8 (updG_ne (by decide) h)
  f9 := fun h => I.f9 (updG_ne (by decide) h)
  f10 := fun h => I.f10 (updG_ne (by decide) h)

theorem DgJ.s3 {Wq : World} {n : Nat} {X Y : ByteArray} {D : Nat → Bool} {w : World} {s2 s18 s19 s20 s21 s22 s23 s24 s25 s26 s27 v : Value} (I : DgJ Wq n X Y D w s2 s18 s19 s20 s21 s22 s23 s24 s25 s26 s27) (hd : D 3 = false) (hv : v = .int .i64 n) : DgJ Wq n X Y (updD D 3) w s2 s18 s19 s20 v s22 s23 s24 s25 s26 s27 where
  bw := I.bw
  f0 := fun h => I.f0 (updG_ne (by decide) h)
  f1 := fun h => I.f1 (updG_ne (by decide) h)
  f2 := fun h => I.f2 (updG_ne (by decide) h)
  f3 := fun _ => hv
  f4 := fun h => I.f4 (updG_ne (by decide) h)
  f5 := fun h => I.f5 (updG_ne (by decide) h)
  f6 := fun h => I.f6 (updG_ne (by decide) h)
  p7 := fun h => I.p7 (updG_ne (by decide) h)
  f8 := fun h => I.f8 (updG_ne (by decide) h)
  f9 := fun h => I.f9 (updG_ne (by decide) h)
  f10 := fun h => I.f10 (updG_ne (by decide) h)

theorem DgJ.s4 {Wq : World} {n : Nat} {X Y : ByteArray} {D : Nat → Bool} {w : World} {s2 s18 s19 s20 s21 s22 s23 s24 s25 s26 s27 v : Value} (I : DgJ Wq n X Y D w s2 s18 s19 s20 s21 s22 s23 s24 s25 s26 s27) (hd : D 4 = false) (hv : v = .int .i64 ((n % 10 : Nat) : Int)) : DgJ Wq n X Y (updD D 4) w s2 s18 s19 s20 s21 v s23 s24 s25 s26 s27 where
  bw := I.bw
  f0 := fun h => I.f0 (updG_ne (by decide) h)
  f1 := fun h => I.f1 (updG_ne (by decide) h)
  f2 := fun h => I.f2 (updG_ne (by decide) h)
  f3 := fun h => I.f3 (updG_ne (by decide) h)
  f4 := fun _ => hv
  f5 := fun h => I.f5 (updG_ne (by decide) h)
  f6 := fun h => I.f6 (updG_ne (by decide) h)
  p7 := fun h => I.p7 (updG_ne (by decide) h)
  f8 := fun h => I.f8 (updG_ne (by decide) h)
  f9 := fun h => I.f9 (updG_ne (by decide) h)
  f10 := fun h => I.f10 (updG_ne (by decide) h)

theorem DgJ.s5 {Wq : World} {n : Nat} {X Y : ByteArray} {D : Nat → Bool} {w : World} {s2 s18 s19 s20 s21 s22 s23 s24 s25 s26 s27 v : Value} (I : DgJ Wq n X Y D w s2 s18 s19 s20 s21 s22 s23 s24 s25 s26 s27) (hd : D 5 = false) (hv : v = .int .i64 (48 + ((n % 10 : Nat) : Int))) : DgJ Wq n X Y (updD D 5) w s2 s18 s19 s20 s21 s22 v s24 s25 s26 s27 where
  bw := I.bw
  f0 := fun h => I.f0 (updG_ne (by decide) h)
  f1 := fun h => I.f1 (updG_ne (by decide) h)
  f2 := fun h => I.f2 (updG_ne (by decide) h)
  f3 := fun h => I.f3 (updG_ne (by decide) h)
  f4 := fun h => I.f4 (updG_ne (by decide) h)
  f5 := fun _ => hv
  f6 := fun h => I.f6 (updG_ne (by decide) h)
  p7 := fun h => I.p7 (updG_ne (by decide) h)
  f8 := fun h => I.f8 (updG_ne (by decide) h)
  f9 := fun h => I.f9 (updG_ne (by decide) h)
  f10 := fun h => I.f10 (updG_ne (by decide) h)

theorem DgJ.s6 {Wq : World} {n : Nat} {X Y : ByteArray} {D : Nat → Bool} {w : World} {s2 s18 s19 s20 s21 s22 s23 s24 s25 s26 s27 v : Value} (I : DgJ Wq n X Y D w s2 s18 s19 s20 s21 s22 s23 s24 s25 s26 s27) (hd : D 6 = false) (hv : v = .int .u8 (48 + ((n % 10 : Nat) : Int))) : DgJ Wq n X Y (updD D 6) w s2 s18 s19 s20 s21 s22 s23 v s25 s26 s27 where
  bw := I.bw
  f0 := fun h => I.f0 (updG_ne (by decide) h)
  f1 := fun h => I.f1 (updG_ne (by decide) h)
  f2 := fun h => I.f2 (updG_ne (by decide) h)
  f3 := fun h => I.f3 (updG_ne (by decide) h)
  f4 := fun h => I.f4 (updG_ne (by decide) h)
  f5 := fun h => I.f5 (updG_ne (by decide) h)
  f6 := fun _ => hv
  p7 := fun h => I.p7 (updG_ne (by decide) h)
  f8 := fun h => I.f8 (updG_ne (by decide) h)
  f9 := fun h => I.f9 (updG_ne (by decide) h)
  f10 := fun h => I.f10 (updG_ne (by decide) h)

theorem DgJ.s7 {Wq : World} {n : Nat} {X Y : ByteArray} {D : Nat → Bool} {w : World} {s2 s18 s19 s20 s21 s22 s23 s24 s25 s26 s27 v : Value} (I : DgJ Wq n X Y D w s2 s18 s19 s20 s21 s22 s23 s24 s25 s26 s27) (hd : D 7 = false) (hv : ∃ q, v = .slice (some ⟨q, 0, none⟩) 1 1 ∧ w.heap[q]? = some (.cells #[.int .u8 (48 + ((n % 10 : Nat) : Int))] 5 (0, 0))) : DgJ Wq n X Y (updD D 7) w s2 s18 s19 s20 s21 s22 s23 s24 v s26 s27 where
  bw := I.bw
  f0 := fun h => I.f0 (updG_ne (by decide) h)
  f1 := fun h => I.f1 (updG_ne (by decide) h)
  f2 := fun h => I.f2 (updG_ne (by decide) h)
  f3 := fun h => I.f3 (updG_ne (by decide) h)
  f4 := fun h => I.f4 (updG_ne (by decide) h)
  f5 := fun h => I.f5 (updG_ne (by decide) h)
  f6 := fun h => I.f6 (updG_ne (by decide) h)
  p7 := fun _ => hv
  f8 := fun h => I.f8 (updG_ne (by decide) h)
  f9 := fun h => I.f9 (updG_ne (by decide) h)
  f10 := fun h => I.f10 (updG_ne (by decide) h)

theorem DgJ.s8 {Wq : World} {n : Nat} {X Y : ByteArray} {D : Nat → Bool} {w : World} {s2 s18 s19 s20 s21 s22 s23 s24 s25 s26 s27 v : Value} (I : DgJ Wq n X Y D w s2 s18 s19 s20 s21 s22 s23 s24 s25 s26 s27) (hd : D 8 = false) (hv : v = .string (strOfNums [48 + ((n % 10 : Nat) : Int)])) : DgJ Wq n X Y (updD D 8) w s2 s18 s19 s20 s21 s22 s23 s24 s25 v s27 where
  bw := I.bw
  f0 := fun h => I.f0 (updG_ne (by decide) h)
  f1 := fun h => I.f1 (updG_ne (by decide) h)
  f2 := fun h => I.f2 (updG_ne (by decide) h)
  f3 := fun h => I.f3 (updG_ne (by decide) h)
  f4 := fun h => I.f4 (updG_ne (by decide) h)
  f5 := fun h => I.f5 (updG_ne (by decide) h)
  f6 := fun h => I.f6 (updG_ne (by decide) h)
  p7 := fun h => I.p7 (updG_ne (by decide) h)
  f8 := fun _ => hv
  f9 := fun h => I.f9 (updG_ne (by decide) h)
  f10 := fun h => I.f10 (updG_ne (by decide) h)

theorem DgJ.s9 {Wq : World} {n : Nat} {X Y : ByteArray} {D : Nat → Bool} {w : World} {s2 s18 s19 s20 s21 s22 s23 s24 s25 s26 s27 v : Value} (I : DgJ Wq n X Y D w s2 s18 s19 s20 s21 s22 s23 s24 s25 s26 s27) (hd : D 9 = false) (hv : v = .string Y) : DgJ Wq n X Y (updD D 9) w s2 s18 s19 s20 s21 s22 s23 s24 s25 s26 v where
  bw := I.bw
  f0 := fun h => I.f0 (updG_ne (by decide) h)
  f1 := fun h => I.f1 (updG_ne (by decide) h)
  f2 := fun h => I.f2 (updG_ne (by decide) h)
  f3 := fun h => I.f3 (updG_ne (by decide) h)
  f4 := fun h => I.f4 (updG_ne (by decide) h)
  f5 := fun h => I.f5 (updG_ne (by decide) h)
  f6 := fun h => I.f6 (updG_ne (by decide) h)
  p7 := fun h => I.p7 (updG_ne (by decide) h)
  f8 := fun h => I.f8 (updG_ne (by decide) h)
  f9 := fun _ => hv
  f10 := fun h => I.f10 (updG_ne (by decide) h)

theorem DgJ.s10 {Wq : World} {n : Nat} {X Y : ByteArray} {D : Nat → Bool} {w : World} {s2 s18 s19 s20 s21 s22 s23 s24 s25 s26 s27 v : Value} (I : DgJ Wq n X Y D w s2 s18 s19 s20 s21 s22 s23 s24 s25 s26 s27) (hd : D 10 = false) (hv : v = .string Y) : DgJ Wq n X Y (updD D 10) w v s18 s19 s20 s21 s22 s23 s24 s25 s26 s27 where
  bw := I.bw
  f0 := fun h => I.f0 (updG_ne (by decide) h)
  f1 := fun h => I.f1 (updG_ne (by decide) h)
  f2 := fun h => I.f2 (updG_ne (by decide) h)
  f3 := fun h => I.f3 (updG_ne (by decide) h)
  f4 := fun h => I.f4 (updG_ne (by decide) h)
  f5 := fun h => I.f5 (updG_ne (by decide) h)
  f6 := fun h => I.f6 (updG_ne (by decide) h)
  p7 := fun h => I.p7 (updG_ne (by decide) h)
  f8 := fun h => I.f8 (updG_ne (by decide) h)
  f9 := fun h => I.f9 (updG_ne (by decide) h)
  f10 := fun _ => hv

abbrev dgFr (t0 t1 s2 t3 t4 t5 t6 t7 t8 t9 t10 t11 t12 t13 t14 t15 t16 t17 s18 s19 s20 s21 s22 s23 s24 s25 s26 s27 : Value) : Act := ⟨#[t0, t1, s2, t3, t4, t5, t6, t7, t8, t9, t10, t11, t12, t13, t14, t15, t16, t17, s18, s19, s20, s21, s22, s23, s24, s25, s26, s27], []⟩
theorem dgFr_region {P : Program} {id : Nat} {Q : Exit → Act → World → Prop} {l : List Oper} {t0 t1 s2 t3 t4 t5 t6 t7 t8 t9 t10 t11 t12 t13 t14 t15 t16 t17 s18 s19 s20 s21 s22 s23 s24 s25 s26 s27 : Value} {W : World} (J : (Nat → Bool) → World → Value → Value → Value → Value → Value → Value → Value → Value → Value → Value → Value → Prop) (hm : P.follows .mixedOrders = true) (hl : linB l = true)
    (hg : ∀ (i : Nat) (o : Oper), l[i]? = some o → o.guard = none) (h0 : J (fun _ => false) { W with drawn := W.drawn + 1 } s2 s18 s19 s20 s21 s22 s23 s24 s25 s26 s27)
    (hs : ∀ (d : Nat → Bool) (w : World) (i : Nat) (o : Oper) (r2 r18 r19 r20 r21 r22 r23 r24 r25 r26 r27 : Value), Closed l d → J d w r2 r18 r19 r20 r21 r22 r23 r24 r25 r26 r27 → l[i]? = some o → d i = false → (∀ e ∈ o.after, Region.binds .any e = true → d e.on = true) → ∀ K : Act → World → Prop, (∀ (w' : World) (q2 q18 q19 q20 q21 q22 q23 q24 q25 q26 q27 : Value), J (updD d i) w' q2 q18 q19 q20 q21 q22 q23 q24 q25 q26 q27 → K (dgFr t0 t1 q2 t3 t4 t5 t6 t7 t8 t9 t10 t11 t12 t13 t14 t15 t16 t17 q18 q19 q20 q21 q22 q23 q24 q25 q26 q27) w') → o.wp P (dgFr t0 t1 r2 t3 t4 t5 t6 t7 t8 t9 t10 t11 t12 t13 t14 t15 t16 t17 r18 r19 r20 r21 r22 r23 r24 r25 r26 r27) w K Q)
    (he : ∀ (d : Nat → Bool) (w : World) (r2 r18 r19 r20 r21 r22 r23 r24 r25 r26 r27 : Value), J d w r2 r18 r19 r20 r21 r22 r23 r24 r25 r26 r27 → (∀ i, i < l.length → d i = true) → Q .normal (dgFr t0 t1 r2 t3 t4 t5 t6 t7 t8 t9 t10 t11 t12 t13 t14 t15 t16 t17 r18 r19 r20 r21 r22 r23 r24 r25 r26 r27) w) : (Code.region id l.toArray true).wp P Q (dgFr t0 t1 s2 t3 t4 t5 t6 t7 t8 t9 t10 t11 t12 t13 t14 t15 t16 t17 s18 s19 s20 s21 s22 s23 s24 s25 s26 s27) W := by
  refine wp_region_inv2 (fun d f w => ∃ r2 r18 r19 r20 r21 r22 r23 r24 r25 r26 r27, f = dgFr t0 t1 r2 t3 t4 t5 t6 t7 t8 t9 t10 t11 t12 t13 t14 t15 t16 t17 r18 r19 r20 r21 r22 r23 r24 r25 r26 r27 ∧ J d w r2 r18 r19 r20 r21 r22 r23 r24 r25 r26 r27) hm hl hg ⟨s2, s18, s19, s20, s21, s22, s23, s24, s25, s26, s27, rfl, h0⟩ ?_ ?_
  · intro d f w i o hc hI ho hd hp K hK
    obtain ⟨r2, r18, r19, r20, r21, r22, r23, r24, r25, r26, r27, rfl, hJ⟩ := hI
    exact hs d w i o r2 r18 r19 r20 r21 r22 r23 r24 r25 r26 r27 hc hJ ho hd hp K (fun w' q2 q18 q19 q20 q21 q22 q23 q24 q25 q26 q27 hJ' => hK _ _ ⟨q2, q18, q19, q20, q21, q22, q23, q24, q25, q26, q27, rfl, hJ'⟩)
  · intro d f w hI hall
    obtain ⟨r2, r18, r19, r20, r21, r22, r23, r24, r25, r26, r27, rfl, hJ⟩ := hI
    exact he d w r2 r18 r19 r20 r21 r22 r23 r24 r25 r26 r27 hJ hall

set_option maxHeartbeats 6400000 in
theorem l00Digits_any : ∀ (n : Nat), n ≤ 4611686018427387904 → ∀ (w : World), Calls Tryd.prog 83 #[.int .i64 n] w fun e w' => e = .returned (.string (dgS n)) ∧ Below w.heap.size w w' := by
  intro n
  induction n using Nat.strongRecOn with
  | _ n ih =>
    intro hn w
    have b0 : ((n : Int) == -9223372036854775808) = false := by
      have : (n : Int) ≠ -9223372036854775808 := by omega
      simp
    have b1 : ¬ (n : Int) < 0 := by omega
    by_cases h10 : n < 10
    · have hx := hide (dgS_one h10)
      have h10' : (n : Int) < 10 := by omega
      have hw : IntKind.u8.wrap (48 + (n : Int)) = 48 + n := by
        rw [show IntKind.u8.wrap (48 + (n : Int)) = (48 + (n : Int)) % 256 from rfl]; omega
      have hc1 := lit1 (w.alloc (.cells #[.int .u8 (48 + (n : Int))] 5)) w.heap.size (48 + (n : Int)) (heap_alloc_new w _)
      go_enter Tryd.func83, Tryd.ntmps83
      go_wp2
      go_ret
      exact ⟨ret_str (unhide hx).symm, Joins.below_alloc1 _ _⟩
    · have hx := hide (dgS_step h10)
      have h10' : ¬ (n : Int) < 10 := by omega
      have IH := hide (ih (n / 10) (by omega) (by omega))
      have HSZ : Hid (¬ 9223372036854775807 < (dgS (n / 10)).size + (strOfNums [48 + (n : Int) % 10]).size) := hide (by have := dgS_size (n / 10); rw [strOfNums_size]; simp only [List.length_cons, List.length_nil]; omega)
      go_enter Tryd.func83, Tryd.ntmps83
      go_upto_region 7 with fail
      refine dgFr_region (fun D wz r2 r18 r19 r20 r21 r22 r23 r24 r25 r26 r27 => DgJ w n (dgS (n / 10)) (dgS n) D wz r2 r18 r19 r20 r21 r22 r23 r24 r25 r26 r27) (by kernel_rfl) (by kernel_rfl) (noG_spec (by kernel_rfl)) ?h0 ?hs ?he
      case h0 => exact ⟨(Below.refl _ w).drew, fun h => (by cases h), fun h => (by cases h), fun h => (by cases h), fun h => (by cases h), fun h => (by cases h), fun h => (by cases h), fun h => (by cases h), fun h => (by cases h), fun h => (by cases h), fun h => (by cases h), fun h => (by cases h)⟩
      case hs =>
        intro D wz i o r2 r18 r19 r20 r21 r22 r23 r24 r25 r26 r27 hc I ho hd hp K hK
        have hi : i < 11 := (List.getElem?_eq_some_iff.1 ho).1
        rcases (show i = 0 ∨ i = 1 ∨ i = 2 ∨ i = 3 ∨ i = 4 ∨ i = 5 ∨ i = 6 ∨ i = 7 ∨ i = 8 ∨ i = 9 ∨ i = 10 by omega) with rfl | rfl | rfl | rfl | rfl | rfl | rfl | rfl | rfl | rfl | rfl
        · cases ho
          unfold Oper.wp
          go_simp
          exact hK _ _ _ _ _ _ _ _ _ _ _ _ (I.s0 hd rfl)
        · cases ho
          have e0 := I.f0 (hp ⟨0, .data⟩ (by simp) rfl)
          subst e0
          unfold Oper.wp
          go_simp
          exact hK _ _ _ _ _ _ _ _ _ _ _ _ (I.s1 hd (by rw [dg_wrap (by omega) (by omega)]; rfl))
        · cases ho
          have e1 := I.f1 (hp ⟨1, .data⟩ (by simp) rfl)
          subst e1
          unfold Oper.wp
          go_simp
          refine (unhide IH _).mono ?_
          rintro e w3 ⟨rfl, hb⟩
          exact hK _ _ _ _ _ _ _ _ _ _ _ _ ((I.grow hb).s2 hd rfl)
        · cases ho
          unfold Oper.wp
          go_simp
          exact hK _ _ _ _ _ _ _ _ _ _ _ _ (I.s3 hd rfl)
        · cases ho
          have e3 := I.f3 (hp ⟨3, .data⟩ (by simp) rfl)
          subst e3
          unfold Oper.wp
          go_simp
          exact hK _ _ _ _ _ _ _ _ _ _ _ _ (I.s4 hd rfl)
        · cases ho
          have e4 := I.f4 (hp ⟨4, .data⟩ (by simp) rfl)
          subst e4
          unfold Oper.wp
          go_simp
          exact hK _ _ _ _ _ _ _ _ _ _ _ _ (I.s5 hd (by rw [dg_wrap (by omega) (by omega)]; rfl))
        · cases ho
          have e5 := I.f5 (hp ⟨5, .data⟩ (by simp) rfl)
          subst e5
          unfold Oper.wp
          go_simp
          exact hK _ _ _ _ _ _ _ _ _ _ _ _ (I.s6 hd (by rw [dg_wrap8 (by omega) (by omega)]; rfl))
        · cases ho
          have e6 := I.f6 (hp ⟨6, .data⟩ (by simp) rfl)
          subst e6
          unfold Oper.wp
          go_simp
          exact hK _ _ _ _ _ _ _ _ _ _ _ _ ((I.grow (Joins.below_alloc1 _ _)).s7 hd ⟨_, rfl, heap_alloc_new wz _⟩)
        · cases ho
          obtain ⟨q, e7, h7⟩ := I.p7 (hp ⟨7, .data⟩ (by simp) rfl)
          subst e7
          have hc1 := lit1 wz q _ h7
          unfold Oper.wp
          go_simp
          exact hK _ _ _ _ _ _ _ _ _ _ _ _ (I.s8 hd rfl)
        · cases ho
          have e2 := I.f2 (hp ⟨2, .data⟩ (by simp) rfl)
          subst e2
          have e8 := I.f8 (hp ⟨8, .data⟩ (by simp) rfl)
          subst e8
          have hsz := unhide HSZ
          unfold Oper.wp
          go_simp
          exact hK _ _ _ _ _ _ _ _ _ _ _ _ (I.s9 hd (by rw [unhide hx]; rfl))
        · cases ho
          have e9 := I.f9 (hp ⟨9, .data⟩ (by simp) rfl)
          subst e9
          unfold Oper.wp
          go_simp
          exact hK _ _ _ _ _ _ _ _ _ _ _ _ (I.s10 hd rfl)
      case he =>
        intro D w7 r2 r18 r19 r20 r21 r22 r23 r24 r25 r26 r27 I hall
        have e10 := I.f10 (hall 10 (by decide))
        subst e10
        have HB := hide I.bw
        clear I hall
        go_wp2
        go_ret
        exact ⟨rfl, unhide HB⟩

end Go.Proofs.YtkndabnngdjcgaaDoor

/- Rows of numbers that a call made; ends of calls. -/
namespace Go.Proofs.YtkndabnngdjcgaaDoor
open Go.RowKit
set_option linter.unusedVariables false

theorem infoM : (Tryd.prog.info? 3).map (fun i => (i.zero, i.size, i.bytes)) = some (some (.int .i64 0), 1, 8) := by kernel_rfl
theorem int_one (n : Int) : ∀ u ∈ [Value.int .i64 n], u.oneCell' = true := by
  intro u hu
  simp at hu
  subst hu
  rfl

/-- A row of numbers that the call made. -/
def OwnN (w : World) (B : Nat) (v : Value) (xs : List Int) : Prop := ∃ qo qa, v = .slice qo xs.length qa ∧ OwnR w B 3 1 (.slice qo xs.length qa) xs.length (intV xs)
theorem OwnN.below {w w' : World} {B : Nat} {v : Value} {xs : List Int} (h : OwnN w B v xs) (hb : Below w.heap.size w w') : OwnN w' B v xs := by
  obtain ⟨qo, qa, e, ho⟩ := h
  exact ⟨qo, qa, e, ho.below hb⟩
theorem OwnN.base {w : World} {B B' : Nat} {v : Value} {xs : List Int} (h : OwnN w B v xs) (hB : B' ≤ B) : OwnN w B' v xs := by
  obtain ⟨qo, qa, e, ho⟩ := h
  exact ⟨qo, qa, e, ho.base hB⟩
theorem OwnN.nil (w : World) (B : Nat) (ao : Option Addr) : OwnN w B (.slice ao 0 0) [] := ⟨ao, 0, rfl, .inl ⟨rfl, rfl, ao, rfl⟩⟩

theorem ret_nb {v u : Value} {a b : Bool} (h : v = u) (k : a = b) : Ending.returned (.tuple #[v, .bool a]) = .returned (.tuple #[u, .bool b]) := by rw [h, k]
theorem ret_ni {v u : Value} {a b : Int} (h : v = u) (k : a = b) : Ending.returned (.tuple #[v, .int .i64 a]) = .returned (.tuple #[u, .int .i64 b]) := by rw [h, k]

theorem ret_two2 {a b c d : Int} (h : a = b) (k : c = d) : Ending.returned (.tuple #[.int .i64 a, .int .i64 c]) = .returned (.tuple #[.int .i64 b, .int .i64 d]) := by rw [h, k]

theorem OwnN.setCell {w : World} {B : Nat} {v : Value} {xs : List Int} (h : OwnN w B v xs) {a : Addr} (ha : a.block < B) (u : Value) : OwnN (w.setCell a u) B v xs := by
  obtain ⟨qo, qa, e, ho⟩ := h
  exact ⟨qo, qa, e, ho.setCell ha u⟩

end Go.Proofs.YtkndabnngdjcgaaDoor

/- Contract of the laws' comparison of lists of numbers (eqIntS). -/
namespace Go.Proofs.YtkndabnngdjcgaaDoor
open Go.RowKit
set_option linter.unusedVariables false
set_option maxRecDepth 100000

set_option maxHeartbeats 800000 in
theorem eqIntS_any (ao bo : Option Addr) (ca cb : Nat) (ss tt : List Int) (w : World) (hl : ss.length ≤ maxLen) (hc : Is w ao ss) (hd : Is w bo tt) :
    Calls Tryd.prog 67 #[.slice ao ss.length ca, .slice bo tt.length cb] w fun e w' => e = .returned (.bool (eqNB ss tt)) ∧ Below w.heap.size w w' := by
  have HC := hide hc
  have HD := hide hd
  clear hc hd
  unfold maxLen at hl
  by_cases hle : ss.length = tt.length
  · have hb : ((ss.length : Int) != (tt.length : Int)) = false := by simp [hle]
    have HLE := hide hle
    clear hle
    go_enter Tryd.func67, Tryd.ntmps67
    go_wp2
    go_loopw [5] (fun i wr => ∃ k : Nat, k ≤ ss.length ∧ i = .int .i64 k ∧ Hid (∀ j (h : j < ss.length) (h' : j < tt.length), j < k → ss[j] = tt[j]) ∧ Hid (Below w.heap.size w wr)) (fun i _ => ss.length - (intOf i).toNat)
    case atStart => exact ⟨0, Nat.zero_le _, rfl, hide (fun j _ _ h => by omega), hide (Below.refl _ _)⟩
    case round =>
      obtain ⟨k, hk, rfl, HA, HB⟩ := hrel
      by_cases hlt : k < ss.length
      · have hlt' : k < tt.length := by rw [← unhide HLE]; exact hlt
        obtain ⟨b, off, rfl, hc⟩ := (unhide HC).below (unhide HB) k hlt
        obtain ⟨b', off', rfl, hc'⟩ := (unhide HD).below (unhide HB) k hlt'
        by_cases he : ss[k] = tt[k]
        · have HN := hide (eq_succ hlt hlt' (unhide HA) he)
          have be : (ss[k] != tt[k]) = false := by simp [he]
          clear he
          go_wp2
          go_quiet (fail)
          go_wp2
          go_roundw
          case rel => exact ⟨k + 1, by omega, by go_num, HN, hide ((unhide HB).trans (Joins.below_draws _ _ _))⟩
          case measure => simp [intOf]; omega
        · have H := hide (eqNB_false hlt hlt' he)
          have be : (ss[k] != tt[k]) = true := by simp [he]
          clear he
          go_wp2
          go_quiet (fail)
          go_wp2
          go_ret
          exact ⟨ret_bool (unhide H).symm, (unhide HB).trans (Joins.below_draws _ _ _)⟩
      · have H := hide (eqNB_true (unhide HLE) (fun j h h' => unhide HA j h h' (by omega)))
        go_wp2
        go_ret
        exact ⟨ret_bool (unhide H).symm, unhide HB⟩
  · have hb : ((ss.length : Int) != (tt.length : Int)) = true := by simp; omega
    have H := hide (eqNB_false_len hle)
    clear hle
    go_enter Tryd.func67, Tryd.ntmps67
    go_wp2
    go_ret
    exact ⟨ret_bool (unhide H).symm, Below.refl _ _⟩

end Go.Proofs.YtkndabnngdjcgaaDoor

/- Contract of the laws' own copies of lists of numbers (toIntS). -/
namespace Go.Proofs.YtkndabnngdjcgaaDoor
open Go.RowKit
set_option linter.unusedVariables false
set_option maxRecDepth 100000

theorem infoN : (Tryd.prog.info? 3).map (fun i => (i.zero, i.size, i.bytes)) = some (some (.int .i64 0), 1, 8) := by kernel_rfl

set_option maxHeartbeats 800000 in
theorem toIntS_any (ao : Option Addr) (cap : Nat) (ss : List Int) (w : World) (hl : ss.length ≤ 1048576) (hc : Is w ao ss) :
    Calls Tryd.prog 63 #[.slice ao ss.length cap] w fun e w' => ∃ g, e = .returned (.slice (some ⟨g, 0, none⟩) ss.length ss.length) ∧ w'.ownsRow w.heap.size 3 1 (.slice (some ⟨g, 0, none⟩) ss.length ss.length) ss.length (intV ss) ∧ Below w.heap.size w w' := by
  have HC := hide hc
  clear hc
  obtain ⟨i0, hi, hz0, hz1, hz2⟩ := info_parts infoN
  go_enter Tryd.func63, Tryd.ntmps63
  go_wp2_with (first | (at_make; refine wpList_make_full _ rfl _ _ 43 rfl w.heap.size 3 i0 _ 1 Tryd.underlying43 hi hz0 hz1 _ _ _ _ ss.length rfl rfl rfl rfl ?c1 ?c2 ?c3 ?_))
  case c1 => rw [hz2]; omega
  case c2 => unfold maxLen; omega
  case c3 => exact Nat.le_refl _
  intro w1 hown hgrow
  have hB : Below w.heap.size w w1 := (Below.refl _ _).grown hgrow (Nat.le_refl _) (fun _ h => by cases h)
  have HO := hide hown
  have HB := hide hB
  clear hown hB hgrow
  go_wp2
  go_loopw [4] (fun i wr => ∃ (k : Nat) (xs : List Value), k ≤ ss.length ∧ i = .int .i64 k ∧ Hid (xs.length = ss.length) ∧ Hid (xs.take k = (intV ss).take k) ∧ Hid (wr.ownsRow w.heap.size 3 1 (.slice (some ⟨w.heap.size, 0, none⟩) ss.length ss.length) ss.length xs) ∧ Hid (Below w.heap.size w wr)) (fun i _ => ss.length - (intOf i).toNat)
  case atStart => exact ⟨0, _, Nat.zero_le _, rfl, hide (by rw [(unhide HO).1]; omega), hide (by simp), HO, HB⟩
  case round =>
    obtain ⟨k, xs, hk, rfl, HL, HT, HO, HB⟩ := hrel
    by_cases hlt : k < ss.length
    · obtain ⟨b, off, rfl, hc⟩ := (unhide HC).below (unhide HB) k hlt
      have hfr := (unhide HO).frozenAt k
      obtain ⟨x0, hcx⟩ : ∃ x, wr.cell? ⟨w.heap.size, k, none⟩ = some x := ⟨_, ((unhide HO).cellAt k (by omega)).trans (List.getElem?_eq_getElem (by rw [unhide HL]; exact hlt))⟩
      have HST := hide ((unhide HO).stored k (.int .i64 ss[k]))
      go_wp2
      go_roundw
      case rel =>
        refine ⟨k + 1, xs.set k (.int .i64 ss[k]), by omega, by go_num, hide (by rw [List.length_set]; exact unhide HL), hide ?_, hide (unhide HST).1, hide ?_⟩
        · exact set_take' (by rw [unhide HL, intV_length]) (intV_get hlt) (unhide HT)
        · exact (unhide HB).grown (unhide HST).2 (unhide HB).size (fun k h => by cases h; exact Nat.le_refl _)
      case measure => simp [intOf]; omega
    · go_wp2
      go_ret
      have hkn : k = ss.length := by omega
      subst hkn
      have hxs : xs = intV ss := by
        have := unhide HT
        rwa [List.take_of_length_le (by rw [unhide HL]; exact Nat.le_refl _), List.take_of_length_le (by simp [intV])] at this
      subst hxs
      exact ⟨_, rfl, unhide HO, unhide HB⟩

end Go.Proofs.YtkndabnngdjcgaaDoor

/- Plain words of the clocks, and contracts of their tests: within, hourOK, configInBounds, l01In, l03Bounds. -/
namespace Go.Proofs.YtkndabnngdjcgaaDoor
open Go.RowKit
set_option linter.unusedVariables false
set_option maxRecDepth 100000

theorem hidB {p : Prop} (h : p) : Hid p := h
theorem frB {a b c : World} (h : Below a.heap.size a b) (k : Below b.heap.size b c) : Below a.heap.size a c := h.trans (k.mono h.size)
/-- A number within bounds. -/
def betw (n low high : Int) : Bool := decide (low ≤ n) && decide (n ≤ high)
theorem betw_yes {n low high : Int} (h : low ≤ n) (h' : n ≤ high) : betw n low high = true := by simp [betw, h, h']
theorem betw_no {n low high : Int} (h : ¬ (low ≤ n ∧ n ≤ high)) : betw n low high = false := by simp only [betw, Bool.and_eq_false_iff, decide_eq_false_iff_not]; omega
theorem betw_iff {n low high : Int} : betw n low high = true ↔ low ≤ n ∧ n ≤ high := by simp [betw]
/-- A configuration within its bounds. -/
def cfgB (f d l r : Int) : Bool := betw f 1 10000 && betw d 1 100000 && betw l 0 1000 && betw r 0 500
theorem cfgB_iff {f d l r : Int} : cfgB f d l r = true ↔ (1 ≤ f ∧ f ≤ 10000) ∧ (1 ≤ d ∧ d ≤ 100000) ∧ (0 ≤ l ∧ l ≤ 1000) ∧ 0 ≤ r ∧ r ≤ 500 := by
  simp only [cfgB, Bool.and_eq_true, betw_iff, and_assoc]
/-- The bounds of true time. -/
def latQ (r x : Int) : Int := ((x + 1) * 1000 + 999 - r) / (1000 - r)
def earQ (r x : Int) : Int := (x - 1) * 1000 / (1000 + r)
def locQ (o r t : Int) : Int := o + t * (1000 + r) / 1000
abbrev cfgV (f d l r : Int) : Value := .agg #[.int .i64 f, .int .i64 d, .int .i64 l, .int .i64 r]
abbrev clkV (o r : Int) : Value := .agg #[.int .i64 o, .int .i64 r]

/-- A configuration in a variable. -/
abbrev Four (w : World) (b : Nat) (f d l r : Int) : Prop := w.cell? ⟨b, 0, none⟩ = some (.int .i64 f) ∧ w.cell? ⟨b, 1, none⟩ = some (.int .i64 d) ∧ w.cell? ⟨b, 2, none⟩ = some (.int .i64 l) ∧ w.cell? ⟨b, 3, none⟩ = some (.int .i64 r)
theorem Four.below {w w' : World} {b : Nat} {f d l r : Int} (h : Four w b f d l r) (hb : Below w.heap.size w w') : Four w' b f d l r :=
  ⟨(hb.cell (World.block_lt_of_cell? _ _ h.1)).trans h.1, (hb.cell (World.block_lt_of_cell? _ _ h.2.1)).trans h.2.1, (hb.cell (World.block_lt_of_cell? _ _ h.2.2.1)).trans h.2.2.1, (hb.cell (World.block_lt_of_cell? _ _ h.2.2.2)).trans h.2.2.2⟩
set_option maxHeartbeats 800000 in
theorem within_any (n low high : Int) (w : World) : Calls Tryd.prog 77 #[.int .i64 n, .int .i64 low, .int .i64 high] w fun e w' => e = .returned (.bool (betw n low high)) ∧ w' = w := by
  by_cases h1 : low ≤ n
  · by_cases h2 : n ≤ high
    · have hr := hidB (betw_yes h1 h2)
      go_enter Tryd.func77, Tryd.ntmps77
      go_wp2
      go_ret
      rw [show betw n low high = true from hr]
      exact ⟨rfl, rfl⟩
    · have hr := hidB (betw_no (n := n) (low := low) (high := high) (by omega))
      go_enter Tryd.func77, Tryd.ntmps77
      go_wp2
      go_ret
      rw [show betw n low high = false from hr]
      exact ⟨rfl, rfl⟩
  · have hr := hidB (betw_no (n := n) (low := low) (high := high) (by omega))
    go_enter Tryd.func77, Tryd.ntmps77
    go_wp2
    go_ret
    rw [show betw n low high = false from hr]
    exact ⟨rfl, rfl⟩
set_option maxHeartbeats 800000 in
theorem in_any (n low high : Int) (w : World) : Calls Tryd.prog 39 #[.int .i64 n, .int .i64 low, .int .i64 high] w fun e w' => e = .returned (.bool (betw n low high)) ∧ w' = w := by
  by_cases h1 : low ≤ n
  · by_cases h2 : n ≤ high
    · have hr := hidB (betw_yes h1 h2)
      go_enter Tryd.func39, Tryd.ntmps39
      go_wp2
      go_ret
      rw [show betw n low high = true from hr]
      exact ⟨rfl, rfl⟩
    · have hr := hidB (betw_no (n := n) (low := low) (high := high) (by omega))
      go_enter Tryd.func39, Tryd.ntmps39
      go_wp2
      go_ret
      rw [show betw n low high = false from hr]
      exact ⟨rfl, rfl⟩
  · have hr := hidB (betw_no (n := n) (low := low) (high := high) (by omega))
    go_enter Tryd.func39, Tryd.ntmps39
    go_wp2
    go_ret
    rw [show betw n low high = false from hr]
    exact ⟨rfl, rfl⟩

theorem cfg_1 {f d l r : Int} (h : betw f 1 10000 = false) : cfgB f d l r = false := by simp [cfgB, h]
theorem cfg_2 {f d l r : Int} (h : betw d 1 100000 = false) : cfgB f d l r = false := by simp [cfgB, h]
theorem cfg_3 {f d l r : Int} (h : betw l 0 1000 = false) : cfgB f d l r = false := by simp [cfgB, h]
theorem cfg_4 {f d l r : Int} (h1 : betw f 1 10000 = true) (h2 : betw d 1 100000 = true) (h3 : betw l 0 1000 = true) : cfgB f d l r = betw r 0 500 := by simp [cfgB, h1, h2, h3]

end Go.Proofs.YtkndabnngdjcgaaDoor

/- Plain facts on numbers that are read from bytes, of no program. -/
namespace Go.Proofs.YtkndabnngdjcgaaDoor
open Go.RowKit

theorem wraps_i64 (n : Int) (h₀ : 0 ≤ n) (h₁ : n < 2 ^ 63) : IntKind.i64.wrap n = n := by rw [IntKind.wrap_i64]; omega
theorem or_low (i : Nat) (y x : Int) (hy₀ : 0 ≤ y) (hy : y < 2 ^ i) (hy₁ : y < 2 ^ 63) (hx₀ : 0 ≤ x) (hx : x % 2 ^ i = 0) (hx₁ : x < 2 ^ 63) : bits .or .i64 y x = y + x :=
  bits_join_low .i64 63 (by decide) wraps_i64 i y x hy₀ hy hy₁ hx₀ hx hx₁
theorem or_high (i : Nat) (x y : Int) (hx₀ : 0 ≤ x) (hx : x % 2 ^ i = 0) (hx₁ : x < 2 ^ 63) (hy₀ : 0 ≤ y) (hy : y < 2 ^ i) (hy₁ : y < 2 ^ 63) : bits .or .i64 x y = x + y :=
  bits_join .i64 63 (by decide) wraps_i64 i x y hx₀ hx hx₁ hy₀ hy hy₁

theorem byteAt_in (s : ByteArray) (k : Nat) : 0 ≤ byteAt s k ∧ byteAt s k ≤ 255 := by
  unfold byteAt
  have := byte_le (s.data[k]?.getD 0)
  omega
/-- The number whose bytes begin at a place. -/
def numAt (s : ByteArray) (i : Nat) : Int := byteAt s i + byteAt s (i + 1) * 256 + byteAt s (i + 2) * 65536 + byteAt s (i + 3) * 16777216
theorem numAt_in (s : ByteArray) (i : Nat) : 0 ≤ numAt s i ∧ numAt s i ≤ 4294967295 := by
  have h0 := byteAt_in s i
  have h1 := byteAt_in s (i + 1)
  have h2 := byteAt_in s (i + 2)
  have h3 := byteAt_in s (i + 3)
  unfold numAt
  omega
/-- As the program reckons it. -/
theorem num_impl (s : ByteArray) : bits .or .i64 (bits .or .i64 (bits .or .i64 (wrap64 (byteAt s 0)) (wrap64 (wrap64 (byteAt s 1) * 256))) (wrap64 (wrap64 (byteAt s 2) * 65536))) (wrap64 (wrap64 (byteAt s 3) * 16777216)) = numAt s 0 := by
  have h0 := byteAt_in s 0
  have h1 := byteAt_in s 1
  have h2 := byteAt_in s 2
  have h3 := byteAt_in s 3
  rw [wrap_id (x := byteAt s 0) (by omega) (by omega), wrap_id (x := byteAt s 1) (by omega) (by omega), wrap_id (x := byteAt s 2) (by omega) (by omega), wrap_id (x := byteAt s 3) (by omega) (by omega),
    wrap_id (x := byteAt s 1 * 256) (by omega) (by omega), wrap_id (x := byteAt s 2 * 65536) (by omega) (by omega), wrap_id (x := byteAt s 3 * 16777216) (by omega) (by omega)]
  rw [or_low 8 (byteAt s 0) (byteAt s 1 * 256) (by omega) (by omega) (by omega) (by omega) (by omega) (by omega),
    or_low 16 (byteAt s 0 + byteAt s 1 * 256) (byteAt s 2 * 65536) (by omega) (by omega) (by omega) (by omega) (by omega) (by omega),
    or_low 24 (byteAt s 0 + byteAt s 1 * 256 + byteAt s 2 * 65536) (byteAt s 3 * 16777216) (by omega) (by omega) (by omega) (by omega) (by omega) (by omega)]
  rfl
/-- As the model reckons it: from the highest byte on. -/
def hi (s : ByteArray) (i : Nat) : Nat → Int
  | 0 => 0
  | m + 1 => hi s i m * 256 + byteAt s (i + (3 - m))
theorem hi_four (s : ByteArray) (i : Nat) : hi s i 4 = numAt s i := by
  show (((0 * 256 + byteAt s (i + 3)) * 256 + byteAt s (i + 2)) * 256 + byteAt s (i + 1)) * 256 + byteAt s i = byteAt s i + byteAt s (i + 1) * 256 + byteAt s (i + 2) * 65536 + byteAt s (i + 3) * 16777216
  omega
theorem hi_in (s : ByteArray) (i : Nat) : ∀ m, m ≤ 3 → 0 ≤ hi s i m ∧ hi s i m ≤ 16777215
  | 0, _ => by simp [hi]
  | 1, _ => by
    have := byteAt_in s (i + 3)
    show 0 ≤ 0 * 256 + byteAt s (i + 3) ∧ 0 * 256 + byteAt s (i + 3) ≤ 16777215
    omega
  | 2, _ => by
    have := byteAt_in s (i + 3)
    have := byteAt_in s (i + 2)
    show 0 ≤ (0 * 256 + byteAt s (i + 3)) * 256 + byteAt s (i + 2) ∧ (0 * 256 + byteAt s (i + 3)) * 256 + byteAt s (i + 2) ≤ 16777215
    omega
  | 3, _ => by
    have := byteAt_in s (i + 3)
    have := byteAt_in s (i + 2)
    have := byteAt_in s (i + 1)
    show 0 ≤ ((0 * 256 + byteAt s (i + 3)) * 256 + byteAt s (i + 2)) * 256 + byteAt s (i + 1) ∧ ((0 * 256 + byteAt s (i + 3)) * 256 + byteAt s (i + 2)) * 256 + byteAt s (i + 1) ≤ 16777215
    omega
  | _ + 4, h => by omega
theorem hi_step (s : ByteArray) (i m : Nat) (hm : m ≤ 3) (h : i + (3 - m) < s.size) : bits .or .i64 (hi s i m * 256) (s[i + (3 - m)].toNat : Int) = hi s i (m + 1) := by
  have h1 := hi_in s i m hm
  have h2 := byte_le s[i + (3 - m)]
  rw [or_high 8 _ _ (by omega) (by omega) (by omega) (by omega) (by omega) (by omega), hi, byteAt_get h]

theorem wrap_byte (b : UInt8) : wrap64 (b.toNat : Int) = (b.toNat : Int) := by have := byte_le b; exact wrap_id (by omega) (by omega)

/-- The numbers of a text. -/
def unL (s : ByteArray) : List Int := (List.range (s.size / 4)).map fun i => numAt s (i * 4)
theorem unL_length (s : ByteArray) : (unL s).length = s.size / 4 := by simp [unL]
theorem unL_get {s : ByteArray} {k : Nat} (h : k < (unL s).length) : (unL s)[k] = numAt s (k * 4) := by simp [unL]
theorem unL_succ {s : ByteArray} {k : Nat} (h : k < s.size / 4) : (unL s).take (k + 1) = (unL s).take k ++ [numAt s (k * 4)] := by
  rw [List.take_succ_eq_append_getElem (by rw [unL_length]; exact h), unL_get]
def okU (s : ByteArray) : Bool := decide (s.size % 4 = 0) && intsB (unL s)
theorem okU_rest {s : ByteArray} (h : ¬ s.size % 4 = 0) : okU s = false := by rw [okU, decide_eq_false h]; rfl
theorem okU_even {s : ByteArray} (h : s.size % 4 = 0) : okU s = intsB (unL s) := by rw [okU, decide_eq_true h]; rfl
theorem okU_long {s : ByteArray} (h : 64 < s.size) : okU s = false := by
  by_cases h4 : s.size % 4 = 0
  · rw [okU_even h4]; exact intsB_long (by rw [unL_length]; omega)
  · exact okU_rest h4
theorem okU_bad {s : ByteArray} {k : Nat} (hk : k < s.size / 4) (h : numB (numAt s (k * 4)) = false) : okU s = false := by
  have hk' : k < (unL s).length := by rw [unL_length]; exact hk
  rw [okU, intsB_false_at hk' (by rw [unL_get hk']; exact h)]
  simp
theorem okU_true {s : ByteArray} (h4 : s.size % 4 = 0) (hl : s.size ≤ 64) (h : ∀ k, k < s.size / 4 → numB (numAt s (k * 4)) = true) : okU s = true := by
  rw [okU_even h4, intsB_len (fun j hj => by rw [unL_get hj]; exact h j (by rw [unL_length] at hj; exact hj))]
  simp [unL_length]; omega
def listU (s : ByteArray) : List Int := if s.size % 4 = 0 then unL s else []
/-- The code of a text of numbers, what comes of it. -/
def unC (s : ByteArray) : Int := if 65536 < s.size then 2 else if okU s = true then 0 else 3
def unR (s : ByteArray) : List Int := if unC s = 0 then unL s else []
theorem unC_long {s : ByteArray} (h : 65536 < s.size) : unC s = 2 := if_pos h
theorem unC_ok {s : ByteArray} (h : ¬ 65536 < s.size) (hb : okU s = true) : unC s = 0 := by rw [unC, if_neg h, if_pos hb]
theorem unC_bad {s : ByteArray} (h : ¬ 65536 < s.size) (hb : okU s = false) : unC s = 3 := by rw [unC, if_neg h, if_neg (by simp [hb])]
theorem unR_ok {s : ByteArray} (h : unC s = 0) : unR s = unL s := if_pos h
theorem unR_no {s : ByteArray} (h : unC s ≠ 0) : unR s = [] := if_neg h

end Go.Proofs.YtkndabnngdjcgaaDoor
