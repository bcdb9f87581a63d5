import Derived.Test.YthnpooffhopnkacRows
import Derived.Test.YthnpooffhopnkacPart1
import Derived.Test.YthnpooffhopnkacPart2
import Derived.Test.YthnpooffhopnkacPart4
import Derived.WalkKit
import Derived.WalkSpells
import Derived.Test.YthnpooffhopnkacPart3
import Derived.KernelRfl
import Derived.LoopN
import Derived.Deep.RegionWith
import Derived.Deep.MidRow
import Derived.Deep.RegionLawGrows
import Derived.Deep.RegionHeld3
import Derived.BigQuiet
import Derived.Deep.QuietTactic
import Derived.Deep.CutRange

/- Contracts of the laws' marks on images: markImage, heldImage. (Made ahead of stage 10.) -/
namespace Go.Proofs.Ythnpooffhopnkac
open Go.RowKit
set_option linter.unusedVariables false
set_option maxRecDepth 100000

/-- An image that was marked, and how many marks it takes. -/
def mkIm (k : Nat) (m : Img) : Img := ⟨mkN k m.refs.length, mkN (k + m.refs.length) m.table.length, mkSn (k + m.refs.length + m.table.length) m.snaps, mkN (k + m.refs.length + m.table.length + snK m.snaps) m.data.length⟩
def imK (m : Img) : Nat := m.refs.length + m.table.length + snK m.snaps + m.data.length
theorem OwnN.row {w : World} {B : Nat} {v : Value} {xs : List Int} (h : OwnN w B v xs) : OwnR w B 3 1 v xs.length (intV xs) := by
  obtain ⟨qo, qa, rfl, ho⟩ := h
  exact ho
theorem OwnN.mk' {w : World} {B n c : Nat} {ao : Option Addr} {xs : List Int} (h : OwnR w B 3 1 (.slice ao n c) n (intV xs)) (hn : xs.length = n) : OwnN w B (.slice ao n c) xs := by
  subst hn
  exact ⟨ao, c, rfl, h⟩
theorem blk_belowI {w w' : World} {k : Nat} {o : Obj} (h : w.heap[k]? = some o) (hb : Below w.heap.size w w') : w'.heap[k]? = some o := (hb.block k (Array.getElem?_eq_some_iff.1 h).1).trans h
/-- The rows behind the first three are others now. -/
theorem OwnA.retail {w w' : World} {B : Nat} {r0 r1 r2 : Value × List Int} {qs qs' : List (Value × List Int)} {S : Nat → Prop} (h : OwnA w B (r0 :: r1 :: r2 :: qs)) (hk : Keep S w w') (hs : ∀ r ∈ [r0, r1, r2], ∀ g, Own r.1 g → ¬ S g) (hq : OwnA w' B qs') (he : qs'.map Prod.fst = qs.map Prod.fst) : OwnA w' B (r0 :: r1 :: r2 :: qs') := by
  refine ⟨fun r hr => ?_, ?_⟩
  · simp only [List.mem_cons] at hr
    rcases hr with e | e | e | hr
    · subst e; exact (h.own _ (by simp)).keep hk (hs _ (by simp))
    · subst e; exact (h.own _ (by simp)).keep hk (hs _ (by simp))
    · subst e; exact (h.own _ (by simp)).keep hk (hs _ (by simp))
    · exact hq.own r hr
  · have hp := List.pairwise_map (f := Prod.fst) (R := fun a b => ∀ g, Own a g → ¬ Own b g) |>.2 h.apart
    refine List.pairwise_map (f := Prod.fst) (R := fun a b => ∀ g, Own a g → ¬ Own b g) |>.1 ?_
    simp only [List.map_cons, he] at hp ⊢
    exact hp
theorem zip_fst {α β : Type} : ∀ (xs : List α) (ys : List β), xs.length = ys.length → (xs.zip ys).map Prod.fst = xs
  | [], [], _ => rfl
  | x :: xs, y :: ys, h => by rw [List.zip_cons_cons, List.map_cons, zip_fst xs ys (by simpa using h)]
/-- A row of numbers lies apart from the tables behind. -/
theorem OwnA.apart3 {w : World} {B : Nat} {r0 r1 r2 : Value × List Int} {ts : List Value} {xs : List (List Int)} (h : OwnA w B (r0 :: r1 :: r2 :: ts.zip xs)) (hl : ts.length = xs.length) : ∀ r ∈ [r0, r1, r2], ∀ g, Own r.1 g → ¬ ∃ t ∈ ts, Own t g := by
  intro r hr g hg ⟨t, ht, hx⟩
  have hm : t ∈ (ts.zip xs).map Prod.fst := by rw [zip_fst _ _ hl]; exact ht
  obtain ⟨p, hp, rfl⟩ := List.mem_map.1 hm
  have ha := h.apart
  simp only [List.pairwise_cons, List.mem_cons] at ha
  simp only [List.mem_cons, List.not_mem_nil, or_false] at hr
  rcases hr with rfl | rfl | rfl
  · exact ha.1 p (.inr (.inr hp)) g hg hx
  · exact ha.2.1 p (.inr hp) g hg hx
  · exact ha.2.2.1 p hp g hg hx
theorem OwnA.tail {w : World} {B : Nat} {r0 r1 r2 : Value × List Int} {qs : List (Value × List Int)} (h : OwnA w B (r0 :: r1 :: r2 :: qs)) : OwnA w B qs := by
  refine ⟨fun r hr => h.own r (by simp [hr]), ?_⟩
  have ha := h.apart
  simp only [List.pairwise_cons] at ha
  exact ha.2.2.2
/-- The blocks that an image has. -/
def ImB (a : Im4) (m : Img) (ts : List Value) (g : Nat) : Prop := Own (.slice a.ro m.refs.length a.rc) g ∨ Own (.slice a.tq m.table.length a.tc) g ∨ Own (.slice a.dq m.data.length a.dc) g ∨ Own (.slice a.so m.snaps.length a.sc) g ∨ ∃ t ∈ ts, Own t g
theorem OwnIm.ge {w : World} {B : Nat} {a : Im4} {m : Img} {ts : List Value} (h : OwnIm w B a m ts) : ∀ g, ImB a m ts g → B ≤ g ∧ g < w.heap.size := by
  intro g hg
  rcases hg with h1 | h1 | h1 | h1 | ⟨t, ht, h1⟩
  · exact (h.rows.own (.slice a.ro m.refs.length a.rc, m.refs) (by simp [imRows])).ge g h1
  · exact (h.rows.own (.slice a.tq m.table.length a.tc, m.table) (by simp [imRows])).ge g h1
  · exact (h.rows.own (.slice a.dq m.data.length a.dc, m.data) (by simp [imRows])).ge g h1
  · exact h.s.ge g h1
  · have hm : t ∈ (ts.zip (m.snaps.map (·.table))).map Prod.fst := by rw [zip_fst _ _ (by rw [List.length_map, h.len])]; exact ht
    obtain ⟨p, hp, rfl⟩ := List.mem_map.1 hm
    exact (h.rows.own p (by simp [imRows, hp])).ge g h1
theorem OwnIm.keep {w w' : World} {B : Nat} {a : Im4} {m : Img} {ts : List Value} {S : Nat → Prop} (h : OwnIm w B a m ts) (hk : Keep S w w') (hs : ∀ g, ImB a m ts g → ¬ S g) : OwnIm w' B a m ts := by
  refine ⟨h.len, h.s.keep hk (fun g hg => hs g (.inr (.inr (.inr (.inl hg))))), h.rows.keep hk (fun r hr g hg => hs g ?_)⟩
  unfold imRows at hr
  simp only [List.mem_cons] at hr
  rcases hr with rfl | rfl | rfl | hr
  · exact .inl hg
  · exact .inr (.inl hg)
  · exact .inr (.inr (.inl hg))
  · exact .inr (.inr (.inr (.inr ⟨r.1, (List.of_mem_zip (a := r.1) (b := r.2) hr).1, hg⟩)))
theorem OwnIm.base {w : World} {B B' : Nat} {a : Im4} {m : Img} {ts : List Value} (h : OwnIm w B a m ts) (hB : B' ≤ B) : OwnIm w B' a m ts := ⟨h.len, h.s.base hB, h.rows.base hB⟩

end Go.Proofs.Ythnpooffhopnkac

/- Contract of impl.listFault. -/
namespace Go.Proofs.Ythnpooffhopnkac
open Go.RowKit
set_option linter.unusedVariables false
set_option maxRecDepth 100000

end Go.Proofs.Ythnpooffhopnkac

/- What PackInts answers, plain. -/
namespace Go.Proofs.Ythnpooffhopnkac
set_option linter.unusedVariables false

/-- The answer's text. -/
def packT (xs : List Int) : ByteArray := if listC xs = 0 then packS xs else ⟨#[]⟩
theorem packT_ok {xs : List Int} (h : listC xs = 0) : packT xs = packS xs := if_pos h
theorem packT_no {xs : List Int} (h : listC xs ≠ 0) : packT xs = ⟨#[]⟩ := if_neg h
theorem ret_si {a b : ByteArray} {c d : Int} (h : a = b) (k : c = d) : Ending.returned (.tuple #[.string a, .int .i64 c]) = .returned (.tuple #[.string b, .int .i64 d]) := by rw [h, k]

end Go.Proofs.Ythnpooffhopnkac

/- Contracts of the model's tables: TableOK, EncodeTable, DecodeTable, EntryOf, ResizeTable, ClustersOf. -/
namespace Go.Proofs.Ythnpooffhopnkac
open Go.RowKit
set_option linter.unusedVariables false
set_option maxRecDepth 100000

set_option maxHeartbeats 800000 in
theorem tableOK_spec (ao : Option Addr) (cap : Nat) (xs : List Int) (w : World) (hl : xs.length ≤ maxLen) (hc : Is w ao xs) :
    Calls Try.prog 86 #[.slice ao xs.length cap] w fun e w' => e = .returned (.bool (tbB xs)) ∧ w' = w := by
  have HC := hide hc
  clear hc
  unfold maxLen at hl
  by_cases hlong : 4096 < xs.length
  · have HF := hide (tbB_nolen (xs := xs) (by omega))
    go_enter Try.func86, Try.ntmps86
    go_wp2
    go_ret
    exact ⟨ret_bool (unhide HF).symm, rfl⟩
  go_enter Try.func86, Try.ntmps86
  go_wp2
  go_loop [3] (fun i => ∃ k : Nat, k ≤ xs.length ∧ i = .int .i64 k ∧ Hid (∀ j (h : j < xs.length), j < k → ent1 xs[j] = true)) (fun i => xs.length - (intOf i).toNat)
  case atStart => exact ⟨0, Nat.zero_le _, rfl, hide (fun j _ h => by omega)⟩
  case round =>
    obtain ⟨k, hk, rfl, HA⟩ := hrel
    by_cases hlt : k < xs.length
    · obtain ⟨b, off, rfl, hc⟩ := unhide HC k hlt
      by_cases hn : ent1 xs[k] = true
      · have HN := hide (all_succ hlt (unhide HA) hn)
        have hn' : betw xs[k] 0 25 = true := hn
        clear hn
        go_wp2_with (go_at_call 28; refine (in_any _ _ _ _).mono ?_; rintro e w' ⟨rfl, rfl⟩)
        go_round
        case rel => exact ⟨k + 1, by omega, by go_num, HN⟩
        case measure => simp [intOf]; omega
      · have hn0 : ent1 xs[k] = false := by simpa using hn
        have hn' : betw xs[k] 0 25 = false := hn0
        have HF := hide (tbB_noat hlt hn0)
        clear hn hn0
        go_wp2_with (go_at_call 28; refine (in_any _ _ _ _).mono ?_; rintro e w' ⟨rfl, rfl⟩)
        go_ret
        exact ⟨ret_bool (unhide HF).symm, rfl⟩
    · have HF := hide (tbB_all (fun j h => unhide HA j h (by omega)))
      go_wp2
      go_ret
      exact ⟨ret_bool (by rw [unhide HF, Bool.eq_iff_iff]; simp; omega), rfl⟩

def tdO (s : ByteArray) : List Int := if tdB s = true then openL s 3 else []
set_option maxHeartbeats 1600000 in
theorem l09Clusters_any (ao : Option Addr) (cap : Nat) (xs : List Int) (w : World) (hl : xs.length ≤ 1048576) (hi : ∀ j (h : j < xs.length), -1000 ≤ xs[j] ∧ xs[j] ≤ 1000) (hc : Is w ao xs) :
    Calls Try.prog 87 #[.slice ao xs.length cap] w fun e w' => ∃ v, e = .returned v ∧ OwnN w' w.heap.size v (clA xs) ∧ Below w.heap.size w w' := by
  obtain ⟨j0, hj, hy0, hy1, hy2⟩ := info_parts infoM
  have HC := hide hc
  have HI := hide hi
  have HA : Hid (Below w.heap.size w (w.alloc (.cells #[] 3))) := hide (Joins.below_alloc1 _ _)
  clear hc hi
  go_enter Try.func87, Try.ntmps87
  go_wp2
  go_loopw [3, 4] (fun o i wr => ∃ (k : Nat) (ys : List Int) (qo : Option Addr) (qa : Nat), k ≤ xs.length ∧ i = .int .i64 k ∧ o = .slice qo ys.length qa ∧ Hid (ys = clTo xs k) ∧ Hid (OwnR wr w.heap.size 3 1 (.slice qo ys.length qa) ys.length (intV ys)) ∧ Hid (Below w.heap.size w wr)) (fun _ i _ => xs.length - (intOf i).toNat)
  case atStart => exact ⟨0, [], _, _, Nat.zero_le _, rfl, rfl, hide rfl, hide (.inl ⟨rfl, rfl, _, rfl⟩), HA⟩
  case round =>
    obtain ⟨k, ys, qo, qa, hk, rfl, rfl, HE, HO, HB⟩ := hrel
    by_cases hlt : k < xs.length
    · obtain ⟨b, off, rfl, hcl⟩ := (unhide HC).below (unhide HB) k hlt
      obtain ⟨i0, i1⟩ := unhide HI k hlt
      by_cases h2 : 2 ≤ xs[k]
      · have HS := hide (clTo_data hlt h2)
        have HYL : Hid (ys.length ≤ 1048576) := hide (by rw [unhide HE]; have := clTo_len xs k; omega)
        have hyl := unhide HYL
        have HOA := hide ((unhide HO).below (Joins.below_alloc1 _ (.cells #[.int .i64 (xs[k] - 2)] 3)))
        have HBA := hide (fr (unhide HB) (Joins.below_alloc1 _ (.cells #[.int .i64 (xs[k] - 2)] 3)))
        have HSZ := hide (unhide HB).size
        go_wp2_with (at_builtin; refine wpList_append_one rfl _ _ 23 rfl w.heap.size 3 j0 (.int .i64 0) 1 8 Try.underlying23 hj hy0 hy1 hy2 rfl (by omega) qo ys.length qa (intV ys) rfl (unhide HOA) (by have := unhide HSZ; simp; omega) ⟨wr.heap.size, 0, none⟩ _ [.int .i64 (xs[k] - 2)] rfl rfl (byte_news wr _ _) (int_one _) (by unfold maxLen; omega) (by omega) ?_; intro g2 cap2 wA hoA hkA; have HSF := hide (And.intro hoA (keep_below (unhide HBA) (unhide HOA) (Nat.le_refl _) hkA)); clear hoA hkA)
        go_roundw
        case rel => exact ⟨k + 1, ys ++ [xs[k] - 2], some ⟨g2, 0, none⟩, cap2, by omega, by go_num, by simp, hide (by rw [unhide HS, unhide HE]), hide (by rw [List.length_append, intV_snoc]; exact .inr ⟨by simp, (unhide HSF).1⟩), hide (unhide HSF).2⟩
        case measure => simp [intOf]; omega
      · have HS := hide (clTo_none hlt h2)
        go_wp2
        go_roundw
        case rel => exact ⟨k + 1, ys, qo, qa, by omega, by go_num, rfl, hide (by rw [unhide HS, unhide HE]), HO, HB⟩
        case measure => simp [intOf]; omega
    · have HS : Hid (clA xs = ys) := hide (by rw [unhide HE, clA, show k = xs.length by omega])
      go_wp2
      go_ret
      exact ⟨.slice qo ys.length qa, rfl, by rw [unhide HS]; exact ⟨qo, qa, rfl, unhide HO⟩, unhide HB⟩

end Go.Proofs.Ythnpooffhopnkac

/- Arrays of numbers in variables: whole loads and stores. -/
namespace Go.Proofs.Ythnpooffhopnkac
open Go.RowKit
set_option linter.unusedVariables false
set_option maxRecDepth 100000

section
variable {P : Program}
theorem wpList_store_arr {ops : Array Oper} {rest : List Oper} {op : Oper} {a : Act} {w : World} {Q : Exit → Act → World → Prop} (hgd : op.guard = none) (ty : TypeId) (x y : Operand) (ho : op.op = .store ty x y)
    (g : Nat) (hx : a.eval x = .pointer (some ⟨g, 0, none⟩)) (c' : Array Value) (hy : a.eval y = .agg c') (c : Array Value) (t : TypeId) (hb : w.heap[g]? = some (.cells c t (0, 0)))
    (hi : (P.info? ty).map (·.size) = some c'.size) (hs : c.size = c'.size) (h1 : c'.all (·.oneCell') = true)
    (h : ∀ w', w'.heap[g]? = some (.cells c' t (0, 0)) → Keep (fun k => k = g) w w' → w'.heap.size = w.heap.size → wpList P ops Q rest (a.put op.dst undef) w') : wpList P ops Q (op :: rest) a w :=
  wpList_plain hgd fun _ hK => by
    unfold Oper.wp execOp
    simp only [ho, hx, hy, Instr.storeAt, Instr.sureAddr, Sem.run_bind, Sem.run_pure, Result.andThen_ok, run_storeVar_row w g t ty c c' hb hi hs h1]
    exact hK _ _ (h _ (setRow_heap w g c c' t (0, 0) hb) ⟨rfl, rfl, rfl, by simp, fun k _ hk => setRow_other w g k c' hk⟩ (setRow_size w g c'))
theorem wpList_load_arr {ops : Array Oper} {rest : List Oper} {op : Oper} {a : Act} {w : World} {Q : Exit → Act → World → Prop} (hgd : op.guard = none) (ty : TypeId) (x : Operand) (ho : op.op = .load ty x)
    (g : Nat) (hx : a.eval x = .pointer (some ⟨g, 0, none⟩)) (c : Array Value) (t : TypeId) (d : TypeDesc) (hb : w.heap[g]? = some (.cells c t (0, 0)))
    (hu : P.underlying ty = some d) (hd : (match d with | .struct _ | .array _ _ => true | _ => false) = true) (hi : (P.info? ty).map (·.size) = some c.size)
    (h : wpList P ops Q rest (a.put op.dst (.agg c)) w) : wpList P ops Q (op :: rest) a w :=
  wpList_plain hgd fun _ hK => by
    unfold Oper.wp execOp
    simp only [ho, hx, Instr.loadAt, Instr.sureAddr, Sem.run_bind, Sem.run_pure, Result.andThen_ok, run_loadVar_row w g t ty c (0, 0) d hb hu hd hi]
    exact hK _ _ h
end

theorem intV_one (xs : List Int) : (intV xs).toArray.all (·.oneCell') = true := by
  apply all_oneCell_toArray
  intro v hv
  simp only [intV, List.mem_map] at hv
  obtain ⟨n, _, rfl⟩ := hv
  rfl
theorem intV_size (xs : List Int) : (intV xs).toArray.size = xs.length := by simp [intV]
theorem Is.range {w : World} {ao : Option Addr} {xs : List Int} (h : Is w ao xs) (h0 : 0 < xs.length) : ∃ b off, ao = some ⟨b, off, none⟩ ∧ w.rangeAt b off (intV xs) := by
  obtain ⟨b, off, rfl, _⟩ := h 0 h0
  refine ⟨b, off, rfl, fun j v hv => ?_⟩
  have hj : j < xs.length := by have := (List.getElem?_eq_some_iff.1 hv).1; rw [intV_length] at this; exact this
  obtain ⟨b', off', e, hc⟩ := h j hj
  rw [intV_get hj] at hv
  cases e
  rw [hc]; exact hv
theorem Is.of_block {w : World} {g : Nat} {t : TypeId} {xs : List Int} (h : w.heap[g]? = some (.cells (intV xs).toArray t (0, 0))) : Is w (some ⟨g, 0, none⟩) xs := fun i hi => by
  refine ⟨g, 0, rfl, ?_⟩
  rw [Nat.zero_add, Joins.cell_of_block h]
  simpa using intV_get hi
theorem arr_cell {w : World} {g : Nat} {t : TypeId} {xs : List Int} (h : w.heap[g]? = some (.cells (intV xs).toArray t (0, 0))) {k : Nat} (hk : k < xs.length) : w.cell? ⟨g, k, none⟩ = some (.int .i64 xs[k]) := by
  rw [Joins.cell_of_block h]; simpa using intV_get hk
theorem intV_set (xs : List Int) (k : Nat) (n : Int) : (intV xs).toArray.setIfInBounds k (.int .i64 n) = (intV (xs.set k n)).toArray := by simp [intV, List.map_set]
theorem arr_set {w : World} {g : Nat} {t : TypeId} {xs : List Int} (h : w.heap[g]? = some (.cells (intV xs).toArray t (0, 0))) (k : Nat) (n : Int) : (w.setCell ⟨g, k, none⟩ (.int .i64 n)).heap[g]? = some (.cells (intV (xs.set k n)).toArray t (0, 0)) := by
  rw [set_block (i := k) h (.int .i64 n), intV_set]
theorem block_of_below {w w' : World} {g : Nat} {o : Obj} (h : w.heap[g]? = some o) (hb : Below w.heap.size w w') : w'.heap[g]? = some o := by
  rw [hb.block g (Array.getElem?_eq_some_iff.1 h).1]; exact h
theorem keep_one {w0 w w' : World} {g : Nat} (h : Below w0.heap.size w0 w) (hk : Keep (fun k => k = g) w w') (hg : w0.heap.size ≤ g) : Below w0.heap.size w0 w' :=
  h.trans (hk.below h.size (fun k e => by omega))

end Go.Proofs.Ythnpooffhopnkac

/- Laws on append onto an empty literal, of no program's own. -/
namespace Go.Proofs.Ythnpooffhopnkac
open Go.RowKit
set_option linter.unusedVariables false
set_option maxRecDepth 100000

section
variable {P : Program}
theorem run_append_nothing (w : World) (t ty e : TypeId) (i : TypeInfo) (ht : P.underlying t = some (.slice e)) (hi : P.info? e = some i) (d so : Option Addr) (cap c : Nat) :
    (Builtin.append_ #[t, t] ty #[.slice d 0 cap, .slice so 0 c]).run P w = .ok (.slice d 0 cap) w := by
  have hl : ∀ (x : Addr), (loadCells x 0).run P w = .ok #[] w := fun x => by simpa using run_loadCells_list (P := P) w x [] (by simp)
  cases d <;> cases so <;> simp [Builtin.append_, run_underlying ht, sizeOf, typeInfo, hi, Builtin.lenOf, Builtin.firstCells, storeCells, hl]

theorem run_append_fresh (w : World) (t ty e : TypeId) (i : TypeInfo) (z : Value) (size bytes : Nat) (ht : P.underlying t = some (.slice e)) (hi : P.info? e = some i) (hz : i.zero = some z)
    (hsize : i.size = size) (hby : i.bytes = bytes) (hzs : z.cells.size = size) (hsz : 0 < size)
    (d : Addr) (so : Option Addr) (m c : Nat) (news : List Value) (hn : news.length = m * size) (hc : 0 < m → ∃ ad, so = some ad ∧ ∀ j u, news[j]? = some u → w.cell? (ad.add j) = some u)
    (b1 : m ≤ maxLen) (b2 : m * bytes ≤ 140737488355328) :
    ∃ ao cap w', (Builtin.append_ #[t, t] ty #[.slice (some d) 0 0, .slice so m c]).run P w = .ok (.slice ao m cap) w' ∧ OwnR w' w.heap.size e size (.slice ao m cap) m news ∧ w.grownBy w' none := by
  rcases Nat.eq_zero_or_pos m with h0 | h0
  · subst h0
    exact ⟨some d, 0, w, run_append_nothing w t ty e i ht hi _ _ _ _, .inl ⟨rfl, List.eq_nil_of_length_eq_zero (by simpa using hn), _, rfl⟩, World.grownBy.refl w none⟩
  · obtain ⟨ad, rfl, hcs⟩ := hc h0
    obtain ⟨v', w', hrun, r1, r2⟩ := run_append_arg_grows (P := P) w t ty e i z size bytes ht hi hz hsize hby hzs hsz d 0 0 [] (by simp) (by simp) ad m c news hn hcs (by omega) (by simpa using b1) (by simpa using b2)
    simp only [Nat.zero_add, List.nil_append] at r1
    obtain ⟨g, cap, cur, rfl, _, _⟩ := own_form h0 r1
    exact ⟨_, _, w', hrun, .inr ⟨h0, r1⟩, r2⟩

def isFresh : Value → Bool
  | .slice (some _) 0 0 => true
  | _ => false
theorem isFresh_form {v : Value} (h : isFresh v = true) : ∃ d, v = .slice (some d) 0 0 := by
  unfold isFresh at h
  split at h
  · exact ⟨_, rfl⟩
  · cases h

theorem step_append_fresh {ops : Array Oper} {o : Oper} {a : Act} {w : World} {K : Act → World → Prop} {Q : Exit → Act → World → Prop} {E : Prop}
    (hg : o.guard = none) (s x : Operand) (t : TypeId) (hop : o.op = Op.call { callee := Callee.builtin Builtin.append, args := #[s, x], argTypes := #[t, t] })
    (e : TypeId) (i : TypeInfo) (z : Value) (size bytes : Nat) (h1 : P.underlying t = some (.slice e)) (h2 : P.info? e = some i) (h3 : i.zero = some z) (h4 : i.size = size) (h5 : i.bytes = bytes) (h6 : z.cells.size = size) (h7 : 0 < size)
    (hs0 : isFresh (a.eval s) = true) (so : Option Addr) (m c : Nat) (news : List Value) (hx : a.eval x = .slice so m c) (hn : news.length = m * size)
    (hc : 0 < m → ∃ ad, so = some ad ∧ ∀ j u, news[j]? = some u → w.cell? (ad.add j) = some u) (b1 : m ≤ maxLen) (b2 : m * bytes ≤ 140737488355328)
    (hK : ∀ ao cap w', OwnR w' w.heap.size e size (.slice ao m cap) m news → w.grownBy w' none → K (a.put o.dst (.slice ao m cap)) w') :
    if Region.wanted o (yielded ops a.tmps) = true then Oper.wp P o a w K Q else E := by
  have hw : Region.wanted o (yielded ops a.tmps) = true := by simp [Region.wanted, hg]
  rw [if_pos hw]
  obtain ⟨d, hs⟩ := isFresh_form hs0
  obtain ⟨ao, cap, w', hrun, r1, r2⟩ := run_append_fresh (P := P) w t o.type e i z size bytes h1 h2 h3 h4 h5 h6 h7 d so m c news hn hc b1 b2
  unfold Oper.wp
  simp [execOp, hop, resolve, invoke, builtin, hs, hx, hrun, Result.andThen]
  exact hK _ _ _ r1 r2
end


theorem belowAl {W0 W : World} (h : Below W0.heap.size W0 W) (o : Obj) : Below W0.heap.size W0 (W.alloc o) := h.alloc h.size o
theorem belowGr {W0 W W' : World} (h : Below W0.heap.size W0 W) (hg : W.grownBy W' none) : Below W0.heap.size W0 W' := h.grown hg h.size (fun _ h => by cases h)
end Go.Proofs.Ythnpooffhopnkac

/- A law on append: a row behind an empty one, at a step that does not draw. -/
namespace Go.Proofs.Ythnpooffhopnkac
open Go.RowKit
set_option linter.unusedVariables false
section
variable {P : Program}
theorem wpList_append_fresh {w : World} {ops : Array Oper} {rest : List Oper} {o : Oper} {a : Act} {Q : Exit → Act → World → Prop} (hgd : o.guard = none) (s x : Operand) (t : TypeId)
    (ho : o.op = .call { callee := .builtin .append, args := #[s, x], argTypes := #[t, t] })
    (e : TypeId) (i : TypeInfo) (z : Value) (size bytes : Nat) (ht : P.underlying t = some (.slice e)) (hi : P.info? e = some i) (hz : i.zero = some z)
    (hsize : i.size = size) (hby : i.bytes = bytes) (hzs : z.cells.size = size) (hsz : 0 < size)
    (hs0 : isFresh (a.eval s) = true) (so : Option Addr) (m c : Nat) (news : List Value) (hx : a.eval x = .slice so m c) (hn : news.length = m * size)
    (hc : 0 < m → ∃ ad, so = some ad ∧ ∀ j u, news[j]? = some u → w.cell? (ad.add j) = some u) (b1 : m ≤ maxLen) (b2 : m * bytes ≤ 140737488355328)
    (hK : ∀ ao cap w', OwnR w' w.heap.size e size (.slice ao m cap) m news → w.grownBy w' none → wpList P ops Q rest (a.put o.dst (.slice ao m cap)) w') : wpList P ops Q (o :: rest) a w := by
  refine wpList_plain hgd fun K hK' => ?_
  obtain ⟨d, hs⟩ := isFresh_form hs0
  obtain ⟨ao, cap, w', hrun, r1, r2⟩ := run_append_fresh (P := P) w t o.type e i z size bytes ht hi hz hsize hby hzs hsz d so m c news hn hc b1 b2
  unfold Oper.wp
  simp [execOp, ho, resolve, invoke, builtin, hs, hx, hrun, Result.andThen]
  exact hK' _ _ (hK _ _ _ r1 r2)
end
end Go.Proofs.Ythnpooffhopnkac

/- Contracts of the model's counts: RefsOK, l08Ask, l08Add, RefUp, RefDown. -/
namespace Go.Proofs.Ythnpooffhopnkac
open Go.RowKit
set_option linter.unusedVariables false
set_option maxRecDepth 100000

set_option maxHeartbeats 800000 in
theorem refsOK_spec (ao : Option Addr) (cap : Nat) (xs : List Int) (w : World) (hl : xs.length ≤ maxLen) (hc : Is w ao xs) :
    Calls Try.prog 85 #[.slice ao xs.length cap] w fun e w' => e = .returned (.bool (ctB xs)) ∧ w' = w := by
  have HC := hide hc
  clear hc
  unfold maxLen at hl
  by_cases hlong : 4096 < xs.length
  · have HF := hide (ctB_nolen (xs := xs) (by omega))
    go_enter Try.func85, Try.ntmps85
    go_wp2
    go_ret
    exact ⟨ret_bool (unhide HF).symm, rfl⟩
  go_enter Try.func85, Try.ntmps85
  go_wp2
  go_loop [3] (fun i => ∃ k : Nat, k ≤ xs.length ∧ i = .int .i64 k ∧ Hid (∀ j (h : j < xs.length), j < k → cnt1 xs[j] = true)) (fun i => xs.length - (intOf i).toNat)
  case atStart => exact ⟨0, Nat.zero_le _, rfl, hide (fun j _ h => by omega)⟩
  case round =>
    obtain ⟨k, hk, rfl, HA⟩ := hrel
    by_cases hlt : k < xs.length
    · obtain ⟨b, off, rfl, hc⟩ := unhide HC k hlt
      by_cases hn : cnt1 xs[k] = true
      · have HN := hide (all_succ hlt (unhide HA) hn)
        have hn' : betw xs[k] 0 15 = true := hn
        clear hn
        go_wp2_with (go_at_call 28; refine (in_any _ _ _ _).mono ?_; rintro e w' ⟨rfl, rfl⟩)
        go_round
        case rel => exact ⟨k + 1, by omega, by go_num, HN⟩
        case measure => simp [intOf]; omega
      · have hn0 : cnt1 xs[k] = false := by simpa using hn
        have hn' : betw xs[k] 0 15 = false := hn0
        have HF := hide (ctB_noat hlt hn0)
        clear hn hn0
        go_wp2_with (go_at_call 28; refine (in_any _ _ _ _).mono ?_; rintro e w' ⟨rfl, rfl⟩)
        go_ret
        exact ⟨ret_bool (unhide HF).symm, rfl⟩
    · have HF := hide (ctB_all (fun j h => unhide HA j h (by omega)))
      go_wp2
      go_ret
      exact ⟨ret_bool (by rw [unhide HF, Bool.eq_iff_iff]; simp; omega), rfl⟩

end Go.Proofs.Ythnpooffhopnkac

/- Contracts of the model's images: l10Name, l10Twice. (Made ahead of stage 10.) -/
namespace Go.Proofs.Ythnpooffhopnkac
open Go.RowKit
set_option linter.unusedVariables false
set_option maxRecDepth 100000

theorem snm_get {t : ByteArray} {k : Nat} (h : k < t.size) : t.data.toList[k]? = some t[k] := by
  rw [Array.getElem?_toList]; exact Array.getElem?_eq_getElem h
theorem snm_bad {t : ByteArray} {k : Nat} (h : k < t.size) (hb : nm1 t[k] = false) : snmB t = false := by
  have h2 : k < t.data.toList.length := by simpa using h
  have e : t.data.toList[k] = t[k] := by have := snm_get h; rw [List.getElem?_eq_getElem h2] at this; exact Option.some.inj this
  rw [snmB, all_not (p := nm1) h2 (by rw [e]; exact hb)]; rfl
theorem snm_all {t : ByteArray} (h : ∀ j (h : j < t.size), nm1 t[j] = true) : snmB t = betw (t.size : Int) 1 6 := by
  rw [snmB, all_of (p := nm1) (fun i hi _ => ?_)]
  · simp
  · have h1 : i < t.size := by simpa using hi
    have e : t.data.toList[i] = t[i] := by have := snm_get h1; rw [List.getElem?_eq_getElem hi] at this; exact Option.some.inj this
    rw [e]; exact h i h1

set_option maxHeartbeats 800000 in
theorem l10Name_any (t : ByteArray) (w : World) (hz : t.size ≤ maxLen) :
    Calls Try.prog 78 #[.string t] w fun e w' => e = .returned (.bool (snmB t)) ∧ w' = w := by
  unfold maxLen at hz
  go_enter Try.func78, Try.ntmps78
  go_wp2
  go_loop [3] (fun i => ∃ k : Nat, k ≤ t.size ∧ i = .int .i64 k ∧ Hid (∀ j (h : j < t.size), j < k → nm1 t[j] = true)) (fun i => t.size - (intOf i).toNat)
  case atStart => exact ⟨0, Nat.zero_le _, rfl, hide (fun j _ h => by omega)⟩
  case round =>
    obtain ⟨k, hk, rfl, HA⟩ := hrel
    by_cases hlt : k < t.size
    · by_cases hlo : 97 ≤ t[k].toNat
      · by_cases hhi : t[k].toNat ≤ 122
        · have HN : Hid (∀ j (h : j < t.size), j < k + 1 → nm1 t[j] = true) := hide (fun j h hj => by
            by_cases e : j = k
            · subst e; simp [nm1, hlo, hhi]
            · exact unhide HA j h (by omega))
          have h1 : ¬ ((t[k].toNat : Int) < 97) := by omega
          have h2 : ¬ (122 < (t[k].toNat : Int)) := by omega
          go_wp2
          go_round
          case rel => exact ⟨k + 1, by omega, by go_num, HN⟩
          case measure => simp [intOf]; omega
        · have HF := hide (snm_bad hlt (by simp [nm1]; omega))
          have h1 : ¬ ((t[k].toNat : Int) < 97) := by omega
          have h2 : (122 < (t[k].toNat : Int)) := by omega
          go_wp2
          go_ret
          exact ⟨ret_bool (unhide HF).symm, rfl⟩
      · have HF := hide (snm_bad hlt (by simp [nm1]; omega))
        have h1 : ((t[k].toNat : Int) < 97) := by omega
        go_wp2
        go_ret
        exact ⟨ret_bool (unhide HF).symm, rfl⟩
    · have HF := hide (snm_all (fun j h => unhide HA j h (by omega)))
      go_wp2_with (go_at_call 28; refine (in_any _ _ _ _).mono ?_; rintro e w' ⟨rfl, hw⟩; replace hw := hw.symm; subst hw)
      go_ret
      exact ⟨ret_bool (unhide HF).symm, rfl⟩

theorem nodup_snoc {α : Type} {xs : List α} {k : Nat} (hk : k < xs.length) (h : (xs.take k).Nodup) (hn : ∀ j (hj : j < xs.length), j < k → xs[j] ≠ xs[k]) : (xs.take (k + 1)).Nodup := by
  rw [List.take_succ_eq_append_getElem hk, List.nodup_append]
  refine ⟨h, by simp, ?_⟩
  intro a ha b hb
  rw [List.mem_singleton] at hb
  subst hb
  obtain ⟨j, hj, rfl⟩ := List.mem_iff_getElem.1 ha
  rw [List.length_take] at hj
  rw [List.getElem_take]
  exact hn j (by omega) (by omega)
theorem not_nodup {α : Type} {xs : List α} {i k : Nat} (hi : i < xs.length) (hk : k < i) (he : xs[i] = xs[k]) : ¬ xs.Nodup := by
  intro h
  exact (List.pairwise_iff_getElem.1 h) k i (by omega) hi hk he.symm

set_option maxHeartbeats 1600000 in
theorem l10Twice_any (ao : Option Addr) (cap : Nat) (xs : List Int) (w : World) (hb : tbB xs = true) (hc : Is w ao xs) :
    Calls Try.prog 63 #[.slice ao xs.length cap] w fun e w' => e = .returned (.bool (!onceB xs)) ∧ Below w.heap.size w w' := by
  have HC := hide hc
  have HX := hide (tbB_len hb)
  have HIN : Hid (∀ j (h : j < xs.length), -1000 ≤ xs[j] ∧ xs[j] ≤ 1000) := hide (fun j h => by have := tbB_at hb j h; omega)
  have HLC : Hid ((clA xs).length ≤ 12) := hide (by have := clTo_len xs xs.length; have := tbB_len hb; unfold clA; omega)
  clear hc hb
  go_enter Try.func63, Try.ntmps63
  go_wp2_with fail
  refine (l09Clusters_any ao cap xs _ (by have := unhide HX; omega) (unhide HIN) (unhide HC)).mono ?_
  rintro e w1 ⟨v, rfl, ⟨qo, qa, rfl, ho⟩, hb1⟩
  have HB1 := hide hb1
  have HI := hide (ownRN ho)
  clear ho hb1
  have HON : Hid (onceB xs = decide (clA xs).Nodup) := hide rfl
  generalize clA xs = L at *
  have hl := unhide HLC
  go_wp2
  go_loopw [4] (fun i wr => ∃ k : Nat, k ≤ L.length ∧ i = .int .i64 k ∧ Hid ((L.take k).Nodup) ∧ Hid (Below w1.heap.size w1 wr)) (fun i _ => L.length - (intOf i).toNat)
  case atStart => exact ⟨0, Nat.zero_le _, rfl, hide (by simp), hide (Below.refl _ _)⟩
  case round =>
    obtain ⟨i, hi, rfl, HN, HB⟩ := hrel
    by_cases hlt : i < L.length
    · go_wp2
      go_loopw [5] (fun k wq => ∃ j : Nat, j ≤ i ∧ k = .int .i64 j ∧ Hid (∀ p (hp : p < L.length), p < j → L[p] ≠ L[i]) ∧ Hid (Below w1.heap.size w1 wq)) (fun k _ => i - (intOf k).toNat)
      case atStart => exact ⟨0, Nat.zero_le _, rfl, hide (fun p _ h => by omega), HB⟩
      case round =>
        clear HB
        obtain ⟨j, hj, rfl, HP, HB⟩ := hrel
        by_cases hjl : j < i
        · obtain ⟨b, off, rfl, hc1⟩ := (unhide HI).below (unhide HB) i hlt
          obtain ⟨b2, off2, e2, hc2⟩ := (unhide HI).below (unhide HB) j (by omega)
          cases e2
          have hjL : j < L.length := by omega
          by_cases he : L[i] = L[j]
          · have HF : Hid (onceB xs = false) := hide (by rw [unhide HON]; exact decide_eq_false (not_nodup hlt hjl he))
            have be : (L[i] == L[j]) = true := by simp [he]
            clear he
            go_wp2
            go_quiet (fail)
            go_wp2
            go_ret
            exact ⟨ret_bool (by rw [unhide HF]; rfl), fr (unhide HB1) ((unhide HB).trans (Joins.below_draws _ _ _))⟩
          · have HP' : Hid (∀ p (hp : p < L.length), p < j + 1 → L[p] ≠ L[i]) := hide (fun p hp h => by
              by_cases e : p = j
              · subst e; exact fun e => he e.symm
              · exact unhide HP p hp (by omega))
            have be : (L[i] == L[j]) = false := by simp [he]
            clear he
            go_wp2
            go_quiet (fail)
            go_wp2
            go_roundw
            case rel => exact ⟨j + 1, by omega, by go_num, HP', hide ((unhide HB).trans (Joins.below_draws _ _ _))⟩
            case measure => simp [intOf]; omega
        · have HN' := hide (nodup_snoc hlt (unhide HN) (fun p hp h => unhide HP p hp (by omega)))
          go_wp2
          go_roundw
          case rel => exact ⟨i + 1, by omega, by go_num, HN', HB⟩
          case measure => simp [intOf]; omega
    · have HF : Hid (onceB xs = true) := hide (by
        rw [unhide HON]
        have := unhide HN
        rw [List.take_of_length_le (by omega)] at this
        exact decide_eq_true this)
      go_wp2
      go_ret
      exact ⟨ret_bool (by rw [unhide HF]; rfl), fr (unhide HB1) (unhide HB)⟩

end Go.Proofs.Ythnpooffhopnkac
