import Derived.Test.YtjoafbkcnnhdiacRows
import Derived.Test.YtjoafbkcnnhdiacLResizePart5
import Derived.Test.YtjoafbkcnnhdiacLResizePart3
import Derived.Test.YtjoafbkcnnhdiacLResizePart4
import Derived.Test.YtjoafbkcnnhdiacLResizePart6
import Derived.Test.YtjoafbkcnnhdiacLResizePart10
import Derived.WalkKit
import Derived.WalkSpells
import Derived.KernelRfl
import Derived.LoopN
import Derived.Test.YtjoafbkcnnhdiacLResizePart2

namespace Go.Proofs.Ytjoafbkcnnhdiac
open Go.RowKit
set_option linter.unusedVariables false
set_option maxRecDepth 100000

section
variable {P : Program}
theorem run_append_zero (w : World) (t ty e : TypeId) (i : TypeInfo) (ht : P.underlying t = some (.slice e)) (hi : P.info? e = some i) (d so : Option Addr) (n cap c : Nat) (hle : n ≤ cap) :
    (Builtin.append_ #[t, t] ty #[.slice d n cap, .slice so 0 c]).run P w = .ok (.slice d n cap) w := by
  have hl : ∀ (x : Addr), (loadCells x 0).run P w = .ok #[] w := fun x => by simpa using run_loadCells_list (P := P) w x [] (by simp)
  cases d <;> cases so <;> simp [Builtin.append_, run_underlying ht, sizeOf, typeInfo, hi, Builtin.lenOf, Builtin.firstCells, storeCells, hl, hle]
theorem OwnR.cap {w : World} {B e size n c : Nat} {ao : Option Addr} {xs : List Value} (h : OwnR w B e size (.slice ao n c) n xs) : n ≤ c := by
  rcases h with ⟨h0, _, ao', hv⟩ | ⟨h0, h⟩
  · omega
  · rcases h.2 with ⟨_, e0⟩ | ⟨g, cap, cur, e0, _, _, h1, _⟩
    · omega
    · cases e0
      exact h1
theorem wp_append_any {w : World} {o : Oper} {a : Act} {K : Act → World → Prop} {Q : Exit → Act → World → Prop} (hgd : o.guard = none) (s x : Operand) (t : TypeId)
    (ho : o.op = .call { callee := .builtin .append, args := #[s, x], argTypes := #[t, t] })
    (B : Nat) (e : TypeId) (i : TypeInfo) (z : Value) (size bytes : Nat) (ht : P.underlying t = some (.slice e)) (hi : P.info? e = some i) (hz : i.zero = some z)
    (hsize : i.size = size) (hby : i.bytes = bytes) (hzs : z.cells.size = size) (hsz : 0 < size)
    (qo : Option Addr) (n cap : Nat) (xs : List Value) (hs : a.eval s = .slice qo n cap) (h : OwnR w B e size (.slice qo n cap) n xs) (hB : B ≤ w.heap.size)
    (so : Option Addr) (m c : Nat) (news : List Value) (hx : a.eval x = .slice so m c) (hl : news.length = m * size) (hnews : 0 < m → ∃ ad, so = some ad ∧ ∀ j u, news[j]? = some u → w.cell? (ad.add j) = some u) (h1 : ∀ u ∈ news, u.oneCell' = true)
    (b1 : n + m ≤ maxLen) (b2 : (n + m) * bytes ≤ 140737488355328)
    (hK : ∀ ao cap' w', OwnR w' B e size (.slice ao (n + m) cap') (n + m) (xs ++ news) → Keep (Own (.slice qo n cap)) w w' → K (a.put o.dst (.slice ao (n + m) cap')) w') : o.wp P a w K Q := by
  by_cases hm : 0 < m
  · obtain ⟨ad, rfl, hnew⟩ := hnews hm
    obtain ⟨g, cap', w', hrun, r1, r2⟩ := run_append_many (P := P) w B t o.type e i z size bytes ht hi hz hsize hby hzs hsz qo n cap xs h hB ad m c news hm hl hnew h1 b1 b2
    unfold Oper.wp
    simp [execOp, ho, resolve, invoke, builtin, hs, hx, hrun, Result.andThen]
    exact hK _ _ _ (.inr ⟨by omega, r1⟩) r2
  · obtain rfl : m = 0 := by omega
    have hn : news = [] := List.eq_nil_of_length_eq_zero (by omega)
    subst hn
    have hrun := run_append_zero (P := P) w t o.type e i ht hi qo so n cap c h.cap
    unfold Oper.wp
    simp [execOp, ho, resolve, invoke, builtin, hs, hx, hrun, Result.andThen]
    exact hK _ _ _ (by simpa using h) (Keep.refl _ _)
end

theorem OwnA.sub {w : World} {B : Nat} {rs qs : List (Value × List Int)} (h : OwnA w B rs) (hs : qs.Sublist rs) : OwnA w B qs := ⟨fun r hr => h.own r (hs.subset hr), h.apart.sublist hs⟩
theorem zip_erase {α β : Type} : ∀ (xs : List α) (ys : List β) (k : Nat), (xs.eraseIdx k).zip (ys.eraseIdx k) = (xs.zip ys).eraseIdx k
  | [], ys, k => by simp
  | x :: xs, [], k => by simp
  | x :: xs, y :: ys, 0 => rfl
  | x :: xs, y :: ys, k + 1 => by simp only [List.eraseIdx_cons_succ, List.zip_cons_cons, zip_erase xs ys k]
theorem map_tabs_erase : ∀ (ss : List Snp) (k : Nat), (ss.eraseIdx k).map (·.table) = (ss.map (·.table)).eraseIdx k
  | [], k => by simp
  | s :: ss, 0 => rfl
  | s :: ss, k + 1 => by simp only [List.eraseIdx_cons_succ, List.map_cons, map_tabs_erase ss k]
theorem snC_append : ∀ (ss : List Snp) (ts : List Value) (ss' : List Snp) (ts' : List Value), ss.length = ts.length → snC (ss ++ ss') (ts ++ ts') = snC ss ts ++ snC ss' ts'
  | [], [], ss', ts', _ => rfl
  | a :: ss, b :: ts, ss', ts', h => by
    have := snC_append ss ts ss' ts' (by simpa using h)
    simp only [List.cons_append, snC, this]
theorem snC_erase (ss : List Snp) (ts : List Value) (q : Nat) (h : ss.length = ts.length) : snC (ss.eraseIdx q) (ts.eraseIdx q) = snC (ss.take q) (ts.take q) ++ snC (ss.drop (q + 1)) (ts.drop (q + 1)) := by
  rw [List.eraseIdx_eq_take_drop_succ, List.eraseIdx_eq_take_drop_succ, snC_append _ _ _ _ (by rw [List.length_take, List.length_take, h])]
theorem snC_whole (ss : List Snp) (ts : List Value) (q : Nat) (h : ss.length = ts.length) : snC ss ts = snC (ss.take q) (ts.take q) ++ snC (ss.drop q) (ts.drop q) := by
  rw [← snC_append _ _ _ _ (by rw [List.length_take, List.length_take, h]), List.take_append_drop, List.take_append_drop]
theorem OwnIm.delS {w w' : World} {B q n sc' : Nat} {so' : Option Addr} {a : Im4} {m : Img} {ts : List Value} (h : OwnIm w B a m ts) (hq : q < m.snaps.length) (hB : B ≤ w.heap.size) (hb : Below w.heap.size w w') (hn : (m.snaps.eraseIdx q).length = n)
    (ho : OwnS w' w.heap.size 66 2 (.slice so' n sc') n (snC (m.snaps.eraseIdx q) (ts.eraseIdx q))) : OwnIm w' B { a with so := so', sc := sc' } { m with snaps := m.snaps.eraseIdx q } (ts.eraseIdx q) := by
  refine ⟨by simp only [List.length_eraseIdx, h.len], ?_, ?_⟩
  · show OwnS w' B 66 2 (.slice so' (m.snaps.eraseIdx q).length sc') (m.snaps.eraseIdx q).length _
    rw [hn]
    exact ho.base hB
  · refine (h.rows.below hb).sub ?_
    show List.Sublist ((.slice a.ro m.refs.length a.rc, m.refs) :: (.slice a.tq m.table.length a.tc, m.table) :: (.slice a.dq m.data.length a.dc, m.data) :: (ts.eraseIdx q).zip ((m.snaps.eraseIdx q).map (·.table))) ((.slice a.ro m.refs.length a.rc, m.refs) :: (.slice a.tq m.table.length a.tc, m.table) :: (.slice a.dq m.data.length a.dc, m.data) :: ts.zip (m.snaps.map (·.table)))
    rw [map_tabs_erase, zip_erase]
    exact ((List.eraseIdx_sublist _ _).cons_cons _).cons_cons _ |>.cons_cons _

def dlD (m : Img) (t : List Int) (k : Nat) : Img := imDrops m (t.take k)
theorem dlD_start (m : Img) (t : List Int) : dlD m t 0 = m := rfl
theorem dlD_succ (m : Img) {t : List Int} {k : Nat} (hk : k < t.length) : dlD m t (k + 1) = imDrop (dlD m t k) t[k] := by
  unfold dlD imDrops
  rw [List.take_succ_eq_append_getElem hk, List.foldl_append]; rfl
theorem dlD_all (m : Img) (t : List Int) : dlD m t t.length = imDrops m t := by rw [dlD, List.take_length]
theorem dlD_same (m : Img) (t : List Int) (k : Nat) : (dlD m t k).table = m.table ∧ (dlD m t k).snaps = m.snaps := ⟨(imDrops_same _ m).1, (imDrops_same _ m).2.1⟩
theorem delete_none {m : Img} {name : ByteArray} (hf : ¬ imFind m name < m.snaps.length) : imDelete m name = (m, 5) := if_neg hf
theorem delete_at {m : Img} {name : ByteArray} {q : Nat} (hq : q < m.snaps.length) (e : imFind m name = q) : imDelete m name = ({ imDrops m m.snaps[q].table with snaps := m.snaps.eraseIdx q }, 0) := by
  have hf : imFind m name < m.snaps.length := by omega
  rw [imDelete, if_pos hf, e, List.getElem?_eq_getElem hq]; rfl
theorem ImM.bd {m : Img} (h : ImM m) : RvB m 0 := fun c hc => by have := h.rv c hc; omega
theorem ownSn_cells {w : World} {B g cap : Nat} {ss : List Snp} {ts : List Value} (hl : ss.length = ts.length) (h : w.ownsRow B 66 2 (.slice (some ⟨g, 0, none⟩) ss.length cap) ss.length (snC ss ts)) (q : Nat) : ∀ j u, (snC (ss.drop q) (ts.drop q))[j]? = some u → w.cell? ((⟨g, q * 2, none⟩ : Addr).add j) = some u := fun j u hu => by
  have hq : q ≤ ss.length ∨ ss.length < q := by omega
  rcases hq with hq | hq
  · have e := snC_whole ss ts q hl
    have hl1 : (snC (ss.take q) (ts.take q)).length = q * 2 := by
      rw [snC_length _ _ (by rw [List.length_take, List.length_take, hl]), List.length_take]; omega
    have hx : (snC ss ts)[q * 2 + j]? = some u := by
      rw [e, List.getElem?_append_right (by omega), hl1, show q * 2 + j - q * 2 = j by omega]; exact hu
    have hlt := (List.getElem?_eq_some_iff.1 hx).1
    rw [snC_length _ _ hl] at hlt
    have := h.cellAt (q * 2 + j) hlt
    rw [hx] at this
    have e2 : (⟨g, q * 2, none⟩ : Addr).add j = ⟨g, q * 2 + j, none⟩ := by
      unfold Addr.add
      split
      · rename_i hj; rw [hj]; rfl
      · rfl
    rw [e2]
    exact this
  · rw [List.drop_eq_nil_of_le (by omega)] at hu
    simp [snC] at hu
theorem ownSn_take {w : World} {B g cap : Nat} {ss : List Snp} {ts : List Value} (hl : ss.length = ts.length) (h : w.ownsRow B 66 2 (.slice (some ⟨g, 0, none⟩) ss.length cap) ss.length (snC ss ts)) (q : Nat) : ∀ j u, (snC (ss.take q) (ts.take q))[j]? = some u → w.cell? ((⟨g, 0, none⟩ : Addr).add j) = some u := fun j u hu => by
  have h0 := ownSn_cells hl h 0 j u
  rw [List.drop_zero, List.drop_zero, Nat.zero_mul] at h0
  refine h0 ?_
  rw [snC_whole ss ts q hl, List.getElem?_append_left (List.getElem?_eq_some_iff.1 hu).1]
  exact hu
theorem ownSn_one {w : World} {B : Nat} {ts : List Value} {ss : List Snp} (h : ∀ t ∈ ts, ∃ xs, OwnN w B t xs) : ∀ u ∈ snC ss ts, u.oneCell' = true := by
  induction ss generalizing ts with
  | nil => intro u hu; cases ts <;> simp [snC] at hu
  | cons s ss ih =>
    intro u hu
    cases ts with
    | nil => simp [snC] at hu
    | cons t ts =>
      simp only [snC, List.mem_cons] at hu
      rcases hu with rfl | rfl | hu
      · rfl
      · obtain ⟨xs, ao, cap, rfl, _⟩ := h u (by simp)
        rfl
      · exact ih (fun t ht => h t (by simp [ht])) u hu
theorem OwnIm.tabsOwn {w : World} {B : Nat} {a : Im4} {m : Img} {ts : List Value} (h : OwnIm w B a m ts) : ∀ t ∈ ts, ∃ xs, OwnN w B t xs := fun t ht => by
  obtain ⟨i, hi, rfl⟩ := List.mem_iff_getElem.1 ht
  have hi2 : i < (m.snaps.map (·.table)).length := by rw [List.length_map, h.len]; exact hi
  refine ⟨(m.snaps.map (·.table))[i], h.rows.own (ts[i], (m.snaps.map (·.table))[i]) ?_⟩
  simp only [imRows]
  refine List.mem_cons_of_mem _ (List.mem_cons_of_mem _ (List.mem_cons_of_mem _ ?_))
  rw [List.mem_iff_getElem]
  exact ⟨i, by rw [List.length_zip]; omega, by simp⟩

set_option maxHeartbeats 3200000 in
theorem l10Delete_R (a : Im4) (m : Img) (name : ByteArray) (R : Img × Int) (w : World) (hR : R = imDelete m name) (hM : ImM m) (hc : ImS w a m) :
    Calls Try.prog 68 #[imV a m, .string name] w fun e w' => AnsI w w' e R := by
  have HE := hide (ImE.new w a m hc)
  have HM := hide hM
  have HR := hide hR
  clear hc hM hR
  obtain ⟨j0, hj0, hy0, hy1, hy2⟩ := info_parts infoSn
  go_enter Try.func68, Try.ntmps68
  go_upto_region 1 with fail
  revert HE
  generalize ((w.alloc _).alloc _) = W0
  intro HE
  obtain ⟨c0, c1, c2, c3⟩ := (unhide HE).v.cells
  go_wp2_with fail
  refine (l10Own_M a m _ (unhide HM) (unhide HE).s).mono ?_
  rintro e w1 ⟨b, ts, rfl, ho, hb⟩
  have HQ := hide (ImQ.put (w := w) ((unhide HE).v.below hb) ((unhide HE).r.below hb) (ho.base (B' := w.heap.size + 2) (by have := (unhide HE).r.lt; omega)) (fr (unhide HE).b hb) (Nat.le_refl _) (m0 := m) rfl rfl rfl rfl)
  unfold putI at HQ
  obtain ⟨x0, x1, x2, x3⟩ := ((unhide HE).v.below hb).cells
  obtain ⟨z0, z1, z2, z3⟩ := ((unhide HE).v.below hb).free
  clear c0 c1 c2 c3 ho hb HE
  go_upto_region 2 with fail
  clear x0 x1 x2 x3 z0 z1 z2 z3
  revert HQ
  generalize (((w1.setCell _ _).setCell _ _).setCell _ _).setCell _ _ = W1
  intro HQ
  have HS : Hid (ImS W1 b m) := hide ((unhide HQ).o.shows (unhide HM).zs)
  obtain ⟨c0, c1, c2, c3⟩ := (unhide HQ).v.cells
  go_wp2_with fail
  refine (l10Find_any b m name _ (by have := (unhide HM).s; omega) (unhide HS).s).mono ?_
  rintro e w2 ⟨rfl, hb2⟩
  have HQ2 := hide ((unhide HQ).below hb2)
  clear hb2 c0 c1 c2 c3 HQ HS
  obtain ⟨c0, c1, c2, c3⟩ := (unhide HQ2).v.cells
  obtain ⟨r0, r1, r2, r3⟩ := (unhide HQ2).r.cells
  obtain ⟨z0, z1, z2, z3⟩ := (unhide HQ2).r.free
  by_cases hf : imFind m name < m.snaps.length
  case neg =>
    have HX : Hid (R = (m, 5)) := hide ((unhide HR).trans (delete_none hf))
    have HF := hide (unhide HQ2).fin
    rw [show fdI m name = -1 from if_neg hf]
    clear hf
    go_wp2
    refine bodyPost_ret (res_ic Try.results68 rfl rfl (unhide HF).1) rfl ?_
    rw [unhide HX]
    exact AnsI.of (R := (m, 5)) rfl rfl (unhide HF).2.1 (unhide HF).2.2
  rw [show fdI m name = (imFind m name : Int) from if_pos hf]
  obtain ⟨q, hq⟩ : ∃ q, imFind m name = q := ⟨_, rfl⟩
  have hql : q < m.snaps.length := by omega
  obtain ⟨t, ht⟩ : ∃ t, m.snaps[q].table = t := ⟨_, rfl⟩
  have HX : Hid (R = ({ imDrops m t with snaps := m.snaps.eraseIdx q }, 0)) := hide (by rw [← ht]; exact (unhide HR).trans (delete_at hql hq))
  rw [hq]
  clear hf hq HR
  have hqi : (q : Int) < (m.snaps.length : Int) := by omega
  have hs3 := (unhide HM).s
  have HT := hide ht
  have HQL := hide hql
  have ht12 : t.length ≤ 12 := by rw [← ht]; exact ((unhide HM).st _ (List.getElem_mem hql)).1
  have HTV : Hid (∀ i (h : i < t.length), 0 ≤ t[i] ∧ t[i] ≤ 25) := hide (by rw [← ht]; exact (unhide HM).sv _ (List.getElem_mem hql))
  clear ht
  have HBD := hide (unhide HM).bd
  have HSN : Hid (∀ k wr, ImQ w wr (w.heap.size + 2) b m (dlD m t k) ts → Sns wr b.so m.snaps) := hide (fun k wr h => by
    have := (h.o.shows (by rw [(dlD_same m t k).2]; exact (unhide HM).zs)).s
    rwa [(dlD_same m t k).2] at this)
  clear c0 c1 c2 c3 r0 r1 r2 r3 z0 z1 z2 z3
  go_wp2
  go_loopw [7] (fun i wr => ∃ k : Nat, k ≤ t.length ∧ i = .int .i64 k ∧ Hid (ImQ w wr (w.heap.size + 2) b m (dlD m t k) ts) ∧ Hid (RvB (dlD m t k) k)) (fun i _ => t.length - (intOf i).toNat)
  case atStart => exact ⟨0, Nat.zero_le _, rfl, by rw [dlD_start]; exact HQ2, by rw [dlD_start]; exact HBD⟩
  case round =>
    clear HQ2 HBD
    obtain ⟨k, hk, rfl, HQ, HB⟩ := hrel
    obtain ⟨c0, c1, c2, c3⟩ := (unhide HQ).v.cells
    obtain ⟨bs, off, tq, tc, es, _, ht0, hIs, _, _⟩ := (unhide HSN k wr (unhide HQ)) q (unhide HQL)
    rw [unhide HT] at ht0 hIs
    by_cases hlt : k < t.length
    · have hlti : (k : Int) < (t.length : Int) := by omega
      obtain ⟨bt, ot, rfl, hct⟩ := hIs k hlt
      clear hIs
      have HSU := hide (dlD_succ m hlt)
      have HLS : Hid ((dlD m t k).refs.length = 24 ∧ (dlD m t k).data.length = 24) := hide ⟨(unhide HQ).e1.trans (unhide HM).r, (unhide HQ).e4.trans (unhide HM).d⟩
      have HTK := hide (unhide HTV k hlt)
      have HBN : Hid (RvB (imDrop (dlD m t k) t[k]) ((k + 1 : Nat) : Int)) := hide (by
        have := (unhide HB).drop (by omega) t[k]
        rwa [show (k : Int) + 1 = ((k + 1 : Nat) : Int) by omega] at this)
      have ES := hide es
      rw [← unhide HSU] at HBN
      have hS0 : VarM wr.drew w.heap.size 29 (.slice b.ro m.refs.length b.rc) (.slice b.tq m.table.length b.tc) (.slice (some ⟨bs, off, none⟩) m.snaps.length b.sc) (.slice b.dq m.data.length b.dc) ∧ wr.drew.cell? ⟨bs, off + q * 2 + 1, none⟩ = some (.slice (some ⟨bt, ot, none⟩) t.length tc) ∧ wr.drew.cell? ⟨bt, ot + k, none⟩ = some (.int .i64 t[k]) := ⟨by rw [← es]; exact (unhide HQ).v.below (Below.refl _ _).drew, ht0, hct⟩
      have HDROP : Hid (Calls Try.prog 75 #[.agg #[.slice b.ro m.refs.length b.rc, .slice b.tq m.table.length b.tc, .slice (some ⟨bs, off, none⟩) m.snaps.length b.sc, .slice b.dq m.data.length b.dc], .int .i64 t[k]] wr.drew fun e w' => e = .returned (.agg #[.slice b.ro m.refs.length b.rc, .slice b.tq m.table.length b.tc, .slice (some ⟨bs, off, none⟩) m.snaps.length b.sc, .slice b.dq m.data.length b.dc]) ∧ ImQ w w' (w.heap.size + 2) b m (dlD m t (k + 1)) ts) := hide (by
        have h := (unhide HQ).below (Below.refl wr.heap.size wr).drew
        have hv : imV b (dlD m t k) = .agg #[.slice b.ro m.refs.length b.rc, .slice b.tq m.table.length b.tc, .slice (some ⟨bs, off, none⟩) m.snaps.length b.sc, .slice b.dq m.data.length b.dc] := by rw [← h.val, imV, unhide ES]
        rw [← hv]
        refine (l10Drop_M b (dlD m t k) ts (w.heap.size + 2) t[k] _ (unhide HTK).1 (unhide HTK).2 (unhide HLS).1 (unhide HLS).2 (fun c hc => by have := unhide HB c hc; omega) h.o).mono ?_
        rintro e w2 ⟨rfl, ho2, hk2'⟩
        rw [unhide HSU]
        exact ⟨rfl, h.turn hk2' ho2 (imDrop_lens _ _).1 (imDrop_lens _ _).2.1 (imDrop_lens _ _).2.2.1 (imDrop_lens _ _).2.2.2⟩)
      rw [es] at c2
      clear HLS HTK HSU es
      go_upto_region 8 with fail
      clear c0 c1 c2 c3 ht0 hct
      generalize t[k] = T at *
      refine wp_region_ord (fun w' => VarM w' w.heap.size 29 (.slice b.ro m.refs.length b.rc) (.slice b.tq m.table.length b.tc) (.slice (some ⟨bs, off, none⟩) m.snaps.length b.sc) (.slice b.dq m.data.length b.dc) ∧ w'.cell? ⟨bs, off + q * 2 + 1, none⟩ = some (.slice (some ⟨bt, ot, none⟩) t.length tc) ∧ w'.cell? ⟨bt, ot + k, none⟩ = some (.int .i64 T)) [0, 1, 2, 3, 4, 5, 6, 7, 8, 9] [(0, 0), (1, 0), (2, 0), (3, 0), (4, 0), (5, 0), (6, 0), (7, 0), (8, 0), (9, 0), (10, 3), (11, 3)] (by kernel_rfl) (by kernel_rfl) rfl (by kernel_rfl) ?_
      refine ord_read (.agg #[.slice b.ro m.refs.length b.rc, .slice b.tq m.table.length b.tc, .slice (some ⟨bs, off, none⟩) m.snaps.length b.sc, .slice b.dq m.data.length b.dc]) rfl rfl hS0 (fun W hW => by obtain ⟨k0, k1, k2, k3⟩ := hW.1.cells; go_simp) ?_
      refine ord_read (.pointer (some ⟨w.heap.size, 2, none⟩)) rfl rfl hS0 (fun W hW => by go_simp) ?_
      refine ord_read (.slice (some ⟨bs, off, none⟩) m.snaps.length b.sc) rfl rfl hS0 (fun W hW => by obtain ⟨k0, k1, k2, k3⟩ := hW.1.cells; go_simp) ?_
      refine ord_read (.int .i64 q) rfl rfl hS0 (fun W hW => by go_simp) ?_
      refine ord_read (.pointer (some ⟨bs, off + q * 2, none⟩)) rfl rfl hS0 (fun W hW => by go_simp) ?_
      refine ord_read (.pointer (some ⟨bs, off + q * 2 + 1, none⟩)) rfl rfl hS0 (fun W hW => by go_simp) ?_
      refine ord_read (.slice (some ⟨bt, ot, none⟩) t.length tc) rfl rfl hS0 (fun W hW => by have k0 := hW.2.1; go_simp) ?_
      refine ord_read (.int .i64 k) rfl rfl hS0 (fun W hW => by go_simp) ?_
      refine ord_read (.pointer (some ⟨bt, ot + k, none⟩)) rfl rfl hS0 (fun W hW => by go_simp) ?_
      refine ord_read (.int .i64 T) rfl rfl hS0 (fun W hW => by have k0 := hW.2.2; go_simp) ?_
      clear hS0
      refine ord_alone rfl rfl ?_
      intro K hK
      unfold Oper.wp
      go_simp
      refine (unhide HDROP).mono ?_
      rintro e w2 ⟨rfl, hq2⟩
      have HQ3 := hide hq2
      have HQ4 := hide hq2.again
      unfold putI at HQ4
      rw [unhide ES] at HQ4
      refine hK _ _ ?_
      clear hK K hq2
      obtain ⟨c0, c1, c2, c3⟩ := (unhide HQ3).v.cells
      obtain ⟨z0, z1, z2, z3⟩ := (unhide HQ3).v.free
      refine ord_alone rfl rfl ?_
      intro K hK
      unfold Oper.wp
      go_simp
      refine hK _ _ ?_
      clear hK K
      refine ord_done ?_
      clear c0 c1 c2 c3 z0 z1 z2 z3 HQ3 HDROP HQ HB
      revert HQ4
      generalize (((w2.setCell _ _).setCell _ _).setCell _ _).setCell _ _ = W4
      intro HQ4
      go_wp2
      go_roundw
      case rel => exact ⟨k + 1, by omega, by go_num, HQ4, HBN⟩
      case measure => simp [intOf]; omega
    · obtain rfl : k = t.length := by omega
      rw [dlD_all] at HQ
      have HDS : Hid ((imDrops m t).snaps = m.snaps) := hide (imDrops_same t m).2.1
      have HROW := hide ((unhide HQ).o.s.toR (fun h => by rw [(unhide HQ).e3] at h; have := unhide HQL; omega))
      rw [unhide HDS] at HROW
      have HTO := hide (unhide HQ).o.tabsOwn
      have HLT : Hid (m.snaps.length = ts.length) := hide (by have := (unhide HQ).o.len; rwa [unhide HDS] at this)
      obtain ⟨g, cap0, cur0, e0, hg0, hgb⟩ := own_form (by omega) ((unhide HROW).row (by omega))
      obtain ⟨eso, rfl⟩ : b.so = some ⟨g, 0, none⟩ ∧ b.sc = cap0 := by simp only [Value.slice.injEq] at e0; exact ⟨e0.1, e0.2.2⟩
      rw [eso] at es
      cases es
      rw [Nat.zero_add] at ht0
      have HCAP := hide (unhide HROW).cap
      clear hIs hgb e0 HB
      rw [eso] at c2
      go_upto_region 9 with fail
      have hS0 : VarM wr.drew w.heap.size 29 (.slice b.ro m.refs.length b.rc) (.slice b.tq m.table.length b.tc) (.slice (some ⟨bs, 0, none⟩) m.snaps.length b.sc) (.slice b.dq m.data.length b.dc) := by rw [← eso]; exact (unhide HQ).v.below (Below.refl _ _).drew
      clear c0 c1 c2 c3 ht0
      rw [eso] at HROW
      have hcq : (q : Int) ≤ (b.sc : Int) := by have := unhide HCAP; omega
      have hc0 : ¬ b.sc = 0 := by have := unhide HCAP; omega
      have hw1 : IntKind.i64.wrap ((q : Int) + 1) = (q : Int) + 1 := by rw [IntKind.wrap_i64]; omega
      have hq1 : (q : Int) + 1 ≤ (m.snaps.length : Int) := by omega
      have h01 : (0 : Int) ≤ (q : Int) + 1 := by omega
      have htn : ((q : Int) + 1).toNat = q + 1 := by omega
      obtain ⟨so2, HSO⟩ : ∃ so2, Hid (so2 = if b.sc = q + 1 then some (⟨bs, 0, none⟩ : Addr) else some ⟨bs, (q + 1) * 2, none⟩) := ⟨_, hide rfl⟩
      refine wp_region_ord (fun w' => VarM w' w.heap.size 29 (.slice b.ro m.refs.length b.rc) (.slice b.tq m.table.length b.tc) (.slice (some ⟨bs, 0, none⟩) m.snaps.length b.sc) (.slice b.dq m.data.length b.dc)) [0, 1, 2, 3, 4, 5, 6, 7, 8, 9, 10, 11, 12] [(1, 0), (2, 0), (3, 0), (4, 0), (6, 0), (7, 0), (8, 0), (9, 0), (10, 0), (0, 2), (5, 2), (11, 2), (12, 0), (13, 3)] (by kernel_rfl) (by kernel_rfl) rfl (by kernel_rfl) ?_
      refine ord_read (.pointer (some ⟨w.heap.size, 2, none⟩)) rfl rfl hS0 (fun W hW => by go_simp) ?_
      refine ord_read (.slice (some ⟨bs, 0, none⟩) m.snaps.length b.sc) rfl rfl hS0 (fun W hW => by obtain ⟨k0, k1, k2, k3⟩ := hW.cells; go_simp) ?_
      refine ord_read (.int .i64 q) rfl rfl hS0 (fun W hW => by go_simp) ?_
      refine ord_read (.slice (some ⟨bs, 0, none⟩) q b.sc) rfl rfl hS0 (fun W hW => by go_simp) ?_
      refine ord_read (.pointer (some ⟨w.heap.size, 2, none⟩)) rfl rfl hS0 (fun W hW => by go_simp) ?_
      refine ord_read (.slice (some ⟨bs, 0, none⟩) m.snaps.length b.sc) rfl rfl hS0 (fun W hW => by obtain ⟨k0, k1, k2, k3⟩ := hW.cells; go_simp) ?_
      refine ord_read (.int .i64 q) rfl rfl hS0 (fun W hW => by go_simp) ?_
      refine ord_read (.int .i64 ((q : Int) + 1)) rfl rfl hS0 (fun W hW => by go_simp) ?_
      refine ord_read (.slice so2 (m.snaps.length - (q + 1)) (b.sc - (q + 1))) rfl rfl hS0 (fun W hW => by rw [unhide HSO]; go_simp) ?_
      have HN2 : Hid (0 < m.snaps.length - (q + 1) → so2 = some ⟨bs, (q + 1) * 2, none⟩) := hide (fun h => by
        rw [unhide HSO, if_neg (by have := unhide HCAP; omega)])
      have HNE : Hid ((m.snaps.eraseIdx q).length = q + (m.snaps.length - (q + 1))) := hide (by
        rw [List.length_eraseIdx, if_pos (unhide HQL)]; omega)
      refine ord_held rfl rfl ?_
      intro K hK
      unfold Oper.wp
      go_simp
      have hb5 : Below wr.heap.size wr (wr.drew.alloc (.cells #[] 66)) := fr (Below.refl _ _).drew (Joins.below_alloc1 _ _)
      refine hK _ _ (hS0.below (Joins.below_alloc1 _ _)) ?_
      clear hK K
      refine ord_held rfl rfl ?_
      intro K hK
      refine wp_append_fresh rfl (.tmp 38) (.tmp 42) 27 rfl 66 j0 (.agg #[.string ⟨#[]⟩, .slice none 0 0]) 2 40 Try.underlying27 hj0 hy0 hy1 hy2 rfl (by omega) rfl (some ⟨bs, 0, none⟩) q b.sc (snC (m.snaps.take q) (ts.take q)) rfl (by rw [snC_length _ _ (by rw [List.length_take, List.length_take, unhide HLT]), List.length_take]; omega) (fun _ => ⟨_, rfl, ownSn_take (unhide HLT) (((unhide HROW).below hb5).row (by omega)) q⟩) (by unfold maxLen; omega) (by omega) ?_
      intro ao cap w5 ho5 hg5
      have hb6 : Below wr.heap.size wr w5 := belowGr hb5 hg5
      have hS6 : VarM w5 w.heap.size 29 (.slice b.ro m.refs.length b.rc) (.slice b.tq m.table.length b.tc) (.slice (some ⟨bs, 0, none⟩) m.snaps.length b.sc) (.slice b.dq m.data.length b.dc) := by rw [← eso]; exact (unhide HQ).v.below hb6
      refine hK _ _ hS6 ?_
      clear hK K hS0 hg5 hb5
      have HO5 : Hid (OwnR w5 wr.heap.size 66 2 (.slice ao q cap) q (snC (m.snaps.take q) (ts.take q))) := hide (ho5.base (by simp))
      clear ho5
      refine ord_held rfl rfl ?_
      intro K hK
      refine wp_append_any rfl (.tmp 43) (.tmp 48) 27 rfl wr.heap.size 66 j0 (.agg #[.string ⟨#[]⟩, .slice none 0 0]) 2 40 Try.underlying27 hj0 hy0 hy1 hy2 rfl (by omega) ao q cap (snC (m.snaps.take q) (ts.take q)) rfl (unhide HO5) hb6.size so2 (m.snaps.length - (q + 1)) (b.sc - (q + 1)) (snC (m.snaps.drop (q + 1)) (ts.drop (q + 1))) rfl (by rw [snC_length _ _ (by rw [List.length_drop, List.length_drop, unhide HLT]), List.length_drop]) (fun h => ⟨_, unhide HN2 h, ownSn_cells (unhide HLT) (((unhide HROW).below hb6).row (by omega)) (q + 1)⟩) (ownSn_one (fun t ht => unhide HTO t (List.mem_of_mem_drop ht))) (by unfold maxLen; omega) (by omega) ?_
      intro ao2 cap2 w6 ho6 hk6
      have HB7 : Hid (Below wr.heap.size wr w6) := hide (hb6.trans (hk6.below hb6.size (fun g hg => ((unhide HO5).ge g hg).1)))
      have HS7 : Hid (VarM w6 w.heap.size 29 (.slice b.ro m.refs.length b.rc) (.slice b.tq m.table.length b.tc) (.slice (some ⟨bs, 0, none⟩) m.snaps.length b.sc) (.slice b.dq m.data.length b.dc)) := hide (by rw [← eso]; exact (unhide HQ).v.below (unhide HB7))
      have HO7 : Hid (OwnIm w6 (w.heap.size + 2) { b with so := ao2, sc := cap2 } { imDrops m t with snaps := m.snaps.eraseIdx q } (ts.eraseIdx q)) := hide (by
        have h := OwnIm.delS (so' := ao2) (sc' := cap2) (n := q + (m.snaps.length - (q + 1))) (q := q) (unhide HQ).o (by rw [unhide HDS]; exact unhide HQL) (by have := (unhide HQ).r.lt; omega) (unhide HB7) (by rw [unhide HDS]; exact unhide HNE) (by rw [unhide HDS, snC_erase _ _ _ (unhide HLT)]; exact ho6.toS)
        rwa [unhide HDS] at h)
      have HR7 := hide ((unhide HQ).r.below (unhide HB7))
      refine hK _ _ (unhide HS7) ?_
      clear hK K ho6 hk6 hS6
      refine ord_read (.pointer (some ⟨w.heap.size, 2, none⟩)) rfl rfl (unhide HS7) (fun W hW => by go_simp) ?_
      obtain ⟨c0, c1, c2, c3⟩ := (unhide HS7).cells
      obtain ⟨z0, z1, z2, z3⟩ := (unhide HS7).free
      refine ord_alone rfl rfl ?_
      intro K hK
      unfold Oper.wp
      go_simp
      refine hK _ _ ?_
      clear hK K
      refine ord_done ?_
      have HQ8 : Hid (ImQ w (w6.setCell ⟨w.heap.size, 2, none⟩ (.slice ao2 (q + (m.snaps.length - (q + 1))) cap2)) (w.heap.size + 2) { b with so := ao2, sc := cap2 } { m with snaps := m.snaps.eraseIdx q } { imDrops m t with snaps := m.snaps.eraseIdx q } (ts.eraseIdx q)) := hide
        ⟨by simp only [unhide HNE]; exact (unhide HS7).set2 _, (unhide HR7).other (p := ⟨w.heap.size, 2, none⟩) (by simp) _, (unhide HO7).setCell (p := ⟨w.heap.size, 2, none⟩) (by simp) _, ((unhide HQ).b.trans ((unhide HB7).mono (unhide HQ).b.size)).setCell (p := ⟨w.heap.size, 2, none⟩) (Nat.le_refl _) _, Nat.le_refl _, (unhide HQ).e1, (unhide HQ).e2, rfl, (unhide HQ).e4⟩
      clear c0 c1 c2 c3 z0 z1 z2 z3 HS7 HR7 HO7 HB7 HO5 HQ HROW
      revert HQ8
      generalize (w6.setCell _ _) = W8
      intro HQ8
      have HF := hide (unhide HQ8).fin
      unfold putI at HF
      have HVL := hide (unhide HQ8).val
      obtain ⟨c0, c1, c2, c3⟩ := (unhide HQ8).v.cells
      obtain ⟨r0, r1, r2, r3⟩ := (unhide HQ8).r.cells
      obtain ⟨z0, z1, z2, z3⟩ := (unhide HQ8).r.free
      have HRL := hide (show ({ m with snaps := m.snaps.eraseIdx q } : Img).refs = m.refs from rfl)
      clear hqi hs3 hcq hc0 hw1 hq1 h01 htn
      go_wp2
      refine bodyPost_ret (res_ic Try.results68 rfl rfl (unhide HF).1) rfl ?_
      rw [unhide HX]
      exact AnsI.of (R := ({ imDrops m t with snaps := m.snaps.eraseIdx q }, 0)) (unhide HVL) rfl (unhide HF).2.1 (unhide HF).2.2

end Go.Proofs.Ytjoafbkcnnhdiac

namespace Go.Proofs.Ytjoafbkcnnhdiac
open Go.RowKit
set_option linter.unusedVariables false
set_option maxRecDepth 100000

theorem RvU.fold {lo : Int} : ∀ (L : List Int), (∀ c ∈ L, 0 ≤ c ∧ c ≤ 23) → ∀ (ns : List Int) (hi : Int), ns.length = 24 → lo ≤ hi → RvU ns lo hi → RvU (L.foldl incr ns) lo (hi + L.length)
  | [], _, ns, hi, _, _, h => fun c hc => ⟨(h c hc).1, Int.le_trans (h c hc).2 (by simp)⟩
  | c :: L, hL, ns, hi, hn, hh, h => by
    obtain ⟨h0, h1⟩ := hL c (by simp)
    obtain ⟨q, rfl⟩ := Int.eq_ofNat_of_zero_le h0
    have h2 := h.up q (by omega) hh
    have h3 := RvU.fold L (fun x hx => hL x (by simp [hx])) _ _ ((incr_len ns q).trans hn) (by omega) h2
    rw [List.foldl_cons]
    intro i hi'
    have := h3 i hi'
    simp only [List.length_cons]
    omega
theorem raise_bd {m : Img} {t : List Int} (hM : ImM m) (ht : tbB t = true) : RvB (imRaise m t) 0 := by
  have hcl := clA_len ht
  have h := RvU.fold (lo := 0) (clA t) (fun c hc => by obtain ⟨j, hj, rfl⟩ := List.mem_iff_getElem.1 hc; exact clA_in ht j hj) m.refs 15 hM.r (by omega) hM.rv
  intro c hc
  have := h c hc
  show -0 ≤ ((clA t).foldl incr m.refs)[c] ∧ _
  constructor
  · omega
  · show ((clA t).foldl incr m.refs)[c] ≤ 60
    omega
def rvD (m : Img) (t : List Int) (k : Nat) : Img := imDrops (imRaise m t) (m.table.take k)
theorem rvD_start (m : Img) (t : List Int) : rvD m t 0 = imRaise m t := rfl
theorem rvD_succ {m : Img} (t : List Int) {k : Nat} (hk : k < m.table.length) : rvD m t (k + 1) = imDrop (rvD m t k) m.table[k] := by
  unfold rvD imDrops
  rw [List.take_succ_eq_append_getElem hk, List.foldl_append]; rfl
theorem rvD_all (m : Img) (t : List Int) : rvD m t m.table.length = imDrops (imRaise m t) m.table := by rw [rvD, List.take_length]
theorem rvD_same (m : Img) (t : List Int) (k : Nat) : (rvD m t k).table = m.table ∧ (rvD m t k).snaps = m.snaps := ⟨(imDrops_same _ (imRaise m t)).1, (imDrops_same _ (imRaise m t)).2.1⟩
theorem revert_none {m : Img} {name : ByteArray} (hf : ¬ imFind m name < m.snaps.length) : imRevert m name = (m, 5) := if_neg hf
theorem revert_at {m : Img} {name : ByteArray} {q : Nat} (hq : q < m.snaps.length) (e : imFind m name = q) : imRevert m name = ({ imDrops (imRaise m m.snaps[q].table) m.table with table := m.snaps[q].table }, 0) := by
  have hf : imFind m name < m.snaps.length := by omega
  rw [imRevert, if_pos hf, e, List.getElem?_eq_getElem hq]; rfl

set_option maxHeartbeats 3200000 in
theorem l10Revert_R (a : Im4) (m : Img) (name : ByteArray) (R : Img × Int) (w : World) (hR : R = imRevert m name) (hM : ImM m) (hts : ∀ s ∈ m.snaps, tbB s.table = true) (hc : ImS w a m) :
    Calls Try.prog 69 #[imV a m, .string name] w fun e w' => AnsI w w' e R := by
  have HE := hide (ImE.new w a m hc)
  have HM := hide hM
  have HR := hide hR
  have HTS := hide hts
  have HTL := hide hM.t
  clear hc hM hR hts
  obtain ⟨i0, hi0, hz0, hz1, hz2⟩ := info_parts infoIn
  go_enter Try.func69, Try.ntmps69
  go_upto_region 1 with fail
  revert HE
  generalize ((w.alloc _).alloc _) = W0
  intro HE
  obtain ⟨c0, c1, c2, c3⟩ := (unhide HE).v.cells
  go_wp2_with fail
  refine (l10Own_M a m _ (unhide HM) (unhide HE).s).mono ?_
  rintro e w1 ⟨b, ts, rfl, ho, hb⟩
  have HQ := hide (ImQ.put (w := w) ((unhide HE).v.below hb) ((unhide HE).r.below hb) (ho.base (B' := w.heap.size + 2) (by have := (unhide HE).r.lt; omega)) (fr (unhide HE).b hb) (Nat.le_refl _) (m0 := m) rfl rfl rfl rfl)
  unfold putI at HQ
  obtain ⟨x0, x1, x2, x3⟩ := ((unhide HE).v.below hb).cells
  obtain ⟨z0, z1, z2, z3⟩ := ((unhide HE).v.below hb).free
  clear c0 c1 c2 c3 ho hb HE
  go_upto_region 2 with fail
  clear x0 x1 x2 x3 z0 z1 z2 z3
  revert HQ
  generalize (((w1.setCell _ _).setCell _ _).setCell _ _).setCell _ _ = W1
  intro HQ
  have HS : Hid (ImS W1 b m) := hide ((unhide HQ).o.shows (unhide HM).zs)
  obtain ⟨c0, c1, c2, c3⟩ := (unhide HQ).v.cells
  go_wp2_with fail
  refine (l10Find_any b m name _ (by have := (unhide HM).s; omega) (unhide HS).s).mono ?_
  rintro e w2 ⟨rfl, hb2⟩
  have HQ2 := hide ((unhide HQ).below hb2)
  have HS2 := hide ((unhide HS).s.below hb2)
  clear hb2 c0 c1 c2 c3 HQ HS
  obtain ⟨c0, c1, c2, c3⟩ := (unhide HQ2).v.cells
  obtain ⟨r0, r1, r2, r3⟩ := (unhide HQ2).r.cells
  obtain ⟨z0, z1, z2, z3⟩ := (unhide HQ2).r.free
  by_cases hf : imFind m name < m.snaps.length
  case neg =>
    have HX : Hid (R = (m, 5)) := hide ((unhide HR).trans (revert_none hf))
    have HF := hide (unhide HQ2).fin
    rw [show fdI m name = -1 from if_neg hf]
    clear hf
    go_wp2
    refine bodyPost_ret (res_ic Try.results69 rfl rfl (unhide HF).1) rfl ?_
    rw [unhide HX]
    exact AnsI.of (R := (m, 5)) rfl rfl (unhide HF).2.1 (unhide HF).2.2
  rw [show fdI m name = (imFind m name : Int) from if_pos hf]
  obtain ⟨q, hq⟩ : ∃ q, imFind m name = q := ⟨_, rfl⟩
  have hql : q < m.snaps.length := by omega
  obtain ⟨t, ht⟩ : ∃ t, m.snaps[q].table = t := ⟨_, rfl⟩
  have HX : Hid (R = ({ imDrops (imRaise m t) m.table with table := t }, 0)) := hide (by rw [← ht]; exact (unhide HR).trans (revert_at hql hq))
  rw [hq]
  clear hf hq HR
  obtain ⟨bs, off, tq, tc, es, _, ht0, hIs, _, _⟩ := (unhide HS2) q hql
  have ES := hide es
  have HTB : Hid (tbB t = true) := hide (by rw [← ht]; exact unhide HTS _ (List.getElem_mem hql))
  rw [ht] at hIs ht0
  have HT := hide ht
  have HTI := hide hIs
  have hqi : (q : Int) < (m.snaps.length : Int) := by omega
  have HQL := hide hql
  clear hIs ht
  clear r0 r1 r2 r3 z0 z1 z2 z3
  have hS0 : VarM w2.drew w.heap.size 29 (.slice b.ro m.refs.length b.rc) (.slice b.tq m.table.length b.tc) (.slice (some ⟨bs, off, none⟩) m.snaps.length b.sc) (.slice b.dq m.data.length b.dc) ∧ w2.drew.cell? ⟨bs, off + q * 2 + 1, none⟩ = some (.slice tq t.length tc) := ⟨by rw [← es]; exact (unhide HQ2).v.below (Below.refl _ _).drew, ht0⟩
  clear c0 c1 c2 c3 es
  go_upto_region 5 with fail
  refine wp_region_ord (fun w' => VarM w' w.heap.size 29 (.slice b.ro m.refs.length b.rc) (.slice b.tq m.table.length b.tc) (.slice (some ⟨bs, off, none⟩) m.snaps.length b.sc) (.slice b.dq m.data.length b.dc) ∧ w'.cell? ⟨bs, off + q * 2 + 1, none⟩ = some (.slice tq t.length tc)) [0, 1, 2, 3, 4, 5, 6] [(0, 0), (1, 0), (2, 0), (3, 0), (4, 0), (5, 0), (6, 0), (7, 3), (8, 3)] (by kernel_rfl) (by kernel_rfl) rfl (by kernel_rfl) ?_
  refine ord_read (.agg #[.slice b.ro m.refs.length b.rc, .slice b.tq m.table.length b.tc, .slice (some ⟨bs, off, none⟩) m.snaps.length b.sc, .slice b.dq m.data.length b.dc]) rfl rfl hS0 (fun W hW => by obtain ⟨k0, k1, k2, k3⟩ := hW.1.cells; go_simp) ?_
  refine ord_read (.pointer (some ⟨w.heap.size, 2, none⟩)) rfl rfl hS0 (fun W hW => by go_simp) ?_
  refine ord_read (.slice (some ⟨bs, off, none⟩) m.snaps.length b.sc) rfl rfl hS0 (fun W hW => by obtain ⟨k0, k1, k2, k3⟩ := hW.1.cells; go_simp) ?_
  refine ord_read (.int .i64 q) rfl rfl hS0 (fun W hW => by go_simp) ?_
  refine ord_read (.pointer (some ⟨bs, off + q * 2, none⟩)) rfl rfl hS0 (fun W hW => by go_simp) ?_
  refine ord_read (.pointer (some ⟨bs, off + q * 2 + 1, none⟩)) rfl rfl hS0 (fun W hW => by go_simp) ?_
  refine ord_read (.slice tq t.length tc) rfl rfl hS0 (fun W hW => by have k0 := hW.2; go_simp) ?_
  have HAG : Hid (Value.agg #[.slice b.ro m.refs.length b.rc, .slice b.tq m.table.length b.tc, .slice (some ⟨bs, off, none⟩) m.snaps.length b.sc, .slice b.dq m.data.length b.dc] = imV b m) := hide (by rw [imV, unhide ES])
  clear hS0 ht0
  refine ord_alone rfl rfl ?_
  intro K hK
  unfold Oper.wp
  go_simp
  rw [unhide HAG]
  refine (l10Raise_any b m ts (w.heap.size + 2) tq tc t _ (unhide HM).r (fun c hc => by have := (unhide HM).rv c hc; omega) (unhide HTB) ((unhide HTI).below (Below.refl _ _).drew) ((unhide HQ2).o.below (Below.refl _ _).drew)).mono ?_
  rintro e w3 ⟨rfl, ho3, hk3⟩
  have HQ3 := hide (((unhide HQ2).below (Below.refl _ _).drew).turn hk3 ho3 (cnt1T_len t m.refs) rfl rfl rfl)
  have HQ4 := hide (unhide HQ3).again
  unfold putI at HQ4
  refine hK _ _ ?_
  clear hK K ho3 hk3
  obtain ⟨c0, c1, c2, c3⟩ := (unhide HQ3).v.cells
  obtain ⟨z0, z1, z2, z3⟩ := (unhide HQ3).v.free
  refine ord_alone rfl rfl ?_
  intro K hK
  unfold Oper.wp
  go_simp
  refine hK _ _ ?_
  clear hK K
  refine ord_done ?_
  clear c0 c1 c2 c3 z0 z1 z2 z3 HQ3
  revert HQ4
  generalize (((w3.setCell _ _).setCell _ _).setCell _ _).setCell _ _ = W4
  intro HQ4
  have HBD := hide (raise_bd (unhide HM) (unhide HTB))
  have ht12 := unhide HTL
  clear HQ2 HS2 HTI HAG ES
  go_wp2
  go_loopw [7] (fun i wr => ∃ k : Nat, k ≤ m.table.length ∧ i = .int .i64 k ∧ Hid (ImQ w wr (w.heap.size + 2) b m (rvD m t k) ts) ∧ Hid (RvB (rvD m t k) k)) (fun i _ => m.table.length - (intOf i).toNat)
  case atStart => exact ⟨0, Nat.zero_le _, rfl, by rw [rvD_start]; exact HQ4, by rw [rvD_start]; exact HBD⟩
  case round =>
    clear HQ4 HBD
    obtain ⟨k, hk, rfl, HQ, HB⟩ := hrel
    obtain ⟨c0, c1, c2, c3⟩ := (unhide HQ).v.cells
    by_cases hlt : k < m.table.length
    · have hlti : (k : Int) < (m.table.length : Int) := by omega
      have HSU := hide (rvD_succ t hlt)
      have HTE : Hid ((rvD m t k).table = m.table) := hide (rvD_same m t k).1
      have HLS : Hid ((rvD m t k).refs.length = 24 ∧ (rvD m t k).data.length = 24) := hide ⟨(unhide HQ).e1.trans (unhide HM).r, (unhide HQ).e4.trans (unhide HM).d⟩
      have HTV := hide ((unhide HM).tv k hlt)
      have HBN : Hid (RvB (imDrop (rvD m t k) m.table[k]) ((k + 1 : Nat) : Int)) := hide (by
        have := (unhide HB).drop (by omega) m.table[k]
        rwa [show (k : Int) + 1 = ((k + 1 : Nat) : Int) by omega] at this)
      obtain ⟨gt, et, hct, _, _⟩ := (unhide HQ).setT (c := k) (by rw [unhide HTE]; exact hlt)
      have hct' : wr.cell? ⟨gt, k, none⟩ = some (.int .i64 m.table[k]) := by rw [hct]; simp only [unhide HTE]
      have ET := hide et
      clear hct
      rw [← unhide HSU] at HBN
      have HK64 := hide (unhide HTL)
      go_upto_region 9 with fail
      clear c0 c1 c2 c3
      have hS0 : VarM wr.drew w.heap.size 29 (.slice b.ro m.refs.length b.rc) (.slice (some ⟨gt, 0, none⟩) m.table.length b.tc) (.slice b.so m.snaps.length b.sc) (.slice b.dq m.data.length b.dc) ∧ wr.drew.cell? ⟨gt, k, none⟩ = some (.int .i64 m.table[k]) := ⟨by rw [← et]; exact (unhide HQ).v.below (Below.refl _ _).drew, hct'⟩
      clear hct' et
      have HTG : Hid (∃ T, T = m.table[k]) := hide ⟨_, rfl⟩
      have HDROP : Hid (Calls Try.prog 75 #[.agg #[.slice b.ro m.refs.length b.rc, .slice (some ⟨gt, 0, none⟩) m.table.length b.tc, .slice b.so m.snaps.length b.sc, .slice b.dq m.data.length b.dc], .int .i64 m.table[k]] wr.drew fun e w' => e = .returned (.agg #[.slice b.ro m.refs.length b.rc, .slice (some ⟨gt, 0, none⟩) m.table.length b.tc, .slice b.so m.snaps.length b.sc, .slice b.dq m.data.length b.dc]) ∧ ImQ w w' (w.heap.size + 2) b m (rvD m t (k + 1)) ts) := hide (by
        have h := (unhide HQ).below (Below.refl wr.heap.size wr).drew
        have hv : imV b (rvD m t k) = .agg #[.slice b.ro m.refs.length b.rc, .slice (some ⟨gt, 0, none⟩) m.table.length b.tc, .slice b.so m.snaps.length b.sc, .slice b.dq m.data.length b.dc] := by rw [← h.val, imV, unhide ET]
        rw [← hv]
        refine (l10Drop_M b (rvD m t k) ts (w.heap.size + 2) m.table[k] _ (unhide HTV).1 (unhide HTV).2 (unhide HLS).1 (unhide HLS).2 (fun c hc => by have := unhide HB c hc; have := unhide HTL; omega) h.o).mono ?_
        rintro e w2 ⟨rfl, ho2, hk2'⟩
        rw [unhide HSU]
        exact ⟨rfl, h.turn hk2' ho2 (imDrop_lens _ _).1 (imDrop_lens _ _).2.1 (imDrop_lens _ _).2.2.1 (imDrop_lens _ _).2.2.2⟩)
      clear HTE HLS HTV HSU HTG
      generalize m.table[k] = T at *
      refine wp_region_ord (fun w' => VarM w' w.heap.size 29 (.slice b.ro m.refs.length b.rc) (.slice (some ⟨gt, 0, none⟩) m.table.length b.tc) (.slice b.so m.snaps.length b.sc) (.slice b.dq m.data.length b.dc) ∧ w'.cell? ⟨gt, k, none⟩ = some (.int .i64 T)) [0, 1, 2, 3, 4, 5] [(0, 0), (1, 0), (2, 0), (3, 0), (4, 0), (5, 0), (6, 3), (7, 3)] (by kernel_rfl) (by kernel_rfl) rfl (by kernel_rfl) ?_
      refine ord_read (.agg #[.slice b.ro m.refs.length b.rc, .slice (some ⟨gt, 0, none⟩) m.table.length b.tc, .slice b.so m.snaps.length b.sc, .slice b.dq m.data.length b.dc]) rfl rfl hS0 (fun W hW => by obtain ⟨k0, k1, k2, k3⟩ := hW.1.cells; go_simp) ?_
      refine ord_read (.pointer (some ⟨w.heap.size, 1, none⟩)) rfl rfl hS0 (fun W hW => by go_simp) ?_
      refine ord_read (.slice (some ⟨gt, 0, none⟩) m.table.length b.tc) rfl rfl hS0 (fun W hW => by obtain ⟨k0, k1, k2, k3⟩ := hW.1.cells; go_simp) ?_
      refine ord_read (.int .i64 k) rfl rfl hS0 (fun W hW => by go_simp) ?_
      refine ord_read (.pointer (some ⟨gt, k, none⟩)) rfl rfl hS0 (fun W hW => by go_simp) ?_
      refine ord_read (.int .i64 T) rfl rfl hS0 (fun W hW => by have k0 := hW.2; go_simp) ?_
      clear hS0
      refine ord_alone rfl rfl ?_
      intro K hK
      unfold Oper.wp
      go_simp
      refine (unhide HDROP).mono ?_
      rintro e w2 ⟨rfl, hq2⟩
      have HQ3 := hide hq2
      have HQ4 := hide hq2.again
      unfold putI at HQ4
      rw [unhide ET] at HQ4
      refine hK _ _ ?_
      clear hK K hq2
      obtain ⟨c0, c1, c2, c3⟩ := (unhide HQ3).v.cells
      obtain ⟨z0, z1, z2, z3⟩ := (unhide HQ3).v.free
      refine ord_alone rfl rfl ?_
      intro K hK
      unfold Oper.wp
      go_simp
      refine hK _ _ ?_
      clear hK K
      refine ord_done ?_
      clear c0 c1 c2 c3 z0 z1 z2 z3 HQ3 HDROP HQ HB
      revert HQ4
      generalize (((w2.setCell _ _).setCell _ _).setCell _ _).setCell _ _ = W4
      intro HQ4
      go_wp2
      go_roundw
      case rel => exact ⟨k + 1, by omega, by go_num, HQ4, HBN⟩
      case measure => simp [intOf]; omega
    · obtain rfl : k = m.table.length := by omega
      have HD : Hid (rvD m t m.table.length = imDrops (imRaise m t) m.table) := hide (rvD_all m t)
      have HSN : Hid (Sns wr b.so m.snaps) := hide (by
        have := ((unhide HQ).o.shows (by rw [(rvD_same m t m.table.length).2]; exact (unhide HM).zs)).s
        rwa [(rvD_same m t m.table.length).2] at this)
      obtain ⟨bs, off, tq, tc, es, _, ht0, hIs, _, _⟩ := (unhide HSN) q (unhide HQL)
      rw [unhide HT] at ht0 hIs
      rw [es] at c2
      have HIS := hide hIs
      have HTL2 : Hid (t.length ≤ 12) := hide (tbB_len (unhide HTB))
      clear hIs HSN es HB
      rw [unhide HD] at HQ
      generalize imDrops (imRaise m t) m.table = D at *
      have hx1 := (unhide HQ).v.lt
      have hx2 := World.block_lt_of_cell? _ _ ht0
      have hb5 := Joins.below_alloc1 wr (.cells #[] 3)
      have HQ5 := hide ((unhide HQ).below hb5)
      have HI5 := hide ((unhide HIS).below hb5)
      clear hb5
      go_upto_region 11 with (at_builtin; refine wpList_append_fresh rfl _ _ 22 rfl 3 i0 (.int .i64 0) 1 8 Try.underlying22 hi0 hz0 hz1 hz2 rfl (by omega) rfl tq t.length tc (intV t) rfl (by rw [intV_length]; omega) (Is.srcI (unhide HI5)) (by have := unhide HTL2; unfold maxLen; omega) (by have := unhide HTL2; omega) ?_; intro qo qa w6 ho6 hg6; have HB6 := hide (belowGr (Below.refl _ _) hg6); have HO6 := hide ho6; clear ho6 hg6; have HQ6 := hide ((unhide HQ5).below (unhide HB6)); obtain ⟨c0, c1, c2, c3⟩ := (unhide HQ6).v.cells; obtain ⟨z0, z1, z2, z3⟩ := (unhide HQ6).v.free)
      have HON := hide ((unhide HQ5).o.newT (unhide HB6) (OwnN.mk' (unhide HO6) rfl) rfl (by have := (unhide HQ5).r.lt; omega))
      have HQ7 : Hid (ImQ w (w6.setCell ⟨w.heap.size, 1, none⟩ (.slice qo t.length qa)) (w.heap.size + 2) { b with tq := qo, tc := qa } { m with table := t } { D with table := t } ts) := hide
        ⟨(unhide HQ6).v.set1 _, (unhide HQ6).r.other (p := ⟨w.heap.size, 1, none⟩) (by simp) _, (unhide HON).setCell (p := ⟨w.heap.size, 1, none⟩) (by simp) _, (unhide HQ6).b.setCell (p := ⟨w.heap.size, 1, none⟩) (Nat.le_refl _) _, (unhide HQ6).hB, (unhide HQ6).e1, rfl, (unhide HQ6).e3, (unhide HQ6).e4⟩
      clear c0 c1 c2 c3 z0 z1 z2 z3 ht0 hx1 hx2
      revert HQ7
      generalize (w6.setCell _ _) = W7
      intro HQ7
      have HF := hide (unhide HQ7).fin
      obtain ⟨c0, c1, c2, c3⟩ := (unhide HQ7).v.cells
      obtain ⟨r0, r1, r2, r3⟩ := (unhide HQ7).r.cells
      obtain ⟨z0, z1, z2, z3⟩ := (unhide HQ7).r.free
      go_wp2
      refine bodyPost_ret (res_ic Try.results69 rfl rfl (unhide HF).1) rfl ?_
      rw [unhide HX]
      exact AnsI.of (R := ({ D with table := t }, 0)) (unhide HQ7).val rfl (unhide HF).2.1 (unhide HF).2.2

end Go.Proofs.Ytjoafbkcnnhdiac
