import Derived.Test.YtpdpnepnfhbonaaGreatRows
import Derived.Test.YtpdpnepnfhbonaaGreatXReqDoPart6
import Derived.Test.YtpdpnepnfhbonaaGreatXReqDoPart5
import Derived.Test.YtpdpnepnfhbonaaGreatXReqDoPart8
import Derived.Test.YtpdpnepnfhbonaaGreatXReqDoPart12
import Derived.Test.YtpdpnepnfhbonaaGreatXReqDoPart7
import Derived.Test.YtpdpnepnfhbonaaGreatXReqDoPart13
import Derived.WalkKit
import Derived.WalkSpells
import Derived.KernelRfl
import Derived.LoopN
import Derived.Laws.OwnMore
import Derived.Laws.IdiomCopy
import Derived.Test.YtpdpnepnfhbonaaGreatXReqDoPart9
import Derived.Test.YtpdpnepnfhbonaaGreatXReqDoPart10
import Derived.Test.YtpdpnepnfhbonaaGreatXReqDoPart11
import Derived.Test.YtpdpnepnfhbonaaGreatXReqDoPart1
import Derived.Test.YtpdpnepnfhbonaaGreatXReqDoPart4
import Derived.Test.YtpdpnepnfhbonaaGreatXReqDoPart2
import Derived.Test.YtpdpnepnfhbonaaGreatXReqDoPart3
import Derived.BigQuiet
import Derived.Deep.QuietTactic
import Derived.Deep.RegionWith
import Derived.Deep.RegionHeld3

namespace Go.Proofs.YtpdpnepnfhbonaaGreat
open Go.RowKit
set_option linter.unusedVariables false
set_option maxRecDepth 100000

section
variable {P : Program}
theorem run_append_zero (w : World) (t ty e : TypeId) (i : TypeInfo) (ht : P.underlying t = some (.slice e)) (hi : P.info? e = some i) (d so : Option Addr) (n cap c : Nat) (hle : n ≤ cap) :
    (Builtin.append_ #[t, t] ty #[.slice d n cap, .slice so 0 c]).run P w = .ok (.slice d n cap) w := by
  have hl : ∀ (x : Addr), (loadCells x 0).run P w = .ok #[] w := fun x => by simpa using run_loadCells_list (P := P) w x [] (by simp)
  cases d <;> cases so <;> simp [Builtin.append_, run_underlying ht, sizeOf, typeInfo, hi, Builtin.lenOf, Builtin.firstCells, storeCells, hl, hle]
theorem OwnR.cap {w : World} {B e size n c : Nat} {ao : Option Addr} {xs : List Value} (h : OwnR w B e size (.slice ao n c) n xs) : n ≤ c := by
  rcases h with ⟨h0, _, ao', hv⟩ | ⟨h0, h⟩
  · omega
  · rcases h.2 with ⟨_, e0⟩ | ⟨g, cap, cur, e0, _, _, h1, _⟩
    · omega
    · cases e0
      exact h1
theorem wp_append_any {w : World} {o : Oper} {a : Act} {K : Act → World → Prop} {Q : Exit → Act → World → Prop} (hgd : o.guard = none) (s x : Operand) (t : TypeId)
    (ho : o.op = .call { callee := .builtin .append, args := #[s, x], argTypes := #[t, t] })
    (B : Nat) (e : TypeId) (i : TypeInfo) (z : Value) (size bytes : Nat) (ht : P.underlying t = some (.slice e)) (hi : P.info? e = some i) (hz : i.zero = some z)
    (hsize : i.size = size) (hby : i.bytes = bytes) (hzs : z.cells.size = size) (hsz : 0 < size)
    (qo : Option Addr) (n cap : Nat) (xs : List Value) (hs : a.eval s = .slice qo n cap) (h : OwnR w B e size (.slice qo n cap) n xs) (hB : B ≤ w.heap.size)
    (so : Option Addr) (m c : Nat) (news : List Value) (hx : a.eval x = .slice so m c) (hl : news.length = m * size) (hnews : 0 < m → ∃ ad, so = some ad ∧ ∀ j u, news[j]? = some u → w.cell? (ad.add j) = some u) (h1 : ∀ u ∈ news, u.oneCell' = true)
    (b1 : n + m ≤ maxLen) (b2 : (n + m) * bytes ≤ 140737488355328)
    (hK : ∀ ao cap' w', OwnR w' B e size (.slice ao (n + m) cap') (n + m) (xs ++ news) → Keep (Own (.slice qo n cap)) w w' → K (a.put o.dst (.slice ao (n + m) cap')) w') : o.wp P a w K Q := by
  by_cases hm : 0 < m
  · obtain ⟨ad, rfl, hnew⟩ := hnews hm
    obtain ⟨g, cap', w', hrun, r1, r2⟩ := run_append_many (P := P) w B t o.type e i z size bytes ht hi hz hsize hby hzs hsz qo n cap xs h hB ad m c news hm hl hnew h1 b1 b2
    unfold Oper.wp
    simp [execOp, ho, resolve, invoke, builtin, hs, hx, hrun, Result.andThen]
    exact hK _ _ _ (.inr ⟨by omega, r1⟩) r2
  · obtain rfl : m = 0 := by omega
    have hn : news = [] := List.eq_nil_of_length_eq_zero (by omega)
    subst hn
    have hrun := run_append_zero (P := P) w t o.type e i ht hi qo so n cap c h.cap
    unfold Oper.wp
    simp [execOp, ho, resolve, invoke, builtin, hs, hx, hrun, Result.andThen]
    exact hK _ _ _ (by simpa using h) (Keep.refl _ _)
end

theorem OwnA.sub {w : World} {B : Nat} {rs qs : List (Value × List Int)} (h : OwnA w B rs) (hs : qs.Sublist rs) : OwnA w B qs := ⟨fun r hr => h.own r (hs.subset hr), h.apart.sublist hs⟩
theorem zip_erase {α β : Type} : ∀ (xs : List α) (ys : List β) (k : Nat), (xs.eraseIdx k).zip (ys.eraseIdx k) = (xs.zip ys).eraseIdx k
  | [], ys, k => by simp
  | x :: xs, [], k => by simp
  | x :: xs, y :: ys, 0 => rfl
  | x :: xs, y :: ys, k + 1 => by simp only [List.eraseIdx_cons_succ, List.zip_cons_cons, zip_erase xs ys k]
theorem map_tabs_erase : ∀ (ss : List Snp) (k : Nat), (ss.eraseIdx k).map (·.table) = (ss.map (·.table)).eraseIdx k
  | [], k => by simp
  | s :: ss, 0 => rfl
  | s :: ss, k + 1 => by simp only [List.eraseIdx_cons_succ, List.map_cons, map_tabs_erase ss k]
theorem snC_append : ∀ (ss : List Snp) (ts : List Value) (ss' : List Snp) (ts' : List Value), ss.length = ts.length → snC (ss ++ ss') (ts ++ ts') = snC ss ts ++ snC ss' ts'
  | [], [], ss', ts', _ => rfl
  | a :: ss, b :: ts, ss', ts', h => by
    have := snC_append ss ts ss' ts' (by simpa using h)
    simp only [List.cons_append, snC, this]
theorem snC_erase (ss : List Snp) (ts : List Value) (q : Nat) (h : ss.length = ts.length) : snC (ss.eraseIdx q) (ts.eraseIdx q) = snC (ss.take q) (ts.take q) ++ snC (ss.drop (q + 1)) (ts.drop (q + 1)) := by
  rw [List.eraseIdx_eq_take_drop_succ, List.eraseIdx_eq_take_drop_succ, snC_append _ _ _ _ (by rw [List.length_take, List.length_take, h])]
theorem snC_whole (ss : List Snp) (ts : List Value) (q : Nat) (h : ss.length = ts.length) : snC ss ts = snC (ss.take q) (ts.take q) ++ snC (ss.drop q) (ts.drop q) := by
  rw [← snC_append _ _ _ _ (by rw [List.length_take, List.length_take, h]), List.take_append_drop, List.take_append_drop]
theorem OwnIm.delS {w w' : World} {B q n sc' : Nat} {so' : Option Addr} {a : Im4} {m : Img} {ts : List Value} (h : OwnIm w B a m ts) (hq : q < m.snaps.length) (hB : B ≤ w.heap.size) (hb : Below w.heap.size w w') (hn : (m.snaps.eraseIdx q).length = n)
    (ho : OwnS w' w.heap.size 83 2 (.slice so' n sc') n (snC (m.snaps.eraseIdx q) (ts.eraseIdx q))) : OwnIm w' B { a with so := so', sc := sc' } { m with snaps := m.snaps.eraseIdx q } (ts.eraseIdx q) := by
  refine ⟨by simp only [List.length_eraseIdx, h.len], ?_, ?_⟩
  · show OwnS w' B 83 2 (.slice so' (m.snaps.eraseIdx q).length sc') (m.snaps.eraseIdx q).length _
    rw [hn]
    exact ho.base hB
  · refine (h.rows.below hb).sub ?_
    show List.Sublist ((.slice a.ro m.refs.length a.rc, m.refs) :: (.slice a.tq m.table.length a.tc, m.table) :: (.slice a.dq m.data.length a.dc, m.data) :: (ts.eraseIdx q).zip ((m.snaps.eraseIdx q).map (·.table))) ((.slice a.ro m.refs.length a.rc, m.refs) :: (.slice a.tq m.table.length a.tc, m.table) :: (.slice a.dq m.data.length a.dc, m.data) :: ts.zip (m.snaps.map (·.table)))
    rw [map_tabs_erase, zip_erase]
    exact ((List.eraseIdx_sublist _ _).cons_cons _).cons_cons _ |>.cons_cons _

def dlD (m : Img) (t : List Int) (k : Nat) : Img := imDrops m (t.take k)
theorem dlD_start (m : Img) (t : List Int) : dlD m t 0 = m := rfl
theorem dlD_succ (m : Img) {t : List Int} {k : Nat} (hk : k < t.length) : dlD m t (k + 1) = imDrop (dlD m t k) t[k] := by
  unfold dlD imDrops
  rw [List.take_succ_eq_append_getElem hk, List.foldl_append]; rfl
theorem dlD_all (m : Img) (t : List Int) : dlD m t t.length = imDrops m t := by rw [dlD, List.take_length]
theorem dlD_same (m : Img) (t : List Int) (k : Nat) : (dlD m t k).table = m.table ∧ (dlD m t k).snaps = m.snaps := ⟨(imDrops_same _ m).1, (imDrops_same _ m).2.1⟩
theorem delete_none {m : Img} {name : ByteArray} (hf : ¬ imFind m name < m.snaps.length) : imDelete m name = (m, 5) := if_neg hf
theorem delete_at {m : Img} {name : ByteArray} {q : Nat} (hq : q < m.snaps.length) (e : imFind m name = q) : imDelete m name = ({ imDrops m m.snaps[q].table with snaps := m.snaps.eraseIdx q }, 0) := by
  have hf : imFind m name < m.snaps.length := by omega
  rw [imDelete, if_pos hf, e, List.getElem?_eq_getElem hq]; rfl
theorem ImM.bd {m : Img} (h : ImM m) : RvB m 0 := fun c hc => by have := h.rv c hc; omega
theorem ownSn_cells {w : World} {B g cap : Nat} {ss : List Snp} {ts : List Value} (hl : ss.length = ts.length) (h : w.ownsRow B 83 2 (.slice (some ⟨g, 0, none⟩) ss.length cap) ss.length (snC ss ts)) (q : Nat) : ∀ j u, (snC (ss.drop q) (ts.drop q))[j]? = some u → w.cell? ((⟨g, q * 2, none⟩ : Addr).add j) = some u := fun j u hu => by
  have hq : q ≤ ss.length ∨ ss.length < q := by omega
  rcases hq with hq | hq
  · have e := snC_whole ss ts q hl
    have hl1 : (snC (ss.take q) (ts.take q)).length = q * 2 := by
      rw [snC_length _ _ (by rw [List.length_take, List.length_take, hl]), List.length_take]; omega
    have hx : (snC ss ts)[q * 2 + j]? = some u := by
      rw [e, List.getElem?_append_right (by omega), hl1, show q * 2 + j - q * 2 = j by omega]; exact hu
    have hlt := (List.getElem?_eq_some_iff.1 hx).1
    rw [snC_length _ _ hl] at hlt
    have := h.cellAt (q * 2 + j) hlt
    rw [hx] at this
    have e2 : (⟨g, q * 2, none⟩ : Addr).add j = ⟨g, q * 2 + j, none⟩ := by
      unfold Addr.add
      split
      · rename_i hj; rw [hj]; rfl
      · rfl
    rw [e2]
    exact this
  · rw [List.drop_eq_nil_of_le (by omega)] at hu
    simp [snC] at hu
theorem ownSn_take {w : World} {B g cap : Nat} {ss : List Snp} {ts : List Value} (hl : ss.length = ts.length) (h : w.ownsRow B 83 2 (.slice (some ⟨g, 0, none⟩) ss.length cap) ss.length (snC ss ts)) (q : Nat) : ∀ j u, (snC (ss.take q) (ts.take q))[j]? = some u → w.cell? ((⟨g, 0, none⟩ : Addr).add j) = some u := fun j u hu => by
  have h0 := ownSn_cells hl h 0 j u
  rw [List.drop_zero, List.drop_zero, Nat.zero_mul] at h0
  refine h0 ?_
  rw [snC_whole ss ts q hl, List.getElem?_append_left (List.getElem?_eq_some_iff.1 hu).1]
  exact hu
theorem ownSn_one {w : World} {B : Nat} {ts : List Value} {ss : List Snp} (h : ∀ t ∈ ts, ∃ xs, OwnN w B t xs) : ∀ u ∈ snC ss ts, u.oneCell' = true := by
  induction ss generalizing ts with
  | nil => intro u hu; cases ts <;> simp [snC] at hu
  | cons s ss ih =>
    intro u hu
    cases ts with
    | nil => simp [snC] at hu
    | cons t ts =>
      simp only [snC, List.mem_cons] at hu
      rcases hu with rfl | rfl | hu
      · rfl
      · obtain ⟨xs, ao, cap, rfl, _⟩ := h u (by simp)
        rfl
      · exact ih (fun t ht => h t (by simp [ht])) u hu
theorem OwnIm.tabsOwn {w : World} {B : Nat} {a : Im4} {m : Img} {ts : List Value} (h : OwnIm w B a m ts) : ∀ t ∈ ts, ∃ xs, OwnN w B t xs := fun t ht => by
  obtain ⟨i, hi, rfl⟩ := List.mem_iff_getElem.1 ht
  have hi2 : i < (m.snaps.map (·.table)).length := by rw [List.length_map, h.len]; exact hi
  refine ⟨(m.snaps.map (·.table))[i], h.rows.own (ts[i], (m.snaps.map (·.table))[i]) ?_⟩
  simp only [imRows]
  refine List.mem_cons_of_mem _ (List.mem_cons_of_mem _ (List.mem_cons_of_mem _ ?_))
  rw [List.mem_iff_getElem]
  exact ⟨i, by rw [List.length_zip]; omega, by simp⟩

set_option maxHeartbeats 3200000 in
theorem l10Delete_R (a : Im4) (m : Img) (name : ByteArray) (R : Img × Int) (w : World) (hR : R = imDelete m name) (hM : ImM m) (hc : ImS w a m) :
    Calls Tryz.prog 77 #[imV a m, .string name] w fun e w' => AnsI w w' e R := by
  have HE := hide (ImE.new w a m hc)
  have HM := hide hM
  have HR := hide hR
  clear hc hM hR
  obtain ⟨j0, hj0, hy0, hy1, hy2⟩ := info_parts infoSn
  go_enter Tryz.func77, Tryz.ntmps77
  go_upto_region 1 with fail
  revert HE
  generalize ((w.alloc _).alloc _) = W0
  intro HE
  obtain ⟨c0, c1, c2, c3⟩ := (unhide HE).v.cells
  go_wp2_with fail
  refine (l10Own_M a m _ (unhide HM) (unhide HE).s).mono ?_
  rintro e w1 ⟨b, ts, rfl, ho, hb⟩
  have HQ := hide (ImQ.put (w := w) ((unhide HE).v.below hb) ((unhide HE).r.below hb) (ho.base (B' := w.heap.size + 2) (by have := (unhide HE).r.lt; omega)) (fr (unhide HE).b hb) (Nat.le_refl _) (m0 := m) rfl rfl rfl rfl)
  unfold putI at HQ
  obtain ⟨x0, x1, x2, x3⟩ := ((unhide HE).v.below hb).cells
  obtain ⟨z0, z1, z2, z3⟩ := ((unhide HE).v.below hb).free
  clear c0 c1 c2 c3 ho hb HE
  go_upto_region 2 with fail
  clear x0 x1 x2 x3 z0 z1 z2 z3
  revert HQ
  generalize (((w1.setCell _ _).setCell _ _).setCell _ _).setCell _ _ = W1
  intro HQ
  have HS : Hid (ImS W1 b m) := hide ((unhide HQ).o.shows (unhide HM).zs)
  obtain ⟨c0, c1, c2, c3⟩ := (unhide HQ).v.cells
  go_wp2_with fail
  refine (l10Find_any b m name _ (by have := (unhide HM).s; omega) (unhide HS).s).mono ?_
  rintro e w2 ⟨rfl, hb2⟩
  have HQ2 := hide ((unhide HQ).below hb2)
  clear hb2 c0 c1 c2 c3 HQ HS
  obtain ⟨c0, c1, c2, c3⟩ := (unhide HQ2).v.cells
  obtain ⟨r0, r1, r2, r3⟩ := (unhide HQ2).r.cells
  obtain ⟨z0, z1, z2, z3⟩ := (unhide HQ2).r.free
  by_cases hf : imFind m name < m.snaps.length
  case neg =>
    have HX : Hid (R = (m, 5)) := hide ((unhide HR).trans (delete_none hf))
    have HF := hide (unhide HQ2).fin
    rw [show fdI m name = -1 from if_neg hf]
    clear hf
    go_wp2
    refine bodyPost_ret (res_ic Tryz.results77 rfl rfl (unhide HF).1) rfl ?_
    rw [unhide HX]
    exact AnsI.of (R := (m, 5)) rfl rfl (unhide HF).2.1 (unhide HF).2.2
  rw [show fdI m name = (imFind m name : Int) from if_pos hf]
  obtain ⟨q, hq⟩ : ∃ q, imFind m name = q := ⟨_, rfl⟩
  have hql : q < m.snaps.length := by omega
  obtain ⟨t, ht⟩ : ∃ t, m.snaps[q].table = t := ⟨_, rfl⟩
  have HX : Hid (R = ({ imDrops m t with snaps := m.snaps.eraseIdx q }, 0)) := hide (by rw [← ht]; exact (unhide HR).trans (delete_at hql hq))
  rw [hq]
  clear hf hq HR
  have hqi : (q : Int) < (m.snaps.length : Int) := by omega
  have hs3 := (unhide HM).s
  have HT := hide ht
  have HQL := hide hql
  have ht12 : t.length ≤ 12 := by rw [← ht]; exact ((unhide HM).st _ (List.getElem_mem hql)).1
  have HTV : Hid (∀ i (h : i < t.length), 0 ≤ t[i] ∧ t[i] ≤ 25) := hide (by rw [← ht]; exact (unhide HM).sv _ (List.getElem_mem hql))
  clear ht
  have HBD := hide (unhide HM).bd
  have HSN : Hid (∀ k wr, ImQ w wr (w.heap.size + 2) b m (dlD m t k) ts → Sns wr b.so m.snaps) := hide (fun k wr h => by
    have := (h.o.shows (by rw [(dlD_same m t k).2]; exact (unhide HM).zs)).s
    rwa [(dlD_same m t k).2] at this)
  clear c0 c1 c2 c3 r0 r1 r2 r3 z0 z1 z2 z3
  go_wp2
  go_loopw [7] (fun i wr => ∃ k : Nat, k ≤ t.length ∧ i = .int .i64 k ∧ Hid (ImQ w wr (w.heap.size + 2) b m (dlD m t k) ts) ∧ Hid (RvB (dlD m t k) k)) (fun i _ => t.length - (intOf i).toNat)
  case atStart => exact ⟨0, Nat.zero_le _, rfl, by rw [dlD_start]; exact HQ2, by rw [dlD_start]; exact HBD⟩
  case round =>
    clear HQ2 HBD
    obtain ⟨k, hk, rfl, HQ, HB⟩ := hrel
    obtain ⟨c0, c1, c2, c3⟩ := (unhide HQ).v.cells
    obtain ⟨bs, off, tq, tc, es, _, ht0, hIs, _, _⟩ := (unhide HSN k wr (unhide HQ)) q (unhide HQL)
    rw [unhide HT] at ht0 hIs
    by_cases hlt : k < t.length
    · have hlti : (k : Int) < (t.length : Int) := by omega
      obtain ⟨bt, ot, rfl, hct⟩ := hIs k hlt
      clear hIs
      have HSU := hide (dlD_succ m hlt)
      have HLS : Hid ((dlD m t k).refs.length = 24 ∧ (dlD m t k).data.length = 24) := hide ⟨(unhide HQ).e1.trans (unhide HM).r, (unhide HQ).e4.trans (unhide HM).d⟩
      have HTK := hide (unhide HTV k hlt)
      have HBN : Hid (RvB (imDrop (dlD m t k) t[k]) ((k + 1 : Nat) : Int)) := hide (by
        have := (unhide HB).drop (by omega) t[k]
        rwa [show (k : Int) + 1 = ((k + 1 : Nat) : Int) by omega] at this)
      have ES := hide es
      rw [← unhide HSU] at HBN
      have hS0 : VarM wr.drew w.heap.size 32 (.slice b.ro m.refs.length b.rc) (.slice b.tq m.table.length b.tc) (.slice (some ⟨bs, off, none⟩) m.snaps.length b.sc) (.slice b.dq m.data.length b.dc) ∧ wr.drew.cell? ⟨bs, off + q * 2 + 1, none⟩ = some (.slice (some ⟨bt, ot, none⟩) t.length tc) ∧ wr.drew.cell? ⟨bt, ot + k, none⟩ = some (.int .i64 t[k]) := ⟨by rw [← es]; exact (unhide HQ).v.below (Below.refl _ _).drew, ht0, hct⟩
      have HDROP : Hid (Calls Tryz.prog 115 #[.agg #[.slice b.ro m.refs.length b.rc, .slice b.tq m.table.length b.tc, .slice (some ⟨bs, off, none⟩) m.snaps.length b.sc, .slice b.dq m.data.length b.dc], .int .i64 t[k]] wr.drew fun e w' => e = .returned (.agg #[.slice b.ro m.refs.length b.rc, .slice b.tq m.table.length b.tc, .slice (some ⟨bs, off, none⟩) m.snaps.length b.sc, .slice b.dq m.data.length b.dc]) ∧ ImQ w w' (w.heap.size + 2) b m (dlD m t (k + 1)) ts) := hide (by
        have h := (unhide HQ).below (Below.refl wr.heap.size wr).drew
        have hv : imV b (dlD m t k) = .agg #[.slice b.ro m.refs.length b.rc, .slice b.tq m.table.length b.tc, .slice (some ⟨bs, off, none⟩) m.snaps.length b.sc, .slice b.dq m.data.length b.dc] := by rw [← h.val, imV, unhide ES]
        rw [← hv]
        refine (l10Drop_M b (dlD m t k) ts (w.heap.size + 2) t[k] _ (unhide HTK).1 (unhide HTK).2 (unhide HLS).1 (unhide HLS).2 (fun c hc => by have := unhide HB c hc; omega) h.o).mono ?_
        rintro e w2 ⟨rfl, ho2, hk2'⟩
        rw [unhide HSU]
        exact ⟨rfl, h.turn hk2' ho2 (imDrop_lens _ _).1 (imDrop_lens _ _).2.1 (imDrop_lens _ _).2.2.1 (imDrop_lens _ _).2.2.2⟩)
      rw [es] at c2
      clear HLS HTK HSU es
      go_upto_region 8 with fail
      clear c0 c1 c2 c3 ht0 hct
      generalize t[k] = T at *
      refine wp_region_ord (fun w' => VarM w' w.heap.size 32 (.slice b.ro m.refs.length b.rc) (.slice b.tq m.table.length b.tc) (.slice (some ⟨bs, off, none⟩) m.snaps.length b.sc) (.slice b.dq m.data.length b.dc) ∧ w'.cell? ⟨bs, off + q * 2 + 1, none⟩ = some (.slice (some ⟨bt, ot, none⟩) t.length tc) ∧ w'.cell? ⟨bt, ot + k, none⟩ = some (.int .i64 T)) [0, 1, 2, 3, 4, 5, 6, 7, 8, 9] [(0, 0), (1, 0), (2, 0), (3, 0), (4, 0), (5, 0), (6, 0), (7, 0), (8, 0), (9, 0), (10, 3), (11, 3)] (by kernel_rfl) (by kernel_rfl) rfl (by kernel_rfl) ?_
      refine ord_read (.agg #[.slice b.ro m.refs.length b.rc, .slice b.tq m.table.length b.tc, .slice (some ⟨bs, off, none⟩) m.snaps.length b.sc, .slice b.dq m.data.length b.dc]) rfl rfl hS0 (fun W hW => by obtain ⟨k0, k1, k2, k3⟩ := hW.1.cells; go_simp) ?_
      refine ord_read (.pointer (some ⟨w.heap.size, 2, none⟩)) rfl rfl hS0 (fun W hW => by go_simp) ?_
      refine ord_read (.slice (some ⟨bs, off, none⟩) m.snaps.length b.sc) rfl rfl hS0 (fun W hW => by obtain ⟨k0, k1, k2, k3⟩ := hW.1.cells; go_simp) ?_
      refine ord_read (.int .i64 q) rfl rfl hS0 (fun W hW => by go_simp) ?_
      refine ord_read (.pointer (some ⟨bs, off + q * 2, none⟩)) rfl rfl hS0 (fun W hW => by go_simp) ?_
      refine ord_read (.pointer (some ⟨bs, off + q * 2 + 1, none⟩)) rfl rfl hS0 (fun W hW => by go_simp) ?_
      refine ord_read (.slice (some ⟨bt, ot, none⟩) t.length tc) rfl rfl hS0 (fun W hW => by have k0 := hW.2.1; go_simp) ?_
      refine ord_read (.int .i64 k) rfl rfl hS0 (fun W hW => by go_simp) ?_
      refine ord_read (.pointer (some ⟨bt, ot + k, none⟩)) rfl rfl hS0 (fun W hW => by go_simp) ?_
      refine ord_read (.int .i64 T) rfl rfl hS0 (fun W hW => by have k0 := hW.2.2; go_simp) ?_
      clear hS0
      refine ord_alone rfl rfl ?_
      intro K hK
      unfold Oper.wp
      go_simp
      refine (unhide HDROP).mono ?_
      rintro e w2 ⟨rfl, hq2⟩
      have HQ3 := hide hq2
      have HQ4 := hide hq2.again
      unfold putI at HQ4
      rw [unhide ES] at HQ4
      refine hK _ _ ?_
      clear hK K hq2
      obtain ⟨c0, c1, c2, c3⟩ := (unhide HQ3).v.cells
      obtain ⟨z0, z1, z2, z3⟩ := (unhide HQ3).v.free
      refine ord_alone rfl rfl ?_
      intro K hK
      unfold Oper.wp
      go_simp
      refine hK _ _ ?_
      clear hK K
      refine ord_done ?_
      clear c0 c1 c2 c3 z0 z1 z2 z3 HQ3 HDROP HQ HB
      revert HQ4
      generalize (((w2.setCell _ _).setCell _ _).setCell _ _).setCell _ _ = W4
      intro HQ4
      go_wp2
      go_roundw
      case rel => exact ⟨k + 1, by omega, by go_num, HQ4, HBN⟩
      case measure => simp [intOf]; omega
    · obtain rfl : k = t.length := by omega
      rw [dlD_all] at HQ
      have HDS : Hid ((imDrops m t).snaps = m.snaps) := hide (imDrops_same t m).2.1
      have HROW := hide ((unhide HQ).o.s.toR (fun h => by rw [(unhide HQ).e3] at h; have := unhide HQL; omega))
      rw [unhide HDS] at HROW
      have HTO := hide (unhide HQ).o.tabsOwn
      have HLT : Hid (m.snaps.length = ts.length) := hide (by have := (unhide HQ).o.len; rwa [unhide HDS] at this)
      obtain ⟨g, cap0, cur0, e0, hg0, hgb⟩ := own_form (by omega) ((unhide HROW).row (by omega))
      obtain ⟨eso, rfl⟩ : b.so = some ⟨g, 0, none⟩ ∧ b.sc = cap0 := by simp only [Value.slice.injEq] at e0; exact ⟨e0.1, e0.2.2⟩
      rw [eso] at es
      cases es
      rw [Nat.zero_add] at ht0
      have HCAP := hide (unhide HROW).cap
      clear hIs hgb e0 HB
      rw [eso] at c2
      go_upto_region 9 with fail
      have hS0 : VarM wr.drew w.heap.size 32 (.slice b.ro m.refs.length b.rc) (.slice b.tq m.table.length b.tc) (.slice (some ⟨bs, 0, none⟩) m.snaps.length b.sc) (.slice b.dq m.data.length b.dc) := by rw [← eso]; exact (unhide HQ).v.below (Below.refl _ _).drew
      clear c0 c1 c2 c3 ht0
      rw [eso] at HROW
      have hcq : (q : Int) ≤ (b.sc : Int) := by have := unhide HCAP; omega
      have hc0 : ¬ b.sc = 0 := by have := unhide HCAP; omega
      have hw1 : IntKind.i64.wrap ((q : Int) + 1) = (q : Int) + 1 := by rw [IntKind.wrap_i64]; omega
      have hq1 : (q : Int) + 1 ≤ (m.snaps.length : Int) := by omega
      have h01 : (0 : Int) ≤ (q : Int) + 1 := by omega
      have htn : ((q : Int) + 1).toNat = q + 1 := by omega
      obtain ⟨so2, HSO⟩ : ∃ so2, Hid (so2 = if b.sc = q + 1 then some (⟨bs, 0, none⟩ : Addr) else some ⟨bs, (q + 1) * 2, none⟩) := ⟨_, hide rfl⟩
      refine wp_region_ord (fun w' => VarM w' w.heap.size 32 (.slice b.ro m.refs.length b.rc) (.slice b.tq m.table.length b.tc) (.slice (some ⟨bs, 0, none⟩) m.snaps.length b.sc) (.slice b.dq m.data.length b.dc)) [0, 1, 2, 3, 4, 5, 6, 7, 8, 9, 10, 11, 12] [(1, 0), (2, 0), (3, 0), (4, 0), (6, 0), (7, 0), (8, 0), (9, 0), (10, 0), (0, 2), (5, 2), (11, 2), (12, 0), (13, 3)] (by kernel_rfl) (by kernel_rfl) rfl (by kernel_rfl) ?_
      refine ord_read (.pointer (some ⟨w.heap.size, 2, none⟩)) rfl rfl hS0 (fun W hW => by go_simp) ?_
      refine ord_read (.slice (some ⟨bs, 0, none⟩) m.snaps.length b.sc) rfl rfl hS0 (fun W hW => by obtain ⟨k0, k1, k2, k3⟩ := hW.cells; go_simp) ?_
      refine ord_read (.int .i64 q) rfl rfl hS0 (fun W hW => by go_simp) ?_
      refine ord_read (.slice (some ⟨bs, 0, none⟩) q b.sc) rfl rfl hS0 (fun W hW => by go_simp) ?_
      refine ord_read (.pointer (some ⟨w.heap.size, 2, none⟩)) rfl rfl hS0 (fun W hW => by go_simp) ?_
      refine ord_read (.slice (some ⟨bs, 0, none⟩) m.snaps.length b.sc) rfl rfl hS0 (fun W hW => by obtain ⟨k0, k1, k2, k3⟩ := hW.cells; go_simp) ?_
      refine ord_read (.int .i64 q) rfl rfl hS0 (fun W hW => by go_simp) ?_
      refine ord_read (.int .i64 ((q : Int) + 1)) rfl rfl hS0 (fun W hW => by go_simp) ?_
      refine ord_read (.slice so2 (m.snaps.length - (q + 1)) (b.sc - (q + 1))) rfl rfl hS0 (fun W hW => by rw [unhide HSO]; go_simp) ?_
      have HN2 : Hid (0 < m.snaps.length - (q + 1) → so2 = some ⟨bs, (q + 1) * 2, none⟩) := hide (fun h => by
        rw [unhide HSO, if_neg (by have := unhide HCAP; omega)])
      have HNE : Hid ((m.snaps.eraseIdx q).length = q + (m.snaps.length - (q + 1))) := hide (by
        rw [List.length_eraseIdx, if_pos (unhide HQL)]; omega)
      refine ord_held rfl rfl ?_
      intro K hK
      unfold Oper.wp
      go_simp
      have hb5 : Below wr.heap.size wr (wr.drew.alloc (.cells #[] 83)) := fr (Below.refl _ _).drew (Joins.below_alloc1 _ _)
      refine hK _ _ (hS0.below (Joins.below_alloc1 _ _)) ?_
      clear hK K
      refine ord_held rfl rfl ?_
      intro K hK
      refine wp_append_fresh rfl (.tmp 38) (.tmp 42) 30 rfl 83 j0 (.agg #[.string ⟨#[]⟩, .slice none 0 0]) 2 40 Tryz.underlying30 hj0 hy0 hy1 hy2 rfl (by omega) rfl (some ⟨bs, 0, none⟩) q b.sc (snC (m.snaps.take q) (ts.take q)) rfl (by rw [snC_length _ _ (by rw [List.length_take, List.length_take, unhide HLT]), List.length_take]; omega) (fun _ => ⟨_, rfl, ownSn_take (unhide HLT) (((unhide HROW).below hb5).row (by omega)) q⟩) (by unfold maxLen; omega) (by omega) ?_
      intro ao cap w5 ho5 hg5
      have hb6 : Below wr.heap.size wr w5 := belowGr hb5 hg5
      have hS6 : VarM w5 w.heap.size 32 (.slice b.ro m.refs.length b.rc) (.slice b.tq m.table.length b.tc) (.slice (some ⟨bs, 0, none⟩) m.snaps.length b.sc) (.slice b.dq m.data.length b.dc) := by rw [← eso]; exact (unhide HQ).v.below hb6
      refine hK _ _ hS6 ?_
      clear hK K hS0 hg5 hb5
      have HO5 : Hid (OwnR w5 wr.heap.size 83 2 (.slice ao q cap) q (snC (m.snaps.take q) (ts.take q))) := hide (ho5.base (by simp))
      clear ho5
      refine ord_held rfl rfl ?_
      intro K hK
      refine wp_append_any rfl (.tmp 43) (.tmp 48) 30 rfl wr.heap.size 83 j0 (.agg #[.string ⟨#[]⟩, .slice none 0 0]) 2 40 Tryz.underlying30 hj0 hy0 hy1 hy2 rfl (by omega) ao q cap (snC (m.snaps.take q) (ts.take q)) rfl (unhide HO5) hb6.size so2 (m.snaps.length - (q + 1)) (b.sc - (q + 1)) (snC (m.snaps.drop (q + 1)) (ts.drop (q + 1))) rfl (by rw [snC_length _ _ (by rw [List.length_drop, List.length_drop, unhide HLT]), List.length_drop]) (fun h => ⟨_, unhide HN2 h, ownSn_cells (unhide HLT) (((unhide HROW).below hb6).row (by omega)) (q + 1)⟩) (ownSn_one (fun t ht => unhide HTO t (List.mem_of_mem_drop ht))) (by unfold maxLen; omega) (by omega) ?_
      intro ao2 cap2 w6 ho6 hk6
      have HB7 : Hid (Below wr.heap.size wr w6) := hide (hb6.trans (hk6.below hb6.size (fun g hg => ((unhide HO5).ge g hg).1)))
      have HS7 : Hid (VarM w6 w.heap.size 32 (.slice b.ro m.refs.length b.rc) (.slice b.tq m.table.length b.tc) (.slice (some ⟨bs, 0, none⟩) m.snaps.length b.sc) (.slice b.dq m.data.length b.dc)) := hide (by rw [← eso]; exact (unhide HQ).v.below (unhide HB7))
      have HO7 : Hid (OwnIm w6 (w.heap.size + 2) { b with so := ao2, sc := cap2 } { imDrops m t with snaps := m.snaps.eraseIdx q } (ts.eraseIdx q)) := hide (by
        have h := OwnIm.delS (so' := ao2) (sc' := cap2) (n := q + (m.snaps.length - (q + 1))) (q := q) (unhide HQ).o (by rw [unhide HDS]; exact unhide HQL) (by have := (unhide HQ).r.lt; omega) (unhide HB7) (by rw [unhide HDS]; exact unhide HNE) (by rw [unhide HDS, snC_erase _ _ _ (unhide HLT)]; exact ho6.toS)
        rwa [unhide HDS] at h)
      have HR7 := hide ((unhide HQ).r.below (unhide HB7))
      refine hK _ _ (unhide HS7) ?_
      clear hK K ho6 hk6 hS6
      refine ord_read (.pointer (some ⟨w.heap.size, 2, none⟩)) rfl rfl (unhide HS7) (fun W hW => by go_simp) ?_
      obtain ⟨c0, c1, c2, c3⟩ := (unhide HS7).cells
      obtain ⟨z0, z1, z2, z3⟩ := (unhide HS7).free
      refine ord_alone rfl rfl ?_
      intro K hK
      unfold Oper.wp
      go_simp
      refine hK _ _ ?_
      clear hK K
      refine ord_done ?_
      have HQ8 : Hid (ImQ w (w6.setCell ⟨w.heap.size, 2, none⟩ (.slice ao2 (q + (m.snaps.length - (q + 1))) cap2)) (w.heap.size + 2) { b with so := ao2, sc := cap2 } { m with snaps := m.snaps.eraseIdx q } { imDrops m t with snaps := m.snaps.eraseIdx q } (ts.eraseIdx q)) := hide
        ⟨by simp only [unhide HNE]; exact (unhide HS7).set2 _, (unhide HR7).other (p := ⟨w.heap.size, 2, none⟩) (by simp) _, (unhide HO7).setCell (p := ⟨w.heap.size, 2, none⟩) (by simp) _, ((unhide HQ).b.trans ((unhide HB7).mono (unhide HQ).b.size)).setCell (p := ⟨w.heap.size, 2, none⟩) (Nat.le_refl _) _, Nat.le_refl _, (unhide HQ).e1, (unhide HQ).e2, rfl, (unhide HQ).e4⟩
      clear c0 c1 c2 c3 z0 z1 z2 z3 HS7 HR7 HO7 HB7 HO5 HQ HROW
      revert HQ8
      generalize (w6.setCell _ _) = W8
      intro HQ8
      have HF := hide (unhide HQ8).fin
      unfold putI at HF
      have HVL := hide (unhide HQ8).val
      obtain ⟨c0, c1, c2, c3⟩ := (unhide HQ8).v.cells
      obtain ⟨r0, r1, r2, r3⟩ := (unhide HQ8).r.cells
      obtain ⟨z0, z1, z2, z3⟩ := (unhide HQ8).r.free
      have HRL := hide (show ({ m with snaps := m.snaps.eraseIdx q } : Img).refs = m.refs from rfl)
      clear hqi hs3 hcq hc0 hw1 hq1 h01 htn
      go_wp2
      refine bodyPost_ret (res_ic Tryz.results77 rfl rfl (unhide HF).1) rfl ?_
      rw [unhide HX]
      exact AnsI.of (R := ({ imDrops m t with snaps := m.snaps.eraseIdx q }, 0)) (unhide HVL) rfl (unhide HF).2.1 (unhide HF).2.2

end Go.Proofs.YtpdpnepnfhbonaaGreat

namespace Go.Proofs.YtpdpnepnfhbonaaGreat
open Go.RowKit
set_option linter.unusedVariables false
set_option maxRecDepth 100000

theorem ownsRow_pre {w : World} {B e size g n cap q : Nat} {xs : List Value} (h : w.ownsRow B e size (.slice (some ⟨g, 0, none⟩) n cap) n xs) (hq : q ≤ n) : w.ownsRow B e size (.slice (some ⟨g, 0, none⟩) q cap) q (xs.take (q * size)) := by
  have hm : q * size ≤ n * size := Nat.mul_le_mul_right _ hq
  rcases h.2 with ⟨h', _⟩ | ⟨g', cap', cur, h', hb, hg, hnc, hcm, hcs, htake⟩
  · simp at h'
  · simp only [Value.slice.injEq, Option.some.injEq, Addr.mk.injEq, and_true, true_and] at h'
    obtain ⟨rfl, rfl⟩ := h'
    refine ⟨by rw [List.length_take, h.1]; omega, .inr ⟨g, cap, cur, rfl, hb, hg, by omega, hcm, hcs, ?_⟩⟩
    rw [← htake, List.take_take, Nat.min_eq_left hm]
theorem ownsRow_some {w : World} {B e size g n cap : Nat} {xs : List Value} (h : w.ownsRow B e size (.slice (some ⟨g, 0, none⟩) n cap) n xs) {j : Nat} (hj : j < cap * size) : (w.cell? ⟨g, j, none⟩).isSome = true := by
  rcases h.2 with ⟨h', _⟩ | ⟨g', cap', cur, h', hb, hg, hnc, hcm, hcs, htake⟩
  · simp at h'
  · simp only [Value.slice.injEq, Option.some.injEq, Addr.mk.injEq, and_true, true_and] at h'
    obtain ⟨rfl, rfl⟩ := h'
    rw [Joins.cell_of_block hg, Array.getElem?_eq_getElem (by rw [hcs]; exact hj)]; rfl
theorem ownsRow_caps {w : World} {B e size g n cap : Nat} {xs : List Value} (h : w.ownsRow B e size (.slice (some ⟨g, 0, none⟩) n cap) n xs) : n ≤ cap ∧ cap ≤ maxLen ∧ B ≤ g ∧ g < w.heap.size := by
  rcases h.2 with ⟨h', _⟩ | ⟨g', cap', cur, h', hb, hg, hnc, hcm, hcs, htake⟩
  · simp at h'
  · simp only [Value.slice.injEq, Option.some.injEq, Addr.mk.injEq, and_true, true_and] at h'
    obtain ⟨rfl, rfl⟩ := h'
    exact ⟨hnc, hcm, hb, (Array.getElem?_eq_some_iff.1 hg).1⟩
theorem snC_takeD : ∀ (ss : List Snp) (ts : List Value) (q : Nat), ss.length = ts.length → (snC ss ts).take (q * 2) = snC (ss.take q) (ts.take q) := fun ss ts q h => by
  by_cases hq : q ≤ ss.length
  · rw [snC_whole ss ts q h, List.take_append_of_le_length (by rw [snC_length _ _ (by rw [List.length_take, List.length_take, h]), List.length_take]; omega), List.take_of_length_le (by rw [snC_length _ _ (by rw [List.length_take, List.length_take, h]), List.length_take]; omega)]
  · rw [List.take_of_length_le (by rw [snC_length _ _ h]; omega), List.take_of_length_le (by omega), List.take_of_length_le (by omega)]

section
variable {P : Program}
theorem wp_append_in {w : World} {o : Oper} {a : Act} {K : Act → World → Prop} {Q : Exit → Act → World → Prop} (hgd : o.guard = none) (s x : Operand) (t : TypeId)
    (ho : o.op = .call { callee := .builtin .append, args := #[s, x], argTypes := #[t, t] })
    (B : Nat) (e : TypeId) (i : TypeInfo) (size : Nat) (ht : P.underlying t = some (.slice e)) (hi : P.info? e = some i) (hsize : i.size = size)
    (g n cap : Nat) (xs : List Value) (hs : a.eval s = .slice (some ⟨g, 0, none⟩) n cap) (h : w.ownsRow B e size (.slice (some ⟨g, 0, none⟩) n cap) n xs)
    (so : Option Addr) (m c : Nat) (news : List Value) (hx : a.eval x = .slice so m c) (hl : news.length = m * size) (hnews : 0 < m → ∃ ad, so = some ad ∧ ∀ j u, news[j]? = some u → w.cell? (ad.add j) = some u) (h1 : ∀ u ∈ news, u.oneCell' = true) (hroom : n + m ≤ cap)
    (hK : ∀ w', w'.ownsRow B e size (.slice (some ⟨g, 0, none⟩) (n + m) cap) (n + m) (xs ++ news) → Keep (fun k => k = g) w w' → K (a.put o.dst (.slice (some ⟨g, 0, none⟩) (n + m) cap)) w') : o.wp P a w K Q := by
  by_cases hm : 0 < m
  · obtain ⟨ad, rfl, hnew⟩ := hnews hm
    obtain ⟨w', hrun, r1, r2⟩ := run_append_fits (P := P) w B t o.type e i size ht hi hsize g n cap xs h ad m c news hl hnew h1 hroom
    unfold Oper.wp
    simp [execOp, ho, resolve, invoke, builtin, hs, hx, hrun, Result.andThen]
    exact hK _ r1 (keep_grown r2 (fun k hk => by cases hk; rfl))
  · obtain rfl : m = 0 := by omega
    have hn : news = [] := List.eq_nil_of_length_eq_zero (by omega)
    subst hn
    have hrun := run_append_zero (P := P) w t o.type e i ht hi (some ⟨g, 0, none⟩) so n cap c (ownsRow_caps h).1
    unfold Oper.wp
    simp [execOp, ho, resolve, invoke, builtin, hs, hx, hrun, Result.andThen]
    exact hK _ (by simpa using h) (Keep.refl _ _)
end
theorem run_clear_sn (w : World) (g o c : Nat) (ty : TypeId) (hc : ∀ j, j < 2 → (w.cell? ⟨g, o + j, none⟩).isSome = true) (hf : ∀ j, j < 2 → w.frozen? ⟨g, o + j, none⟩ = false) :
    (Builtin.clear_ #[30] ty #[.slice (some ⟨g, o, none⟩) 1 c]).run Tryz.prog w = .ok (.tuple #[]) ((w.setCell ⟨g, o, none⟩ (.string ⟨#[]⟩)).setCell ⟨g, o + 1, none⟩ (.slice none 0 0)) := by
  have hzc : (Builtin.zeroCells (Value.agg #[.string ⟨#[]⟩, .slice none 0 0]).cells 1).toList = [.string ⟨#[]⟩, .slice none 0 0] := by kernel_rfl
  have hst := run_storeCells_cells (P := Tryz.prog) g o [.string ⟨#[]⟩, .slice none 0 0] 0 w (by simpa using hc) (by simpa using hf) (by intro v hv; simp at hv; rcases hv with rfl | rfl <;> rfl)
  simp only [World.setCells, Nat.add_zero] at hst
  simp [Builtin.clear_, run_underlying Tryz.underlying30, hzc, hst]

set_option maxHeartbeats 3200000 in
theorem deleteSn_any (w : World) (B g cap q : Nat) (ss : List Snp) (ts : List Value) (hl : ss.length = ts.length) (hq : q < ss.length) (h3 : ss.length ≤ 1000) (hone : ∀ u ∈ snC ss ts, u.oneCell' = true) (ho : w.ownsRow B 83 2 (.slice (some ⟨g, 0, none⟩) ss.length cap) ss.length (snC ss ts)) :
    Calls Tryz.prog 132 #[.slice (some ⟨g, 0, none⟩) ss.length cap, .int .i64 (q : Int), .int .i64 ((q : Int) + 1)] w fun e w' => e = .returned (.slice (some ⟨g, 0, none⟩) (q + (ss.length - (q + 1))) cap) ∧ OwnS w' B 83 2 (.slice (some ⟨g, 0, none⟩) (q + (ss.length - (q + 1))) cap) (q + (ss.length - (q + 1))) (snC (ss.eraseIdx q) (ts.eraseIdx q)) ∧ Keep (fun k => k = g) w w' := by
  have HO := hide ho
  have HL := hide hl
  have HON : Hid (∀ u ∈ snC (ss.drop (q + 1)) (ts.drop (q + 1)), u.oneCell' = true) := hide (fun u hu => hone u (by rw [snC_whole ss ts (q + 1) hl]; exact List.mem_append_right _ hu))
  obtain ⟨hnc, hcm, _, _⟩ := ownsRow_caps ho
  unfold maxLen at hcm
  have hqn : (q : Int) + 1 ≤ (ss.length : Int) := by omega
  have hqc : (q : Int) + 1 ≤ (cap : Int) := by omega
  have hqc0 : (q : Int) ≤ (cap : Int) := by omega
  have hncI : (ss.length : Int) ≤ (cap : Int) := by omega
  have h01 : (0 : Int) ≤ (q : Int) + 1 := by omega
  have hqq : ((q : Int) == (q : Int) + 1) = false := by rw [beq_eq_false_iff_ne]; omega
  have hq2 : (q : Int) ≤ (q : Int) + 1 := by omega
  have htn : ((q : Int) + 1).toNat = q + 1 := by omega
  have hc0 : ¬ cap = 0 := by omega
  obtain ⟨j0, hj0, hy0, hy1, hy2⟩ := info_parts infoSn
  obtain ⟨so2, HSO⟩ : ∃ so2, Hid (so2 = if cap = q + 1 then some (⟨g, 0, none⟩ : Addr) else some ⟨g, (q + 1) * 2, none⟩) := ⟨_, hide rfl⟩
  have HN2 : Hid (0 < ss.length - (q + 1) → so2 = some ⟨g, (q + 1) * 2, none⟩) := hide (fun h => by rw [unhide HSO, if_neg (by omega)])
  clear ho hl hone
  go_enter Tryz.func132, Tryz.ntmps132
  go_upto_region 5 with fail
  refine wp_region_ord (fun w' => True) [0, 1, 2, 3, 4, 5] [(0, 0), (1, 0), (2, 0), (3, 0), (4, 0), (5, 0), (6, 3), (7, 4)] (by kernel_rfl) (by kernel_rfl) rfl (by kernel_rfl) ?_
  refine ord_read (.slice (some ⟨g, 0, none⟩) ss.length cap) rfl rfl trivial (fun W hW => by go_simp) ?_
  refine ord_read (.int .i64 q) rfl rfl trivial (fun W hW => by go_simp) ?_
  refine ord_read (.slice (some ⟨g, 0, none⟩) q cap) rfl rfl trivial (fun W hW => by go_simp) ?_
  refine ord_read (.slice (some ⟨g, 0, none⟩) ss.length cap) rfl rfl trivial (fun W hW => by go_simp) ?_
  refine ord_read (.int .i64 ((q : Int) + 1)) rfl rfl trivial (fun W hW => by go_simp) ?_
  refine ord_read (.slice so2 (ss.length - (q + 1)) (cap - (q + 1))) rfl rfl trivial (fun W hW => by rw [unhide HSO]; go_simp) ?_
  refine ord_alone rfl rfl ?_
  intro K hK
  have hod : w.drew.ownsRow B 83 2 (.slice (some ⟨g, 0, none⟩) ss.length cap) ss.length (snC ss ts) := unhide HO
  refine wp_append_in rfl (.tmp 22) (.tmp 25) 30 rfl B 83 j0 2 Tryz.underlying30 hj0 hy1 g q cap ((snC ss ts).take (q * 2)) rfl (ownsRow_pre hod (by omega)) so2 (ss.length - (q + 1)) (cap - (q + 1)) (snC (ss.drop (q + 1)) (ts.drop (q + 1))) rfl (by rw [snC_length _ _ (by rw [List.length_drop, List.length_drop, unhide HL]), List.length_drop]) (fun h => ⟨_, unhide HN2 h, ownSn_cells (unhide HL) hod (q + 1)⟩) (unhide HON) (by omega) ?_
  intro w1 ho1 hk1
  rw [snC_takeD _ _ _ (unhide HL), ← snC_erase _ _ _ (unhide HL)] at ho1
  refine hK _ _ ?_
  clear hK K
  refine ord_val (.slice (some ⟨g, 0, none⟩) (q + (ss.length - (q + 1))) cap) rfl rfl (fun W => by go_simp) ?_
  refine ord_done ?_
  obtain ⟨n', hn'⟩ : ∃ n', n' = q + (ss.length - (q + 1)) := ⟨_, rfl⟩
  rw [← hn'] at ho1 ⊢
  have hnn : ss.length = n' + 1 := by omega
  have HK1 : Hid (Keep (fun k => k = g) w w1) := hide ((Keep.of_below (Below.refl _ w).drew).trans hk1)
  have hcl : ∀ ty, (Builtin.clear_ #[30] ty #[.slice (some ⟨g, n' * 2, none⟩) 1 (cap - n')]).run Tryz.prog w1 = .ok (.tuple #[]) ((w1.setCell ⟨g, n' * 2, none⟩ (.string ⟨#[]⟩)).setCell ⟨g, n' * 2 + 1, none⟩ (.slice none 0 0)) := fun ty => run_clear_sn w1 g (n' * 2) (cap - n') ty (fun j hj => ownsRow_some ho1 (by omega)) (fun j hj => ho1.frozenAt _)
  have HO1 := hide ho1
  have hn1 : (n' : Int) ≤ (n' : Int) + 1 := by omega
  have hn2 : (n' : Int) + 1 ≤ (cap : Int) := by omega
  have hn3 : ¬ cap = n' := by omega
  have hn4 : (0 : Int) ≤ (n' : Int) + 1 := by omega
  have hn5 : ((n' : Int) + 1).toNat = n' + 1 := by omega
  have hn6 : n' + 1 - n' = 1 := by omega
  have HNN := hide hn'
  clear ho1 hk1 HO HON HN2 HSO hod hn'
  simp only [hnn]
  go_wp2
  go_ret
  rw [← unhide HNN]
  refine ⟨rfl, ?_, ?_⟩
  · by_cases h0 : n' = 0
    · have he : snC (ss.eraseIdx q) (ts.eraseIdx q) = [] := List.eq_nil_of_length_eq_zero (by have := (unhide HO1).1; rw [h0] at this; simpa using this)
      exact .inl ⟨h0, he, _, _, by rw [h0]⟩
    · have e1 := ((unhide HO1).stored (n' * 2) (.string ⟨#[]⟩)).1
      rw [List.set_eq_of_length_le (by rw [(unhide HO1).1]; omega)] at e1
      have e2 := (e1.stored (n' * 2 + 1) (.slice none 0 0)).1
      rw [List.set_eq_of_length_le (by rw [(unhide HO1).1]; omega)] at e2
      exact .inr ⟨by omega, e2⟩
  · exact ((unhide HK1).setCell (p := ⟨g, n' * 2, none⟩) rfl _).setCell (p := ⟨g, n' * 2 + 1, none⟩) rfl _

end Go.Proofs.YtpdpnepnfhbonaaGreat

namespace Go.Proofs.YtpdpnepnfhbonaaGreat
open Go.RowKit
set_option linter.unusedVariables false
set_option maxRecDepth 100000

def sdA (m : Img) (name : ByteArray) : Img × Int := if imB m = true then imDelete m name else (im0, 1)
def dtC (m : Img) (name : ByteArray) : Int := if imFind m name < m.snaps.length then 0 else 5
def dt1 (m : Img) (name : ByteArray) : Img := if imFind m name < m.snaps.length then { m with snaps := m.snaps.eraseIdx (imFind m name) } else m
theorem dt_fit {m : Img} (name : ByteArray) (h : ImR m) : FitR (dt1 m name) := by
  unfold dt1
  split
  · have hf := h.fitR
    refine ⟨hf.r, hf.d, by simp only [List.length_eraseIdx]; have := h.few; split <;> omega, fun t ht => ?_, fun s hs => hf.z s (List.mem_of_mem_eraseIdx hs)⟩
    have ht' : t ∈ m.table :: (m.snaps.eraseIdx (imFind m name)).map (·.table) := ht
    rw [List.mem_cons, map_erase] at ht'
    rcases ht' with rfl | ht'
    · exact h.table
    · exact h.tabs t (by unfold imTabs; exact List.mem_cons_of_mem _ (List.mem_of_mem_eraseIdx ht'))
  · exact h.fitR
theorem dt_ans {m : Img} (name : ByteArray) : (if imB m = true then (imFit (dt1 m name), dtC m name) else (im0, 1)) = sdA m name := by
  refine ans_eq (fun h => ?_) (fun h => by rw [sdA, h]; rfl)
  have hR := imB_iff.1 h
  rw [sdA, if_pos h]
  unfold dt1 dtC
  by_cases hf : imFind m name < m.snaps.length
  · rw [if_pos hf, if_pos hf, delete_at hf rfl]
    exact ⟨fit_delete hR hf, rfl⟩
  · rw [if_neg hf, if_neg hf, delete_none hf]
    exact ⟨fit_self hR, rfl⟩
theorem Hld.delS {W W1 : World} {p B g q n cap : Nat} {a : Im4} {m : Img} {ts : List Value} (h : Hld W p B a m ts) (hB : B ≤ W.heap.size) (hq : q < m.snaps.length) (hg : a.so = some ⟨g, 0, none⟩) (hc : a.sc = cap) (hn : (m.snaps.eraseIdx q).length = n) (hk : Keep (fun k => k = g) W W1)
    (ho : OwnS W1 B 83 2 (.slice (some ⟨g, 0, none⟩) n cap) n (snC (m.snaps.eraseIdx q) (ts.eraseIdx q))) :
    Hld (W1.setCell ⟨p, 2, none⟩ (.slice (some ⟨g, 0, none⟩) n cap)) p B { a with so := some ⟨g, 0, none⟩, sc := cap } { m with snaps := m.snaps.eraseIdx q } (ts.eraseIdx q) ∧ Below B W (W1.setCell ⟨p, 2, none⟩ (.slice (some ⟨g, 0, none⟩) n cap)) := by
  have hso : Own (.slice a.so m.snaps.length a.sc) g := by rw [hg]; exact own_of (by omega) rfl
  have hgB := (h.o.s.ge g hso).1
  have hnp : p ≠ g := fun e => h.o.s.other h.v (by decide) (e ▸ hso)
  have hv1 : VarM W1 p 32 (.slice a.ro m.refs.length a.rc) (.slice a.tq m.table.length a.tc) (.slice a.so m.snaps.length a.sc) (.slice a.dq m.data.length a.dc) := (hk.block _ h.v.lt hnp).trans h.v
  have hrows : OwnA W1 B (imRows a m ts) := h.o.rows.keep hk (fun r hr x hx e => own_apartS (h.o.rows.own r hr).row h.o.s (by decide) x hx (e ▸ hso))
  have ho1 : OwnIm W1 B { a with so := some ⟨g, 0, none⟩, sc := cap } { m with snaps := m.snaps.eraseIdx q } (ts.eraseIdx q) := by
    refine ⟨by simp only [List.length_eraseIdx, h.o.len], ?_, ?_⟩
    · show OwnS W1 B 83 2 (.slice (some ⟨g, 0, none⟩) (m.snaps.eraseIdx q).length cap) (m.snaps.eraseIdx q).length _
      rw [hn]
      exact ho
    · refine hrows.sub ?_
      show List.Sublist ((.slice a.ro m.refs.length a.rc, m.refs) :: (.slice a.tq m.table.length a.tc, m.table) :: (.slice a.dq m.data.length a.dc, m.data) :: (ts.eraseIdx q).zip ((m.snaps.eraseIdx q).map (·.table))) ((.slice a.ro m.refs.length a.rc, m.refs) :: (.slice a.tq m.table.length a.tc, m.table) :: (.slice a.dq m.data.length a.dc, m.data) :: ts.zip (m.snaps.map (·.table)))
      rw [map_tabs_erase, zip_erase]
      exact ((List.eraseIdx_sublist _ _).cons_cons _).cons_cons _ |>.cons_cons _
  have hk2 : Keep (fun x => x = p) W1 (W1.setCell ⟨p, 2, none⟩ (.slice (some ⟨g, 0, none⟩) n cap)) := (Keep.refl (fun x => x = p) W1).setCell (p := ⟨p, 2, none⟩) rfl _
  refine ⟨⟨?_, ho1.keep hk2 (fun x hx e => ho1.other (v0 := .slice a.ro m.refs.length a.rc) (v1 := .slice a.tq m.table.length a.tc) (v2 := .slice a.so m.snaps.length a.sc) (v3 := .slice a.dq m.data.length a.dc) hv1 (e ▸ hx)), h.p⟩, ?_⟩
  · simp only [hn]
    exact hv1.set2 _
  · exact (hk.below hB (fun k e => by omega)).setCell (p := ⟨p, 2, none⟩) h.p _

set_option maxHeartbeats 3200000 in
theorem deleteC_any (m : Img) (name : ByteArray) (x : Nat) (W : World) (p B : Nat) (a : Im4) (ts : List Value) (hR : ImR m) (hx : VarT1 W x name) (hxB : x < B) (hB : B ≤ W.heap.size) (hh : Hld W p B a m ts) :
    Calls Tryz.prog 131 #[.pointer (some ⟨p, 0, none⟩), .pointer (some ⟨x, 0, none⟩)] W fun e W' => Chg W W' p B e (dtC m name) (dt1 m name) := by
  have HH := hide hh
  have HX := hide hx
  have HM := hide hR.M
  clear hh hR hx
  go_enter Tryz.func131, Tryz.ntmps131
  have hS0 : VarM W.drew p 32 (.slice a.ro m.refs.length a.rc) (.slice a.tq m.table.length a.tc) (.slice a.so m.snaps.length a.sc) (.slice a.dq m.data.length a.dc) ∧ VarT1 W.drew x name := ⟨(unhide HH).v.below (Below.refl _ _).drew, (unhide HX).below (Below.refl _ _).drew⟩
  have HSN : Hid (Sns W a.so m.snaps) := hide ((unhide HH).o.shows (unhide HM).zs).s
  have HSL := hide (unhide HM).s
  go_upto_region 1 with fail
  refine wp_region_ord (fun w' => VarM w' p 32 (.slice a.ro m.refs.length a.rc) (.slice a.tq m.table.length a.tc) (.slice a.so m.snaps.length a.sc) (.slice a.dq m.data.length a.dc) ∧ VarT1 w' x name) [0, 1, 2, 3, 4] [(0, 0), (1, 0), (2, 0), (3, 0), (4, 0), (5, 3), (6, 4)] (by kernel_rfl) (by kernel_rfl) rfl (by kernel_rfl) ?_
  refine ord_read (.pointer (some ⟨p, 0, none⟩)) rfl rfl hS0 (fun W hW => by go_simp) ?_
  refine ord_read (.pointer (some ⟨p, 0, none⟩)) rfl rfl hS0 (fun W hW => by go_simp) ?_
  refine ord_read (.pointer (some ⟨p, 2, none⟩)) rfl rfl hS0 (fun W hW => by go_simp) ?_
  refine ord_read (.slice a.so m.snaps.length a.sc) rfl rfl hS0 (fun W hW => by obtain ⟨k0, k1, k2, k3⟩ := hW.1.cells; go_simp) ?_
  refine ord_read (.string name) rfl rfl hS0 (fun W hW => by have k0 : W.cell? ⟨x, 0, none⟩ = some (.string name) := hW.2; go_simp) ?_
  clear hS0
  refine ord_alone rfl rfl ?_
  intro K hK
  unfold Oper.wp
  go_simp
  refine (findSnap_any a.so a.sc m.snaps name _ (by have := unhide HSL; unfold maxLen; omega) ((unhide HSN).below (Below.refl _ _).drew)).mono ?_
  rintro e w2 ⟨rfl, hb⟩
  have HB2 : Hid (Below W.heap.size W w2) := hide (fr (Below.refl _ _).drew hb)
  clear hb
  refine hK _ _ ?_
  clear hK K
  refine ord_val (.int .i64 (fdL m.snaps name)) rfl rfl (fun W => by go_simp) ?_
  refine ord_done ?_
  by_cases hf : imFind m name < m.snaps.length
  case neg =>
    have HE : Hid (dtC m name = 5 ∧ dt1 m name = m) := hide ⟨if_neg hf, if_neg hf⟩
    rw [show fdL m.snaps name = -1 from if_neg hf]
    clear hf
    go_wp2
    go_ret
    rw [(unhide HE).1, (unhide HE).2]
    exact Chg.same 5 (unhide HH) hB (unhide HB2)
  have HE0 : Hid (dtC m name = 0 ∧ dt1 m name = { m with snaps := m.snaps.eraseIdx (imFind m name) }) := hide ⟨if_pos hf, if_pos hf⟩
  rw [show fdL m.snaps name = (imFind m name : Int) from if_pos hf]
  obtain ⟨q, hq⟩ : ∃ q, imFind m name = q := ⟨_, rfl⟩
  rw [hq] at HE0 hf ⊢
  have hqi : (q : Int) < (m.snaps.length : Int) := by omega
  have HQL := hide hf
  clear hq hf
  have HH2 := hide ((unhide HH).below (unhide HB2))
  obtain ⟨g, cap, cur, e0, _, _⟩ := own_form (by omega) ((unhide HH2).o.s.row (by omega))
  obtain ⟨eso, hcap⟩ : a.so = some ⟨g, 0, none⟩ ∧ a.sc = cap := by simp only [Value.slice.injEq] at e0; exact ⟨e0.1, e0.2.2⟩
  have HROW := hide ((unhide HH2).o.s.row (by omega))
  rw [eso, hcap] at HROW
  have HES := hide (And.intro eso hcap)
  have HNE : Hid ((m.snaps.eraseIdx q).length = q + (m.snaps.length - (q + 1))) := hide (by rw [List.length_eraseIdx, if_pos (unhide HQL)]; omega)
  obtain ⟨c0, c1, c2, c3⟩ := (unhide HH2).v.cells
  rw [eso, hcap] at c2
  have hw1 : IntKind.i64.wrap ((q : Int) + 1) = (q : Int) + 1 := by have := unhide HSL; rw [IntKind.wrap_i64]; omega
  clear eso hcap e0
  go_wp2_with fail
  refine (deleteSn_any w2 B g cap q m.snaps ts (unhide HH2).o.len (unhide HQL) (by have := unhide HSL; omega) (ownSn_one (unhide HH2).o.tabsOwn) (unhide HROW)).mono ?_
  rintro e w3 ⟨rfl, ho3, hk3⟩
  have HN3 := hide (Hld.delS (unhide HH2) (Nat.le_trans hB (unhide HB2).size) (unhide HQL) (unhide HES).1 (unhide HES).2 (unhide HNE) hk3 ho3)
  have hv3 : VarM w3 p 32 (.slice a.ro m.refs.length a.rc) (.slice a.tq m.table.length a.tc) (.slice a.so m.snaps.length a.sc) (.slice a.dq m.data.length a.dc) := (hk3.block _ (unhide HH2).v.lt (fun e => (unhide HH2).o.s.other (unhide HH2).v (by decide) (by have := own_of (n := m.snaps.length) (cap := cap) (g := g) (k := p) (by have := unhide HQL; omega) e.symm; rw [(unhide HES).1, (unhide HES).2]; exact this))).trans (unhide HH2).v
  have HBW : Hid (Below B W w2) := hide ((unhide HB2).mono hB)
  clear ho3 hk3 c0 c1 c2 c3
  obtain ⟨c0, c1, c2, c3⟩ := hv3.cells
  obtain ⟨z0, z1, z2, z3⟩ := hv3.free
  go_wp2
  go_ret
  rw [(unhide HE0).1, (unhide HE0).2]
  exact ⟨rfl, _, _, (unhide HN3).1, (unhide HBW).trans (unhide HN3).2⟩

set_option maxHeartbeats 1600000 in
theorem snapDelete_impl (a : Im4) (m : Img) (name : ByteArray) (w : World) (hz : name.size ≤ 65536) (hL : ImL m) (hc : ImS w a m) :
    Calls Tryz.prog 88 #[imV a m, .string name] w fun e w' => AnsI w w' e (sdA m name) := by
  have hmf : ∀ (fn : Fn) (first cap : Array Value) (w : World), (Instr.makeFunc fn first cap).run Tryz.prog w = .ok (.func fn first cap) w := fun _ _ _ _ => rfl
  have HE : Hid (FcE w (((w.alloc (.cells #[.slice a.ro m.refs.length a.rc, .slice a.tq m.table.length a.tc, .slice a.so m.snaps.length a.sc, .slice a.dq m.data.length a.dc] 32)).alloc (.cells #[.string name] 9)).alloc (.cells #[.slice none 0 0, .slice none 0 0, .slice none 0 0, .slice none 0 0] 32)) (w.heap.size + 1 + 1) a m) := hide (by
    refine ⟨?_, ?_, hc.below (fr (fr (Joins.below_alloc1 w _) (Joins.below_alloc1 _ _)) (Joins.below_alloc1 _ _)), fr (fr (Joins.below_alloc1 w _) (Joins.below_alloc1 _ _)) (Joins.below_alloc1 _ _), by omega, by simp⟩
    · exact ((VarM.new w 32 (.slice a.ro m.refs.length a.rc) (.slice a.tq m.table.length a.tc) (.slice a.so m.snaps.length a.sc) (.slice a.dq m.data.length a.dc)).below (Joins.below_alloc1 _ _)).below (Joins.below_alloc1 _ _)
    · have h := VarM.new ((w.alloc (.cells #[.slice a.ro m.refs.length a.rc, .slice a.tq m.table.length a.tc, .slice a.so m.snaps.length a.sc, .slice a.dq m.data.length a.dc] 32)).alloc (.cells #[.string name] 9)) 32 (.slice none 0 0) (.slice none 0 0) (.slice none 0 0) (.slice none 0 0)
      simp only [World.size_alloc] at h
      exact h)
  have HX0 : Hid (VarT1 (((w.alloc (.cells #[.slice a.ro m.refs.length a.rc, .slice a.tq m.table.length a.tc, .slice a.so m.snaps.length a.sc, .slice a.dq m.data.length a.dc] 32)).alloc (.cells #[.string name] 9)).alloc (.cells #[.slice none 0 0, .slice none 0 0, .slice none 0 0, .slice none 0 0] 32)) (w.heap.size + 1) name) := hide (by
    have h : VarT1 (((w.alloc (.cells #[.slice a.ro m.refs.length a.rc, .slice a.tq m.table.length a.tc, .slice a.so m.snaps.length a.sc, .slice a.dq m.data.length a.dc] 32)).alloc (.cells #[.string name] 9)).alloc (.cells #[.slice none 0 0, .slice none 0 0, .slice none 0 0, .slice none 0 0] 32)) (w.alloc (.cells #[.slice a.ro m.refs.length a.rc, .slice a.tq m.table.length a.tc, .slice a.so m.snaps.length a.sc, .slice a.dq m.data.length a.dc] 32)).heap.size name := (VarT1.new (w.alloc (.cells #[.slice a.ro m.refs.length a.rc, .slice a.tq m.table.length a.tc, .slice a.so m.snaps.length a.sc, .slice a.dq m.data.length a.dc] 32)) name).below (Joins.below_alloc1 _ _)
    simp only [World.size_alloc] at h
    exact h)
  have HL := hide hL
  obtain ⟨R, HR⟩ : ∃ R, Hid (R = sdA m name) := ⟨_, hide rfl⟩
  rw [← unhide HR]
  clear hc hL
  go_enter Tryz.func88, Tryz.ntmps88
  go_upto_region 1 with fail
  revert HE HX0
  generalize (((w.alloc _).alloc _).alloc _) = W0
  intro HE HX0
  obtain ⟨c0, c1, c2, c3⟩ := (unhide HE).v.cells
  have hnx : W0.cell? ⟨w.heap.size + 1, 0, none⟩ = some (.string name) := unhide HX0
  go_wp2_with fail
  refine (changeSnaps_any a m name 131 #[.pointer (some ⟨w.heap.size + 1, 0, none⟩)] (dt1 m name) (dtC m name) _ (unhide HL) hz (unhide HE).s (fun _ _ => rfl) (fun him => ⟨dt_fit name (imB_iff.1 him), fun W p B a1 ts1 h1 h2 h3 h4 h5 => ?_⟩)).mono ?_
  · exact deleteC_any m name _ W p B a1 ts1 (imB_iff.1 him) ((unhide HX0).below h1) (Nat.lt_of_lt_of_le (unhide HX0).lt h2) h3 h4
  · intro e w2 hans
    rw [dt_ans, ← unhide HR] at hans
    obtain ⟨b, ts, rfl, ho, hb⟩ := hans
    have HP := hide ((unhide HE).put hb ho)
    have HE2 := hide ((unhide HE).below hb)
    clear ho hb c0 c1 c2 c3 hnx
    obtain ⟨r0, r1, r2, r3⟩ := (unhide HE2).r.cells
    obtain ⟨z0, z1, z2, z3⟩ := (unhide HE2).r.free
    go_wp2
    refine bodyPost_ret (res_ic Tryz.results88 rfl rfl (unhide HP).1) rfl ?_
    exact AnsI.of rfl rfl (unhide HP).2.1 (unhide HP).2.2

end Go.Proofs.YtpdpnepnfhbonaaGreat

namespace Go.Proofs.YtpdpnepnfhbonaaGreat
open Go.RowKit
set_option linter.unusedVariables false
set_option maxRecDepth 100000

def AnsS (W w' : World) (e : Ending) (R : List ByteArray × Int) : Prop := ∃ qo qa, e = .returned (.tuple #[.slice qo R.1.length qa, .int .i64 R.2]) ∧ OwnR w' W.heap.size 9 1 (.slice qo R.1.length qa) R.1.length (strV R.1) ∧ Below W.heap.size W w'
theorem nmL_len (m : Img) : (nmL m).length = m.snaps.length := by simp [nmL]

set_option maxHeartbeats 1600000 in
theorem snapNames_impl (a : Im4) (m : Img) (w : World) (hL : ImL m) (hc : ImS w a m) :
    Calls Tryz.prog 90 #[imV a m] w fun e w' => AnsS w w' e (snA m) := by
  have HA := hide (Joins.below_alloc1 w (.cells #[.slice a.ro m.refs.length a.rc, .slice a.tq m.table.length a.tc, .slice a.so m.snaps.length a.sc, .slice a.dq m.data.length a.dc] 32))
  have HV := hide (VarM.new w 32 (.slice a.ro m.refs.length a.rc) (.slice a.tq m.table.length a.tc) (.slice a.so m.snaps.length a.sc) (.slice a.dq m.data.length a.dc))
  have HC := hide (hc.below (unhide HA))
  have HL := hide hL
  obtain ⟨R, HR⟩ : ∃ R, Hid (R = snA m) := ⟨_, rfl⟩
  rw [← unhide HR]
  clear hc hL
  obtain ⟨j0, hj, hy0, hy1, hy2⟩ := info_parts infoS
  go_enter Tryz.func90, Tryz.ntmps90
  go_upto_region 1 with fail
  revert HA HV HC
  generalize (w.alloc _) = W0
  intro HA HV HC
  obtain ⟨c0, c1, c2, c3⟩ := (unhide HV).cells
  go_wp2_with fail
  refine (imageOK_impl a m _ (unhide HL) (unhide HC)).mono ?_
  rintro e w1 ⟨rfl, hb⟩
  have HB1 := hide (fr (unhide HA) hb)
  have HC1 := hide ((unhide HC).below hb)
  have HV1 := hide ((unhide HV).below hb)
  clear hb c0 c1 c2 c3 HA HV HC
  cases him : imB m
  · have HE : Hid (R = ([], 1)) := hide (by rw [unhide HR, snA, him]; rfl)
    go_wp2
    go_ret2
    rw [unhide HE]
    exact ⟨_, _, rfl, .inl ⟨rfl, rfl, _, rfl⟩, unhide HB1⟩
  have HE : Hid (R = (nmL m, 0)) := hide (by rw [unhide HR, snA, him]; rfl)
  have hs3 := (imB_iff.1 him).few
  clear him
  obtain ⟨c0, c1, c2, c3⟩ := (unhide HV1).cells
  go_wp2
  clear c0 c1 c2 c3
  go_loopw [4, 13] (fun o i wr => ∃ (k : Nat) (qo : Option Addr) (qa : Nat), k ≤ m.snaps.length ∧ i = .int .i64 k ∧ o = .slice qo k qa ∧ Hid (OwnR wr w1.heap.size 9 1 (.slice qo k qa) k (strV ((nmL m).take k))) ∧ Hid (Below w1.heap.size w1 wr)) (fun _ i _ => m.snaps.length - (intOf i).toNat)
  case atStart => exact ⟨0, _, _, Nat.zero_le _, rfl, rfl, hide (.inl ⟨rfl, by simp [strV], _, rfl⟩), hide (Below.refl _ _)⟩
  case round =>
    obtain ⟨k, qo, qa, hk, rfl, rfl, HO, HB⟩ := hrel
    by_cases hlt : k < m.snaps.length
    · obtain ⟨b, off, tq, tc, eb, hn0, ht0, _, _, _⟩ := ((unhide HC1).s.below (unhide HB)) k hlt
      have hlti : (k : Int) < (m.snaps.length : Int) := by omega
      have HS : Hid (strV ((nmL m).take (k + 1)) = strV ((nmL m).take k) ++ [.string m.snaps[k].name]) := hide (by
        rw [List.take_succ_eq_append_getElem (by simpa [nmL] using hlt)]
        simp [strV, nmL])
      have HX := hide (VarN.new wr m.snaps[k].name (.slice tq m.snaps[k].table.length tc))
      have HBX := hide (Joins.below_alloc1 wr (.cells #[.string m.snaps[k].name, .slice tq m.snaps[k].table.length tc] 83))
      go_upto_region 7 with fail
      revert HX HBX
      generalize (wr.alloc _) = w2
      intro HX HBX
      obtain ⟨x0, x1⟩ := (unhide HX).cells
      have HO2 := hide ((unhide HO).below (unhide HBX))
      have HB2 := hide (fr (unhide HB) (unhide HBX))
      clear HX HBX hn0 ht0 eb
      have HOA := hide ((unhide HO2).below (Joins.below_alloc1 _ (.cells #[.string m.snaps[k].name] 9)))
      have HBA := hide (fr (unhide HB2) (Joins.below_alloc1 _ (.cells #[.string m.snaps[k].name] 9)))
      have HSZ := hide (unhide HB2).size
      go_wp2_with (at_builtin; refine wpList_append_one rfl _ _ 44 rfl w1.heap.size 9 j0 (.string ⟨#[]⟩) 1 16 Tryz.underlying44 hj hy0 hy1 hy2 rfl (by omega) qo k qa (strV ((nmL m).take k)) rfl (unhide HOA) (by have := unhide HSZ; simp; omega) ⟨w2.heap.size, 0, none⟩ _ [.string m.snaps[k].name] rfl rfl (byte_news w2 _ _) (str_one _) (by unfold maxLen; omega) (by omega) ?_; intro g2 cap2 wA hoA hkA; have HSF := hide (And.intro hoA (keep_below (unhide HBA) (unhide HOA) (Nat.le_refl _) hkA)); clear hoA hkA)
      go_roundw
      case rel => exact ⟨k + 1, some ⟨g2, 0, none⟩, cap2, by omega, by go_num, rfl, hide (.inr ⟨by omega, by rw [unhide HS]; exact (unhide HSF).1⟩), hide (unhide HSF).2⟩
      case measure => simp [intOf]; omega
    · have hkl : k = m.snaps.length := by omega
      subst hkl
      have HT : Hid ((nmL m).take m.snaps.length = nmL m) := hide (List.take_of_length_le (by simp [nmL]))
      go_wp2
      go_ret2
      have h := unhide HO
      rw [unhide HT] at h
      rw [unhide HE]
      exact ⟨qo, qa, by rw [nmL_len]; rfl, by rw [nmL_len]; exact h.base (unhide HB1).size, fr (unhide HB1) (unhide HB)⟩

end Go.Proofs.YtpdpnepnfhbonaaGreat
