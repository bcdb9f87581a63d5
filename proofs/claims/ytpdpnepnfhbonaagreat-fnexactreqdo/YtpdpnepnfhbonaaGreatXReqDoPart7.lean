import Derived.Test.YtpdpnepnfhbonaaGreatRows
import Derived.Test.YtpdpnepnfhbonaaGreatXReqDoPart1
import Derived.Test.YtpdpnepnfhbonaaGreatXReqDoPart6
import Derived.Test.YtpdpnepnfhbonaaGreatXReqDoPart4
import Derived.Test.YtpdpnepnfhbonaaGreatXReqDoPart5
import Derived.Test.YtpdpnepnfhbonaaGreatXReqDoPart3
import Derived.WalkKit
import Derived.WalkSpells
import Derived.BigQuiet
import Derived.Deep.QuietTactic
import Derived.Deep.RegionWith
import Derived.Test.YtpdpnepnfhbonaaGreatXReqDoPart2
import Derived.Laws.ResultCell
import Derived.Orders
import Derived.Still
import Derived.WalkLawsBesides
import Derived.KernelRfl
import Derived.Deep.RegionHeld3
import Derived.Laws.StructEq
import Derived.OrdersHeld
import Derived.Laws.CopyRow
import Derived.Laws.CopyOwn
import Derived.LoopN

namespace Go.Proofs.YtpdpnepnfhbonaaGreat
open Go.RowKit
set_option linter.unusedVariables false

abbrev ZrM (w : World) (x : Nat) : Prop := VarM w x 32 (.slice none 0 0) (.slice none 0 0) (.slice none 0 0) (.slice none 0 0)
abbrev ZrY (w : World) (y : Nat) : Prop := VarY w y (.int .i64 0) (.int .i64 0) (.slice none 0 0)
abbrev FlM (w : World) (x : Nat) (a : Im4) (M : Img) : Prop := VarM w x 32 (.slice a.ro M.refs.length a.rc) (.slice a.tq M.table.length a.tc) (.slice a.so M.snaps.length a.sc) (.slice a.dq M.data.length a.dc)
abbrev FlY (w : World) (y : Nat) (r : Rp) (no : Option Addr) (nc : Nat) : Prop := VarY w y (.int .i64 r.c) (.int .i64 r.v) (.slice no r.ns.length nc)
abbrev putR (w : World) (y : Nat) (r : Rp) (no : Option Addr) (nc : Nat) : World := putY w y (.int .i64 r.c) (.int .i64 r.v) (.slice no r.ns.length nc)
theorem putI_keep (w : World) (x : Nat) (a : Im4) (M : Img) : Keep (fun j => j = x) w (putI w x a M) :=
  ((((Keep.refl (fun j => j = x) w).setCell (p := ⟨x, 0, none⟩) rfl _).setCell (p := ⟨x, 1, none⟩) rfl _).setCell (p := ⟨x, 2, none⟩) rfl _).setCell (p := ⟨x, 3, none⟩) rfl _
theorem putR_keep (w : World) (y : Nat) (r : Rp) (no : Option Addr) (nc : Nat) : Keep (fun j => j = y) w (putR w y r no nc) :=
  (((Keep.refl (fun j => j = y) w).setCell (p := ⟨y, 0, none⟩) rfl _).setCell (p := ⟨y, 1, none⟩) rfl _).setCell (p := ⟨y, 2, none⟩) rfl _
theorem apartMY {w : World} {x y : Nat} {v0 v1 v2 v3 u0 u1 u2 : Value} (h : VarM w x 32 v0 v1 v2 v3) (k : VarY w y u0 u1 u2) : x ≠ y := by
  rintro rfl
  have h' : w.heap[x]? = some (.cells #[v0, v1, v2, v3] 32 (0, 0)) := h
  have k' : w.heap[x]? = some (.cells #[u0, u1, u2] 46 (0, 0)) := k
  rw [h'] at k'
  simp at k'
theorem VarM.keepX {w w' : World} {x y t : Nat} {v0 v1 v2 v3 : Value} (h : VarM w x t v0 v1 v2 v3) (hk : Keep (fun j => j = y) w w') (e : x ≠ y) : VarM w' x t v0 v1 v2 v3 := (hk.block x h.lt e).trans h
theorem VarY.keepX {w w' : World} {x y : Nat} {v0 v1 v2 : Value} (h : VarY w x v0 v1 v2) (hk : Keep (fun j => j = y) w w') (e : x ≠ y) : VarY w' x v0 v1 v2 := (hk.block x h.lt e).trans h
theorem OwnIm.otherY {w : World} {B x : Nat} {a : Im4} {m : Img} {ts : List Value} {v0 v1 v2 : Value} (h : OwnIm w B a m ts) (hv : VarY w x v0 v1 v2) : ¬ ImB a m ts x := by
  intro hx
  rcases hx with h1 | h1 | h1 | h1 | ⟨t, ht, h1⟩
  · exact (h.rows.own (.slice a.ro m.refs.length a.rc, m.refs) (by simp [imRows])).row.other hv (by decide) h1
  · exact (h.rows.own (.slice a.tq m.table.length a.tc, m.table) (by simp [imRows])).row.other hv (by decide) h1
  · exact (h.rows.own (.slice a.dq m.data.length a.dc, m.data) (by simp [imRows])).row.other hv (by decide) h1
  · exact h.s.other hv (by decide) h1
  · have hm : t ∈ (ts.zip (m.snaps.map (·.table))).map Prod.fst := by rw [zip_fst _ _ (by rw [List.length_map, h.len])]; exact ht
    obtain ⟨p, hp, rfl⟩ := List.mem_map.1 hm
    exact (h.rows.own p (by simp [imRows, hp])).row.other hv (by decide) h1
theorem OwnIm.putI {w : World} {B x : Nat} {a b : Im4} {m M : Img} {ts : List Value} {v0 v1 v2 v3 : Value} (h : OwnIm w B a m ts) (hv : VarM w x 32 v0 v1 v2 v3) : OwnIm (putI w x b M) B a m ts :=
  h.keep (putI_keep w x b M) (fun g hg e => h.other hv (e ▸ hg))
theorem OwnIm.putRp {w : World} {B y : Nat} {a : Im4} {m : Img} {ts : List Value} {v0 v1 v2 : Value} (h : OwnIm w B a m ts) (hv : VarY w y v0 v1 v2) (r : Rp) (no : Option Addr) (nc : Nat) : OwnIm (putR w y r no nc) B a m ts :=
  h.keep (putR_keep w y r no nc) (fun g hg e => h.otherY hv (e ▸ hg))
theorem OwnNs.putI {w : World} {B x nc : Nat} {no : Option Addr} {ns : List ByteArray} {b : Im4} {M : Img} {v0 v1 v2 v3 : Value} (h : OwnNs w B no nc ns) (hv : VarM w x 32 v0 v1 v2 v3) : OwnNs (putI w x b M) B no nc ns :=
  OwnR.keep h (putI_keep w x b M) (fun g hg e => OwnR.other h hv (by decide) (e ▸ hg))
theorem OwnNs.putR {w : World} {B y nc : Nat} {no : Option Addr} {ns : List ByteArray} {v0 v1 v2 : Value} (h : OwnNs w B no nc ns) (hv : VarY w y v0 v1 v2) (r : Rp) (no' : Option Addr) (nc' : Nat) : OwnNs (putR w y r no' nc') B no nc ns :=
  OwnR.keep h (putR_keep w y r no' nc') (fun g hg e => OwnR.other h hv (by decide) (e ▸ hg))
theorem below_putI {w W : World} {x B : Nat} (h : Below B w W) (hx : B ≤ x) (a : Im4) (M : Img) (hs : B ≤ W.heap.size) : Below B w (putI W x a M) := h.trans ((putI_keep W x a M).below hs (fun k e => by have e' : k = x := e; omega))
theorem below_putR {w W : World} {y B : Nat} (h : Below B w W) (hy : B ≤ y) (r : Rp) (no : Option Addr) (nc : Nat) (hs : B ≤ W.heap.size) : Below B w (putR W y r no nc) := h.trans ((putR_keep W y r no nc).below hs (fun k e => by have e' : k = y := e; omega))
theorem FlM.of {w : World} {x : Nat} (h : ZrM w x) (a : Im4) (M : Img) : FlM (putI w x a M) x a M := (((h.set0 _).set1 _).set2 _).set3 _
theorem FlY.of {w : World} {y : Nat} (h : ZrY w y) (r : Rp) (no : Option Addr) (nc : Nat) : FlY (putR w y r no nc) y r no nc := ((h.set0 _).set1 _).set2 _

end Go.Proofs.YtpdpnepnfhbonaaGreat

namespace Go.Proofs.YtpdpnepnfhbonaaGreat
open Go.RowKit
set_option linter.unusedVariables false
set_option maxRecDepth 100000

set_option maxHeartbeats 800000 in
theorem eqStringS_any (ao bo : Option Addr) (ca cb : Nat) (ss tt : List ByteArray) (w : World) (hl : ss.length ≤ maxLen) (hc : Ss w ao ss) (hd : Ss w bo tt) :
    Calls Tryz.prog 47 #[.slice ao ss.length ca, .slice bo tt.length cb] w fun e w' => e = .returned (.bool (eqSB ss tt)) ∧ Below w.heap.size w w' := by
  have HC := hide hc
  have HD := hide hd
  clear hc hd
  unfold maxLen at hl
  by_cases hle : ss.length = tt.length
  · have hb : ((ss.length : Int) != (tt.length : Int)) = false := by simp [hle]
    have HLE := hide hle
    clear hle
    go_enter Tryz.func47, Tryz.ntmps47
    go_wp2
    go_loopw [5] (fun i wr => ∃ k : Nat, k ≤ ss.length ∧ i = .int .i64 k ∧ Hid (∀ j (h : j < ss.length) (h' : j < tt.length), j < k → ss[j] = tt[j]) ∧ Hid (Below w.heap.size w wr)) (fun i _ => ss.length - (intOf i).toNat)
    case atStart => exact ⟨0, Nat.zero_le _, rfl, hide (fun j _ _ h => by omega), hide (Below.refl _ _)⟩
    case round =>
      obtain ⟨k, hk, rfl, HA, HB⟩ := hrel
      by_cases hlt : k < ss.length
      · have hlt' : k < tt.length := by rw [← unhide HLE]; exact hlt
        obtain ⟨b, off, rfl, hc, hz⟩ := (unhide HC).below (unhide HB) k hlt
        obtain ⟨b', off', rfl, hc', hz'⟩ := (unhide HD).below (unhide HB) k hlt'
        clear hz hz'
        by_cases he : ss[k] = tt[k]
        · have HN := hide (eq_succ hlt hlt' (unhide HA) he)
          have be : (ss[k].toList == tt[k].toList) = true := by simp [he]
          clear he
          go_wp2
          go_quiet (fail)
          go_wp2
          go_roundw
          case rel => exact ⟨k + 1, by omega, by go_num, HN, hide ((unhide HB).trans (Joins.below_draws _ _ _))⟩
          case measure => simp [intOf]; omega
        · have H := hide (eqSB_false hlt hlt' he)
          have be : (ss[k].toList == tt[k].toList) = false := str_beq_false he
          clear he
          go_wp2
          go_quiet (fail)
          go_wp2
          go_ret
          exact ⟨ret_bool (unhide H).symm, (unhide HB).trans (Joins.below_draws _ _ _)⟩
      · have H := hide (eqSB_true (unhide HLE) (fun j h h' => unhide HA j h h' (by omega)))
        go_wp2
        go_ret
        exact ⟨ret_bool (unhide H).symm, unhide HB⟩
  · have hb : ((ss.length : Int) != (tt.length : Int)) = true := by simp; omega
    have H := hide (eqSB_false_len hle)
    clear hle
    go_enter Tryz.func47, Tryz.ntmps47
    go_wp2
    go_ret
    exact ⟨ret_bool (unhide H).symm, Below.refl _ _⟩

end Go.Proofs.YtpdpnepnfhbonaaGreat

namespace Go.Proofs.YtpdpnepnfhbonaaGreat
open Go.RowKit
set_option linter.unusedVariables false
set_option maxRecDepth 100000

set_option maxHeartbeats 1600000 in
theorem eqReply_same (r : Rp) (no mo : Option Addr) (nc mc : Nat) (w : World) (hl : r.ns.length ≤ maxLen) (h1 : Ss w no r.ns) (h2 : Ss w mo r.ns) :
    Calls Tryz.prog 21 #[rpV r no nc, rpV r mo mc] w fun e w' => e = .returned (.bool true) ∧ Below w.heap.size w w' := by
  have HA := hide (Joins.below_alloc2 w (.cells #[.int .i64 r.c, .int .i64 r.v, .slice no r.ns.length nc] 46) (.cells #[.int .i64 r.c, .int .i64 r.v, .slice mo r.ns.length mc] 46))
  have H1 := hide (h1.below (unhide HA))
  have H2 := hide (h2.below (unhide HA))
  have HEQ : eqSB r.ns r.ns = true := decide_eq_true rfl
  have bc : (r.c != r.c) = false := by simp
  have bv : (r.v != r.v) = false := by simp
  clear h1 h2
  go_enter Tryz.func21, Tryz.ntmps21
  go_wp2_with fail
  refine (eqStringS_any no mo nc mc r.ns r.ns _ hl (unhide H1) (unhide H2)).mono ?_
  rintro e w1 ⟨rfl, hb⟩
  rw [HEQ]
  have HB := hide (fr (unhide HA) hb)
  clear hb
  go_wp2
  go_ret
  exact ⟨rfl, unhide HB⟩

set_option maxHeartbeats 1600000 in
theorem markReply_any (r : Rp) (no : Option Addr) (nc k : Nat) (xs : List Value) (B : Nat) (w : World) (hn : r.ns.length ≤ 1000) (hk0 : 0 < k) (hk1 : k ≤ 268435456) (hB : B ≤ w.heap.size) (ho : OwnR w B 9 1 (.slice no r.ns.length nc) r.ns.length xs) :
    Calls Tryz.prog 22 #[rpV r no nc, .int .i64 k] w fun e w' => e = .returned (.int .i64 ((k + r.ns.length : Nat) : Int)) ∧ OwnR w' B 9 1 (.slice no r.ns.length nc) r.ns.length (strV (mkS k r.ns.length)) ∧ Keep (Own (.slice no r.ns.length nc)) w w' := by
  have HA := hide (Joins.below_alloc1 w (.cells #[.int .i64 r.c, .int .i64 r.v, .slice no r.ns.length nc] 46))
  have HO := hide (OwnR.below ho (unhide HA))
  clear ho
  go_enter Tryz.func22, Tryz.ntmps22
  go_wp2_with fail
  refine (markStringS_any _ r.ns.length k xs B _ (by omega) hk0 hk1 (unhide HO)).mono ?_
  rintro e w1 ⟨rfl, ho1, hk⟩
  have HK := hide ((Keep.of_below (S := Own (.slice no r.ns.length nc)) (unhide HA)).trans hk)
  have HO1 := hide ho1
  clear ho1 hk
  go_wp2
  go_ret
  exact ⟨rfl, unhide HO1, unhide HK⟩

set_option maxHeartbeats 1600000 in
theorem heldReply_any (r : Rp) (no : Option Addr) (nc k : Nat) (B : Nat) (w : World) (hn : r.ns.length ≤ 1000) (hk0 : 0 < k) (hk1 : k ≤ 268435456) (ho : OwnR w B 9 1 (.slice no r.ns.length nc) r.ns.length (strV (mkS k r.ns.length))) :
    Calls Tryz.prog 24 #[rpV r no nc, .int .i64 k] w fun e w' => e = .returned (.int .i64 ((k + r.ns.length : Nat) : Int)) ∧ Below w.heap.size w w' := by
  have HA := hide (Joins.below_alloc1 w (.cells #[.int .i64 r.c, .int .i64 r.v, .slice no r.ns.length nc] 46))
  have HO := hide (OwnR.below ho (unhide HA))
  have hk2 : ¬ (((k + r.ns.length : Nat) : Int) < 0) := by omega
  clear ho
  go_enter Tryz.func24, Tryz.ntmps24
  go_wp2_with fail
  refine (heldStringS_any _ r.ns.length k B _ (by omega) hk0 hk1 (unhide HO)).mono ?_
  rintro e w1 ⟨rfl, hb⟩
  have HB := hide (fr (unhide HA) hb)
  clear hb
  go_wp2
  go_ret
  exact ⟨rfl, unhide HB⟩

end Go.Proofs.YtpdpnepnfhbonaaGreat

namespace Go.Proofs.YtpdpnepnfhbonaaGreat
open Go.RowKit
set_option linter.unusedVariables false
set_option maxRecDepth 100000

set_option maxHeartbeats 1600000 in
theorem toReq_any (q : Rq) (w : World) : Calls Tryz.prog 19 #[qV q] w fun e w' => e = .returned (qV q) ∧ Below w.heap.size w w' := by
  go_enter Tryz.func19, Tryz.ntmps19
  go_wp2
  exact bodyPost_ret (v := qV q) (by simp [results, Tryz.results19, go_sem]) rfl ⟨rfl, fr (Joins.below_alloc2 _ _ _) (Joins.below_alloc1 _ _)⟩

set_option maxHeartbeats 1600000 in
theorem szReq_any (q : Rq) (left : Int) (w : World) (hz : q.n.size ≤ maxLen) (h0 : 0 ≤ left) (h1 : left ≤ 1048576) :
    Calls Tryz.prog 17 #[qV q, .int .i64 left] w fun e w' => ∃ r : Int, e = .returned (.int .i64 r) ∧ -1 ≤ r ∧ r ≤ left ∧ (0 ≤ r → (q.n.size : Int) ≤ left) ∧ Below w.heap.size w w' := by
  unfold maxLen at hz
  have wr1 : IntKind.i64.wrap (left - (q.n.size : Int)) = left - (q.n.size : Int) := by rw [IntKind.wrap_i64]; omega
  by_cases h : left - (q.n.size : Int) < 0
  · go_enter Tryz.func17, Tryz.ntmps17
    go_wp2
    go_ret
    exact ⟨-1, rfl, by omega, by omega, by omega, Joins.below_alloc1 _ _⟩
  · go_enter Tryz.func17, Tryz.ntmps17
    go_wp2
    go_ret
    exact ⟨_, rfl, by omega, by omega, by omega, Joins.below_alloc1 _ _⟩

end Go.Proofs.YtpdpnepnfhbonaaGreat

namespace Go.Proofs.YtpdpnepnfhbonaaGreat
open Go.RowKit
set_option linter.unusedVariables false

section
variable {P : Program}
def linC (l : List Oper) : Bool := (List.range l.length).all fun i => ((l[i]?).map fun o => o.after.all fun e => decide (e.on < i) || !Region.binds .any e).getD true
theorem linC_spec {l : List Oper} (h : linC l = true) {i : Nat} {o : Oper} (hi : l[i]? = some o) {e : Edge} (he : e ∈ o.after) (hb : Region.binds .any e = true) : e.on < i := by
  have hl := (List.getElem?_eq_some_iff.1 hi).1
  have := List.all_eq_true.1 h i (List.mem_range.2 hl)
  rw [hi] at this
  simp only [Option.map_some, Option.getD_some] at this
  have := Array.all_eq_true_iff_forall_mem.1 this e he
  rw [hb] at this
  simpa using this

theorem wp_region_inv3 {id : Nat} {Q : Exit → Act → World → Prop} {a : Act} {w : World} {l : List Oper} (I : (Nat → Bool) → Act → World → Prop) (hm : P.follows .mixedOrders = true) (hl : linC l = true)
    (hg : ∀ (i : Nat) (o : Oper), l[i]? = some o → o.guard = none)
    (h0 : I (fun _ => false) a { w with drawn := w.drawn + 1 })
    (hs : ∀ (d : Nat → Bool) (a : Act) (w : World) (i : Nat) (o : Oper), I d a w → l[i]? = some o → d i = false → (∀ e ∈ o.after, Region.binds .any e = true → d e.on = true) → ∀ K : Act → World → Prop, (∀ a' w', I (updD d i) a' w' → K a' w') → o.wp P a w K Q)
    (he : ∀ (d : Nat → Bool) (a : Act) (w : World), I d a w → (∀ i, i < l.length → d i = true) → Q .normal a w) : (Code.region id l.toArray true).wp P Q a w := by
  refine wp_region_any hm ?_
  have key : ∀ (fuel : Nat) (listed : Array Bool) (a : Act) (w : World), listed.size = l.length → ((List.range l.length).filter fun i => !listed.getD i true).length ≤ fuel → I (fun j => listed.getD j true && decide (j < l.length)) a w → wpAny P .any l.toArray Q fuel listed a w := by
    intro fuel
    induction fuel with
    | zero =>
      intro listed a w hsz hn hI
      have hall : ∀ i, i < l.length → listed.getD i true = true := fun i hi => by
        cases h : listed.getD i true with
        | true => rfl
        | false =>
          have : i ∈ (List.range l.length).filter fun i => !listed.getD i true := List.mem_filter.2 ⟨List.mem_range.2 hi, by rw [h]; rfl⟩
          have := List.length_pos_of_mem this
          omega
      refine ⟨?_, he _ _ _ hI (fun i hi => by rw [hall i hi]; simp [hi])⟩
      rw [List.eq_nil_iff_forall_not_mem]
      intro i hi
      obtain ⟨h1, o, ho, _⟩ := mem_ready.1 hi
      have hil : i < l.length := by have := (Array.getElem?_eq_some_iff.1 ho).1; simpa using this
      rw [hall i hil] at h1
      cases h1
    | succ fuel ih =>
      intro listed a w hsz hn hI
      refine ⟨fun hr => he _ _ _ hI ?_, fun i hi => ?_⟩
      · have : ∀ n, ∀ i, i < n → i < l.length → listed.getD i true = true := by
          intro n
          induction n with
          | zero => intro i hi; omega
          | succ n ihn =>
            intro i hi hil
            by_cases hin : i < n
            · exact ihn i hin hil
            obtain rfl : i = n := by omega
            cases h : listed.getD i true with
            | true => rfl
            | false =>
              have hm' : i ∈ Region.ready .any l.toArray listed := mem_ready.2 ⟨h, l[i], by simp [hil], fun e he hb => by
                have hlt := linC_spec hl (List.getElem?_eq_getElem hil) he hb
                have h1 := ihn e.on hlt (by omega)
                have hz : e.on < listed.size := by omega
                rw [Array.getD_eq_getD_getElem?, Array.getElem?_eq_getElem hz] at h1 ⊢
                simpa only [Option.getD_some] using h1⟩
              rw [hr] at hm'
              cases hm'
        intro i hil
        rw [this (i + 1) i (by omega) hil]
        simp [hil]
      · obtain ⟨h1, o, ho, hp⟩ := mem_ready.1 hi
        have hil : i < l.length := by have := (Array.getElem?_eq_some_iff.1 ho).1; simpa using this
        have hoL : l[i]? = some o := by simpa using ho
        unfold wpOp
        simp only [ho]
        have hw : Region.wanted o (yielded l.toArray a.tmps) = true := by simp [Region.wanted, hg i o hoL]
        rw [if_pos hw]
        refine .inl (hs _ a w i o hI hoL (by rw [h1]; rfl) (fun e he hb => ?_) _ (fun a' w' hI' => ?_))
        · have h2 := hp e he hb
          have hlt := linC_spec hl hoL he hb
          have : e.on < listed.size := by omega
          rw [Array.getD_eq_getD_getElem?, Array.getElem?_eq_getElem this] at h2 ⊢
          simp only [Option.getD_some] at h2 ⊢
          rw [h2]
          simp
          omega
        · refine ih _ a' w' (by simpa using hsz) ?_ ?_
          · have hlt : ((List.range l.length).filter fun j => !(listed.setIfInBounds i true).getD j true).length < ((List.range l.length).filter fun j => !listed.getD j true).length := by
              have hsub : ((List.range l.length).filter fun j => !(listed.setIfInBounds i true).getD j true) = ((List.range l.length).filter fun j => !listed.getD j true).filter fun j => decide (j ≠ i) := by
                rw [List.filter_filter]
                congr 1
                funext j
                by_cases hji : j = i
                · subst hji
                  simp [Array.getD_eq_getD_getElem?, hsz, hil]
                · have : i ≠ j := fun e => hji e.symm
                  simp [Array.getD_eq_getD_getElem?, this, hji]
              rw [hsub]
              refine Nat.lt_of_le_of_ne (List.length_filter_le _ _) (fun e => ?_)
              have := List.length_filter_eq_length_iff.1 e i (List.mem_filter.2 ⟨List.mem_range.2 hil, by rw [h1]; rfl⟩)
              simp at this
            omega
          · have e : (fun j => (listed.setIfInBounds i true).getD j true && decide (j < l.length)) = updD (fun j => listed.getD j true && decide (j < l.length)) i := by
              funext j
              unfold updD
              by_cases hji : j = i
              · subst hji
                simp [Array.getD_eq_getD_getElem?, hsz, hil]
              · have : i ≠ j := fun e => hji e.symm
                simp [Array.getD_eq_getD_getElem?, this, hji]
            rw [e]
            exact hI'
  refine key _ _ _ _ (by simp) ?_ ?_
  · refine Nat.le_trans (List.length_filter_le _ _) ?_
    simp
  · have e : (fun j => (Array.replicate l.toArray.size false).getD j true && decide (j < l.length)) = fun _ => false := by
      funext j
      by_cases hj : j < l.length
      · simp [Array.getD_eq_getD_getElem?, hj]
      · simp [hj]
    rw [e]
    exact h0
theorem wp_region_inv4 {id : Nat} {Q : Exit → Act → World → Prop} {a : Act} {w : World} {l : List Oper} (I : (Nat → Bool) → Act → World → Prop) (hm : P.follows .mixedOrders = true) (hl : linC l = true)
    (hg : ∀ (i : Nat) (o : Oper), l[i]? = some o → o.guard = none)
    (h0 : I (fun _ => false) a { w with drawn := w.drawn + 1 })
    (hs : ∀ (d : Nat → Bool) (a : Act) (w : World) (i : Nat) (o : Oper), Closed l d → I d a w → l[i]? = some o → d i = false → (∀ e ∈ o.after, Region.binds .any e = true → d e.on = true) → ∀ K : Act → World → Prop, (∀ a' w', I (updD d i) a' w' → K a' w') → o.wp P a w K Q)
    (he : ∀ (d : Nat → Bool) (a : Act) (w : World), I d a w → (∀ i, i < l.length → d i = true) → Q .normal a w) : (Code.region id l.toArray true).wp P Q a w := by
  refine wp_region_inv3 (fun d a w => Closed l d ∧ I d a w) hm hl hg ⟨fun j o _ h => (by cases h), h0⟩ (fun d a w i o hI ho hd hp K hK => ?_) (fun d a w hI hall => he d a w hI.2 hall)
  refine hs d a w i o hI.1 hI.2 ho hd hp K (fun a' w' hI' => hK a' w' ⟨fun j oj hj hd' e he' hb => ?_, hI'⟩)
  simp only [updD, Bool.or_eq_true, decide_eq_true_eq] at hd' ⊢
  rcases hd' with hd' | rfl
  · exact .inl (hI.1 j oj hj hd' e he' hb)
  · rw [ho] at hj
    cases hj
    exact .inl (hp e he' hb)
end

end Go.Proofs.YtpdpnepnfhbonaaGreat

namespace Go.Proofs.YtpdpnepnfhbonaaGreat
open Go.RowKit
set_option linter.unusedVariables false
set_option maxRecDepth 100000

def usV (q : Rq) : Value :=
  if q.k = 1 then .iface 113 (.agg #[.int .i64 q.g])
  else if q.k = 2 then .iface 117 (.agg #[.int .i64 q.g, .int .i64 q.v])
  else if q.k = 3 then .iface 119 (.agg #[.int .i64 q.g])
  else if q.k = 4 then .iface 121 (.agg #[.int .i64 q.g])
  else if q.k = 5 then .iface 123 (.agg #[.string q.n])
  else if q.k = 6 then .iface 124 (.agg #[.string q.n])
  else if q.k = 7 then .iface 125 (.agg #[.string q.n])
  else .iface 129 (.agg #[])

theorem us_1 {q : Rq} (h : q.k = 1) : usV q = .iface 113 (.agg #[.int .i64 q.g]) := by
  unfold usV
  rw [if_pos h]
theorem pl_1 {q : Rq} (h : q.k = 1) : qV (plR q) = .agg #[.int .i64 1, .int .i64 q.g, .int .i64 0, .string ⟨#[]⟩] := by
  unfold plR
  rw [if_pos h]
theorem us_2 {q : Rq} (h : q.k = 2) : usV q = .iface 117 (.agg #[.int .i64 q.g, .int .i64 q.v]) := by
  unfold usV
  rw [if_neg (by omega), if_pos h]
theorem pl_2 {q : Rq} (h : q.k = 2) : qV (plR q) = .agg #[.int .i64 2, .int .i64 q.g, .int .i64 q.v, .string ⟨#[]⟩] := by
  unfold plR
  rw [if_neg (by omega), if_pos h]
theorem us_3 {q : Rq} (h : q.k = 3) : usV q = .iface 119 (.agg #[.int .i64 q.g]) := by
  unfold usV
  rw [if_neg (by omega), if_neg (by omega), if_pos h]
theorem pl_3 {q : Rq} (h : q.k = 3) : qV (plR q) = .agg #[.int .i64 3, .int .i64 q.g, .int .i64 0, .string ⟨#[]⟩] := by
  unfold plR
  rw [if_neg (by omega), if_neg (by omega), if_pos h]
theorem us_4 {q : Rq} (h : q.k = 4) : usV q = .iface 121 (.agg #[.int .i64 q.g]) := by
  unfold usV
  rw [if_neg (by omega), if_neg (by omega), if_neg (by omega), if_pos h]
theorem pl_4 {q : Rq} (h : q.k = 4) : qV (plR q) = .agg #[.int .i64 4, .int .i64 q.g, .int .i64 0, .string ⟨#[]⟩] := by
  unfold plR
  rw [if_neg (by omega), if_neg (by omega), if_neg (by omega), if_pos h]
theorem us_5 {q : Rq} (h : q.k = 5) : usV q = .iface 123 (.agg #[.string q.n]) := by
  unfold usV
  rw [if_neg (by omega), if_neg (by omega), if_neg (by omega), if_neg (by omega), if_pos h]
theorem pl_5 {q : Rq} (h : q.k = 5) : qV (plR q) = .agg #[.int .i64 5, .int .i64 0, .int .i64 0, .string q.n] := by
  unfold plR
  rw [if_neg (by omega), if_neg (by omega), if_neg (by omega), if_neg (by omega), if_pos h]
theorem us_6 {q : Rq} (h : q.k = 6) : usV q = .iface 124 (.agg #[.string q.n]) := by
  unfold usV
  rw [if_neg (by omega), if_neg (by omega), if_neg (by omega), if_neg (by omega), if_neg (by omega), if_pos h]
theorem pl_6 {q : Rq} (h : q.k = 6) : qV (plR q) = .agg #[.int .i64 6, .int .i64 0, .int .i64 0, .string q.n] := by
  unfold plR
  rw [if_neg (by omega), if_neg (by omega), if_neg (by omega), if_neg (by omega), if_neg (by omega), if_pos h]
theorem us_7 {q : Rq} (h : q.k = 7) : usV q = .iface 125 (.agg #[.string q.n]) := by
  unfold usV
  rw [if_neg (by omega), if_neg (by omega), if_neg (by omega), if_neg (by omega), if_neg (by omega), if_neg (by omega), if_pos h]
theorem pl_7 {q : Rq} (h : q.k = 7) : qV (plR q) = .agg #[.int .i64 7, .int .i64 0, .int .i64 0, .string q.n] := by
  unfold plR
  rw [if_neg (by omega), if_neg (by omega), if_neg (by omega), if_neg (by omega), if_neg (by omega), if_neg (by omega), if_pos h]
theorem us_8 {q : Rq} (h : ¬ q.k = 1 ∧ ¬ q.k = 2 ∧ ¬ q.k = 3 ∧ ¬ q.k = 4 ∧ ¬ q.k = 5 ∧ ¬ q.k = 6 ∧ ¬ q.k = 7) : usV q = .iface 129 (.agg #[]) := by
  unfold usV
  rw [if_neg (by omega), if_neg (by omega), if_neg (by omega), if_neg (by omega), if_neg (by omega), if_neg (by omega), if_neg (by omega)]
theorem pl_8 {q : Rq} (h : ¬ q.k = 1 ∧ ¬ q.k = 2 ∧ ¬ q.k = 3 ∧ ¬ q.k = 4 ∧ ¬ q.k = 5 ∧ ¬ q.k = 6 ∧ ¬ q.k = 7) : qV (plR q) = .agg #[.int .i64 8, .int .i64 0, .int .i64 0, .string ⟨#[]⟩] := by
  unfold plR
  rw [if_neg (by omega), if_neg (by omega), if_neg (by omega), if_neg (by omega), if_neg (by omega), if_neg (by omega), if_neg (by omega)]
theorem rq_8 (q : Rq) : q.k = 1 ∨ q.k = 2 ∨ q.k = 3 ∨ q.k = 4 ∨ q.k = 5 ∨ q.k = 6 ∨ q.k = 7 ∨ (¬ q.k = 1 ∧ ¬ q.k = 2 ∧ ¬ q.k = 3 ∧ ¬ q.k = 4 ∧ ¬ q.k = 5 ∧ ¬ q.k = 6 ∧ ¬ q.k = 7) := by omega
abbrev VarR (w : World) (x : Nat) (q : Rq) : Prop := VarM w x 49 (.int .i64 q.k) (.int .i64 q.g) (.int .i64 q.v) (.string q.n)

set_option maxHeartbeats 3200000 in
theorem useOf_any (q : Rq) (w : World) : Calls Tryz.prog 46 #[qV q] w fun e w' => e = .returned (usV q) ∧ Below w.heap.size w w' := by
  have HA := hide (Joins.below_alloc1 w (.cells #[.int .i64 q.k, .int .i64 q.g, .int .i64 q.v, .string q.n] 49))
  have HV := hide (VarM.new w 49 (.int .i64 q.k) (.int .i64 q.g) (.int .i64 q.v) (.string q.n))
  obtain ⟨R, HR⟩ : ∃ R, Hid (R = usV q) := ⟨_, hide rfl⟩
  rw [← unhide HR]
  go_enter Tryz.func46, Tryz.ntmps46
  go_upto_region 1 with fail
  revert HA HV
  generalize (w.alloc _) = W0
  intro HA HV
  obtain ⟨c0, c1, c2, c3⟩ := (unhide HV).cells
  rcases rq_8 q with h | h | h | h | h | h | h | h
  · have HX := hide ((unhide HR).trans (us_1 h))
    rw [h] at c0
    clear HR h
    go_wp2
    go_ret
    exact ⟨by rw [unhide HX]; rfl, unhide HA⟩
  · have HX := hide ((unhide HR).trans (us_2 h))
    rw [h] at c0
    clear HR h
    go_wp2
    go_ret
    exact ⟨by rw [unhide HX]; rfl, unhide HA⟩
  · have HX := hide ((unhide HR).trans (us_3 h))
    rw [h] at c0
    clear HR h
    go_wp2
    go_ret
    exact ⟨by rw [unhide HX]; rfl, unhide HA⟩
  · have HX := hide ((unhide HR).trans (us_4 h))
    rw [h] at c0
    clear HR h
    go_wp2
    go_ret
    exact ⟨by rw [unhide HX]; rfl, unhide HA⟩
  · have HX := hide ((unhide HR).trans (us_5 h))
    rw [h] at c0
    clear HR h
    go_wp2
    go_ret
    exact ⟨by rw [unhide HX]; rfl, unhide HA⟩
  · have HX := hide ((unhide HR).trans (us_6 h))
    rw [h] at c0
    clear HR h
    go_wp2
    go_ret
    exact ⟨by rw [unhide HX]; rfl, unhide HA⟩
  · have HX := hide ((unhide HR).trans (us_7 h))
    rw [h] at c0
    clear HR h
    go_wp2
    go_ret
    exact ⟨by rw [unhide HX]; rfl, unhide HA⟩
  · have HX := hide ((unhide HR).trans (us_8 h))
    have b1 : (q.k == 1) = false := by rw [beq_eq_false_iff_ne]; omega
    have b2 : (q.k == 2) = false := by rw [beq_eq_false_iff_ne]; omega
    have b3 : (q.k == 3) = false := by rw [beq_eq_false_iff_ne]; omega
    have b4 : (q.k == 4) = false := by rw [beq_eq_false_iff_ne]; omega
    have b5 : (q.k == 5) = false := by rw [beq_eq_false_iff_ne]; omega
    have b6 : (q.k == 6) = false := by rw [beq_eq_false_iff_ne]; omega
    have b7 : (q.k == 7) = false := by rw [beq_eq_false_iff_ne]; omega
    clear HR h
    go_wp2
    go_ret
    exact ⟨by rw [unhide HX]; rfl, unhide HA⟩

theorem as_1_1 (v : Value) (W : World) : (Instr.typeAssert (.iface 113 v) 20 113 true).run Tryz.prog W = .ok (.tuple #[v, .bool true]) W := by kernel_rfl
theorem as_2_1 (v : Value) (W : World) : (Instr.typeAssert (.iface 117 v) 20 113 true).run Tryz.prog W = .ok (.tuple #[.agg #[.int .i64 0], .bool false]) W := by kernel_rfl
theorem as_2_2 (v : Value) (W : World) : (Instr.typeAssert (.iface 117 v) 20 117 true).run Tryz.prog W = .ok (.tuple #[v, .bool true]) W := by kernel_rfl
theorem as_3_1 (v : Value) (W : World) : (Instr.typeAssert (.iface 119 v) 20 113 true).run Tryz.prog W = .ok (.tuple #[.agg #[.int .i64 0], .bool false]) W := by kernel_rfl
theorem as_3_2 (v : Value) (W : World) : (Instr.typeAssert (.iface 119 v) 20 117 true).run Tryz.prog W = .ok (.tuple #[.agg #[.int .i64 0, .int .i64 0], .bool false]) W := by kernel_rfl
theorem as_3_3 (v : Value) (W : World) : (Instr.typeAssert (.iface 119 v) 20 119 true).run Tryz.prog W = .ok (.tuple #[v, .bool true]) W := by kernel_rfl
theorem as_4_1 (v : Value) (W : World) : (Instr.typeAssert (.iface 121 v) 20 113 true).run Tryz.prog W = .ok (.tuple #[.agg #[.int .i64 0], .bool false]) W := by kernel_rfl
theorem as_4_2 (v : Value) (W : World) : (Instr.typeAssert (.iface 121 v) 20 117 true).run Tryz.prog W = .ok (.tuple #[.agg #[.int .i64 0, .int .i64 0], .bool false]) W := by kernel_rfl
theorem as_4_3 (v : Value) (W : World) : (Instr.typeAssert (.iface 121 v) 20 119 true).run Tryz.prog W = .ok (.tuple #[.agg #[.int .i64 0], .bool false]) W := by kernel_rfl
theorem as_4_4 (v : Value) (W : World) : (Instr.typeAssert (.iface 121 v) 20 121 true).run Tryz.prog W = .ok (.tuple #[v, .bool true]) W := by kernel_rfl
theorem as_5_1 (v : Value) (W : World) : (Instr.typeAssert (.iface 123 v) 20 113 true).run Tryz.prog W = .ok (.tuple #[.agg #[.int .i64 0], .bool false]) W := by kernel_rfl
theorem as_5_2 (v : Value) (W : World) : (Instr.typeAssert (.iface 123 v) 20 117 true).run Tryz.prog W = .ok (.tuple #[.agg #[.int .i64 0, .int .i64 0], .bool false]) W := by kernel_rfl
theorem as_5_3 (v : Value) (W : World) : (Instr.typeAssert (.iface 123 v) 20 119 true).run Tryz.prog W = .ok (.tuple #[.agg #[.int .i64 0], .bool false]) W := by kernel_rfl
theorem as_5_4 (v : Value) (W : World) : (Instr.typeAssert (.iface 123 v) 20 121 true).run Tryz.prog W = .ok (.tuple #[.agg #[.int .i64 0], .bool false]) W := by kernel_rfl
theorem as_5_5 (v : Value) (W : World) : (Instr.typeAssert (.iface 123 v) 20 123 true).run Tryz.prog W = .ok (.tuple #[v, .bool true]) W := by kernel_rfl
theorem as_6_1 (v : Value) (W : World) : (Instr.typeAssert (.iface 124 v) 20 113 true).run Tryz.prog W = .ok (.tuple #[.agg #[.int .i64 0], .bool false]) W := by kernel_rfl
theorem as_6_2 (v : Value) (W : World) : (Instr.typeAssert (.iface 124 v) 20 117 true).run Tryz.prog W = .ok (.tuple #[.agg #[.int .i64 0, .int .i64 0], .bool false]) W := by kernel_rfl
theorem as_6_3 (v : Value) (W : World) : (Instr.typeAssert (.iface 124 v) 20 119 true).run Tryz.prog W = .ok (.tuple #[.agg #[.int .i64 0], .bool false]) W := by kernel_rfl
theorem as_6_4 (v : Value) (W : World) : (Instr.typeAssert (.iface 124 v) 20 121 true).run Tryz.prog W = .ok (.tuple #[.agg #[.int .i64 0], .bool false]) W := by kernel_rfl
theorem as_6_5 (v : Value) (W : World) : (Instr.typeAssert (.iface 124 v) 20 123 true).run Tryz.prog W = .ok (.tuple #[.agg #[.string ⟨#[]⟩], .bool false]) W := by kernel_rfl
theorem as_6_6 (v : Value) (W : World) : (Instr.typeAssert (.iface 124 v) 20 124 true).run Tryz.prog W = .ok (.tuple #[v, .bool true]) W := by kernel_rfl
theorem as_7_1 (v : Value) (W : World) : (Instr.typeAssert (.iface 125 v) 20 113 true).run Tryz.prog W = .ok (.tuple #[.agg #[.int .i64 0], .bool false]) W := by kernel_rfl
theorem as_7_2 (v : Value) (W : World) : (Instr.typeAssert (.iface 125 v) 20 117 true).run Tryz.prog W = .ok (.tuple #[.agg #[.int .i64 0, .int .i64 0], .bool false]) W := by kernel_rfl
theorem as_7_3 (v : Value) (W : World) : (Instr.typeAssert (.iface 125 v) 20 119 true).run Tryz.prog W = .ok (.tuple #[.agg #[.int .i64 0], .bool false]) W := by kernel_rfl
theorem as_7_4 (v : Value) (W : World) : (Instr.typeAssert (.iface 125 v) 20 121 true).run Tryz.prog W = .ok (.tuple #[.agg #[.int .i64 0], .bool false]) W := by kernel_rfl
theorem as_7_5 (v : Value) (W : World) : (Instr.typeAssert (.iface 125 v) 20 123 true).run Tryz.prog W = .ok (.tuple #[.agg #[.string ⟨#[]⟩], .bool false]) W := by kernel_rfl
theorem as_7_6 (v : Value) (W : World) : (Instr.typeAssert (.iface 125 v) 20 124 true).run Tryz.prog W = .ok (.tuple #[.agg #[.string ⟨#[]⟩], .bool false]) W := by kernel_rfl
theorem as_7_7 (v : Value) (W : World) : (Instr.typeAssert (.iface 125 v) 20 125 true).run Tryz.prog W = .ok (.tuple #[v, .bool true]) W := by kernel_rfl
theorem as_8_1 (v : Value) (W : World) : (Instr.typeAssert (.iface 129 v) 20 113 true).run Tryz.prog W = .ok (.tuple #[.agg #[.int .i64 0], .bool false]) W := by kernel_rfl
theorem as_8_2 (v : Value) (W : World) : (Instr.typeAssert (.iface 129 v) 20 117 true).run Tryz.prog W = .ok (.tuple #[.agg #[.int .i64 0, .int .i64 0], .bool false]) W := by kernel_rfl
theorem as_8_3 (v : Value) (W : World) : (Instr.typeAssert (.iface 129 v) 20 119 true).run Tryz.prog W = .ok (.tuple #[.agg #[.int .i64 0], .bool false]) W := by kernel_rfl
theorem as_8_4 (v : Value) (W : World) : (Instr.typeAssert (.iface 129 v) 20 121 true).run Tryz.prog W = .ok (.tuple #[.agg #[.int .i64 0], .bool false]) W := by kernel_rfl
theorem as_8_5 (v : Value) (W : World) : (Instr.typeAssert (.iface 129 v) 20 123 true).run Tryz.prog W = .ok (.tuple #[.agg #[.string ⟨#[]⟩], .bool false]) W := by kernel_rfl
theorem as_8_6 (v : Value) (W : World) : (Instr.typeAssert (.iface 129 v) 20 124 true).run Tryz.prog W = .ok (.tuple #[.agg #[.string ⟨#[]⟩], .bool false]) W := by kernel_rfl
theorem as_8_7 (v : Value) (W : World) : (Instr.typeAssert (.iface 129 v) 20 125 true).run Tryz.prog W = .ok (.tuple #[.agg #[.string ⟨#[]⟩], .bool false]) W := by kernel_rfl
theorem res_q {fn : Func} {p : Tmp} {v0 v1 v2 v3 : Value} {x : Nat} {W : World} {tmps : Array Value} (h : fn.results = #[.cell p 49]) (hp : tmps.getD p undef = .pointer (some ⟨x, 0, none⟩)) (hv : W.heap[x]? = some (.cells #[v0, v1, v2, v3] 49 (0, 0))) :
    (results fn tmps).run Tryz.prog W = .ok (.agg #[v0, v1, v2, v3]) W := by
  obtain ⟨c0, c1, c2, c3⟩ := VarM.cells (t := 49) hv
  rw [Array.getD_eq_getD_getElem?] at hp
  simp [results, h, hp, go_sem, c0, c1, c2, c3]
theorem VarM.put4 {w W : World} {x t : Nat} {u0 u1 u2 u3 : Value} (h : VarM W x t u0 u1 u2 u3) (hb : Below w.heap.size w W) (hx : w.heap.size ≤ x) (v0 v1 v2 v3 : Value) :
    VarM ((((W.setCell ⟨x, 0, none⟩ v0).setCell ⟨x, 1, none⟩ v1).setCell ⟨x, 2, none⟩ v2).setCell ⟨x, 3, none⟩ v3) x t v0 v1 v2 v3 ∧ Below w.heap.size w ((((W.setCell ⟨x, 0, none⟩ v0).setCell ⟨x, 1, none⟩ v1).setCell ⟨x, 2, none⟩ v2).setCell ⟨x, 3, none⟩ v3) :=
  ⟨(((h.set0 _).set1 _).set2 _).set3 _, (((hb.setCell (p := ⟨x, 0, none⟩) hx _).setCell (p := ⟨x, 1, none⟩) hx _).setCell (p := ⟨x, 2, none⟩) hx _).setCell (p := ⟨x, 3, none⟩) hx _⟩

set_option maxHeartbeats 6400000 in
theorem plainReq_any (q : Rq) (w : World) : Calls Tryz.prog 80 #[usV q] w fun e w' => e = .returned (qV (plR q)) ∧ Below w.heap.size w w' := by
  have HA := hide (Joins.below_alloc1 w (.cells #[.int .i64 0, .int .i64 0, .int .i64 0, .string ⟨#[]⟩] 49))
  have HV := hide (VarM.new w 49 (.int .i64 0) (.int .i64 0) (.int .i64 0) (.string ⟨#[]⟩))
  obtain ⟨R, HR⟩ : ∃ R, Hid (R = qV (plR q)) := ⟨_, hide rfl⟩
  rw [← unhide HR]
  rcases rq_8 q with h | h | h | h | h | h | h | h
  · have HX := hide ((unhide HR).trans (pl_1 h))
    rw [us_1 h]
    clear HR h
    have a1 := as_1_1
    go_enter Tryz.func80, Tryz.ntmps80
    have HA2 := hide (fr (unhide HA) (Joins.below_alloc1 _ (.cells #[.int .i64 q.g] 113)))
    have HV2 := hide ((unhide HV).below (Joins.below_alloc1 _ (.cells #[.int .i64 q.g] 113)))
    have HC0 : Hid (((w.alloc (.cells #[.int .i64 0, .int .i64 0, .int .i64 0, .string ⟨#[]⟩] 49)).alloc (.cells #[.int .i64 q.g] 113)).cell? ⟨w.heap.size + 1, 0, none⟩ = some (.int .i64 q.g)) := hide (by simp)
    go_upto_region 4 with fail
    revert HC0
    revert HV2
    revert HA2
    generalize ((w.alloc _).alloc _) = W2
    intro HA2 HV2 HC0
    have k0 := unhide HC0
    have HP := hide ((unhide HV2).put4 (unhide HA2) (Nat.le_refl _) (.int .i64 1) (.int .i64 q.g) (.int .i64 0) (.string ⟨#[]⟩))
    obtain ⟨c0, c1, c2, c3⟩ := (unhide HV2).cells
    obtain ⟨f0, f1, f2, f3⟩ := (unhide HV2).free
    go_wp2
    refine bodyPost_ret (res_q Tryz.results80 rfl (unhide HP).1) rfl ⟨by rw [unhide HX], (unhide HP).2⟩
  · have HX := hide ((unhide HR).trans (pl_2 h))
    rw [us_2 h]
    clear HR h
    have a1 := as_2_1
    have a2 := as_2_2
    go_enter Tryz.func80, Tryz.ntmps80
    have HA2 := hide (fr (unhide HA) (Joins.below_alloc1 _ (.cells #[.int .i64 q.g, .int .i64 q.v] 117)))
    have HV2 := hide ((unhide HV).below (Joins.below_alloc1 _ (.cells #[.int .i64 q.g, .int .i64 q.v] 117)))
    have HC0 : Hid (((w.alloc (.cells #[.int .i64 0, .int .i64 0, .int .i64 0, .string ⟨#[]⟩] 49)).alloc (.cells #[.int .i64 q.g, .int .i64 q.v] 117)).cell? ⟨w.heap.size + 1, 0, none⟩ = some (.int .i64 q.g)) := hide (by simp)
    have HC1 : Hid (((w.alloc (.cells #[.int .i64 0, .int .i64 0, .int .i64 0, .string ⟨#[]⟩] 49)).alloc (.cells #[.int .i64 q.g, .int .i64 q.v] 117)).cell? ⟨w.heap.size + 1, 1, none⟩ = some (.int .i64 q.v)) := hide (by simp)
    go_upto_region 7 with fail
    revert HC0
    revert HC1
    revert HV2
    revert HA2
    generalize ((w.alloc _).alloc _) = W2
    intro HA2 HV2 HC1 HC0
    have k0 := unhide HC0
    have k1 := unhide HC1
    have HP := hide ((unhide HV2).put4 (unhide HA2) (Nat.le_refl _) (.int .i64 2) (.int .i64 q.g) (.int .i64 q.v) (.string ⟨#[]⟩))
    obtain ⟨c0, c1, c2, c3⟩ := (unhide HV2).cells
    obtain ⟨f0, f1, f2, f3⟩ := (unhide HV2).free
    go_wp2
    refine bodyPost_ret (res_q Tryz.results80 rfl (unhide HP).1) rfl ⟨by rw [unhide HX], (unhide HP).2⟩
  · have HX := hide ((unhide HR).trans (pl_3 h))
    rw [us_3 h]
    clear HR h
    have a1 := as_3_1
    have a2 := as_3_2
    have a3 := as_3_3
    go_enter Tryz.func80, Tryz.ntmps80
    have HA2 := hide (fr (unhide HA) (Joins.below_alloc1 _ (.cells #[.int .i64 q.g] 119)))
    have HV2 := hide ((unhide HV).below (Joins.below_alloc1 _ (.cells #[.int .i64 q.g] 119)))
    have HC0 : Hid (((w.alloc (.cells #[.int .i64 0, .int .i64 0, .int .i64 0, .string ⟨#[]⟩] 49)).alloc (.cells #[.int .i64 q.g] 119)).cell? ⟨w.heap.size + 1, 0, none⟩ = some (.int .i64 q.g)) := hide (by simp)
    go_upto_region 10 with fail
    revert HC0
    revert HV2
    revert HA2
    generalize ((w.alloc _).alloc _) = W2
    intro HA2 HV2 HC0
    have k0 := unhide HC0
    have HP := hide ((unhide HV2).put4 (unhide HA2) (Nat.le_refl _) (.int .i64 3) (.int .i64 q.g) (.int .i64 0) (.string ⟨#[]⟩))
    obtain ⟨c0, c1, c2, c3⟩ := (unhide HV2).cells
    obtain ⟨f0, f1, f2, f3⟩ := (unhide HV2).free
    go_wp2
    refine bodyPost_ret (res_q Tryz.results80 rfl (unhide HP).1) rfl ⟨by rw [unhide HX], (unhide HP).2⟩
  · have HX := hide ((unhide HR).trans (pl_4 h))
    rw [us_4 h]
    clear HR h
    have a1 := as_4_1
    have a2 := as_4_2
    have a3 := as_4_3
    have a4 := as_4_4
    go_enter Tryz.func80, Tryz.ntmps80
    have HA2 := hide (fr (unhide HA) (Joins.below_alloc1 _ (.cells #[.int .i64 q.g] 121)))
    have HV2 := hide ((unhide HV).below (Joins.below_alloc1 _ (.cells #[.int .i64 q.g] 121)))
    have HC0 : Hid (((w.alloc (.cells #[.int .i64 0, .int .i64 0, .int .i64 0, .string ⟨#[]⟩] 49)).alloc (.cells #[.int .i64 q.g] 121)).cell? ⟨w.heap.size + 1, 0, none⟩ = some (.int .i64 q.g)) := hide (by simp)
    go_upto_region 13 with fail
    revert HC0
    revert HV2
    revert HA2
    generalize ((w.alloc _).alloc _) = W2
    intro HA2 HV2 HC0
    have k0 := unhide HC0
    have HP := hide ((unhide HV2).put4 (unhide HA2) (Nat.le_refl _) (.int .i64 4) (.int .i64 q.g) (.int .i64 0) (.string ⟨#[]⟩))
    obtain ⟨c0, c1, c2, c3⟩ := (unhide HV2).cells
    obtain ⟨f0, f1, f2, f3⟩ := (unhide HV2).free
    go_wp2
    refine bodyPost_ret (res_q Tryz.results80 rfl (unhide HP).1) rfl ⟨by rw [unhide HX], (unhide HP).2⟩
  · have HX := hide ((unhide HR).trans (pl_5 h))
    rw [us_5 h]
    clear HR h
    have a1 := as_5_1
    have a2 := as_5_2
    have a3 := as_5_3
    have a4 := as_5_4
    have a5 := as_5_5
    go_enter Tryz.func80, Tryz.ntmps80
    have HA2 := hide (fr (unhide HA) (Joins.below_alloc1 _ (.cells #[.string q.n] 123)))
    have HV2 := hide ((unhide HV).below (Joins.below_alloc1 _ (.cells #[.string q.n] 123)))
    have HC0 : Hid (((w.alloc (.cells #[.int .i64 0, .int .i64 0, .int .i64 0, .string ⟨#[]⟩] 49)).alloc (.cells #[.string q.n] 123)).cell? ⟨w.heap.size + 1, 0, none⟩ = some (.string q.n)) := hide (by simp)
    go_upto_region 16 with fail
    revert HC0
    revert HV2
    revert HA2
    generalize ((w.alloc _).alloc _) = W2
    intro HA2 HV2 HC0
    have k0 := unhide HC0
    have HP := hide ((unhide HV2).put4 (unhide HA2) (Nat.le_refl _) (.int .i64 5) (.int .i64 0) (.int .i64 0) (.string q.n))
    obtain ⟨c0, c1, c2, c3⟩ := (unhide HV2).cells
    obtain ⟨f0, f1, f2, f3⟩ := (unhide HV2).free
    go_wp2
    refine bodyPost_ret (res_q Tryz.results80 rfl (unhide HP).1) rfl ⟨by rw [unhide HX], (unhide HP).2⟩
  · have HX := hide ((unhide HR).trans (pl_6 h))
    rw [us_6 h]
    clear HR h
    have a1 := as_6_1
    have a2 := as_6_2
    have a3 := as_6_3
    have a4 := as_6_4
    have a5 := as_6_5
    have a6 := as_6_6
    go_enter Tryz.func80, Tryz.ntmps80
    have HA2 := hide (fr (unhide HA) (Joins.below_alloc1 _ (.cells #[.string q.n] 124)))
    have HV2 := hide ((unhide HV).below (Joins.below_alloc1 _ (.cells #[.string q.n] 124)))
    have HC0 : Hid (((w.alloc (.cells #[.int .i64 0, .int .i64 0, .int .i64 0, .string ⟨#[]⟩] 49)).alloc (.cells #[.string q.n] 124)).cell? ⟨w.heap.size + 1, 0, none⟩ = some (.string q.n)) := hide (by simp)
    go_upto_region 19 with fail
    revert HC0
    revert HV2
    revert HA2
    generalize ((w.alloc _).alloc _) = W2
    intro HA2 HV2 HC0
    have k0 := unhide HC0
    have HP := hide ((unhide HV2).put4 (unhide HA2) (Nat.le_refl _) (.int .i64 6) (.int .i64 0) (.int .i64 0) (.string q.n))
    obtain ⟨c0, c1, c2, c3⟩ := (unhide HV2).cells
    obtain ⟨f0, f1, f2, f3⟩ := (unhide HV2).free
    go_wp2
    refine bodyPost_ret (res_q Tryz.results80 rfl (unhide HP).1) rfl ⟨by rw [unhide HX], (unhide HP).2⟩
  · have HX := hide ((unhide HR).trans (pl_7 h))
    rw [us_7 h]
    clear HR h
    have a1 := as_7_1
    have a2 := as_7_2
    have a3 := as_7_3
    have a4 := as_7_4
    have a5 := as_7_5
    have a6 := as_7_6
    have a7 := as_7_7
    go_enter Tryz.func80, Tryz.ntmps80
    have HA2 := hide (fr (unhide HA) (Joins.below_alloc1 _ (.cells #[.string q.n] 125)))
    have HV2 := hide ((unhide HV).below (Joins.below_alloc1 _ (.cells #[.string q.n] 125)))
    have HC0 : Hid (((w.alloc (.cells #[.int .i64 0, .int .i64 0, .int .i64 0, .string ⟨#[]⟩] 49)).alloc (.cells #[.string q.n] 125)).cell? ⟨w.heap.size + 1, 0, none⟩ = some (.string q.n)) := hide (by simp)
    go_upto_region 22 with fail
    revert HC0
    revert HV2
    revert HA2
    generalize ((w.alloc _).alloc _) = W2
    intro HA2 HV2 HC0
    have k0 := unhide HC0
    have HP := hide ((unhide HV2).put4 (unhide HA2) (Nat.le_refl _) (.int .i64 7) (.int .i64 0) (.int .i64 0) (.string q.n))
    obtain ⟨c0, c1, c2, c3⟩ := (unhide HV2).cells
    obtain ⟨f0, f1, f2, f3⟩ := (unhide HV2).free
    go_wp2
    refine bodyPost_ret (res_q Tryz.results80 rfl (unhide HP).1) rfl ⟨by rw [unhide HX], (unhide HP).2⟩
  · have HX := hide ((unhide HR).trans (pl_8 h))
    rw [us_8 h]
    clear HR h
    have a1 := as_8_1
    have a2 := as_8_2
    have a3 := as_8_3
    have a4 := as_8_4
    have a5 := as_8_5
    have a6 := as_8_6
    have a7 := as_8_7
    go_enter Tryz.func80, Tryz.ntmps80
    have HA2 := HA
    have HV2 := HV
    go_upto_region 23 with fail
    revert HV2
    revert HA2
    generalize (w.alloc _) = W2
    intro HA2 HV2
    have HP := hide ((unhide HV2).put4 (unhide HA2) (Nat.le_refl _) (.int .i64 8) (.int .i64 0) (.int .i64 0) (.string ⟨#[]⟩))
    obtain ⟨c0, c1, c2, c3⟩ := (unhide HV2).cells
    obtain ⟨f0, f1, f2, f3⟩ := (unhide HV2).free
    go_wp2
    refine bodyPost_ret (res_q Tryz.results80 rfl (unhide HP).1) rfl ⟨by rw [unhide HX], (unhide HP).2⟩

theorem eqR_run (a b : Rq) (W : World) : (binOp .eql 49 (qV a) (qV b)).run Tryz.prog W = .ok (.bool (eqR a b)) W := by
  have u1 := Tryz.underlying49
  have u2 := Tryz.underlying3
  have u3 := Tryz.underlying9
  rw [run_eql_struct, run_equalIn_struct W 9999 49 _ _ (by kernel_rfl) (by kernel_rfl)]
  cases h1 : a.k == b.k <;> cases h2 : a.g == b.g <;> cases h3 : a.v == b.v <;> cases h4 : a.n.toList == b.n.toList <;> simp [Op.eqFields, Program.fieldsOf, u1, u2, u3, part, sizeOf, typeInfo, go_sem, eqR, h1, h2, h3, h4]

end Go.Proofs.YtpdpnepnfhbonaaGreat

namespace Go.Proofs.YtpdpnepnfhbonaaGreat
open Go.RowKit
set_option linter.unusedVariables false

section
variable {P : Program} {Q : Exit → Act → World → Prop} {S S' : World → Prop} {C : Act → World → Prop} {l : List Oper} {hl : List Nat}

def wpAnyR (P : Program) (l : List Oper) (Q : Exit → Act → World → Prop) (S : World → Prop) (hl : List Nat) : Nat → Array Bool → Act → World → Prop
  | 0, listed, a, w => Region.ready .any l.toArray listed = [] ∧ Q .normal a w
  | fuel + 1, listed, a, w =>
    (Region.ready .any l.toArray listed = [] → Q .normal a w) ∧
    ∀ i ∈ Region.ready .any l.toArray listed, wpOp P l.toArray Q i (fun a' w' => (i ∈ hl → S w') ∧ wpAnyR P l Q S hl fuel (listed.setIfInBounds i true) a' w') a w
theorem wpAny_of_R : ∀ (fuel : Nat) (listed : Array Bool) (a : Act) (w : World), wpAnyR P l Q S hl fuel listed a w → wpAny P .any l.toArray Q fuel listed a w
  | 0, _, _, _, h => h
  | fuel + 1, _, _, _, h => ⟨h.1, fun i hi => wpOp_mono (fun a' w' h' => wpAny_of_R fuel _ a' w' h'.2) (h.2 i hi)⟩

abbrev lsD (listed : Array Bool) : Nat → Bool := fun j => listed.getD j false
theorem closed_set {listed : Array Bool} {i : Nat} (hc : Closed l (lsD listed)) (hi : i ∈ Region.ready .any l.toArray listed) : Closed l (lsD (listed.setIfInBounds i true)) := by
  intro j o ho hd e he hb
  by_cases hji : j = i
  · subst hji
    obtain ⟨_, o', ho', hp⟩ := mem_ready.1 hi
    have h2 : l.toArray[j]? = l[j]? := by simp
    rw [h2, ho] at ho'
    cases ho'
    exact getD_set_true (hp e he hb)
  · have : lsD listed j = true := by
      have hd' : (listed.setIfInBounds i true).getD j false = true := hd
      rwa [getD_set_ne false (Ne.symm hji)] at hd'
    exact getD_set_true (hc j o ho this e he hb)
def Anc (l : List Oper) (j i : Nat) : Prop := ∀ d : Nat → Bool, Closed l d → d j = true → d i = true
theorem rg_unlisted {listed : Array Bool} {i : Nat} (h : listed.getD i true = false) : i < listed.size ∧ listed.getD i false = false := by
  rw [Array.getD_eq_getD_getElem?] at h ⊢
  by_cases hi : i < listed.size
  · rw [Array.getElem?_eq_getElem hi] at h ⊢
    exact ⟨hi, by simpa using h⟩
  · rw [Array.getElem?_eq_none (Nat.le_of_not_lt hi)] at h
    simp at h
theorem ready_anc {listed : Array Bool} {i j : Nat} (hc : Closed l (lsD listed)) (hj : j ∈ Region.ready .any l.toArray listed) (hr : Anc l j i) (hne : j ≠ i) (hi : listed.getD i true = false) : False := by
  have h1 := (mem_ready.1 hj).1
  have h2 := hr _ (closed_set hc hj) (by
    show (listed.setIfInBounds j true).getD j false = true
    have := (rg_unlisted h1).1
    simp [Array.getD_eq_getD_getElem?, this])
  have h3 : (listed.setIfInBounds j true).getD i false = true := h2
  rw [getD_set_ne false hne, (rg_unlisted hi).2] at h3
  cases h3

theorem wpAnyR_first {i : Nat} {oi : Oper} {v : Value} (hi : l.toArray[i]? = some oi) (hsel : ∀ (j : Nat) (o : Oper) cs b, l.toArray[j]? = some o → o.op ≠ .select cs b)
    (hQ : ∀ c a w, Q (.panic c) (a.put oi.dst v) w → Q (.panic c) a w) (hSS : ∀ w, S w → S' w) (hst : ∀ j, j < l.length → j ∉ hl → j ≠ i → Anc l j i ∨ ((∀ w, S' w) ∧ i ∉ hl)) :
    ∀ (fuel : Nat) (listed : Array Bool) (a : Act) (w : World), Closed l (lsD listed) →
      (∀ j oj, l.toArray[j]? = some oj → j ≠ i → listed.getD j true = false → (∀ e ∈ oj.after, Region.binds .any e = true → e.on ≠ i) → oi.apart l.toArray oj = true) →
      i ∈ Region.ready .any l.toArray listed → YieldsIf P l.toArray S' oi v a → S' w → (i ∈ hl → S w) →
      wpAnyR P l Q S hl fuel (listed.setIfInBounds i true) (a.put oi.dst v) w → wpAnyR P l Q S hl (fuel + 1) listed a w := by
  intro fuel
  induction fuel with
  | zero =>
    intro listed a w hc _ hr hy hS hSw H
    refine ⟨fun h => (by rw [h] at hr; cases hr), fun j hj => ?_⟩
    by_cases hji : j = i
    · subst hji; exact hy.wpOp hi hS ⟨hSw, H⟩
    · have := ready_mono hj hji
      rw [H.1] at this
      cases this
  | succ fuel ih =>
    intro listed a w hc hfree hr hy hS hSw H
    refine ⟨fun h => (by rw [h] at hr; cases hr), fun j hj => ?_⟩
    by_cases hji : j = i
    · subst hji; exact hy.wpOp hi hS ⟨hSw, H⟩
    · have h1 := H.2 j (ready_mono hj hji)
      obtain ⟨hjun, oj, hoj, hall⟩ := mem_ready.1 hj
      have hiun := (mem_ready.1 hr).1
      have hnot : ∀ e ∈ oj.after, Region.binds .any e = true → e.on ≠ i := fun e he hb heq => by
        have h1 := hall e he hb
        rw [heq, (rg_unlisted hiun).2] at h1
        cases h1
      have h2 := wpOp_putIf hoj (hfree j oj hoj hji hjun hnot) (fun cs b => hsel i oi cs b hi) (fun cs b => hsel j oj cs b hoj) hQ hy h1
      have hfree' : ∀ k ok, l.toArray[k]? = some ok → k ≠ i → (listed.setIfInBounds j true).getD k true = false →
          (∀ e ∈ ok.after, Region.binds .any e = true → e.on ≠ i) → oi.apart l.toArray ok = true := fun k ok hk hki hun hno => by
        refine hfree k ok hk hki ?_ hno
        by_cases hjk : j = k
        · subst hjk; exact hjun
        · rw [getD_set_ne true hjk] at hun; exact hun
      have hjl : j < l.length := by have := (Array.getElem?_eq_some_iff.1 hoj).1; simpa using this
      have hkey : ∀ w', (j ∈ hl → S w') → S' w' ∧ (i ∈ hl → S w') := fun w' h => by
        by_cases hjh : j ∈ hl
        · exact ⟨hSS _ (h hjh), fun _ => h hjh⟩
        · rcases hst j hjl hjh hji with h5 | h5
          · exact (ready_anc hc hj h5 hji hiun).elim
          · exact ⟨h5.1 _, fun h6 => absurd h6 h5.2⟩
      refine wpOp_mono (fun a' w' h3 => ⟨h3.2.1, ih (listed.setIfInBounds j true) a' w' (closed_set hc hj) hfree' (ready_mono hr (Ne.symm hji)) h3.1 (hkey w' h3.2.1).1 (hkey w' h3.2.1).2 ?_⟩) h2
      rw [Array.setIfInBounds_comm _ _ hji]
      exact h3.2.2

def ancGo : List Oper → List (List Nat) → List (List Nat)
  | [], acc => acc
  | o :: r, acc => ancGo r (acc ++ [(o.after.toList.flatMap fun e => if Region.binds .any e then e.on :: acc.getD e.on [] else []).eraseDups])
def ancs (l : List Oper) : List (List Nat) := ancGo l []
theorem ancGo_spec (L : List Oper) : ∀ (r : List Oper) (acc : List (List Nat)), (∀ k, r[k]? = L[acc.length + k]?) → (∀ j, ∀ i ∈ acc.getD j [], Anc L j i) → ∀ j, ∀ i ∈ (ancGo r acc).getD j [], Anc L j i
  | [], acc, _, h => h
  | o :: r, acc, hr, h => by
    unfold ancGo
    refine ancGo_spec L r _ (fun k => ?_) (fun j i hi => ?_)
    · have := hr (k + 1)
      rw [List.length_append, List.length_singleton, Nat.add_assoc, Nat.add_comm 1 k]
      simpa using this
    · by_cases hj : j < acc.length
      · rw [List.getD_eq_getElem?_getD, List.getElem?_append_left hj, ← List.getD_eq_getElem?_getD] at hi
        exact h j i hi
      · by_cases hj2 : j = acc.length
        · subst hj2
          rw [List.getD_eq_getElem?_getD, List.getElem?_append_right (Nat.le_refl _), Nat.sub_self] at hi
          simp only [List.getElem?_cons_zero, Option.getD_some, List.mem_eraseDups, List.mem_flatMap] at hi
          obtain ⟨e, he, hie⟩ := hi
          have ho : L[acc.length]? = some o := by have := hr 0; simpa using this.symm
          intro d hc hd
          by_cases hb : Region.binds .any e = true
          · rw [if_pos hb] at hie
            have h1 := hc _ o ho hd e (by simpa using he) hb
            rcases List.mem_cons.1 hie with rfl | hie
            · exact h1
            · exact h e.on i hie d hc h1
          · rw [if_neg hb] at hie
            cases hie
        · rw [List.getD_eq_getElem?_getD, List.getElem?_eq_none (by rw [List.length_append, List.length_singleton]; omega)] at hi
          simp at hi
theorem ancs_spec {l : List Oper} {j i : Nat} (h : ((ancs l).getD j []).contains i = true) : Anc l j i :=
  ancGo_spec l l [] (fun k => by simp) (fun j i hi => by simp at hi) j i (by simpa [ancs] using h)

def rgFrB (l : List Oper) (listed : Array Bool) (i : Nat) : Bool := (Region.ready .any l.toArray listed).contains i && Region.free .any l.toArray listed i
def rgStB (l : List Oper) (hl : List Nat) (i : Nat) : Bool := (List.range l.length).all fun j => hl.contains j || j == i || ((ancs l).getD j []).contains i
def rgOrdB (l : List Oper) (hl : List Nat) : List (Nat × Nat) → Array Bool → Bool
  | [], _ => true
  | (i, k) :: r, listed => (match k with
      | 0 => rgFrB l listed i && rgStB l hl i
      | 2 => hl.contains i && (Region.ready .any l.toArray listed == [i])
      | 3 => !hl.contains i && (Region.ready .any l.toArray listed == [i])
      | 4 => !hl.contains i && rgFrB l listed i
      | 5 => rgFrB l listed i && rgStB l hl i
      | _ => !hl.contains i && rgFrB l listed i) && rgOrdB l hl r (listed.setIfInBounds i true)
def rgSet : List (Nat × Nat) → Array Bool → Array Bool
  | [], listed => listed
  | (i, _) :: r, listed => rgSet r (listed.setIfInBounds i true)
def wpOrd (P : Program) (l : List Oper) (Q : Exit → Act → World → Prop) (S : World → Prop) (C : Act → World → Prop) : List (Nat × Nat) → Act → World → Prop
  | [], a, w => C a w
  | (i, k) :: r, a, w => ∀ o, l[i]? = some o → match k with
      | 0 => Region.wanted o (yielded l.toArray a.tmps) = true ∧ S w ∧ ∃ v, (∀ w', S w' → (execOp a.eval o).run P w' = .ok (.value v) w') ∧ wpOrd P l Q S C r (a.put o.dst v) w
      | 2 => Region.wanted o (yielded l.toArray a.tmps) = true ∧ o.wp P a w (fun a' w' => S w' ∧ wpOrd P l Q S C r a' w') Q
      | 3 => Region.wanted o (yielded l.toArray a.tmps) = true ∧ o.wp P a w (wpOrd P l Q S C r) Q
      | 4 => Region.wanted o (yielded l.toArray a.tmps) = true ∧ ∃ v, (∀ w', (execOp a.eval o).run P w' = .ok (.value v) w') ∧ wpOrd P l Q S C r (a.put o.dst v) w
      | 5 => Region.wanted o (yielded l.toArray a.tmps) = false ∧ S w ∧ wpOrd P l Q S C r (a.put o.dst undef) w
      | _ => Region.wanted o (yielded l.toArray a.tmps) = false ∧ wpOrd P l Q S C r (a.put o.dst undef) w
theorem rgSt_spec {i : Nat} (h : rgStB l hl i = true) : ∀ j, j < l.length → j ∉ hl → j ≠ i → Anc l j i := fun j hj hh hne => by
  have := List.all_eq_true.1 h j (List.mem_range.2 hj)
  simp only [Bool.or_eq_true, List.contains_iff_mem, beq_iff_eq] at this
  rcases this with (h1 | h1) | h1
  · exact absurd h1 hh
  · exact absurd h1 hne
  · exact ancs_spec (by simpa using h1)
theorem anyR_of_ord (hs : Region.noSelect l.toArray = true) (hQ : ∀ c a w, Q (.panic c) a w → False) (fuel : Nat) : ∀ (ord : List (Nat × Nat)) (listed : Array Bool) (a : Act) (w : World), Closed l (lsD listed) → rgOrdB l hl ord listed = true → wpOrd P l Q S (fun a w => Closed l (lsD (rgSet ord listed)) → wpAnyR P l Q S hl fuel (rgSet ord listed) a w) ord a w → wpAnyR P l Q S hl (ord.length + fuel) listed a w
  | [], listed, a, w, hc, hB, h => by simpa [rgSet] using h hc
  | (i, k) :: r, listed, a, w, hc, hB, h => by
    rw [show ((i, k) :: r).length + fuel = (r.length + fuel) + 1 by simp only [List.length_cons]; omega]
    have hrs : rgSet ((i, k) :: r) listed = rgSet r (listed.setIfInBounds i true) := rfl
    rw [hrs] at h
    obtain ⟨C, hC⟩ : ∃ C, C = (fun a w => Closed l (lsD (rgSet r (listed.setIfInBounds i true))) → wpAnyR P l Q S hl fuel (rgSet r (listed.setIfInBounds i true)) a w) := ⟨_, rfl⟩
    rw [← hC] at h
    unfold rgOrdB at hB
    rw [Bool.and_eq_true] at hB
    obtain ⟨hB1, hB2⟩ := hB
    have hone : ∀ (hrd : Region.ready .any l.toArray listed = [i]) (hw : ∀ o, l[i]? = some o → Region.wanted o (yielded l.toArray a.tmps) = true ∧ o.wp P a w (fun a' w' => (i ∈ hl → S w') ∧ wpOrd P l Q S C r a' w') Q), wpAnyR P l Q S hl (r.length + fuel + 1) listed a w := by
      intro hrd hw
      refine ⟨fun h0 => (by rw [hrd] at h0; cases h0), fun j hj => ?_⟩
      have hji : j = i := by rw [hrd] at hj; simpa using hj
      subst hji
      obtain ⟨_, o, ho, _⟩ := mem_ready.1 hj
      have ho' : l[j]? = some o := by simpa using ho
      obtain ⟨h1, h2⟩ := hw o ho'
      unfold wpOp
      simp only [ho]
      rw [if_pos h1]
      exact .inl (Oper.wp_mono (fun a' w' h3 => ⟨h3.1, anyR_of_ord hs hQ fuel r _ a' w' (closed_set hc hj) hB2 (hC ▸ h3.2)⟩) h2)
    have hfirst : ∀ (v : Value) (S' : World → Prop) (hf : rgFrB l listed i = true) (hSS : ∀ w, S w → S' w) (hst : ∀ j, j < l.length → j ∉ hl → j ≠ i → Anc l j i ∨ ((∀ w, S' w) ∧ i ∉ hl)) (hS' : S' w) (hSw : i ∈ hl → S w)
        (hy : ∀ o, l[i]? = some o → YieldsIf P l.toArray S' o v a ∧ wpOrd P l Q S C r (a.put o.dst v) w), wpAnyR P l Q S hl (r.length + fuel + 1) listed a w := by
      intro v S' hf hSS hst hS' hSw hy
      unfold rgFrB at hf
      rw [Bool.and_eq_true] at hf
      have hir : i ∈ Region.ready .any l.toArray listed := by simpa using hf.1
      obtain ⟨_, o, ho, _⟩ := mem_ready.1 hir
      have ho' : l[i]? = some o := by simpa using ho
      obtain ⟨h1, h2⟩ := hy o ho'
      exact wpAnyR_first ho (Region.noSelect_spec hs) (fun c a w h => (hQ _ _ _ h).elim) hSS hst (r.length + fuel) listed a w hc (Region.free_spec ho hf.2) hir h1 hS' hSw (anyR_of_ord hs hQ fuel r _ _ _ (closed_set hc hir) hB2 (hC ▸ h2))
    match k, hB1, h with
    | 0, hB1, h =>
      simp only [Bool.and_eq_true] at hB1
      have hir : i ∈ Region.ready .any l.toArray listed := by have := hB1.1; unfold rgFrB at this; rw [Bool.and_eq_true] at this; simpa using this.1
      obtain ⟨_, o, ho, _⟩ := mem_ready.1 hir
      have ho' : l[i]? = some o := by simpa using ho
      obtain ⟨h1, h2, v, h3, h4⟩ := h o ho'
      exact hfirst v S hB1.1 (fun _ h => h) (fun j a b c => .inl (rgSt_spec hB1.2 j a b c)) h2 (fun _ => h2) (fun o2 ho2 => by
        rw [ho'] at ho2
        cases ho2
        exact ⟨.inl ⟨h1, h3⟩, h4⟩)
    | 1, hB1, h =>
      simp only [Bool.and_eq_true, Bool.not_eq_true'] at hB1
      exact hfirst undef (fun _ => True) hB1.2 (fun _ _ => trivial) (fun _ _ _ _ => .inr ⟨fun _ => trivial, by simpa using hB1.1⟩) trivial (fun h6 => absurd h6 (by simpa using hB1.1)) (fun o ho => ⟨.inr ⟨(h o ho).1, rfl⟩, (h o ho).2⟩)
    | 2, hB1, h =>
      simp only [Bool.and_eq_true, beq_iff_eq] at hB1
      exact hone hB1.2 (fun o ho => ⟨(h o ho).1, Oper.wp_mono (fun a' w' h3 => ⟨fun _ => h3.1, h3.2⟩) (h o ho).2⟩)
    | 3, hB1, h =>
      simp only [Bool.and_eq_true, beq_iff_eq, Bool.not_eq_true'] at hB1
      exact hone hB1.2 (fun o ho => ⟨(h o ho).1, Oper.wp_mono (fun a' w' h3 => ⟨fun h6 => absurd h6 (by simpa using hB1.1), h3⟩) (h o ho).2⟩)
    | 4, hB1, h =>
      simp only [Bool.and_eq_true, Bool.not_eq_true'] at hB1
      have hir : i ∈ Region.ready .any l.toArray listed := by have := hB1.2; unfold rgFrB at this; rw [Bool.and_eq_true] at this; simpa using this.1
      obtain ⟨_, o, ho, _⟩ := mem_ready.1 hir
      have ho' : l[i]? = some o := by simpa using ho
      obtain ⟨h1, v, h3, h4⟩ := h o ho'
      exact hfirst v (fun _ => True) hB1.2 (fun _ _ => trivial) (fun _ _ _ _ => .inr ⟨fun _ => trivial, by simpa using hB1.1⟩) trivial (fun h6 => absurd h6 (by simpa using hB1.1)) (fun o2 ho2 => by
        rw [ho'] at ho2
        cases ho2
        exact ⟨.inl ⟨h1, fun w' _ => h3 w'⟩, h4⟩)
    | 5, hB1, h =>
      simp only [Bool.and_eq_true] at hB1
      have hir : i ∈ Region.ready .any l.toArray listed := by have := hB1.1; unfold rgFrB at this; rw [Bool.and_eq_true] at this; simpa using this.1
      obtain ⟨_, o, ho, _⟩ := mem_ready.1 hir
      have ho' : l[i]? = some o := by simpa using ho
      obtain ⟨h1, h2, h4⟩ := h o ho'
      exact hfirst undef S hB1.1 (fun _ h => h) (fun j a b c => .inl (rgSt_spec hB1.2 j a b c)) h2 (fun _ => h2) (fun o2 ho2 => by
        rw [ho'] at ho2
        cases ho2
        exact ⟨.inr ⟨h1, rfl⟩, h4⟩)
    | n + 6, hB1, h =>
      simp only [Bool.and_eq_true, Bool.not_eq_true'] at hB1
      exact hfirst undef (fun _ => True) hB1.2 (fun _ _ => trivial) (fun _ _ _ _ => .inr ⟨fun _ => trivial, by simpa using hB1.1⟩) trivial (fun h6 => absurd h6 (by simpa using hB1.1)) (fun o ho => ⟨.inr ⟨(h o ho).1, rfl⟩, (h o ho).2⟩)

theorem closed_none (n : Nat) : Closed l (lsD (Array.replicate n false)) := fun j o _ hd => by
  have hd' : (Array.replicate n false).getD j false = true := hd
  rw [Array.getD_eq_getD_getElem?, Array.getElem?_replicate] at hd'
  split at hd' <;> simp at hd'
theorem ord_imp {C' : Act → World → Prop} (hC : ∀ a w, C a w → C' a w) : ∀ (ord : List (Nat × Nat)) (a : Act) (w : World), wpOrd P l Q S C ord a w → wpOrd P l Q S C' ord a w
  | [], a, w, h => hC a w h
  | (i, k) :: r, a, w, h => fun o ho => by
    have h1 := h o ho
    match k, h1 with
    | 0, h1 => exact ⟨h1.1, h1.2.1, h1.2.2.imp fun v hv => ⟨hv.1, ord_imp hC r _ _ hv.2⟩⟩
    | 1, h1 => exact ⟨h1.1, ord_imp hC r _ _ h1.2⟩
    | 2, h1 => exact ⟨h1.1, Oper.wp_mono (fun a' w' h3 => ⟨h3.1, ord_imp hC r _ _ h3.2⟩) h1.2⟩
    | 3, h1 => exact ⟨h1.1, Oper.wp_mono (fun a' w' h3 => ord_imp hC r _ _ h3) h1.2⟩
    | 4, h1 => exact ⟨h1.1, h1.2.imp fun v hv => ⟨hv.1, ord_imp hC r _ _ hv.2⟩⟩
    | 5, h1 => exact ⟨h1.1, h1.2.1, ord_imp hC r _ _ h1.2.2⟩
    | n + 6, h1 => exact ⟨h1.1, ord_imp hC r _ _ h1.2⟩
theorem wp_region_ord {id : Nat} {a : Act} {w : World} (S : World → Prop) (hl : List Nat) (ord : List (Nat × Nat)) (hm : P.follows .mixedOrders = true) (hs : Region.noSelect l.toArray = true) (hn : ord.length = l.length) (hB : (rgOrdB l hl ord (Array.replicate l.length false) && (Region.ready .any l.toArray (rgSet ord (Array.replicate l.length false))).isEmpty) = true)
    (h : wpOrd P l (NoPanic Q) S (fun a w => NoPanic Q .normal a w) ord a w.drew) : (Code.region id l.toArray true).wp P Q a w := by
  refine wp_region_noPanic (wp_region_any hm (wpAny_of_R (S := S) (hl := hl) _ _ _ _ ?_))
  rw [Bool.and_eq_true] at hB
  have := anyR_of_ord (P := P) (Q := NoPanic Q) (S := S) (hl := hl) hs (fun _ _ _ h => h) 0 ord _ a w.drew (closed_none _) hB.1 (ord_imp (fun a w h _ => ⟨by simpa using hB.2, h⟩) ord _ _ h)
  rw [Nat.add_zero, hn] at this
  simpa using this
theorem ord_read {i : Nat} {o : Oper} {r : List (Nat × Nat)} {a : Act} {w : World} (v : Value) (ho : l[i]? = some o) (hg : o.guard = none) (hS : S w) (hv : ∀ w', S w' → (execOp a.eval o).run P w' = .ok (.value v) w') (h : wpOrd P l Q S C r (a.put o.dst v) w) : wpOrd P l Q S C ((i, 0) :: r) a w := by
  intro o2 ho2
  rw [ho] at ho2
  cases ho2
  exact ⟨by simp [Region.wanted, hg], hS, v, hv, h⟩
theorem ord_val {i : Nat} {o : Oper} {r : List (Nat × Nat)} {a : Act} {w : World} (v : Value) (ho : l[i]? = some o) (hg : o.guard = none) (hv : ∀ w', (execOp a.eval o).run P w' = .ok (.value v) w') (h : wpOrd P l Q S C r (a.put o.dst v) w) : wpOrd P l Q S C ((i, 4) :: r) a w := by
  intro o2 ho2
  rw [ho] at ho2
  cases ho2
  exact ⟨by simp [Region.wanted, hg], v, hv, h⟩
theorem ord_held {i : Nat} {o : Oper} {r : List (Nat × Nat)} {a : Act} {w : World} (ho : l[i]? = some o) (hg : o.guard = none) (h : ∀ K : Act → World → Prop, (∀ a' w', S w' → wpOrd P l Q S C r a' w' → K a' w') → o.wp P a w K Q) : wpOrd P l Q S C ((i, 2) :: r) a w := by
  intro o2 ho2
  rw [ho] at ho2
  cases ho2
  exact ⟨by simp [Region.wanted, hg], h _ (fun a' w' h1 h2 => ⟨h1, h2⟩)⟩
theorem ord_alone {i : Nat} {o : Oper} {r : List (Nat × Nat)} {a : Act} {w : World} (ho : l[i]? = some o) (hg : o.guard = none) (h : ∀ K : Act → World → Prop, (∀ a' w', wpOrd P l Q S C r a' w' → K a' w') → o.wp P a w K Q) : wpOrd P l Q S C ((i, 3) :: r) a w := by
  intro o2 ho2
  rw [ho] at ho2
  cases ho2
  exact ⟨by simp [Region.wanted, hg], h _ (fun a' w' h2 => h2)⟩
theorem ord_done {a : Act} {w : World} (h : Q .normal a w) : wpOrd P l (NoPanic Q) S (fun a w => NoPanic Q .normal a w) [] a w := h
theorem ordG_read {i : Nat} {o : Oper} {r : List (Nat × Nat)} {a : Act} {w : World} (v : Value) (ho : l[i]? = some o) (hg : Region.wanted o (yielded l.toArray a.tmps) = true) (hS : S w) (hv : ∀ w', S w' → (execOp a.eval o).run P w' = .ok (.value v) w') (h : wpOrd P l Q S C r (a.put o.dst v) w) : wpOrd P l Q S C ((i, 0) :: r) a w := by
  intro o2 ho2
  rw [ho] at ho2
  cases ho2
  exact ⟨hg, hS, v, hv, h⟩
theorem ordG_held {i : Nat} {o : Oper} {r : List (Nat × Nat)} {a : Act} {w : World} (ho : l[i]? = some o) (hg : Region.wanted o (yielded l.toArray a.tmps) = true) (h : ∀ K : Act → World → Prop, (∀ a' w', S w' → wpOrd P l Q S C r a' w' → K a' w') → o.wp P a w K Q) : wpOrd P l Q S C ((i, 2) :: r) a w := by
  intro o2 ho2
  rw [ho] at ho2
  cases ho2
  exact ⟨hg, h _ (fun a' w' h1 h2 => ⟨h1, h2⟩)⟩
end

end Go.Proofs.YtpdpnepnfhbonaaGreat

namespace Go.Proofs.YtpdpnepnfhbonaaGreat
open Go.RowKit
set_option linter.unusedVariables false

section
variable {P : Program} {Q : Exit → Act → World → Prop} {S S' : World → Prop} {C : Act → World → Prop} {l : List Oper} {hl : List Nat}
end

end Go.Proofs.YtpdpnepnfhbonaaGreat

namespace Go.Proofs.YtpdpnepnfhbonaaGreat
open Go.RowKit
set_option linter.unusedVariables false
set_option maxRecDepth 100000

set_option maxHeartbeats 3200000 in
theorem reqOK_impl (q : Rq) (w : World) (hz : q.n.size ≤ maxLen) : Calls Tryz.prog 44 #[qV q] w fun e w' => e = .returned (.bool (rqB q)) ∧ Below w.heap.size w w' := by
  have HA := hide (Joins.below_alloc1 w (.cells #[.int .i64 q.k, .int .i64 q.g, .int .i64 q.v, .string q.n] 49))
  have HV := hide (VarM.new w 49 (.int .i64 q.k) (.int .i64 q.g) (.int .i64 q.v) (.string q.n))
  obtain ⟨R, HR⟩ : ∃ R, Hid (rqB q = R) := ⟨_, hide rfl⟩
  have HPL := hide (rq_plain q)
  rw [unhide HR] at HPL ⊢
  unfold maxLen at hz
  go_enter Tryz.func44, Tryz.ntmps44
  go_upto_region 1 with fail
  revert HA HV
  generalize (w.alloc _) = W0
  intro HA HV
  obtain ⟨c0, c1, c2, c3⟩ := (unhide HV).cells
  cases hs : decide (q.n.size ≤ 65536)
  · have hd : decide ((q.n.size : Int) ≤ 65536) = false := by rw [← hs]; congr 1; simp; omega
    have HF : Hid (R = false) := hide (by have := unhide HPL; rw [hs] at this; exact this.symm)
    clear hs
    go_quiet (fail)
    generalize hW : (World.drewN _ _) = W1
    have HB : Hid (Below w.heap.size w W1) := hide (by rw [← hW]; exact (unhide HA).trans (Joins.below_draws _ _ _))
    clear hW
    go_wp2
    go_ret
    exact ⟨ret_bool (unhide HF).symm, unhide HB⟩
  · have hd : decide ((q.n.size : Int) ≤ 65536) = true := by rw [← hs]; congr 1; simp; omega
    have HF : Hid (R = eqR (plR q) q) := hide (by have := unhide HPL; rw [hs] at this; simpa using this.symm)
    have heq := eqR_run (plR q) q
    clear hs c0 c1 c2 c3
    have hS0 : VarR W0.drew w.heap.size q := (unhide HV).below (Below.refl _ _).drew
    refine wp_region_ord (fun w' => VarR w' w.heap.size q) [0, 1, 2, 3, 4, 5, 8, 6, 7, 9, 10, 11] [(0, 0), (1, 0), (2, 0), (3, 0), (4, 0), (5, 0), (8, 0), (6, 2), (7, 2), (9, 0), (10, 0), (11, 0)] (by kernel_rfl) (by kernel_rfl) rfl (by kernel_rfl) ?_
    refine ord_read (.pointer (some ⟨w.heap.size, 3, none⟩)) rfl rfl hS0 (fun W hW => by go_simp) ?_
    refine ord_read (.string q.n) rfl rfl hS0 (fun W hW => by obtain ⟨k0, k1, k2, k3⟩ := hW.cells; go_simp) ?_
    refine ord_read (.int .i64 q.n.size) rfl rfl hS0 (fun W hW => by go_simp) ?_
    refine ord_read (.bool true) rfl rfl hS0 (fun W hW => by go_simp) ?_
    refine ord_read (.bool true) rfl rfl hS0 (fun W hW => by go_simp) ?_
    refine ordG_read (qV q) rfl rfl hS0 (fun W hW => by obtain ⟨k0, k1, k2, k3⟩ := hW.cells; go_simp) ?_
    refine ordG_read (qV q) rfl rfl hS0 (fun W hW => by obtain ⟨k0, k1, k2, k3⟩ := hW.cells; go_simp) ?_
    refine ordG_held rfl rfl ?_
    intro K hK
    unfold Oper.wp
    go_simp
    refine (useOf_any q _).mono ?_
    rintro e w1 ⟨rfl, hb⟩
    have HB1 := hide (fr (fr (unhide HA) (Below.refl _ _).drew) hb)
    have HS1 := hide (hS0.below hb)
    clear hb
    refine hK _ _ (unhide HS1) ?_
    clear hK K hS0
    refine ordG_held rfl rfl ?_
    intro K hK
    unfold Oper.wp
    go_simp
    refine (plainReq_any q _).mono ?_
    rintro e w2 ⟨rfl, hb⟩
    have HB2 := hide (fr (unhide HB1) hb)
    have hS2 := (unhide HS1).below hb
    clear hb
    refine hK _ _ hS2 ?_
    clear hK K
    refine ordG_read (.bool (eqR (plR q) q)) rfl rfl hS2 (fun W hW => by have := heq W; go_simp) ?_
    refine ord_read (.bool (eqR (plR q) q)) rfl rfl hS2 (fun W hW => by go_simp) ?_
    refine ord_read (.bool (eqR (plR q) q)) rfl rfl hS2 (fun W hW => by go_simp) ?_
    refine ord_done ?_
    generalize eqR (plR q) q = E at *
    go_wp2
    go_ret
    exact ⟨ret_bool (unhide HF).symm, unhide HB2⟩

end Go.Proofs.YtpdpnepnfhbonaaGreat

namespace Go.Proofs.YtpdpnepnfhbonaaGreat
open Go.RowKit
set_option linter.unusedVariables false
set_option maxRecDepth 100000

section
variable {P : Program}

theorem run_copy_whole (w : World) (dT sT ty elem : TypeId) (size g n dCap : Nat) (a : Addr) (sCap : Nat) (cur : Array Value) (t : TypeId) (cs : List Value)
    (hu : P.underlying dT = some (.slice elem)) (hs : (P.info? elem).map (·.size) = some size)
    (hg : w.heap[g]? = some (.cells cur t (0, 0))) (hl : n * size = cs.length)
    (hsrc : ∀ j v, cs[j]? = some v → w.cell? (a.add j) = some v) (hfit : cs.length ≤ cur.size) (h1 : ∀ v ∈ cs, v.oneCell' = true) :
    (Builtin.copy_ #[dT, sT] ty #[.slice (some ⟨g, 0, none⟩) n dCap, .slice (some a) n sCap]).run P w = .ok (goInt n) (w.setRow g (cs ++ cur.toList.drop cs.length).toArray) := by
  have hld := run_loadCells_list (P := P) w a cs hsrc
  have hst := run_storeCells_at P g 0 t cs 0 cur w hg (by simpa using hfit) h1
  cases hq : P.info? elem with
  | none => simp [hq] at hs
  | some i =>
    have hi : i.size = size := by simpa [hq] using hs
    simp [Builtin.copy_, run_underlying hu, Builtin.lenOf, Builtin.firstCells, sizeOf, typeInfo, hq, hi, hl, hld, hst]

theorem wpList_copy_whole {w : World} {ops : Array Oper} {rest : List Oper} {o : Oper} {a : Act} {Q : Exit → Act → World → Prop} (hgd : o.guard = none) (d s : Operand) (dT sT : TypeId)
    (ho : o.op = .call { callee := .builtin .copy, args := #[d, s], argTypes := #[dT, sT] }) (elem : TypeId) (size : Nat) (hu : P.underlying dT = some (.slice elem)) (hsz : (P.info? elem).map (·.size) = some size)
    (B g n : Nat) (ad : Addr) (sCap : Nat) (hd : a.eval d = .slice (some ⟨g, 0, none⟩) n n) (hs : a.eval s = .slice (some ad) n sCap)
    (xs : List Value) (hown : w.ownsRow B elem size (.slice (some ⟨g, 0, none⟩) n n) n xs) (cs : List Value) (hn : cs.length = n * size)
    (hsrc : ∀ j v, cs[j]? = some v → w.cell? (ad.add j) = some v) (h1 : ∀ v ∈ cs, v.oneCell' = true)
    (h : ∀ w', w'.ownsRow B elem size (.slice (some ⟨g, 0, none⟩) n n) n cs → w.grownBy w' (some g) → wpList P ops Q rest (a.put o.dst (goInt n)) w') : wpList P ops Q (o :: rest) a w := by
  refine wpList_plain hgd fun K hK => ?_
  rcases hown.2 with ⟨e, _⟩ | ⟨g', cap', cur, e, hB, hg, hnc, hcm, hcs, ht⟩
  · simp at e
  · simp only [Value.slice.injEq, Option.some.injEq, Addr.mk.injEq, and_true, true_and] at e
    obtain ⟨rfl, rfl⟩ := e
    have hrun := run_copy_whole (P := P) w dT sT o.type elem size g n n ad sCap cur elem cs hu hsz hg hn.symm hsrc (by omega) h1
    unfold Oper.wp
    simp [execOp, ho, resolve, invoke, builtin, hd, hs, hrun, Result.andThen]
    refine hK _ _ (h _ ⟨hn, .inr ⟨g, n, _, rfl, hB, setRow_heap w g _ _ elem _ hg, hnc, hcm, ?_, ?_⟩⟩ ⟨rfl, rfl, rfl, by simp, fun k _ hk => setRow_other w g k _ (fun e => hk (by simp [e]))⟩)
    · simp; omega
    · rw [← hn]; simp
end

theorem infoS : (Tryz.prog.info? 9).map (fun i => (i.zero, i.size, i.bytes)) = some (some (.string ⟨#[]⟩), 1, 16) := by kernel_rfl
end Go.Proofs.YtpdpnepnfhbonaaGreat

namespace Go.Proofs.YtpdpnepnfhbonaaGreat
open Go.RowKit
set_option linter.unusedVariables false
set_option maxRecDepth 100000

set_option maxHeartbeats 800000 in
theorem tableOK_impl (ao : Option Addr) (cap : Nat) (xs : List Int) (w : World) (hl : xs.length ≤ maxLen) (hc : Is w ao xs) :
    Calls Tryz.prog 135 #[.slice ao xs.length cap] w fun e w' => e = .returned (.bool (tbB xs)) ∧ w' = w := by
  have HC := hide hc
  clear hc
  unfold maxLen at hl
  by_cases hlong : 12 < xs.length
  · have HF := hide (tbB_nolen (xs := xs) (by omega))
    go_enter Tryz.func135, Tryz.ntmps135
    go_wp2
    go_ret
    exact ⟨ret_bool (unhide HF).symm, rfl⟩
  go_enter Tryz.func135, Tryz.ntmps135
  go_wp2
  go_loop [10] (fun i => ∃ k : Nat, k ≤ xs.length ∧ i = .int .i64 k ∧ Hid (∀ j (h : j < xs.length), j < k → ent1 xs[j] = true)) (fun i => xs.length - (intOf i).toNat)
  case atStart => exact ⟨0, Nat.zero_le _, rfl, hide (fun j _ h => by omega)⟩
  case round =>
    obtain ⟨k, hk, rfl, HA⟩ := hrel
    by_cases hlt : k < xs.length
    · obtain ⟨b, off, rfl, hc⟩ := unhide HC k hlt
      by_cases hn : ent1 xs[k] = true
      · have HN := hide (all_succ hlt (unhide HA) hn)
        have hn' : betw xs[k] 0 25 = true := hn
        clear hn
        go_wp2_with (go_at_call 124; refine (within_any _ _ _ _).mono ?_; rintro e w' ⟨rfl, rfl⟩)
        go_round
        case rel => exact ⟨k + 1, by omega, by go_num, HN⟩
        case measure => simp [intOf]; omega
      · have hn0 : ent1 xs[k] = false := by simpa using hn
        have hn' : betw xs[k] 0 25 = false := hn0
        have HF := hide (tbB_noat hlt hn0)
        clear hn hn0
        go_wp2_with (go_at_call 124; refine (within_any _ _ _ _).mono ?_; rintro e w' ⟨rfl, rfl⟩)
        go_ret
        exact ⟨ret_bool (unhide HF).symm, rfl⟩
    · have HF := hide (tbB_of (xs := xs) (by omega) (fun j h => unhide HA j h (by omega)))
      go_wp2
      go_ret
      exact ⟨ret_bool (unhide HF).symm, rfl⟩

theorem tableFault_any (ao : Option Addr) (cap : Nat) (xs : List Int) (w : World) (hl : xs.length ≤ maxLen) (hc : Is w ao xs) :
    Calls Tryz.prog 146 #[.slice ao xs.length cap] w fun e w' => e = .returned (.int .i64 (tbF xs)) ∧ w' = w := by
  have HC := hide hc
  have HL := hide hl
  unfold maxLen at hl
  clear hc
  rcases tbF_cases xs with ⟨h1, h2⟩ | ⟨h1, hb, h2⟩ | ⟨hb, h2⟩
  · have HE := hide h2
    clear h2
    go_enter Tryz.func146, Tryz.ntmps146
    go_wp2
    go_ret
    exact ⟨ret_int (unhide HE).symm, rfl⟩
  · have HE := hide h2
    clear h2
    go_enter Tryz.func146, Tryz.ntmps146
    go_wp2_with (go_at_call 135; refine (tableOK_impl _ _ xs _ (unhide HL) (unhide HC)).mono ?_; rintro e w' ⟨rfl, hw⟩; replace hw := hw.symm; subst hw; rw [hb])
    go_ret
    exact ⟨ret_int (unhide HE).symm, rfl⟩
  · have HE := hide h2
    have h4 : ¬ (4096 : Int) < (xs.length : Int) := by have := tbB_len hb; omega
    clear h2
    go_enter Tryz.func146, Tryz.ntmps146
    go_wp2_with (go_at_call 135; refine (tableOK_impl _ _ xs _ (unhide HL) (unhide HC)).mono ?_; rintro e w' ⟨rfl, hw⟩; replace hw := hw.symm; subst hw; rw [hb])
    go_ret
    exact ⟨ret_int (unhide HE).symm, rfl⟩

theorem tbF_ne {xs : List Int} (h : tbF xs ≠ 0) : (tbF xs != 0) = true := by simpa using h

theorem splitEntry_any (n : Int) (w : World) (h0 : -1000 ≤ n) (h1 : n ≤ 1000) :
    Calls Tryz.prog 147 #[.int .i64 n] w fun e w' => e = .returned (.tuple #[.int .i64 (min n 2), .int .i64 (max 0 (n - 2))]) ∧ w' = w := by
  by_cases h : n < 2
  · have HM : Hid (n = min n 2 ∧ (0 : Int) = max 0 (n - 2)) := hide ⟨by omega, by omega⟩
    go_enter Tryz.func147, Tryz.ntmps147
    go_wp2
    go_ret2
    exact ⟨ret_two2 (unhide HM).1 (unhide HM).2, rfl⟩
  · have HM : Hid ((2 : Int) = min n 2 ∧ n - 2 = max 0 (n - 2)) := hide ⟨by omega, by omega⟩
    have hw2 : IntKind.i64.wrap (n - 2) = n - 2 := by rw [IntKind.wrap_i64]; omega
    go_enter Tryz.func147, Tryz.ntmps147
    go_wp2
    go_ret2
    exact ⟨ret_two2 (unhide HM).1 (unhide HM).2, rfl⟩

end Go.Proofs.YtpdpnepnfhbonaaGreat
