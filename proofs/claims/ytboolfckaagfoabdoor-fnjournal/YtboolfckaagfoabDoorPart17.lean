import Derived.Test.YtboolfckaagfoabDoorPart1
import Derived.Test.YtboolfckaagfoabDoorPart2
import Derived.Test.YtboolfckaagfoabDoorPart3
import Derived.Test.YtboolfckaagfoabDoorPart8
import Derived.Test.YtboolfckaagfoabDoorPart7
import Derived.Test.YtboolfckaagfoabDoorPart13
import Derived.WalkKit
import Derived.Test.YtboolfckaagfoabDoorRows
import Derived.Test.YtboolfckaagfoabDoorPart16
import Derived.WalkSpells
import Derived.KernelRfl
import Derived.Deep.RegionWith
import Derived.Test.YtboolfckaagfoabDoorPart4
import Derived.LoopN
import Derived.Lib.SmallJoins
import Derived.Test.YtboolfckaagfoabDoorPart9
import Derived.Test.YtboolfckaagfoabDoorPart11
import Derived.Test.YtboolfckaagfoabDoorPart12
import Derived.BigQuiet
import Derived.Deep.QuietTactic
import Derived.Deep.CutRange

/- Plain: texts as the model draws them; what is read behind a write of a generation that is sure. -/
namespace Go.Proofs.YtboolfckaagfoabDoor
open Go.RowKit
set_option linter.unusedVariables false

/-- Short, too long for a sector, or a record of small numbers. -/
def Drw (t : ByteArray) : Prop := t.size ≤ 4 ∨ 80 < t.size ∨ ∃ (k : Int) (xs : List Int), t = sealS k xs ∧ (1 ≤ k ∧ k ≤ 9) ∧ xs.length ≤ 16 ∧ ∀ x ∈ xs, 0 ≤ x ∧ x ≤ 20
theorem small_all {xs : List Int} (h : ∀ x ∈ xs, 0 ≤ x ∧ x ≤ 20) : allB xs = true := by
  rw [allB, List.all_eq_true]
  intro x hx
  have := h x hx
  simp [numB, inB]; omega
theorem openB_in {t : ByteArray} {k : Int} : openB t k = true ↔ RecP t ∧ byteAt t 0 = k := by
  simp only [openB, Bool.and_eq_true, decide_eq_true_eq, recB_iff]
theorem dec_list {t : ByteArray} (h : decB t = true) : ∃ a b c, unL (bodyT t) = [a, b, c] ∧ decG t = b := by
  have h' := h
  simp only [decB, Bool.and_eq_true, decide_eq_true_eq] at h'
  obtain ⟨ho, hl, hd⟩ := h'
  obtain ⟨a, b, c, e⟩ := three hl
  exact ⟨a, b, c, by rw [← e, decL, openL_yes ho], (dec_yes h e).2.1⟩
theorem drw_gen {t : ByteArray} (h : Drw t) (h80 : t.size ≤ 80) : decG t ≤ 20 := by
  cases hb : decB t with
  | false => rw [(dec_no hb).2.1]; omega
  | true =>
    obtain ⟨a, b, c, hl, hg⟩ := dec_list hb
    rw [hg]
    rcases h with h | h | ⟨k, xs, rfl, hk, hx, hs⟩
    · have := congrArg List.length hl
      rw [unL_length, bodyT_size] at this
      simp at this
      omega
    · omega
    · rw [body_seal, un_pack (small_all hs)] at hl
      subst hl
      exact (hs b (by simp)).2
theorem dec_enc {h g s : Int} (hd : dltB h g s = true) : decB (encD h g s) = true ∧ decH (encD h g s) = h ∧ decG (encD h g s) = g ∧ decS (encD h g s) = s := by
  obtain ⟨h1, h2, h3⟩ := dltB_iff.1 hd
  have ha : allB [h, g, s] = true := by simp [allB, numB, inB]; omega
  have ho : openB (encD h g s) 9 = true := openB_in.2 ⟨rec_seal ⟨by omega, by omega⟩ ha (by simp), seal_kind ⟨by omega, by omega⟩ (by simp)⟩
  have hl : decL (encD h g s) = [h, g, s] := by rw [decL, openL_yes ho, encD, body_seal, un_pack ha]
  have hb : decB (encD h g s) = true := by rw [decB_at ho hl]; exact hd
  exact ⟨hb, dec_yes hb hl⟩

theorem pX_nil (h g s : Int) : pX [] h g s = [] := by simp [pX, dropF, dwr]
theorem pS_nil (ss : List ByteArray) (h g s : Int) : pS ss [] h g s = ss.set (5 + h).toNat (encD h g s) := by simp [pS, ofH, dwr, putW]
theorem read_nil (ss : List ByteArray) (o a : Int) : readV ss [] o a = ss.getD a.toNat ⟨#[]⟩ := readV_none (fun j hj => absurd hj (Nat.not_lt_zero _))
/-- What is read behind it, by whatever host. -/
theorem red_put {ss : List ByteArray} {h g s : Int} (o : Int) (hl : ss.length = 64) (hx : dltB h g s = true) : redB (pS ss [] h g s) [] o h = true ∧ redG (pS ss [] h g s) [] o h = g ∧ redS (pS ss [] h g s) [] o h = s := by
  obtain ⟨⟨h0, h3⟩, _⟩ := dltB_iff.1 hx
  obtain ⟨e0, e1, e2, e3⟩ := dec_enc hx
  have hr : readV (pS ss [] h g s) [] o (5 + h) = encD h g s := by
    rw [read_nil, pS_nil, List.getD_eq_getElem?_getD, List.getElem?_set_self (by omega)]; rfl
  obtain ⟨y1, y2, y3⟩ := red_yes (ss := pS ss [] h g s) (xs := []) (h := o) (o := h) (by rw [hr]; exact e0) (by rw [hr]; exact e1)
  rw [hr] at y2 y3
  exact ⟨y1, y2.trans e2, y3.trans e3⟩
theorem red_small {ss : List ByteArray} {xs : List Wr} {h o : Int} (hd : diskB ss xs = true) (hs : ∀ s ∈ ss, Drw s) (hx : ∀ x ∈ xs, Drw x.data) : redG ss xs h o ≤ 20 := by
  cases e : redB ss xs h o with
  | false => rw [(red_no e).1]; omega
  | true =>
    rw [redG, if_pos e]
    refine drw_gen ?_ (readV_size hd h (5 + o))
    unfold readV
    cases hf : xs.reverse.find? (fun x => x.host == h && x.at_ == 5 + o) with
    | some x => exact hx x (List.mem_reverse.1 (List.mem_of_find?_eq_some hf))
    | none =>
      simp only [Option.map_none, Option.getD_none]
      rw [List.getD_eq_getElem?_getD]
      cases hg : ss[(5 + o).toNat]? with
      | some s => exact hs s (List.mem_of_getElem? hg)
      | none => exact .inl (Nat.zero_le _)
theorem right_nil {ss : List ByteArray} {h g s : Int} (hd : diskB ss [] = true) (hx : dltB h g s = true) : diskB (pS ss [] h g s) [] = true := by
  obtain ⟨⟨h0, h3⟩, _⟩ := dltB_iff.1 hx
  have := pS_right (g := g) (s := s) hd (by simp) h0 h3
  rw [pX_nil] at this
  exact this

end Go.Proofs.YtboolfckaagfoabDoor

/- Contracts of the model's draws: chance, delta, leader, block; of l05Encode, l06Encode. -/
namespace Go.Proofs.YtboolfckaagfoabDoor
open Go.RowKit
set_option linter.unusedVariables false
set_option maxRecDepth 100000

/-- The world of such a draw: the source, the answer's variable. -/
structure DrS (w W : World) (b : Nat) (ao : Option Addr) (n cap m : Nat) (o : Obj) : Prop where
  s : SrcK W b ao n cap m
  k : Keep (fun k => k = b) w W
  r : W.heap[w.heap.size]? = some o
theorem DrS.new {w : World} {b : Nat} {ao : Option Addr} {n cap m : Nat} (hs : SrcK w b ao n cap m) (c : Array Value) (t : TypeId) : DrS w (w.alloc (.cells c t)) b ao n cap m (.cells c t (0, 0)) :=
  ⟨hs.below (Joins.below_alloc1 _ _), Keep.of_below (Joins.below_alloc1 _ _), heap_alloc_new w _⟩
theorem DrS.src {w W W' : World} {b : Nat} {ao : Option Addr} {n cap m m' : Nat} {o : Obj} (h : DrS w W b ao n cap m o) (hb : b < w.heap.size) (hs : SrcK W' b ao n cap m') (hk : Keep (fun k => k = b) W W') : DrS w W' b ao n cap m' o :=
  ⟨hs, h.k.trans hk, blk_keep hk (by omega) h.r⟩
/-- The answer is stored: three numbers. -/
theorem DrS.end3 {w W : World} {b : Nat} {ao : Option Addr} {n cap m : Nat} {o : Obj} (h : DrS w W b ao n cap m o) (h0 : SrcK w b ao n cap 0 ∨ True) (hb : b < w.heap.size) (hm0 : ∃ m0, SrcK w b ao n cap m0) (u v x : Value) :
    SrcK (((W.setCell ⟨w.heap.size, 0, none⟩ u).setCell ⟨w.heap.size, 1, none⟩ v).setCell ⟨w.heap.size, 2, none⟩ x) b ao n cap m ∧ Keep (fun k => k = b) w (((W.setCell ⟨w.heap.size, 0, none⟩ u).setCell ⟨w.heap.size, 1, none⟩ v).setCell ⟨w.heap.size, 2, none⟩ x) := by
  obtain ⟨m0, h1⟩ := hm0
  have hk : Keep (fun k => k = w.heap.size) W (((W.setCell ⟨w.heap.size, 0, none⟩ u).setCell ⟨w.heap.size, 1, none⟩ v).setCell ⟨w.heap.size, 2, none⟩ x) := (((Keep.refl (fun k => k = w.heap.size) W).setCell (p := ⟨w.heap.size, 0, none⟩) rfl _).setCell (p := ⟨w.heap.size, 1, none⟩) rfl _).setCell (p := ⟨w.heap.size, 2, none⟩) rfl _
  have hw := keep_new h.k hk (fun k e => .inl (by omega))
  exact ⟨h1.other h.s hw hk (by omega), hw⟩

end Go.Proofs.YtboolfckaagfoabDoor

/- Contracts of the model's draws: update, updates, UpdatesOf. -/
namespace Go.Proofs.YtboolfckaagfoabDoor
open Go.RowKit
set_option linter.unusedVariables false
set_option maxRecDepth 100000

theorem infoUw : (Tryd.prog.info? 28).map (fun i => (i.zero, i.size, i.bytes)) = some (some (.agg #[.int .i64 0, .string ⟨#[]⟩]), 2, 24) := by kernel_rfl
/-- A drawn update. -/
def drU (u : Up) : Bool := inB u.at_ 9 28 && decide (u.data.size ≤ 8)
theorem drU_right {u : Up} (h : drU u = true) : upB u = true := by
  simp only [drU, inB, Bool.and_eq_true, decide_eq_true_eq] at h
  rw [upB_iff]; omega
theorem DrS.end2 {w W : World} {b : Nat} {ao : Option Addr} {n cap m : Nat} {o : Obj} (h : DrS w W b ao n cap m o) (hb : b < w.heap.size) (hm0 : ∃ m0, SrcK w b ao n cap m0) (u v : Value) :
    SrcK ((W.setCell ⟨w.heap.size, 0, none⟩ u).setCell ⟨w.heap.size, 1, none⟩ v) b ao n cap m ∧ Keep (fun k => k = b) w ((W.setCell ⟨w.heap.size, 0, none⟩ u).setCell ⟨w.heap.size, 1, none⟩ v) := by
  obtain ⟨m0, h1⟩ := hm0
  have hk : Keep (fun k => k = w.heap.size) W ((W.setCell ⟨w.heap.size, 0, none⟩ u).setCell ⟨w.heap.size, 1, none⟩ v) := ((Keep.refl (fun k => k = w.heap.size) W).setCell (p := ⟨w.heap.size, 0, none⟩) rfl _).setCell (p := ⟨w.heap.size, 1, none⟩) rfl _
  have hw := keep_new h.k hk (fun k e => .inl (by omega))
  exact ⟨h1.other h.s hw hk (by omega), hw⟩

set_option maxHeartbeats 1600000 in
theorem update_k (b : Nat) (ao : Option Addr) (n cap m : Nat) (w : World) (hm : m ≤ 600000) (hn : n ≤ 1048576) (hs : SrcK w b ao n cap m) :
    Calls Tryd.prog 48 #[.pointer (some ⟨b, 0, none⟩)] w fun e w' => ∃ u : Up, e = .returned (uV u) ∧ drU u = true ∧ SrcK w' b ao n cap (m + 30) ∧ Keep (fun j => j = b) w w' := by
  have hlt := hs.lt
  have HS := hide hs
  have D0 := hide (DrS.new hs #[.int .i64 0, .string ⟨#[]⟩] 28)
  clear hs
  go_enter Tryd.func48, Tryd.ntmps48
  go_wp2_with fail
  refine (next_k b ao n cap m 20 _ (by omega) (by omega) (by omega) hn (unhide D0).s).mono ?_
  rintro e w1 ⟨q1, rfl, q10, q11, hs1, hk1⟩
  have D1 := hide ((unhide D0).src hlt hs1 hk1)
  have wr1 : IntKind.i64.wrap (9 + q1) = 9 + q1 := by rw [IntKind.wrap_i64]; omega
  clear hs1 hk1
  go_wp2_with fail
  refine (next_k b ao n cap (m + 3) 9 _ (by omega) (by omega) (by omega) hn (unhide D1).s).mono ?_
  rintro e w2 ⟨q2, rfl, q20, q21, hs1, hk1⟩
  have D2 := hide ((unhide D1).src hlt hs1 hk1)
  clear hs1 hk1
  obtain ⟨k, rfl⟩ := Int.eq_ofNat_of_zero_le q20
  go_wp2_with fail
  refine (some_k b ao n cap (m + 3 + 3) k _ (by omega) (by omega) hn (unhide D2).s).mono ?_
  rintro e w3 ⟨t, rfl, ht, hs1, hk1⟩
  have D3 := hide ((unhide D2).src hlt hs1 hk1)
  have HT := hide ht
  clear hs1 hk1 ht
  have hblk := (unhide D3).r
  have c0 := Joins.cell_of_block hblk 0
  have c1 := Joins.cell_of_block hblk 1
  have f0 := Joins.unfrozen_of_block hblk 0
  have f1 := Joins.unfrozen_of_block hblk 1
  simp at c0 c1
  have HF := hide (fun u v => (unhide D3).end2 hlt ⟨_, unhide HS⟩ u v)
  clear hblk
  go_wp2
  refine bodyPost_ret (v := uV ⟨9 + q1, t⟩) (by simp [results, Tryd.results48, go_sem, c0, c1]) rfl ⟨⟨9 + q1, t⟩, rfl, ?_, (unhide HF _ _).1.more (by omega), (unhide HF _ _).2⟩
  simp only [drU, inB, Bool.and_eq_true, decide_eq_true_eq]
  have := unhide HT
  omega

set_option maxHeartbeats 3200000 in
theorem updates_k (b : Nat) (ao : Option Addr) (n cap m : Nat) (w : World) (hm : m ≤ 500000) (hn : n ≤ 1048576) (hs : SrcK w b ao n cap m) :
    Calls Tryd.prog 23 #[.pointer (some ⟨b, 0, none⟩)] w fun e w' => ∃ qo qa us, e = .returned (.slice qo us.length qa) ∧ OwnR w' w.heap.size 28 2 (.slice qo us.length qa) us.length (upsV us) ∧ us.all drU = true ∧ us.length ≤ 4 ∧ Keep (fun k => k = b) w w' := by
  have hbl := hs.lt
  have HS0 := hide hs
  clear hs
  obtain ⟨j0, hj, hy0, hy1, hy2⟩ := info_parts infoUw
  have HSA := hide ((unhide HS0).below (Joins.below_alloc1 w (.cells #[] 28)))
  have HKA : Hid (Keep (fun k => k = b) w (w.alloc (.cells #[] 28))) := hide (Keep.of_below (Joins.below_alloc1 _ _))
  go_enter Tryd.func23, Tryd.ntmps23
  go_wp2_with fail
  refine (next_k b ao n cap m 5 _ (by omega) (by omega) (by omega) hn (unhide HSA)).mono ?_
  rintro e w1 ⟨r1, rfl, hr10, hr11, hs1, hk1⟩
  have HS1 := hide hs1
  have HK1 := hide ((unhide HKA).trans hk1)
  clear hs1 hk1
  obtain ⟨q, rfl⟩ := Int.eq_ofNat_of_zero_le hr10
  go_wp2
  go_loopw [3, 4] (fun o i wr => ∃ (j : Nat) (us : List Up) (qo : Option Addr) (qa : Nat), us.length + j ≤ 4 ∧ i = .int .i64 j ∧ o = .slice qo us.length qa ∧ Hid (us.all drU = true) ∧ Hid (OwnR wr w.heap.size 28 2 (.slice qo us.length qa) us.length (upsV us)) ∧ Hid (Keep (fun k => k = b) w wr) ∧ Hid (SrcK wr b ao n cap (m + 3 + 30 * us.length))) (fun _ i _ => (intOf i).toNat)
  case atStart => exact ⟨q, [], _, _, by simp; omega, rfl, rfl, hide rfl, hide (.inl ⟨rfl, rfl, _, rfl⟩), HK1, HS1⟩
  case round =>
    obtain ⟨j, us, qo, qa, hxj, rfl, rfl, HA, HO, HK, HS⟩ := hrel
    by_cases hlt : 0 < j
    · go_wp2_with fail
      refine (update_k b ao n cap _ _ (by omega) hn (unhide HS)).mono ?_
      rintro e w2 ⟨u, rfl, hu, hs2, hk2⟩
      have HU := hide hu
      have HO2 := hide ((unhide HO).keep hk2 (fun g hg e => by have := ((unhide HO).ge g hg).1; omega))
      have HK2 := hide ((unhide HK).trans hk2)
      have HS2 := hide hs2
      clear hs2 hk2 hu
      have HOA := hide ((unhide HO2).below (Joins.below_alloc1 _ (.cells #[.int .i64 u.at_, .string u.data] 28)))
      have HKB := hide ((unhide HK2).trans (Keep.of_below (Joins.below_alloc1 _ (.cells #[.int .i64 u.at_, .string u.data] 28))))
      have HSB := hide ((unhide HS2).below (Joins.below_alloc1 _ (.cells #[.int .i64 u.at_, .string u.data] 28)))
      have HSZ := hide (unhide HK2).size
      go_wp2_with (at_builtin; refine wpList_append_one rfl _ _ 23 rfl w.heap.size 28 j0 (.agg #[.int .i64 0, .string ⟨#[]⟩]) 2 24 Tryd.underlying23 hj hy0 hy1 hy2 rfl (by omega) qo us.length qa (upsV us) rfl (unhide HOA) (by have := unhide HSZ; simp; omega) ⟨w2.heap.size, 0, none⟩ _ (upV u) rfl rfl (news2_at w2 _ _ _ rfl) (upV_one _) (by unfold maxLen; omega) (by omega) ?_; intro g2 cap2 wA hoA hkA; have HSF := hide (And.intro hoA (keep_new (unhide HKB) hkA (fun k hk => .inl ((unhide HOA).ge k hk).1))); have HSC := hide ((unhide HS0).other (unhide HSB) (unhide HSF).2 hkA (fun hk => by have := ((unhide HOA).ge _ hk).1; omega)); clear hoA hkA)
      go_roundw
      case rel => exact ⟨j - 1, us ++ [u], some ⟨g2, 0, none⟩, cap2, by simp; omega, by go_num, by simp, hide (by simp only [List.all_append, Bool.and_eq_true]; exact ⟨unhide HA, by simp; exact unhide HU⟩), hide (by rw [List.length_append, upsV_append]; exact .inr ⟨by simp, (unhide HSF).1⟩), hide (unhide HSF).2, hide (by rw [List.length_append]; exact (unhide HSC).more (by simp; omega))⟩
      case measure => simp [intOf]; omega
    · go_wp2
      go_ret
      exact ⟨qo, qa, us, rfl, unhide HO, unhide HA, by omega, unhide HK⟩

theorem updatesOf_any (ao : Option Addr) (n cap : Nat) (w : World) (hn : n ≤ 1048576) (hB : Bs w ao n) :
    Calls Tryd.prog 7 #[.slice ao n cap] w fun e w' => ∃ qo qa us, e = .returned (.slice qo us.length qa) ∧ OwnR w' w.heap.size 28 2 (.slice qo us.length qa) us.length (upsV us) ∧ us.all drU = true ∧ us.length ≤ 4 ∧ Below w.heap.size w w' := by
  go_enter Tryd.func7, Tryd.ntmps7
  go_wp2_with fail
  refine (source_any ao n cap _ hn hB).mono ?_
  rintro e w1 ⟨rfl, hs1, hb1, hz⟩
  go_wp2_with fail
  refine (updates_k _ ao n cap 0 _ (by omega) hn hs1).mono ?_
  rintro e w2 ⟨qo, qa, us, rfl, ho, ha, hl, hk⟩
  have HO := hide (ho.base hb1.size)
  have HA := hide ha
  have HB := hide (belowKp hb1 hk (fun j hj => by omega))
  clear ho ha hk hb1 hs1
  go_wp2
  go_ret
  exact ⟨qo, qa, us, rfl, unhide HO, unhide HA, hl, unhide HB⟩

end Go.Proofs.YtboolfckaagfoabDoor

/- The walk of laws.FnJournal. -/
namespace Go.Proofs.YtboolfckaagfoabDoor
open Go.RowKit
set_option linter.unusedVariables false
set_option maxRecDepth 100000

theorem apIos {w W : World} {qo : Option Addr} {qa : Nat} {ms : List Wr} (h : ApS w W qo ms.length qa ms) (hz : ∀ x ∈ ms, x.data.size ≤ maxLen) : Ios W qo ms := ownMv h.o hz

theorem ownRS {w : World} {B pa : Nat} {po : Option Addr} {ss : List ByteArray} (h : OwnR w B 9 1 (.slice po ss.length pa) ss.length (strV ss)) (hz : ∀ s ∈ ss, s.size ≤ maxLen) : Ss w po ss := by
  rcases h with ⟨h0, _⟩ | ⟨h0, h⟩
  · exact fun i hi => by omega
  · exact ownS h hz

set_option maxHeartbeats 6400000 in
theorem lawJournal (ao : Option Addr) (ca n : Nat) (bo : Option Addr) (cb m : Nat) (w : World) (hn : n ≤ maxLen) (hB : Bs w ao n) (hm : m ≤ maxLen) (hC : Bs w bo m) (hE : ErrW w) :
    Calls Tryd.prog 4 #[.slice ao n ca, .slice bo m cb] w fun e w' => e = .returned (.bool true) ∧ Below w.heap.size w w' := by
  have HE := hide hE
  have HBS := hide hB
  have HCS := hide hC
  clear hE hB hC
  unfold maxLen at hn hm
  by_cases h : 1048576 < n
  · go_enter Tryd.func4, Tryd.ntmps4
    go_wp2
    go_ret
    exact ⟨rfl, Below.refl _ _⟩
  by_cases h' : 1048576 < m
  · go_enter Tryd.func4, Tryd.ntmps4
    go_wp2
    go_ret
    exact ⟨rfl, Below.refl _ _⟩
  have hn' : n ≤ 1048576 := by omega
  have hm' : m ≤ 1048576 := by omega
  obtain ⟨h, hh, AH⟩ := at_told bo m cb 0 4 w hm' (by omega) (by omega) (by omega) (by omega) (unhide HCS)
  obtain ⟨q, hq, AQ⟩ := at_told bo m cb 1 99 w hm' (by omega) (by omega) (by omega) (by omega) (unhide HCS)
  have HAH := hide AH
  have HAQ := hide AQ
  have hh' : 0 ≤ h ∧ h ≤ 3 := by omega
  have HNQ : Hid (numB q = true) := hide (by simp [numB, inB]; omega)
  obtain ⟨i0, hi, hz0, hz1, hz2⟩ := info_parts info9'
  clear AH AQ
  go_enter Tryd.func4, Tryd.ntmps4
  go_wp2_with fail
  refine (updatesOf_any ao n ca _ hn' (unhide HBS)).mono ?_
  rintro e w1 ⟨qo, qa, us, rfl, ho1, hall, hlen, hb1⟩
  have HB1 := hide hb1
  have HUB : Hid (upsB us = true) := hide (List.all_eq_true.2 (fun x hx => drU_right (List.all_eq_true.1 hall x hx)))
  have HU1 := hide (ownUps ho1 (upB_size (unhide HUB)))
  clear hb1 ho1 hall
  obtain ⟨P, hP⟩ : ∃ P, P = plL (slN h) q us := ⟨_, rfl⟩
  have HP := hide hP
  obtain ⟨jc, jl⟩ := jp_yes hh' (unhide HNQ) (unhide HUB) (show us.length ≤ 5 by omega)
  rw [← hP] at jl
  have HJ := hide (And.intro jc jl)
  obtain ⟨Z, z1, z2, z3, z4, z5, z6⟩ := jr_whole hh' (unhide HNQ) (unhide HUB) (show us.length ≤ 5 by omega)
  rw [← hP] at z1 z2 z3
  have HZ := hide (And.intro z1 (And.intro z2 z3))
  have HZD := hide z4
  have HZE := hide z5
  have HZM := hide z6
  have HZL : Hid (Z.length = 64) := hide (diskB_len z4).1
  have HPS : Hid (∀ x ∈ P, x.data.size ≤ maxLen) := hide (by rw [hP]; exact (short_pl (unhide HUB)).sizes)
  have HPL : Hid (P.length ≤ 16) := hide (by rw [hP]; exact pl_len _ _ _ (by omega))
  have bz : ((Z.length : Int) != 64) = false := by simp [(diskB_len z4).1]
  clear hP jc jl z1 z2 z3 z4 z5 z6
  go_wp2_with fail
  refine (unhide HAH _ (unhide HB1)).mono ?_
  rintro e w2 ⟨rfl, hb⟩
  have HB2 := hide (fr (unhide HB1) hb)
  have HW2 := hide hb
  clear hb
  go_wp2_with fail
  refine (unhide HAQ _ (unhide HB2)).mono ?_
  rintro e w3 ⟨rfl, hb⟩
  have HB3 := hide (fr (unhide HB2) hb)
  have HW3 := hide (fr (unhide HW2) hb)
  clear hb
  go_wp2_with fail
  refine (journalPlan_impl h q qo qa us _ (by omega) ((unhide HU1).below (unhide HW3))).mono ?_
  rintro e w4 ⟨ro, ra, nr, rfl, ha⟩
  rw [(unhide HJ).1]
  rw [(unhide HJ).2] at ha
  obtain rfl := ha.len
  have HI4 := hide (apIos ha (unhide HPS))
  have HB4 := hide (fr (unhide HB3) ha.k)
  have HW4 := hide (fr (unhide HW3) ha.k)
  clear ha
  go_wp2_with fail
  refine (unhide HAQ _ (unhide HB4)).mono ?_
  rintro e w5 ⟨rfl, hb⟩
  have HB5 := hide (fr (unhide HB4) hb)
  have HW5 := hide (fr (unhide HW4) hb)
  have HI5 := hide ((unhide HI4).below hb)
  clear hb
  go_wp2_with fail
  refine (journalPlan_spec h q qo qa us _ (by omega) ((unhide HU1).below (unhide HW5))).mono ?_
  rintro e w6 ⟨so, sa, nr, rfl, ha⟩
  rw [(unhide HJ).1]
  rw [(unhide HJ).2] at ha
  obtain rfl := ha.len
  have HJ6 := hide (apIos ha (unhide HPS))
  have HI6 := hide ((unhide HI5).below ha.k)
  have HB6 := hide (fr (unhide HB5) ha.k)
  have HW6 := hide (fr (unhide HW5) ha.k)
  clear ha
  go_wp2_with (first | (at_make; refine wpList_make_full _ rfl _ _ 38 rfl w6.heap.size 9 i0 _ 1 Tryd.underlying38 hi hz0 hz1 _ _ _ _ 64 rfl rfl rfl rfl ?c1 ?c2 ?c3 ?_))
  case c1 => rw [hz2]; omega
  case c2 => unfold maxLen; omega
  case c3 => exact Nat.le_refl _
  intro w7 hown hgrow
  have hb : Below w6.heap.size w6 w7 := (Below.refl _ _).grown hgrow (Nat.le_refl _) (fun _ h => by cases h)
  have HS7 : Hid (Ss w7 (some ⟨w6.heap.size, 0, none⟩) e64) := hide (ownS (noSs_own hown) (fun s hs => by rw [List.eq_of_mem_replicate hs]; unfold maxLen; decide))
  have HB7 := hide (fr (unhide HB6) hb)
  have HW7 := hide (fr (unhide HW6) hb)
  have HI7 := hide ((unhide HI6).below hb)
  have HJ7 := hide ((unhide HJ6).below hb)
  clear hown hgrow hb
  have HA := hide (Joins.below_alloc1 w7 (.cells #[.slice (some ⟨w6.heap.size, 0, none⟩) 64 64, .slice none 0 0] 41))
  have HV := hide (VarD.new w7 (.slice (some ⟨w6.heap.size, 0, none⟩) 64 64) (.slice none 0 0))
  go_upto_region 8 with fail
  revert HA HV
  generalize (w7.alloc (.cells #[.slice (some ⟨w6.heap.size, 0, none⟩) 64 64, .slice none 0 0] 41)) = W8
  intro HA HV
  have HS8 := hide ((unhide HS7).below (unhide HA))
  have HB8 := hide (fr (unhide HB7) (unhide HA))
  have HW8 := hide (fr (unhide HW7) (unhide HA))
  have HI8 := hide ((unhide HI7).below (unhide HA))
  have HJ8 := hide ((unhide HJ7).below (unhide HA))
  clear HA
  generalize w7.heap.size = D at *
  generalize w6.heap.size = G at *
  obtain ⟨x0, x1⟩ := (unhide HV).cells
  have hl8 := (unhide HV).lt
  go_wp2_with fail
  refine ((show Calls Tryd.prog 15 #[.agg #[.slice (some ⟨G, 0, none⟩) 64 64, .slice none 0 0], .int .i64 h, .slice ro P.length ra] W8 _ from movesDo_impl (some ⟨G, 0, none⟩) none 64 0 e64 [] h ro ra P W8 (by rw [e64_length]; omega) (by simp) (by have := unhide HPL; omega) (unhide HS8) (fun i hi => absurd hi (Nat.not_lt_zero _)) (unhide HI8))).mono ?_
  rintro e w9 ⟨po, pa, ko, ka, rfl, ho, hb⟩
  rw [(unhide HZ).1, (unhide HZ).2.1, (unhide HZ).2.2]
  rw [(unhide HZ).2.1, (unhide HZ).2.2] at ho
  obtain ⟨g, rfl, hpa, _, _⟩ := own_64 ho.s (unhide HZL)
  have HS9 : Hid (Ss w9 (some ⟨g, 0, none⟩) Z) := hide (ownRS ho.s (right_sz2 (unhide HZD)).1)
  have HB9 := hide (fr (unhide HB8) hb)
  have HW9 := hide (fr (unhide HW8) hb)
  have HI9 := hide ((unhide HI8).below hb)
  have HJ9 := hide ((unhide HJ8).below hb)
  clear ho hb x0 x1 hl8 HV HS8
  have HA := hide (Joins.below_alloc1 w9 (.cells #[.slice (some ⟨g, 0, none⟩) Z.length pa, .slice ko 0 ka] 41))
  have HV := hide (VarD.new w9 (.slice (some ⟨g, 0, none⟩) Z.length pa) (.slice ko 0 ka))
  go_upto_region 9 with fail
  revert HA HV
  generalize (w9.alloc (.cells #[.slice (some ⟨g, 0, none⟩) Z.length pa, .slice ko 0 ka] 41)) = WA
  intro HA HV
  have HSA := hide ((unhide HS9).below (unhide HA))
  have HBA := hide (fr (unhide HB9) (unhide HA))
  have HWA := hide (fr (unhide HW9) (unhide HA))
  have HIA := hide ((unhide HI9).below (unhide HA))
  have HJA := hide ((unhide HJ9).below (unhide HA))
  clear HA
  generalize w9.heap.size = X at *
  obtain ⟨x0, x1⟩ := (unhide HV).cells
  have hlA := (unhide HV).lt
  obtain ⟨o, t1, ho0, ho1⟩ : ∃ o : Int, (h + 1).tmod 4 = o ∧ 0 ≤ o ∧ o ≤ 3 := ⟨_, rfl, by rw [Int.tmod_eq_emod_of_nonneg (by omega)]; omega, by rw [Int.tmod_eq_emod_of_nonneg (by omega)]; omega⟩
  have wr1 : IntKind.i64.wrap (h + 1) = h + 1 := by rw [IntKind.wrap_i64]; omega
  obtain ⟨k1, k2, _⟩ := je_read (o := o) (unhide HZD) ⟨ho0, ho1⟩ hh' (unhide HZE)
  have HK := hide (And.intro k1 k2)
  clear k1 k2
  go_wp2_with fail
  refine ((show Calls Tryd.prog 16 #[.agg #[.slice (some ⟨g, 0, none⟩) Z.length pa, .slice ko 0 ka], .int .i64 o, .int .i64 h] WA _ from journalOf_impl (some ⟨g, 0, none⟩) ko pa ka Z [] o h WA (by rw [unhide HZL]; unfold maxLen; omega) (by simp) (unhide HSA) (fun i hi => absurd hi (Nat.not_lt_zero _)) ((unhide HE).below (unhide HBA)))).mono ?_
  rintro e wB ⟨lo, la, nl, rfl, hu⟩
  rw [(unhide HK).1]
  rw [(unhide HK).2] at hu
  obtain rfl := hu.len
  have hb := hu.k
  have HSB := hide ((unhide HSA).below hb)
  have HBB := hide (fr (unhide HBA) hb)
  have HWB := hide (fr (unhide HWA) hb)
  have HIB := hide ((unhide HIA).below hb)
  have HJB := hide ((unhide HJA).below hb)
  have HVB := hide ((unhide HV).below hb)
  clear hu hb x0 x1 hlA HV
  go_wp2_with fail
  refine (sameMoves_same ro so ra sa P _ (by have := unhide HPL; unfold maxLen; omega) (unhide HIB) (unhide HJB)).mono ?_
  rintro e wC ⟨rfl, hb⟩
  have HSC := hide ((unhide HSB).below hb)
  have HBC := hide (fr (unhide HBB) hb)
  have HWC := hide (fr (unhide HWB) hb)
  have HVC := hide ((unhide HVB).below hb)
  clear hb
  obtain ⟨x0, x1⟩ := (unhide HVC).cells
  have hlC := (unhide HVC).lt
  go_wp2_with (first | (at_make; refine wpList_make_full _ rfl _ _ 38 rfl wC.heap.size 9 i0 _ 1 Tryd.underlying38 hi hz0 hz1 _ _ _ _ 64 rfl rfl rfl rfl ?c1 ?c2 ?c3 ?_))
  case c1 => rw [hz2]; omega
  case c2 => unfold maxLen; omega
  case c3 => exact Nat.le_refl _
  intro wD hown hgrow
  have hb : Below wC.heap.size wC wD := (Below.refl _ _).grown hgrow (Nat.le_refl _) (fun _ h => by cases h)
  have HOD := hide (noSs_own hown)
  have HSD := hide ((unhide HSC).below hb)
  have HBD := hide hb
  have HUD := hide ((unhide HU1).below (unhide HWC))
  clear hown hgrow hb x0 x1 hlC
  go_wp2
  go_loopw [18] (fun i wr => ∃ (k : Nat), k ≤ us.length ∧ i = .int .i64 k ∧ Hid (wr.ownsRow wC.heap.size 9 1 (.slice (some ⟨wC.heap.size, 0, none⟩) 64 64) 64 (strV (putW e64 ((chL us).take k)))) ∧ Hid (Below wC.heap.size wC wr)) (fun i _ => us.length - (intOf i).toNat)
  case atStart => exact ⟨0, Nat.zero_le _, rfl, HOD, HBD⟩
  case round =>
    obtain ⟨k, hk, rfl, HO, HW⟩ := hrel
    by_cases hlt : k < us.length
    · obtain ⟨b, off, rfl, hc0, hc1, hcz⟩ := (unhide HUD).below (unhide HW) k hlt
      have hbl : b < wC.heap.size := by
        obtain ⟨b', off', e', hc', _⟩ := (unhide HUD) k hlt
        simp only [Option.some.injEq, Addr.mk.injEq, and_true] at e'
        obtain ⟨rfl, rfl⟩ := e'
        exact World.block_lt_of_cell? _ _ hc'
      have hup := (upB_iff.1 (upsB_at (unhide HUB) hlt)).1
      obtain ⟨a, ha⟩ : ∃ a : Nat, us[k].at_ = (a : Int) := ⟨us[k].at_.toNat, by omega⟩
      have ha64 : a < 64 := by omega
      have HAA : Hid (us[k].at_.toNat = a) := hide (by omega)
      have hfr := (unhide HO).frozenAt a
      obtain ⟨y0, hcx⟩ : ∃ x, wr.cell? ⟨wC.heap.size, a, none⟩ = some x := ⟨_, ((unhide HO).cellAt a (by omega)).trans (List.getElem?_eq_getElem (by rw [(unhide HO).1]; omega))⟩
      have HST := hide ((unhide HO).stored a (.string us[k].data))
      rw [ha] at hc0
      clear hcz hup ha
      have hki : (k : Int) < (us.length : Int) := by omega
      have hk0 : (0 : Int) ≤ (k : Int) := by omega
      have hne : b ≠ wC.heap.size := by omega
      have ha0 : (0 : Int) ≤ (a : Int) := by omega
      have ha1 : (a : Int) < 64 := by omega
      go_wp2_with fail
      go_region_with fail
      all_goals
        go_wp2
        go_roundw
        case rel =>
          refine ⟨k + 1, by omega, by go_num, hide ?_, hide ?_⟩
          · rw [due_take hlt, unhide HAA, ← strV_set]
            exact own_below (unhide HST).1 (Below.refl _ _).drew
          · exact ((unhide HW).grown (unhide HST).2 (unhide HW).size (fun k h => by cases h; exact Nat.le_refl _)).drew
        case measure => simp [intOf]; omega
    · obtain rfl : k = us.length := by omega
      have HDL : Hid ((due us).length = 64) := hide (by rw [due, put_len, e64_length])
      have HSU : Hid (Ss wr (some ⟨wC.heap.size, 0, none⟩) (due us)) := hide (by
        have h1 := unhide HO
        rw [chL_done (Nat.le_refl _)] at h1
        have h2 : wr.ownsRow wC.heap.size 9 1 (.slice (some ⟨wC.heap.size, 0, none⟩) (due us).length 64) (due us).length (strV (due us)) := by rw [unhide HDL]; exact h1
        exact ownS h2 (put_mem (P := fun s => s.size ≤ maxLen) _ _ (fun s hs => by rw [List.eq_of_mem_replicate hs]; unfold maxLen; decide) (short_ch (unhide HUB)).sizes))
      have HCALL : Hid (∀ W, Below wr.heap.size wr W → Calls Tryd.prog 18 #[.slice (some ⟨g, 9, none⟩) 30 (pa - 9), .slice (some ⟨wC.heap.size, 9, none⟩) 30 55] W fun e w' => e = .returned (.bool true) ∧ Below W.heap.size W w') := hide (fun W hW => by
        have h1 := ss_mid (((unhide HSC).below (unhide HW)).below hW) (unhide HZL)
        have h2 := ss_mid ((unhide HSU).below hW) (unhide HDL)
        rw [← unhide HZM] at h2
        have := sameTexts_same (some ⟨g, 9, none⟩) (some ⟨wC.heap.size, 9, none⟩) (pa - 9) 55 (mid Z) W (by rw [mid_len (unhide HZL)]; unfold maxLen; omega) h1 h2
        rw [mid_len (unhide HZL)] at this
        exact this)
      have HVR := hide ((unhide HVC).below (unhide HW))
      obtain ⟨x0, x1⟩ := (unhide HVR).cells
      have hp39 : (39 : Int) ≤ (pa : Int) := by omega
      have hp9 : ¬ pa = 9 := by omega
      go_wp2_with fail
      go_region_with (go_at_call 18; refine (unhide HCALL _ (by exact (Below.refl _ wr).drew)).mono ?_; rintro e wE ⟨rfl, hb⟩; have HBE := hide hb; clear hb)
      all_goals
        go_wp2
        go_ret
        exact ⟨rfl, fr (fr (fr (unhide HBC) (unhide HW)) (Below.refl _ wr).drew) (unhide HBE)⟩
end Go.Proofs.YtboolfckaagfoabDoor
