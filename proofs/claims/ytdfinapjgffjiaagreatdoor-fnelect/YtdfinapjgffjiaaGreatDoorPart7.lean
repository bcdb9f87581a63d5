import Derived.Test.YtdfinapjgffjiaaGreatDoorRows
import Derived.Test.YtdfinapjgffjiaaGreatDoorPart1
import Derived.Test.YtdfinapjgffjiaaGreatDoorPart2
import Derived.Test.YtdfinapjgffjiaaGreatDoorPart3
import Derived.Test.YtdfinapjgffjiaaGreatDoorPart4
import Derived.Test.YtdfinapjgffjiaaGreatDoorPart5
import Derived.Test.YtdfinapjgffjiaaGreatDoorPart6
import Derived.WalkKit
import Derived.WalkSpells
import Derived.KernelRfl
import Derived.Deep.RegionWith
import Derived.BigQuiet
import Derived.Deep.QuietTactic

/- A drawn disk that is owned, in a variable, beside the source; drawn disks' texts. -/
namespace Go.Proofs.YtdfinapjgffjiaaGreatDoor
open Go.RowKit
set_option linter.unusedVariables false
set_option maxRecDepth 100000

structure DkO (w W : World) (b : Nat) (so : Option Addr) (n cap m C : Nat) (po : Option Addr) (pa : Nat) (qo : Option Addr) (qa : Nat) (ss : List ByteArray) (xs : List Wr) : Prop where
  var : VarD W C (.slice po ss.length pa) (.slice qo xs.length qa)
  o : OwnD W (w.heap.size + 1) po ss.length pa qo xs.length qa ss xs
  r : VarD W w.heap.size (.slice none 0 0) (.slice none 0 0)
  k : Keep (fun k => k = b ∨ w.heap.size ≤ k) w W
  s : SrcK W b so n cap m
  c : w.heap.size < C
theorem DkO.below {w W W' : World} {b n cap m C pa qa : Nat} {so po qo : Option Addr} {ss : List ByteArray} {xs : List Wr} (h : DkO w W b so n cap m C po pa qo qa ss xs) (hb : Below W.heap.size W W') : DkO w W' b so n cap m C po pa qo qa ss xs :=
  ⟨h.var.below hb, h.o.below hb, h.r.below hb, h.k.trans (Keep.of_below hb), h.s.below hb, h.c⟩
theorem SrcK.blk {w : World} {b : Nat} {so : Option Addr} {n cap m : Nat} (h : SrcK w b so n cap m) : ∃ c, w.heap[b]? = some (.cells c 76 (0, 0)) := by
  obtain ⟨x, y, _, _, _, _, hblk⟩ := h.src
  exact ⟨_, hblk⟩
theorem DkO.src {w W W' : World} {b n cap m m' C pa qa : Nat} {so po qo : Option Addr} {ss : List ByteArray} {xs : List Wr} (h : DkO w W b so n cap m C po pa qo qa ss xs) (hb : b < w.heap.size) (hs : SrcK W' b so n cap m') (hk : Keep (fun j => j = b) W W') : DkO w W' b so n cap m' C po pa qo qa ss xs := by
  obtain ⟨c, hblk⟩ := h.s.blk
  exact ⟨h.var.keep hk (by have := h.c; omega), h.o.keep hk (fun g hg e => h.o.other hblk (by decide) (by decide) (e ▸ hg)), h.r.keep hk (by omega), h.k.trans (hk.mono (fun k e => .inl e)), hs, h.c⟩
theorem DkO.more {w W : World} {b n cap m m' C pa qa : Nat} {so po qo : Option Addr} {ss : List ByteArray} {xs : List Wr} (h : DkO w W b so n cap m C po pa qo qa ss xs) (hm : m ≤ m') : DkO w W b so n cap m' C po pa qo qa ss xs := ⟨h.var, h.o, h.r, h.k, h.s.more hm, h.c⟩
/-- What a store beside the source and the answer's variable leaves. -/
theorem DkO.other {w W W' : World} {b n cap m m0 C pa qa y : Nat} {so po qo : Option Addr} {ss : List ByteArray} {xs : List Wr} (h : DkO w W b so n cap m C po pa qo qa ss xs) (h0 : SrcK w b so n cap m0) (hy : w.heap.size < y) (hk : Keep (fun j => j = y) W W') :
    VarD W' w.heap.size (.slice none 0 0) (.slice none 0 0) ∧ Keep (fun k => k = b ∨ w.heap.size ≤ k) w W' ∧ SrcK W' b so n cap m := by
  have hb := h0.lt
  have hK : Keep (fun k => k = b ∨ w.heap.size ≤ k) w W' := h.k.trans (hk.mono (fun k e => .inr (by omega)))
  exact ⟨h.r.keep hk (by omega), hK, h0.other h.s (keep_drop hK) hk (by omega)⟩
/-- The variable is stored anew: another owned disk. -/
theorem DkO.store {w W : World} {b n cap m m0 C pa qa pa' qa' : Nat} {so po qo po' qo' : Option Addr} {ss ss' : List ByteArray} {xs xs' : List Wr} (h : DkO w W b so n cap m C po pa qo qa ss xs) (h0 : SrcK w b so n cap m0) (ho : OwnD W (w.heap.size + 1) po' ss'.length pa' qo' xs'.length qa' ss' xs') :
    DkO w ((W.setCell ⟨C, 0, none⟩ (.slice po' ss'.length pa')).setCell ⟨C, 1, none⟩ (.slice qo' xs'.length qa')) b so n cap m C po' pa' qo' qa' ss' xs' := by
  have hk : Keep (fun j => j = C) W ((W.setCell ⟨C, 0, none⟩ (.slice po' ss'.length pa')).setCell ⟨C, 1, none⟩ (.slice qo' xs'.length qa')) := ((Keep.refl (fun j => j = C) W).setCell (p := ⟨C, 0, none⟩) rfl _).setCell (p := ⟨C, 1, none⟩) rfl _
  obtain ⟨h1, h2, h3⟩ := h.other h0 h.c hk
  exact ⟨(h.var.set0 _).set1 _, ho.keep hk (fun g hg e => ho.other h.var (by decide) (by decide) (e ▸ hg)), h1, h2, h3, h.c⟩

/-- A drawn disk as an answer. -/
structure LsD (W : World) (B : Nat) (po : Option Addr) (pa : Nat) (qo : Option Addr) (qa : Nat) (ss : List ByteArray) (xs : List Wr) : Prop where
  s : Ss W po ss
  i : Ios W qo xs
  t : AllT Drw ss xs
  o : ss.length = 64 → OwnD W B po ss.length pa qo xs.length qa ss xs
  l : ss.length ≤ 64 ∧ xs.length ≤ 30
theorem drw_short {t : ByteArray} (h : t.size ≤ 4) : Drw t := .inl h
theorem drw_delta {h g s : Int} (h1 : 0 ≤ h ∧ h ≤ 3) (h2 : 1 ≤ g ∧ g ≤ 3) (h3 : 0 ≤ s ∧ s ≤ 19) : Drw (encD h g s) := .inr (.inr ⟨9, [h, g, s], rfl, by omega, by simp, by simp; omega⟩)
theorem pX_drop (xs : List Wr) (h g s : Int) : pX xs h g s = dropF h xs := by simp [pX, dropF, dwr]
theorem pX_le (xs : List Wr) (h g s : Int) : (pX xs h g s).length ≤ xs.length := by rw [pX_drop]; exact drop_le h xs
theorem AllT.pS {P : ByteArray → Prop} {ss : List ByteArray} {xs : List Wr} (k : AllT P ss xs) (h g s : Int) (he : P (encD h g s)) : AllT P (pS ss xs h g s) (pX xs h g s) :=
  (k.snoc (x := dwr h g s) he).put (fun x hx => of_mem hx) (fun x hx => drop_mem hx)
theorem AllT.sizes {P : ByteArray → Prop} {ss : List ByteArray} {xs : List Wr} (k : AllT P ss xs) (hp : ∀ t, P t → t.size ≤ maxLen) : (∀ s ∈ ss, s.size ≤ maxLen) ∧ ∀ x ∈ xs, x.data.size ≤ maxLen := ⟨fun s hs => hp s (k.1 s hs), fun x hx => hp _ (k.2 x hx)⟩
/-- The answer's variable is stored. -/
theorem DkO.ret {w W : World} {b n cap m m0 C pa qa : Nat} {so po qo : Option Addr} {ss : List ByteArray} {xs : List Wr} (h : DkO w W b so n cap m C po pa qo qa ss xs) (h0 : SrcK w b so n cap m0) (u v : Value) :
    SrcK ((W.setCell ⟨w.heap.size, 0, none⟩ u).setCell ⟨w.heap.size, 1, none⟩ v) b so n cap m ∧ Keep (fun j => j = b) w ((W.setCell ⟨w.heap.size, 0, none⟩ u).setCell ⟨w.heap.size, 1, none⟩ v) ∧ OwnD ((W.setCell ⟨w.heap.size, 0, none⟩ u).setCell ⟨w.heap.size, 1, none⟩ v) (w.heap.size + 1) po ss.length pa qo xs.length qa ss xs := by
  have hb := h0.lt
  have hk : Keep (fun j => j = w.heap.size) W ((W.setCell ⟨w.heap.size, 0, none⟩ u).setCell ⟨w.heap.size, 1, none⟩ v) := ((Keep.refl (fun j => j = w.heap.size) W).setCell (p := ⟨w.heap.size, 0, none⟩) rfl _).setCell (p := ⟨w.heap.size, 1, none⟩) rfl _
  have hK : Keep (fun k => k = b ∨ w.heap.size ≤ k) w ((W.setCell ⟨w.heap.size, 0, none⟩ u).setCell ⟨w.heap.size, 1, none⟩ v) := h.k.trans (hk.mono (fun k e => .inr (by omega)))
  exact ⟨h0.other h.s (keep_drop hK) hk (by omega), keep_drop hK, (h.o.setCell (a := ⟨w.heap.size, 0, none⟩) (Nat.lt_succ_self _) _).setCell (a := ⟨w.heap.size, 1, none⟩) (Nat.lt_succ_self _) _⟩
theorem LsD.of {W : World} {B pa qa : Nat} {po qo : Option Addr} {ss : List ByteArray} {xs : List Wr} (ho : OwnD W B po ss.length pa qo xs.length qa ss xs) (ht : AllT Drw ss xs) (hz : (∀ s ∈ ss, s.size ≤ maxLen) ∧ ∀ x ∈ xs, x.data.size ≤ maxLen) (hl : ss.length ≤ 64 ∧ xs.length ≤ 30) : LsD W B po pa qo qa ss xs :=
  ⟨ho.ss hz.1, ho.ios hz.2, ht, fun _ => ho, hl⟩

end Go.Proofs.YtdfinapjgffjiaaGreatDoor

/- Contracts of the model's draws: chance, delta, leader, block; of l05Encode, l06Encode. -/
namespace Go.Proofs.YtdfinapjgffjiaaGreatDoor
open Go.RowKit
set_option linter.unusedVariables false
set_option maxRecDepth 100000

set_option maxHeartbeats 1600000 in
theorem chance_k (b : Nat) (ao : Option Addr) (n cap m : Nat) (k : Int) (w : World) (hk0 : 1 ≤ k) (hk1 : k ≤ 1000000) (hm : m ≤ 900000) (hn : n ≤ 1048576) (hs : SrcK w b ao n cap m) :
    Calls Tryz.prog 47 #[.pointer (some ⟨b, 0, none⟩), .int .i64 k] w fun e w' => ∃ q : Bool, e = .returned (.bool q) ∧ SrcK w' b ao n cap (m + 3) ∧ Keep (fun j => j = b) w w' := by
  go_enter Tryz.func47, Tryz.ntmps47
  go_wp2_with fail
  refine (next_k b ao n cap m k _ hk0 hk1 hm hn hs).mono ?_
  rintro e w1 ⟨q, rfl, q0, q1, hs1, hk1'⟩
  have HS := hide hs1
  have HK := hide hk1'
  clear hs1 hk1' hs
  go_wp2
  go_ret
  exact ⟨_, rfl, unhide HS, unhide HK⟩

/-- The world of such a draw: the source, the answer's variable. -/
structure DrS (w W : World) (b : Nat) (ao : Option Addr) (n cap m : Nat) (o : Obj) : Prop where
  s : SrcK W b ao n cap m
  k : Keep (fun k => k = b) w W
  r : W.heap[w.heap.size]? = some o
theorem DrS.new {w : World} {b : Nat} {ao : Option Addr} {n cap m : Nat} (hs : SrcK w b ao n cap m) (c : Array Value) (t : TypeId) : DrS w (w.alloc (.cells c t)) b ao n cap m (.cells c t (0, 0)) :=
  ⟨hs.below (Joins.below_alloc1 _ _), Keep.of_below (Joins.below_alloc1 _ _), heap_alloc_new w _⟩
theorem DrS.src {w W W' : World} {b : Nat} {ao : Option Addr} {n cap m m' : Nat} {o : Obj} (h : DrS w W b ao n cap m o) (hb : b < w.heap.size) (hs : SrcK W' b ao n cap m') (hk : Keep (fun k => k = b) W W') : DrS w W' b ao n cap m' o :=
  ⟨hs, h.k.trans hk, blk_keep hk (by omega) h.r⟩
/-- The answer is stored: three numbers. -/
theorem DrS.end3 {w W : World} {b : Nat} {ao : Option Addr} {n cap m : Nat} {o : Obj} (h : DrS w W b ao n cap m o) (h0 : SrcK w b ao n cap 0 ∨ True) (hb : b < w.heap.size) (hm0 : ∃ m0, SrcK w b ao n cap m0) (u v x : Value) :
    SrcK (((W.setCell ⟨w.heap.size, 0, none⟩ u).setCell ⟨w.heap.size, 1, none⟩ v).setCell ⟨w.heap.size, 2, none⟩ x) b ao n cap m ∧ Keep (fun k => k = b) w (((W.setCell ⟨w.heap.size, 0, none⟩ u).setCell ⟨w.heap.size, 1, none⟩ v).setCell ⟨w.heap.size, 2, none⟩ x) := by
  obtain ⟨m0, h1⟩ := hm0
  have hk : Keep (fun k => k = w.heap.size) W (((W.setCell ⟨w.heap.size, 0, none⟩ u).setCell ⟨w.heap.size, 1, none⟩ v).setCell ⟨w.heap.size, 2, none⟩ x) := (((Keep.refl (fun k => k = w.heap.size) W).setCell (p := ⟨w.heap.size, 0, none⟩) rfl _).setCell (p := ⟨w.heap.size, 1, none⟩) rfl _).setCell (p := ⟨w.heap.size, 2, none⟩) rfl _
  have hw := keep_new h.k hk (fun k e => .inl (by omega))
  exact ⟨h1.other h.s hw hk (by omega), hw⟩

set_option maxHeartbeats 1600000 in
theorem delta_k (b : Nat) (ao : Option Addr) (n cap m : Nat) (w : World) (hm : m ≤ 800000) (hn : n ≤ 1048576) (hs : SrcK w b ao n cap m) :
    Calls Tryz.prog 84 #[.pointer (some ⟨b, 0, none⟩)] w fun e w' => ∃ h g s : Int, e = .returned (dltV h g s) ∧ (0 ≤ h ∧ h ≤ 3) ∧ (1 ≤ g ∧ g ≤ 3) ∧ (0 ≤ s ∧ s ≤ 19) ∧ SrcK w' b ao n cap (m + 9) ∧ Keep (fun j => j = b) w w' := by
  have hlt := hs.lt
  have HS := hide hs
  have D0 := hide (DrS.new hs #[.int .i64 0, .int .i64 0, .int .i64 0] 108)
  clear hs
  go_enter Tryz.func84, Tryz.ntmps84
  go_wp2_with fail
  refine (next_k b ao n cap m 4 _ (by omega) (by omega) (by omega) hn (unhide D0).s).mono ?_
  rintro e w1 ⟨q1, rfl, q10, q11, hs1, hk1⟩
  have D1 := hide ((unhide D0).src hlt hs1 hk1)
  clear hs1 hk1
  go_wp2_with fail
  refine (next_k b ao n cap (m + 3) 3 _ (by omega) (by omega) (by omega) hn (unhide D1).s).mono ?_
  rintro e w2 ⟨q2, rfl, q20, q21, hs1, hk1⟩
  have D2 := hide ((unhide D1).src hlt hs1 hk1)
  clear hs1 hk1
  go_wp2_with fail
  refine (next_k b ao n cap (m + 3 + 3) 20 _ (by omega) (by omega) (by omega) hn (unhide D2).s).mono ?_
  rintro e w3 ⟨q3, rfl, q30, q31, hs1, hk1⟩
  have D3 := hide ((unhide D2).src hlt hs1 hk1)
  clear hs1 hk1
  have HV : Hid (VarT w3 w.heap.size 108 0 0 0) := hide (unhide D3).r
  obtain ⟨c0, c1, c2⟩ := (unhide HV).cells
  obtain ⟨f0, f1, f2⟩ := (unhide HV).free
  have HE := hide (fun u v x => DrS.end3 (unhide D3) (.inr trivial) hlt ⟨m, unhide HS⟩ u v x)
  go_wp2
  exact bodyPost_ret (v := dltV q1 (1 + q2) q3) (by simp [results, Tryz.results84, go_sem, c0, c1, c2]) rfl ⟨q1, 1 + q2, q3, rfl, by omega, by omega, by omega, (unhide HE _ _ _).1, (unhide HE _ _ _).2⟩

end Go.Proofs.YtdfinapjgffjiaaGreatDoor

/- A drawn disk in a variable: one sector written, one write more, a field set. -/
namespace Go.Proofs.YtdfinapjgffjiaaGreatDoor
open Go.RowKit
set_option linter.unusedVariables false
set_option maxRecDepth 100000

theorem row_form {w : World} {B n pa : Nat} {po : Option Addr} {ss : List ByteArray} (h : OwnR w B 9 1 (.slice po n pa) n (strV ss)) (hn : 0 < n) : ∃ g, po = some ⟨g, 0, none⟩ ∧ B ≤ g ∧ g < w.heap.size ∧ Own (.slice po n pa) g ∧ n ≤ pa := by
  have h' := h
  rcases h' with ⟨h0, _⟩ | ⟨_, ho⟩
  · omega
  rcases ho.2 with ⟨_, e0⟩ | ⟨g, cap, cur, e0, hB, hg, hnc, _⟩
  · omega
  simp only [Value.slice.injEq, true_and] at e0
  obtain ⟨rfl, rfl⟩ := e0
  exact ⟨g, rfl, hB, (h.ge g (own_of hn rfl)).2, own_of hn rfl, hnc⟩
theorem Ss.tail {w : World} {g : Nat} {ss : List ByteArray} (h : Ss w (some ⟨g, 0, none⟩) ss) : Ss w (some ⟨g, 1, none⟩) ss.tail := fun i hi => by
  have hi' : i + 1 < ss.length := by rw [List.length_tail] at hi; omega
  obtain ⟨b, off, e, hc, hz⟩ := h (i + 1) hi'
  cases e
  exact ⟨g, 1, rfl, by rw [List.getElem_tail, show 1 + i = 0 + (i + 1) by omega]; exact hc, by rw [List.getElem_tail]; exact hz⟩
theorem noD_ok {t : ByteArray} (h : t.size ≤ 4) : t.size ≤ maxLen := Nat.le_trans h (by decide)
theorem AllT.set {P : ByteArray → Prop} {ss : List ByteArray} {xs : List Wr} {j : Nat} (k : AllT P ss xs) {d : ByteArray} (hd : P d) : AllT P (ss.set j d) xs := ⟨fun s hs => by
  rcases List.mem_or_eq_of_mem_set hs with h | h
  · exact k.1 s h
  · rw [h]; exact hd, k.2⟩
/-- One sector is written. -/
theorem DkO.cell {w W : World} {b n cap m m0 C pa qa : Nat} {so po qo : Option Addr} {ss : List ByteArray} {xs : List Wr} (h : DkO w W b so n cap m C po pa qo qa ss xs) (h0 : SrcK w b so n cap m0) {j : Nat} (hj : j < ss.length) :
    ∃ g x, po = some ⟨g, 0, none⟩ ∧ g < W.heap.size ∧ W.cell? ⟨g, j, none⟩ = some x ∧ W.frozen? ⟨g, j, none⟩ = false ∧ ∀ d, DkO w (W.setCell ⟨g, j, none⟩ (.string d)) b so n cap m C po pa qo qa (ss.set j d) xs := by
  have hpos : 0 < ss.length := by omega
  obtain ⟨hz0, -, _⟩ | ⟨_, ho⟩ := h.o.s
  · omega
  obtain ⟨g, cap', cur, e0, hg, hcur⟩ := own_form hpos ho
  simp only [Value.slice.injEq, true_and] at e0
  obtain ⟨rfl, rfl⟩ := e0
  have hown : Own (.slice (some ⟨g, 0, none⟩) ss.length pa) g := own_of hpos rfl
  refine ⟨g, _, rfl, (h.o.s.ge g hown).2, (ho.cellAt j (by omega)).trans (List.getElem?_eq_getElem (by rw [strV_length]; exact hj)), ho.frozenAt j, fun d => ?_⟩
  have hk : Keep (fun k => k = g) W (W.setCell ⟨g, j, none⟩ (.string d)) := Keep.setCell (S := fun k => k = g) (Keep.refl _ _) (p := ⟨g, j, none⟩) rfl _
  obtain ⟨h1, h2, h3⟩ := h.other h0 (y := g) (by omega) hk
  have hl : (ss.set j d).length = ss.length := by simp
  refine ⟨?_, ⟨?_, h.o.i.keep hk (fun k hk' e => own_apart h.o.i h.o.s (by decide) k hk' (e ▸ hown))⟩, h1, h2, h3, h.c⟩
  · rw [hl]; exact h.var.keep hk (fun e => h.o.s.other h.var (by decide) (e ▸ hown))
  · rw [hl]
    refine .inr ⟨hpos, ?_⟩
    rw [← strV_set]
    exact (ho.stored j (.string d)).1
/-- One write more. -/
theorem DkO.app {w W W' : World} {b n cap m m0 C pa qa g c : Nat} {so po qo : Option Addr} {ss : List ByteArray} {xs : List Wr} {x : Wr} (h : DkO w W b so n cap m C po pa qo qa ss xs) (h0 : SrcK w b so n cap m0) (ho : W'.ownsRow (w.heap.size + 1) 65 3 (.slice (some ⟨g, 0, none⟩) (xs.length + 1) c) (xs.length + 1) (ioV xs ++ wrV x)) (hk : Keep (Own (.slice qo xs.length qa)) W W') :
    VarD W' C (.slice po ss.length pa) (.slice qo xs.length qa) ∧ VarD W' w.heap.size (.slice none 0 0) (.slice none 0 0) ∧ DkO w (W'.setCell ⟨C, 1, none⟩ (.slice (some ⟨g, 0, none⟩) (xs.length + 1) c)) b so n cap m C po pa (some ⟨g, 0, none⟩) c ss (xs ++ [x]) := by
  obtain ⟨cb, hblk⟩ := h.s.blk
  have hb := h0.lt
  have hva := h.var.keep hk (h.o.i.other h.var (by decide))
  have hra := h.r.keep hk (h.o.i.other h.r (by decide))
  have hsa := h.o.s.keep hk (own_apart h.o.s h.o.i (by decide))
  have hK : Keep (fun k => k = b ∨ w.heap.size ≤ k) w W' := h.k.trans (hk.mono (fun k e => .inr (by have := (h.o.i.ge k e).1; omega)))
  have hS : SrcK W' b so n cap m := h0.other h.s (keep_drop hK) hk (h.o.i.other hblk (by decide))
  have hia : OwnR W' (w.heap.size + 1) 65 3 (.slice (some ⟨g, 0, none⟩) (xs.length + 1) c) (xs.length + 1) (ioV (xs ++ [x])) := .inr ⟨Nat.succ_pos _, by rw [ioV_snoc]; exact ho⟩
  have hl : (xs ++ [x]).length = xs.length + 1 := by simp
  have hk2 : Keep (fun j => j = C) W' (W'.setCell ⟨C, 1, none⟩ (.slice (some ⟨g, 0, none⟩) (xs.length + 1) c)) := Keep.setCell (S := fun j => j = C) (Keep.refl _ _) (p := ⟨C, 1, none⟩) rfl _
  have hc := h.c
  have hK2 : Keep (fun k => k = b ∨ w.heap.size ≤ k) w (W'.setCell ⟨C, 1, none⟩ (.slice (some ⟨g, 0, none⟩) (xs.length + 1) c)) := hK.trans (hk2.mono (fun k e => .inr (by omega)))
  refine ⟨hva, hra, ⟨?_, ⟨hsa.keep hk2 (fun j hj e => hsa.other hva (by decide) (e ▸ hj)), ?_⟩, hra.keep hk2 (by omega), hK2, h0.other hS (keep_drop hK2) hk2 (by omega), hc⟩⟩
  · rw [hl]; exact hva.set1 _
  · rw [hl]; exact hia.keep hk2 (fun j hj e => hia.other hva (by decide) (e ▸ hj))
/-- A field is set, and the answer's variable is stored. -/
theorem DkO.poke {w W : World} {b n cap m m0 C pa qa : Nat} {so po qo : Option Addr} {ss : List ByteArray} {xs : List Wr} (h : DkO w W b so n cap m C po pa qo qa ss xs) (h0 : SrcK w b so n cap m0) (a u v : Value) :
    SrcK (((W.setCell ⟨C, 0, none⟩ a).setCell ⟨w.heap.size, 0, none⟩ u).setCell ⟨w.heap.size, 1, none⟩ v) b so n cap m ∧ Keep (fun j => j = b) w (((W.setCell ⟨C, 0, none⟩ a).setCell ⟨w.heap.size, 0, none⟩ u).setCell ⟨w.heap.size, 1, none⟩ v) ∧ OwnD (((W.setCell ⟨C, 0, none⟩ a).setCell ⟨w.heap.size, 0, none⟩ u).setCell ⟨w.heap.size, 1, none⟩ v) (w.heap.size + 1) po ss.length pa qo xs.length qa ss xs := by
  have hb := h0.lt
  have hc := h.c
  have hk1 : Keep (fun j => j = C) W (W.setCell ⟨C, 0, none⟩ a) := (Keep.refl (fun j => j = C) W).setCell (p := ⟨C, 0, none⟩) rfl _
  obtain ⟨h1, h2, h3⟩ := h.other h0 hc hk1
  have ho : OwnD (W.setCell ⟨C, 0, none⟩ a) (w.heap.size + 1) po ss.length pa qo xs.length qa ss xs := h.o.keep hk1 (fun g hg e => h.o.other h.var (by decide) (by decide) (e ▸ hg))
  have hk : Keep (fun j => j = w.heap.size) (W.setCell ⟨C, 0, none⟩ a) (((W.setCell ⟨C, 0, none⟩ a).setCell ⟨w.heap.size, 0, none⟩ u).setCell ⟨w.heap.size, 1, none⟩ v) := ((Keep.refl (fun j => j = w.heap.size) _).setCell (p := ⟨w.heap.size, 0, none⟩) rfl _).setCell (p := ⟨w.heap.size, 1, none⟩) rfl _
  have hK : Keep (fun k => k = b ∨ w.heap.size ≤ k) w (((W.setCell ⟨C, 0, none⟩ a).setCell ⟨w.heap.size, 0, none⟩ u).setCell ⟨w.heap.size, 1, none⟩ v) := h2.trans (hk.mono (fun k e => .inr (by omega)))
  exact ⟨h0.other h3 (keep_drop hK) hk (by omega), keep_drop hK, (ho.setCell (a := ⟨w.heap.size, 0, none⟩) (Nat.lt_succ_self _) _).setCell (a := ⟨w.heap.size, 1, none⟩) (Nat.lt_succ_self _) _⟩

end Go.Proofs.YtdfinapjgffjiaaGreatDoor

/- Contract of the model's anyDisk. -/
namespace Go.Proofs.YtdfinapjgffjiaaGreatDoor
open Go.RowKit
set_option linter.unusedVariables false
set_option maxRecDepth 100000

set_option maxHeartbeats 3200000 in
theorem anyDisk_k (b : Nat) (so : Option Addr) (n cap m : Nat) (w : World) (hm : m ≤ 500000) (hn : n ≤ 1048576) (hs : SrcK w b so n cap m) :
    Calls Tryz.prog 85 #[.pointer (some ⟨b, 0, none⟩)] w fun e w' => (∃ ss xs po pa qo qa, e = .returned (.agg #[.slice po ss.length pa, .slice qo xs.length qa]) ∧ LsD w' (w.heap.size + 1) po pa qo qa ss xs) ∧ Keep (fun k => k = b) w w' ∧ SrcK w' b so n cap (m + 900) := by
  have HS := hide hs
  have hlt := hs.lt
  clear hs
  have HK0 : Hid (Keep (fun k => k = b ∨ w.heap.size ≤ k) w (w.alloc (.cells #[.slice none 0 0, .slice none 0 0] 26))) := hide (Keep.of_below (Joins.below_alloc1 _ _))
  have HS0 := hide ((unhide HS).below (Joins.below_alloc1 w (.cells #[.slice none 0 0, .slice none 0 0] 26)))
  have HR0 : Hid (VarD (w.alloc (.cells #[.slice none 0 0, .slice none 0 0] 26)) w.heap.size (.slice none 0 0) (.slice none 0 0)) := hide (heap_alloc_new w _)
  obtain ⟨j0, hj, hy0, hy1, hy2⟩ := info_parts infoW
  go_enter Tryz.func85, Tryz.ntmps85
  go_wp2_with fail
  refine (disk_k b so n cap m _ (by omega) hn (unhide HS0)).mono ?_
  rintro e w1 ⟨⟨ss, xs, po, pa, qo, qa, rfl, hd, hl, h1, h2, ht, ho⟩, hk, hs1⟩
  have HLEN := hide (diskB_len hd).1
  have hl0 : 0 < ss.length := by have := unhide HLEN; omega
  have hl1 : ss.length ≤ 64 := by have := unhide HLEN; omega
  have HT := hide ht
  have HLX := hide hl
  have D0 : Hid (DkO w (w1.alloc (.cells #[.slice po ss.length pa, .slice qo xs.length qa] 26)) b so n cap (m + 600) w1.heap.size po pa qo qa ss xs) := hide (by
    have hbA := Joins.below_alloc1 w1 (.cells #[.slice po ss.length pa, .slice qo xs.length qa] 26)
    have hr1 := (unhide HR0).keep hk (by omega)
    exact ⟨VarD.new _ _ _, (ho.below hbA).base (by simp), hr1.below hbA, ((unhide HK0).trans (hk.mono (fun k e => .inl e))).trans (Keep.of_below hbA), hs1.below hbA, hr1.lt⟩)
  clear hd hl h1 h2 ht ho hk hs1 HK0 HS0 HR0
  go_wp2_with fail
  revert D0
  generalize w1.alloc (.cells #[.slice po ss.length pa, .slice qo xs.length qa] 26) = W1
  generalize w1.heap.size = C
  intro D0
  refine (next_k b so n cap (m + 600) 12 _ (by omega) (by omega) (by omega) hn (unhide D0).s).mono ?_
  rintro e w2 ⟨q, rfl, q0, q1, hs2, hk2⟩
  have D1 := hide ((unhide D0).src hlt hs2 hk2)
  clear hs2 hk2 D0
  obtain ⟨v0, v1⟩ := (unhide D1).var.cells
  have v2 := (unhide D1).var.free 0
  have v3 := (unhide D1).var.free 1
  obtain ⟨r0, r1⟩ := (unhide D1).r.cells
  have r2 := (unhide D1).r.free 0
  have r3 := (unhide D1).r.free 1
  have hcw : w.heap.size < C := (unhide D1).c
  have n1 : C ≠ w.heap.size := by omega
  have n2 : w.heap.size ≠ C := by omega
  by_cases e0 : q = 0
  · have b0 : (q == 0) = true := by simp [e0]
    obtain ⟨g, rfl, _, _, _, hcp⟩ := row_form (unhide D1).o.s (by omega)
    have hp1 : 1 < pa := by have := unhide HLEN; omega
    have HE := hide (fun a u v => (unhide D1).poke (unhide HS) a u v)
    have HTL : Hid (ss.tail.length = ss.length - 1) := hide (List.length_tail)
    clear e0 hcp
    go_wp2
    rw [← unhide HTL]
    exact bodyPost_ret (v := .agg #[.slice (some ⟨g, 1, none⟩) ss.tail.length (pa - 1), .slice qo xs.length qa]) (by simp [results, Tryz.results85, go_sem, r0, r1]) rfl ⟨⟨ss.tail, xs, _, _, _, _, rfl, ⟨((unhide HE _ _ _).2.2.ss ((unhide HT).sizes (fun t h => noD_ok h)).1).tail, (unhide HE _ _ _).2.2.ios ((unhide HT).sizes (fun t h => noD_ok h)).2, ⟨fun s hs => drw_short ((unhide HT).1 s (List.mem_of_mem_tail hs)), fun x hx => drw_short ((unhide HT).2 x hx)⟩, fun e => absurd e (by have := unhide HTL; have := unhide HLEN; omega), by have := unhide HTL; have := unhide HLX; omega⟩⟩, (unhide HE _ _ _).2.1, (unhide HE _ _ _).1.more (by omega)⟩
  have b0 : (q == 0) = false := by simp [e0]
  by_cases e1 : q = 1
  · have b1 : (q == 1) = true := by simp [e1]
    clear e0 e1
    have HI : Hid (VarI (w2.alloc (.cells #[.int .i64 4, .int .i64 0, .string ⟨#[]⟩] 65)) w2.heap.size ⟨4, 0, ⟨#[]⟩⟩) := hide (VarI.new w2 ⟨4, 0, ⟨#[]⟩⟩)
    have D2 := hide ((unhide D1).below (Joins.below_alloc1 w2 (.cells #[.int .i64 4, .int .i64 0, .string ⟨#[]⟩] 65)))
    have hz2 : w.heap.size < w2.heap.size := (unhide D1).r.lt
    have hxl := unhide HLX
    go_wp2_with (at_builtin; refine wpList_append_one rfl _ _ 24 rfl (w.heap.size + 1) 65 j0 (.agg #[.int .i64 0, .int .i64 0, .string ⟨#[]⟩]) 3 32 Tryz.underlying24 hj hy0 hy1 hy2 rfl (by omega) qo xs.length qa (ioV xs) rfl (unhide D2).o.i (by simp; omega) ⟨w2.heap.size, 0, none⟩ _ (wrV ⟨4, 0, ⟨#[]⟩⟩) rfl rfl (unhide HI).news (wrV_one _) (by unfold maxLen; omega) (by omega) ?_; intro g cap3 w3 ho3 hk3; have HA := hide ((unhide D2).app (unhide HS) ho3 hk3); obtain ⟨p0, p1⟩ := (unhide HA).1.cells; have p2 := (unhide HA).1.free 1; obtain ⟨s0, s1⟩ := (unhide HA).2.1.cells; have s2 := (unhide HA).2.1.free 0; have s3 := (unhide HA).2.1.free 1; clear ho3 hk3)
    have HE := hide (fun u v => (unhide HA).2.2.ret (unhide HS) u v)
    have HXN : Hid ((xs ++ [(⟨4, 0, ⟨#[]⟩⟩ : Wr)]).length = xs.length + 1) := hide (by simp)
    have HT2 := hide ((unhide HT).snoc (x := ⟨4, 0, ⟨#[]⟩⟩) (Nat.zero_le _))
    rw [← unhide HXN] at HE ⊢
    exact bodyPost_ret (v := .agg #[.slice po ss.length pa, .slice (some ⟨g, 0, none⟩) (xs ++ [(⟨4, 0, ⟨#[]⟩⟩ : Wr)]).length cap3]) (by simp [results, Tryz.results85, go_sem, s0, s1]) rfl ⟨⟨ss, xs ++ [⟨4, 0, ⟨#[]⟩⟩], po, pa, _, _, rfl, LsD.of (unhide HE _ _).2.2 ((unhide HT2).mono (fun t h => drw_short h)) ((unhide HT2).sizes (fun t h => noD_ok h)) (by rw [unhide HXN]; omega)⟩, (unhide HE _ _).2.1, (unhide HE _ _).1.more (by omega)⟩
  have b1 : (q == 1) = false := by simp [e1]
  by_cases e2 : q = 2
  · have b2 : (q == 2) = true := by simp [e2]
    clear e0 e1 e2
    go_wp2_with fail
    go_region_with (first
      | (go_at_call 106; refine (some_k b so n cap (m + 600 + 3) 81 _ (by omega) (by omega) hn ?_).mono ?_; exact (unhide D1).s.below ((Below.refl _ _).drew); rintro e w3 ⟨tx, rfl, htx, hs3, hk3⟩; have D3 := hide (((unhide D1).below ((Below.refl _ _).drew)).src hlt hs3 hk3); have HTX := hide htx; obtain ⟨t0, t1⟩ := (unhide D3).var.cells; obtain ⟨g, xx, rfl, hgl, hgc, hgf, hgs⟩ := (unhide D3).cell (unhide HS) hl0; have HGS := hide hgs; clear hs3 hk3 htx hgs))
    all_goals
      have D4 := hide (unhide HGS tx)
      clear HGS hgc hgf hgl t0 t1 v0 v1 v2 v3 r0 r1 r2 r3 D3 D1
      revert D4
      generalize w3.setCell ⟨g, 0, none⟩ (.string tx) = W4
      intro D4
      have HTS := hide (AllT.set (j := 0) ((unhide HT).mono (fun t h => (show Drw t ∧ t.size ≤ maxLen from ⟨drw_short h, noD_ok h⟩))) (d := tx) ⟨.inr (.inl (by rw [unhide HTX]; decide)), by rw [unhide HTX]; decide⟩)
      have HSN : Hid ((ss.set 0 tx).length ≤ 64) := hide (by rw [List.length_set]; exact hl1)
      obtain ⟨t0, t1⟩ := (unhide D4).var.cells
      obtain ⟨r0, r1⟩ := (unhide D4).r.cells
      have r2 := (unhide D4).r.free 0
      have r3 := (unhide D4).r.free 1
      have HE := hide (fun u v => (unhide D4).ret (unhide HS) u v)
      go_wp2
      exact bodyPost_ret (v := .agg #[.slice (some ⟨g, 0, none⟩) (ss.set 0 tx).length pa, .slice qo xs.length qa]) (by simp [results, Tryz.results85, go_sem, r0, r1]) rfl ⟨⟨ss.set 0 tx, xs, _, _, _, _, rfl, LsD.of (unhide HE _ _).2.2 ((unhide HTS).mono (fun t h => h.1)) ((unhide HTS).sizes (fun t h => h.2)) ⟨unhide HSN, by have := unhide HLX; omega⟩⟩, (unhide HE _ _).2.1, (unhide HE _ _).1.more (by omega)⟩
  have b2 : (q == 2) = false := by simp [e2]
  clear e0 e1 e2
  have HE := hide (fun u v => (unhide D1).ret (unhide HS) u v)
  go_wp2
  exact bodyPost_ret (v := .agg #[.slice po ss.length pa, .slice qo xs.length qa]) (by simp [results, Tryz.results85, go_sem, r0, r1]) rfl ⟨⟨ss, xs, po, pa, qo, qa, rfl, LsD.of (unhide HE _ _).2.2 ((unhide HT).mono (fun t h => drw_short h)) ((unhide HT).sizes (fun t h => noD_ok h)) (by have := unhide HLX; omega)⟩, (unhide HE _ _).2.1, (unhide HE _ _).1.more (by omega)⟩

end Go.Proofs.YtdfinapjgffjiaaGreatDoor

/- Contract of the model's deltaDisk. -/
namespace Go.Proofs.YtdfinapjgffjiaaGreatDoor
open Go.RowKit
set_option linter.unusedVariables false
set_option maxRecDepth 100000

/-- The answer is stored into its variable. -/
theorem LsD.ret {W : World} {B R pa qa : Nat} {po qo : Option Addr} {ss : List ByteArray} {xs : List Wr} (h : LsD W B po pa qo qa ss xs) (hr : VarD W R (.slice none 0 0) (.slice none 0 0)) (hR : R < B) :
    LsD ((W.setCell ⟨R, 0, none⟩ (.slice po ss.length pa)).setCell ⟨R, 1, none⟩ (.slice qo xs.length qa)) B po pa qo qa ss xs ∧ Keep (fun j => j = R) W ((W.setCell ⟨R, 0, none⟩ (.slice po ss.length pa)).setCell ⟨R, 1, none⟩ (.slice qo xs.length qa)) := by
  obtain ⟨hd, hk⟩ := DV.store (ca := pa) (cb := qa) hr h.s h.i
  exact ⟨⟨hd.s, hd.i, h.t, fun e => ((h.o e).setCell (a := ⟨R, 0, none⟩) hR _).setCell (a := ⟨R, 1, none⟩) hR _, h.l⟩, hk⟩
theorem LsD.base {W : World} {B B' pa qa : Nat} {po qo : Option Addr} {ss : List ByteArray} {xs : List Wr} (h : LsD W B po pa qo qa ss xs) (hB : B' ≤ B) : LsD W B' po pa qo qa ss xs := ⟨h.s, h.i, h.t, fun e => (h.o e).base hB, h.l⟩

set_option maxHeartbeats 3200000 in
theorem deltaDisk_k (b : Nat) (so : Option Addr) (n cap m : Nat) (w : World) (hm : m ≤ 400000) (hn : n ≤ 1048576) (hs : SrcK w b so n cap m) :
    Calls Tryz.prog 46 #[.pointer (some ⟨b, 0, none⟩)] w fun e w' => (∃ ss xs po pa qo qa, e = .returned (.agg #[.slice po ss.length pa, .slice qo xs.length qa]) ∧ LsD w' (w.heap.size + 1) po pa qo qa ss xs) ∧ Keep (fun k => k = b) w w' ∧ SrcK w' b so n cap (m + 2000) := by
  have HS := hide hs
  have hlt := hs.lt
  clear hs
  have HK0 : Hid (Keep (fun k => k = b ∨ w.heap.size ≤ k) w (w.alloc (.cells #[.slice none 0 0, .slice none 0 0] 26))) := hide (Keep.of_below (Joins.below_alloc1 _ _))
  have HS0 := hide ((unhide HS).below (Joins.below_alloc1 w (.cells #[.slice none 0 0, .slice none 0 0] 26)))
  have HR0 : Hid (VarD (w.alloc (.cells #[.slice none 0 0, .slice none 0 0] 26)) w.heap.size (.slice none 0 0) (.slice none 0 0)) := hide (heap_alloc_new w _)
  go_enter Tryz.func46, Tryz.ntmps46
  go_wp2_with fail
  refine (disk_k b so n cap m _ (by omega) hn (unhide HS0)).mono ?_
  rintro e w1 ⟨⟨ss0, xs0, po0, pa0, qo0, qa0, rfl, hd, hl, h1, h2, ht, ho⟩, hk, hs1⟩
  have HD0 := hide hd
  have HT0 := hide (ht.mono (fun t h => drw_short h))
  have HL0 := hide hl
  have D0 : Hid (DkO w (w1.alloc (.cells #[.slice po0 ss0.length pa0, .slice qo0 xs0.length qa0] 26)) b so n cap (m + 600) w1.heap.size po0 pa0 qo0 qa0 ss0 xs0) := hide (by
    have hbA := Joins.below_alloc1 w1 (.cells #[.slice po0 ss0.length pa0, .slice qo0 xs0.length qa0] 26)
    have hr1 := (unhide HR0).keep hk (by omega)
    exact ⟨VarD.new _ _ _, (ho.below hbA).base (by simp), hr1.below hbA, ((unhide HK0).trans (hk.mono (fun k e => .inl e))).trans (Keep.of_below hbA), hs1.below hbA, hr1.lt⟩)
  clear hd hl h1 h2 ht ho hk hs1 HK0 HS0 HR0
  go_wp2_with fail
  revert D0
  generalize w1.alloc (.cells #[.slice po0 ss0.length pa0, .slice qo0 xs0.length qa0] 26) = W1
  generalize w1.heap.size = C
  intro D0
  refine (next_k b so n cap (m + 600) 4 _ (by omega) (by omega) (by omega) hn (unhide D0).s).mono ?_
  rintro e w2 ⟨q, rfl, q0, q1, hs2, hk2⟩
  have D1 := hide ((unhide D0).src hlt hs2 hk2)
  clear hs2 hk2 D0
  obtain ⟨j0, rfl⟩ := Int.eq_ofNat_of_zero_le q0
  go_wp2
  go_loopw [4] (fun i wr => ∃ (j : Nat) (ss : List ByteArray) (xs : List Wr) (po : Option Addr) (pa : Nat) (qo : Option Addr) (qa : Nat), j ≤ 3 ∧ i = .int .i64 j ∧ xs.length ≤ 19 ∧ Hid (diskB ss xs = true) ∧ Hid (AllT Drw ss xs) ∧ Hid (DkO w wr b so n cap (m + 700 - 20 * j) C po pa qo qa ss xs)) (fun i _ => (intOf i).toNat)
  case atStart => exact ⟨j0, ss0, xs0, _, _, _, _, by omega, rfl, unhide HL0, HD0, HT0, hide ((unhide D1).more (by omega))⟩
  case round =>
    clear HD0 HT0 HL0 D1
    obtain ⟨j, ss, xs, po, pa, qo, qa, hj3, rfl, hxl, HR, HT, HD⟩ := hrel
    have HZ := hide (right_ss (unhide HR))
    have HZX := hide (right_xs (unhide HR))
    obtain ⟨v0, v1⟩ := (unhide HD).var.cells
    by_cases hj : 0 < j
    · go_wp2_with fail
      go_region_with (first
        | (go_at_call 84; refine (delta_k b so n cap (m + 700 - 20 * j) _ (by omega) hn ?_).mono ?_; exact (unhide HD).s.below ((Below.refl _ _).drew); rintro e wA ⟨dh, dg, ds, rfl, k1, k2, k3, hsA, hkA⟩; have DA := hide (((unhide HD).below ((Below.refl _ _).drew)).src hlt hsA hkA); obtain ⟨a0, a1⟩ := (unhide DA).var.cells; clear hsA hkA)
        | (go_at_call 83; refine (l04Put_any po qo pa qa ss xs dh dg ds _ (unhide HR) (by omega) (dltB_iff.2 ⟨k1, ⟨k2.1, by omega⟩, ⟨k3.1, by omega⟩⟩) ?_ ?_).mono ?_; exact (unhide DA).o.ss (unhide HZ); exact (unhide DA).o.ios (unhide HZX); rintro e wB ⟨po2, pa2, qo2, qa2, rfl, ho, hbB⟩; have DB := hide ((unhide DA).below hbB); obtain ⟨b0, b1⟩ := (unhide DB).var.cells; have z0 := (unhide DB).var.free 0; have z1 := (unhide DB).var.free 1; have hzA : w.heap.size < wA.heap.size := (unhide DA).r.lt; have HO := hide ho; clear ho hbB))
      all_goals
        have F1 := hide (pS_right (g := dg) (s := ds) (unhide HR) (by omega) k1.1 k1.2)
        have F2 := hide ((unhide HT).pS dh dg ds (drw_delta k1 k2 k3))
        have F3 : (pX xs dh dg ds).length ≤ 19 := Nat.le_trans (pX_le xs dh dg ds) hxl
        have HLN := hide (pS_len ss xs dh dg ds)
        have HO2 : Hid (OwnD wB (w.heap.size + 1) po2 (pS ss xs dh dg ds).length pa2 qo2 (pX xs dh dg ds).length qa2 (pS ss xs dh dg ds) (pX xs dh dg ds)) := hide (by rw [unhide HLN]; exact (unhide HO).base (by omega))
        have S' := (unhide DB).store (unhide HS) (unhide HO2)
        rw [unhide HLN] at S'
        have S2 := hide (S'.more (m' := m + 700 - 20 * (j - 1)) (by omega))
        clear S' DA DB HO HO2 a0 a1 b0 b1 z0 z1 v0 v1 HD HR HT HZ HZX
        revert S2 F1 F2 F3
        generalize (wB.setCell ⟨C, 0, none⟩ (.slice po2 ss.length pa2)).setCell ⟨C, 1, none⟩ (.slice qo2 (pX xs dh dg ds).length qa2) = WF
        generalize pS ss xs dh dg ds = ss2
        generalize pX xs dh dg ds = xs2
        intro F1 F2 F3 S2
        go_wp2
        go_roundw
        case rel => exact ⟨j - 1, ss2, xs2, po2, pa2, qo2, qa2, by omega, by go_num, F3, F1, F2, S2⟩
        case measure => simp [intOf]; omega
    · go_wp2_with fail
      refine (chance_k b so n cap _ 12 _ (by omega) (by omega) (by omega) hn (unhide HD).s).mono ?_
      rintro e w3 ⟨qc, rfl, hs3, hk3⟩
      have D3 := hide ((unhide HD).src hlt hs3 hk3)
      clear hs3 hk3 v0 v1
      cases qc with
      | true =>
        go_wp2_with fail
        refine (anyDisk_k b so n cap _ _ (by omega) hn (unhide D3).s).mono ?_
        rintro e w4 ⟨⟨ss4, xs4, po4, pa4, qo4, qa4, rfl, hL⟩, hk4, hs4⟩
        have hz3 : w.heap.size < w3.heap.size := (unhide D3).r.lt
        have HR4 := hide ((unhide D3).r.keep hk4 (by omega))
        have HK4 := hide ((unhide D3).k.trans (hk4.mono (fun k e => .inl e)))
        have HS4 := hide hs4
        have HL4 := hide (LsD.ret (hL.base (B' := w.heap.size + 1) (by omega)) (unhide HR4) (Nat.lt_succ_self _))
        clear hL hk4 hs4
        obtain ⟨r0, r1⟩ := (unhide HR4).cells
        have r2 := (unhide HR4).free 0
        have r3 := (unhide HR4).free 1
        go_wp2
        have hK := (unhide HK4).trans ((unhide HL4).2.mono (fun k e => .inr (by omega)))
        exact bodyPost_ret (v := .agg #[.slice po4 ss4.length pa4, .slice qo4 xs4.length qa4]) (by simp [results, Tryz.results46, go_sem, r0, r1]) rfl ⟨⟨ss4, xs4, _, _, _, _, rfl, (unhide HL4).1⟩, keep_drop hK, ((unhide HS).other (unhide HS4) (keep_drop hK) (unhide HL4).2 (by omega)).more (by omega)⟩
      | false =>
        have HLM : Hid (ss.length ≤ 1048576) := hide (by have := (diskB_len (unhide HR)).1; omega)
        have HL64 : Hid (ss.length ≤ 64) := hide (by have := (diskB_len (unhide HR)).1; omega)
        obtain ⟨v0, v1⟩ := (unhide D3).var.cells
        go_wp2_with fail
        refine (l01Own_any po qo pa qa ss xs _ (unhide HLM) (by omega) ((unhide D3).o.ss (unhide HZ)) ((unhide D3).o.ios (unhide HZX))).mono ?_
        rintro e w4 ⟨po4, pa4, qo4, qa4, rfl, ho, hb4⟩
        have hz3 : w.heap.size < w3.heap.size := (unhide D3).r.lt
        have D4 := hide ((unhide D3).below hb4)
        have HL4 := hide (LsD.ret ((LsD.of ho (unhide HT) ⟨unhide HZ, unhide HZX⟩ ⟨unhide HL64, by omega⟩).base (B' := w.heap.size + 1) (by omega)) (unhide D4).r (Nat.lt_succ_self _))
        clear ho hb4 v0 v1
        obtain ⟨r0, r1⟩ := (unhide D4).r.cells
        have r2 := (unhide D4).r.free 0
        have r3 := (unhide D4).r.free 1
        go_wp2
        have hK := (unhide D4).k.trans ((unhide HL4).2.mono (fun k e => .inr (by omega)))
        exact bodyPost_ret (v := .agg #[.slice po4 ss.length pa4, .slice qo4 xs.length qa4]) (by simp [results, Tryz.results46, go_sem, r0, r1]) rfl ⟨⟨ss, xs, _, _, _, _, rfl, (unhide HL4).1⟩, keep_drop hK, ((unhide HS).other (unhide D4).s (keep_drop hK) (unhide HL4).2 (by omega)).more (by omega)⟩

end Go.Proofs.YtdfinapjgffjiaaGreatDoor

/- The model's source of choices, told outright: what byte and next answer, as functions of the code, the place and the seed. -/
namespace Go.Proofs.YtdfinapjgffjiaaGreatDoor
open Go.RowKit
set_option linter.unusedVariables false

/-- The byte that comes next, and the seed behind it. -/
def srcV (cd : Nat → Int) (n a : Nat) (seed : Int) : Int := if a < n then cd a else if 3000 < a + 1 then 0 else (seed * 1103515245 + 12345) % 2147483648 / 65536 % 256
def srcN (cd : Nat → Int) (n a : Nat) (seed : Int) : Int := if a < n then (seed * 31 + cd a + 7) % 2147483648 else if 3000 < a + 1 then seed else (seed * 1103515245 + 12345) % 2147483648
/-- A slice shows just these bytes. -/
def Bx (w : World) (ao : Option Addr) (n : Nat) (cd : Nat → Int) : Prop := ∀ i, i < n → ∃ b off, ao = some ⟨b, off, none⟩ ∧ w.cell? ⟨b, off + i, none⟩ = some (.int .u8 (cd i)) ∧ 0 ≤ cd i ∧ cd i ≤ 255
theorem Bx.below {w w' : World} {ao : Option Addr} {n : Nat} {cd : Nat → Int} (h : Bx w ao n cd) (hb : Below w.heap.size w w') : Bx w' ao n cd := fun i hi => by
  obtain ⟨b, off, e, hc, h0, h1⟩ := h i hi
  exact ⟨b, off, e, (hb.cell (p := ⟨b, off + i, none⟩) (World.block_lt_of_cell? _ _ hc)).trans hc, h0, h1⟩
theorem Bx.keep {w w' : World} {b : Nat} {ao : Option Addr} {n : Nat} {cd : Nat → Int} {v : Value} {x y : Int} (hB : Bx w ao n cd) (h : w.heap[b]? = some (.cells #[v, .int .i64 x, .int .i64 y] 76 (0, 0))) (hv : ∀ z, v ≠ .int .u8 z) (hk : Keep (fun k => k = b) w w') : Bx w' ao n cd := fun i hi => by
  obtain ⟨b', off, e, hc, h0, h1⟩ := hB i hi
  refine ⟨b', off, e, ?_, h0, h1⟩
  have hne : b' ≠ b := by
    rintro rfl
    rw [Joins.cell_of_block h] at hc
    match hoff : off + i, hc with
    | 0, hc => exact hv _ (by simpa using hc)
    | 1, hc => simp at hc
    | 2, hc => simp at hc
    | k + 3, hc => simp at hc
  have hl := World.block_lt_of_cell? _ _ hc
  rw [← hc]
  unfold World.cell?
  simp only [hk.block b' hl hne]
theorem Bs.told {w : World} {ao : Option Addr} {n : Nat} (h : Bs w ao n) : ∃ cd, Bx w ao n cd := by
  have h' : ∀ i, ∃ x : Int, i < n → ∃ b off, ao = some ⟨b, off, none⟩ ∧ w.cell? ⟨b, off + i, none⟩ = some (.int .u8 x) ∧ 0 ≤ x ∧ x ≤ 255 := by
    intro i
    by_cases hi : i < n
    · obtain ⟨b, off, x, e, hc, h0, h1⟩ := h i hi
      exact ⟨x, fun _ => ⟨b, off, e, hc, h0, h1⟩⟩
    · exact ⟨0, fun k => absurd k hi⟩
  exact ⟨fun i => (h' i).choose, fun i hi => (h' i).choose_spec hi⟩
theorem Bx.some {w : World} {ao : Option Addr} {n : Nat} {cd : Nat → Int} (h : Bx w ao n cd) : Bs w ao n := fun i hi => by
  obtain ⟨b, off, e, hc, h0, h1⟩ := h i hi
  exact ⟨b, off, _, e, hc, h0, h1⟩
structure SrcX (w : World) (b : Nat) (ao : Option Addr) (n cap : Nat) (cd : Nat → Int) (a : Nat) (seed : Int) : Prop where
  blk : w.heap[b]? = some (.cells #[.slice ao n cap, .int .i64 a, .int .i64 seed] 76 (0, 0))
  bytes : Bx w ao n cd
  s0 : 0 ≤ seed
  s1 : seed < 2147483648
theorem SrcX.below {w w' : World} {b : Nat} {ao : Option Addr} {n cap a : Nat} {cd : Nat → Int} {seed : Int} (h : SrcX w b ao n cap cd a seed) (hb : Below w.heap.size w w') : SrcX w' b ao n cap cd a seed :=
  ⟨by rw [hb.block b (Array.getElem?_eq_some_iff.1 h.blk).1]; exact h.blk, h.bytes.below hb, h.s0, h.s1⟩
theorem SrcX.k {w : World} {b : Nat} {ao : Option Addr} {n cap a m : Nat} {cd : Nat → Int} {seed : Int} (h : SrcX w b ao n cap cd a seed) (hm : a ≤ m) : SrcK w b ao n cap m :=
  ⟨⟨a, seed, by omega, by omega, h.s0, h.s1, h.blk⟩, h.bytes.some⟩
theorem SrcK.x {w : World} {b : Nat} {ao : Option Addr} {n cap m : Nat} (h : SrcK w b ao n cap m) : ∃ cd a seed, a ≤ m ∧ SrcX w b ao n cap cd a seed := by
  obtain ⟨⟨x, y, c0, c1, c2, c3, c4⟩, hB⟩ := h
  obtain ⟨a, rfl⟩ := Int.eq_ofNat_of_zero_le c0
  obtain ⟨cd, hx⟩ := hB.told
  exact ⟨cd, a, y, by omega, c4, hx, c2, c3⟩
theorem SrcX.lt {w : World} {b : Nat} {ao : Option Addr} {n cap a : Nat} {cd : Nat → Int} {seed : Int} (h : SrcX w b ao n cap cd a seed) : b < w.heap.size := (Array.getElem?_eq_some_iff.1 h.blk).1

set_option maxHeartbeats 6400000 in
theorem byteX_in (b : Nat) (ao : Option Addr) (n cap a : Nat) (cd : Nat → Int) (seed : Int) (w : World) (ha' : a ≤ 1000000) (hn : n ≤ 1048576) (hlt : a < n) (hs : SrcX w b ao n cap cd a seed) :
    Calls Tryz.prog 107 #[.pointer (some ⟨b, 0, none⟩)] w fun e w' => e = .returned (.int .i64 (cd a)) ∧ SrcX w' b ao n cap cd (a + 1) ((seed * 31 + cd a + 7) % 2147483648) ∧ Keep (fun k => k = b) w w' := by
  obtain ⟨hblk, hB, h0, h1⟩ := hs
  obtain ⟨hc0, hc1, hc2, hf1, hf2⟩ := src_cells hblk
  have HBL := hide (set_block (i := 1) hblk (.int .i64 ((a : Int) + 1)))
  have HK := hide (Keep.setCell (S := fun k => k = b) (Keep.refl _ w) (p := ⟨b, 1, none⟩) rfl (.int .i64 ((a : Int) + 1)))
  have HB := hide (hB.keep hblk (fun z h => by cases h) (unhide HK))
  have hle : (a : Int) + 1 ≤ n := by omega
  generalize hx : cd a = x
  have HX := hide hx
  clear hx
  go_enter Tryz.func107, Tryz.ntmps107
  go_wp2
  clear hc0 hc1 hc2 hf1 hf2 hblk hB
  revert HBL HK HB
  generalize w.setCell ⟨b, 1, none⟩ (.int .i64 ((a : Int) + 1)) = W1
  intro HBL HK HB
  obtain ⟨hc0, hc1, hc2, hf1, hf2⟩ := src_cells (unhide HBL)
  obtain ⟨b', off, rfl, hcx, hx0, hx1⟩ := unhide HB a hlt
  rw [unhide HX] at hcx hx0 hx1
  go_quiet (fail)
  have hw1 : IntKind.i64.wrap ((a : Int) + 1 - 1) = (a : Int) := by rw [wrapI (by omega) (by omega)]; omega
  have hw2 : IntKind.i64.wrap (seed * 31) = seed * 31 := wrapI (by omega) (by omega)
  have hw3 : IntKind.i64.wrap x = x := wrapI (by omega) (by omega)
  have hw4 : IntKind.i64.wrap (seed * 31 + x) = seed * 31 + x := wrapI (by omega) (by omega)
  have hw5 : IntKind.i64.wrap (seed * 31 + x + 7) = seed * 31 + x + 7 := wrapI (by omega) (by omega)
  go_wp2
  have hs0 : 0 ≤ (seed * 31 + x + 7) % 2147483648 := by omega
  have hs1 : (seed * 31 + x + 7) % 2147483648 < 2147483648 := by omega
  go_region
  clear hc0 hc1 hc2 hf1 hf2
  have HBL2 : Hid (((W1.drewN (nq + 1)).setCell ⟨b, 2, none⟩ (.int .i64 ((seed * 31 + x + 7) % 2147483648))).heap[b]? = some (.cells #[.slice (some ⟨b', off, none⟩) n cap, .int .i64 ((a : Int) + 1), .int .i64 ((seed * 31 + x + 7) % 2147483648)] 76 (0, 0))) := hide (set_block (w := W1.drewN (nq + 1)) (i := 2) (unhide HBL) _)
  have HK2 : Hid (Keep (fun k => k = b) W1 ((W1.drewN (nq + 1)).setCell ⟨b, 2, none⟩ (.int .i64 ((seed * 31 + x + 7) % 2147483648)))) := hide (Keep.setCell (S := fun k => k = b) ((Keep.refl _ W1).drewN _) (p := ⟨b, 2, none⟩) rfl _)
  have HB2 := hide ((unhide HB).keep (unhide HBL) (fun z h => by cases h) (unhide HK2))
  revert HBL2 HK2 HB2
  generalize (W1.drewN (nq + 1)).setCell ⟨b, 2, none⟩ (.int .i64 ((seed * 31 + x + 7) % 2147483648)) = W2
  intro HBL2 HK2 HB2
  have HKK := hide ((unhide HK).trans (unhide HK2))
  clear HBL HB HK HK2 hcx
  obtain ⟨hc0, hc1, hc2, hf1, hf2⟩ := src_cells (unhide HBL2)
  obtain ⟨b2, off2, he2, hcx, hy0, hy1⟩ := unhide HB2 a hlt
  simp only [Option.some.injEq, Addr.mk.injEq, and_true] at he2
  obtain ⟨rfl, rfl⟩ := he2
  rw [unhide HX] at hcx
  go_wp2
  go_quiet (fail)
  go_wp2
  go_ret
  exact ⟨rfl, ⟨unhide HBL2, unhide HB2, hs0, hs1⟩, (unhide HKK).drewN _⟩

set_option maxRecDepth 100000 in
set_option maxHeartbeats 6400000 in
theorem byteX_out (b : Nat) (ao : Option Addr) (n cap a : Nat) (cd : Nat → Int) (seed : Int) (w : World) (ha' : a ≤ 1000000) (hn : n ≤ 1048576) (hlt : ¬ a < n) (hs : SrcX w b ao n cap cd a seed) :
    Calls Tryz.prog 107 #[.pointer (some ⟨b, 0, none⟩)] w fun e w' => e = .returned (.int .i64 (if 3000 < a + 1 then 0 else (seed * 1103515245 + 12345) % 2147483648 / 65536 % 256)) ∧ SrcX w' b ao n cap cd (a + 1) (if 3000 < a + 1 then seed else (seed * 1103515245 + 12345) % 2147483648) ∧ Keep (fun k => k = b) w w' := by
  obtain ⟨hblk, hB, h0, h1⟩ := hs
  obtain ⟨hc0, hc1, hc2, hf1, hf2⟩ := src_cells hblk
  have HBL := hide (set_block (i := 1) hblk (.int .i64 ((a : Int) + 1)))
  have HK := hide (Keep.setCell (S := fun k => k = b) (Keep.refl _ w) (p := ⟨b, 1, none⟩) rfl (.int .i64 ((a : Int) + 1)))
  have HB0 := hide hB
  have HB := hide (hB.keep hblk (fun z h => by cases h) (unhide HK))
  have HBK := hide hblk
  clear hB
  have hle : ¬ (a : Int) + 1 ≤ n := by omega
  have hw2 : IntKind.i64.wrap (seed * 1103515245) = seed * 1103515245 := wrapI (by omega) (by omega)
  have hw4 : IntKind.i64.wrap (seed * 1103515245 + 12345) = seed * 1103515245 + 12345 := wrapI (by omega) (by omega)
  have hs0 : 0 ≤ (seed * 1103515245 + 12345) % 2147483648 := by omega
  have hs1 : (seed * 1103515245 + 12345) % 2147483648 < 2147483648 := by omega
  by_cases h3 : 3000 < a + 1
  · rw [if_pos h3, if_pos h3]
    have h3i : (3000 : Int) < (a : Int) + 1 := by omega
    go_enter Tryz.func107, Tryz.ntmps107
    go_wp2
    clear hc0 hc1 hc2 hf1 hf2 hblk
    revert HBL HK HB
    generalize w.setCell ⟨b, 1, none⟩ (.int .i64 ((a : Int) + 1)) = W1
    intro HBL HK HB
    obtain ⟨hc0, hc1, hc2, hf1, hf2⟩ := src_cells (unhide HBL)
    go_quiet (fail)
    go_wp2
    go_ret
    exact ⟨rfl, ⟨unhide HBL, unhide HB, h0, h1⟩, (unhide HK).drewN _⟩
  · rw [if_neg h3, if_neg h3]
    have h3i : ¬ (3000 : Int) < (a : Int) + 1 := by omega
    go_enter Tryz.func107, Tryz.ntmps107
    go_wp2
    clear hc0 hc1 hc2 hf1 hf2 hblk
    revert HBL HK HB
    generalize w.setCell ⟨b, 1, none⟩ (.int .i64 ((a : Int) + 1)) = W1
    intro HBL HK HB
    obtain ⟨hc0, hc1, hc2, hf1, hf2⟩ := src_cells (unhide HBL)
    go_quiet (fail)
    have HS2 := hide (set_block (w := W1.drewN nq) (i := 2) (unhide HBL) (.int .i64 ((seed * 1103515245 + 12345) % 2147483648)))
    have HK2 := hide (Keep.setCell (S := fun k => k = b) ((unhide HK).drewN nq) (p := ⟨b, 2, none⟩) rfl (.int .i64 ((seed * 1103515245 + 12345) % 2147483648)))
    have HB2 := hide ((unhide HB0).keep (unhide HBK) (fun z h => by cases h) (unhide HK2))
    go_wp2
    go_ret
    exact ⟨rfl, ⟨unhide HS2, unhide HB2, hs0, hs1⟩, unhide HK2⟩

theorem byte_x (b : Nat) (ao : Option Addr) (n cap a : Nat) (cd : Nat → Int) (seed : Int) (w : World) (ha' : a ≤ 1000000) (hn : n ≤ 1048576) (hs : SrcX w b ao n cap cd a seed) :
    Calls Tryz.prog 107 #[.pointer (some ⟨b, 0, none⟩)] w fun e w' => e = .returned (.int .i64 (srcV cd n a seed)) ∧ SrcX w' b ao n cap cd (a + 1) (srcN cd n a seed) ∧ Keep (fun k => k = b) w w' := by
  by_cases hlt : a < n
  · rw [srcV, srcN, if_pos hlt, if_pos hlt]; exact byteX_in b ao n cap a cd seed w ha' hn hlt hs
  · rw [srcV, srcN, if_neg hlt, if_neg hlt]; exact byteX_out b ao n cap a cd seed w ha' hn hlt hs

set_option maxHeartbeats 1600000 in
/-- next of at most 256. -/
theorem next_x (b : Nat) (ao : Option Addr) (n cap a : Nat) (cd : Nat → Int) (seed k : Int) (w : World) (hk0 : 2 ≤ k) (hk1 : k ≤ 256) (ha' : a ≤ 1000000) (hn : n ≤ 1048576) (hs : SrcX w b ao n cap cd a seed) :
    Calls Tryz.prog 82 #[.pointer (some ⟨b, 0, none⟩), .int .i64 k] w fun e w' => e = .returned (.int .i64 (srcV cd n a seed % k)) ∧ SrcX w' b ao n cap cd (a + 1) (srcN cd n a seed) ∧ Keep (fun k => k = b) w w' := by
  have HS := hide hs
  have hv : Hid (0 ≤ srcV cd n a seed) := hide (by
    unfold srcV
    by_cases hlt : a < n
    · rw [if_pos hlt]; obtain ⟨_, _, _, _, h0, _⟩ := hs.bytes a hlt; exact h0
    · rw [if_neg hlt]; split <;> omega)
  clear hs
  have h1 : ¬ k ≤ 1 := by omega
  have hv0 := unhide hv
  obtain ⟨r, HR⟩ : ∃ r, Hid (srcV cd n a seed = r) := ⟨_, hide rfl⟩
  rw [unhide HR] at hv0 ⊢
  go_enter Tryz.func82, Tryz.ntmps82
  go_wp2_with fail
  refine (byte_x b ao n cap a cd seed _ ha' hn (unhide HS)).mono ?_
  rintro e w1 ⟨rfl, hs1, hk⟩
  have HS1 := hide hs1
  have HK1 := hide hk
  clear hs1 hk
  rw [unhide HR]
  go_wp2
  go_ret
  exact ⟨rfl, unhide HS1, unhide HK1⟩
theorem srcV_mod {cd : Nat → Int} {n a : Nat} {seed k : Int} (hk : 0 < k) : 0 ≤ srcV cd n a seed % k ∧ srcV cd n a seed % k < k := ⟨Int.emod_nonneg _ (by omega), Int.emod_lt_of_pos _ hk⟩

end Go.Proofs.YtdfinapjgffjiaaGreatDoor
