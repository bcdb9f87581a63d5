import Derived.Test.YtefnapcegeojoaaGreatDoorRows
import Derived.Test.YtefnapcegeojoaaGreatDoorLElectPart1
import Derived.Test.YtefnapcegeojoaaGreatDoorLElectPart2
import Derived.Test.YtefnapcegeojoaaGreatDoorLElectPart3
import Derived.Test.YtefnapcegeojoaaGreatDoorLElectPart4
import Derived.WalkKit
import Derived.WalkSpells
import Derived.Deep.RegionWith
import Derived.BigQuiet
import Derived.Deep.QuietTactic
import Derived.KernelRfl
import Derived.Deep.CutRange

namespace Go.Proofs.YtefnapcegeojoaaGreatDoor
open Go.RowKit
set_option linter.unusedVariables false
set_option maxRecDepth 100000

theorem row_form {w : World} {B n pa : Nat} {po : Option Addr} {ss : List ByteArray} (h : OwnR w B 9 1 (.slice po n pa) n (strV ss)) (hn : 0 < n) : ∃ g, po = some ⟨g, 0, none⟩ ∧ B ≤ g ∧ g < w.heap.size ∧ Own (.slice po n pa) g ∧ n ≤ pa := by
  have h' := h
  rcases h' with ⟨h0, _⟩ | ⟨_, ho⟩
  · omega
  rcases ho.2 with ⟨_, e0⟩ | ⟨g, cap, cur, e0, hB, hg, hnc, _⟩
  · omega
  simp only [Value.slice.injEq, true_and] at e0
  obtain ⟨rfl, rfl⟩ := e0
  exact ⟨g, rfl, hB, (h.ge g (own_of hn rfl)).2, own_of hn rfl, hnc⟩
theorem Ss.tail {w : World} {g : Nat} {ss : List ByteArray} (h : Ss w (some ⟨g, 0, none⟩) ss) : Ss w (some ⟨g, 1, none⟩) ss.tail := fun i hi => by
  have hi' : i + 1 < ss.length := by rw [List.length_tail] at hi; omega
  obtain ⟨b, off, e, hc, hz⟩ := h (i + 1) hi'
  cases e
  exact ⟨g, 1, rfl, by rw [List.getElem_tail, show 1 + i = 0 + (i + 1) by omega]; exact hc, by rw [List.getElem_tail]; exact hz⟩
theorem noD_ok {t : ByteArray} (h : t.size ≤ 4) : t.size ≤ maxLen := Nat.le_trans h (by decide)
theorem AllT.set {P : ByteArray → Prop} {ss : List ByteArray} {xs : List Wr} {j : Nat} (k : AllT P ss xs) {d : ByteArray} (hd : P d) : AllT P (ss.set j d) xs := ⟨fun s hs => by
  rcases List.mem_or_eq_of_mem_set hs with h | h
  · exact k.1 s h
  · rw [h]; exact hd, k.2⟩
theorem DkO.cell {w W : World} {b n cap m m0 C pa qa : Nat} {so po qo : Option Addr} {ss : List ByteArray} {xs : List Wr} (h : DkO w W b so n cap m C po pa qo qa ss xs) (h0 : SrcK w b so n cap m0) {j : Nat} (hj : j < ss.length) :
    ∃ g x, po = some ⟨g, 0, none⟩ ∧ g < W.heap.size ∧ W.cell? ⟨g, j, none⟩ = some x ∧ W.frozen? ⟨g, j, none⟩ = false ∧ ∀ d, DkO w (W.setCell ⟨g, j, none⟩ (.string d)) b so n cap m C po pa qo qa (ss.set j d) xs := by
  have hpos : 0 < ss.length := by omega
  obtain ⟨hz0, -, _⟩ | ⟨_, ho⟩ := h.o.s
  · omega
  obtain ⟨g, cap', cur, e0, hg, hcur⟩ := own_form hpos ho
  simp only [Value.slice.injEq, true_and] at e0
  obtain ⟨rfl, rfl⟩ := e0
  have hown : Own (.slice (some ⟨g, 0, none⟩) ss.length pa) g := own_of hpos rfl
  refine ⟨g, _, rfl, (h.o.s.ge g hown).2, (ho.cellAt j (by omega)).trans (List.getElem?_eq_getElem (by rw [strV_length]; exact hj)), ho.frozenAt j, fun d => ?_⟩
  have hk : Keep (fun k => k = g) W (W.setCell ⟨g, j, none⟩ (.string d)) := Keep.setCell (S := fun k => k = g) (Keep.refl _ _) (p := ⟨g, j, none⟩) rfl _
  obtain ⟨h1, h2, h3⟩ := h.other h0 (y := g) (by omega) hk
  have hl : (ss.set j d).length = ss.length := by simp
  refine ⟨?_, ⟨?_, h.o.i.keep hk (fun k hk' e => own_apart h.o.i h.o.s (by decide) k hk' (e ▸ hown))⟩, h1, h2, h3, h.c⟩
  · rw [hl]; exact h.var.keep hk (fun e => h.o.s.other h.var (by decide) (e ▸ hown))
  · rw [hl]
    refine .inr ⟨hpos, ?_⟩
    rw [← strV_set]
    exact (ho.stored j (.string d)).1
theorem DkO.app {w W W' : World} {b n cap m m0 C pa qa g c : Nat} {so po qo : Option Addr} {ss : List ByteArray} {xs : List Wr} {x : Wr} (h : DkO w W b so n cap m C po pa qo qa ss xs) (h0 : SrcK w b so n cap m0) (ho : W'.ownsRow (w.heap.size + 1) 75 3 (.slice (some ⟨g, 0, none⟩) (xs.length + 1) c) (xs.length + 1) (ioV xs ++ wrV x)) (hk : Keep (Own (.slice qo xs.length qa)) W W') :
    VarD W' C (.slice po ss.length pa) (.slice qo xs.length qa) ∧ VarD W' w.heap.size (.slice none 0 0) (.slice none 0 0) ∧ DkO w (W'.setCell ⟨C, 1, none⟩ (.slice (some ⟨g, 0, none⟩) (xs.length + 1) c)) b so n cap m C po pa (some ⟨g, 0, none⟩) c ss (xs ++ [x]) := by
  obtain ⟨cb, hblk⟩ := h.s.blk
  have hb := h0.lt
  have hva := h.var.keep hk (h.o.i.other h.var (by decide))
  have hra := h.r.keep hk (h.o.i.other h.r (by decide))
  have hsa := h.o.s.keep hk (own_apart h.o.s h.o.i (by decide))
  have hK : Keep (fun k => k = b ∨ w.heap.size ≤ k) w W' := h.k.trans (hk.mono (fun k e => .inr (by have := (h.o.i.ge k e).1; omega)))
  have hS : SrcK W' b so n cap m := h0.other h.s (keep_drop hK) hk (h.o.i.other hblk (by decide))
  have hia : OwnR W' (w.heap.size + 1) 75 3 (.slice (some ⟨g, 0, none⟩) (xs.length + 1) c) (xs.length + 1) (ioV (xs ++ [x])) := .inr ⟨Nat.succ_pos _, by rw [ioV_snoc]; exact ho⟩
  have hl : (xs ++ [x]).length = xs.length + 1 := by simp
  have hk2 : Keep (fun j => j = C) W' (W'.setCell ⟨C, 1, none⟩ (.slice (some ⟨g, 0, none⟩) (xs.length + 1) c)) := Keep.setCell (S := fun j => j = C) (Keep.refl _ _) (p := ⟨C, 1, none⟩) rfl _
  have hc := h.c
  have hK2 : Keep (fun k => k = b ∨ w.heap.size ≤ k) w (W'.setCell ⟨C, 1, none⟩ (.slice (some ⟨g, 0, none⟩) (xs.length + 1) c)) := hK.trans (hk2.mono (fun k e => .inr (by omega)))
  refine ⟨hva, hra, ⟨?_, ⟨hsa.keep hk2 (fun j hj e => hsa.other hva (by decide) (e ▸ hj)), ?_⟩, hra.keep hk2 (by omega), hK2, h0.other hS (keep_drop hK2) hk2 (by omega), hc⟩⟩
  · rw [hl]; exact hva.set1 _
  · rw [hl]; exact hia.keep hk2 (fun j hj e => hia.other hva (by decide) (e ▸ hj))
theorem DkO.poke {w W : World} {b n cap m m0 C pa qa : Nat} {so po qo : Option Addr} {ss : List ByteArray} {xs : List Wr} (h : DkO w W b so n cap m C po pa qo qa ss xs) (h0 : SrcK w b so n cap m0) (a u v : Value) :
    SrcK (((W.setCell ⟨C, 0, none⟩ a).setCell ⟨w.heap.size, 0, none⟩ u).setCell ⟨w.heap.size, 1, none⟩ v) b so n cap m ∧ Keep (fun j => j = b) w (((W.setCell ⟨C, 0, none⟩ a).setCell ⟨w.heap.size, 0, none⟩ u).setCell ⟨w.heap.size, 1, none⟩ v) ∧ OwnD (((W.setCell ⟨C, 0, none⟩ a).setCell ⟨w.heap.size, 0, none⟩ u).setCell ⟨w.heap.size, 1, none⟩ v) (w.heap.size + 1) po ss.length pa qo xs.length qa ss xs := by
  have hb := h0.lt
  have hc := h.c
  have hk1 : Keep (fun j => j = C) W (W.setCell ⟨C, 0, none⟩ a) := (Keep.refl (fun j => j = C) W).setCell (p := ⟨C, 0, none⟩) rfl _
  obtain ⟨h1, h2, h3⟩ := h.other h0 hc hk1
  have ho : OwnD (W.setCell ⟨C, 0, none⟩ a) (w.heap.size + 1) po ss.length pa qo xs.length qa ss xs := h.o.keep hk1 (fun g hg e => h.o.other h.var (by decide) (by decide) (e ▸ hg))
  have hk : Keep (fun j => j = w.heap.size) (W.setCell ⟨C, 0, none⟩ a) (((W.setCell ⟨C, 0, none⟩ a).setCell ⟨w.heap.size, 0, none⟩ u).setCell ⟨w.heap.size, 1, none⟩ v) := ((Keep.refl (fun j => j = w.heap.size) _).setCell (p := ⟨w.heap.size, 0, none⟩) rfl _).setCell (p := ⟨w.heap.size, 1, none⟩) rfl _
  have hK : Keep (fun k => k = b ∨ w.heap.size ≤ k) w (((W.setCell ⟨C, 0, none⟩ a).setCell ⟨w.heap.size, 0, none⟩ u).setCell ⟨w.heap.size, 1, none⟩ v) := h2.trans (hk.mono (fun k e => .inr (by omega)))
  exact ⟨h0.other h3 (keep_drop hK) hk (by omega), keep_drop hK, (ho.setCell (a := ⟨w.heap.size, 0, none⟩) (Nat.lt_succ_self _) _).setCell (a := ⟨w.heap.size, 1, none⟩) (Nat.lt_succ_self _) _⟩

end Go.Proofs.YtefnapcegeojoaaGreatDoor

namespace Go.Proofs.YtefnapcegeojoaaGreatDoor
open Go.RowKit
set_option linter.unusedVariables false
set_option maxRecDepth 100000

set_option maxHeartbeats 3200000 in
theorem anyDisk_k (b : Nat) (so : Option Addr) (n cap m : Nat) (w : World) (hm : m ≤ 500000) (hn : n ≤ 1048576) (hs : SrcK w b so n cap m) :
    Calls Tryz.prog 108 #[.pointer (some ⟨b, 0, none⟩)] w fun e w' => (∃ ss xs po pa qo qa, e = .returned (.agg #[.slice po ss.length pa, .slice qo xs.length qa]) ∧ LsD w' (w.heap.size + 1) po pa qo qa ss xs) ∧ Keep (fun k => k = b) w w' ∧ SrcK w' b so n cap (m + 900) := by
  have HS := hide hs
  have hlt := hs.lt
  clear hs
  have HK0 : Hid (Keep (fun k => k = b ∨ w.heap.size ≤ k) w (w.alloc (.cells #[.slice none 0 0, .slice none 0 0] 26))) := hide (Keep.of_below (Joins.below_alloc1 _ _))
  have HS0 := hide ((unhide HS).below (Joins.below_alloc1 w (.cells #[.slice none 0 0, .slice none 0 0] 26)))
  have HR0 : Hid (VarD (w.alloc (.cells #[.slice none 0 0, .slice none 0 0] 26)) w.heap.size (.slice none 0 0) (.slice none 0 0)) := hide (heap_alloc_new w _)
  obtain ⟨j0, hj, hy0, hy1, hy2⟩ := info_parts infoW
  go_enter Tryz.func108, Tryz.ntmps108
  go_wp2_with fail
  refine (disk_k b so n cap m _ (by omega) hn (unhide HS0)).mono ?_
  rintro e w1 ⟨⟨ss, xs, po, pa, qo, qa, rfl, hd, hl, h1, h2, ht, ho⟩, hk, hs1⟩
  have HLEN := hide (diskB_len hd).1
  have hl0 : 0 < ss.length := by have := unhide HLEN; omega
  have hl1 : ss.length ≤ 64 := by have := unhide HLEN; omega
  have HT := hide ht
  have HLX := hide hl
  have D0 : Hid (DkO w (w1.alloc (.cells #[.slice po ss.length pa, .slice qo xs.length qa] 26)) b so n cap (m + 600) w1.heap.size po pa qo qa ss xs) := hide (by
    have hbA := Joins.below_alloc1 w1 (.cells #[.slice po ss.length pa, .slice qo xs.length qa] 26)
    have hr1 := (unhide HR0).keep hk (by omega)
    exact ⟨VarD.new _ _ _, (ho.below hbA).base (by simp), hr1.below hbA, ((unhide HK0).trans (hk.mono (fun k e => .inl e))).trans (Keep.of_below hbA), hs1.below hbA, hr1.lt⟩)
  clear hd hl h1 h2 ht ho hk hs1 HK0 HS0 HR0
  go_wp2_with fail
  revert D0
  generalize w1.alloc (.cells #[.slice po ss.length pa, .slice qo xs.length qa] 26) = W1
  generalize w1.heap.size = C
  intro D0
  refine (next_k b so n cap (m + 600) 12 _ (by omega) (by omega) (by omega) hn (unhide D0).s).mono ?_
  rintro e w2 ⟨q, rfl, q0, q1, hs2, hk2⟩
  have D1 := hide ((unhide D0).src hlt hs2 hk2)
  clear hs2 hk2 D0
  obtain ⟨v0, v1⟩ := (unhide D1).var.cells
  have v2 := (unhide D1).var.free 0
  have v3 := (unhide D1).var.free 1
  obtain ⟨r0, r1⟩ := (unhide D1).r.cells
  have r2 := (unhide D1).r.free 0
  have r3 := (unhide D1).r.free 1
  have hcw : w.heap.size < C := (unhide D1).c
  have n1 : C ≠ w.heap.size := by omega
  have n2 : w.heap.size ≠ C := by omega
  by_cases e0 : q = 0
  · have b0 : (q == 0) = true := by simp [e0]
    obtain ⟨g, rfl, _, _, _, hcp⟩ := row_form (unhide D1).o.s (by omega)
    have hp1 : 1 < pa := by have := unhide HLEN; omega
    have HE := hide (fun a u v => (unhide D1).poke (unhide HS) a u v)
    have HTL : Hid (ss.tail.length = ss.length - 1) := hide (List.length_tail)
    clear e0 hcp
    go_wp2
    rw [← unhide HTL]
    exact bodyPost_ret (v := .agg #[.slice (some ⟨g, 1, none⟩) ss.tail.length (pa - 1), .slice qo xs.length qa]) (by simp [results, Tryz.results108, go_sem, r0, r1]) rfl ⟨⟨ss.tail, xs, _, _, _, _, rfl, ⟨((unhide HE _ _ _).2.2.ss ((unhide HT).sizes (fun t h => noD_ok h)).1).tail, (unhide HE _ _ _).2.2.ios ((unhide HT).sizes (fun t h => noD_ok h)).2, ⟨fun s hs => drw_short ((unhide HT).1 s (List.mem_of_mem_tail hs)), fun x hx => drw_short ((unhide HT).2 x hx)⟩, fun e => absurd e (by have := unhide HTL; have := unhide HLEN; omega), by have := unhide HTL; have := unhide HLX; omega⟩⟩, (unhide HE _ _ _).2.1, (unhide HE _ _ _).1.more (by omega)⟩
  have b0 : (q == 0) = false := by simp [e0]
  by_cases e1 : q = 1
  · have b1 : (q == 1) = true := by simp [e1]
    clear e0 e1
    have HI : Hid (VarI (w2.alloc (.cells #[.int .i64 4, .int .i64 0, .string ⟨#[]⟩] 75)) w2.heap.size ⟨4, 0, ⟨#[]⟩⟩) := hide (VarI.new w2 ⟨4, 0, ⟨#[]⟩⟩)
    have D2 := hide ((unhide D1).below (Joins.below_alloc1 w2 (.cells #[.int .i64 4, .int .i64 0, .string ⟨#[]⟩] 75)))
    have hz2 : w.heap.size < w2.heap.size := (unhide D1).r.lt
    have hxl := unhide HLX
    go_wp2_with (at_builtin; refine wpList_append_one rfl _ _ 24 rfl (w.heap.size + 1) 75 j0 (.agg #[.int .i64 0, .int .i64 0, .string ⟨#[]⟩]) 3 32 Tryz.underlying24 hj hy0 hy1 hy2 rfl (by omega) qo xs.length qa (ioV xs) rfl (unhide D2).o.i (by simp; omega) ⟨w2.heap.size, 0, none⟩ _ (wrV ⟨4, 0, ⟨#[]⟩⟩) rfl rfl (unhide HI).news (wrV_one _) (by unfold maxLen; omega) (by omega) ?_; intro g cap3 w3 ho3 hk3; have HA := hide ((unhide D2).app (unhide HS) ho3 hk3); obtain ⟨p0, p1⟩ := (unhide HA).1.cells; have p2 := (unhide HA).1.free 1; obtain ⟨s0, s1⟩ := (unhide HA).2.1.cells; have s2 := (unhide HA).2.1.free 0; have s3 := (unhide HA).2.1.free 1; clear ho3 hk3)
    have HE := hide (fun u v => (unhide HA).2.2.ret (unhide HS) u v)
    have HXN : Hid ((xs ++ [(⟨4, 0, ⟨#[]⟩⟩ : Wr)]).length = xs.length + 1) := hide (by simp)
    have HT2 := hide ((unhide HT).snoc (x := ⟨4, 0, ⟨#[]⟩⟩) (Nat.zero_le _))
    rw [← unhide HXN] at HE ⊢
    exact bodyPost_ret (v := .agg #[.slice po ss.length pa, .slice (some ⟨g, 0, none⟩) (xs ++ [(⟨4, 0, ⟨#[]⟩⟩ : Wr)]).length cap3]) (by simp [results, Tryz.results108, go_sem, s0, s1]) rfl ⟨⟨ss, xs ++ [⟨4, 0, ⟨#[]⟩⟩], po, pa, _, _, rfl, LsD.of (unhide HE _ _).2.2 ((unhide HT2).mono (fun t h => drw_short h)) ((unhide HT2).sizes (fun t h => noD_ok h)) (by rw [unhide HXN]; omega)⟩, (unhide HE _ _).2.1, (unhide HE _ _).1.more (by omega)⟩
  have b1 : (q == 1) = false := by simp [e1]
  by_cases e2 : q = 2
  · have b2 : (q == 2) = true := by simp [e2]
    clear e0 e1 e2
    go_wp2_with fail
    go_region_with (first
      | (go_at_call 129; refine (some_k b so n cap (m + 600 + 3) 81 _ (by omega) (by omega) hn ?_).mono ?_; exact (unhide D1).s.below ((Below.refl _ _).drew); rintro e w3 ⟨tx, rfl, htx, hs3, hk3⟩; have D3 := hide (((unhide D1).below ((Below.refl _ _).drew)).src hlt hs3 hk3); have HTX := hide htx; obtain ⟨t0, t1⟩ := (unhide D3).var.cells; obtain ⟨g, xx, rfl, hgl, hgc, hgf, hgs⟩ := (unhide D3).cell (unhide HS) hl0; have HGS := hide hgs; clear hs3 hk3 htx hgs))
    all_goals
      have D4 := hide (unhide HGS tx)
      clear HGS hgc hgf hgl t0 t1 v0 v1 v2 v3 r0 r1 r2 r3 D3 D1
      revert D4
      generalize w3.setCell ⟨g, 0, none⟩ (.string tx) = W4
      intro D4
      have HTS := hide (AllT.set (j := 0) ((unhide HT).mono (fun t h => (show Drw t ∧ t.size ≤ maxLen from ⟨drw_short h, noD_ok h⟩))) (d := tx) ⟨.inr (.inl (by rw [unhide HTX]; decide)), by rw [unhide HTX]; decide⟩)
      have HSN : Hid ((ss.set 0 tx).length ≤ 64) := hide (by rw [List.length_set]; exact hl1)
      obtain ⟨t0, t1⟩ := (unhide D4).var.cells
      obtain ⟨r0, r1⟩ := (unhide D4).r.cells
      have r2 := (unhide D4).r.free 0
      have r3 := (unhide D4).r.free 1
      have HE := hide (fun u v => (unhide D4).ret (unhide HS) u v)
      go_wp2
      exact bodyPost_ret (v := .agg #[.slice (some ⟨g, 0, none⟩) (ss.set 0 tx).length pa, .slice qo xs.length qa]) (by simp [results, Tryz.results108, go_sem, r0, r1]) rfl ⟨⟨ss.set 0 tx, xs, _, _, _, _, rfl, LsD.of (unhide HE _ _).2.2 ((unhide HTS).mono (fun t h => h.1)) ((unhide HTS).sizes (fun t h => h.2)) ⟨unhide HSN, by have := unhide HLX; omega⟩⟩, (unhide HE _ _).2.1, (unhide HE _ _).1.more (by omega)⟩
  have b2 : (q == 2) = false := by simp [e2]
  clear e0 e1 e2
  have HE := hide (fun u v => (unhide D1).ret (unhide HS) u v)
  go_wp2
  exact bodyPost_ret (v := .agg #[.slice po ss.length pa, .slice qo xs.length qa]) (by simp [results, Tryz.results108, go_sem, r0, r1]) rfl ⟨⟨ss, xs, po, pa, qo, qa, rfl, LsD.of (unhide HE _ _).2.2 ((unhide HT).mono (fun t h => drw_short h)) ((unhide HT).sizes (fun t h => noD_ok h)) (by have := unhide HLX; omega)⟩, (unhide HE _ _).2.1, (unhide HE _ _).1.more (by omega)⟩

end Go.Proofs.YtefnapcegeojoaaGreatDoor

namespace Go.Proofs.YtefnapcegeojoaaGreatDoor
open Go.RowKit
set_option linter.unusedVariables false
set_option maxRecDepth 100000

theorem LsD.ret {W : World} {B R pa qa : Nat} {po qo : Option Addr} {ss : List ByteArray} {xs : List Wr} (h : LsD W B po pa qo qa ss xs) (hr : VarD W R (.slice none 0 0) (.slice none 0 0)) (hR : R < B) :
    LsD ((W.setCell ⟨R, 0, none⟩ (.slice po ss.length pa)).setCell ⟨R, 1, none⟩ (.slice qo xs.length qa)) B po pa qo qa ss xs ∧ Keep (fun j => j = R) W ((W.setCell ⟨R, 0, none⟩ (.slice po ss.length pa)).setCell ⟨R, 1, none⟩ (.slice qo xs.length qa)) := by
  obtain ⟨hd, hk⟩ := DV.store (ca := pa) (cb := qa) hr h.s h.i
  exact ⟨⟨hd.s, hd.i, h.t, fun e => ((h.o e).setCell (a := ⟨R, 0, none⟩) hR _).setCell (a := ⟨R, 1, none⟩) hR _, h.l⟩, hk⟩
theorem LsD.base {W : World} {B B' pa qa : Nat} {po qo : Option Addr} {ss : List ByteArray} {xs : List Wr} (h : LsD W B po pa qo qa ss xs) (hB : B' ≤ B) : LsD W B' po pa qo qa ss xs := ⟨h.s, h.i, h.t, fun e => (h.o e).base hB, h.l⟩

set_option maxHeartbeats 3200000 in
theorem deltaDisk_k (b : Nat) (so : Option Addr) (n cap m : Nat) (w : World) (hm : m ≤ 400000) (hn : n ≤ 1048576) (hs : SrcK w b so n cap m) :
    Calls Tryz.prog 65 #[.pointer (some ⟨b, 0, none⟩)] w fun e w' => (∃ ss xs po pa qo qa, e = .returned (.agg #[.slice po ss.length pa, .slice qo xs.length qa]) ∧ LsD w' (w.heap.size + 1) po pa qo qa ss xs) ∧ Keep (fun k => k = b) w w' ∧ SrcK w' b so n cap (m + 2000) := by
  have HS := hide hs
  have hlt := hs.lt
  clear hs
  have HK0 : Hid (Keep (fun k => k = b ∨ w.heap.size ≤ k) w (w.alloc (.cells #[.slice none 0 0, .slice none 0 0] 26))) := hide (Keep.of_below (Joins.below_alloc1 _ _))
  have HS0 := hide ((unhide HS).below (Joins.below_alloc1 w (.cells #[.slice none 0 0, .slice none 0 0] 26)))
  have HR0 : Hid (VarD (w.alloc (.cells #[.slice none 0 0, .slice none 0 0] 26)) w.heap.size (.slice none 0 0) (.slice none 0 0)) := hide (heap_alloc_new w _)
  go_enter Tryz.func65, Tryz.ntmps65
  go_wp2_with fail
  refine (disk_k b so n cap m _ (by omega) hn (unhide HS0)).mono ?_
  rintro e w1 ⟨⟨ss0, xs0, po0, pa0, qo0, qa0, rfl, hd, hl, h1, h2, ht, ho⟩, hk, hs1⟩
  have HD0 := hide hd
  have HT0 := hide (ht.mono (fun t h => drw_short h))
  have HL0 := hide hl
  have D0 : Hid (DkO w (w1.alloc (.cells #[.slice po0 ss0.length pa0, .slice qo0 xs0.length qa0] 26)) b so n cap (m + 600) w1.heap.size po0 pa0 qo0 qa0 ss0 xs0) := hide (by
    have hbA := Joins.below_alloc1 w1 (.cells #[.slice po0 ss0.length pa0, .slice qo0 xs0.length qa0] 26)
    have hr1 := (unhide HR0).keep hk (by omega)
    exact ⟨VarD.new _ _ _, (ho.below hbA).base (by simp), hr1.below hbA, ((unhide HK0).trans (hk.mono (fun k e => .inl e))).trans (Keep.of_below hbA), hs1.below hbA, hr1.lt⟩)
  clear hd hl h1 h2 ht ho hk hs1 HK0 HS0 HR0
  go_wp2_with fail
  revert D0
  generalize w1.alloc (.cells #[.slice po0 ss0.length pa0, .slice qo0 xs0.length qa0] 26) = W1
  generalize w1.heap.size = C
  intro D0
  refine (next_k b so n cap (m + 600) 4 _ (by omega) (by omega) (by omega) hn (unhide D0).s).mono ?_
  rintro e w2 ⟨q, rfl, q0, q1, hs2, hk2⟩
  have D1 := hide ((unhide D0).src hlt hs2 hk2)
  clear hs2 hk2 D0
  obtain ⟨j0, rfl⟩ := Int.eq_ofNat_of_zero_le q0
  go_wp2
  go_loopw [4] (fun i wr => ∃ (j : Nat) (ss : List ByteArray) (xs : List Wr) (po : Option Addr) (pa : Nat) (qo : Option Addr) (qa : Nat), j ≤ 3 ∧ i = .int .i64 j ∧ xs.length ≤ 19 ∧ Hid (diskB ss xs = true) ∧ Hid (AllT Drw ss xs) ∧ Hid (DkO w wr b so n cap (m + 700 - 20 * j) C po pa qo qa ss xs)) (fun i _ => (intOf i).toNat)
  case atStart => exact ⟨j0, ss0, xs0, _, _, _, _, by omega, rfl, unhide HL0, HD0, HT0, hide ((unhide D1).more (by omega))⟩
  case round =>
    clear HD0 HT0 HL0 D1
    obtain ⟨j, ss, xs, po, pa, qo, qa, hj3, rfl, hxl, HR, HT, HD⟩ := hrel
    have HZ := hide (right_ss (unhide HR))
    have HZX := hide (right_xs (unhide HR))
    obtain ⟨v0, v1⟩ := (unhide HD).var.cells
    by_cases hj : 0 < j
    · go_wp2_with fail
      go_region_with (first
        | (go_at_call 107; refine (delta_k b so n cap (m + 700 - 20 * j) _ (by omega) hn ?_).mono ?_; exact (unhide HD).s.below ((Below.refl _ _).drew); rintro e wA ⟨dh, dg, ds, rfl, k1, k2, k3, hsA, hkA⟩; have DA := hide (((unhide HD).below ((Below.refl _ _).drew)).src hlt hsA hkA); obtain ⟨a0, a1⟩ := (unhide DA).var.cells; clear hsA hkA)
        | (go_at_call 106; refine (l04Put_any po qo pa qa ss xs dh dg ds _ (unhide HR) (by omega) (dltB_iff.2 ⟨k1, ⟨k2.1, by omega⟩, ⟨k3.1, by omega⟩⟩) ?_ ?_).mono ?_; exact (unhide DA).o.ss (unhide HZ); exact (unhide DA).o.ios (unhide HZX); rintro e wB ⟨po2, pa2, qo2, qa2, rfl, ho, hbB⟩; have DB := hide ((unhide DA).below hbB); obtain ⟨b0, b1⟩ := (unhide DB).var.cells; have z0 := (unhide DB).var.free 0; have z1 := (unhide DB).var.free 1; have hzA : w.heap.size < wA.heap.size := (unhide DA).r.lt; have HO := hide ho; clear ho hbB))
      all_goals
        have F1 := hide (pS_right (g := dg) (s := ds) (unhide HR) (by omega) k1.1 k1.2)
        have F2 := hide ((unhide HT).pS dh dg ds (drw_delta k1 k2 k3))
        have F3 : (pX xs dh dg ds).length ≤ 19 := Nat.le_trans (pX_le xs dh dg ds) hxl
        have HLN := hide (pS_len ss xs dh dg ds)
        have HO2 : Hid (OwnD wB (w.heap.size + 1) po2 (pS ss xs dh dg ds).length pa2 qo2 (pX xs dh dg ds).length qa2 (pS ss xs dh dg ds) (pX xs dh dg ds)) := hide (by rw [unhide HLN]; exact (unhide HO).base (by omega))
        have S' := (unhide DB).store (unhide HS) (unhide HO2)
        rw [unhide HLN] at S'
        have S2 := hide (S'.more (m' := m + 700 - 20 * (j - 1)) (by omega))
        clear S' DA DB HO HO2 a0 a1 b0 b1 z0 z1 v0 v1 HD HR HT HZ HZX
        revert S2 F1 F2 F3
        generalize (wB.setCell ⟨C, 0, none⟩ (.slice po2 ss.length pa2)).setCell ⟨C, 1, none⟩ (.slice qo2 (pX xs dh dg ds).length qa2) = WF
        generalize pS ss xs dh dg ds = ss2
        generalize pX xs dh dg ds = xs2
        intro F1 F2 F3 S2
        go_wp2
        go_roundw
        case rel => exact ⟨j - 1, ss2, xs2, po2, pa2, qo2, qa2, by omega, by go_num, F3, F1, F2, S2⟩
        case measure => simp [intOf]; omega
    · go_wp2_with fail
      refine (chance_k b so n cap _ 12 _ (by omega) (by omega) (by omega) hn (unhide HD).s).mono ?_
      rintro e w3 ⟨qc, rfl, hs3, hk3⟩
      have D3 := hide ((unhide HD).src hlt hs3 hk3)
      clear hs3 hk3 v0 v1
      cases qc with
      | true =>
        go_wp2_with fail
        refine (anyDisk_k b so n cap _ _ (by omega) hn (unhide D3).s).mono ?_
        rintro e w4 ⟨⟨ss4, xs4, po4, pa4, qo4, qa4, rfl, hL⟩, hk4, hs4⟩
        have hz3 : w.heap.size < w3.heap.size := (unhide D3).r.lt
        have HR4 := hide ((unhide D3).r.keep hk4 (by omega))
        have HK4 := hide ((unhide D3).k.trans (hk4.mono (fun k e => .inl e)))
        have HS4 := hide hs4
        have HL4 := hide (LsD.ret (hL.base (B' := w.heap.size + 1) (by omega)) (unhide HR4) (Nat.lt_succ_self _))
        clear hL hk4 hs4
        obtain ⟨r0, r1⟩ := (unhide HR4).cells
        have r2 := (unhide HR4).free 0
        have r3 := (unhide HR4).free 1
        go_wp2
        have hK := (unhide HK4).trans ((unhide HL4).2.mono (fun k e => .inr (by omega)))
        exact bodyPost_ret (v := .agg #[.slice po4 ss4.length pa4, .slice qo4 xs4.length qa4]) (by simp [results, Tryz.results65, go_sem, r0, r1]) rfl ⟨⟨ss4, xs4, _, _, _, _, rfl, (unhide HL4).1⟩, keep_drop hK, ((unhide HS).other (unhide HS4) (keep_drop hK) (unhide HL4).2 (by omega)).more (by omega)⟩
      | false =>
        have HLM : Hid (ss.length ≤ 1048576) := hide (by have := (diskB_len (unhide HR)).1; omega)
        have HL64 : Hid (ss.length ≤ 64) := hide (by have := (diskB_len (unhide HR)).1; omega)
        obtain ⟨v0, v1⟩ := (unhide D3).var.cells
        go_wp2_with fail
        refine (l01Own_any po qo pa qa ss xs _ (unhide HLM) (by omega) ((unhide D3).o.ss (unhide HZ)) ((unhide D3).o.ios (unhide HZX))).mono ?_
        rintro e w4 ⟨po4, pa4, qo4, qa4, rfl, ho, hb4⟩
        have hz3 : w.heap.size < w3.heap.size := (unhide D3).r.lt
        have D4 := hide ((unhide D3).below hb4)
        have HL4 := hide (LsD.ret ((LsD.of ho (unhide HT) ⟨unhide HZ, unhide HZX⟩ ⟨unhide HL64, by omega⟩).base (B' := w.heap.size + 1) (by omega)) (unhide D4).r (Nat.lt_succ_self _))
        clear ho hb4 v0 v1
        obtain ⟨r0, r1⟩ := (unhide D4).r.cells
        have r2 := (unhide D4).r.free 0
        have r3 := (unhide D4).r.free 1
        go_wp2
        have hK := (unhide D4).k.trans ((unhide HL4).2.mono (fun k e => .inr (by omega)))
        exact bodyPost_ret (v := .agg #[.slice po4 ss.length pa4, .slice qo4 xs.length qa4]) (by simp [results, Tryz.results65, go_sem, r0, r1]) rfl ⟨⟨ss, xs, _, _, _, _, rfl, (unhide HL4).1⟩, keep_drop hK, ((unhide HS).other (unhide D4).s (keep_drop hK) (unhide HL4).2 (by omega)).more (by omega)⟩

end Go.Proofs.YtefnapcegeojoaaGreatDoor

namespace Go.Proofs.YtefnapcegeojoaaGreatDoor
open Go.RowKit
set_option linter.unusedVariables false

def srcV (cd : Nat → Int) (n a : Nat) (seed : Int) : Int := if a < n then cd a else if 3000 < a + 1 then 0 else (seed * 1103515245 + 12345) % 2147483648 / 65536 % 256
def srcN (cd : Nat → Int) (n a : Nat) (seed : Int) : Int := if a < n then (seed * 31 + cd a + 7) % 2147483648 else if 3000 < a + 1 then seed else (seed * 1103515245 + 12345) % 2147483648
def Bx (w : World) (ao : Option Addr) (n : Nat) (cd : Nat → Int) : Prop := ∀ i, i < n → ∃ b off, ao = some ⟨b, off, none⟩ ∧ w.cell? ⟨b, off + i, none⟩ = some (.int .u8 (cd i)) ∧ 0 ≤ cd i ∧ cd i ≤ 255
theorem Bx.below {w w' : World} {ao : Option Addr} {n : Nat} {cd : Nat → Int} (h : Bx w ao n cd) (hb : Below w.heap.size w w') : Bx w' ao n cd := fun i hi => by
  obtain ⟨b, off, e, hc, h0, h1⟩ := h i hi
  exact ⟨b, off, e, (hb.cell (p := ⟨b, off + i, none⟩) (World.block_lt_of_cell? _ _ hc)).trans hc, h0, h1⟩
theorem Bx.keep {w w' : World} {b : Nat} {ao : Option Addr} {n : Nat} {cd : Nat → Int} {v : Value} {x y : Int} (hB : Bx w ao n cd) (h : w.heap[b]? = some (.cells #[v, .int .i64 x, .int .i64 y] 92 (0, 0))) (hv : ∀ z, v ≠ .int .u8 z) (hk : Keep (fun k => k = b) w w') : Bx w' ao n cd := fun i hi => by
  obtain ⟨b', off, e, hc, h0, h1⟩ := hB i hi
  refine ⟨b', off, e, ?_, h0, h1⟩
  have hne : b' ≠ b := by
    rintro rfl
    rw [Joins.cell_of_block h] at hc
    match hoff : off + i, hc with
    | 0, hc => exact hv _ (by simpa using hc)
    | 1, hc => simp at hc
    | 2, hc => simp at hc
    | k + 3, hc => simp at hc
  have hl := World.block_lt_of_cell? _ _ hc
  rw [← hc]
  unfold World.cell?
  simp only [hk.block b' hl hne]
theorem Bs.told {w : World} {ao : Option Addr} {n : Nat} (h : Bs w ao n) : ∃ cd, Bx w ao n cd := by
  have h' : ∀ i, ∃ x : Int, i < n → ∃ b off, ao = some ⟨b, off, none⟩ ∧ w.cell? ⟨b, off + i, none⟩ = some (.int .u8 x) ∧ 0 ≤ x ∧ x ≤ 255 := by
    intro i
    by_cases hi : i < n
    · obtain ⟨b, off, x, e, hc, h0, h1⟩ := h i hi
      exact ⟨x, fun _ => ⟨b, off, e, hc, h0, h1⟩⟩
    · exact ⟨0, fun k => absurd k hi⟩
  exact ⟨fun i => (h' i).choose, fun i hi => (h' i).choose_spec hi⟩
theorem Bx.some {w : World} {ao : Option Addr} {n : Nat} {cd : Nat → Int} (h : Bx w ao n cd) : Bs w ao n := fun i hi => by
  obtain ⟨b, off, e, hc, h0, h1⟩ := h i hi
  exact ⟨b, off, _, e, hc, h0, h1⟩
structure SrcX (w : World) (b : Nat) (ao : Option Addr) (n cap : Nat) (cd : Nat → Int) (a : Nat) (seed : Int) : Prop where
  blk : w.heap[b]? = some (.cells #[.slice ao n cap, .int .i64 a, .int .i64 seed] 92 (0, 0))
  bytes : Bx w ao n cd
  s0 : 0 ≤ seed
  s1 : seed < 2147483648
theorem SrcX.below {w w' : World} {b : Nat} {ao : Option Addr} {n cap a : Nat} {cd : Nat → Int} {seed : Int} (h : SrcX w b ao n cap cd a seed) (hb : Below w.heap.size w w') : SrcX w' b ao n cap cd a seed :=
  ⟨by rw [hb.block b (Array.getElem?_eq_some_iff.1 h.blk).1]; exact h.blk, h.bytes.below hb, h.s0, h.s1⟩
theorem SrcX.k {w : World} {b : Nat} {ao : Option Addr} {n cap a m : Nat} {cd : Nat → Int} {seed : Int} (h : SrcX w b ao n cap cd a seed) (hm : a ≤ m) : SrcK w b ao n cap m :=
  ⟨⟨a, seed, by omega, by omega, h.s0, h.s1, h.blk⟩, h.bytes.some⟩
theorem SrcK.x {w : World} {b : Nat} {ao : Option Addr} {n cap m : Nat} (h : SrcK w b ao n cap m) : ∃ cd a seed, a ≤ m ∧ SrcX w b ao n cap cd a seed := by
  obtain ⟨⟨x, y, c0, c1, c2, c3, c4⟩, hB⟩ := h
  obtain ⟨a, rfl⟩ := Int.eq_ofNat_of_zero_le c0
  obtain ⟨cd, hx⟩ := hB.told
  exact ⟨cd, a, y, by omega, c4, hx, c2, c3⟩
theorem SrcX.lt {w : World} {b : Nat} {ao : Option Addr} {n cap a : Nat} {cd : Nat → Int} {seed : Int} (h : SrcX w b ao n cap cd a seed) : b < w.heap.size := (Array.getElem?_eq_some_iff.1 h.blk).1

set_option maxHeartbeats 6400000 in
theorem byteX_in (b : Nat) (ao : Option Addr) (n cap a : Nat) (cd : Nat → Int) (seed : Int) (w : World) (ha' : a ≤ 1000000) (hn : n ≤ 1048576) (hlt : a < n) (hs : SrcX w b ao n cap cd a seed) :
    Calls Tryz.prog 130 #[.pointer (some ⟨b, 0, none⟩)] w fun e w' => e = .returned (.int .i64 (cd a)) ∧ SrcX w' b ao n cap cd (a + 1) ((seed * 31 + cd a + 7) % 2147483648) ∧ Keep (fun k => k = b) w w' := by
  obtain ⟨hblk, hB, h0, h1⟩ := hs
  obtain ⟨hc0, hc1, hc2, hf1, hf2⟩ := src_cells hblk
  have HBL := hide (set_block (i := 1) hblk (.int .i64 ((a : Int) + 1)))
  have HK := hide (Keep.setCell (S := fun k => k = b) (Keep.refl _ w) (p := ⟨b, 1, none⟩) rfl (.int .i64 ((a : Int) + 1)))
  have HB := hide (hB.keep hblk (fun z h => by cases h) (unhide HK))
  have hle : (a : Int) + 1 ≤ n := by omega
  generalize hx : cd a = x
  have HX := hide hx
  clear hx
  go_enter Tryz.func130, Tryz.ntmps130
  go_wp2
  clear hc0 hc1 hc2 hf1 hf2 hblk hB
  revert HBL HK HB
  generalize w.setCell ⟨b, 1, none⟩ (.int .i64 ((a : Int) + 1)) = W1
  intro HBL HK HB
  obtain ⟨hc0, hc1, hc2, hf1, hf2⟩ := src_cells (unhide HBL)
  obtain ⟨b', off, rfl, hcx, hx0, hx1⟩ := unhide HB a hlt
  rw [unhide HX] at hcx hx0 hx1
  go_quiet (fail)
  have hw1 : IntKind.i64.wrap ((a : Int) + 1 - 1) = (a : Int) := by rw [wrapI (by omega) (by omega)]; omega
  have hw2 : IntKind.i64.wrap (seed * 31) = seed * 31 := wrapI (by omega) (by omega)
  have hw3 : IntKind.i64.wrap x = x := wrapI (by omega) (by omega)
  have hw4 : IntKind.i64.wrap (seed * 31 + x) = seed * 31 + x := wrapI (by omega) (by omega)
  have hw5 : IntKind.i64.wrap (seed * 31 + x + 7) = seed * 31 + x + 7 := wrapI (by omega) (by omega)
  go_wp2
  have hs0 : 0 ≤ (seed * 31 + x + 7) % 2147483648 := by omega
  have hs1 : (seed * 31 + x + 7) % 2147483648 < 2147483648 := by omega
  go_region
  clear hc0 hc1 hc2 hf1 hf2
  have HBL2 : Hid (((W1.drewN (nq + 1)).setCell ⟨b, 2, none⟩ (.int .i64 ((seed * 31 + x + 7) % 2147483648))).heap[b]? = some (.cells #[.slice (some ⟨b', off, none⟩) n cap, .int .i64 ((a : Int) + 1), .int .i64 ((seed * 31 + x + 7) % 2147483648)] 92 (0, 0))) := hide (set_block (w := W1.drewN (nq + 1)) (i := 2) (unhide HBL) _)
  have HK2 : Hid (Keep (fun k => k = b) W1 ((W1.drewN (nq + 1)).setCell ⟨b, 2, none⟩ (.int .i64 ((seed * 31 + x + 7) % 2147483648)))) := hide (Keep.setCell (S := fun k => k = b) ((Keep.refl _ W1).drewN _) (p := ⟨b, 2, none⟩) rfl _)
  have HB2 := hide ((unhide HB).keep (unhide HBL) (fun z h => by cases h) (unhide HK2))
  revert HBL2 HK2 HB2
  generalize (W1.drewN (nq + 1)).setCell ⟨b, 2, none⟩ (.int .i64 ((seed * 31 + x + 7) % 2147483648)) = W2
  intro HBL2 HK2 HB2
  have HKK := hide ((unhide HK).trans (unhide HK2))
  clear HBL HB HK HK2 hcx
  obtain ⟨hc0, hc1, hc2, hf1, hf2⟩ := src_cells (unhide HBL2)
  obtain ⟨b2, off2, he2, hcx, hy0, hy1⟩ := unhide HB2 a hlt
  simp only [Option.some.injEq, Addr.mk.injEq, and_true] at he2
  obtain ⟨rfl, rfl⟩ := he2
  rw [unhide HX] at hcx
  go_wp2
  go_quiet (fail)
  go_wp2
  go_ret
  exact ⟨rfl, ⟨unhide HBL2, unhide HB2, hs0, hs1⟩, (unhide HKK).drewN _⟩

set_option maxRecDepth 100000 in
set_option maxHeartbeats 6400000 in
theorem byteX_out (b : Nat) (ao : Option Addr) (n cap a : Nat) (cd : Nat → Int) (seed : Int) (w : World) (ha' : a ≤ 1000000) (hn : n ≤ 1048576) (hlt : ¬ a < n) (hs : SrcX w b ao n cap cd a seed) :
    Calls Tryz.prog 130 #[.pointer (some ⟨b, 0, none⟩)] w fun e w' => e = .returned (.int .i64 (if 3000 < a + 1 then 0 else (seed * 1103515245 + 12345) % 2147483648 / 65536 % 256)) ∧ SrcX w' b ao n cap cd (a + 1) (if 3000 < a + 1 then seed else (seed * 1103515245 + 12345) % 2147483648) ∧ Keep (fun k => k = b) w w' := by
  obtain ⟨hblk, hB, h0, h1⟩ := hs
  obtain ⟨hc0, hc1, hc2, hf1, hf2⟩ := src_cells hblk
  have HBL := hide (set_block (i := 1) hblk (.int .i64 ((a : Int) + 1)))
  have HK := hide (Keep.setCell (S := fun k => k = b) (Keep.refl _ w) (p := ⟨b, 1, none⟩) rfl (.int .i64 ((a : Int) + 1)))
  have HB0 := hide hB
  have HB := hide (hB.keep hblk (fun z h => by cases h) (unhide HK))
  have HBK := hide hblk
  clear hB
  have hle : ¬ (a : Int) + 1 ≤ n := by omega
  have hw2 : IntKind.i64.wrap (seed * 1103515245) = seed * 1103515245 := wrapI (by omega) (by omega)
  have hw4 : IntKind.i64.wrap (seed * 1103515245 + 12345) = seed * 1103515245 + 12345 := wrapI (by omega) (by omega)
  have hs0 : 0 ≤ (seed * 1103515245 + 12345) % 2147483648 := by omega
  have hs1 : (seed * 1103515245 + 12345) % 2147483648 < 2147483648 := by omega
  by_cases h3 : 3000 < a + 1
  · rw [if_pos h3, if_pos h3]
    have h3i : (3000 : Int) < (a : Int) + 1 := by omega
    go_enter Tryz.func130, Tryz.ntmps130
    go_wp2
    clear hc0 hc1 hc2 hf1 hf2 hblk
    revert HBL HK HB
    generalize w.setCell ⟨b, 1, none⟩ (.int .i64 ((a : Int) + 1)) = W1
    intro HBL HK HB
    obtain ⟨hc0, hc1, hc2, hf1, hf2⟩ := src_cells (unhide HBL)
    go_quiet (fail)
    go_wp2
    go_ret
    exact ⟨rfl, ⟨unhide HBL, unhide HB, h0, h1⟩, (unhide HK).drewN _⟩
  · rw [if_neg h3, if_neg h3]
    have h3i : ¬ (3000 : Int) < (a : Int) + 1 := by omega
    go_enter Tryz.func130, Tryz.ntmps130
    go_wp2
    clear hc0 hc1 hc2 hf1 hf2 hblk
    revert HBL HK HB
    generalize w.setCell ⟨b, 1, none⟩ (.int .i64 ((a : Int) + 1)) = W1
    intro HBL HK HB
    obtain ⟨hc0, hc1, hc2, hf1, hf2⟩ := src_cells (unhide HBL)
    go_quiet (fail)
    have HS2 := hide (set_block (w := W1.drewN nq) (i := 2) (unhide HBL) (.int .i64 ((seed * 1103515245 + 12345) % 2147483648)))
    have HK2 := hide (Keep.setCell (S := fun k => k = b) ((unhide HK).drewN nq) (p := ⟨b, 2, none⟩) rfl (.int .i64 ((seed * 1103515245 + 12345) % 2147483648)))
    have HB2 := hide ((unhide HB0).keep (unhide HBK) (fun z h => by cases h) (unhide HK2))
    go_wp2
    go_ret
    exact ⟨rfl, ⟨unhide HS2, unhide HB2, hs0, hs1⟩, unhide HK2⟩

theorem byte_x (b : Nat) (ao : Option Addr) (n cap a : Nat) (cd : Nat → Int) (seed : Int) (w : World) (ha' : a ≤ 1000000) (hn : n ≤ 1048576) (hs : SrcX w b ao n cap cd a seed) :
    Calls Tryz.prog 130 #[.pointer (some ⟨b, 0, none⟩)] w fun e w' => e = .returned (.int .i64 (srcV cd n a seed)) ∧ SrcX w' b ao n cap cd (a + 1) (srcN cd n a seed) ∧ Keep (fun k => k = b) w w' := by
  by_cases hlt : a < n
  · rw [srcV, srcN, if_pos hlt, if_pos hlt]; exact byteX_in b ao n cap a cd seed w ha' hn hlt hs
  · rw [srcV, srcN, if_neg hlt, if_neg hlt]; exact byteX_out b ao n cap a cd seed w ha' hn hlt hs

set_option maxHeartbeats 1600000 in
theorem next_x (b : Nat) (ao : Option Addr) (n cap a : Nat) (cd : Nat → Int) (seed k : Int) (w : World) (hk0 : 2 ≤ k) (hk1 : k ≤ 256) (ha' : a ≤ 1000000) (hn : n ≤ 1048576) (hs : SrcX w b ao n cap cd a seed) :
    Calls Tryz.prog 105 #[.pointer (some ⟨b, 0, none⟩), .int .i64 k] w fun e w' => e = .returned (.int .i64 (srcV cd n a seed % k)) ∧ SrcX w' b ao n cap cd (a + 1) (srcN cd n a seed) ∧ Keep (fun k => k = b) w w' := by
  have HS := hide hs
  have hv : Hid (0 ≤ srcV cd n a seed) := hide (by
    unfold srcV
    by_cases hlt : a < n
    · rw [if_pos hlt]; obtain ⟨_, _, _, _, h0, _⟩ := hs.bytes a hlt; exact h0
    · rw [if_neg hlt]; split <;> omega)
  clear hs
  have h1 : ¬ k ≤ 1 := by omega
  have hv0 := unhide hv
  obtain ⟨r, HR⟩ : ∃ r, Hid (srcV cd n a seed = r) := ⟨_, hide rfl⟩
  rw [unhide HR] at hv0 ⊢
  go_enter Tryz.func105, Tryz.ntmps105
  go_wp2_with fail
  refine (byte_x b ao n cap a cd seed _ ha' hn (unhide HS)).mono ?_
  rintro e w1 ⟨rfl, hs1, hk⟩
  have HS1 := hide hs1
  have HK1 := hide hk
  clear hs1 hk
  rw [unhide HR]
  go_wp2
  go_ret
  exact ⟨rfl, unhide HS1, unhide HK1⟩
theorem srcV_mod {cd : Nat → Int} {n a : Nat} {seed k : Int} (hk : 0 < k) : 0 ≤ srcV cd n a seed % k ∧ srcV cd n a seed % k < k := ⟨Int.emod_nonneg _ (by omega), Int.emod_lt_of_pos _ hk⟩

end Go.Proofs.YtefnapcegeojoaaGreatDoor

namespace Go.Proofs.YtefnapcegeojoaaGreatDoor
open Go.RowKit
set_option linter.unusedVariables false
set_option maxRecDepth 100000

abbrev blkV (v m b i : Int) : Value := .agg #[.int .i64 v, .int .i64 m, .int .i64 b, .int .i64 i]
abbrev blkO (v m b i : Int) : Obj := .cells #[.int .i64 v, .int .i64 m, .int .i64 b, .int .i64 i] 96 (0, 0)
abbrev twoO (x y : Int) : Obj := .cells #[.int .i64 x, .int .i64 y] 3 (0, 0)

theorem DrS.below {w W W' : World} {b : Nat} {ao : Option Addr} {n cap m : Nat} {o : Obj} (h : DrS w W b ao n cap m o) (hb : Below W.heap.size W W') : DrS w W' b ao n cap m o :=
  ⟨h.s.below hb, h.k.trans (Keep.of_below hb), blk_below hb h.r⟩
structure DrX (w W : World) (b : Nat) (ao : Option Addr) (n cap : Nat) (cd : Nat → Int) (a : Nat) (seed : Int) (o : Obj) : Prop where
  s : SrcX W b ao n cap cd a seed
  k : Keep (fun k => k = b) w W
  r : W.heap[w.heap.size]? = some o
theorem DrX.below {w W W' : World} {b : Nat} {ao : Option Addr} {n cap a : Nat} {cd : Nat → Int} {seed : Int} {o : Obj} (h : DrX w W b ao n cap cd a seed o) (hb : Below W.heap.size W W') : DrX w W' b ao n cap cd a seed o :=
  ⟨h.s.below hb, h.k.trans (Keep.of_below hb), blk_below hb h.r⟩
theorem DrX.src {w W W' : World} {b : Nat} {ao : Option Addr} {n cap a a' : Nat} {cd : Nat → Int} {seed seed' : Int} {o : Obj} (h : DrX w W b ao n cap cd a seed o) (hb : b < w.heap.size) (hs : SrcX W' b ao n cap cd a' seed') (hk : Keep (fun k => k = b) W W') : DrX w W' b ao n cap cd a' seed' o :=
  ⟨hs, h.k.trans hk, blk_keep hk (by omega) h.r⟩
abbrev Blk8 (w : World) (k : Nat) (v m b i : Int) : Prop := w.cell? ⟨k, 0, none⟩ = some (.int .i64 v) ∧ w.cell? ⟨k, 1, none⟩ = some (.int .i64 m) ∧ w.cell? ⟨k, 2, none⟩ = some (.int .i64 b) ∧ w.cell? ⟨k, 3, none⟩ = some (.int .i64 i) ∧ w.frozen? ⟨k, 0, none⟩ = false ∧ w.frozen? ⟨k, 1, none⟩ = false ∧ w.frozen? ⟨k, 2, none⟩ = false ∧ w.frozen? ⟨k, 3, none⟩ = false
theorem blk_cells {w : World} {k : Nat} {v m b i : Int} (h : w.heap[k]? = some (blkO v m b i)) : Blk8 w k v m b i :=
  ⟨by rw [Joins.cell_of_block h]; rfl, by rw [Joins.cell_of_block h]; rfl, by rw [Joins.cell_of_block h]; rfl, by rw [Joins.cell_of_block h]; rfl, Joins.unfrozen_of_block h 0, Joins.unfrozen_of_block h 1, Joins.unfrozen_of_block h 2, Joins.unfrozen_of_block h 3⟩
theorem new_at {w : World} {k : Nat} {o o' : Obj} (h : w.heap[k]? = some o) : (w.alloc o').heap[k]? = some o := blk_below (Joins.below_alloc1 w o') h
theorem new_top (w : World) (o : Obj) : (w.alloc o).heap[w.heap.size]? = some o := heap_alloc_new w o
theorem new_two (w : World) (o o' : Obj) : ((w.alloc o').alloc o).heap[w.heap.size + 1]? = some o := by
  have := heap_alloc_new (w.alloc o') o
  simp only [World.size_alloc] at this
  exact this

structure BlkAt (w W : World) (b : Nat) (ao : Option Addr) (n cap m C : Nat) (v mb bl i : Int) : Prop where
  d : DrS w W b ao n cap m (blkO 0 0 0 0)
  c : W.heap[C]? = some (blkO v mb bl i)
  gt : w.heap.size < C
  ne : C ≠ b
theorem BlkAt.below {w W W' : World} {b n cap m C : Nat} {ao : Option Addr} {v mb bl i : Int} (h : BlkAt w W b ao n cap m C v mb bl i) (hb : Below W.heap.size W W') : BlkAt w W' b ao n cap m C v mb bl i := ⟨h.d.below hb, blk_below hb h.c, h.gt, h.ne⟩
theorem BlkAt.more {w W : World} {b n cap m C : Nat} {ao : Option Addr} {v mb bl i : Int} (h : BlkAt w W b ao n cap m C v mb bl i) (o : Obj) : BlkAt w (W.alloc o) b ao n cap m C v mb bl i := h.below (Joins.below_alloc1 _ _)
theorem DrX.d {w W : World} {b n cap a m : Nat} {ao : Option Addr} {cd : Nat → Int} {seed : Int} {o : Obj} (h : DrX w W b ao n cap cd a seed o) (hm : a ≤ m) : DrS w W b ao n cap m o := ⟨h.s.k hm, h.k, h.r⟩
theorem BlkAt.top {w W : World} {b n cap m : Nat} {ao : Option Addr} {v mb bl i : Int} (h : DrS w W b ao n cap m (blkO 0 0 0 0)) (hb : b < w.heap.size) : BlkAt w (W.alloc (blkO v mb bl i)) b ao n cap m W.heap.size v mb bl i :=
  have hg : w.heap.size < W.heap.size := blk_lt h.r
  ⟨h.below (Joins.below_alloc1 _ _), new_top _ _, hg, by omega⟩
theorem BlkAt.two {w W : World} {b n cap m : Nat} {ao : Option Addr} {v mb bl i : Int} (h : DrS w W b ao n cap m (blkO 0 0 0 0)) (hb : b < w.heap.size) (o : Obj) : BlkAt w ((W.alloc o).alloc (blkO v mb bl i)) b ao n cap m (W.heap.size + 1) v mb bl i := by
  have := BlkAt.top (v := v) (mb := mb) (bl := bl) (i := i) (h.below (Joins.below_alloc1 W o)) hb
  simp only [World.size_alloc] at this
  exact this
theorem DrS.set {w W : World} {b n cap m C : Nat} {ao : Option Addr} {o : Obj} (h : DrS w W b ao n cap m o) (h0 : ∃ m0, SrcK w b ao n cap m0) (hb : b < w.heap.size) (hC : w.heap.size < C) (j : Nat) (x : Value) : DrS w (W.setCell ⟨C, j, none⟩ x) b ao n cap m o := by
  obtain ⟨m0, h0⟩ := h0
  have hk : Keep (fun k => k = C) W (W.setCell ⟨C, j, none⟩ x) := (Keep.refl (fun k => k = C) W).setCell (p := ⟨C, j, none⟩) rfl _
  have hw := keep_new h.k hk (fun k e => .inl (by omega))
  exact ⟨h0.other h.s hw hk (by omega), hw, blk_keep hk (by omega) h.r⟩
theorem BlkAt.set {w W : World} {b n cap m C : Nat} {ao : Option Addr} {v mb bl i : Int} (h : DrS w W b ao n cap m (blkO 0 0 0 0)) (h0 : ∃ m0, SrcK w b ao n cap m0) (hb : b < w.heap.size) (hc : W.heap[C]? = some (blkO 0 0 0 0)) (hC : w.heap.size < C) :
    BlkAt w ((((W.setCell ⟨C, 0, none⟩ (.int .i64 v)).setCell ⟨C, 1, none⟩ (.int .i64 mb)).setCell ⟨C, 2, none⟩ (.int .i64 bl)).setCell ⟨C, 3, none⟩ (.int .i64 i)) b ao n cap m C v mb bl i :=
  ⟨(((h.set h0 hb hC 0 _).set h0 hb hC 1 _).set h0 hb hC 2 _).set h0 hb hC 3 _, set_block (i := 3) (set_block (i := 2) (set_block (i := 1) (set_block (i := 0) hc _) _) _) _, hC, by omega⟩
theorem BlkAt.src {w W W' : World} {b n cap m m' C : Nat} {ao : Option Addr} {v mb bl i : Int} (h : BlkAt w W b ao n cap m C v mb bl i) (hb : b < w.heap.size) (hs : SrcK W' b ao n cap m') (hk : Keep (fun k => k = b) W W') : BlkAt w W' b ao n cap m' C v mb bl i :=
  ⟨h.d.src hb hs hk, blk_keep hk h.ne h.c, h.gt, h.ne⟩
theorem BlkAt.bal {w W : World} {b n cap m C : Nat} {ao : Option Addr} {v mb bl i : Int} (h : BlkAt w W b ao n cap m C v mb bl i) (h0 : ∃ m0, SrcK w b ao n cap m0) (hb : b < w.heap.size) (x : Int) : BlkAt w (W.setCell ⟨C, 2, none⟩ (.int .i64 x)) b ao n cap m C v mb x i :=
  ⟨h.d.set h0 hb h.gt 2 _, set_block (i := 2) h.c _, h.gt, h.ne⟩
theorem BlkAt.inp {w W : World} {b n cap m C : Nat} {ao : Option Addr} {v mb bl i : Int} (h : BlkAt w W b ao n cap m C v mb bl i) (h0 : ∃ m0, SrcK w b ao n cap m0) (hb : b < w.heap.size) (x : Int) : BlkAt w (W.setCell ⟨C, 3, none⟩ (.int .i64 x)) b ao n cap m C v mb bl x :=
  ⟨h.d.set h0 hb h.gt 3 _, set_block (i := 3) h.c _, h.gt, h.ne⟩
theorem DrS.end4 {w W : World} {b : Nat} {ao : Option Addr} {n cap m : Nat} {o : Obj} (h : DrS w W b ao n cap m o) (hb : b < w.heap.size) (hm0 : ∃ m0, SrcK w b ao n cap m0) (u v x y : Value) :
    SrcK ((((W.setCell ⟨w.heap.size, 0, none⟩ u).setCell ⟨w.heap.size, 1, none⟩ v).setCell ⟨w.heap.size, 2, none⟩ x).setCell ⟨w.heap.size, 3, none⟩ y) b ao n cap m ∧ Keep (fun k => k = b) w ((((W.setCell ⟨w.heap.size, 0, none⟩ u).setCell ⟨w.heap.size, 1, none⟩ v).setCell ⟨w.heap.size, 2, none⟩ x).setCell ⟨w.heap.size, 3, none⟩ y) := by
  obtain ⟨m0, h1⟩ := hm0
  have hk : Keep (fun k => k = w.heap.size) W ((((W.setCell ⟨w.heap.size, 0, none⟩ u).setCell ⟨w.heap.size, 1, none⟩ v).setCell ⟨w.heap.size, 2, none⟩ x).setCell ⟨w.heap.size, 3, none⟩ y) := ((((Keep.refl (fun k => k = w.heap.size) W).setCell (p := ⟨w.heap.size, 0, none⟩) rfl _).setCell (p := ⟨w.heap.size, 1, none⟩) rfl _).setCell (p := ⟨w.heap.size, 2, none⟩) rfl _).setCell (p := ⟨w.heap.size, 3, none⟩) rfl _
  have hw := keep_new h.k hk (fun k e => .inl (by omega))
  exact ⟨h1.other h.s hw hk (by omega), hw⟩

end Go.Proofs.YtefnapcegeojoaaGreatDoor

namespace Go.Proofs.YtefnapcegeojoaaGreatDoor
open Go.RowKit
set_option linter.unusedVariables false
set_option maxRecDepth 100000

set_option maxHeartbeats 12800000 in
theorem block_0 (b : Nat) (ao : Option Addr) (n cap a : Nat) (cd : Nat → Int) (seed : Int) (m : Nat) (w : World) (ha : a ≤ m) (hm : m ≤ 800000) (hn : n ≤ 1048576) (hs : SrcX w b ao n cap cd a seed) (q1 q3 : Int) (hq1 : srcV cd n a seed % 3 = q1) (hq2 : srcV cd n (a + 1) (srcN cd n a seed) % 2 = 0) (hq3 : srcV cd n (a + 1 + 1) (srcN cd n (a + 1) (srcN cd n a seed)) % 12 = q3) :
    Calls Tryz.prog 69 #[.pointer (some ⟨b, 0, none⟩)] w fun e w' => ∃ v mb bl i : Int, e = .returned (blkV v mb bl i) ∧ (0 ≤ v ∧ v ≤ 2) ∧ (0 ≤ mb ∧ mb ≤ 11) ∧ (0 ≤ bl ∧ bl ≤ mb) ∧ (0 ≤ i ∧ i ≤ 8) ∧ (bl = 0 → i = 0) ∧ SrcK w' b ao n cap (m + 15) ∧ Keep (fun j => j = b) w w' := by
  have hlt := hs.lt
  have HS : Hid (∃ m0, SrcK w b ao n cap m0) := hide ⟨m, hs.k ha⟩
  have D0 : Hid (DrX w (w.alloc (.cells #[.int .i64 0, .int .i64 0, .int .i64 0, .int .i64 0] 96)) b ao n cap cd a seed (blkO 0 0 0 0)) := hide ⟨hs.below (Joins.below_alloc1 _ _), Keep.of_below (Joins.below_alloc1 _ _), heap_alloc_new w _⟩
  have HQ1 := hide hq1
  have HQ2 := hide hq2
  have q10 : 0 ≤ q1 ∧ q1 < 3 := by rw [← hq1]; exact srcV_mod (by omega)
  have q30 : 0 ≤ q3 ∧ q3 < 12 := by rw [← hq3]; exact srcV_mod (by omega)
  have HQ3 := hide hq3
  clear hs hq1 hq2 hq3
  go_enter Tryz.func69, Tryz.ntmps69
  go_upto_region 1 with fail
  revert D0
  generalize w.alloc (.cells #[.int .i64 0, .int .i64 0, .int .i64 0, .int .i64 0] 96) = W0
  intro D0
  go_cut [3] from 4 to 13 (fun c wx => ∃ C : Nat, c = .pointer (some ⟨C, 0, none⟩) ∧ Hid (BlkAt w wx b ao n cap (m + 3) C 0 q3 0 0))
  case first =>
    have r0 : W0.cell? ⟨w.heap.size, 0, none⟩ = some (.int .i64 0) := by rw [Joins.cell_of_block (unhide D0).r]; rfl
    have n0 : W0.heap.size ≠ w.heap.size := World.new_ne W0 ⟨w.heap.size, 0, none⟩ r0
    have hb0 := (unhide D0).s.lt
    have nb0 : W0.heap.size ≠ b := by omega
    have gt0 : w.heap.size < W0.heap.size := blk_lt (unhide D0).r
    go_region_with (first
      | (go_at_call_of 105 (Value.int IntKind.i64 3); refine (next_x b ao n cap a cd seed 3 _ (by omega) (by omega) (by omega) hn ?_).mono ?_; (first | exact (unhide D0).s.below ((Below.refl _ _).drew) | exact ((unhide D0).s.below ((Below.refl _ _).drew)).below (Joins.below_alloc1 _ _)); rintro e w1 ⟨rfl, hs1, hk1⟩; rw [unhide HQ1]; have D1 := hide (DrX.src (DrX.below (unhide D0) (by first | exact (Below.refl _ _).drew | exact fr ((Below.refl _ _).drew) (Joins.below_alloc1 _ _))) hlt hs1 hk1); have hb1 := hs1.lt; have r1 : w1.cell? ⟨w.heap.size, 0, none⟩ = some (.int .i64 0) := (by rw [Joins.cell_of_block (unhide D1).r]; rfl); have n1 : w1.heap.size ≠ w.heap.size := World.new_ne w1 ⟨w.heap.size, 0, none⟩ r1; have nb1 : w1.heap.size ≠ b := (by omega); have nb1p : w1.heap.size + 1 ≠ b := (by omega); (first | (have hX : Keep (fun k => k = b) (W0.alloc (blkO 0 0 0 0)).drew w1 := (by with_reducible exact hk1); have C1 := hide (blk_keep hX nb0 (new_top W0 (blkO 0 0 0 0))); clear hX) | skip); clear hs1 hk1)
      | (go_at_call_of 105 (Value.int IntKind.i64 2); refine (next_x b ao n cap (a + 1) cd (srcN cd n a seed) 2 _ (by omega) (by omega) (by omega) hn ?_).mono ?_; (first | exact (unhide D1).s | exact (unhide D1).s.below (Joins.below_alloc1 _ _) | exact (unhide D1).s.below (Joins.below_alloc2 _ _ _)); rintro e w2 ⟨rfl, hs2, hk2⟩; rw [unhide HQ2]; have D2 := hide (DrX.src (DrX.below (unhide D1) (by first | exact Below.refl _ _ | exact Joins.below_alloc1 _ _ | exact Joins.below_alloc2 _ _ _)) hlt hs2 hk2); have hb2 := hs2.lt; have r2 : w2.cell? ⟨w.heap.size, 0, none⟩ = some (.int .i64 0) := (by rw [Joins.cell_of_block (unhide D2).r]; rfl); have n2 : w2.heap.size ≠ w.heap.size := World.new_ne w2 ⟨w.heap.size, 0, none⟩ r2; have nb2 : w2.heap.size ≠ b := (by omega); have nb2p : w2.heap.size + 1 ≠ b := (by omega); (first | (have hX : Keep (fun k => k = b) w1 w2 := (by with_reducible exact hk2); (first | (have C2 : Hid (w2.heap[W0.heap.size]? = some (blkO 0 0 0 0)) := (by with_reducible exact hide (blk_keep hX nb0 (unhide C1))); obtain ⟨c20, c21, c22, c23, f20, f21, f22, f23⟩ := blk_cells (unhide C2); have lC2 : W0.heap.size < w2.heap.size := blk_lt (unhide C2)) | skip); skip) | (have hX : Keep (fun k => k = b) (w1.alloc (twoO 0 q1)) w2 := (by with_reducible exact hk2); have G2 := hide (blk_keep hX nb1 (new_top w1 _)); have g2 : w2.cell? ⟨w1.heap.size, 0, none⟩ = some (.int .i64 0) := (by rw [Joins.cell_of_block (unhide G2)]; rfl); have lG2 : w1.heap.size < w2.heap.size := blk_lt (unhide G2); (first | (have C2 : Hid (w2.heap[W0.heap.size]? = some (blkO 0 0 0 0)) := (by with_reducible exact hide (blk_keep hX nb0 (new_at (unhide C1)))); obtain ⟨c20, c21, c22, c23, f20, f21, f22, f23⟩ := blk_cells (unhide C2); have lC2 : W0.heap.size < w2.heap.size := blk_lt (unhide C2)) | skip)) | (have hX : Keep (fun k => k = b) (w1.alloc (blkO 0 0 0 0)) w2 := (by with_reducible exact hk2); have C2 := hide (blk_keep hX nb1 (new_top w1 _)); obtain ⟨c20, c21, c22, c23, f20, f21, f22, f23⟩ := blk_cells (unhide C2); have lC2 : w1.heap.size < w2.heap.size := blk_lt (unhide C2); skip) | (have hX : Keep (fun k => k = b) ((w1.alloc (twoO 0 q1)).alloc (blkO 0 0 0 0)) w2 := (by with_reducible exact hk2); have G2 := hide (blk_keep hX nb1 (new_at (new_top w1 _))); have g2 : w2.cell? ⟨w1.heap.size, 0, none⟩ = some (.int .i64 0) := (by rw [Joins.cell_of_block (unhide G2)]; rfl); have lG2 : w1.heap.size < w2.heap.size := blk_lt (unhide G2); have C2 := hide (blk_keep hX nb1p (new_two w1 _ _)); obtain ⟨c20, c21, c22, c23, f20, f21, f22, f23⟩ := blk_cells (unhide C2); have lC2 : w1.heap.size + 1 < w2.heap.size := blk_lt (unhide C2)) | (have hX : Keep (fun k => k = b) ((w1.alloc (blkO 0 0 0 0)).alloc (twoO 0 q1)) w2 := (by with_reducible exact hk2); have C2 := hide (blk_keep hX nb1 (new_at (new_top w1 _))); obtain ⟨c20, c21, c22, c23, f20, f21, f22, f23⟩ := blk_cells (unhide C2); have lC2 : w1.heap.size < w2.heap.size := blk_lt (unhide C2); have G2 := hide (blk_keep hX nb1p (new_two w1 _ _)); have g2 : w2.cell? ⟨w1.heap.size + 1, 0, none⟩ = some (.int .i64 0) := (by rw [Joins.cell_of_block (unhide G2)]; rfl); have lG2 : w1.heap.size + 1 < w2.heap.size := blk_lt (unhide G2))); clear hs2 hk2 hX)
      | (go_at_call_of 105 (Value.int IntKind.i64 12); refine (next_x b ao n cap (a + 1 + 1) cd (srcN cd n (a + 1) (srcN cd n a seed)) 12 _ (by omega) (by omega) (by omega) hn ?_).mono ?_; (first | exact (unhide D2).s | exact (unhide D2).s.below (Joins.below_alloc1 _ _) | exact (unhide D2).s.below (Joins.below_alloc2 _ _ _)); rintro e w3 ⟨rfl, hs3, hk3⟩; rw [unhide HQ3]; have D3 := hide (DrX.src (DrX.below (unhide D2) (by first | exact Below.refl _ _ | exact Joins.below_alloc1 _ _ | exact Joins.below_alloc2 _ _ _)) hlt hs3 hk3); have hb3 := hs3.lt; have r3 : w3.cell? ⟨w.heap.size, 0, none⟩ = some (.int .i64 0) := (by rw [Joins.cell_of_block (unhide D3).r]; rfl); have n3 : w3.heap.size ≠ w.heap.size := World.new_ne w3 ⟨w.heap.size, 0, none⟩ r3; have nb3 : w3.heap.size ≠ b := (by omega); have nb3p : w3.heap.size + 1 ≠ b := (by omega); (first | (have hX : Keep (fun k => k = b) w2 w3 := (by with_reducible exact hk3); (first | (have C3 : Hid (w3.heap[W0.heap.size]? = some (blkO 0 0 0 0)) := (by with_reducible exact hide (blk_keep hX nb0 (unhide C2))); obtain ⟨c30, c31, c32, c33, f30, f31, f32, f33⟩ := blk_cells (unhide C3); have lC3 : W0.heap.size < w3.heap.size := blk_lt (unhide C3)) | (have C3 : Hid (w3.heap[w1.heap.size]? = some (blkO 0 0 0 0)) := (by with_reducible exact hide (blk_keep hX nb1 (unhide C2))); obtain ⟨c30, c31, c32, c33, f30, f31, f32, f33⟩ := blk_cells (unhide C3); have lC3 : w1.heap.size < w3.heap.size := blk_lt (unhide C3)) | (have C3 : Hid (w3.heap[w1.heap.size + 1]? = some (blkO 0 0 0 0)) := (by with_reducible exact hide (blk_keep hX nb1p (unhide C2))); obtain ⟨c30, c31, c32, c33, f30, f31, f32, f33⟩ := blk_cells (unhide C3); have lC3 : w1.heap.size + 1 < w3.heap.size := blk_lt (unhide C3)) | skip); (first | (have G3 : Hid (w3.heap[w1.heap.size]? = some (twoO 0 q1)) := (by with_reducible exact hide (blk_keep hX nb1 (unhide G2))); have g3 : w3.cell? ⟨w1.heap.size, 0, none⟩ = some (.int .i64 0) := (by rw [Joins.cell_of_block (unhide G3)]; rfl); have lG3 : w1.heap.size < w3.heap.size := blk_lt (unhide G3)) | (have G3 : Hid (w3.heap[w1.heap.size + 1]? = some (twoO 0 q1)) := (by with_reducible exact hide (blk_keep hX nb1p (unhide G2))); have g3 : w3.cell? ⟨w1.heap.size + 1, 0, none⟩ = some (.int .i64 0) := (by rw [Joins.cell_of_block (unhide G3)]; rfl); have lG3 : w1.heap.size + 1 < w3.heap.size := blk_lt (unhide G3)) | skip)) | (have hX : Keep (fun k => k = b) (w2.alloc (twoO 0 q1)) w3 := (by with_reducible exact hk3); have G3 := hide (blk_keep hX nb2 (new_top w2 _)); have g3 : w3.cell? ⟨w2.heap.size, 0, none⟩ = some (.int .i64 0) := (by rw [Joins.cell_of_block (unhide G3)]; rfl); have lG3 : w2.heap.size < w3.heap.size := blk_lt (unhide G3); (first | (have C3 : Hid (w3.heap[W0.heap.size]? = some (blkO 0 0 0 0)) := (by with_reducible exact hide (blk_keep hX nb0 (new_at (unhide C2)))); obtain ⟨c30, c31, c32, c33, f30, f31, f32, f33⟩ := blk_cells (unhide C3); have lC3 : W0.heap.size < w3.heap.size := blk_lt (unhide C3)) | (have C3 : Hid (w3.heap[w1.heap.size]? = some (blkO 0 0 0 0)) := (by with_reducible exact hide (blk_keep hX nb1 (new_at (unhide C2)))); obtain ⟨c30, c31, c32, c33, f30, f31, f32, f33⟩ := blk_cells (unhide C3); have lC3 : w1.heap.size < w3.heap.size := blk_lt (unhide C3)) | (have C3 : Hid (w3.heap[w1.heap.size + 1]? = some (blkO 0 0 0 0)) := (by with_reducible exact hide (blk_keep hX nb1p (new_at (unhide C2)))); obtain ⟨c30, c31, c32, c33, f30, f31, f32, f33⟩ := blk_cells (unhide C3); have lC3 : w1.heap.size + 1 < w3.heap.size := blk_lt (unhide C3)) | skip)) | (have hX : Keep (fun k => k = b) (w2.alloc (blkO 0 0 0 0)) w3 := (by with_reducible exact hk3); have C3 := hide (blk_keep hX nb2 (new_top w2 _)); obtain ⟨c30, c31, c32, c33, f30, f31, f32, f33⟩ := blk_cells (unhide C3); have lC3 : w2.heap.size < w3.heap.size := blk_lt (unhide C3); (first | (have G3 : Hid (w3.heap[w1.heap.size]? = some (twoO 0 q1)) := (by with_reducible exact hide (blk_keep hX nb1 (new_at (unhide G2)))); have g3 : w3.cell? ⟨w1.heap.size, 0, none⟩ = some (.int .i64 0) := (by rw [Joins.cell_of_block (unhide G3)]; rfl); have lG3 : w1.heap.size < w3.heap.size := blk_lt (unhide G3)) | (have G3 : Hid (w3.heap[w1.heap.size + 1]? = some (twoO 0 q1)) := (by with_reducible exact hide (blk_keep hX nb1p (new_at (unhide G2)))); have g3 : w3.cell? ⟨w1.heap.size + 1, 0, none⟩ = some (.int .i64 0) := (by rw [Joins.cell_of_block (unhide G3)]; rfl); have lG3 : w1.heap.size + 1 < w3.heap.size := blk_lt (unhide G3)) | skip)) | (have hX : Keep (fun k => k = b) ((w2.alloc (twoO 0 q1)).alloc (blkO 0 0 0 0)) w3 := (by with_reducible exact hk3); have G3 := hide (blk_keep hX nb2 (new_at (new_top w2 _))); have g3 : w3.cell? ⟨w2.heap.size, 0, none⟩ = some (.int .i64 0) := (by rw [Joins.cell_of_block (unhide G3)]; rfl); have lG3 : w2.heap.size < w3.heap.size := blk_lt (unhide G3); have C3 := hide (blk_keep hX nb2p (new_two w2 _ _)); obtain ⟨c30, c31, c32, c33, f30, f31, f32, f33⟩ := blk_cells (unhide C3); have lC3 : w2.heap.size + 1 < w3.heap.size := blk_lt (unhide C3)) | (have hX : Keep (fun k => k = b) ((w2.alloc (blkO 0 0 0 0)).alloc (twoO 0 q1)) w3 := (by with_reducible exact hk3); have C3 := hide (blk_keep hX nb2 (new_at (new_top w2 _))); obtain ⟨c30, c31, c32, c33, f30, f31, f32, f33⟩ := blk_cells (unhide C3); have lC3 : w2.heap.size < w3.heap.size := blk_lt (unhide C3); have G3 := hide (blk_keep hX nb2p (new_two w2 _ _)); have g3 : w3.cell? ⟨w2.heap.size + 1, 0, none⟩ = some (.int .i64 0) := (by rw [Joins.cell_of_block (unhide G3)]; rfl); have lG3 : w2.heap.size + 1 < w3.heap.size := blk_lt (unhide G3))); clear hs3 hk3 hX))
    all_goals
      have gt1 : w.heap.size < w1.heap.size := blk_lt (unhide D1).r
      have gt2 : w.heap.size < w2.heap.size := blk_lt (unhide D2).r
      have S3 := (unhide D3).d (show a + 1 + 1 + 1 ≤ m + 3 by omega)
      go_wp2_with fail
      go_meet
      first
        | (have E9 := hide (BlkAt.top (v := 0) (mb := q3) (bl := 0) (i := 0) S3 hlt); with_reducible exact ⟨_, rfl, E9⟩)
        | (have E9 := hide (BlkAt.two (v := 0) (mb := q3) (bl := 0) (i := 0) S3 hlt (twoO 0 q1)); with_reducible exact ⟨_, rfl, E9⟩)
        | (have E9 := hide ((BlkAt.top (v := 0) (mb := q3) (bl := 0) (i := 0) S3 hlt).more (twoO 0 q1)); with_reducible exact ⟨_, rfl, E9⟩)
        | (have E9 := hide (BlkAt.set (v := 0) (mb := q3) (bl := 0) (i := 0) S3 (unhide HS) hlt (unhide C3) (by first | exact gt0 | exact gt1 | exact gt2 | omega)); with_reducible exact ⟨_, rfl, E9⟩)
        | (have E9 := hide ((BlkAt.set (v := 0) (mb := q3) (bl := 0) (i := 0) S3 (unhide HS) hlt (unhide C3) (by first | exact gt0 | exact gt1 | exact gt2 | omega)).more (twoO 0 q1)); with_reducible exact ⟨_, rfl, E9⟩)
  case rest =>
    obtain ⟨C, rfl, E0⟩ := hcut
    clear D0 HQ1 HQ2 HQ3
    obtain ⟨x0, x1, x2, x3, y0, y1, y2, y3⟩ := blk_cells (unhide E0).c
    go_wp2_with fail
    refine (next_k b ao n cap (m + 3) (q3 + 1) _ (by omega) (by omega) (by omega) hn (unhide E0).d.s).mono ?_
    rintro e w5 ⟨bl, rfl, bl0, bl1, hs5, hk5⟩
    have E1 := hide ((unhide E0).src hlt hs5 hk5)
    clear hs5 hk5 E0 x0 x1 x2 x3 y0 y1 y2 y3
    obtain ⟨x0, x1, x2, x3, y0, y1, y2, y3⟩ := blk_cells (unhide E1).c
    have E2 := hide ((unhide E1).bal (unhide HS) hlt bl)
    by_cases hbl : 0 < bl
    · go_wp2_with fail
      revert E2
      generalize w5.setCell ⟨C, 2, none⟩ (.int .i64 bl) = W6
      intro E2
      refine (next_k b ao n cap (m + 3 + 3) 9 _ (by omega) (by omega) (by omega) hn (unhide E2).d.s).mono ?_
      rintro e w7 ⟨ip, rfl, ip0, ip1, hs7, hk7⟩
      have E3 := hide ((unhide E2).src hlt hs7 hk7)
      clear hs7 hk7 E1 E2 x0 x1 x2 x3 y0 y1 y2 y3
      obtain ⟨x0, x1, x2, x3, y0, y1, y2, y3⟩ := blk_cells (unhide E3).c
      have E4 := hide ((unhide E3).inp (unhide HS) hlt ip)
      obtain ⟨c0, c1, c2, c3, f0, f1, f2, f3⟩ := blk_cells (unhide E3).d.r
      obtain ⟨d0, d1, d2, d3, g0, g1, g2, g3⟩ := blk_cells (unhide E4).d.r
      obtain ⟨u0, u1, u2, u3, v0, v1, v2, v3⟩ := blk_cells (unhide E4).c
      have hne : C ≠ w.heap.size := by have := (unhide E4).gt; omega
      have hne' := hne.symm
      have HE := hide (fun p q r t => DrS.end4 (unhide E4).d hlt (unhide HS) p q r t)
      go_wp2
      exact bodyPost_ret (v := blkV 0 q3 bl ip) (by simp [results, Tryz.results69, go_sem, *]) rfl ⟨0, q3, bl, ip, rfl, by omega, by omega, by omega, by omega, by omega, (unhide HE _ _ _ _).1.more (by omega), (unhide HE _ _ _ _).2⟩
    · have hb0 : bl = 0 := by omega
      subst hb0
      obtain ⟨c0, c1, c2, c3, f0, f1, f2, f3⟩ := blk_cells (unhide E1).d.r
      have hne : C ≠ w.heap.size := by have := (unhide E2).gt; omega
      have hne' := hne.symm
      have HE := hide (fun p q r t => DrS.end4 (unhide E2).d hlt (unhide HS) p q r t)
      go_wp2
      exact bodyPost_ret (v := blkV 0 q3 0 0) (by simp [results, Tryz.results69, go_sem, *]) rfl ⟨0, q3, 0, 0, rfl, by omega, by omega, by omega, by omega, fun _ => rfl, (unhide HE _ _ _ _).1.more (by omega), (unhide HE _ _ _ _).2⟩

end Go.Proofs.YtefnapcegeojoaaGreatDoor
