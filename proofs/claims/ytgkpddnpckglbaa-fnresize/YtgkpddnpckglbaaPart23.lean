import Derived.Test.YtgkpddnpckglbaaRows
import Derived.Test.YtgkpddnpckglbaaPart1
import Derived.Test.YtgkpddnpckglbaaPart2
import Derived.Test.YtgkpddnpckglbaaPart4
import Derived.Test.YtgkpddnpckglbaaPart22
import Derived.Test.YtgkpddnpckglbaaPart5
import Derived.WalkKit
import Derived.WalkSpells
import Derived.KernelRfl
import Derived.LoopN
import Derived.BigQuiet
import Derived.Deep.QuietTactic
import Derived.Test.YtgkpddnpckglbaaPart14
import Derived.Test.YtgkpddnpckglbaaImRz
import Derived.Test.YtgkpddnpckglbaaPart16
import Derived.Test.YtgkpddnpckglbaaPart18
import Derived.Test.YtgkpddnpckglbaaPart19
import Derived.Test.YtgkpddnpckglbaaPart21
import Derived.Test.YtgkpddnpckglbaaPart3
import Derived.Deep.RegionWith
import Derived.Outline
import Derived.Test.YtgkpddnpckglbaaPart7
import Derived.Deep.RegionLawGrows
import Derived.Deep.RegionHeld3
import Derived.Deep.AppendLies

/- Contract of the laws' sameImage of images that are alike. -/
namespace Go.Proofs.Ytgkpddnpckglbaa
open Go.RowKit
set_option linter.unusedVariables false
set_option maxRecDepth 100000

theorem sameInts_same (ao bo : Option Addr) (ca cb : Nat) (xs : List Int) (w : World) (hl : xs.length ≤ maxLen) (hc : Is w ao xs) (hd : Is w bo xs) :
    Calls Try.prog 37 #[.slice ao xs.length ca, .slice bo xs.length cb] w fun e w' => e = .returned (.bool true) ∧ Below w.heap.size w w' := by
  refine (sameInts_any ao bo ca cb xs xs w hl hc hd).mono ?_
  rintro e w' ⟨rfl, hb⟩
  rw [eqNB_self]
  exact ⟨rfl, hb⟩

set_option maxHeartbeats 800000 in
theorem sameInts_draws (ao bo : Option Addr) (ca cb : Nat) (ss : List Int) (w : World) (hl : ss.length ≤ maxLen) (hc : Is w ao ss) (hd : Is w bo ss) :
    Calls Try.prog 37 #[.slice ao ss.length ca, .slice bo ss.length cb] w fun e w' => e = .returned (.bool true) ∧ ∃ m, w' = w.drewN m := by
  have HC := hide hc
  have HD := hide hd
  clear hc hd
  unfold maxLen at hl
  have hb : ((ss.length : Int) != (ss.length : Int)) = false := by simp
  go_enter Try.func37, Try.ntmps37
  go_wp2
  go_loopw [5] (fun i wr => ∃ (k n : Nat), k ≤ ss.length ∧ i = .int .i64 k ∧ wr = w.drewN n) (fun i _ => ss.length - (intOf i).toNat)
  case atStart => exact ⟨0, 0, Nat.zero_le _, rfl, rfl⟩
  case round =>
    obtain ⟨k, n, hk, rfl, rfl⟩ := hrel
    by_cases hlt : k < ss.length
    · obtain ⟨b, off, rfl, hc⟩ := (unhide HC) k hlt
      obtain ⟨b', off', rfl, hc'⟩ := (unhide HD) k hlt
      generalize ss[k] = X at *
      go_wp2
      go_quiet (fail)
      go_wp2
      go_roundw
      case rel => exact ⟨k + 1, _, by omega, by go_num, rfl⟩
      case measure => simp [intOf]; omega
    · go_wp2
      go_ret
      exact ⟨rfl, n, rfl⟩

set_option maxHeartbeats 3200000 in
theorem sameImage_same (a b : Im4) (m : Img) (w : World) (hr : m.refs.length ≤ maxLen) (ht : m.table.length ≤ maxLen) (hs : m.snaps.length ≤ maxLen) (hd : m.data.length ≤ maxLen) (h1 : ImS w a m) (h2 : ImS w b m) :
    Calls Try.prog 13 #[imV a m, imV b m] w fun e w' => e = .returned (.bool true) ∧ Below w.heap.size w w' := by
  have HA := hide (Joins.below_alloc2 w (.cells #[.slice a.ro m.refs.length a.rc, .slice a.tq m.table.length a.tc, .slice a.so m.snaps.length a.sc, .slice a.dq m.data.length a.dc] 26) (.cells #[.slice b.ro m.refs.length b.rc, .slice b.tq m.table.length b.tc, .slice b.so m.snaps.length b.sc, .slice b.dq m.data.length b.dc] 26))
  have HV : Hid (((w.alloc (.cells #[.slice a.ro m.refs.length a.rc, .slice a.tq m.table.length a.tc, .slice a.so m.snaps.length a.sc, .slice a.dq m.data.length a.dc] 26)).alloc (.cells #[.slice b.ro m.refs.length b.rc, .slice b.tq m.table.length b.tc, .slice b.so m.snaps.length b.sc, .slice b.dq m.data.length b.dc] 26)).heap[w.heap.size]? = some (.cells #[.slice a.ro m.refs.length a.rc, .slice a.tq m.table.length a.tc, .slice a.so m.snaps.length a.sc, .slice a.dq m.data.length a.dc] 26 (0, 0))) := hide (by rw [(Joins.below_alloc1 _ _).block _ (by simp)]; exact heap_alloc_new w _)
  have HU : Hid (((w.alloc (.cells #[.slice a.ro m.refs.length a.rc, .slice a.tq m.table.length a.tc, .slice a.so m.snaps.length a.sc, .slice a.dq m.data.length a.dc] 26)).alloc (.cells #[.slice b.ro m.refs.length b.rc, .slice b.tq m.table.length b.tc, .slice b.so m.snaps.length b.sc, .slice b.dq m.data.length b.dc] 26)).heap[w.heap.size + 1]? = some (.cells #[.slice b.ro m.refs.length b.rc, .slice b.tq m.table.length b.tc, .slice b.so m.snaps.length b.sc, .slice b.dq m.data.length b.dc] 26 (0, 0))) := hide (heap_alloc2_new w _ _)
  have H1 := hide (h1.below (unhide HA))
  have H2 := hide (h2.below (unhide HA))
  have HR := hide hr
  have HT := hide ht
  have HS := hide hs
  have HD := hide hd
  clear h1 h2 hr ht hs hd
  go_enter Try.func13, Try.ntmps13
  go_upto_region 1 with fail
  revert HA HV HU H1 H2
  generalize ((w.alloc _).alloc _) = W0
  intro HA HV HU H1 H2
  have HCELL : Hid (∀ W, Below W0.heap.size W0 W → (W.cell? ⟨w.heap.size, 0, none⟩ = some (.slice a.ro m.refs.length a.rc) ∧ W.cell? ⟨w.heap.size, 1, none⟩ = some (.slice a.tq m.table.length a.tc) ∧ W.cell? ⟨w.heap.size, 2, none⟩ = some (.slice a.so m.snaps.length a.sc) ∧ W.cell? ⟨w.heap.size, 3, none⟩ = some (.slice a.dq m.data.length a.dc)) ∧ W.cell? ⟨w.heap.size + 1, 0, none⟩ = some (.slice b.ro m.refs.length b.rc) ∧ W.cell? ⟨w.heap.size + 1, 1, none⟩ = some (.slice b.tq m.table.length b.tc) ∧ W.cell? ⟨w.heap.size + 1, 2, none⟩ = some (.slice b.so m.snaps.length b.sc) ∧ W.cell? ⟨w.heap.size + 1, 3, none⟩ = some (.slice b.dq m.data.length b.dc)) := hide (fun W hW => by
    have n1 := (hW.block w.heap.size (Array.getElem?_eq_some_iff.1 (unhide HV)).1).trans (unhide HV)
    have n2 := (hW.block (w.heap.size + 1) (Array.getElem?_eq_some_iff.1 (unhide HU)).1).trans (unhide HU)
    refine ⟨⟨?_, ?_, ?_, ?_⟩, ?_, ?_, ?_, ?_⟩ <;> first | (rw [Joins.cell_of_block n1]; rfl) | (rw [Joins.cell_of_block n2]; rfl))
  have HVV : Hid (∀ W, Below W0.heap.size W0 W → VarM W w.heap.size 26 (.slice a.ro m.refs.length a.rc) (.slice a.tq m.table.length a.tc) (.slice a.so m.snaps.length a.sc) (.slice a.dq m.data.length a.dc) ∧ VarM W (w.heap.size + 1) 26 (.slice b.ro m.refs.length b.rc) (.slice b.tq m.table.length b.tc) (.slice b.so m.snaps.length b.sc) (.slice b.dq m.data.length b.dc)) := hide (fun W hW => ⟨VarM.below (unhide HV) hW, VarM.below (unhide HU) hW⟩)
  clear HV HU
  obtain ⟨⟨c0, c1, c2, c3⟩, d0, d1, d2, d3⟩ := unhide HCELL _ (Below.refl _ W0)
  go_wp2_with fail
  refine (sameInts_same a.ro b.ro a.rc b.rc m.refs _ (unhide HR) (unhide H1).r (unhide H2).r).mono ?_
  rintro e w1 ⟨rfl, hb⟩
  have HB1 := hide hb
  clear hb c0 c1 c2 c3 d0 d1 d2 d3
  obtain ⟨⟨c0, c1, c2, c3⟩, d0, d1, d2, d3⟩ := unhide HCELL _ (unhide HB1)
  go_wp2_with fail
  refine (sameInts_same a.tq b.tq a.tc b.tc m.table _ (unhide HT) ((unhide H1).below (unhide HB1)).t ((unhide H2).below (unhide HB1)).t).mono ?_
  rintro e w2 ⟨rfl, hb⟩
  have HB2 := hide (fr (unhide HB1) hb)
  clear hb c0 c1 c2 c3 d0 d1 d2 d3
  obtain ⟨⟨c0, c1, c2, c3⟩, d0, d1, d2, d3⟩ := unhide HCELL _ (unhide HB2)
  go_wp2_with fail
  refine (sameInts_same a.dq b.dq a.dc b.dc m.data _ (unhide HD) ((unhide H1).below (unhide HB2)).d ((unhide H2).below (unhide HB2)).d).mono ?_
  rintro e w3 ⟨rfl, hb⟩
  have HB3 := hide (fr (unhide HB2) hb)
  clear hb c0 c1 c2 c3 d0 d1 d2 d3
  obtain ⟨⟨c0, c1, c2, c3⟩, d0, d1, d2, d3⟩ := unhide HCELL _ (unhide HB3)
  have hsm := unhide HS
  unfold maxLen at hsm
  go_wp2
  clear c0 c1 c2 c3 d0 d1 d2 d3
  go_loopw [5] (fun i wr => ∃ k : Nat, k ≤ m.snaps.length ∧ i = .int .i64 k ∧ Hid (Below W0.heap.size W0 wr)) (fun i _ => m.snaps.length - (intOf i).toNat)
  case atStart => exact ⟨0, Nat.zero_le _, rfl, HB3⟩
  case round =>
    clear HB1 HB2 HB3
    obtain ⟨k, hk, rfl, HB⟩ := hrel
    obtain ⟨⟨c0, c1, c2, c3⟩, d0, d1, d2, d3⟩ := unhide HCELL _ (unhide HB)
    by_cases hlt : k < m.snaps.length
    · obtain ⟨b1, o1, q1, p1, e1, hn1, ht1, i1, _, hm1⟩ := ((unhide H1).below (unhide HB)).s k hlt
      obtain ⟨b2, o2, q2, p2, e2, hn2, ht2, i2, _, _⟩ := ((unhide H2).below (unhide HB)).s k hlt
      have hki : (k : Int) < (m.snaps.length : Int) := by omega
      have HI1 := hide i1
      have HI2 := hide i2
      have HML := hide hm1
      have l1 := World.block_lt_of_cell? _ _ hn1
      have l2 := World.block_lt_of_cell? _ _ hn2
      rw [e1] at c2
      rw [e2] at d2
      have hne : (m.snaps[k].name.toList != m.snaps[k].name.toList) = false := by simp
      have HCALL : Hid (∀ n, Calls Try.prog 37 #[.slice q1 m.snaps[k].table.length p1, .slice q2 m.snaps[k].table.length p2] (wr.drewN n) fun e w' => e = .returned (.bool true) ∧ ∃ m, w' = (wr.drewN n).drewN m) := hide (fun n => sameInts_draws q1 q2 p1 p2 m.snaps[k].table (wr.drewN n) (unhide HML) ((unhide HI1).below (Joins.below_draws _ _ _)) ((unhide HI2).below (Joins.below_draws _ _ _)))
      clear e1 e2 i1 i2 hm1
      generalize m.snaps[k].table.length = TL at *
      generalize m.snaps[k].name = NM at *
      go_upto_region 6 with fail
      go_quiet ((go_at_call 37; refine Calls.quiet_of (unhide HCALL _)))
      have HB5 : Hid (Below W0.heap.size W0 (wr.drewN nq)) := hide ((unhide HB).trans (Joins.below_draws _ _ _))
      clear c0 c1 c2 c3 d0 d1 d2 d3 hn1 ht1 hn2 ht2 HCALL
      go_wp2
      go_roundw
      case rel => exact ⟨k + 1, by omega, by go_num, HB5⟩
      case measure => simp [intOf]; omega
    · go_wp2
      go_ret
      exact ⟨rfl, fr (unhide HA) (unhide HB)⟩

end Go.Proofs.Ytgkpddnpckglbaa

/- What laws over right images carry along, and the program's and the model's calls at right images. -/
namespace Go.Proofs.Ytgkpddnpckglbaa
open Go.RowKit
set_option linter.unusedVariables false
set_option maxRecDepth 100000

/-- A variable with an image. -/
structure ImA (W : World) (y : Nat) (a : Im4) (m : Img) : Prop where
  v : VarM W y 26 (.slice a.ro m.refs.length a.rc) (.slice a.tq m.table.length a.tc) (.slice a.so m.snaps.length a.sc) (.slice a.dq m.data.length a.dc)
  s : ImS W a m
theorem ImA.below {W W' : World} {y : Nat} {a : Im4} {m : Img} (h : ImA W y a m) (hb : Below W.heap.size W W') : ImA W' y a m := ⟨h.v.below hb, h.s.below hb⟩
theorem ImA.new {W : World} {a : Im4} {m : Img} (h : ImS W a m) : ImA (W.alloc (.cells #[.slice a.ro m.refs.length a.rc, .slice a.tq m.table.length a.tc, .slice a.so m.snaps.length a.sc, .slice a.dq m.data.length a.dc] 26)) W.heap.size a m := ⟨VarM.new _ _ _ _ _ _, h.below (Joins.below_alloc1 _ _)⟩
theorem ImR.L {m : Img} (h : ImR m) : ImL m := h.M.L
theorem OwnIm.showsR {w : World} {B : Nat} {a : Im4} {m : Img} {ts : List Value} (h : OwnIm w B a m ts) (hi : ImR m) : ImS w a m := h.shows hi.M.zs

theorem rsA_right {m : Img} (h : ImR m) {q : Nat} (hq : q ≤ 12) : rsA' m (q : Int) = (imResize m q, 0) := by
  unfold rsA'
  rw [if_pos (imB_iff.2 h), if_pos (betw_iff.2 ⟨by omega, by omega⟩), Int.toNat_natCast]
theorem resizeA (a : Im4) (m X : Img) (q : Nat) (W : World) (h : ImR m) (hq : q ≤ 12) (hX : X = imResize m q) (hs : ImS W a m) :
    Calls Try.prog 11 #[imV a m, .int .i64 (q : Int)] W fun e w' => AnsI W w' e (X, 0) := by
  have := resizeImage_impl a m (q : Int) W h.L hs
  rw [rsA_right h hq, ← hX] at this
  exact this
theorem resizeS (a : Im4) (m X : Img) (q : Nat) (W : World) (h : ImR m) (hq : q ≤ 12) (hX : X = imResize m q) (hs : ImS W a m) :
    Calls Try.prog 12 #[imV a m, .int .i64 (q : Int)] W fun e w' => AnsI W w' e (X, 0) := by
  have := resizeImage_spec a m (q : Int) W h.L hs
  rw [rsA_right h hq, ← hX] at this
  exact this
theorem betw_tab {n g : Nat} (hg : g < n) : betw (g : Int) 0 ((n : Int) - 1) = true := betw_iff.2 ⟨by omega, by omega⟩
theorem zeroA (a : Im4) (m X : Img) (g : Nat) (W : World) (h : ImR m) (hg : g < m.table.length) (hX : X = imZero m g) (hs : ImS W a m) :
    Calls Try.prog 16 #[imV a m, .int .i64 (g : Int)] W fun e w' => AnsI W w' e (X, 0) := by
  have := zeroCluster_impl a m (g : Int) W h.L hs
  have e : zcA m (g : Int) = (X, 0) := by
    unfold zcA
    rw [if_pos (imB_iff.2 h), if_pos (betw_tab hg), Int.toNat_natCast, hX]
  rw [e] at this
  exact this
theorem readA (a : Im4) (m : Img) (g : Nat) (v : Int) (W : World) (h : ImR m) (hg : g < m.table.length) (hv : imAt m g = v) (hs : ImS W a m) :
    Calls Try.prog 15 #[imV a m, .int .i64 (g : Int)] W fun e w' => e = .returned (.tuple #[.int .i64 v, .int .i64 0]) ∧ Below W.heap.size W w' := by
  have := readCluster_impl a m (g : Int) W h.L hs
  have e : rcA m (g : Int) = (v, 0) := by
    unfold rcA
    rw [if_pos (imB_iff.2 h), if_pos (betw_tab hg), Int.toNat_natCast, ← hv]; rfl
  rw [e] at this
  exact this
theorem okA (a : Im4) (m : Img) (W : World) (h : ImR m) (hs : ImS W a m) :
    Calls Try.prog 14 #[imV a m] W fun e w' => e = .returned (.bool true) ∧ Below W.heap.size W w' := by
  have := imageOK_impl a m W h.L hs
  rw [imB_iff.2 h] at this
  exact this
theorem newA (q : Nat) (X : Img) (W : World) (hq : q ≤ 12) (hX : X = imNew q) :
    Calls Try.prog 17 #[.int .i64 (q : Int)] W fun e w' => AnsI W w' e (X, 0) := by
  have := newImage_impl (q : Int) W
  have e1 : niF (q : Int) = 0 := if_pos (betw_iff.2 ⟨by omega, by omega⟩)
  have e2 : niI (q : Int) = X := by unfold niI; rw [if_pos e1, Int.toNat_natCast, hX]
  rw [e1, e2] at this
  exact this
theorem sameA (a b : Im4) (m : Img) (W : World) (h : ImR m) (h1 : ImS W a m) (h2 : ImS W b m) :
    Calls Try.prog 13 #[imV a m, imV b m] W fun e w' => e = .returned (.bool true) ∧ Below W.heap.size W w' := sameImage_same a b m W h.L.r h.L.t h.L.s h.L.d h1 h2

end Go.Proofs.Ytgkpddnpckglbaa

/- What stays beside a source of choices; contract of spec.l00Source. -/
namespace Go.Proofs.Ytgkpddnpckglbaa
open Go.RowKit
set_option linter.unusedVariables false
set_option maxRecDepth 100000

theorem keep_cell {S : Nat → Prop} {w w' : World} {a : Addr} {v : Value} (hk : Keep S w w') (ha : ¬ S a.block) (h : w.cell? a = some v) : w'.cell? a = some v := by
  have hl := World.block_lt_of_cell? _ _ h
  rw [← h]
  unfold World.cell?
  simp only [hk.block a.block hl ha]
theorem keep_new {w w1 w2 : World} {b : Nat} {S : Nat → Prop} (h : Keep (fun k => k = b) w w1) (hk : Keep S w1 w2) (hs : ∀ k, S k → w.heap.size ≤ k ∨ k = b) : Keep (fun k => k = b) w w2 :=
  ⟨hk.os.trans h.os, hk.tape.trans h.tape, hk.output.trans h.output, Nat.le_trans h.size hk.size, fun k hl hn => (hk.block k (Nat.lt_of_lt_of_le hl h.size) (fun hS => by
    rcases hs k hS with h1 | h1
    · omega
    · exact hn h1)).trans (h.block k hl hn)⟩
theorem SrcK.other {w w1 w2 : World} {b : Nat} {ao : Option Addr} {n cap m m0 : Nat} {S : Nat → Prop} (h0 : SrcK w b ao n cap m0) (h : SrcK w1 b ao n cap m) (hw : Keep (fun k => k = b) w w2) (hk : Keep S w1 w2) (hs : ¬ S b) : SrcK w2 b ao n cap m := by
  obtain ⟨x0, y0, _, _, _, _, hblk0⟩ := h0.src
  obtain ⟨x, y, c0, c1, c2, c3, c4⟩ := h.src
  refine ⟨⟨x, y, c0, c1, c2, c3, ?_⟩, h0.bytes.keep hblk0 (fun z h => by cases h) hw⟩
  rw [hk.block b (Array.getElem?_eq_some_iff.1 c4).1 hs]; exact c4

theorem source_any (ao : Option Addr) (n cap : Nat) (w : World) (hn : n ≤ 1048576) (hB : Bs w ao n) :
    Calls Try.prog 29 #[.slice ao n cap] w fun e w' => e = .returned (.pointer (some ⟨w.heap.size, 0, none⟩)) ∧ SrcK w' w.heap.size ao n cap 0 ∧ Below w.heap.size w w' ∧ w'.heap.size = w.heap.size + 1 := by
  go_enter Try.func29, Try.ntmps29
  go_wp2
  go_ret
  exact ⟨rfl, ⟨⟨0, (n : Int) % 1000, by omega, by omega, by omega, by omega, heap_alloc_new w _⟩, hB.below (Joins.below_alloc1 _ _)⟩, Joins.below_alloc1 _ _, by simp⟩

theorem keep_drop {w w' : World} {b : Nat} (h : Keep (fun k => k = b ∨ w.heap.size ≤ k) w w') : Keep (fun k => k = b) w w' :=
  ⟨h.os, h.tape, h.output, h.size, fun k hl hn => h.block k hl (fun e => by
    rcases e with e | e
    · exact hn e
    · omega)⟩
theorem blk_keep {S : Nat → Prop} {w w' : World} {k : Nat} {o : Obj} (hk : Keep S w w') (hs : ¬ S k) (h : w.heap[k]? = some o) : w'.heap[k]? = some o := by
  rw [hk.block k (Array.getElem?_eq_some_iff.1 h).1 hs]; exact h
theorem blk_below {w w' : World} {k : Nat} {o : Obj} (hk : Below w.heap.size w w') (h : w.heap[k]? = some o) : w'.heap[k]? = some o := by
  rw [hk.block k (Array.getElem?_eq_some_iff.1 h).1]; exact h
theorem blk_lt {w : World} {k : Nat} {o : Obj} (h : w.heap[k]? = some o) : k < w.heap.size := (Array.getElem?_eq_some_iff.1 h).1

end Go.Proofs.Ytgkpddnpckglbaa

/- Contracts of the model's drawn numbers: number, numbers, NumbersOf. -/
namespace Go.Proofs.Ytgkpddnpckglbaa
open Go.RowKit
set_option linter.unusedVariables false
set_option maxRecDepth 100000

set_option maxHeartbeats 1600000 in
theorem number_k (b : Nat) (ao : Option Addr) (n cap m : Nat) (w : World) (hm : m ≤ 800000) (hn : n ≤ 1048576) (hs : SrcK w b ao n cap m) :
    Calls Try.prog 71 #[.pointer (some ⟨b, 0, none⟩)] w fun e w' => ∃ r : Int, e = .returned (.int .i64 r) ∧ 0 ≤ r ∧ r ≤ 2147483647 ∧ SrcK w' b ao n cap (m + 9) ∧ Keep (fun k => k = b) w w' := by
  have HS := hide hs
  clear hs
  go_enter Try.func71, Try.ntmps71
  go_wp2_with fail
  refine (next_k b ao n cap m 9 _ (by omega) (by omega) (by omega) hn (unhide HS)).mono ?_
  rintro e w1 ⟨r1, rfl, hr10, hr11, hs1, hk1⟩
  have HS1 := hide hs1
  have HK1 := hide hk1
  clear hs1 hk1
  go_wp2_with fail
  refine (next_k b ao n cap (m + 3) 70000 _ (by omega) (by omega) (by omega) hn (unhide HS1)).mono ?_
  rintro e w2 ⟨r2, rfl, hr20, hr21, hs2, hk2⟩
  have HS2 := hide (hs2.below (Joins.below_alloc1 _ (.cells #[.int .i64 r1, .int .i64 r2, .int .i64 2147483647] 3)))
  have HK2 := hide (((unhide HK1).trans hk2).trans (Keep.of_below (Joins.below_alloc1 _ (.cells #[.int .i64 r1, .int .i64 r2, .int .i64 2147483647] 3))))
  have hbl := hs2.lt
  clear hs2 hk2
  go_wp2_with fail
  refine (next_k b ao n cap (m + 3 + 3) 9 _ (by omega) (by omega) (by omega) hn (unhide HS2)).mono ?_
  rintro e w3 ⟨r3, rfl, hr30, hr31, hs3, hk3⟩
  have hcA := keep_cell (a := ⟨w2.heap.size, 0, none⟩) (v := .int .i64 r1) hk3 (by simp; omega) (by simp [go_sem])
  have hcB := keep_cell (a := ⟨w2.heap.size, 1, none⟩) (v := .int .i64 r2) hk3 (by simp; omega) (by simp [go_sem])
  have hcC := keep_cell (a := ⟨w2.heap.size, 2, none⟩) (v := .int .i64 2147483647) hk3 (by simp; omega) (by simp [go_sem])
  have HS3 := hide (hs3.more (m' := m + 9) (by omega))
  have HK3 := hide ((unhide HK2).trans hk3)
  clear hs3 hk3
  have hq : r3 / 4 = 0 ∨ r3 / 4 = 1 ∨ r3 / 4 = 2 := by omega
  rcases hq with hq | hq | hq
  · go_wp2
    go_ret
    exact ⟨r1, rfl, by omega, by omega, unhide HS3, unhide HK3⟩
  · go_wp2
    go_ret
    exact ⟨r2, rfl, by omega, by omega, unhide HS3, unhide HK3⟩
  · go_wp2
    go_ret
    exact ⟨2147483647, rfl, by omega, by omega, unhide HS3, unhide HK3⟩

end Go.Proofs.Ytgkpddnpckglbaa

/- Contracts of DiskOK, of the program and of its model: both answer one plain function of the disk. -/
namespace Go.Proofs.Ytgkpddnpckglbaa
open Go.RowKit
set_option linter.unusedVariables false
set_option maxRecDepth 100000

theorem l01In_any (n low high : Int) (w : World) : Calls Try.prog 34 #[.int .i64 n, .int .i64 low, .int .i64 high] w fun e w' => e = .returned (.bool (inB n low high)) ∧ w' = w := by
  go_enter Try.func34, Try.ntmps34
  go_wp2
  all_goals
    go_ret
    exact ⟨ret_bool (by rw [Bool.eq_iff_iff]; simp [inB]; omega), rfl⟩

end Go.Proofs.Ytgkpddnpckglbaa

/- Contracts of the disk's codes and of ReadSector, of the program and of its model. -/
namespace Go.Proofs.Ytgkpddnpckglbaa
open Go.RowKit
set_option linter.unusedVariables false
set_option maxRecDepth 100000

end Go.Proofs.Ytgkpddnpckglbaa

/- Contract of impl.PendingOf. -/
namespace Go.Proofs.Ytgkpddnpckglbaa
open Go.RowKit
set_option linter.unusedVariables false
set_option maxRecDepth 100000

/-- How many writes a host has. -/
def cntW (xs : List Wr) (h : Int) : Nat := (xs.filter fun x => x.host == h).length
theorem cntW_le (xs : List Wr) (h : Int) : cntW xs h ≤ xs.length := List.length_filter_le _ _
theorem cnt_hit {xs : List Wr} {h : Int} {k : Nat} (hk : k < xs.length) (he : xs[k].host = h) : cntW (xs.take (k + 1)) h = cntW (xs.take k) h + 1 := by
  rw [cntW, cntW, List.take_succ_eq_append_getElem hk, List.filter_append, List.length_append]; simp [he]
theorem cnt_miss {xs : List Wr} {h : Int} {k : Nat} (hk : k < xs.length) (he : ¬ xs[k].host = h) : cntW (xs.take (k + 1)) h = cntW (xs.take k) h := by
  rw [cntW, cntW, List.take_succ_eq_append_getElem hk, List.filter_append, List.length_append]; simp [he]
theorem askC_zero (ss : List ByteArray) (xs : List Wr) (h : Int) : askC ss xs h 0 = hostC ss xs h := by
  unfold askC
  split
  · rename_i e; rw [e]; rfl
  · rfl
def cntC (ss : List ByteArray) (xs : List Wr) (h : Int) : Int := if hostC ss xs h = 0 then (cntW xs h : Int) else 0
theorem ret_two {a b c d : Int} (h : a = b) (k : c = d) : Ending.returned (.tuple #[.int .i64 a, .int .i64 c]) = .returned (.tuple #[.int .i64 b, .int .i64 d]) := by rw [h, k]

end Go.Proofs.Ytgkpddnpckglbaa

/- A disk in rows of the call's own; variables that hold a disk. -/
namespace Go.Proofs.Ytgkpddnpckglbaa
open Go.RowKit
set_option linter.unusedVariables false

def OwnB (ao : Option Addr) (n ca : Nat) (bo : Option Addr) (m cb : Nat) (k : Nat) : Prop := Own (.slice ao n ca) k ∨ Own (.slice bo m cb) k

end Go.Proofs.Ytgkpddnpckglbaa

/- Contract of impl.copyDisk: the disk as it was, in new memory. -/
namespace Go.Proofs.Ytgkpddnpckglbaa
open Go.RowKit
set_option linter.unusedVariables false
set_option maxRecDepth 100000

end Go.Proofs.Ytgkpddnpckglbaa

/- Contract of spec.l01Own: the disk as it was, in new memory. -/
namespace Go.Proofs.Ytgkpddnpckglbaa
open Go.RowKit
set_option linter.unusedVariables false
set_option maxRecDepth 100000

/-- The cells of a slice's texts, of its writes, for an append. -/
theorem Ss.src {w : World} {ao : Option Addr} {ss : List ByteArray} (h : Ss w ao ss) : 0 < ss.length → ∃ ad, ao = some ad ∧ ∀ j u, (strV ss)[j]? = some u → w.cell? (ad.add j) = some u := fun hp => by
  obtain ⟨b, off, rfl, hc⟩ := h.at hp
  exact ⟨_, rfl, hc⟩
theorem Ios.src {w : World} {ao : Option Addr} {xs : List Wr} (h : Ios w ao xs) : 0 < xs.length → ∃ ad, ao = some ad ∧ ∀ j u, (ioV xs)[j]? = some u → w.cell? (ad.add j) = some u := fun hp => by
  obtain ⟨b, off, rfl, hc⟩ := h.at hp
  exact ⟨_, rfl, hc⟩


end Go.Proofs.Ytgkpddnpckglbaa

/- Variables that hold a write; ends of calls that answer with a disk. -/
namespace Go.Proofs.Ytgkpddnpckglbaa
open Go.RowKit
set_option linter.unusedVariables false

def wrV (x : Wr) : List Value := [.int .i64 x.host, .int .i64 x.at_, .string x.data]
theorem wrV_one (x : Wr) : ∀ u ∈ wrV x, u.oneCell' = true := by
  intro u hu
  simp [wrV] at hu
  rcases hu with rfl | rfl | rfl <;> rfl
theorem ioV_snoc (xs : List Wr) (x : Wr) : ioV (xs ++ [x]) = ioV xs ++ wrV x := by simp [ioV, wrV]

theorem belowKp {W0 W W' : World} {S : Nat → Prop} (h : Below W0.heap.size W0 W) (hk : Keep S W W') (hs : ∀ j, S j → W0.heap.size ≤ j) : Below W0.heap.size W0 W' := h.trans (hk.below h.size hs)
theorem zero_end {w wL : World} (hb : Below w.heap.size w wL) (a b : Value) : Below w.heap.size w ((wL.setCell ⟨w.heap.size + 1, 0, none⟩ a).setCell ⟨w.heap.size + 1, 1, none⟩ b) :=
  (hb.setCell (p := ⟨w.heap.size + 1, 0, none⟩) (by simp) a).setCell (p := ⟨w.heap.size + 1, 1, none⟩) (by simp) b

theorem ask_zero (ss : List ByteArray) (xs : List Wr) (h : Int) : askC ss xs h 0 = hostC ss xs h := by
  unfold askC
  split
  · rename_i e; rw [e]; rfl
  · rfl
end Go.Proofs.Ytgkpddnpckglbaa

/- Contract of impl.landFirst: of a host's writes the first ones are sure. -/
namespace Go.Proofs.Ytgkpddnpckglbaa
open Go.RowKit
set_option linter.unusedVariables false

/-- One write of a disk's, as a host's writes land: the sectors, what is left, how many may still land. -/
def stepF (h : Int) (lost : Bool) (st : List ByteArray × List Wr × Int) (x : Wr) : List ByteArray × List Wr × Int :=
  if x.host = h then (if 0 < st.2.2 then (st.1.set x.at_.toNat x.data, st.2.1, st.2.2 - 1) else if lost = true then st else (st.1, st.2.1 ++ [x], st.2.2)) else (st.1, st.2.1 ++ [x], st.2.2)
def landF (h : Int) (lost : Bool) (ss : List ByteArray) (xs : List Wr) (n : Int) : List ByteArray × List Wr × Int := xs.foldl (stepF h lost) (ss, [], n)
theorem landF_succ {h : Int} {lost : Bool} {ss : List ByteArray} {xs : List Wr} {n : Int} {k : Nat} (hk : k < xs.length) : landF h lost ss (xs.take (k + 1)) n = stepF h lost (landF h lost ss (xs.take k) n) xs[k] := by
  unfold landF
  rw [List.take_succ_eq_append_getElem hk, List.foldl_append]
  rfl
theorem step_other {h : Int} {lost : Bool} {x : Wr} (ha : x.host ≠ h) (SS : List ByteArray) (LX : List Wr) (N : Int) : stepF h lost (SS, LX, N) x = (SS, LX ++ [x], N) := by simp [stepF, ha]
theorem step_land {h : Int} {lost : Bool} {x : Wr} (ha : x.host = h) (SS : List ByteArray) (LX : List Wr) {N : Int} (hn : 0 < N) : stepF h lost (SS, LX, N) x = (SS.set x.at_.toNat x.data, LX, N - 1) := by simp [stepF, ha, hn]
theorem step_keep {h : Int} {x : Wr} (ha : x.host = h) (SS : List ByteArray) (LX : List Wr) {N : Int} (hn : ¬ 0 < N) : stepF h false (SS, LX, N) x = (SS, LX ++ [x], N) := by simp [stepF, ha, hn]

theorem strV_set (SS : List ByteArray) (j : Nat) (d : ByteArray) : (strV SS).set j (.string d) = strV (SS.set j d) := by simp [strV, List.map_set]

end Go.Proofs.Ytgkpddnpckglbaa

/- Contract of spec.l01Land: of a host's writes the first ones are sure, the others stay or are lost. -/
namespace Go.Proofs.Ytgkpddnpckglbaa
open Go.RowKit
set_option linter.unusedVariables false

theorem step_drop {h : Int} {x : Wr} (ha : x.host = h) (SS : List ByteArray) (LX : List Wr) {N : Int} (hn : ¬ 0 < N) : stepF h true (SS, LX, N) x = (SS, LX, N) := by simp [stepF, ha, hn]

end Go.Proofs.Ytgkpddnpckglbaa

/- What lands comes out of what was there; the bounds of a right disk. -/
namespace Go.Proofs.Ytgkpddnpckglbaa
open Go.RowKit
set_option linter.unusedVariables false

/-- What lands comes out of what was there. -/
theorem land_inv (h : Int) (lost : Bool) (P : ByteArray → Prop) : ∀ (xs : List Wr) (SS : List ByteArray) (LX : List Wr) (N : Int), (∀ s ∈ SS, P s) → (∀ x ∈ xs, P x.data) → (∀ x ∈ LX, P x.data) →
    (∀ s ∈ (xs.foldl (stepF h lost) (SS, LX, N)).1, P s) ∧ (∀ x ∈ (xs.foldl (stepF h lost) (SS, LX, N)).2.1, P x.data) ∧ (xs.foldl (stepF h lost) (SS, LX, N)).1.length = SS.length ∧ (xs.foldl (stepF h lost) (SS, LX, N)).2.1.length ≤ LX.length + xs.length
  | [], SS, LX, N, h1, _, h3 => ⟨h1, h3, rfl, Nat.le_refl _⟩
  | x :: xs, SS, LX, N, h1, h2, h3 => by
    have hx := h2 x (List.mem_cons_self ..)
    have hr : ∀ y ∈ xs, P y.data := fun y hy => h2 y (List.mem_cons_of_mem _ hy)
    have happ : ∀ y ∈ LX ++ [x], P y.data := by
      intro y hy
      rcases List.mem_append.1 hy with h | h
      · exact h3 y h
      · simp at h; subst h; exact hx
    have hset : ∀ s ∈ SS.set x.at_.toNat x.data, P s := by
      intro s hs
      rcases List.mem_or_eq_of_mem_set hs with h | h
      · exact h1 s h
      · rw [h]; exact hx
    rw [List.foldl_cons]
    by_cases ha : x.host = h
    · by_cases hn : 0 < N
      · rw [step_land ha SS LX hn]
        obtain ⟨q1, q2, q3, q4⟩ := land_inv h lost P xs (SS.set x.at_.toNat x.data) LX (N - 1) hset hr h3
        exact ⟨q1, q2, by rw [q3, List.length_set], by simp only [List.length_cons]; omega⟩
      · cases lost
        · rw [step_keep ha SS LX hn]
          obtain ⟨q1, q2, q3, q4⟩ := land_inv h false P xs SS (LX ++ [x]) N h1 hr happ
          exact ⟨q1, q2, q3, by simp only [List.length_cons, List.length_append, List.length_nil] at q4 ⊢; omega⟩
        · rw [step_drop ha SS LX hn]
          obtain ⟨q1, q2, q3, q4⟩ := land_inv h true P xs SS LX N h1 hr h3
          exact ⟨q1, q2, q3, by simp only [List.length_cons]; omega⟩
    · rw [step_other ha SS LX N]
      obtain ⟨q1, q2, q3, q4⟩ := land_inv h lost P xs SS (LX ++ [x]) N h1 hr happ
      exact ⟨q1, q2, q3, by simp only [List.length_cons, List.length_append, List.length_nil] at q4 ⊢; omega⟩
theorem landF_inv {h n : Int} {lost : Bool} {ss : List ByteArray} {xs : List Wr} (P : ByteArray → Prop) (h1 : ∀ s ∈ ss, P s) (h2 : ∀ x ∈ xs, P x.data) :
    (∀ s ∈ (landF h lost ss xs n).1, P s) ∧ (∀ x ∈ (landF h lost ss xs n).2.1, P x.data) ∧ (landF h lost ss xs n).1.length = ss.length ∧ (landF h lost ss xs n).2.1.length ≤ xs.length := by
  have := land_inv h lost P xs ss [] n h1 h2 (fun _ h => by cases h)
  simpa [landF] using this

theorem diskB_at {ss : List ByteArray} {xs : List Wr} (h : diskB ss xs = true) : ∀ i (hi : i < xs.length), 0 ≤ xs[i].at_ ∧ xs[i].at_ < ss.length := by
  intro i hi
  have hl := (diskB_len h).1
  simp only [diskB, penB, Bool.and_eq_true, List.all_eq_true] at h
  have := h.2.2 xs[i] (List.getElem_mem hi)
  simp only [ioB, Bool.and_eq_true, decide_eq_true_eq] at this
  omega

/-- What Flush answers. -/
def flS (ss : List ByteArray) (xs : List Wr) (h : Int) : List ByteArray := if hostC ss xs h = 0 then (landF h false ss xs 200).1 else []
def flX (ss : List ByteArray) (xs : List Wr) (h : Int) : List Wr := if hostC ss xs h = 0 then (landF h false ss xs 200).2.1 else []
theorem fl_ok {ss : List ByteArray} {xs : List Wr} {h : Int} (h1 : hostC ss xs h = 0) : flS ss xs h = (landF h false ss xs 200).1 ∧ flX ss xs h = (landF h false ss xs 200).2.1 := by simp [flS, flX, h1]
theorem fl_bad {ss : List ByteArray} {xs : List Wr} {h : Int} (h1 : ¬ hostC ss xs h = 0) : flS ss xs h = [] ∧ flX ss xs h = [] := by simp [flS, flX, h1]
theorem landF_slen {h n : Int} {lost : Bool} {ss : List ByteArray} {xs : List Wr} : (landF h lost ss xs n).1.length = ss.length := (landF_inv (fun _ => True) (fun _ _ => trivial) (fun _ _ => trivial)).2.2.1

end Go.Proofs.Ytgkpddnpckglbaa

/- Contract of impl.dropWrites: a host's writes are gone; and that what lands with the others lost is what lands, the host's writes dropped. -/
namespace Go.Proofs.Ytgkpddnpckglbaa
open Go.RowKit
set_option linter.unusedVariables false

/-- The writes of other hosts. -/
def dropF (h : Int) (xs : List Wr) : List Wr := xs.filter fun x => x.host != h
theorem dropF_succ_hit {h : Int} {xs : List Wr} {k : Nat} (hk : k < xs.length) (he : xs[k].host = h) : dropF h (xs.take (k + 1)) = dropF h (xs.take k) := by
  rw [dropF, dropF, List.take_succ_eq_append_getElem hk, List.filter_append]; simp [he]
theorem dropF_succ_miss {h : Int} {xs : List Wr} {k : Nat} (hk : k < xs.length) (he : ¬ xs[k].host = h) : dropF h (xs.take (k + 1)) = dropF h (xs.take k) ++ [xs[k]] := by
  rw [dropF, dropF, List.take_succ_eq_append_getElem hk, List.filter_append]; simp [he]
theorem land_drop (h : Int) : ∀ (xs : List Wr) (SS : List ByteArray) (LX : List Wr) (N : Int), xs.foldl (stepF h true) (SS, dropF h LX, N) = ((xs.foldl (stepF h false) (SS, LX, N)).1, dropF h (xs.foldl (stepF h false) (SS, LX, N)).2.1, (xs.foldl (stepF h false) (SS, LX, N)).2.2)
  | [], SS, LX, N => rfl
  | x :: xs, SS, LX, N => by
    rw [List.foldl_cons, List.foldl_cons]
    by_cases ha : x.host = h
    · by_cases hn : 0 < N
      · rw [step_land ha SS LX hn, step_land ha SS (dropF h LX) hn]
        exact land_drop h xs _ _ _
      · rw [step_keep ha SS LX hn, step_drop ha SS (dropF h LX) hn]
        have : dropF h LX = dropF h (LX ++ [x]) := by simp [dropF, ha]
        rw [this]
        exact land_drop h xs _ _ _
    · rw [step_other ha SS LX N, step_other ha SS (dropF h LX) N]
      have : dropF h LX ++ [x] = dropF h (LX ++ [x]) := by simp [dropF, ha]
      rw [this]
      exact land_drop h xs _ _ _
theorem landF_lost (h n : Int) (ss : List ByteArray) (xs : List Wr) : (landF h true ss xs n).1 = (landF h false ss xs n).1 ∧ (landF h true ss xs n).2.1 = dropF h (landF h false ss xs n).2.1 := by
  have := land_drop h xs ss [] n
  have e : landF h true ss xs n = xs.foldl (stepF h true) (ss, dropF h [], n) := rfl
  rw [e, this]
  exact ⟨rfl, rfl⟩

end Go.Proofs.Ytgkpddnpckglbaa

/- Flush: contracts of the model and of the program. -/
namespace Go.Proofs.Ytgkpddnpckglbaa
open Go.RowKit
set_option linter.unusedVariables false

end Go.Proofs.Ytgkpddnpckglbaa

/- LoseHost: contracts of the model and of the program. -/
namespace Go.Proofs.Ytgkpddnpckglbaa
open Go.RowKit
set_option linter.unusedVariables false

/-- What LoseHost answers. -/
def loS (ss : List ByteArray) (xs : List Wr) (h k : Int) : List ByteArray := if hostC ss xs h = 0 then (if inB k 0 200 = true then (landF h true ss xs k).1 else []) else []
def loX (ss : List ByteArray) (xs : List Wr) (h k : Int) : List Wr := if hostC ss xs h = 0 then (if inB k 0 200 = true then (landF h true ss xs k).2.1 else []) else []
def loC (ss : List ByteArray) (xs : List Wr) (h k : Int) : Int := if hostC ss xs h = 0 then (if inB k 0 200 = true then 0 else 4) else hostC ss xs h
theorem lo_ok {ss : List ByteArray} {xs : List Wr} {h k : Int} (h1 : hostC ss xs h = 0) (h2 : inB k 0 200 = true) : loS ss xs h k = (landF h true ss xs k).1 ∧ loX ss xs h k = (landF h true ss xs k).2.1 ∧ loC ss xs h k = 0 := by simp [loS, loX, loC, h1, h2]
theorem lo_range {ss : List ByteArray} {xs : List Wr} {h k : Int} (h1 : hostC ss xs h = 0) (h2 : inB k 0 200 = false) : loS ss xs h k = [] ∧ loX ss xs h k = [] ∧ loC ss xs h k = 4 := by simp [loS, loX, loC, h1, h2]
theorem lo_bad {ss : List ByteArray} {xs : List Wr} {h k : Int} (h1 : ¬ hostC ss xs h = 0) : loS ss xs h k = [] ∧ loX ss xs h k = [] ∧ loC ss xs h k = hostC ss xs h := by simp [loS, loX, loC, h1]
theorem inB_eq {k a b : Int} (h : inB k a b = true) : a ≤ k ∧ k ≤ b := by simpa [inB] using h
theorem inB_ne {k a b : Int} (h : inB k a b = false) (hk : ¬ k < a) : b < k := by
  simp [inB] at h
  omega

end Go.Proofs.Ytgkpddnpckglbaa
