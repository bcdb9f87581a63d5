import Derived.Test.YtjoafbkcnnhdiabRows
import Derived.Test.YtjoafbkcnnhdiabXResizeImagePart1
import Derived.Test.YtjoafbkcnnhdiabXResizeImagePart6
import Derived.Test.YtjoafbkcnnhdiabXResizeImagePart2
import Derived.Test.YtjoafbkcnnhdiabXResizeImagePart3
import Derived.Test.YtjoafbkcnnhdiabXResizeImagePart4
import Derived.Test.YtjoafbkcnnhdiabXResizeImagePart7
import Derived.Test.YtjoafbkcnnhdiabXResizeImagePart8
import Derived.WalkKit
import Derived.WalkSpells
import Derived.KernelRfl
import Derived.BigQuiet
import Derived.Deep.QuietTactic
import Derived.Deep.RegionWith
import Derived.Deep.RegionHeld3
import Derived.LoopN

namespace Go.Proofs.Ytjoafbkcnnhdiab
open Go.RowKit
set_option linter.unusedVariables false
set_option maxRecDepth 100000

theorem OwnIm.freshT {w w' : World} {B c : Nat} {q : Option Addr} {a : Im4} {m : Img} {ts : List Value} {t : List Int} (h : OwnIm w B a m ts) (hb : Below w.heap.size w w') (hv : OwnN w' w.heap.size (.slice q t.length c) t) (hB : B ≤ w.heap.size) : OwnIm w' B { a with tq := q, tc := c } { m with table := t } ts := by
  refine ⟨h.len, h.s.below hb, ?_⟩
  have h1 := h.rows.below hb
  have hold : ∀ r ∈ imRows a m ts, ∀ g, Own r.1 g → ¬ Own (.slice q t.length c) g := fun r hr g hg hg' => by
    have k1 := ((h.rows.own r hr).ge g hg).2
    have k2 := (hv.ge g hg').1
    omega
  unfold imRows at h1 hold ⊢
  simp only
  have hp := h1.apart
  rw [List.pairwise_cons, List.pairwise_cons] at hp
  obtain ⟨p0, p1, p2⟩ := hp
  refine ⟨fun r hr => ?_, ?_⟩
  · simp only [List.mem_cons] at hr
    rcases hr with rfl | rfl | hr
    · exact h1.own _ (by simp)
    · exact hv.base hB
    · exact h1.own r (by simp only [List.mem_cons]; exact .inr (.inr hr))
  · rw [List.pairwise_cons, List.pairwise_cons]
    refine ⟨fun r hr => ?_, fun r hr g hg hg' => ?_, p2⟩
    · rw [List.mem_cons] at hr
      rcases hr with rfl | hr
      · exact hold (.slice a.ro m.refs.length a.rc, m.refs) (by simp)
      · exact p0 r (List.mem_cons_of_mem _ hr)
    · exact hold r (by simp only [List.mem_cons] at hr ⊢; exact .inr (.inr hr)) g hg' hg
theorem Hld.freshT {W W' : World} {p B c : Nat} {q : Option Addr} {a : Im4} {m : Img} {ts : List Value} {t : List Int} (h : Hld W p B a m ts) (hb : Below W.heap.size W W') (hv : OwnN W' W.heap.size (.slice q t.length c) t) (hB : B ≤ W.heap.size) : Hld (W'.setCell ⟨p, 1, none⟩ (.slice q t.length c)) p B { a with tq := q, tc := c } { m with table := t } ts ∧ Below B W (W'.setCell ⟨p, 1, none⟩ (.slice q t.length c)) := by
  have h1 := h.below hb
  have ho := h.o.freshT hb hv hB
  have hk : Keep (fun g => g = p) W' (W'.setCell ⟨p, 1, none⟩ (.slice q t.length c)) := (Keep.refl (fun g => g = p) W').setCell (p := ⟨p, 1, none⟩) rfl _
  exact ⟨⟨h1.v.set1 _, ho.keep hk (fun g hg e => ho.other h1.v (e ▸ hg)), h.p⟩, (hb.mono hB).trans (hk.below (Nat.le_trans hB hb.size) (fun g e => by have := h.p; omega))⟩

def rs1 (m : Img) (n : Int) : Img := if betw n 0 12 = true then { m with table := rzTo m.table n.toNat } else m
def rsC (m : Img) (n : Int) : Int := if betw n 0 12 = true then 0 else 4
theorem rs_fit {m : Img} (n : Int) (h : ImR m) : FitR (rs1 m n) := by
  unfold rs1
  by_cases hn : betw n 0 12 = true
  · rw [if_pos hn]
    obtain ⟨l0, l1⟩ := betw_iff.1 hn
    exact h.fitT (d := m.data) (tbB_rz h.table (by omega)) h.len
  · rw [if_neg hn]
    exact h.fitR
theorem rs_ans {m : Img} (n : Int) : (if imB m = true then (imFit (rs1 m n), rsC m n) else (im0, 1)) = rsA' m n := by
  refine ans_eq (fun h => ?_) (fun h => by rw [rsA', h]; rfl)
  have hR := imB_iff.1 h
  rw [rsA', if_pos h]
  unfold rs1 rsC
  by_cases hg : betw n 0 12 = true
  · rw [if_pos hg, if_pos hg, if_pos hg]
    obtain ⟨l0, l1⟩ := betw_iff.1 hg
    exact ⟨fit_resize hR (by omega), rfl⟩
  · rw [if_neg hg, if_neg hg, if_neg hg]
    exact ⟨fit_self hR, rfl⟩

set_option maxHeartbeats 1600000 in
theorem resizeC_any (m : Img) (n : Int) (x : Nat) (W : World) (p B : Nat) (a : Im4) (ts : List Value) (hR : ImR m) (hx : VarN1 W x n) (hxB : x < B) (hB : B ≤ W.heap.size) (hh : Hld W p B a m ts) :
    Calls Try.prog 47 #[.pointer (some ⟨p, 0, none⟩), .pointer (some ⟨x, 0, none⟩)] W fun e W' => Chg W W' p B e (rsC m n) (rs1 m n) := by
  have HH := hide hh
  have HT := hide (hh.o.shows hR.M.zs).t
  have HL := hide hR.M.L.t
  have hx' : W.cell? ⟨x, 0, none⟩ = some (.int .i64 n) := hx
  obtain ⟨c0, c1, c2, c3⟩ := hh.v.cells
  have hpl := hh.v.lt
  have hxl := World.block_lt_of_cell? _ _ hx
  have HRZ := hide (rz_cases m.table n)
  have hTF := tbF_ok hR.table
  have HTF := hide hTF
  have HCAL : Hid (∀ W1, Below W.heap.size W W1 → Calls Try.prog 48 #[.slice a.tq m.table.length a.tc, .int .i64 n] W1 fun e w' => ∃ vo vc, e = .returned (.tuple #[.slice vo (rzL m.table n).length vc, .int .i64 (rzF m.table n)]) ∧ OwnN w' W.heap.size (.slice vo (rzL m.table n).length vc) (rzL m.table n) ∧ Below W.heap.size W w') := hide (fun W1 hW => (resizeTable_impl a.tq a.tc m.table n W1 (unhide HL) ((unhide HT).below hW)).mono fun e w' ⟨v, h1, h2, h3⟩ => by obtain ⟨vo, vc, rfl, _⟩ := id h2; exact ⟨vo, vc, h1, h2.base hW.size, fr hW h3⟩)
  clear hh hx hR hTF
  generalize rzL m.table n = L at *
  generalize rzF m.table n = F at *
  go_enter Try.func47, Try.ntmps47
  go_upto_region 1 with fail
  go_region_held3 (fun w' => w'.cell? ⟨p, 1, none⟩ = some (.slice a.tq m.table.length a.tc) ∧ w'.cell? ⟨x, 0, none⟩ = some (.int .i64 n)) (go_keep) ((go_at_call 48; refine (unhide HCAL _ (Below.refl _ _).drew).mono ?_; rintro e w3 ⟨vo, vc, rfl, ho3, hb3⟩; have k1 := (hb3.cell (p := ⟨p, 1, none⟩) hpl).trans c1; have k2 := (hb3.cell (p := ⟨x, 0, none⟩) hxl).trans hx'; have HN3 := hide (And.intro hb3 ho3); clear hb3 ho3))
  clear k1 k2 c0 c1 c2 c3 hx'
  have HH3 := hide ((unhide HH).below (unhide HN3).1)
  rcases unhide HRZ with ⟨hf, _⟩ | ⟨hb, hg, eF, eL⟩ | ⟨hb, q, rfl, hq, eF, eL⟩
  · exact absurd (unhide HTF) hf
  · have HE : Hid (rsC m n = 4 ∧ rs1 m n = m) := hide ⟨by rw [rsC, hg]; rfl, by rw [rs1, hg]; rfl⟩
    subst eF
    clear eL hg
    go_wp2
    go_ret
    rw [(unhide HE).1, (unhide HE).2]
    exact Chg.same 4 (unhide HH) hB (unhide HN3).1
  · have hg : betw (q : Int) 0 12 = true := betw_iff.2 ⟨by omega, by omega⟩
    have HE : Hid (rsC m (q : Int) = 0 ∧ rs1 m (q : Int) = { m with table := L }) := hide ⟨by rw [rsC, hg]; rfl, by rw [rs1, if_pos hg, Int.toNat_natCast, eL]⟩
    have HS := hide ((unhide HH).freshT (unhide HN3).1 (unhide HN3).2 hB)
    subst eF
    clear eL hg
    obtain ⟨c0, c1, c2, c3⟩ := (unhide HH3).v.cells
    obtain ⟨z0, z1, z2, z3⟩ := (unhide HH3).v.free
    go_wp2
    go_ret
    rw [(unhide HE).1, (unhide HE).2]
    exact ⟨rfl, _, _, (unhide HS).1, (unhide HS).2⟩

set_option maxHeartbeats 1600000 in
theorem resizeImage_impl (a : Im4) (m : Img) (n : Int) (w : World) (hL : ImL m) (hc : ImS w a m) :
    Calls Try.prog 17 #[imV a m, .int .i64 n] w fun e w' => AnsI w w' e (rsA' m n) := by
  have hmf : ∀ (fn : Fn) (first cap : Array Value) (w : World), (Instr.makeFunc fn first cap).run Try.prog w = .ok (.func fn first cap) w := fun _ _ _ _ => rfl
  have HE : Hid (FcE w (((w.alloc (.cells #[.slice a.ro m.refs.length a.rc, .slice a.tq m.table.length a.tc, .slice a.so m.snaps.length a.sc, .slice a.dq m.data.length a.dc] 29)).alloc (.cells #[.int .i64 n] 3)).alloc (.cells #[.slice none 0 0, .slice none 0 0, .slice none 0 0, .slice none 0 0] 29)) (w.heap.size + 1 + 1) a m) := hide (by
    refine ⟨?_, ?_, hc.below (fr (fr (Joins.below_alloc1 w _) (Joins.below_alloc1 _ _)) (Joins.below_alloc1 _ _)), fr (fr (Joins.below_alloc1 w _) (Joins.below_alloc1 _ _)) (Joins.below_alloc1 _ _), by omega, by simp⟩
    · exact ((VarM.new w 29 (.slice a.ro m.refs.length a.rc) (.slice a.tq m.table.length a.tc) (.slice a.so m.snaps.length a.sc) (.slice a.dq m.data.length a.dc)).below (Joins.below_alloc1 _ _)).below (Joins.below_alloc1 _ _)
    · have h := VarM.new ((w.alloc (.cells #[.slice a.ro m.refs.length a.rc, .slice a.tq m.table.length a.tc, .slice a.so m.snaps.length a.sc, .slice a.dq m.data.length a.dc] 29)).alloc (.cells #[.int .i64 n] 3)) 29 (.slice none 0 0) (.slice none 0 0) (.slice none 0 0) (.slice none 0 0)
      simp only [World.size_alloc] at h
      exact h)
  have HX0 : Hid (VarN1 (((w.alloc (.cells #[.slice a.ro m.refs.length a.rc, .slice a.tq m.table.length a.tc, .slice a.so m.snaps.length a.sc, .slice a.dq m.data.length a.dc] 29)).alloc (.cells #[.int .i64 n] 3)).alloc (.cells #[.slice none 0 0, .slice none 0 0, .slice none 0 0, .slice none 0 0] 29)) (w.heap.size + 1) n) := hide (by
    have h : VarN1 (((w.alloc (.cells #[.slice a.ro m.refs.length a.rc, .slice a.tq m.table.length a.tc, .slice a.so m.snaps.length a.sc, .slice a.dq m.data.length a.dc] 29)).alloc (.cells #[.int .i64 n] 3)).alloc (.cells #[.slice none 0 0, .slice none 0 0, .slice none 0 0, .slice none 0 0] 29)) (w.alloc (.cells #[.slice a.ro m.refs.length a.rc, .slice a.tq m.table.length a.tc, .slice a.so m.snaps.length a.sc, .slice a.dq m.data.length a.dc] 29)).heap.size n := (VarN1.new (w.alloc (.cells #[.slice a.ro m.refs.length a.rc, .slice a.tq m.table.length a.tc, .slice a.so m.snaps.length a.sc, .slice a.dq m.data.length a.dc] 29)) n).below (Joins.below_alloc1 _ _)
    simp only [World.size_alloc] at h
    exact h)
  have HL := hide hL
  obtain ⟨R, HR⟩ : ∃ R, Hid (R = rsA' m n) := ⟨_, rfl⟩
  rw [← unhide HR]
  clear hc hL
  go_enter Try.func17, Try.ntmps17
  go_upto_region 1 with fail
  revert HE HX0
  generalize (((w.alloc _).alloc _).alloc _) = W0
  intro HE HX0
  obtain ⟨c0, c1, c2, c3⟩ := (unhide HE).v.cells
  go_wp2_with fail
  refine (changeImage_any a m 47 #[.pointer (some ⟨w.heap.size + 1, 0, none⟩)] (rs1 m n) (rsC m n) _ (unhide HL) (unhide HE).s (fun _ _ => rfl) (fun him => ⟨rs_fit n (imB_iff.1 him), fun W p B a1 ts1 h1 h2 h3 h4 _ => ?_⟩)).mono ?_
  · exact resizeC_any m n _ W p B a1 ts1 (imB_iff.1 him) ((unhide HX0).below h1) (Nat.lt_of_lt_of_le (World.block_lt_of_cell? _ _ (unhide HX0)) h2) h3 h4
  · intro e w2 hans
    rw [rs_ans, ← unhide HR] at hans
    obtain ⟨b, ts, rfl, ho, hb⟩ := hans
    have HP := hide ((unhide HE).put hb ho)
    have HE2 := hide ((unhide HE).below hb)
    clear ho hb c0 c1 c2 c3
    obtain ⟨r0, r1, r2, r3⟩ := (unhide HE2).r.cells
    obtain ⟨z0, z1, z2, z3⟩ := (unhide HE2).r.free
    go_wp2
    refine bodyPost_ret (res_ic Try.results17 rfl rfl (unhide HP).1) rfl ?_
    exact AnsI.of rfl rfl (unhide HP).2.1 (unhide HP).2.2

end Go.Proofs.Ytjoafbkcnnhdiab

namespace Go.Proofs.Ytjoafbkcnnhdiab
open Go.RowKit
set_option linter.unusedVariables false
set_option maxRecDepth 100000

set_option maxHeartbeats 1600000 in
theorem l09Resize_any (ao : Option Addr) (cap : Nat) (xs : List Int) (n : Nat) (w : World) (hn : n ≤ 1000) (hl : xs.length ≤ 1000) (hc : Is w ao xs) :
    Calls Try.prog 69 #[.slice ao xs.length cap, .int .i64 n] w fun e w' => ∃ v, e = .returned v ∧ OwnN w' w.heap.size v (rzTo xs n) ∧ Below w.heap.size w w' := by
  obtain ⟨j0, hj, hy0, hy1, hy2⟩ := info_parts infoM
  have HC := hide hc
  have HA : Hid (Below w.heap.size w (w.alloc (.cells #[] 3))) := hide (Joins.below_alloc1 _ _)
  clear hc
  go_enter Try.func69, Try.ntmps69
  go_wp2
  go_loopw [5, 6] (fun o i wr => ∃ (k : Nat) (qo : Option Addr) (qa : Nat), k ≤ n ∧ i = .int .i64 k ∧ o = .slice qo k qa ∧ Hid (OwnR wr w.heap.size 3 1 (.slice qo k qa) k (intV (rzTo xs k))) ∧ Hid (Below w.heap.size w wr)) (fun _ i _ => n - (intOf i).toNat)
  case atStart => exact ⟨0, _, _, Nat.zero_le _, rfl, rfl, hide (.inl ⟨rfl, rfl, _, rfl⟩), HA⟩
  case round =>
    obtain ⟨k, qo, qa, hk, rfl, rfl, HO, HB⟩ := hrel
    have HSZ := hide (unhide HB).size
    by_cases hlt : k < n
    · have hlti : (k : Int) < (n : Int) := by omega
      by_cases hkx : k < xs.length
      · obtain ⟨b, off, rfl, hcl⟩ := (unhide HC).below (unhide HB) k hkx
        have HS : Hid (rzTo xs (k + 1) = rzTo xs k ++ [xs[k]]) := hide (by rw [rzTo_succ]; simp [List.getD, hkx])
        have HOA := hide ((unhide HO).below (Joins.below_alloc1 _ (.cells #[.int .i64 xs[k]] 3)))
        have HBA := hide (fr (unhide HB) (Joins.below_alloc1 _ (.cells #[.int .i64 xs[k]] 3)))
        go_wp2_with (at_builtin; refine wpList_append_one rfl _ _ 22 rfl w.heap.size 3 j0 (.int .i64 0) 1 8 Try.underlying22 hj hy0 hy1 hy2 rfl (by omega) qo k qa (intV (rzTo xs k)) rfl (unhide HOA) (by have := unhide HSZ; simp; omega) ⟨wr.heap.size, 0, none⟩ _ [.int .i64 xs[k]] rfl rfl (byte_news wr _ _) (int_one _) (by unfold maxLen; omega) (by omega) ?_; intro g2 cap2 wA hoA hkA; have HSF := hide (And.intro hoA (keep_below (unhide HBA) (unhide HOA) (Nat.le_refl _) hkA)); clear hoA hkA)
        go_roundw
        case rel => exact ⟨k + 1, some ⟨g2, 0, none⟩, cap2, by omega, by go_num, rfl, hide (.inr ⟨by omega, by rw [unhide HS, intV_snoc]; exact (unhide HSF).1⟩), hide (unhide HSF).2⟩
        case measure => simp [intOf]; omega
      · have hkxi : ¬ (k : Int) < (xs.length : Int) := by omega
        have HS : Hid (rzTo xs (k + 1) = rzTo xs k ++ [0]) := hide (by rw [rzTo_succ]; simp [List.getD, List.getElem?_eq_none (show xs.length ≤ k by omega)])
        have HOA := hide ((unhide HO).below (Joins.below_alloc1 _ (.cells #[.int .i64 0] 3)))
        have HBA := hide (fr (unhide HB) (Joins.below_alloc1 _ (.cells #[.int .i64 0] 3)))
        go_wp2_with (at_builtin; refine wpList_append_one rfl _ _ 22 rfl w.heap.size 3 j0 (.int .i64 0) 1 8 Try.underlying22 hj hy0 hy1 hy2 rfl (by omega) qo k qa (intV (rzTo xs k)) rfl (unhide HOA) (by have := unhide HSZ; simp; omega) ⟨wr.heap.size, 0, none⟩ _ [.int .i64 0] rfl rfl (byte_news wr _ _) (int_one _) (by unfold maxLen; omega) (by omega) ?_; intro g2 cap2 wA hoA hkA; have HSF := hide (And.intro hoA (keep_below (unhide HBA) (unhide HOA) (Nat.le_refl _) hkA)); clear hoA hkA)
        go_roundw
        case rel => exact ⟨k + 1, some ⟨g2, 0, none⟩, cap2, by omega, by go_num, rfl, hide (.inr ⟨by omega, by rw [unhide HS, intV_snoc]; exact (unhide HSF).1⟩), hide (unhide HSF).2⟩
        case measure => simp [intOf]; omega
    · obtain rfl : k = n := by omega
      have HLN := hide (rzTo_len xs k)
      go_wp2
      go_ret
      exact ⟨.slice qo k qa, rfl, ⟨qo, qa, by rw [unhide HLN], by rw [unhide HLN]; exact unhide HO⟩, unhide HB⟩

end Go.Proofs.Ytjoafbkcnnhdiab

namespace Go.Proofs.Ytjoafbkcnnhdiab
open Go.RowKit
set_option linter.unusedVariables false
set_option maxRecDepth 100000

structure RzJ (w0 : World) (B : Nat) (b : Im4) (m0 mk mk' : Img) (ts : List Value) (k gt : Nat) (T : Int) (d : Nat → Bool) (w : World) (s16 s17 s18 s19 s20 s21 s22 : Value) : Prop where
  q0 : d 6 = false → ImQ w0 w B b m0 mk ts
  q6 : d 6 = true → ImQ w0 w B b m0 mk' ts
  v6 : d 6 = true → s22 = .agg #[.slice b.ro m0.refs.length b.rc, .slice (some ⟨gt, 0, none⟩) m0.table.length b.tc, .slice b.so m0.snaps.length b.sc, .slice b.dq m0.data.length b.dc]
  f0 : d 0 = true → s16 = .agg #[.slice b.ro m0.refs.length b.rc, .slice (some ⟨gt, 0, none⟩) m0.table.length b.tc, .slice b.so m0.snaps.length b.sc, .slice b.dq m0.data.length b.dc]
  f1 : d 1 = true → s17 = .pointer (some ⟨w0.heap.size, 1, none⟩)
  f2 : d 2 = true → s18 = .slice (some ⟨gt, 0, none⟩) m0.table.length b.tc
  f3 : d 3 = true → s19 = .int .i64 k
  f4 : d 4 = true → s20 = .pointer (some ⟨gt, k, none⟩)
  f5 : d 5 = true → s21 = .int .i64 T

theorem RzJ.s0 {w0 : World} {B : Nat} {b : Im4} {m0 mk mk' : Img} {ts : List Value} {k gt : Nat} {T : Int} {d : Nat → Bool} {w : World} {s16 s17 s18 s19 s20 s21 s22 v : Value} (I : RzJ w0 B b m0 mk mk' ts k gt T d w s16 s17 s18 s19 s20 s21 s22) (hd : d 0 = false) (hv : v = .agg #[.slice b.ro m0.refs.length b.rc, .slice (some ⟨gt, 0, none⟩) m0.table.length b.tc, .slice b.so m0.snaps.length b.sc, .slice b.dq m0.data.length b.dc]) : RzJ w0 B b m0 mk mk' ts k gt T (updD d 0) w v s17 s18 s19 s20 s21 s22 where
  q0 := fun h => I.q0 (upd_nf h)
  q6 := fun h => I.q6 (upd_ne (by decide) h)
  v6 := fun h => I.v6 (upd_ne (by decide) h)
  f0 := fun _ => hv
  f1 := fun h => I.f1 (upd_ne (by decide) h)
  f2 := fun h => I.f2 (upd_ne (by decide) h)
  f3 := fun h => I.f3 (upd_ne (by decide) h)
  f4 := fun h => I.f4 (upd_ne (by decide) h)
  f5 := fun h => I.f5 (upd_ne (by decide) h)

theorem RzJ.s1 {w0 : World} {B : Nat} {b : Im4} {m0 mk mk' : Img} {ts : List Value} {k gt : Nat} {T : Int} {d : Nat → Bool} {w : World} {s16 s17 s18 s19 s20 s21 s22 v : Value} (I : RzJ w0 B b m0 mk mk' ts k gt T d w s16 s17 s18 s19 s20 s21 s22) (hd : d 1 = false) (hv : v = .pointer (some ⟨w0.heap.size, 1, none⟩)) : RzJ w0 B b m0 mk mk' ts k gt T (updD d 1) w s16 v s18 s19 s20 s21 s22 where
  q0 := fun h => I.q0 (upd_nf h)
  q6 := fun h => I.q6 (upd_ne (by decide) h)
  v6 := fun h => I.v6 (upd_ne (by decide) h)
  f0 := fun h => I.f0 (upd_ne (by decide) h)
  f1 := fun _ => hv
  f2 := fun h => I.f2 (upd_ne (by decide) h)
  f3 := fun h => I.f3 (upd_ne (by decide) h)
  f4 := fun h => I.f4 (upd_ne (by decide) h)
  f5 := fun h => I.f5 (upd_ne (by decide) h)

theorem RzJ.s2 {w0 : World} {B : Nat} {b : Im4} {m0 mk mk' : Img} {ts : List Value} {k gt : Nat} {T : Int} {d : Nat → Bool} {w : World} {s16 s17 s18 s19 s20 s21 s22 v : Value} (I : RzJ w0 B b m0 mk mk' ts k gt T d w s16 s17 s18 s19 s20 s21 s22) (hd : d 2 = false) (hv : v = .slice (some ⟨gt, 0, none⟩) m0.table.length b.tc) : RzJ w0 B b m0 mk mk' ts k gt T (updD d 2) w s16 s17 v s19 s20 s21 s22 where
  q0 := fun h => I.q0 (upd_nf h)
  q6 := fun h => I.q6 (upd_ne (by decide) h)
  v6 := fun h => I.v6 (upd_ne (by decide) h)
  f0 := fun h => I.f0 (upd_ne (by decide) h)
  f1 := fun h => I.f1 (upd_ne (by decide) h)
  f2 := fun _ => hv
  f3 := fun h => I.f3 (upd_ne (by decide) h)
  f4 := fun h => I.f4 (upd_ne (by decide) h)
  f5 := fun h => I.f5 (upd_ne (by decide) h)

theorem RzJ.s3 {w0 : World} {B : Nat} {b : Im4} {m0 mk mk' : Img} {ts : List Value} {k gt : Nat} {T : Int} {d : Nat → Bool} {w : World} {s16 s17 s18 s19 s20 s21 s22 v : Value} (I : RzJ w0 B b m0 mk mk' ts k gt T d w s16 s17 s18 s19 s20 s21 s22) (hd : d 3 = false) (hv : v = .int .i64 k) : RzJ w0 B b m0 mk mk' ts k gt T (updD d 3) w s16 s17 s18 v s20 s21 s22 where
  q0 := fun h => I.q0 (upd_nf h)
  q6 := fun h => I.q6 (upd_ne (by decide) h)
  v6 := fun h => I.v6 (upd_ne (by decide) h)
  f0 := fun h => I.f0 (upd_ne (by decide) h)
  f1 := fun h => I.f1 (upd_ne (by decide) h)
  f2 := fun h => I.f2 (upd_ne (by decide) h)
  f3 := fun _ => hv
  f4 := fun h => I.f4 (upd_ne (by decide) h)
  f5 := fun h => I.f5 (upd_ne (by decide) h)

theorem RzJ.s4 {w0 : World} {B : Nat} {b : Im4} {m0 mk mk' : Img} {ts : List Value} {k gt : Nat} {T : Int} {d : Nat → Bool} {w : World} {s16 s17 s18 s19 s20 s21 s22 v : Value} (I : RzJ w0 B b m0 mk mk' ts k gt T d w s16 s17 s18 s19 s20 s21 s22) (hd : d 4 = false) (hv : v = .pointer (some ⟨gt, k, none⟩)) : RzJ w0 B b m0 mk mk' ts k gt T (updD d 4) w s16 s17 s18 s19 v s21 s22 where
  q0 := fun h => I.q0 (upd_nf h)
  q6 := fun h => I.q6 (upd_ne (by decide) h)
  v6 := fun h => I.v6 (upd_ne (by decide) h)
  f0 := fun h => I.f0 (upd_ne (by decide) h)
  f1 := fun h => I.f1 (upd_ne (by decide) h)
  f2 := fun h => I.f2 (upd_ne (by decide) h)
  f3 := fun h => I.f3 (upd_ne (by decide) h)
  f4 := fun _ => hv
  f5 := fun h => I.f5 (upd_ne (by decide) h)

theorem RzJ.s5 {w0 : World} {B : Nat} {b : Im4} {m0 mk mk' : Img} {ts : List Value} {k gt : Nat} {T : Int} {d : Nat → Bool} {w : World} {s16 s17 s18 s19 s20 s21 s22 v : Value} (I : RzJ w0 B b m0 mk mk' ts k gt T d w s16 s17 s18 s19 s20 s21 s22) (hd : d 5 = false) (hv : v = .int .i64 T) : RzJ w0 B b m0 mk mk' ts k gt T (updD d 5) w s16 s17 s18 s19 s20 v s22 where
  q0 := fun h => I.q0 (upd_nf h)
  q6 := fun h => I.q6 (upd_ne (by decide) h)
  v6 := fun h => I.v6 (upd_ne (by decide) h)
  f0 := fun h => I.f0 (upd_ne (by decide) h)
  f1 := fun h => I.f1 (upd_ne (by decide) h)
  f2 := fun h => I.f2 (upd_ne (by decide) h)
  f3 := fun h => I.f3 (upd_ne (by decide) h)
  f4 := fun h => I.f4 (upd_ne (by decide) h)
  f5 := fun _ => hv

theorem RzJ.s6 {w0 : World} {B : Nat} {b : Im4} {m0 mk mk' : Img} {ts : List Value} {k gt : Nat} {T : Int} {d : Nat → Bool} {w w2 : World} {s16 s17 s18 s19 s20 s21 s22 v : Value} (I : RzJ w0 B b m0 mk mk' ts k gt T d w s16 s17 s18 s19 s20 s21 s22) (hd : d 6 = false) (hv : v = .agg #[.slice b.ro m0.refs.length b.rc, .slice (some ⟨gt, 0, none⟩) m0.table.length b.tc, .slice b.so m0.snaps.length b.sc, .slice b.dq m0.data.length b.dc]) (hq : ImQ w0 w2 B b m0 mk' ts) : RzJ w0 B b m0 mk mk' ts k gt T (updD d 6) w2 s16 s17 s18 s19 s20 s21 v where
  q0 := fun h => no_d (k := 6) upd_at h
  q6 := fun _ => hq
  v6 := fun _ => hv
  f0 := fun h => I.f0 (upd_ne (by decide) h)
  f1 := fun h => I.f1 (upd_ne (by decide) h)
  f2 := fun h => I.f2 (upd_ne (by decide) h)
  f3 := fun h => I.f3 (upd_ne (by decide) h)
  f4 := fun h => I.f4 (upd_ne (by decide) h)
  f5 := fun h => I.f5 (upd_ne (by decide) h)

theorem RzJ.s7 {w0 : World} {B : Nat} {b : Im4} {m0 mk mk' : Img} {ts : List Value} {k gt : Nat} {T : Int} {d : Nat → Bool} {w w2 : World} {s16 s17 s18 s19 s20 s21 s22 v : Value} (I : RzJ w0 B b m0 mk mk' ts k gt T d w s16 s17 s18 s19 s20 s21 s22) (hd : d 7 = false) (p6 : d 6 = true) (hq : ImQ w0 w2 B b m0 mk' ts) : RzJ w0 B b m0 mk mk' ts k gt T (updD d 7) w2 s16 s17 s18 s19 s20 s21 s22 where
  q0 := fun h => no_d p6 (upd_nf h)
  q6 := fun _ => hq
  v6 := fun h => I.v6 p6
  f0 := fun h => I.f0 (upd_ne (by decide) h)
  f1 := fun h => I.f1 (upd_ne (by decide) h)
  f2 := fun h => I.f2 (upd_ne (by decide) h)
  f3 := fun h => I.f3 (upd_ne (by decide) h)
  f4 := fun h => I.f4 (upd_ne (by decide) h)
  f5 := fun h => I.f5 (upd_ne (by decide) h)

abbrev rzFr (t0 t1 t2 t3 t4 t5 t6 t7 t8 t9 t10 t11 t12 t13 t14 t15 s16 s17 s18 s19 s20 s21 s22 t23 t24 t25 t26 t27 t28 : Value) : Act := ⟨#[t0, t1, t2, t3, t4, t5, t6, t7, t8, t9, t10, t11, t12, t13, t14, t15, s16, s17, s18, s19, s20, s21, s22, t23, t24, t25, t26, t27, t28], []⟩
theorem rzFr_region {P : Program} {id : Nat} {Q : Exit → Act → World → Prop} {l : List Oper} {t0 t1 t2 t3 t4 t5 t6 t7 t8 t9 t10 t11 t12 t13 t14 t15 s16 s17 s18 s19 s20 s21 s22 t23 t24 t25 t26 t27 t28 : Value} {W : World} (J : (Nat → Bool) → World → Value → Value → Value → Value → Value → Value → Value →  Prop) (hm : P.follows .mixedOrders = true) (hl : linB l = true)
    (hg : ∀ (i : Nat) (o : Oper), l[i]? = some o → o.guard = none) (h0 : J (fun _ => false) { W with drawn := W.drawn + 1 } s16 s17 s18 s19 s20 s21 s22)
    (hs : ∀ (d : Nat → Bool) (w : World) (i : Nat) (o : Oper) (r16 r17 r18 r19 r20 r21 r22 : Value), Closed l d → J d w r16 r17 r18 r19 r20 r21 r22 → l[i]? = some o → d i = false → (∀ e ∈ o.after, Region.binds .any e = true → d e.on = true) → ∀ K : Act → World → Prop, (∀ (w' : World) (q16 q17 q18 q19 q20 q21 q22 : Value), J (updD d i) w' q16 q17 q18 q19 q20 q21 q22 → K (rzFr t0 t1 t2 t3 t4 t5 t6 t7 t8 t9 t10 t11 t12 t13 t14 t15 q16 q17 q18 q19 q20 q21 q22 t23 t24 t25 t26 t27 t28) w') → o.wp P (rzFr t0 t1 t2 t3 t4 t5 t6 t7 t8 t9 t10 t11 t12 t13 t14 t15 r16 r17 r18 r19 r20 r21 r22 t23 t24 t25 t26 t27 t28) w K Q)
    (he : ∀ (d : Nat → Bool) (w : World) (r16 r17 r18 r19 r20 r21 r22 : Value), J d w r16 r17 r18 r19 r20 r21 r22 → (∀ i, i < l.length → d i = true) → Q .normal (rzFr t0 t1 t2 t3 t4 t5 t6 t7 t8 t9 t10 t11 t12 t13 t14 t15 r16 r17 r18 r19 r20 r21 r22 t23 t24 t25 t26 t27 t28) w) : (Code.region id l.toArray true).wp P Q (rzFr t0 t1 t2 t3 t4 t5 t6 t7 t8 t9 t10 t11 t12 t13 t14 t15 s16 s17 s18 s19 s20 s21 s22 t23 t24 t25 t26 t27 t28) W := by
  refine wp_region_inv2 (fun d f w => ∃ r16 r17 r18 r19 r20 r21 r22, f = rzFr t0 t1 t2 t3 t4 t5 t6 t7 t8 t9 t10 t11 t12 t13 t14 t15 r16 r17 r18 r19 r20 r21 r22 t23 t24 t25 t26 t27 t28 ∧ J d w r16 r17 r18 r19 r20 r21 r22) hm hl hg ⟨s16, s17, s18, s19, s20, s21, s22, rfl, h0⟩ ?_ ?_
  · intro d f w i o hc hI ho hd hp K hK
    obtain ⟨r16, r17, r18, r19, r20, r21, r22, rfl, hJ⟩ := hI
    exact hs d w i o r16 r17 r18 r19 r20 r21 r22 hc hJ ho hd hp K (fun w' q16 q17 q18 q19 q20 q21 q22 hJ' => hK _ _ ⟨q16, q17, q18, q19, q20, q21, q22, rfl, hJ'⟩)
  · intro d f w hI hall
    obtain ⟨r16, r17, r18, r19, r20, r21, r22, rfl, hJ⟩ := hI
    exact he d w r16 r17 r18 r19 r20 r21 r22 hJ hall

def rzD (m : Img) (n k : Nat) : Img := imDrops m ((m.table.take k).drop n)
theorem rzD_start (m : Img) (n : Nat) : rzD m n n = m := by
  have : (m.table.take n).drop n = [] := List.drop_eq_nil_of_le (by rw [List.length_take]; omega)
  rw [rzD, this]; rfl
theorem rzD_succ {m : Img} {n k : Nat} (hn : n ≤ k) (hk : k < m.table.length) : rzD m n (k + 1) = imDrop (rzD m n k) m.table[k] := by
  unfold rzD
  rw [List.take_succ_eq_append_getElem hk, List.drop_append_of_le_length (by rw [List.length_take]; omega)]
  unfold imDrops
  rw [List.foldl_append]; rfl
theorem rzD_all (m : Img) {n k : Nat} (hk : m.table.length ≤ k) : rzD m n k = imDrops m (m.table.drop n) := by rw [rzD, List.take_of_length_le hk]
theorem imDrops_same (es : List Int) : ∀ m : Img, (imDrops m es).table = m.table ∧ (imDrops m es).snaps = m.snaps ∧ (imDrops m es).refs.length = m.refs.length ∧ (imDrops m es).data.length = m.data.length := by
  induction es with
  | nil => intro m; exact ⟨rfl, rfl, rfl, rfl⟩
  | cons e es ih =>
    intro m
    have h := ih (imDrop m e)
    have hd := imDrop_lens m e
    have ht := imDrop_table m e
    refine ⟨h.1.trans ht.1, h.2.1.trans ht.2, h.2.2.1.trans hd.1, h.2.2.2.trans hd.2.2.2⟩
def RvB (m : Img) (lo : Int) : Prop := ∀ c (h : c < m.refs.length), -lo ≤ m.refs[c] ∧ m.refs[c] ≤ 60
theorem RvB.drop {m : Img} {lo : Int} (h : RvB m lo) (hlo : 0 ≤ lo) (e : Int) : RvB (imDrop m e) (lo + 1) := by
  intro c hc
  unfold imDrop at hc ⊢
  by_cases h2 : e < 2
  · simp only [if_pos h2] at hc ⊢
    have := h c hc
    omega
  · simp only [if_neg h2, List.length_set] at hc ⊢
    rw [List.getElem_set]
    have := h c hc
    split
    · rename_i hcc
      have h3 : m.refs.getD (e - 2).toNat 0 = m.refs[c] := by rw [hcc]; simp [List.getD, hc]
      rw [h3]
      omega
    · omega
theorem ImQ.below {w W W' : World} {B : Nat} {a : Im4} {m0 m : Img} {ts : List Value} (h : ImQ w W B a m0 m ts) (hb : Below W.heap.size W W') : ImQ w W' B a m0 m ts := ⟨h.v.below hb, h.r.below hb, h.o.below hb, fr h.b hb, h.hB, h.e1, h.e2, h.e3, h.e4⟩
theorem OwnIm.newT {w w' : World} {B n qa : Nat} {a : Im4} {m : Img} {ts : List Value} {qo : Option Addr} {xs : List Int} (h : OwnIm w B a m ts) (hb : Below w.heap.size w w') (hn : OwnN w' w.heap.size (.slice qo n qa) xs) (hl : xs.length = n) (hB : B ≤ w.heap.size) : OwnIm w' B { a with tq := qo, tc := qa } { m with table := xs } ts := by
  refine ⟨h.len, h.s.below hb, ?_⟩
  have h' := h.rows.below hb
  have hap := h'.apart
  simp only [imRows] at h' hap ⊢
  rw [hl]
  have hold : ∀ r ∈ imRows a m ts, ∀ g, Own r.1 g → ¬ Own (.slice qo n qa) g := fun r hr g hg hx => by
    have h1 := ((h.rows.own r hr).ge g hg).2
    have h2 := (hn.ge g hx).1
    omega
  simp only [List.pairwise_cons] at hap
  refine ⟨fun r hr => ?_, ?_⟩
  · simp only [List.mem_cons] at hr
    rcases hr with rfl | rfl | rfl | hr
    · exact h'.own _ (by simp)
    · exact hn.base hB
    · exact h'.own (.slice a.dq m.data.length a.dc, m.data) (by simp)
    · exact h'.own r (by simp [hr])
  · simp only [List.pairwise_cons]
    refine ⟨fun r hr g hg => ?_, fun r hr g hg hx => ?_, hap.2.2.1, hap.2.2.2⟩
    · rcases List.mem_cons.1 hr with rfl | hr
      · exact hold (.slice a.ro m.refs.length a.rc, m.refs) (by simp [imRows]) g hg
      · exact hap.1 r (List.mem_cons_of_mem _ hr) g hg
    · refine hold r ?_ g hx hg
      simp only [imRows]
      exact List.mem_cons_of_mem _ (List.mem_cons_of_mem _ hr)

set_option maxHeartbeats 3200000 in
theorem l10Resize_R (a : Im4) (m : Img) (n : Nat) (R : Img) (w : World) (hR : R = imResize m n) (hM : ImM m) (hn : n ≤ 12) (hc : ImS w a m) :
    Calls Try.prog 46 #[imV a m, .int .i64 n] w fun e w' => ∃ a' ts, e = .returned (imV a' R) ∧ OwnIm w' w.heap.size a' R ts ∧ Below w.heap.size w w' := by
  have HE := hide (ImE.new w a m hc)
  have HM := hide hM
  have HR := hide hR
  have ht12 := hM.t
  clear hc hM hR
  go_enter Try.func46, Try.ntmps46
  go_upto_region 1 with fail
  revert HE
  generalize ((w.alloc _).alloc _) = W0
  intro HE
  obtain ⟨c0, c1, c2, c3⟩ := (unhide HE).v.cells
  go_wp2_with fail
  refine (l10Own_M a m _ (unhide HM) (unhide HE).s).mono ?_
  rintro e w1 ⟨b, ts, rfl, ho, hb⟩
  have HQ := hide (ImQ.put (w := w) ((unhide HE).v.below hb) ((unhide HE).r.below hb) (ho.base (B' := w.heap.size + 2) (by have := (unhide HE).r.lt; omega)) (fr (unhide HE).b hb) (Nat.le_refl _) (m0 := m) rfl rfl rfl rfl)
  unfold putI at HQ
  obtain ⟨x0, x1, x2, x3⟩ := ((unhide HE).v.below hb).cells
  obtain ⟨z0, z1, z2, z3⟩ := ((unhide HE).v.below hb).free
  clear c0 c1 c2 c3 ho hb HE
  go_upto_region 2 with fail
  clear x0 x1 x2 x3 z0 z1 z2 z3
  revert HQ
  generalize (((w1.setCell _ _).setCell _ _).setCell _ _).setCell _ _ = W1
  intro HQ
  go_wp2
  go_loopw [5] (fun i wr => ∃ k : Nat, n ≤ k ∧ k ≤ n + 12 ∧ i = .int .i64 k ∧ Hid (ImQ w wr (w.heap.size + 2) b m (rzD m n k) ts) ∧ Hid (RvB (rzD m n k) ((k : Int) - n))) (fun i _ => n + 13 - (intOf i).toNat)
  case atStart => exact ⟨n, Nat.le_refl _, by omega, rfl, by rw [rzD_start]; exact HQ, hide (by rw [rzD_start]; exact fun c h => by have := (unhide HM).rv c h; omega)⟩
  case round =>
    clear HQ
    obtain ⟨k, hk, hk2, rfl, HQ, HB⟩ := hrel
    obtain ⟨c0, c1, c2, c3⟩ := (unhide HQ).v.cells
    by_cases hlt : k < m.table.length
    · have hlti : (k : Int) < (m.table.length : Int) := by omega
      have HSU := hide (rzD_succ hk hlt)
      have HTE : Hid ((rzD m n k).table = m.table) := hide (imDrops_same _ m).1
      have HLS : Hid ((rzD m n k).refs.length = 24 ∧ (rzD m n k).data.length = 24) := hide ⟨(unhide HQ).e1.trans (unhide HM).r, (unhide HQ).e4.trans (unhide HM).d⟩
      have HTV := hide ((unhide HM).tv k hlt)
      have HBN : Hid (RvB (imDrop (rzD m n k) m.table[k]) (((k + 1 : Nat) : Int) - n)) := hide (by
        have := (unhide HB).drop (by omega) m.table[k]
        rwa [show (k : Int) - n + 1 = ((k + 1 : Nat) : Int) - n by omega] at this)
      obtain ⟨gt, et, _, _, _⟩ := (unhide HQ).setT (c := k) (by rw [unhide HTE]; exact hlt)
      have ET := hide et
      have HCT : Hid (∀ W, ImQ w W (w.heap.size + 2) b m (rzD m n k) ts → W.cell? ⟨gt, k, none⟩ = some (.int .i64 m.table[k])) := hide (fun W h => by
        obtain ⟨g2, e2, h2, _, _⟩ := h.setT (c := k) (by rw [unhide HTE]; exact hlt)
        rw [et] at e2
        cases e2
        rw [h2]
        simp only [unhide HTE])
      have HDROP : Hid (∀ W, ImQ w W (w.heap.size + 2) b m (rzD m n k) ts → Calls Try.prog 64 #[.agg #[.slice b.ro m.refs.length b.rc, .slice (some ⟨gt, 0, none⟩) m.table.length b.tc, .slice b.so m.snaps.length b.sc, .slice b.dq m.data.length b.dc], .int .i64 m.table[k]] W fun e w' => e = .returned (.agg #[.slice b.ro m.refs.length b.rc, .slice (some ⟨gt, 0, none⟩) m.table.length b.tc, .slice b.so m.snaps.length b.sc, .slice b.dq m.data.length b.dc]) ∧ ImQ w w' (w.heap.size + 2) b m (imDrop (rzD m n k) m.table[k]) ts) := hide (fun W h => by
        have hv : imV b (rzD m n k) = .agg #[.slice b.ro m.refs.length b.rc, .slice (some ⟨gt, 0, none⟩) m.table.length b.tc, .slice b.so m.snaps.length b.sc, .slice b.dq m.data.length b.dc] := by rw [← h.val, imV, et]
        rw [← hv]
        refine (l10Drop_M b (rzD m n k) ts (w.heap.size + 2) m.table[k] W (unhide HTV).1 (unhide HTV).2 (unhide HLS).1 (unhide HLS).2 (fun c hc => by have := unhide HB c hc; omega) h.o).mono ?_
        rintro e w2 ⟨rfl, ho2, hk2'⟩
        exact ⟨rfl, h.turn hk2' ho2 (imDrop_lens _ _).1 (imDrop_lens _ _).2.1 (imDrop_lens _ _).2.2.1 (imDrop_lens _ _).2.2.2⟩)
      clear et
      rw [← unhide HSU] at HBN HDROP
      generalize hDD : rzD m n (k + 1) = D' at *
      have HDD := hide hDD
      clear hDD
      generalize rzD m n k = D at *
      generalize m.table[k] = T at *
      go_upto_region 5 with fail
      clear c0 c1 c2 c3
      refine rzFr_region (fun d wz s16 s17 s18 s19 s20 s21 s22 => RzJ w (w.heap.size + 2) b m D D' ts k gt T d wz s16 s17 s18 s19 s20 s21 s22) (by kernel_rfl) (by kernel_rfl) (noG_spec (by kernel_rfl)) ?h0 ?hs ?he
      case h0 => exact ⟨fun _ => (unhide HQ).below (Below.refl _ wr).drew, fun h => (by cases h), fun h => (by cases h), fun h => (by cases h), fun h => (by cases h), fun h => (by cases h), fun h => (by cases h), fun h => (by cases h), fun h => (by cases h)⟩
      case hs =>
        intro d wz i o r16 r17 r18 r19 r20 r21 r22 hc I ho hd hp K hK
        have hi : i < 8 := (List.getElem?_eq_some_iff.1 ho).1
        rcases (show i = 0 ∨ i = 1 ∨ i = 2 ∨ i = 3 ∨ i = 4 ∨ i = 5 ∨ i = 6 ∨ i = 7 by omega) with rfl | rfl | rfl | rfl | rfl | rfl | rfl | rfl
        · cases ho
          have h6 := not_yet hc 9 (j := 6) (i := 0) (by kernel_rfl) hd
          have hq := I.q0 h6
          obtain ⟨k0, k1, k2, k3⟩ := hq.v.cells
          rw [unhide ET] at k1
          unfold Oper.wp
          go_simp
          exact hK _ _ _ _ _ _ _ _ (I.s0 hd rfl)
        · cases ho
          unfold Oper.wp
          go_simp
          exact hK _ _ _ _ _ _ _ _ (I.s1 hd rfl)
        · cases ho
          have h6 := not_yet hc 9 (j := 6) (i := 2) (by kernel_rfl) hd
          have p := hp ⟨1, .data⟩ (by simp) rfl
          have e1 := I.f1 p
          subst e1
          have hq := I.q0 h6
          obtain ⟨k0, k1, k2, k3⟩ := hq.v.cells
          rw [unhide ET] at k1
          unfold Oper.wp
          go_simp
          exact hK _ _ _ _ _ _ _ _ (I.s2 hd rfl)
        · cases ho
          unfold Oper.wp
          go_simp
          exact hK _ _ _ _ _ _ _ _ (I.s3 hd rfl)
        · cases ho
          have p := hp ⟨2, .data⟩ (by simp) rfl
          have e1 := I.f2 p
          subst e1
          have p2 := hp ⟨3, .data⟩ (by simp) rfl
          have e2 := I.f3 p2
          subst e2
          unfold Oper.wp
          go_simp
          exact hK _ _ _ _ _ _ _ _ (I.s4 hd (by first | rfl | simp))
        · cases ho
          have h6 := not_yet hc 9 (j := 6) (i := 5) (by kernel_rfl) hd
          have p := hp ⟨4, .data⟩ (by simp) rfl
          have e1 := I.f4 p
          subst e1
          have kc := unhide HCT wz (I.q0 h6)
          unfold Oper.wp
          go_simp
          exact hK _ _ _ _ _ _ _ _ (I.s5 hd rfl)
        · cases ho
          have p0 := hp ⟨0, .data⟩ (by simp) rfl
          have e1 := I.f0 p0
          subst e1
          have p5 := hp ⟨5, .data⟩ (by simp) rfl
          have e2 := I.f5 p5
          subst e2
          unfold Oper.wp
          go_simp
          refine (unhide HDROP wz (I.q0 hd)).mono ?_
          rintro e w2 ⟨rfl, hq2⟩
          exact hK _ _ _ _ _ _ _ _ (I.s6 hd rfl hq2)
        · cases ho
          have p6 := hp ⟨6, .data⟩ (by simp) rfl
          have e22 := I.v6 p6
          subst e22
          have hq := I.q6 p6
          have hag := hq.again
          unfold putI at hag
          rw [unhide ET] at hag
          obtain ⟨x0, x1, x2, x3⟩ := hq.v.cells
          obtain ⟨z0, z1, z2, z3⟩ := hq.v.free
          unfold Oper.wp
          go_simp
          exact hK _ _ _ _ _ _ _ _ (I.s7 (v := undef) hd p6 hag)
      case he =>
        intro d wz r16 r17 r18 r19 r20 r21 r22 I hall
        have HN := hide (I.q6 (hall 6 (by decide)))
        clear I hall
        go_wp2
        go_roundw
        case rel => exact ⟨k + 1, by omega, by omega, by go_num, by rw [unhide HDD]; exact HN, by rw [unhide HDD]; exact HBN⟩
        case measure => simp [intOf]; omega
    · have HD : Hid (rzD m n k = imDrops m (m.table.drop n)) := hide (rzD_all m (by omega))
      have HTE : Hid ((rzD m n k).table = m.table) := hide (imDrops_same _ m).1
      have HRE : Hid (R = { rzD m n k with table := rzTo (rzD m n k).table n }) := hide (by
        rw [unhide HTE, unhide HD]
        exact unhide HR)
      have HTI : Hid (Is wr b.tq (rzD m n k).table) := hide (ownRN ((unhide HQ).o.rows.own (.slice b.tq (rzD m n k).table.length b.tc, (rzD m n k).table) (by simp [imRows])).row)
      have HTL : Hid ((rzD m n k).table.length = m.table.length) := hide (unhide HQ).e2
      have HTC : Hid (Calls Try.prog 69 #[.slice b.tq m.table.length b.tc, .int .i64 n] wr fun e w' => ∃ v, e = .returned v ∧ OwnN w' wr.heap.size v (rzTo (rzD m n k).table n) ∧ Below wr.heap.size wr w') := hide (by
        rw [← unhide HTL]
        exact l09Resize_any b.tq b.tc (rzD m n k).table n wr (by omega) (by rw [unhide HTL]; omega) (unhide HTI))
      clear HD HR HTE HTI
      generalize rzD m n k = D at *
      go_wp2_with fail
      refine (unhide HTC).mono ?_
      rintro e w2 ⟨v, rfl, hov, hb2⟩
      have HLZ := hide (rzTo_len D.table n)
      obtain ⟨qo, qa, rfl, hor⟩ := hov
      rw [unhide HLZ] at hor ⊢
      have HQ2 := hide ((unhide HQ).below hb2)
      have HON := hide ((unhide HQ).o.newT hb2 (OwnN.mk' hor (unhide HLZ)) (unhide HLZ) (by have := (unhide HQ).r.lt; omega))
      clear hor hb2 c0 c1 c2 c3 HTC
      obtain ⟨c0, c1, c2, c3⟩ := (unhide HQ2).v.cells
      obtain ⟨z0, z1, z2, z3⟩ := (unhide HQ2).v.free
      have HQ3 : Hid (ImQ w (w2.setCell ⟨w.heap.size, 1, none⟩ (.slice qo n qa)) (w.heap.size + 2) { b with tq := qo, tc := qa } { m with table := rzTo D.table n } { D with table := rzTo D.table n } ts) := hide
        ⟨by simp only [unhide HLZ]; exact (unhide HQ2).v.set1 _, (unhide HQ2).r.other (p := ⟨w.heap.size, 1, none⟩) (by simp) _, (unhide HON).setCell (p := ⟨w.heap.size, 1, none⟩) (by simp) _, (unhide HQ2).b.setCell (p := ⟨w.heap.size, 1, none⟩) (Nat.le_refl _) _, (unhide HQ2).hB, (unhide HQ2).e1, rfl, (unhide HQ2).e3, (unhide HQ2).e4⟩
      clear HQ HQ2 HON
      go_upto_region 7 with fail
      clear c0 c1 c2 c3 z0 z1 z2 z3
      revert HQ3
      generalize (w2.setCell _ _) = W3
      intro HQ3
      have HF := hide (unhide HQ3).fin
      obtain ⟨c0, c1, c2, c3⟩ := (unhide HQ3).v.cells
      obtain ⟨r0, r1, r2, r3⟩ := (unhide HQ3).r.cells
      obtain ⟨z0, z1, z2, z3⟩ := (unhide HQ3).r.free
      go_wp2
      refine bodyPost_ret (res_im Try.results46 rfl (unhide HF).1) rfl ?_
      rw [unhide HRE]
      first | exact ⟨_, ts, by rw [← (unhide HQ3).val], (unhide HF).2.1, (unhide HF).2.2⟩ | exact ⟨_, by rw [← (unhide HQ3).val], ⟨ts, (unhide HF).2.1⟩, (unhide HF).2.2⟩

set_option maxHeartbeats 1600000 in
theorem resizeImage_spec (a : Im4) (m : Img) (g : Int) (w : World) (hL : ImL m) (hc : ImS w a m) :
    Calls Try.prog 16 #[imV a m, .int .i64 g] w fun e w' => AnsI w w' e (rsA' m g) := by
  have HE := hide (ImE.new w a m hc)
  have HL := hide hL
  have ht64 : m.table.length ≤ 9223372036854775807 := hL.t
  obtain ⟨R, HR⟩ : ∃ R, Hid (R = rsA' m g) := ⟨_, rfl⟩
  rw [← unhide HR]
  clear hc hL
  go_enter Try.func16, Try.ntmps16
  go_upto_region 1 with fail
  revert HE
  generalize ((w.alloc _).alloc _) = W0
  intro HE
  obtain ⟨c0, c1, c2, c3⟩ := (unhide HE).v.cells
  go_wp2_with fail
  refine (imageOK_spec a m _ (unhide HL) (unhide HE).s).mono ?_
  rintro e w1 ⟨rfl, hb⟩
  have HE1 := hide ((unhide HE).below hb)
  clear hb c0 c1 c2 c3 HE
  obtain ⟨c0, c1, c2, c3⟩ := (unhide HE1).v.cells
  obtain ⟨r0, r1, r2, r3⟩ := (unhide HE1).r.cells
  obtain ⟨z0, z1, z2, z3⟩ := (unhide HE1).r.free
  cases him : imB m
  · have HX : Hid (R = (im0, 1)) := hide (by rw [unhide HR, rsA', him]; rfl)
    have HZ := hide (unhide HE1).zero
    go_wp2
    refine bodyPost_ret (res_ic Try.results16 rfl rfl (unhide HZ).1) rfl ?_
    rw [unhide HX]
    exact AnsI.bad 1 (unhide HZ).2
  have HM := hide (imB_iff.1 him).M
  cases hg : betw g 0 12
  · have HX : Hid (R = (m, 4)) := hide (by rw [unhide HR, rsA', if_pos him, hg]; rfl)
    clear him HR
    go_wp2_with (first | (go_at_call 35; refine (in_any _ _ _ _).mono ?_; rintro e w' ⟨rfl, hw⟩; replace hw := hw.symm; subst hw; rw [hg]) | fail)
    refine (l10Own_M a m _ (unhide HM) (unhide HE1).s).mono ?_
    rintro e w2 ⟨b, ts, rfl, ho, hb⟩
    have HP := hide ((unhide HE1).put hb ho)
    have HE2 := hide ((unhide HE1).below hb)
    clear ho hb c0 c1 c2 c3 r0 r1 r2 r3 z0 z1 z2 z3
    obtain ⟨r0, r1, r2, r3⟩ := (unhide HE2).r.cells
    obtain ⟨z0, z1, z2, z3⟩ := (unhide HE2).r.free
    go_wp2
    refine bodyPost_ret (res_ic Try.results16 rfl rfl (unhide HP).1) rfl ?_
    rw [unhide HX]
    exact AnsI.of (R := (m, 4)) rfl rfl (unhide HP).2.1 (unhide HP).2.2
  · have HX : Hid (R = (imResize m g.toNat, 0)) := hide (by rw [unhide HR, rsA', if_pos him, if_pos hg])
    obtain ⟨l0, l1⟩ := betw_iff.1 hg
    obtain ⟨q, rfl⟩ := Int.eq_ofNat_of_zero_le l0
    rw [Int.toNat_natCast] at HX
    have hq : q ≤ 12 := by omega
    obtain ⟨R1, HR1⟩ : ∃ R1, Hid (R1 = imResize m q) := ⟨_, rfl⟩
    rw [← unhide HR1] at HX
    clear him l0 l1 HR
    go_wp2_with (go_at_call 35; refine (in_any _ _ _ _).mono ?_; rintro e w' ⟨rfl, hw⟩; replace hw := hw.symm; subst hw; rw [hg])
    refine (l10Resize_R a m q R1 _ (unhide HR1) (unhide HM) hq (unhide HE1).s).mono ?_
    rintro e w2 ⟨b, ts, rfl, ho, hb⟩
    have HP := hide ((unhide HE1).put hb ho)
    have HE2 := hide ((unhide HE1).below hb)
    clear ho hb c0 c1 c2 c3 r0 r1 r2 r3 z0 z1 z2 z3 HR1
    obtain ⟨r0, r1, r2, r3⟩ := (unhide HE2).r.cells
    obtain ⟨z0, z1, z2, z3⟩ := (unhide HE2).r.free
    go_wp2
    refine bodyPost_ret (res_ic Try.results16 rfl rfl (unhide HP).1) rfl ?_
    rw [unhide HX]
    exact AnsI.of (R := (R1, 0)) rfl rfl (unhide HP).2.1 (unhide HP).2.2

end Go.Proofs.Ytjoafbkcnnhdiab

namespace Go.Proofs.Ytjoafbkcnnhdiab
open Go.RowKit
set_option linter.unusedVariables false
set_option maxRecDepth 100000

theorem ImBd.like {m n : Img} (h : ImBd m) (e1 : n.refs.length = m.refs.length) (e2 : n.table.length ≤ 1048576) (e3 : n.snaps = m.snaps) (e4 : n.data.length = m.data.length) : ImBd n :=
  ⟨by rw [e1]; exact h.r, e2, by rw [e3]; exact h.s, by rw [e4]; exact h.d, by rw [e3]; exact h.st, by rw [e3]; exact h.k⟩
theorem rs_bd (m : Img) (n : Int) (h : imSz m ≤ 1048576) : ImBd (rsA' m n).1 := by
  unfold rsA'
  split
  · by_cases hn : betw n 0 12 = true
    · rw [if_pos hn]
      obtain ⟨l0, l1⟩ := betw_iff.1 hn
      obtain ⟨h1, h2, h3, h4⟩ := drops_lens m (m.table.drop n.toNat)
      exact (ImBd.of h).like h1 (by show (rzTo m.table n.toNat).length ≤ _; rw [rzTo_len]; omega) h4 h2
    · rw [if_neg hn]
      exact ImBd.of h
  · exact ImBd.zero

end Go.Proofs.Ytjoafbkcnnhdiab

namespace Go.Proofs.Ytjoafbkcnnhdiab
open Go.RowKit
set_option linter.unusedVariables false
set_option maxRecDepth 100000

theorem wkResizeImage (a : Im4) (m : Img) (n : Int) (w : World) (hl : m.refs.length ≤ maxLen ∧ m.table.length ≤ maxLen ∧ m.snaps.length ≤ maxLen ∧ m.data.length ≤ maxLen) (hc : ImS w a m) :
    Calls Try.prog 4 #[imV a m, .int .i64 n] w fun e w' => e = .returned (.bool true) ∧ Below w.heap.size w w' :=
  have hL : ImL m := ⟨hl.1, hl.2.1, hl.2.2.1, hl.2.2.2⟩
  lawImResizeImage a m n (rsA' m n) w hL hc (fun s hs => by obtain ⟨j, hj, rfl⟩ := List.mem_iff_getElem.1 hs; obtain ⟨_, _, _, _, _, _, _, _, h1, h2⟩ := hc.s j hj; exact ⟨h1, h2⟩) (rs_bd m n) (fun b W h => resizeImage_spec b m n W hL h) (fun b W h => resizeImage_impl b m n W hL h)

end Go.Proofs.Ytjoafbkcnnhdiab
