/- Contract of impl.landFirst: of a host's writes the first ones are sure. -/
import Derived.Test.YtoiclgeeaednnaaRows
import Derived.Test.YtoiclgeeaednnaaGen
import Derived.Test.YtoiclgeeaednnaaKeep
import Derived.Test.YtoiclgeeaednnaaDiskW
import Derived.Test.YtoiclgeeaednnaaCopy
import Derived.Test.YtoiclgeeaednnaaCopyD
import Derived.Test.YtoiclgeeaednnaaOwnF
import Derived.Test.YtoiclgeeaednnaaApp
import Derived.Test.YtoiclgeeaednnaaVars
import Derived.WalkKit
import Derived.WalkSpells
namespace Go.Proofs.Ytoiclgeeaednnaa
open Go.RowKit
set_option linter.unusedVariables false

/-- One write of a disk's, as a host's writes land: the sectors, what is left, how many may still land. -/
def stepF (h : Int) (lost : Bool) (st : List ByteArray × List Wr × Int) (x : Wr) : List ByteArray × List Wr × Int :=
  if x.host = h then (if 0 < st.2.2 then (st.1.set x.at_.toNat x.data, st.2.1, st.2.2 - 1) else if lost = true then st else (st.1, st.2.1 ++ [x], st.2.2)) else (st.1, st.2.1 ++ [x], st.2.2)
def landF (h : Int) (lost : Bool) (ss : List ByteArray) (xs : List Wr) (n : Int) : List ByteArray × List Wr × Int := xs.foldl (stepF h lost) (ss, [], n)
theorem landF_succ {h : Int} {lost : Bool} {ss : List ByteArray} {xs : List Wr} {n : Int} {k : Nat} (hk : k < xs.length) : landF h lost ss (xs.take (k + 1)) n = stepF h lost (landF h lost ss (xs.take k) n) xs[k] := by
  unfold landF
  rw [List.take_succ_eq_append_getElem hk, List.foldl_append]
  rfl
theorem step_other {h : Int} {lost : Bool} {x : Wr} (ha : x.host ≠ h) (SS : List ByteArray) (LX : List Wr) (N : Int) : stepF h lost (SS, LX, N) x = (SS, LX ++ [x], N) := by simp [stepF, ha]
theorem step_land {h : Int} {lost : Bool} {x : Wr} (ha : x.host = h) (SS : List ByteArray) (LX : List Wr) {N : Int} (hn : 0 < N) : stepF h lost (SS, LX, N) x = (SS.set x.at_.toNat x.data, LX, N - 1) := by simp [stepF, ha, hn]
theorem step_keep {h : Int} {x : Wr} (ha : x.host = h) (SS : List ByteArray) (LX : List Wr) {N : Int} (hn : ¬ 0 < N) : stepF h false (SS, LX, N) x = (SS, LX ++ [x], N) := by simp [stepF, ha, hn]

theorem VarD.set1 {w : World} {y : Nat} {a b : Value} (h : VarD w y a b) (c : Value) : VarD (w.setCell ⟨y, 1, none⟩ c) y a c := by
  unfold VarD
  rw [Joins.block_setCell h c]
  rfl
theorem VarD.setOther {w : World} {y : Nat} {a b : Value} (h : VarD w y a b) {p : Addr} (hp : p.block ≠ y) (c : Value) : VarD (w.setCell p c) y a b := by
  unfold VarD
  rw [Below.heap_setCell w p c y (fun e => hp e.symm)]
  exact h

/-- The state of a loop that lets writes land: the variable `v` of the answer, its two rows, the cell of the result. -/
structure LandSt (w : World) (v : Nat) (po : Option Addr) (pa n : Nat) (wr : World) (SS : List ByteArray) (LX : List Wr) (qo : Option Addr) (qa : Nat) : Prop where
  var : VarD wr v (.slice po n pa) (.slice qo LX.length qa)
  s : OwnR wr (w.heap.size + 2) 9 1 (.slice po n pa) n (strV SS)
  i : OwnR wr (w.heap.size + 2) 59 3 (.slice qo LX.length qa) LX.length (ioV LX)
  r : VarD wr (w.heap.size + 1) (.slice none 0 0) (.slice none 0 0)
  b : Below w.heap.size w wr

theorem LandSt.below {w : World} {v : Nat} {po : Option Addr} {pa n : Nat} {wr wr' : World} {SS : List ByteArray} {LX : List Wr} {qo : Option Addr} {qa : Nat} (h : LandSt w v po pa n wr SS LX qo qa) (hb : Below wr.heap.size wr wr') : LandSt w v po pa n wr' SS LX qo qa :=
  ⟨h.var.below hb, h.s.below hb, h.i.below hb, h.r.below hb, fr h.b hb⟩

theorem strV_set (SS : List ByteArray) (j : Nat) (d : ByteArray) : (strV SS).set j (.string d) = strV (SS.set j d) := by simp [strV, List.map_set]

theorem LandSt.form {w : World} {v : Nat} {po : Option Addr} {pa n : Nat} {wr : World} {SS : List ByteArray} {LX : List Wr} {qo : Option Addr} {qa : Nat} (h : LandSt w v po pa n wr SS LX qo qa) {j : Nat} (hj : j < n) :
    ∃ g x, po = some ⟨g, 0, none⟩ ∧ g < wr.heap.size ∧ wr.cell? ⟨g, j, none⟩ = some x ∧ wr.frozen? ⟨g, j, none⟩ = false ∧ ∀ d, LandSt w v po pa n (wr.setCell ⟨g, j, none⟩ (.string d)) (SS.set j d) LX qo qa := by
  have hpos : 0 < n := by omega
  obtain ⟨h0, -, _⟩ | ⟨_, ho⟩ := h.s
  · omega
  obtain ⟨g, cap, cur, e0, hg, hcur⟩ := own_form hpos ho
  simp only [Value.slice.injEq, true_and] at e0
  obtain ⟨rfl, rfl⟩ := e0
  have hown : Own (.slice (some ⟨g, 0, none⟩) n pa) g := own_of hpos rfl
  have hlen : (strV SS).length = n := by have := h.s.len; omega
  refine ⟨g, _, rfl, (h.s.ge g hown).2, (ho.cellAt j (by omega)).trans (List.getElem?_eq_getElem (by rw [hlen]; exact hj)), ho.frozenAt j, fun d => ?_⟩
  have hk : Keep (fun k => k = g) wr (wr.setCell ⟨g, j, none⟩ (.string d)) := Keep.setCell (S := fun k => k = g) (Keep.refl _ _) (p := ⟨g, j, none⟩) rfl _
  refine ⟨h.var.keep hk (fun e => h.s.other h.var (by decide) (e ▸ hown)), .inr ⟨hpos, ?_⟩, h.i.keep hk (fun k hk' e => own_apart h.i h.s (by decide) k hk' (e ▸ hown)), h.r.keep hk (fun e => h.s.other h.r (by decide) (e ▸ hown)), h.b.setCell (p := ⟨g, j, none⟩) (by have := (h.s.ge g hown).1; simp; omega) _⟩
  rw [← strV_set]
  exact (ho.stored j (.string d)).1

theorem LandSt.app {w : World} {v : Nat} {po : Option Addr} {pa n : Nat} {wr wA : World} {SS : List ByteArray} {LX : List Wr} {qo : Option Addr} {qa : Nat} (h : LandSt w v po pa n wr SS LX qo qa) (hv : w.heap.size ≤ v) (hne : v ≠ w.heap.size + 1) {x : Wr} {g cap : Nat}
    (ho : wA.ownsRow (w.heap.size + 2) 59 3 (.slice (some ⟨g, 0, none⟩) (LX.length + 1) cap) (LX.length + 1) (ioV LX ++ wrV x)) (hk : Keep (Own (.slice qo LX.length qa)) wr wA) :
    VarD wA v (.slice po n pa) (.slice qo LX.length qa) ∧ LandSt w v po pa n (wA.setCell ⟨v, 1, none⟩ (.slice (some ⟨g, 0, none⟩) (LX.length + 1) cap)) SS (LX ++ [x]) (some ⟨g, 0, none⟩) cap := by
  have hva := h.var.keep hk (h.i.other h.var (by decide))
  have hra := h.r.keep hk (h.i.other h.r (by decide))
  have hsa := h.s.keep hk (own_apart h.s h.i (by decide))
  have hia : OwnR wA (w.heap.size + 2) 59 3 (.slice (some ⟨g, 0, none⟩) (LX.length + 1) cap) (LX.length + 1) (ioV (LX ++ [x])) := .inr ⟨Nat.succ_pos _, by rw [ioV_snoc]; exact ho⟩
  have hba : Below w.heap.size w wA := belowKp h.b hk (fun j hj => Nat.le_trans (by omega) (h.i.ge j hj).1)
  have hl : (LX ++ [x]).length = LX.length + 1 := by simp
  have hk2 : Keep (fun j => j = v) wA (wA.setCell ⟨v, 1, none⟩ (.slice (some ⟨g, 0, none⟩) (LX.length + 1) cap)) := Keep.setCell (S := fun j => j = v) (Keep.refl _ _) (p := ⟨v, 1, none⟩) rfl _
  refine ⟨hva, ?_, hsa.keep hk2 (fun j hj e => hsa.other hva (by decide) (e ▸ hj)), ?_, hra.keep hk2 (fun e => hne e.symm), hba.setCell (p := ⟨v, 1, none⟩) hv _⟩
  · rw [hl]; exact hva.set1 _
  · rw [hl]; exact hia.keep hk2 (fun j hj e => hia.other hva (by decide) (e ▸ hj))

set_option maxRecDepth 100000 in
set_option maxHeartbeats 3200000 in
theorem landFirst_any (ao bo : Option Addr) (ca cb : Nat) (ss : List ByteArray) (xs : List Wr) (h n : Int) (w : World) (hn0 : 0 ≤ n) (hn1 : n ≤ 1048576) (hl : ss.length ≤ 1048576) (hm : xs.length ≤ 200) (hat : ∀ i (hi : i < xs.length), 0 ≤ xs[i].at_ ∧ xs[i].at_ < ss.length) (h1 : Ss w ao ss) (h2 : Ios w bo xs) :
    Calls Try.prog 37 #[.agg #[.slice ao ss.length ca, .slice bo xs.length cb], .int .i64 h, .int .i64 n] w fun e w' => ∃ po pa qo qa, e = .returned (.agg #[.slice po ss.length pa, .slice qo (landF h false ss xs n).2.1.length qa]) ∧ OwnD w' w.heap.size po ss.length pa qo (landF h false ss xs n).2.1.length qa (landF h false ss xs n).1 (landF h false ss xs n).2.1 ∧ Below w.heap.size w w' := by
  have HA := hide (Joins.below_alloc2 w (.cells #[.slice ao ss.length ca, .slice bo xs.length cb] 26) (.cells #[.slice none 0 0, .slice none 0 0] 26))
  have H1 := hide (h1.below (unhide HA))
  have H2 := hide (h2.below (unhide HA))
  have HV := hide ((VarD.new w (.slice ao ss.length ca) (.slice bo xs.length cb)).below (Joins.below_alloc1 _ (.cells #[.slice none 0 0, .slice none 0 0] 26)))
  have HR : Hid (VarD ((w.alloc (.cells #[.slice ao ss.length ca, .slice bo xs.length cb] 26)).alloc (.cells #[.slice none 0 0, .slice none 0 0] 26)) (w.heap.size + 1) (.slice none 0 0) (.slice none 0 0)) := hide (by have := VarD.new (w.alloc (.cells #[.slice ao ss.length ca, .slice bo xs.length cb] 26)) (.slice none 0 0) (.slice none 0 0); simp only [World.size_alloc] at this; exact this)
  have HX0 := hide h2
  have HAT := hide hat
  have HLEN := hide hl
  clear h1 h2 hat hl
  obtain ⟨j0, hj, hy0, hy1, hy2⟩ := info_parts infoW
  go_enter Try.func37, Try.ntmps37
  go_wp2_with fail
  refine (copyS_any ao ca ss _ (unhide HLEN) (unhide H1)).mono ?_
  rintro e w1 ⟨po, pa, rfl, ho1, hb1⟩
  have HV1 := hide ((unhide HV).below hb1)
  have HR1 := hide ((unhide HR).below hb1)
  have HX1 := hide ((unhide H2).below hb1)
  have HB1 := hide (fr (unhide HA) hb1)
  have HO1 := hide (ho1.base (B' := w.heap.size + 2) (by simp))
  have hlt1 : w.heap.size + 1 < w1.heap.size := (unhide HR1).lt
  have hlt0 : w.heap.size < w1.heap.size := (unhide HV1).lt
  clear ho1 hb1
  obtain ⟨hv0, hv1⟩ := (unhide HV1).cells
  have HST : Hid (LandSt w w1.heap.size po pa ss.length (w1.alloc (.cells #[.slice po ss.length pa, .slice none 0 0] 26)) ss [] none 0) := hide ⟨VarD.new w1 _ _, (unhide HO1).below (Joins.below_alloc1 _ _), .inl ⟨rfl, rfl, none, rfl⟩, (unhide HR1).below (Joins.below_alloc1 _ _), fr (unhide HB1) (Joins.below_alloc1 _ _)⟩
  go_wp2
  go_loopw [2, 9, 17] (fun c _ i wr => ∃ (k : Nat) (SS : List ByteArray) (LX : List Wr) (N : Int) (qo : Option Addr) (qa : Nat), k ≤ xs.length ∧ i = .int .i64 k ∧ c = .int .i64 N ∧ 0 ≤ N ∧ N ≤ 1048576 ∧ LX.length ≤ k ∧ Hid (landF h false ss (xs.take k) n = (SS, LX, N)) ∧ Hid (LandSt w w1.heap.size po pa ss.length wr SS LX qo qa)) (fun _ _ i _ => xs.length - (intOf i).toNat)
  case atStart => exact ⟨0, ss, [], n, none, 0, Nat.zero_le _, rfl, rfl, hn0, hn1, Nat.le_refl _, hide rfl, HST⟩
  case round =>
    obtain ⟨k, SS, LX, N, qo, qa, hk, rfl, rfl, hN0, hN1, hLX, HL, HS⟩ := hrel
    clear HST
    obtain ⟨hw0, hw1⟩ := (unhide HS).var.cells
    obtain ⟨hr0, hr1⟩ := (unhide HS).r.cells
    have hlw := (unhide HS).var.lt
    by_cases hlt : k < xs.length
    · obtain ⟨b, off, rfl, hc0, hc1, hc2, hz⟩ := (unhide HX0).below (unhide HS).b k hlt
      clear hz
      obtain ⟨a, ha, hal⟩ : ∃ a : Nat, xs[k].at_ = (a : Int) ∧ a < ss.length := ⟨xs[k].at_.toNat, by have := unhide HAT k hlt; omega, by have := unhide HAT k hlt; omega⟩
      rw [ha] at hc1
      obtain ⟨g, x0, rfl, hgl, hgc, hgf, hset⟩ := ((unhide HS).below (Joins.below_alloc1 _ (.cells #[.int .i64 xs[k].host, .int .i64 a, .string xs[k].data] 59))).form hal
      have HSET := hide (hset xs[k].data)
      have HSA := hide ((unhide HS).below (Joins.below_alloc1 _ (.cells #[.int .i64 xs[k].host, .int .i64 a, .string xs[k].data] 59)))
      have HA := hide ha
      clear ha hset
      have HX := hide (show (⟨xs[k].host, a, xs[k].data⟩ : Wr) = xs[k] by rw [← unhide HA])
      have HSB := hide ((unhide HSA).below (Joins.below_alloc1 _ (.cells #[.int .i64 xs[k].host, .int .i64 a, .string xs[k].data] 59)))
      have HI : Hid (VarI ((wr.alloc (.cells #[.int .i64 xs[k].host, .int .i64 a, .string xs[k].data] 59)).alloc (.cells #[.int .i64 xs[k].host, .int .i64 a, .string xs[k].data] 59)) (wr.heap.size + 1) ⟨xs[k].host, a, xs[k].data⟩) := hide (VarI.top (x := ⟨xs[k].host, a, xs[k].data⟩) (by simp))
      by_cases e0 : xs[k].host = h
      · by_cases hN : 0 < N
        · have HN := hide (step_land (lost := false) e0 SS LX hN)
          have b0 : (xs[k].host == h) = true := by simp [e0]
          clear e0
          go_wp2
          go_roundw
          case rel => exact ⟨k + 1, SS.set a xs[k].data, LX, N - 1, qo, qa, by omega, by go_num, by go_num, by omega, by omega, by omega, hide (by rw [landF_succ hlt, unhide HL, unhide HN, unhide HA]; rfl), HSET⟩
          case measure => simp [intOf]; omega
        · have HN := hide (step_keep e0 SS LX hN)
          have b0 : (xs[k].host == h) = true := by simp [e0]
          clear e0
          go_wp2_with (at_builtin; refine wpList_append_one rfl _ _ 24 rfl (w.heap.size + 2) 59 j0 (.agg #[.int .i64 0, .int .i64 0, .string ⟨#[]⟩]) 3 32 Try.underlying24 hj hy0 hy1 hy2 rfl (by omega) qo LX.length qa (ioV LX) rfl (unhide HSB).i (by simp; omega) ⟨wr.heap.size + 1, 0, none⟩ _ (wrV ⟨xs[k].host, a, xs[k].data⟩) rfl rfl (unhide HI).news (wrV_one _) (by unfold maxLen; omega) (by omega) ?_; intro g2 cap wA hoA hkA; obtain ⟨hvA, hsA⟩ := (unhide HSB).app (by omega) (by omega) hoA hkA; have HSF := hide hsA; obtain ⟨hA0, hA1⟩ := hvA.cells; have hA2 := hvA.free 1; clear hoA hkA hvA hsA)
          go_roundw
          case rel => exact ⟨k + 1, SS, LX ++ [⟨xs[k].host, a, xs[k].data⟩], N, _, _, by omega, by go_num, by go_num, by omega, by omega, by simp; omega, hide (by rw [landF_succ hlt, unhide HL, unhide HN, unhide HX]), HSF⟩
          case measure => simp [intOf]; omega
      · have HN := hide (step_other (lost := false) e0 SS LX N)
        have b0 : (xs[k].host == h) = false := by simp [e0]
        clear e0
        go_wp2_with (at_builtin; refine wpList_append_one rfl _ _ 24 rfl (w.heap.size + 2) 59 j0 (.agg #[.int .i64 0, .int .i64 0, .string ⟨#[]⟩]) 3 32 Try.underlying24 hj hy0 hy1 hy2 rfl (by omega) qo LX.length qa (ioV LX) rfl (unhide HSB).i (by simp; omega) ⟨wr.heap.size + 1, 0, none⟩ _ (wrV ⟨xs[k].host, a, xs[k].data⟩) rfl rfl (unhide HI).news (wrV_one _) (by unfold maxLen; omega) (by omega) ?_; intro g2 cap wA hoA hkA; obtain ⟨hvA, hsA⟩ := (unhide HSB).app (by omega) (by omega) hoA hkA; have HSF := hide hsA; obtain ⟨hA0, hA1⟩ := hvA.cells; have hA2 := hvA.free 1; clear hoA hkA hvA hsA)
        go_roundw
        case rel => exact ⟨k + 1, SS, LX ++ [⟨xs[k].host, a, xs[k].data⟩], N, _, _, by omega, by go_num, by go_num, by omega, by omega, by simp; omega, hide (by rw [landF_succ hlt, unhide HL, unhide HN, unhide HX]), HSF⟩
        case measure => simp [intOf]; omega
    · have HF : Hid (landF h false ss xs n = (SS, LX, N)) := by
        have := unhide HL
        rw [List.take_of_length_le (by omega)] at this
        exact hide this
      have HE := hide (copyD_end (w := w) (wL := wr) ⟨(unhide HS).s, (unhide HS).i⟩ (unhide HS).b (.slice po ss.length pa) (.slice qo LX.length qa))
      have hr2 := (unhide HS).r.free 0
      have hr3 := (unhide HS).r.free 1
      have hlr := (unhide HS).r.lt
      go_wp2
      rw [unhide HF]
      exact bodyPost_ret (v := .agg #[.slice po ss.length pa, .slice qo LX.length qa]) (by simp [results, Try.results37, go_sem, hr0, hr1]) rfl ⟨po, pa, qo, qa, rfl, (unhide HE).1, (unhide HE).2⟩

end Go.Proofs.Ytoiclgeeaednnaa
