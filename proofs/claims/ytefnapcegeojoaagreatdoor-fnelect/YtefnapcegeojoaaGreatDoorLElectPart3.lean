import Derived.Test.YtefnapcegeojoaaGreatDoorRows
import Derived.Test.YtefnapcegeojoaaGreatDoorLElectPart1
import Derived.Test.YtefnapcegeojoaaGreatDoorLElectPart2
import Derived.WalkKit
import Derived.WalkSpells
import Derived.Deep.RegionLawGrows
import Derived.Deep.RegionLaw
import Derived.Deep.AppendLies
import Derived.Deep.RegionWith
import Derived.Laws.BytesArg

namespace Go.Proofs.YtefnapcegeojoaaGreatDoor
open Go.RowKit
set_option linter.unusedVariables false

structure LandSp (w : World) (B : Nat) (po : Option Addr) (pa n : Nat) (mo : Option Addr) (ma : Nat) (xs : List Wr) (wr : World) (SS : List ByteArray) (LX : List Wr) (qo : Option Addr) (qa : Nat) : Prop where
  var : VarD wr w.heap.size (.slice po n pa) (.slice mo xs.length ma)
  s : OwnR wr (w.heap.size + 2) 9 1 (.slice po n pa) n (strV SS)
  x : OwnR wr (w.heap.size + 2) 75 3 (.slice mo xs.length ma) xs.length (ioV xs)
  i : OwnR wr B 75 3 (.slice qo LX.length qa) LX.length (ioV LX)
  r : VarD wr (w.heap.size + 1) (.slice none 0 0) (.slice none 0 0)
  b : Below w.heap.size w wr
  old : ∀ g, Own (.slice mo xs.length ma) g → g < B
  base : w.heap.size + 2 ≤ B
  size : B ≤ wr.heap.size

theorem LandSp.below {w : World} {B : Nat} {po : Option Addr} {pa n : Nat} {mo : Option Addr} {ma : Nat} {xs : List Wr} {wr wr' : World} {SS : List ByteArray} {LX : List Wr} {qo : Option Addr} {qa : Nat} (h : LandSp w B po pa n mo ma xs wr SS LX qo qa) (hb : Below wr.heap.size wr wr') : LandSp w B po pa n mo ma xs wr' SS LX qo qa :=
  ⟨h.var.below hb, h.s.below hb, h.x.below hb, h.i.below hb, h.r.below hb, fr h.b hb, h.old, h.base, Nat.le_trans h.size hb.size⟩

theorem LandSp.form {w : World} {B : Nat} {po : Option Addr} {pa n : Nat} {mo : Option Addr} {ma : Nat} {xs : List Wr} {wr : World} {SS : List ByteArray} {LX : List Wr} {qo : Option Addr} {qa : Nat} (h : LandSp w B po pa n mo ma xs wr SS LX qo qa) {j : Nat} (hj : j < n) :
    ∃ g x, po = some ⟨g, 0, none⟩ ∧ g < wr.heap.size ∧ wr.cell? ⟨g, j, none⟩ = some x ∧ wr.frozen? ⟨g, j, none⟩ = false ∧ ∀ d, LandSp w B po pa n mo ma xs (wr.setCell ⟨g, j, none⟩ (.string d)) (SS.set j d) LX qo qa := by
  have hpos : 0 < n := by omega
  obtain ⟨h0, -, _⟩ | ⟨_, ho⟩ := h.s
  · omega
  obtain ⟨g, cap, cur, e0, hg, hcur⟩ := own_form hpos ho
  simp only [Value.slice.injEq, true_and] at e0
  obtain ⟨rfl, rfl⟩ := e0
  have hown : Own (.slice (some ⟨g, 0, none⟩) n pa) g := own_of hpos rfl
  have hlen : (strV SS).length = n := by have := h.s.len; omega
  refine ⟨g, _, rfl, (h.s.ge g hown).2, (ho.cellAt j (by omega)).trans (List.getElem?_eq_getElem (by rw [hlen]; exact hj)), ho.frozenAt j, fun d => ?_⟩
  have hk : Keep (fun k => k = g) wr (wr.setCell ⟨g, j, none⟩ (.string d)) := Keep.setCell (S := fun k => k = g) (Keep.refl _ _) (p := ⟨g, j, none⟩) rfl _
  refine ⟨h.var.keep hk (fun e => h.s.other h.var (by decide) (e ▸ hown)), .inr ⟨hpos, ?_⟩, h.x.keep hk (fun k hk' e => own_apart h.x h.s (by decide) k hk' (e ▸ hown)), h.i.keep hk (fun k hk' e => own_apart h.i h.s (by decide) k hk' (e ▸ hown)), h.r.keep hk (fun e => h.s.other h.r (by decide) (e ▸ hown)), h.b.setCell (p := ⟨g, j, none⟩) (by have := (h.s.ge g hown).1; simp; omega) _, h.old, h.base, Nat.le_trans h.size hk.size⟩
  rw [← strV_set]
  exact (ho.stored j (.string d)).1

theorem LandSp.app {w : World} {B : Nat} {po : Option Addr} {pa n : Nat} {mo : Option Addr} {ma : Nat} {xs : List Wr} {wr wA : World} {SS : List ByteArray} {LX : List Wr} {qo : Option Addr} {qa : Nat} (h : LandSp w B po pa n mo ma xs wr SS LX qo qa) {x : Wr} {g cap : Nat}
    (ho : wA.ownsRow B 75 3 (.slice (some ⟨g, 0, none⟩) (LX.length + 1) cap) (LX.length + 1) (ioV LX ++ wrV x)) (hk : Keep (Own (.slice qo LX.length qa)) wr wA) :
    LandSp w B po pa n mo ma xs wA SS (LX ++ [x]) (some ⟨g, 0, none⟩) cap := by
  have hl : (LX ++ [x]).length = LX.length + 1 := by simp
  refine ⟨h.var.keep hk (h.i.other h.var (by decide)), h.s.keep hk (own_apart h.s h.i (by decide)), h.x.keep hk (fun j hj hq => by have := h.old j hj; have := (h.i.ge j hq).1; omega), ?_, h.r.keep hk (h.i.other h.r (by decide)), belowKp h.b hk (fun j hj => Nat.le_trans (by have := h.base; omega) (h.i.ge j hj).1), h.old, h.base, Nat.le_trans h.size hk.size⟩
  rw [hl]
  exact .inr ⟨Nat.succ_pos _, by rw [ioV_snoc]; exact ho⟩

theorem VarD.set0 {w : World} {y : Nat} {a b : Value} (h : VarD w y a b) (c : Value) : VarD (w.setCell ⟨y, 0, none⟩ c) y c b := by
  unfold VarD
  rw [Joins.block_setCell h c]
  rfl
theorem step_drop {h : Int} {x : Wr} (ha : x.host = h) (SS : List ByteArray) (LX : List Wr) {N : Int} (hn : ¬ 0 < N) : stepF h true (SS, LX, N) x = (SS, LX, N) := by simp [stepF, ha, hn]

theorem LandSp.new {w w1 : World} {po : Option Addr} {pa n : Nat} {mo : Option Addr} {ma : Nat} {ss : List ByteArray} {xs : List Wr} {a b : Value} (hv : VarD w1 w.heap.size a b) (hr : VarD w1 (w.heap.size + 1) (.slice none 0 0) (.slice none 0 0)) (ho : OwnD w1 (w.heap.size + 2) po n pa mo xs.length ma ss xs) (hb : Below w.heap.size w w1) (o : Obj) (ao : Option Addr) :
    LandSp w w1.heap.size po pa n mo ma xs (((w1.setCell ⟨w.heap.size, 0, none⟩ (.slice po n pa)).setCell ⟨w.heap.size, 1, none⟩ (.slice mo xs.length ma)).alloc o) ss [] ao 0 := by
  have h1 := (hv.set0 (.slice po n pa)).set1 (.slice mo xs.length ma)
  have h2 := (ho.setCell (a := ⟨w.heap.size, 0, none⟩) (by simp) (.slice po n pa)).setCell (a := ⟨w.heap.size, 1, none⟩) (by simp) (.slice mo xs.length ma)
  have h3 := (hr.setOther (p := ⟨w.heap.size, 0, none⟩) (by simp) (.slice po n pa)).setOther (p := ⟨w.heap.size, 1, none⟩) (by simp) (.slice mo xs.length ma)
  have h4 := (hb.setCell (p := ⟨w.heap.size, 0, none⟩) (by simp) (.slice po n pa)).setCell (p := ⟨w.heap.size, 1, none⟩) (by simp) (.slice mo xs.length ma)
  exact ⟨h1.below (Joins.below_alloc1 _ _), h2.s.below (Joins.below_alloc1 _ _), h2.i.below (Joins.below_alloc1 _ _), .inl ⟨rfl, rfl, ao, rfl⟩, h3.below (Joins.below_alloc1 _ _), fr h4 (Joins.below_alloc1 _ _), fun g hg => (ho.i.ge g hg).2, hr.lt, by simp⟩

theorem landSp_end {w wr : World} {B : Nat} {po : Option Addr} {pa n : Nat} {mo : Option Addr} {ma : Nat} {xs : List Wr} {SS : List ByteArray} {LX : List Wr} {qo : Option Addr} {qa : Nat} (h : LandSp w B po pa n mo ma xs wr SS LX qo qa) (a b c : Value) :
    OwnD (((wr.setCell ⟨w.heap.size, 1, none⟩ a).setCell ⟨w.heap.size + 1, 0, none⟩ b).setCell ⟨w.heap.size + 1, 1, none⟩ c) w.heap.size po n pa qo LX.length qa SS LX ∧ Below w.heap.size w (((wr.setCell ⟨w.heap.size, 1, none⟩ a).setCell ⟨w.heap.size + 1, 0, none⟩ b).setCell ⟨w.heap.size + 1, 1, none⟩ c) :=
  copyD_end (OwnD.setCell ⟨h.s, h.i.base h.base⟩ (a := ⟨w.heap.size, 1, none⟩) (by simp) a) (h.b.setCell (p := ⟨w.heap.size, 1, none⟩) (by simp) a) b c

set_option maxRecDepth 100000 in
set_option maxHeartbeats 3200000 in
theorem l01Land_any (ao bo : Option Addr) (ca cb : Nat) (ss : List ByteArray) (xs : List Wr) (h n : Int) (lost : Bool) (w : World) (hn0 : 0 ≤ n) (hn1 : n ≤ 1048576) (hl : ss.length ≤ 1048576) (hm : xs.length ≤ 200) (hat : ∀ i (hi : i < xs.length), 0 ≤ xs[i].at_ ∧ xs[i].at_ < ss.length) (h1 : Ss w ao ss) (h2 : Ios w bo xs) :
    Calls Tryz.prog 98 #[.agg #[.slice ao ss.length ca, .slice bo xs.length cb], .int .i64 h, .int .i64 n, .bool lost] w fun e w' => ∃ po pa qo qa, e = .returned (.agg #[.slice po ss.length pa, .slice qo (landF h lost ss xs n).2.1.length qa]) ∧ OwnD w' w.heap.size po ss.length pa qo (landF h lost ss xs n).2.1.length qa (landF h lost ss xs n).1 (landF h lost ss xs n).2.1 ∧ Below w.heap.size w w' := by
  have HA := hide (Joins.below_alloc2 w (.cells #[.slice ao ss.length ca, .slice bo xs.length cb] 26) (.cells #[.slice none 0 0, .slice none 0 0] 26))
  have H1 := hide (h1.below (unhide HA))
  have H2 := hide (h2.below (unhide HA))
  have HV := hide ((VarD.new w (.slice ao ss.length ca) (.slice bo xs.length cb)).below (Joins.below_alloc1 _ (.cells #[.slice none 0 0, .slice none 0 0] 26)))
  have HR : Hid (VarD ((w.alloc (.cells #[.slice ao ss.length ca, .slice bo xs.length cb] 26)).alloc (.cells #[.slice none 0 0, .slice none 0 0] 26)) (w.heap.size + 1) (.slice none 0 0) (.slice none 0 0)) := hide (by have := VarD.new (w.alloc (.cells #[.slice ao ss.length ca, .slice bo xs.length cb] 26)) (.slice none 0 0) (.slice none 0 0); simp only [World.size_alloc] at this; exact this)
  have HZ : Hid (∀ x ∈ xs, x.data.size ≤ maxLen) := hide (by
    intro x hx
    obtain ⟨k, hk, rfl⟩ := List.getElem_of_mem hx
    obtain ⟨b, off, _, _, _, _, hz⟩ := h2 k hk
    exact hz)
  have HAT := hide hat
  have HLEN := hide hl
  clear h1 h2 hat hl
  obtain ⟨j0, hj, hy0, hy1, hy2⟩ := info_parts infoW
  go_enter Tryz.func98, Tryz.ntmps98
  go_wp2_with fail
  refine (l01Own_any ao bo ca cb ss xs _ (unhide HLEN) (by omega) (unhide H1) (unhide H2)).mono ?_
  rintro e w1 ⟨po, pa, mo, ma, rfl, ho1, hb1⟩
  have HV1 := hide ((unhide HV).below hb1)
  have HR1 := hide ((unhide HR).below hb1)
  have HB1 := hide (fr (unhide HA) hb1)
  have HO1 := hide (ho1.base (B' := w.heap.size + 2) (by simp))
  have hlt1 : w.heap.size + 1 < w1.heap.size := (unhide HR1).lt
  have hlt0 : w.heap.size < w1.heap.size := (unhide HV1).lt
  clear ho1 hb1
  obtain ⟨hv0, hv1⟩ := (unhide HV1).cells
  have hv2 := (unhide HV1).free 0
  have hv3 := (unhide HV1).free 1
  have HST := hide (LandSp.new (unhide HV1) (unhide HR1) (unhide HO1) (unhide HB1) (.cells #[] 75) (some ⟨w1.heap.size, 0, none⟩))
  go_wp2
  go_loopw [2, 9, 10, 11] (fun c l i _ wr => ∃ (k : Nat) (SS : List ByteArray) (LX : List Wr) (N : Int) (qo : Option Addr) (qa : Nat), k ≤ xs.length ∧ i = .int .i64 k ∧ c = .int .i64 N ∧ l = .slice qo LX.length qa ∧ 0 ≤ N ∧ N ≤ 1048576 ∧ LX.length ≤ k ∧ Hid (landF h lost ss (xs.take k) n = (SS, LX, N)) ∧ Hid (LandSp w w1.heap.size po pa ss.length mo ma xs wr SS LX qo qa)) (fun _ _ i _ _ => xs.length - (intOf i).toNat)
  case atStart => exact ⟨0, ss, [], n, _, 0, Nat.zero_le _, rfl, rfl, rfl, hn0, hn1, Nat.le_refl _, hide rfl, HST⟩
  case round =>
    obtain ⟨k, SS, LX, N, qo, qa, hk, rfl, rfl, rfl, hN0, hN1, hLX, HL, HS⟩ := hrel
    clear HST
    obtain ⟨hw0, hw1⟩ := (unhide HS).var.cells
    obtain ⟨hr0, hr1⟩ := (unhide HS).r.cells
    have hlw := (unhide HS).var.lt
    by_cases hlt : k < xs.length
    · obtain ⟨b, off, rfl, hc0, hc1, hc2, hz⟩ := (OwnD.ios ⟨(unhide HS).s, (unhide HS).x⟩ (unhide HZ)) k hlt
      clear hz
      obtain ⟨a, ha, hal⟩ : ∃ a : Nat, xs[k].at_ = (a : Int) ∧ a < ss.length := ⟨xs[k].at_.toNat, by have := unhide HAT k hlt; omega, by have := unhide HAT k hlt; omega⟩
      rw [ha] at hc1
      obtain ⟨g, x0, rfl, hgl, hgc, hgf, hset⟩ := ((unhide HS).below (Joins.below_alloc1 _ (.cells #[.int .i64 xs[k].host, .int .i64 a, .string xs[k].data] 75))).form hal
      have HSET := hide (hset xs[k].data)
      have HSA := hide ((unhide HS).below (Joins.below_alloc1 _ (.cells #[.int .i64 xs[k].host, .int .i64 a, .string xs[k].data] 75)))
      have HA := hide ha
      clear ha hset
      have HX := hide (show (⟨xs[k].host, a, xs[k].data⟩ : Wr) = xs[k] by rw [← unhide HA])
      have HSB := hide ((unhide HSA).below (Joins.below_alloc1 _ (.cells #[.int .i64 xs[k].host, .int .i64 a, .string xs[k].data] 75)))
      have HI : Hid (VarI ((wr.alloc (.cells #[.int .i64 xs[k].host, .int .i64 a, .string xs[k].data] 75)).alloc (.cells #[.int .i64 xs[k].host, .int .i64 a, .string xs[k].data] 75)) (wr.heap.size + 1) ⟨xs[k].host, a, xs[k].data⟩) := hide (VarI.top (x := ⟨xs[k].host, a, xs[k].data⟩) (by simp))
      by_cases e0 : xs[k].host = h
      · by_cases hN : 0 < N
        · have HN := hide (step_land (lost := lost) e0 SS LX hN)
          have b0 : (xs[k].host != h) = false := by simp [e0]
          clear e0
          go_wp2
          go_roundw
          case rel => exact ⟨k + 1, SS.set a xs[k].data, LX, N - 1, qo, qa, by omega, by go_num, by go_num, rfl, by omega, by omega, by omega, hide (by rw [landF_succ hlt, unhide HL, unhide HN, unhide HA]; rfl), HSET⟩
          case measure => simp [intOf]; omega
        · cases lost with
          | false =>
            have HN := hide (step_keep e0 SS LX hN)
            have b0 : (xs[k].host != h) = false := by simp [e0]
            clear e0
            go_wp2_with (at_builtin; refine wpList_append_one rfl _ _ 24 rfl w1.heap.size 75 j0 (.agg #[.int .i64 0, .int .i64 0, .string ⟨#[]⟩]) 3 32 Tryz.underlying24 hj hy0 hy1 hy2 rfl (by omega) qo LX.length qa (ioV LX) rfl (unhide HSB).i (unhide HSB).size ⟨wr.heap.size + 1, 0, none⟩ _ (wrV ⟨xs[k].host, a, xs[k].data⟩) rfl rfl (unhide HI).news (wrV_one _) (by unfold maxLen; omega) (by omega) ?_; intro g2 cap wA hoA hkA; have HSF := hide ((unhide HSB).app hoA hkA); clear hoA hkA)
            go_roundw
            case rel => exact ⟨k + 1, SS, LX ++ [⟨xs[k].host, a, xs[k].data⟩], N, _, _, by omega, by go_num, by go_num, by simp, by omega, by omega, by simp; omega, hide (by rw [landF_succ hlt, unhide HL, unhide HN, unhide HX]), HSF⟩
            case measure => simp [intOf]; omega
          | true =>
            have HN := hide (step_drop e0 SS LX hN)
            have b0 : (xs[k].host != h) = false := by simp [e0]
            clear e0
            go_wp2
            go_roundw
            case rel => exact ⟨k + 1, SS, LX, N, qo, qa, by omega, by go_num, by go_num, rfl, by omega, by omega, by omega, hide (by rw [landF_succ hlt, unhide HL, unhide HN]), HSA⟩
            case measure => simp [intOf]; omega
      · have HN := hide (step_other (lost := lost) e0 SS LX N)
        have b0 : (xs[k].host != h) = true := by simp [e0]
        clear e0
        go_wp2_with (at_builtin; refine wpList_append_one rfl _ _ 24 rfl w1.heap.size 75 j0 (.agg #[.int .i64 0, .int .i64 0, .string ⟨#[]⟩]) 3 32 Tryz.underlying24 hj hy0 hy1 hy2 rfl (by omega) qo LX.length qa (ioV LX) rfl (unhide HSB).i (unhide HSB).size ⟨wr.heap.size + 1, 0, none⟩ _ (wrV ⟨xs[k].host, a, xs[k].data⟩) rfl rfl (unhide HI).news (wrV_one _) (by unfold maxLen; omega) (by omega) ?_; intro g2 cap wA hoA hkA; have HSF := hide ((unhide HSB).app hoA hkA); clear hoA hkA)
        go_roundw
        case rel => exact ⟨k + 1, SS, LX ++ [⟨xs[k].host, a, xs[k].data⟩], N, _, _, by omega, by go_num, by go_num, by simp, by omega, by omega, by simp; omega, hide (by rw [landF_succ hlt, unhide HL, unhide HN, unhide HX]), HSF⟩
        case measure => simp [intOf]; omega
    · have HF : Hid (landF h lost ss xs n = (SS, LX, N)) := by
        have := unhide HL
        rw [List.take_of_length_le (by omega)] at this
        exact hide this
      have HE := hide (landSp_end (unhide HS) (.slice qo LX.length qa) (.slice po ss.length pa) (.slice qo LX.length qa))
      have hr2 := (unhide HS).r.free 0
      have hr3 := (unhide HS).r.free 1
      have hv4 := (unhide HS).var.free 1
      have hlr := (unhide HS).r.lt
      go_wp2
      rw [unhide HF]
      exact bodyPost_ret (v := .agg #[.slice po ss.length pa, .slice qo LX.length qa]) (by simp [results, Tryz.results98, go_sem, hr0, hr1]) rfl ⟨po, pa, qo, qa, rfl, (unhide HE).1, (unhide HE).2⟩

end Go.Proofs.YtefnapcegeojoaaGreatDoor

namespace Go.Proofs.YtefnapcegeojoaaGreatDoor
open Go.RowKit
set_option linter.unusedVariables false
set_option maxRecDepth 100000

end Go.Proofs.YtefnapcegeojoaaGreatDoor

namespace Go.Proofs.YtefnapcegeojoaaGreatDoor
open Go.RowKit
set_option linter.unusedVariables false

theorem land_inv (h : Int) (lost : Bool) (P : ByteArray → Prop) : ∀ (xs : List Wr) (SS : List ByteArray) (LX : List Wr) (N : Int), (∀ s ∈ SS, P s) → (∀ x ∈ xs, P x.data) → (∀ x ∈ LX, P x.data) →
    (∀ s ∈ (xs.foldl (stepF h lost) (SS, LX, N)).1, P s) ∧ (∀ x ∈ (xs.foldl (stepF h lost) (SS, LX, N)).2.1, P x.data) ∧ (xs.foldl (stepF h lost) (SS, LX, N)).1.length = SS.length ∧ (xs.foldl (stepF h lost) (SS, LX, N)).2.1.length ≤ LX.length + xs.length
  | [], SS, LX, N, h1, _, h3 => ⟨h1, h3, rfl, Nat.le_refl _⟩
  | x :: xs, SS, LX, N, h1, h2, h3 => by
    have hx := h2 x (List.mem_cons_self ..)
    have hr : ∀ y ∈ xs, P y.data := fun y hy => h2 y (List.mem_cons_of_mem _ hy)
    have happ : ∀ y ∈ LX ++ [x], P y.data := by
      intro y hy
      rcases List.mem_append.1 hy with h | h
      · exact h3 y h
      · simp at h; subst h; exact hx
    have hset : ∀ s ∈ SS.set x.at_.toNat x.data, P s := by
      intro s hs
      rcases List.mem_or_eq_of_mem_set hs with h | h
      · exact h1 s h
      · rw [h]; exact hx
    rw [List.foldl_cons]
    by_cases ha : x.host = h
    · by_cases hn : 0 < N
      · rw [step_land ha SS LX hn]
        obtain ⟨q1, q2, q3, q4⟩ := land_inv h lost P xs (SS.set x.at_.toNat x.data) LX (N - 1) hset hr h3
        exact ⟨q1, q2, by rw [q3, List.length_set], by simp only [List.length_cons]; omega⟩
      · cases lost
        · rw [step_keep ha SS LX hn]
          obtain ⟨q1, q2, q3, q4⟩ := land_inv h false P xs SS (LX ++ [x]) N h1 hr happ
          exact ⟨q1, q2, q3, by simp only [List.length_cons, List.length_append, List.length_nil] at q4 ⊢; omega⟩
        · rw [step_drop ha SS LX hn]
          obtain ⟨q1, q2, q3, q4⟩ := land_inv h true P xs SS LX N h1 hr h3
          exact ⟨q1, q2, q3, by simp only [List.length_cons]; omega⟩
    · rw [step_other ha SS LX N]
      obtain ⟨q1, q2, q3, q4⟩ := land_inv h lost P xs SS (LX ++ [x]) N h1 hr happ
      exact ⟨q1, q2, q3, by simp only [List.length_cons, List.length_append, List.length_nil] at q4 ⊢; omega⟩
theorem landF_inv {h n : Int} {lost : Bool} {ss : List ByteArray} {xs : List Wr} (P : ByteArray → Prop) (h1 : ∀ s ∈ ss, P s) (h2 : ∀ x ∈ xs, P x.data) :
    (∀ s ∈ (landF h lost ss xs n).1, P s) ∧ (∀ x ∈ (landF h lost ss xs n).2.1, P x.data) ∧ (landF h lost ss xs n).1.length = ss.length ∧ (landF h lost ss xs n).2.1.length ≤ xs.length := by
  have := land_inv h lost P xs ss [] n h1 h2 (fun _ h => by cases h)
  simpa [landF] using this

theorem diskB_at {ss : List ByteArray} {xs : List Wr} (h : diskB ss xs = true) : ∀ i (hi : i < xs.length), 0 ≤ xs[i].at_ ∧ xs[i].at_ < ss.length := by
  intro i hi
  have hl := (diskB_len h).1
  simp only [diskB, penB, Bool.and_eq_true, List.all_eq_true] at h
  have := h.2.2 xs[i] (List.getElem_mem hi)
  simp only [ioB, Bool.and_eq_true, decide_eq_true_eq] at this
  omega

def flS (ss : List ByteArray) (xs : List Wr) (h : Int) : List ByteArray := if hostC ss xs h = 0 then (landF h false ss xs 200).1 else []
def flX (ss : List ByteArray) (xs : List Wr) (h : Int) : List Wr := if hostC ss xs h = 0 then (landF h false ss xs 200).2.1 else []
theorem fl_ok {ss : List ByteArray} {xs : List Wr} {h : Int} (h1 : hostC ss xs h = 0) : flS ss xs h = (landF h false ss xs 200).1 ∧ flX ss xs h = (landF h false ss xs 200).2.1 := by simp [flS, flX, h1]
theorem fl_bad {ss : List ByteArray} {xs : List Wr} {h : Int} (h1 : ¬ hostC ss xs h = 0) : flS ss xs h = [] ∧ flX ss xs h = [] := by simp [flS, flX, h1]
theorem landF_slen {h n : Int} {lost : Bool} {ss : List ByteArray} {xs : List Wr} : (landF h lost ss xs n).1.length = ss.length := (landF_inv (fun _ => True) (fun _ _ => trivial) (fun _ _ => trivial)).2.2.1

end Go.Proofs.YtefnapcegeojoaaGreatDoor

namespace Go.Proofs.YtefnapcegeojoaaGreatDoor
open Go.RowKit
set_option linter.unusedVariables false

def dropF (h : Int) (xs : List Wr) : List Wr := xs.filter fun x => x.host != h
end Go.Proofs.YtefnapcegeojoaaGreatDoor

namespace Go.Proofs.YtefnapcegeojoaaGreatDoor
open Go.RowKit
set_option linter.unusedVariables false

set_option maxRecDepth 100000 in
theorem l01Flush_any (ao bo : Option Addr) (ca cb : Nat) (ss : List ByteArray) (xs : List Wr) (h n : Int) (w : World) (hn0 : n = 200) (hn1 : n ≤ 1048576) (hl : ss.length ≤ 1048576) (hm : xs.length ≤ 200) (hat : ∀ i (hi : i < xs.length), 0 ≤ xs[i].at_ ∧ xs[i].at_ < ss.length) (h1 : Ss w ao ss) (h2 : Ios w bo xs) :
    Calls Tryz.prog 52 #[.agg #[.slice ao ss.length ca, .slice bo xs.length cb], .int .i64 h] w fun e w' => ∃ po pa qo qa, e = .returned (.agg #[.slice po ss.length pa, .slice qo (landF h false ss xs 200).2.1.length qa]) ∧ OwnD w' w.heap.size po ss.length pa qo (landF h false ss xs 200).2.1.length qa (landF h false ss xs 200).1 (landF h false ss xs 200).2.1 ∧ Below w.heap.size w w' := by
  have HA := hide (Joins.below_alloc2 w (.cells #[.slice ao ss.length ca, .slice bo xs.length cb] 26) (.cells #[.slice none 0 0, .slice none 0 0] 26))
  have H1 := hide (h1.below (unhide HA))
  have H2 := hide (h2.below (unhide HA))
  have HAT := hide hat
  have HLS := hide hl
  have HLX := hide hm
  have HR : Hid (VarD ((w.alloc (.cells #[.slice ao ss.length ca, .slice bo xs.length cb] 26)).alloc (.cells #[.slice none 0 0, .slice none 0 0] 26)) (w.heap.size + 1) (.slice none 0 0) (.slice none 0 0)) := hide (by have := VarD.new (w.alloc (.cells #[.slice ao ss.length ca, .slice bo xs.length cb] 26)) (.slice none 0 0) (.slice none 0 0); simp only [World.size_alloc] at this; exact this)
  clear h1 h2 hat hl hm hn0 hn1
  go_enter Tryz.func52, Tryz.ntmps52
  go_wp2_with fail
  refine (l01Land_any ao bo ca cb ss xs h 200 false _ (by omega) (by omega) (unhide HLS) (unhide HLX) (unhide HAT) (unhide H1) (unhide H2)).mono ?_
  rintro e w2 ⟨po, pa, qo, qa, rfl, ho2, hb2⟩
  have HO2 := hide (ho2.base (B' := w.heap.size + 2) (by simp))
  have HR2 := hide ((unhide HR).below hb2)
  have HB2 := hide (fr (unhide HA) hb2)
  clear ho2 hb2
  obtain ⟨hr0, hr1⟩ := (unhide HR2).cells
  have hr2 := (unhide HR2).free 0
  have hr3 := (unhide HR2).free 1
  obtain ⟨RX, HRX⟩ : ∃ RX, Hid ((landF h false ss xs 200).2.1 = RX) := ⟨_, hide rfl⟩
  rw [unhide HRX] at HO2 ⊢
  have HE := hide (land_end (w := w) (unhide HO2) (Nat.le_refl _) (unhide HB2) (.slice po ss.length pa) (.slice qo RX.length qa))
  go_wp2
  rw [unhide HRX]
  exact bodyPost_ret (v := .agg #[.slice po ss.length pa, .slice qo RX.length qa]) (by simp [results, Tryz.results52, go_sem, hr0, hr1]) rfl ⟨po, pa, qo, qa, rfl, (unhide HE).1, (unhide HE).2⟩

set_option maxRecDepth 100000 in
set_option maxHeartbeats 1600000 in
theorem flush_impl (ao bo : Option Addr) (ca cb : Nat) (ss : List ByteArray) (xs : List Wr) (h : Int) (w : World) (hl : ss.length ≤ maxLen) (hm : xs.length ≤ maxLen) (h1 : Ss w ao ss) (h2 : Ios w bo xs) :
    Calls Tryz.prog 159 #[.agg #[.slice ao ss.length ca, .slice bo xs.length cb], .int .i64 h] w fun e w' => ∃ po pa qo qa, e = .returned (.tuple #[.agg #[.slice po (flS ss xs h).length pa, .slice qo (flX ss xs h).length qa], .int .i64 (hostC ss xs h)]) ∧ OwnD w' w.heap.size po (flS ss xs h).length pa qo (flX ss xs h).length qa (flS ss xs h) (flX ss xs h) ∧ Below w.heap.size w w' := by
  have HA := hide (Joins.below_alloc2 w (.cells #[.slice ao ss.length ca, .slice bo xs.length cb] 26) (.cells #[.slice none 0 0, .slice none 0 0] 26))
  have H1 := hide (h1.below (unhide HA))
  have H2 := hide (h2.below (unhide HA))
  have HV := hide ((VarD.new w (.slice ao ss.length ca) (.slice bo xs.length cb)).below (Joins.below_alloc1 _ (.cells #[.slice none 0 0, .slice none 0 0] 26)))
  have HR : Hid (VarD ((w.alloc (.cells #[.slice ao ss.length ca, .slice bo xs.length cb] 26)).alloc (.cells #[.slice none 0 0, .slice none 0 0] 26)) (w.heap.size + 1) (.slice none 0 0) (.slice none 0 0)) := hide (by have := VarD.new (w.alloc (.cells #[.slice ao ss.length ca, .slice bo xs.length cb] 26)) (.slice none 0 0) (.slice none 0 0); simp only [World.size_alloc] at this; exact this)
  have HL := hide hl
  have HM := hide hm
  have HQ := hide (ask_zero ss xs h)
  clear h1 h2 hl hm
  by_cases hc : hostC ss xs h = 0
  · have hb : (hostC ss xs h != 0) = false := by simp [hc]
    have HW := hide (fl_ok hc)
    have HD := hide (hostC_eq hc).1
    have HC := hide hc
    have HLS : Hid (ss.length ≤ 1048576) := hide (by have := (diskB_len (unhide HD)).1; omega)
    have HLX := hide (diskB_len (unhide HD)).2
    clear hc
    go_enter Tryz.func159, Tryz.ntmps159
    go_wp2_with fail
    refine (hostFault_any _ _ _ _ ss xs h _ (unhide HL) (unhide HM) (unhide H1) (unhide H2)).mono ?_
    rintro e w1 ⟨rfl, hb1⟩
    have HV1 := hide ((unhide HV).below hb1)
    have HR1 := hide ((unhide HR).below hb1)
    have HB1 := hide (fr (unhide HA) hb1)
    have HS1 := hide ((unhide H1).below hb1)
    have HX1 := hide ((unhide H2).below hb1)
    have HZ1 := hide hb1.size
    clear hb1
    obtain ⟨hv0, hv1⟩ := (unhide HV1).cells
    go_wp2_with fail
    refine (landFirst_any ao bo ca cb ss xs h 200 _ (by omega) (by omega) (unhide HLS) (unhide HLX) (diskB_at (unhide HD)) (unhide HS1) (unhide HX1)).mono ?_
    rintro e w2 ⟨po, pa, qo, qa, rfl, ho2, hb2⟩
    have HO2 := hide (ho2.base (B' := w.heap.size + 2) (by have z1 := unhide HZ1; simp at z1; omega))
    have HR2 := hide ((unhide HR1).below hb2)
    have HB2 := hide (fr (unhide HB1) hb2)
    clear ho2 hb2 hv0 hv1
    obtain ⟨hr0, hr1⟩ := (unhide HR2).cells
    have hr2 := (unhide HR2).free 0
    have hr3 := (unhide HR2).free 1
    obtain ⟨RX, HRX⟩ : ∃ RX, Hid ((landF h false ss xs 200).2.1 = RX) := ⟨_, hide rfl⟩
    rw [unhide HRX] at HO2 ⊢
    have HE := hide (land_end (w := w) (unhide HO2) (Nat.le_refl _) (unhide HB2) (.slice po ss.length pa) (.slice qo RX.length qa))
    go_wp2
    obtain ⟨e1, e2⟩ := unhide HW
    rw [e1, e2, landF_slen, unhide HRX, unhide HC]
    exact bodyPost_ret (v := .tuple #[.agg #[.slice po ss.length pa, .slice qo RX.length qa], .int .i64 0]) (by simp [results, Tryz.results159, go_sem, hr0, hr1]) rfl ⟨po, pa, qo, qa, rfl, (unhide HE).1, (unhide HE).2⟩
  · have hb : (hostC ss xs h != 0) = true := by simp [hc]
    obtain ⟨e1, e2⟩ := fl_bad hc
    rw [e1, e2]
    clear e1 e2 hc
    go_enter Tryz.func159, Tryz.ntmps159
    go_wp2_with fail
    refine (hostFault_any _ _ _ _ ss xs h _ (unhide HL) (unhide HM) (unhide H1) (unhide H2)).mono ?_
    rintro e w1 ⟨rfl, hb1⟩
    have HR1 := hide ((unhide HR).below hb1)
    have HB1 := hide (fr (unhide HA) hb1)
    clear hb1
    obtain ⟨hr0, hr1⟩ := (unhide HR1).cells
    have hr2 := (unhide HR1).free 0
    have hr3 := (unhide HR1).free 1
    have HE := hide (zero_end (w := w) (wL := w1) (unhide HB1) (.slice none 0 0) (.slice none 0 0))
    go_wp2
    exact bodyPost_ret (v := .tuple #[.agg #[.slice none 0 0, .slice none 0 0], .int .i64 (hostC ss xs h)]) (by simp [results, Tryz.results159, go_sem, hr0, hr1]) rfl ⟨none, 0, none, 0, rfl, zeroD_own, unhide HE⟩

end Go.Proofs.YtefnapcegeojoaaGreatDoor

namespace Go.Proofs.YtefnapcegeojoaaGreatDoor
open Go.RowKit
set_option linter.unusedVariables false

end Go.Proofs.YtefnapcegeojoaaGreatDoor

namespace Go.Proofs.YtefnapcegeojoaaGreatDoor
set_option linter.unusedVariables false

def ofH (h : Int) (xs : List Wr) : List Wr := xs.filter fun x => x.host == h
def putW (ss : List ByteArray) (fs : List Wr) : List ByteArray := fs.foldl (fun s x => s.set x.at_.toNat x.data) ss
def remH (h : Int) : Nat → List Wr → List Wr
  | _, [] => []
  | 0, x :: xs => x :: remH h 0 xs
  | n + 1, x :: xs => if x.host = h then remH h n xs else x :: remH h (n + 1) xs

theorem remH_zero (h : Int) : ∀ xs : List Wr, remH h 0 xs = xs
  | [] => rfl
  | x :: xs => by rw [remH, remH_zero h xs]
theorem ofH_cons_hit {h : Int} {x : Wr} (xs : List Wr) (hx : x.host = h) : ofH h (x :: xs) = x :: ofH h xs := by simp [ofH, hx]
theorem ofH_cons_miss {h : Int} {x : Wr} (xs : List Wr) (hx : ¬ x.host = h) : ofH h (x :: xs) = ofH h xs := by simp [ofH, hx]
theorem remH_hit {h : Int} {x : Wr} (n : Nat) (xs : List Wr) (hx : x.host = h) : remH h (n + 1) (x :: xs) = remH h n xs := by rw [remH, if_pos hx]
theorem remH_miss {h : Int} {x : Wr} (n : Nat) (xs : List Wr) (hx : ¬ x.host = h) : remH h n (x :: xs) = x :: remH h n xs := by
  cases n with
  | zero => rw [remH]
  | succ n => rw [remH, if_neg hx]

theorem fold_land (h : Int) : ∀ (xs : List Wr) (SS : List ByteArray) (LX : List Wr) (n : Nat),
    xs.foldl (stepF h false) (SS, LX, (n : Int)) = (putW SS ((ofH h xs).take n), LX ++ remH h n xs, ((n - (ofH h xs).length : Nat) : Int))
  | [], SS, LX, n => by simp [ofH, putW, remH]
  | x :: xs, SS, LX, n => by
    rw [List.foldl_cons]
    by_cases hx : x.host = h
    · cases n with
      | zero =>
        rw [step_keep hx SS LX (by simp), show ((0 : Nat) : Int) = ((0 : Nat) : Int) from rfl, fold_land h xs, remH_zero, remH_zero]
        simp [putW]
      | succ n =>
        rw [step_land hx SS LX (by omega), show ((n + 1 : Nat) : Int) - 1 = (n : Int) by omega, fold_land h xs, ofH_cons_hit xs hx, remH_hit n xs hx]
        rw [List.take_succ_cons, List.length_cons, show n + 1 - ((ofH h xs).length + 1) = n - (ofH h xs).length by omega]
        rfl
    · rw [step_other hx, fold_land h xs, ofH_cons_miss xs hx, remH_miss n xs hx]
      simp
theorem landF_put (h : Int) (ss : List ByteArray) (xs : List Wr) (n : Nat) : (landF h false ss xs (n : Int)).1 = putW ss ((ofH h xs).take n) ∧ (landF h false ss xs (n : Int)).2.1 = remH h n xs := by
  unfold landF
  rw [fold_land]
  exact ⟨rfl, by simp⟩

theorem rem_all {h : Int} : ∀ (n : Nat) (xs : List Wr), (ofH h xs).length ≤ n → remH h n xs = dropF h xs
  | _, [], _ => by cases ‹Nat› <;> rfl
  | n, x :: xs, e => by
    by_cases hx : x.host = h
    · rw [ofH_cons_hit xs hx] at e
      cases n with
      | zero => simp at e
      | succ n =>
        rw [remH_hit n xs hx, rem_all n xs (by simpa using e)]; simp [dropF, hx]
    · rw [ofH_cons_miss xs hx] at e
      rw [remH_miss n xs hx, rem_all n xs e]; simp [dropF, hx]
theorem drop_len (h : Int) : ∀ xs : List Wr, (dropF h xs).length + (ofH h xs).length = xs.length
  | [] => rfl
  | x :: xs => by
    have := drop_len h xs
    by_cases hx : x.host = h
    · rw [ofH_cons_hit xs hx]; simp only [dropF, List.filter_cons] at this ⊢; simp [hx]; omega
    · rw [ofH_cons_miss xs hx]; simp only [dropF, List.filter_cons] at this ⊢; simp [hx]; omega

theorem put_len (ss : List ByteArray) : ∀ fs : List Wr, (putW ss fs).length = ss.length := fun fs => by
  induction fs generalizing ss with
  | nil => rfl
  | cons x fs ih => simp only [putW, List.foldl_cons] at ih ⊢; rw [ih]; simp
theorem diskB_parts {ss : List ByteArray} {xs : List Wr} : diskB ss xs = true ↔ (ss.length = 64 ∧ ∀ s ∈ ss, s.size ≤ 80) ∧ xs.length ≤ 200 ∧ ∀ x ∈ xs, ioB x = true := by
  simp only [diskB, secB, penB, Bool.and_eq_true, decide_eq_true_eq, List.all_eq_true]
theorem ioB_parts {x : Wr} : ioB x = true ↔ (0 ≤ x.host ∧ x.host ≤ 3) ∧ (0 ≤ x.at_ ∧ x.at_ ≤ 63) ∧ x.data.size ≤ 80 := by
  simp only [ioB, Bool.and_eq_true, decide_eq_true_eq]
  omega
theorem put_mem {P : ByteArray → Prop} : ∀ (fs : List Wr) (ss : List ByteArray), (∀ s ∈ ss, P s) → (∀ x ∈ fs, P x.data) → ∀ s ∈ putW ss fs, P s
  | [], ss, h1, _ => h1
  | x :: fs, ss, h1, h2 => by
    have := put_mem fs (ss.set x.at_.toNat x.data) (fun s hs => by
      rcases List.mem_or_eq_of_mem_set hs with h | h
      · exact h1 s h
      · rw [h]; exact h2 x (List.mem_cons_self ..)) (fun y hy => h2 y (List.mem_cons_of_mem _ hy))
    simpa [putW] using this
theorem of_mem {h : Int} {xs : List Wr} {x : Wr} (hx : x ∈ ofH h xs) : x ∈ xs := (List.mem_filter.1 hx).1
theorem drop_mem {h : Int} {xs : List Wr} {x : Wr} (hx : x ∈ dropF h xs) : x ∈ xs := (List.mem_filter.1 hx).1
theorem rem_mem {h : Int} : ∀ (n : Nat) {xs : List Wr} {x : Wr}, x ∈ remH h n xs → x ∈ xs
  | n, [], x, hx => by cases n <;> exact hx
  | 0, y :: ys, x, hx => by rwa [remH_zero] at hx
  | n + 1, y :: ys, x, hx => by
    by_cases hy : y.host = h
    · rw [remH_hit n ys hy] at hx; exact List.mem_cons_of_mem _ (rem_mem n hx)
    · rw [remH_miss _ ys hy] at hx
      rcases List.mem_cons.1 hx with rfl | hx
      · exact List.mem_cons_self ..
      · exact List.mem_cons_of_mem _ (rem_mem (n + 1) hx)
theorem rem_len {h : Int} (n : Nat) (xs : List Wr) : (remH h n xs).length ≤ xs.length := by
  induction xs generalizing n with
  | nil => cases n <;> exact Nat.le_refl _
  | cons x xs ih =>
    cases n with
    | zero => rw [remH_zero]; exact Nat.le_refl _
    | succ n =>
      by_cases hx : x.host = h
      · rw [remH_hit n xs hx]; have := ih n; simp; omega
      · rw [remH_miss _ xs hx]; have := ih (n + 1); simp; omega
theorem diskB_put {ss : List ByteArray} {xs ys fs : List Wr} (hd : diskB ss xs = true) (hf : ∀ x ∈ fs, x ∈ xs) (hy : ∀ x ∈ ys, x ∈ xs) (hl : ys.length ≤ xs.length) : diskB (putW ss fs) ys = true := by
  obtain ⟨⟨a1, a2⟩, a3, a4⟩ := diskB_parts.1 hd
  refine diskB_parts.2 ⟨⟨by rw [put_len]; exact a1, put_mem fs ss a2 (fun x hx => (ioB_parts.1 (a4 x (hf x hx))).2.2)⟩, by omega, fun x hx => a4 x (hy x hx)⟩
theorem diskB_snoc {ss : List ByteArray} {xs : List Wr} {x : Wr} (hd : diskB ss xs = true) (hl : xs.length < 200) (hx : ioB x = true) : diskB ss (xs ++ [x]) = true := by
  obtain ⟨⟨a1, a2⟩, a3, a4⟩ := diskB_parts.1 hd
  refine diskB_parts.2 ⟨⟨a1, a2⟩, by simp; omega, fun y hy => ?_⟩
  rcases List.mem_append.1 hy with h | h
  · exact a4 y h
  · simp at h; subst h; exact hx
theorem drop_le (h : Int) (xs : List Wr) : (dropF h xs).length ≤ xs.length := by have := drop_len h xs; omega
end Go.Proofs.YtefnapcegeojoaaGreatDoor

namespace Go.Proofs.YtefnapcegeojoaaGreatDoor
open Go.RowKit
set_option linter.unusedVariables false
set_option maxRecDepth 100000

theorem keep_cell {S : Nat → Prop} {w w' : World} {a : Addr} {v : Value} (hk : Keep S w w') (ha : ¬ S a.block) (h : w.cell? a = some v) : w'.cell? a = some v := by
  have hl := World.block_lt_of_cell? _ _ h
  rw [← h]
  unfold World.cell?
  simp only [hk.block a.block hl ha]
theorem keep_new {w w1 w2 : World} {b : Nat} {S : Nat → Prop} (h : Keep (fun k => k = b) w w1) (hk : Keep S w1 w2) (hs : ∀ k, S k → w.heap.size ≤ k ∨ k = b) : Keep (fun k => k = b) w w2 :=
  ⟨hk.os.trans h.os, hk.tape.trans h.tape, hk.output.trans h.output, Nat.le_trans h.size hk.size, fun k hl hn => (hk.block k (Nat.lt_of_lt_of_le hl h.size) (fun hS => by
    rcases hs k hS with h1 | h1
    · omega
    · exact hn h1)).trans (h.block k hl hn)⟩
theorem SrcK.other {w w1 w2 : World} {b : Nat} {ao : Option Addr} {n cap m m0 : Nat} {S : Nat → Prop} (h0 : SrcK w b ao n cap m0) (h : SrcK w1 b ao n cap m) (hw : Keep (fun k => k = b) w w2) (hk : Keep S w1 w2) (hs : ¬ S b) : SrcK w2 b ao n cap m := by
  obtain ⟨x0, y0, _, _, _, _, hblk0⟩ := h0.src
  obtain ⟨x, y, c0, c1, c2, c3, c4⟩ := h.src
  refine ⟨⟨x, y, c0, c1, c2, c3, ?_⟩, h0.bytes.keep hblk0 (fun z h => by cases h) hw⟩
  rw [hk.block b (Array.getElem?_eq_some_iff.1 c4).1 hs]; exact c4

theorem source_any (ao : Option Addr) (n cap : Nat) (w : World) (hn : n ≤ 1048576) (hB : Bs w ao n) :
    Calls Tryz.prog 27 #[.slice ao n cap] w fun e w' => e = .returned (.pointer (some ⟨w.heap.size, 0, none⟩)) ∧ SrcK w' w.heap.size ao n cap 0 ∧ Below w.heap.size w w' ∧ w'.heap.size = w.heap.size + 1 := by
  go_enter Tryz.func27, Tryz.ntmps27
  go_wp2
  go_ret
  exact ⟨rfl, ⟨⟨0, (n : Int) % 1000, by omega, by omega, by omega, by omega, heap_alloc_new w _⟩, hB.below (Joins.below_alloc1 _ _)⟩, Joins.below_alloc1 _ _, by simp⟩

theorem keep_drop {w w' : World} {b : Nat} (h : Keep (fun k => k = b ∨ w.heap.size ≤ k) w w') : Keep (fun k => k = b) w w' :=
  ⟨h.os, h.tape, h.output, h.size, fun k hl hn => h.block k hl (fun e => by
    rcases e with e | e
    · exact hn e
    · omega)⟩
theorem blk_keep {S : Nat → Prop} {w w' : World} {k : Nat} {o : Obj} (hk : Keep S w w') (hs : ¬ S k) (h : w.heap[k]? = some o) : w'.heap[k]? = some o := by
  rw [hk.block k (Array.getElem?_eq_some_iff.1 h).1 hs]; exact h
theorem blk_below {w w' : World} {k : Nat} {o : Obj} (hk : Below w.heap.size w w') (h : w.heap[k]? = some o) : w'.heap[k]? = some o := by
  rw [hk.block k (Array.getElem?_eq_some_iff.1 h).1]; exact h
theorem blk_lt {w : World} {k : Nat} {o : Obj} (h : w.heap[k]? = some o) : k < w.heap.size := (Array.getElem?_eq_some_iff.1 h).1

end Go.Proofs.YtefnapcegeojoaaGreatDoor

namespace Go.Proofs.YtefnapcegeojoaaGreatDoor
open Go.RowKit
set_option linter.unusedVariables false

def noStr (c : Array Value) : Prop := ∀ (i : Nat) (s : ByteArray), c[i]? ≠ some (Value.string s)
theorem cell_ne {w : World} {k t b' off : Nat} {c : Array Value} {s : ByteArray} (hx : w.heap[k]? = some (.cells c t (0, 0))) (hc : noStr c) (h : w.cell? ⟨b', off, none⟩ = some (.string s)) : b' ≠ k := by
  rintro rfl
  rw [Joins.cell_of_block hx] at h
  exact hc off s h
theorem Ss.keepX {w w' : World} {ao : Option Addr} {ss : List ByteArray} {k t : Nat} {c : Array Value} (h : Ss w ao ss) (hx : w.heap[k]? = some (.cells c t (0, 0))) (hc : noStr c) (hk : Keep (fun j => j = k) w w') : Ss w' ao ss := fun i hi => by
  obtain ⟨b, off, e, h0, hz⟩ := h i hi
  exact ⟨b, off, e, keep_cell hk (cell_ne hx hc h0) h0, hz⟩
theorem Ios.keepX {w w' : World} {ao : Option Addr} {xs : List Wr} {k t : Nat} {c : Array Value} (h : Ios w ao xs) (hx : w.heap[k]? = some (.cells c t (0, 0))) (hc : noStr c) (hk : Keep (fun j => j = k) w w') : Ios w' ao xs := fun i hi => by
  obtain ⟨b, off, e, h0, h1, h2, hz⟩ := h i hi
  have hb := cell_ne hx hc h2
  exact ⟨b, off, e, keep_cell hk hb h0, keep_cell hk hb h1, keep_cell hk hb h2, hz⟩
theorem noStr_src (v : Value) (x y : Int) (hv : ∀ s, v ≠ .string s) : noStr #[v, .int .i64 x, .int .i64 y] := by
  intro i s
  match i with
  | 0 => simpa using hv s
  | 1 => simp
  | 2 => simp
  | k + 3 => simp
theorem noStr_var (a b : Option Addr) (n m c d : Nat) : noStr #[.slice a n c, .slice b m d] := by
  intro i s
  match i with
  | 0 => simp
  | 1 => simp
  | k + 2 => simp

structure DV (w : World) (C : Nat) (ao : Option Addr) (ca : Nat) (bo : Option Addr) (cb : Nat) (ss : List ByteArray) (xs : List Wr) : Prop where
  var : VarD w C (.slice ao ss.length ca) (.slice bo xs.length cb)
  s : Ss w ao ss
  i : Ios w bo xs
theorem DV.below {w w' : World} {C ca cb : Nat} {ao bo : Option Addr} {ss : List ByteArray} {xs : List Wr} (h : DV w C ao ca bo cb ss xs) (hb : Below w.heap.size w w') : DV w' C ao ca bo cb ss xs := ⟨h.var.below hb, h.s.below hb, h.i.below hb⟩
theorem DV.src {w w' : World} {C ca cb b n cap m : Nat} {ao bo so : Option Addr} {ss : List ByteArray} {xs : List Wr} (h : DV w C ao ca bo cb ss xs) (hs : SrcK w b so n cap m) (hC : C ≠ b) (hk : Keep (fun j => j = b) w w') : DV w' C ao ca bo cb ss xs := by
  obtain ⟨x, y, _, _, _, _, hblk⟩ := hs.src
  have hn := noStr_src (.slice so n cap) x y (fun s e => by cases e)
  exact ⟨h.var.keep hk hC, h.s.keepX hblk hn hk, h.i.keepX hblk hn hk⟩
theorem DV.store {w : World} {C n1 m1 ca cb c1 d1 : Nat} {ao bo a1 b1 : Option Addr} {ss : List ByteArray} {xs : List Wr} (hv : VarD w C (.slice a1 n1 c1) (.slice b1 m1 d1)) (hs : Ss w ao ss) (hi : Ios w bo xs) :
    DV ((w.setCell ⟨C, 0, none⟩ (.slice ao ss.length ca)).setCell ⟨C, 1, none⟩ (.slice bo xs.length cb)) C ao ca bo cb ss xs ∧ Keep (fun j => j = C) w ((w.setCell ⟨C, 0, none⟩ (.slice ao ss.length ca)).setCell ⟨C, 1, none⟩ (.slice bo xs.length cb)) := by
  have hk : Keep (fun j => j = C) w ((w.setCell ⟨C, 0, none⟩ (.slice ao ss.length ca)).setCell ⟨C, 1, none⟩ (.slice bo xs.length cb)) := ((Keep.refl (fun j => j = C) w).setCell (p := ⟨C, 0, none⟩) rfl _).setCell (p := ⟨C, 1, none⟩) rfl _
  exact ⟨⟨(hv.set0 _).set1 _, hs.keepX hv (noStr_var _ _ _ _ _ _) hk, hi.keepX hv (noStr_var _ _ _ _ _ _) hk⟩, hk⟩

structure DkSt (w W : World) (b : Nat) (so : Option Addr) (n cap m C : Nat) (ao : Option Addr) (ca : Nat) (bo : Option Addr) (cb : Nat) (ss : List ByteArray) (xs : List Wr) : Prop where
  dv : DV W C ao ca bo cb ss xs
  r : VarD W w.heap.size (.slice none 0 0) (.slice none 0 0)
  k : Keep (fun k => k = b ∨ w.heap.size ≤ k) w W
  s : SrcK W b so n cap m
  c : w.heap.size < C
theorem DkSt.below {w W W' : World} {b n cap m C ca cb : Nat} {so ao bo : Option Addr} {ss : List ByteArray} {xs : List Wr} (h : DkSt w W b so n cap m C ao ca bo cb ss xs) (hb : Below W.heap.size W W') : DkSt w W' b so n cap m C ao ca bo cb ss xs :=
  ⟨h.dv.below hb, h.r.below hb, h.k.trans (Keep.of_below hb), h.s.below hb, h.c⟩
theorem DkSt.src {w W W' : World} {b n cap m m' C ca cb : Nat} {so ao bo : Option Addr} {ss : List ByteArray} {xs : List Wr} (h : DkSt w W b so n cap m C ao ca bo cb ss xs) (hb : b < w.heap.size) (hs : SrcK W' b so n cap m') (hk : Keep (fun j => j = b) W W') : DkSt w W' b so n cap m' C ao ca bo cb ss xs :=
  ⟨h.dv.src h.s (by have := h.c; omega) hk, h.r.keep hk (by omega), h.k.trans (hk.mono (fun k h => .inl h)), hs, h.c⟩
theorem DkSt.more {w W : World} {b n cap m m' C ca cb : Nat} {so ao bo : Option Addr} {ss : List ByteArray} {xs : List Wr} (h : DkSt w W b so n cap m C ao ca bo cb ss xs) (hm : m ≤ m') : DkSt w W b so n cap m' C ao ca bo cb ss xs := ⟨h.dv, h.r, h.k, h.s.more hm, h.c⟩
theorem DkSt.store {w W : World} {b n cap m m0 C ca cb ca' cb' : Nat} {so ao bo ao' bo' : Option Addr} {ss ss' : List ByteArray} {xs xs' : List Wr} (h : DkSt w W b so n cap m C ao ca bo cb ss xs) (h0 : SrcK w b so n cap m0) (hs : Ss W ao' ss') (hi : Ios W bo' xs') :
    DkSt w ((W.setCell ⟨C, 0, none⟩ (.slice ao' ss'.length ca')).setCell ⟨C, 1, none⟩ (.slice bo' xs'.length cb')) b so n cap m C ao' ca' bo' cb' ss' xs' := by
  obtain ⟨hd, hk⟩ := DV.store (ca := ca') (cb := cb') h.dv.var hs hi
  have hb := h0.lt
  have hK := h.k.trans (hk.mono (fun k e => .inr (by have := h.c; omega)))
  exact ⟨hd, h.r.keep hk (by have := h.c; omega), hK, h0.other h.s (keep_drop hK) hk (by have := h.c; omega), h.c⟩

end Go.Proofs.YtefnapcegeojoaaGreatDoor

namespace Go.Proofs.YtefnapcegeojoaaGreatDoor
open Go.RowKit
set_option linter.unusedVariables false

theorem write_end {w wL : World} {g k cap : Nat} {cs : List Value} (ho : wL.ownsRow (w.heap.size + 1 + 1 + 1) 75 3 (.slice (some ⟨g, 0, none⟩) k cap) k cs) (hb : Below w.heap.size w wL) (a b c : Value) :
    (((wL.setCell ⟨w.heap.size, 1, none⟩ a).setCell ⟨w.heap.size + 1 + 1, 0, none⟩ b).setCell ⟨w.heap.size + 1 + 1, 1, none⟩ c).ownsRow w.heap.size 75 3 (.slice (some ⟨g, 0, none⟩) k cap) k cs ∧ Below w.heap.size w (((wL.setCell ⟨w.heap.size, 1, none⟩ a).setCell ⟨w.heap.size + 1 + 1, 0, none⟩ b).setCell ⟨w.heap.size + 1 + 1, 1, none⟩ c) :=
  ⟨own_base (ownsRow_setCell_below (ownsRow_setCell_below (ownsRow_setCell_below ho (a := ⟨w.heap.size, 1, none⟩) (by simp; omega) a) (a := ⟨w.heap.size + 1 + 1, 0, none⟩) (by simp) b) (a := ⟨w.heap.size + 1 + 1, 1, none⟩) (by simp) c) (by omega),
    ((hb.setCell (p := ⟨w.heap.size, 1, none⟩) (by simp) a).setCell (p := ⟨w.heap.size + 1 + 1, 0, none⟩) (by simp; omega) b).setCell (p := ⟨w.heap.size + 1 + 1, 1, none⟩) (by simp; omega) c⟩

set_option maxRecDepth 100000 in
set_option maxHeartbeats 6400000 in
theorem l01Write_any (ao bo : Option Addr) (n ca cb : Nat) (xs : List Wr) (x : Wr) (w : World) (hm : xs.length ≤ 1048576) (h2 : Ios w bo xs) :
    Calls Tryz.prog 53 #[.agg #[.slice ao n ca, .slice bo xs.length cb], .agg #[.int .i64 x.host, .int .i64 x.at_, .string x.data]] w fun e w' => ∃ g cap, e = .returned (.agg #[.slice ao n ca, .slice (some ⟨g, 0, none⟩) (xs.length + 1) cap]) ∧ w'.ownsRow w.heap.size 75 3 (.slice (some ⟨g, 0, none⟩) (xs.length + 1) cap) (xs.length + 1) (ioV (xs ++ [x])) ∧ Below w.heap.size w w' := by
  have HA := hide (Joins.below_alloc3 w (.cells #[.slice ao n ca, .slice bo xs.length cb] 26) (.cells #[.int .i64 x.host, .int .i64 x.at_, .string x.data] 75) (.cells #[.slice none 0 0, .slice none 0 0] 26))
  have HX := hide (h2.below (unhide HA))
  have HV := hide ((VarD.new w (.slice ao n ca) (.slice bo xs.length cb)).below (Joins.below_alloc2 _ (.cells #[.int .i64 x.host, .int .i64 x.at_, .string x.data] 75) (.cells #[.slice none 0 0, .slice none 0 0] 26)))
  have HR : Hid (VarD (((w.alloc (.cells #[.slice ao n ca, .slice bo xs.length cb] 26)).alloc (.cells #[.int .i64 x.host, .int .i64 x.at_, .string x.data] 75)).alloc (.cells #[.slice none 0 0, .slice none 0 0] 26)) (w.heap.size + 1 + 1) (.slice none 0 0) (.slice none 0 0)) := hide (by have := VarD.new ((w.alloc (.cells #[.slice ao n ca, .slice bo xs.length cb] 26)).alloc (.cells #[.int .i64 x.host, .int .i64 x.at_, .string x.data] 75)) (.slice none 0 0) (.slice none 0 0); simp only [World.size_alloc] at this; exact this)
  have HI : Hid (VarI (((w.alloc (.cells #[.slice ao n ca, .slice bo xs.length cb] 26)).alloc (.cells #[.int .i64 x.host, .int .i64 x.at_, .string x.data] 75)).alloc (.cells #[.slice none 0 0, .slice none 0 0] 26)) (w.heap.size + 1) x) := hide (VarI.below (by have := VarI.new (w.alloc (.cells #[.slice ao n ca, .slice bo xs.length cb] 26)) x; simp only [World.size_alloc] at this; exact this) (Joins.below_alloc1 _ _))
  clear h2
  obtain ⟨j0, hj, hy0, hy1, hy2⟩ := info_parts infoW
  go_enter Tryz.func53, Tryz.ntmps53
  go_wp2
  go_region_law
    (first
      | (refine (step_append_fresh ?_ (.tmp 5) (.tmp 7) 24 ?_ 75 j0 (.agg #[.int .i64 0, .int .i64 0, .string ⟨#[]⟩]) 3 32 Tryz.underlying24 hj hy0 hy1 hy2 ?_ ?_ ?_ bo xs.length cb (ioV xs) ?_ ?_ ?_ ?_ ?_ ?_)
         · rfl
         · rfl
         · rfl
         · omega
         · rfl
         · rfl
         · rw [ioV_length]
         · refine Ios.src ((unhide HX).below ?_)
           repeat (first | exact Below.refl _ _ | exact hbA | refine Below.drew ?_ | refine belowAl ?_ _)
         · unfold maxLen; omega
         · omega
         intro qo qa wA hoA hgA
         have hbA : Below (((w.alloc (.cells #[.slice ao n ca, .slice bo xs.length cb] 26)).alloc (.cells #[.int .i64 x.host, .int .i64 x.at_, .string x.data] 75)).alloc (.cells #[.slice none 0 0, .slice none 0 0] 26)).heap.size (((w.alloc (.cells #[.slice ao n ca, .slice bo xs.length cb] 26)).alloc (.cells #[.int .i64 x.host, .int .i64 x.at_, .string x.data] 75)).alloc (.cells #[.slice none 0 0, .slice none 0 0] 26)) wA := belowGr (by repeat (first | exact Below.refl _ _ | exact hbA | refine Below.drew ?_ | refine belowAl ?_ _)) hgA
         obtain ⟨hA0, hA1⟩ := ((unhide HV).below hbA).cells
         obtain ⟨hA2, hA3, hA4⟩ := ((unhide HI).below hbA).cells)
      | (refine (step_append_at ?_ (.tmp 8) (.tmp 10) 24 ?_ (w.heap.size + 1 + 1 + 1) 75 j0 (.agg #[.int .i64 0, .int .i64 0, .string ⟨#[]⟩]) 3 32 Tryz.underlying24 hj hy0 hy1 hy2 ?_ ?_ qo xs.length qa (ioV xs) ?_ ?_ ?_ (wrV x) ?_ ?_ ?_ ?_ ?_ ?_)
         · rfl
         · rfl
         · rfl
         · omega
         · rfl
         · refine OwnR.base (OwnR.below hoA ?_) ?_
           · repeat (first | exact Below.refl _ _ | refine Below.drew ?_ | refine belowAl ?_ _)
           · first | omega | (simp <;> omega)
         · have := hbA.size
           simp at this ⊢
           omega
         · refine ⟨_, _, rfl, VarI.news ?_⟩
           first | exact VarI.new _ _ | (refine VarI.grown ?_ hgA; refine VarI.drew ?_; refine VarI.top ?_; simp) | (refine VarI.grown ?_ hgA; refine VarI.drew ?_; refine VarI.under ?_ _; refine VarI.top ?_; simp)
         · rfl
         · exact wrV_one x
         · unfold maxLen; omega
         · omega
         intro g cap wB hoB hkB
         have hkA := hkB
         have hbB : Below (((w.alloc (.cells #[.slice ao n ca, .slice bo xs.length cb] 26)).alloc (.cells #[.int .i64 x.host, .int .i64 x.at_, .string x.data] 75)).alloc (.cells #[.slice none 0 0, .slice none 0 0] 26)).heap.size (((w.alloc (.cells #[.slice ao n ca, .slice bo xs.length cb] 26)).alloc (.cells #[.int .i64 x.host, .int .i64 x.at_, .string x.data] 75)).alloc (.cells #[.slice none 0 0, .slice none 0 0] 26)) wB := belowKp (by repeat (first | exact hbA | refine Below.drew ?_ | refine belowAl ?_ _)) hkB (fun j hj => Nat.le_trans (by first | (simp; done) | (simp; omega)) (hoA.ge j hj).1)
         obtain ⟨hB0, hB1⟩ := ((unhide HV).below hbB).cells
         have hB6 := ((unhide HV).below hbB).free 1
         obtain ⟨hB2, hB3⟩ := ((unhide HR).below hbB).cells
         have hB4 := ((unhide HR).below hbB).free 0
         have hB5 := ((unhide HR).below hbB).free 1
         obtain ⟨hB7, hB8, hB9⟩ := ((unhide HI).below hbB).cells))
  all_goals
    have HL := hide (write_end (w := w) (wL := wB) hoB (fr (unhide HA) hbB) (.slice (some ⟨g, 0, none⟩) (xs.length + 1) cap) (.slice ao n ca) (.slice (some ⟨g, 0, none⟩) (xs.length + 1) cap))
    clear hoA hoB hgA hkA hkB hbA hbB hA0 hA1 hA2 hA3 hA4 hB7 hB8 hB9
    go_wp2
    exact bodyPost_ret (v := .agg #[.slice ao n ca, .slice (some ⟨g, 0, none⟩) (xs.length + 1) cap]) (by simp [results, Tryz.results53, go_sem, hB2, hB3]) rfl ⟨_, _, rfl, by rw [ioV_snoc]; exact (unhide HL).1, (unhide HL).2⟩

theorem l01Write_hd (ao bo : Option Addr) (n ca cb : Nat) (xs : List Wr) (h a : Int) (d : ByteArray) (w : World) (hm : xs.length ≤ 1048576) (h2 : Ios w bo xs) :
    Calls Tryz.prog 53 #[.agg #[.slice ao n ca, .slice bo xs.length cb], .agg #[.int .i64 h, .int .i64 a, .string d]] w fun e w' => ∃ g cap, e = .returned (.agg #[.slice ao n ca, .slice (some ⟨g, 0, none⟩) (xs.length + 1) cap]) ∧ w'.ownsRow w.heap.size 75 3 (.slice (some ⟨g, 0, none⟩) (xs.length + 1) cap) (xs.length + 1) (ioV (xs ++ [⟨h, a, d⟩])) ∧ Below w.heap.size w w' :=
  l01Write_any ao bo n ca cb xs ⟨h, a, d⟩ w hm h2

end Go.Proofs.YtefnapcegeojoaaGreatDoor

namespace Go.Proofs.YtefnapcegeojoaaGreatDoor
open Go.RowKit
set_option linter.unusedVariables false
set_option maxRecDepth 100000

theorem infoU : (Tryz.prog.info? 5).map (fun i => (i.zero, i.size, i.bytes)) = some (some (.int .u8 0), 1, 1) := by kernel_rfl
theorem keep_newT {w w1 w2 : World} {b : Nat} {S : Nat → Prop} (h : Keep (fun k => k = b) w w1) (hk : Keep S w1 w2) (hs : ∀ k, S k → w.heap.size ≤ k ∨ k = b) : Keep (fun k => k = b) w w2 :=
  ⟨hk.os.trans h.os, hk.tape.trans h.tape, hk.output.trans h.output, Nat.le_trans h.size hk.size, fun k hl hn => (hk.block k (Nat.lt_of_lt_of_le hl h.size) (fun hS => by
    rcases hs k hS with h1 | h1
    · omega
    · exact hn h1)).trans (h.block k hl hn)⟩
theorem SrcK.otherT {w w1 w2 : World} {b : Nat} {ao : Option Addr} {n cap m m0 : Nat} {S : Nat → Prop} (h0 : SrcK w b ao n cap m0) (h : SrcK w1 b ao n cap m) (hw : Keep (fun k => k = b) w w2) (hk : Keep S w1 w2) (hs : ¬ S b) : SrcK w2 b ao n cap m := by
  obtain ⟨x0, y0, _, _, _, _, hblk0⟩ := h0.src
  obtain ⟨x, y, c0, c1, c2, c3, c4⟩ := h.src
  refine ⟨⟨x, y, c0, c1, c2, c3, ?_⟩, h0.bytes.keep hblk0 (fun z h => by cases h) hw⟩
  rw [hk.block b (Array.getElem?_eq_some_iff.1 c4).1 hs]; exact c4

set_option maxHeartbeats 3200000 in
theorem some_k (b : Nat) (ao : Option Addr) (n cap m k : Nat) (w : World) (hk : k ≤ 100) (hm : m ≤ 700000) (hn : n ≤ 1048576) (hs : SrcK w b ao n cap m) :
    Calls Tryz.prog 129 #[.pointer (some ⟨b, 0, none⟩), .int .i64 k] w fun e w' => ∃ t : ByteArray, e = .returned (.string t) ∧ t.size = k ∧ SrcK w' b ao n cap (m + 3 * k) ∧ Keep (fun j => j = b) w w' := by
  have hbl := hs.lt
  have HS0 := hide hs
  clear hs
  obtain ⟨j0, hj, hy0, hy1, hy2⟩ := info_parts infoU
  have HSA := hide ((unhide HS0).below (Joins.below_alloc1 w (.cells #[] 5)))
  have HKA : Hid (Keep (fun j => j = b) w (w.alloc (.cells #[] 5))) := hide (Keep.of_below (Joins.below_alloc1 _ _))
  go_enter Tryz.func129, Tryz.ntmps129
  go_wp2
  go_loopw [5, 6] (fun o i wr => ∃ (j : Nat) (ns : List Int) (qo : Option Addr) (qa : Nat), j ≤ k ∧ ns.length = j ∧ i = .int .i64 j ∧ o = .slice qo j qa ∧ Hid (OwnR wr w.heap.size 5 1 (.slice qo j qa) j (byteV ns)) ∧ Hid (Keep (fun x => x = b) w wr) ∧ Hid (SrcK wr b ao n cap (m + 3 * j))) (fun _ i _ => k - (intOf i).toNat)
  case atStart => exact ⟨0, [], _, _, Nat.zero_le _, rfl, rfl, rfl, hide (.inl ⟨rfl, rfl, _, rfl⟩), HKA, HSA⟩
  case round =>
    obtain ⟨j, ns, qo, qa, hjk, hns, rfl, rfl, HO, HK, HS⟩ := hrel
    by_cases hlt : j < k
    · go_wp2_with fail
      refine (next_k b ao n cap _ 26 _ (by omega) (by omega) (by omega) hn (unhide HS)).mono ?_
      rintro e w2 ⟨r, rfl, hr0, hr1, hs2, hk2⟩
      have HO2 := hide ((unhide HO).keep hk2 (fun g hg e => by have := ((unhide HO).ge g hg).1; omega))
      have HK2 := hide ((unhide HK).trans hk2)
      have HS2 := hide hs2
      clear hs2 hk2
      have HOA := hide ((unhide HO2).below (Joins.below_alloc1 _ (.cells #[.int .u8 (97 + r)] 5)))
      have HKB := hide ((unhide HK2).trans (Keep.of_below (Joins.below_alloc1 _ (.cells #[.int .u8 (97 + r)] 5))))
      have HSB := hide ((unhide HS2).below (Joins.below_alloc1 _ (.cells #[.int .u8 (97 + r)] 5)))
      have HSZ := hide (unhide HK2).size
      go_wp2_with (at_builtin; refine wpList_append_one rfl _ _ 22 rfl w.heap.size 5 j0 (.int .u8 0) 1 1 Tryz.underlying22 hj hy0 hy1 hy2 rfl (by omega) qo j qa (byteV ns) rfl (unhide HOA) (by have := unhide HSZ; simp; omega) ⟨w2.heap.size, 0, none⟩ _ [.int .u8 (97 + r)] rfl rfl (byte_news w2 _ _) (byte_one _) (by unfold maxLen; omega) (by omega) ?_; intro g2 cap2 wA hoA hkA; have HSF := hide (And.intro hoA (keep_newT (unhide HKB) hkA (fun k hk => .inl ((unhide HOA).ge k hk).1))); have HSC := hide ((unhide HS0).otherT (unhide HSB) (unhide HSF).2 hkA (fun hk => by have := ((unhide HOA).ge _ hk).1; omega)); clear hoA hkA)
      go_roundw
      case rel => exact ⟨j + 1, ns ++ [97 + r], some ⟨g2, 0, none⟩, cap2, by omega, by simp [hns], by go_num, rfl, hide (.inr ⟨by omega, by rw [byteV_snoc]; exact (unhide HSF).1⟩), hide (unhide HSF).2, hide ((unhide HSC).more (by omega))⟩
      case measure => simp [intOf]; omega
    · have hcv := convert_own (P := Tryz.prog) Tryz.underlying22 Tryz.underlying5 Tryz.underlying9 (unhide HO)
      have HJK : Hid (j = k) := hide (by omega)
      have hlt' : ¬ (j : Int) < (k : Int) := by omega
      go_wp2
      go_ret
      exact ⟨strOfNums ns, rfl, by rw [strOfNums_size, hns]; exact unhide HJK, (unhide HS).more (by omega), unhide HK⟩

end Go.Proofs.YtefnapcegeojoaaGreatDoor

namespace Go.Proofs.YtefnapcegeojoaaGreatDoor
open Go.RowKit
set_option linter.unusedVariables false
set_option maxRecDepth 100000

theorem new_right : diskB noSs [] = true := diskB_parts.2 ⟨⟨noSs_len, fun s hs => by rw [List.eq_of_mem_replicate hs]; exact Nat.zero_le _⟩, by simp, fun x hx => by cases hx⟩
theorem right_ss {ss : List ByteArray} {xs : List Wr} (h : diskB ss xs = true) : ∀ s ∈ ss, s.size ≤ maxLen := fun s hs => by
  have := (diskB_parts.1 h).1.2 s hs
  unfold maxLen
  omega
theorem right_xs {ss : List ByteArray} {xs : List Wr} (h : diskB ss xs = true) : ∀ x ∈ xs, x.data.size ≤ maxLen := fun x hx => by
  have := (ioB_parts.1 ((diskB_parts.1 h).2.2 x hx)).2.2
  unfold maxLen
  omega
theorem flush_right {ss : List ByteArray} {xs : List Wr} {h : Int} (hd : diskB ss xs = true) : diskB (landF h false ss xs 200).1 (landF h false ss xs 200).2.1 = true ∧ (landF h false ss xs 200).1.length = ss.length ∧ (landF h false ss xs 200).2.1.length ≤ xs.length := by
  obtain ⟨e1, e2⟩ := landF_put h ss xs 200
  have e1' : (landF h false ss xs 200).1 = putW ss ((ofH h xs).take 200) := e1
  have e2' : (landF h false ss xs 200).2.1 = remH h 200 xs := e2
  rw [e1', e2']
  exact ⟨diskB_put hd (fun x hx => of_mem (List.mem_of_mem_take hx)) (fun x hx => rem_mem 200 hx) (rem_len 200 xs), put_len _ _, rem_len 200 xs⟩

def AllT (P : ByteArray → Prop) (ss : List ByteArray) (xs : List Wr) : Prop := (∀ s ∈ ss, P s) ∧ ∀ x ∈ xs, P x.data
theorem AllT.new {P : ByteArray → Prop} (h : P ⟨#[]⟩) : AllT P noSs [] := ⟨fun s hs => by rw [List.eq_of_mem_replicate hs]; exact h, fun x hx => by cases hx⟩
theorem AllT.mono {P Q : ByteArray → Prop} {ss : List ByteArray} {xs : List Wr} (h : AllT P ss xs) (hq : ∀ t, P t → Q t) : AllT Q ss xs := ⟨fun s hs => hq s (h.1 s hs), fun x hx => hq _ (h.2 x hx)⟩
theorem AllT.snoc {P : ByteArray → Prop} {ss : List ByteArray} {xs : List Wr} {x : Wr} (h : AllT P ss xs) (hx : P x.data) : AllT P ss (xs ++ [x]) := ⟨h.1, fun y hy => by
  rcases List.mem_append.1 hy with hy | hy
  · exact h.2 y hy
  · rw [List.mem_singleton.1 hy]; exact hx⟩
theorem AllT.put {P : ByteArray → Prop} {ss : List ByteArray} {xs fs ys : List Wr} (h : AllT P ss xs) (hf : ∀ x ∈ fs, x ∈ xs) (hy : ∀ x ∈ ys, x ∈ xs) : AllT P (putW ss fs) ys := ⟨put_mem fs ss h.1 (fun x hx => h.2 x (hf x hx)), fun x hx => h.2 x (hy x hx)⟩
theorem AllT.land {P : ByteArray → Prop} {ss : List ByteArray} {xs : List Wr} (h : AllT P ss xs) (q : Int) : AllT P (landF q false ss xs 200).1 (landF q false ss xs 200).2.1 := by
  obtain ⟨e1, e2⟩ := landF_put q ss xs 200
  have e1' : (landF q false ss xs 200).1 = putW ss ((ofH q xs).take 200) := e1
  have e2' : (landF q false ss xs 200).2.1 = remH q 200 xs := e2
  rw [e1', e2']
  exact h.put (fun x hx => of_mem (List.mem_of_mem_take hx)) (fun x hx => rem_mem 200 hx)

set_option maxHeartbeats 1600000 in
theorem disk_k (b : Nat) (so : Option Addr) (n cap m : Nat) (w : World) (hm : m ≤ 600000) (hn : n ≤ 1048576) (hs : SrcK w b so n cap m) :
    Calls Tryz.prog 104 #[.pointer (some ⟨b, 0, none⟩)] w fun e w' => (∃ ss xs po pa qo qa, e = .returned (.agg #[.slice po ss.length pa, .slice qo xs.length qa]) ∧ diskB ss xs = true ∧ xs.length ≤ 19 ∧ Ss w' po ss ∧ Ios w' qo xs ∧ AllT (fun t => t.size ≤ 4) ss xs ∧ OwnD w' (w.heap.size + 1) po ss.length pa qo xs.length qa ss xs) ∧ Keep (fun k => k = b) w w' ∧ SrcK w' b so n cap (m + 600) := by
  have HS := hide hs
  have hlt := hs.lt
  clear hs
  have HK0 : Hid (Keep (fun k => k = b ∨ w.heap.size ≤ k) w (w.alloc (.cells #[.slice none 0 0, .slice none 0 0] 26))) := hide (Keep.of_below (Joins.below_alloc1 _ _))
  have HS0 := hide ((unhide HS).below (Joins.below_alloc1 w (.cells #[.slice none 0 0, .slice none 0 0] 26)))
  have HR0 : Hid (VarD (w.alloc (.cells #[.slice none 0 0, .slice none 0 0] 26)) w.heap.size (.slice none 0 0) (.slice none 0 0)) := hide (heap_alloc_new w _)
  go_enter Tryz.func104, Tryz.ntmps104
  go_wp2_with fail
  refine (l01New_any _).mono ?_
  rintro e w1 ⟨g, k, rfl, ho, hb1⟩
  have HS1 := hide ((unhide HS0).below hb1)
  have HK1 := hide ((unhide HK0).trans (Keep.of_below hb1))
  have HR1 := hide ((unhide HR0).below hb1)
  have HO1 := hide ho
  have hz1 : w.heap.size < w1.heap.size := (unhide HR1).lt
  clear ho hb1 HS0 HK0 HR0
  have D0 : Hid (DkSt w (w1.alloc (.cells #[.slice (some ⟨g, 0, none⟩) 64 64, .slice (some ⟨k, 0, none⟩) 0 0] 26)) b so n cap m w1.heap.size (some ⟨g, 0, none⟩) 64 (some ⟨k, 0, none⟩) 0 noSs []) := hide (by
    have hbA := Joins.below_alloc1 w1 (.cells #[.slice (some ⟨g, 0, none⟩) 64 64, .slice (some ⟨k, 0, none⟩) 0 0] 26)
    refine ⟨⟨?_, ((unhide HO1).ss (right_ss new_right)).below hbA, ((unhide HO1).ios (right_xs new_right)).below hbA⟩, (unhide HR1).below hbA, (unhide HK1).trans (Keep.of_below hbA), (unhide HS1).below hbA, hz1⟩
    rw [noSs_len]
    exact heap_alloc_new w1 _)
  go_wp2_with fail
  revert D0
  generalize w1.alloc (.cells #[.slice (some ⟨g, 0, none⟩) 64 64, .slice (some ⟨k, 0, none⟩) 0 0] 26) = W1
  generalize w1.heap.size = C at *
  intro D0
  clear HS1 HK1 HR1 HO1
  refine (next_k b so n cap m 20 _ (by omega) (by omega) (by omega) hn (unhide D0).s).mono ?_
  rintro e w2 ⟨q0, rfl, q00, q01, hs2, hk2⟩
  have D1 := hide ((unhide D0).src hlt hs2 hk2)
  clear hs2 hk2 D0
  obtain ⟨j0, rfl⟩ := Int.eq_ofNat_of_zero_le q00
  go_wp2
  go_loopw [4] (fun i wr => ∃ (j : Nat) (ss : List ByteArray) (xs : List Wr) (ao : Option Addr) (ca : Nat) (bo : Option Addr) (cb : Nat), xs.length + j ≤ 19 ∧ i = .int .i64 j ∧ Hid (diskB ss xs = true) ∧ Hid (AllT (fun t => t.size ≤ 4) ss xs) ∧ Hid (DkSt w wr b so n cap (m + 600 - 30 * j) C ao ca bo cb ss xs)) (fun i _ => (intOf i).toNat)
  case atStart => exact ⟨j0, noSs, [], _, _, _, _, by simp; omega, rfl, hide new_right, hide (AllT.new (Nat.zero_le _)), hide ((unhide D1).more (by omega))⟩
  case round =>
    obtain ⟨j, ss, xs, ao, ca, bo, cb, hxj, rfl, HR, HT, HD⟩ := hrel
    have HL : Hid (ss.length ≤ 1048576) := hide (by have := (diskB_len (unhide HR)).1; omega)
    have HM : Hid (xs.length ≤ 200) := hide (by omega)
    by_cases hj : 0 < j
    · go_wp2_with fail
      refine (next_k b so n cap _ 5 _ (by omega) (by omega) (by omega) hn (unhide HD).s).mono ?_
      rintro e w3 ⟨q1, rfl, q10, q11, hs3, hk3⟩
      have D3 := hide ((unhide HD).src hlt hs3 hk3)
      clear hs3 hk3
      obtain ⟨v0, v1⟩ := (unhide D3).dv.var.cells
      by_cases hq : q1 = 0
      · have hqb : (q1 == 0) = true := by simp [hq]
        go_wp2_with fail
        go_region_with (first
          | (go_at_call 105; refine (next_k b so n cap (m + 600 - 30 * j + 3) 4 _ (by omega) (by omega) (by omega) hn ?_).mono ?_; exact (unhide D3).s.below ((Below.refl _ _).drew); rintro e wA ⟨qh, rfl, qh0, qh1, hsA, hkA⟩; have DA := hide (((unhide D3).below ((Below.refl _ _).drew)).src hlt hsA hkA); obtain ⟨a0, a1⟩ := (unhide DA).dv.var.cells; clear hsA hkA)
          | (go_at_call 52; refine (l01Flush_any ao bo ca cb ss xs qh 200 _ rfl (by omega) (unhide HL) (unhide HM) (diskB_at (unhide HR)) ?_ ?_).mono ?_; exact (unhide DA).dv.s; exact (unhide DA).dv.i; rintro e wB ⟨po, pa, qo, qa, rfl, ho, hbB⟩; have DB := hide ((unhide DA).below hbB); obtain ⟨b0, b1⟩ := (unhide DB).dv.var.cells; have z0 := (unhide DB).dv.var.free 0; have z1 := (unhide DB).dv.var.free 1; have HO := hide ho; clear ho hbB))
        all_goals
          obtain ⟨f1, f2, f3⟩ := flush_right (h := qh) (unhide HR)
          have S' := DkSt.store (ca' := pa) (cb' := qa) (unhide DB) (unhide HS) ((unhide HO).ss (right_ss f1)) ((unhide HO).ios (right_xs f1))
          rw [f2] at S'
          have S2 := hide (S'.more (m' := m + 600 - 30 * (j - 1)) (by omega))
          have F1 := hide f1
          have F4 := hide ((unhide HT).land qh)
          have hlen : (landF qh false ss xs 200).2.1.length + (j - 1) ≤ 19 := by omega
          clear S' f1 f2 f3 DA DB HO b0 b1 z0 z1 a0 a1 v0 v1 D3 HD HL HM
          revert S2 F1 F4 hlen
          generalize (wB.setCell ⟨C, 0, none⟩ (.slice po ss.length pa)).setCell ⟨C, 1, none⟩ (.slice qo (landF qh false ss xs 200).2.1.length qa) = WF
          generalize (landF qh false ss xs 200).1 = ss2
          generalize (landF qh false ss xs 200).2.1 = xs2
          intro S2 F1 F4 hlen
          go_wp2
          go_roundw
          case rel => exact ⟨j - 1, ss2, xs2, po, pa, qo, qa, hlen, by go_num, F1, F4, S2⟩
          case measure => simp [intOf]; omega
      · have hqb : (q1 == 0) = false := by simp [hq]
        go_wp2_with fail
        go_region_with (first
          | (go_at_call_of 105 (Value.int IntKind.i64 4); refine (next_k b so n cap (m + 600 - 30 * j + 3) 4 _ (by omega) (by omega) (by omega) hn ?_).mono ?_; exact (unhide D3).s.below ((Below.refl _ _).drew); rintro e wA ⟨qh, rfl, qh0, qh1, hsA, hkA⟩; have DA := hide (((unhide D3).below ((Below.refl _ _).drew)).src hlt hsA hkA); obtain ⟨a0, a1⟩ := (unhide DA).dv.var.cells; clear hsA hkA)
          | (go_at_call_of 105 (Value.int IntKind.i64 8); refine (next_k b so n cap (m + 600 - 30 * j + 3 + 3) 8 _ (by omega) (by omega) (by omega) hn ?_).mono ?_; exact (unhide DA).s; rintro e wB ⟨qa, rfl, qa0, qa1, hsB, hkB⟩; have DB := hide ((unhide DA).src hlt hsB hkB); obtain ⟨b0, b1⟩ := (unhide DB).dv.var.cells; clear hsB hkB)
          | (go_at_call_of 105 (Value.int IntKind.i64 5); refine (next_k b so n cap (m + 600 - 30 * j + 3 + 3 + 3) 5 _ (by omega) (by omega) (by omega) hn ?_).mono ?_; exact (unhide DB).s; rintro e wC ⟨ql, rfl, ql0, ql1, hsC, hkC⟩; have DC := hide ((unhide DB).src hlt hsC hkC); obtain ⟨c0, c1⟩ := (unhide DC).dv.var.cells; obtain ⟨kk, rfl⟩ := Int.eq_ofNat_of_zero_le ql0; clear hsC hkC)
          | (go_at_call 129; refine (some_k b so n cap (m + 600 - 30 * j + 3 + 3 + 3 + 3) kk _ (by omega) (by omega) hn ?_).mono ?_; exact (unhide DC).s; rintro e wD ⟨tx, rfl, htx, hsD, hkD⟩; have DD := hide ((unhide DC).src hlt hsD hkD); obtain ⟨d0, d1⟩ := (unhide DD).dv.var.cells; have HTX := hide htx; clear hsD hkD htx)
          | (go_at_call 53; refine (l01Write_any ao bo ss.length ca cb xs ⟨qh, qa, tx⟩ _ (by omega) ?_).mono ?_; exact (unhide DD).dv.i; rintro e wE ⟨gg, cc, rfl, ho, hbE⟩; have DE := hide ((unhide DD).below hbE); obtain ⟨e0, e1⟩ := (unhide DE).dv.var.cells; have z0 := (unhide DE).dv.var.free 0; have z1 := (unhide DE).dv.var.free 1; have HO := hide ho; clear ho hbE))
        all_goals
          have hio : ioB ⟨qh, qa, tx⟩ = true := ioB_parts.2 ⟨⟨qh0, by show qh ≤ 3; omega⟩, ⟨qa0, by show qa ≤ 63; omega⟩, by show tx.size ≤ 80; rw [unhide HTX]; omega⟩
          have F1 := hide (diskB_snoc (unhide HR) (by omega) hio)
          have F4 := hide ((unhide HT).snoc (x := ⟨qh, qa, tx⟩) (by show tx.size ≤ 4; rw [unhide HTX]; omega))
          have hl1 : (xs ++ [(⟨qh, qa, tx⟩ : Wr)]).length = xs.length + 1 := by simp
          have hI : Ios wE (some ⟨gg, 0, none⟩) (xs ++ [(⟨qh, qa, tx⟩ : Wr)]) := ownI (cap := cc) (by rw [hl1]; exact unhide HO) (right_xs (unhide F1))
          have S' := DkSt.store (ca' := ca) (cb' := cc) (unhide DE) (unhide HS) (unhide DE).dv.s hI
          rw [hl1] at S'
          have S2 := hide (S'.more (m' := m + 600 - 30 * (j - 1)) (by omega))
          have hlen : (xs ++ [(⟨qh, qa, tx⟩ : Wr)]).length + (j - 1) ≤ 19 := by rw [hl1]; omega
          clear S' hI hl1 hio DA DB DC DD DE HO e0 e1 d0 d1 c0 c1 b0 b1 a0 a1 z0 z1 v0 v1 D3 HD HL HM
          revert S2
          generalize (wE.setCell ⟨C, 0, none⟩ (.slice ao ss.length ca)).setCell ⟨C, 1, none⟩ (.slice (some ⟨gg, 0, none⟩) (xs.length + 1) cc) = WF
          intro S2
          go_wp2
          go_roundw
          case rel => exact ⟨j - 1, ss, xs ++ [⟨qh, qa, tx⟩], ao, ca, some ⟨gg, 0, none⟩, cc, hlen, by go_num, F1, F4, S2⟩
          case measure => simp [intOf]; omega
    · obtain ⟨v0, v1⟩ := (unhide HD).dv.var.cells
      go_wp2_with fail
      refine (l01Own_any ao bo ca cb ss xs _ (unhide HL) (by omega) (unhide HD).dv.s (unhide HD).dv.i).mono ?_
      rintro e w3 ⟨po, pa, qo, qa, rfl, ho, hb3⟩
      have D3 := hide ((unhide HD).below hb3)
      have HO := hide ho
      have hzw : w.heap.size < wr.heap.size := (unhide HD).r.lt
      clear ho hb3 v0 v1
      obtain ⟨r0, r1⟩ := (unhide D3).r.cells
      have z0 := (unhide D3).r.free 0
      have z1 := (unhide D3).r.free 1
      go_wp2
      obtain ⟨hdv, hkr⟩ := DV.store (ca := pa) (cb := qa) (unhide D3).r ((unhide HO).ss (right_ss (unhide HR))) ((unhide HO).ios (right_xs (unhide HR)))
      exact bodyPost_ret (v := .agg #[.slice po ss.length pa, .slice qo xs.length qa]) (by simp [results, Tryz.results104, go_sem, r0, r1]) rfl ⟨⟨ss, xs, po, pa, qo, qa, rfl, unhide HR, by omega, hdv.s, hdv.i, unhide HT, (((unhide HO).setCell (a := ⟨w.heap.size, 0, none⟩) hzw _).setCell (a := ⟨w.heap.size, 1, none⟩) hzw _).base (by omega)⟩, keep_drop ((unhide D3).k.trans (hkr.mono (fun k e => .inr (by omega)))), ((unhide HS).other (unhide D3).s (keep_drop ((unhide D3).k.trans (hkr.mono (fun k e => .inr (by omega))))) hkr (by omega)).more (by omega)⟩

end Go.Proofs.YtefnapcegeojoaaGreatDoor

namespace Go.Proofs.YtefnapcegeojoaaGreatDoor
open Go.RowKit

theorem nums_append (a b : List Int) : strOfNums (a ++ b) = strOfNums a ++ strOfNums b := by
  apply ByteArray.ext
  simp [strOfNums]

def kindB (k : Int) : Bool := inB k 1 9
theorem kindB_in {k : Int} (h : kindB k = true) : 1 ≤ k ∧ k ≤ 9 := by simpa [kindB, inB] using h
def sumT (k : Int) (xs : List Int) : ByteArray := strOfNums [k, xs.length] ++ packS xs
def sumR (k : Int) (xs : List Int) : Int := sumS (sumT k xs)
def headR (k : Int) (xs : List Int) : List Int := [k, xs.length, sumR k xs, 0]
def sealS (k : Int) (xs : List Int) : ByteArray := strOfNums (headR k xs) ++ packS xs
theorem sumT_size (k : Int) (xs : List Int) : (sumT k xs).size = 2 + xs.length * 4 := by rw [sumT, ByteArray.size_append, strOfNums_size, packS_size]; rfl
theorem sealS_size (k : Int) (xs : List Int) : (sealS k xs).size = 4 + xs.length * 4 := by rw [sealS, ByteArray.size_append, strOfNums_size, packS_size]; rfl
theorem sumR_in (k : Int) (xs : List Int) : 0 ≤ sumR k xs ∧ sumR k xs ≤ 250 := sumTo_in _ _
theorem sealS_parts (k : Int) (xs : List Int) : strOfNums [k, (xs.length : Int)] ++ strOfNums [sumR k xs, 0] ++ packS xs = sealS k xs := by
  rw [← nums_append]; rfl

def sealC (k : Int) (xs : List Int) : Int := if listC xs = 0 then (if kindB k = true then 0 else 4) else listC xs
def sealT (k : Int) (xs : List Int) : ByteArray := if sealC k xs = 0 then sealS k xs else ⟨#[]⟩
theorem sealC_list {k : Int} {xs : List Int} (h : listC xs ≠ 0) : sealC k xs = listC xs := if_neg h
theorem sealC_kind {k : Int} {xs : List Int} (h : listC xs = 0) (hk : kindB k = false) : sealC k xs = 4 := by rw [sealC, if_pos h, if_neg (by simp [hk])]
theorem sealC_ok {k : Int} {xs : List Int} (h : listC xs = 0) (hk : kindB k = true) : sealC k xs = 0 := by rw [sealC, if_pos h, if_pos hk]
theorem sealT_ok {k : Int} {xs : List Int} (h : sealC k xs = 0) : sealT k xs = sealS k xs := if_pos h
theorem sealT_no {k : Int} {xs : List Int} (h : sealC k xs ≠ 0) : sealT k xs = ⟨#[]⟩ := if_neg h

end Go.Proofs.YtefnapcegeojoaaGreatDoor
