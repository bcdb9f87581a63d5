import Derived.Test.YtjoafbkcnnhdiacRows
import Derived.Test.YtjoafbkcnnhdiacLResizePart1
import Derived.Test.YtjoafbkcnnhdiacLResizePart9
import Derived.Test.YtjoafbkcnnhdiacLResizePart10
import Derived.Test.YtjoafbkcnnhdiacLResizePart6
import Derived.Test.YtjoafbkcnnhdiacLResizePart3
import Derived.Test.YtjoafbkcnnhdiacLResizePart5
import Derived.Test.YtjoafbkcnnhdiacLResizePart11
import Derived.WalkKit
import Derived.WalkSpells
import Derived.KernelRfl
import Derived.LoopN

namespace Go.Proofs.Ytjoafbkcnnhdiac
open Go.RowKit
set_option linter.unusedVariables false
set_option maxRecDepth 100000

set_option maxHeartbeats 1600000 in
theorem sizeM_k (b : Nat) (ao : Option Addr) (n cap m : Nat) (mx : Int) (w : World) (hx : 1 ≤ mx) (hx2 : mx ≤ 100000) (hn : n ≤ 1048576) (hs : SrcK w b ao n cap m) :
    Calls Try.prog 65 #[.pointer (some ⟨b, 0, none⟩), .int .i64 mx] w fun e w' => ∃ r : Int, e = .returned (.int .i64 r) ∧ 1 ≤ r ∧ r ≤ mx ∧ w' = w := by
  obtain ⟨⟨x, y, c0, c1, c2, c3, c4⟩, hB⟩ := hs
  obtain ⟨hc0, hc1, hc2, hf1, hf2⟩ := src_cells c4
  have hq : (n : Int).tdiv 12 = n / 12 := Int.tdiv_eq_ediv_of_nonneg (by omega)
  have hw1 : IntKind.i64.wrap ((n : Int) / 12) = (n : Int) / 12 := wrapI (by omega) (by omega)
  have hw2 : IntKind.i64.wrap (1 + (n : Int) / 12) = 1 + (n : Int) / 12 := wrapI (by omega) (by omega)
  clear c4 hc1 hc2 hf1 hf2 hB
  go_enter Try.func65, Try.ntmps65
  go_wp2
  · go_ret
    exact ⟨mx, rfl, by omega, by omega, rfl⟩
  · go_ret
    exact ⟨_, rfl, by omega, by omega, rfl⟩

set_option maxHeartbeats 1600000 in
theorem pick_k (b : Nat) (ao : Option Addr) (n cap m lb : Nat) (ss : List ByteArray) (w : World) (hl0 : 0 < ss.length) (hl1 : ss.length ≤ 100) (hm : m ≤ 900000) (hn : n ≤ 1048576) (hs : SrcK w b ao n cap m) (hne : lb ≠ b) (hb : w.heap[lb]? = some (.cells (strV ss).toArray 9 (0, 0))) :
    Calls Try.prog 91 #[.pointer (some ⟨b, 0, none⟩), .slice (some ⟨lb, 0, none⟩) ss.length ss.length] w fun e w' => ∃ (i : Nat) (hi : i < ss.length), e = .returned (.string ss[i]) ∧ SrcK w' b ao n cap (m + 3) ∧ Keep (fun k => k = b) w w' := by
  have HS := hide hs
  have HB := hide hb
  clear hs hb
  have h0 : ¬ ((ss.length : Int) == 0) = true := by simp; intro h; rw [h] at hl0; simp at hl0
  rw [Bool.not_eq_true] at h0
  go_enter Try.func91, Try.ntmps91
  go_wp2_with fail
  refine (next_k b ao n cap m (ss.length : Int) _ (by omega) (by omega) hm hn (unhide HS)).mono ?_
  rintro e w1 ⟨r, rfl, hr0, hr1, hs1, hk⟩
  obtain ⟨i, rfl⟩ := Int.eq_ofNat_of_zero_le hr0
  have hil : i < ss.length := by omega
  have hc : w1.cell? ⟨lb, i, none⟩ = some (.string ss[i]) := by
    rw [Joins.cell_of_block (blk_keep hk hne (unhide HB))]
    simp [strV, hil]
  have HS1 := hide hs1
  have HK1 := hide hk
  clear hs1 hk HB
  go_wp2
  go_ret
  exact ⟨i, hil, rfl, unhide HS1, unhide HK1⟩

abbrev kept : ByteArray := ⟨#[107, 101, 112, 116]⟩
def snapNms : List ByteArray := [⟨#[97]⟩, ⟨#[98]⟩, ⟨#[99]⟩, ⟨#[115, 110, 97, 112]⟩]
theorem snapNms_sz : ∀ (i : Nat) (hi : i < snapNms.length), snapNms[i].size ≤ 6 ∧ snapNms[i] ≠ kept := by decide
structure ImK (m : Img) : Prop where
  r : ImR m
  k : ∀ s ∈ m.snaps, s.name ≠ kept
theorem drops_snaps (es : List Int) : ∀ m : Img, (imDrops m es).snaps = m.snaps := by
  unfold imDrops
  induction es with
  | nil => intro m; rfl
  | cons e es ih => intro m; rw [List.foldl_cons, ih, (imDrop_table m e).2]
theorem ImK.new {n : Nat} (hn : n ≤ 12) : ImK (imNew n) := ⟨ImR.new hn, fun s hs => by cases hs⟩
theorem ImK.zero {m : Img} (h : ImK m) {g : Nat} (hg : g < m.table.length) : ImK (imZero m g) := ⟨h.r.zero hg, by
  have e : (imZero m g).snaps = m.snaps := by unfold imZero; exact (imDrop_table m _).2
  rw [e]; exact h.k⟩
theorem ImK.resize {m : Img} (h : ImK m) {n : Nat} (hn : n ≤ 12) : ImK (imResize m n) := ⟨h.r.resize hn, by
  have e : (imResize m n).snaps = m.snaps := by unfold imResize; exact drops_snaps _ m
  rw [e]; exact h.k⟩
theorem ImK.write {m : Img} (h : ImK m) {g : Nat} (hg : g < m.table.length) {v : Int} (hv : numB v = true) : ImK (imWrite m g v).1 := ⟨h.r.write hg hv, by
  have e : (imWrite m g v).1.snaps = m.snaps := by
    unfold imWrite
    simp only
    split
    · rfl
    · split
      · exact (imDrop_table m _).2
      · rfl
  rw [e]; exact h.k⟩
theorem ImK.create {m : Img} (h : ImK m) (t : ByteArray) (ht : t ≠ kept) : ImK (imCreate m t).1 := ⟨h.r.create t, by
  unfold imCreate
  split
  · split
    · exact h.k
    · split
      · exact h.k
      · intro s hs
        simp only [List.mem_append, List.mem_singleton] at hs
        rcases hs with hs | rfl
        · exact h.k s hs
        · exact ht
  · exact h.k⟩
theorem ImK.delete {m : Img} (h : ImK m) (t : ByteArray) : ImK (imDelete m t).1 := ⟨h.r.delete t, by
  unfold imDelete
  split
  · exact fun s hs => h.k s (List.mem_of_mem_eraseIdx hs)
  · exact h.k⟩
theorem ImK.revert {m : Img} (h : ImK m) (t : ByteArray) : ImK (imRevert m t).1 := ⟨h.r.revert t, by
  unfold imRevert
  split
  · have e : ∀ (m' : Img) es, (imDrops m' es).snaps = m'.snaps := fun m' es => drops_snaps es m'
    simp only [e]
    exact h.k
  · exact h.k⟩
set_option maxHeartbeats 1600000 in
theorem snapName_k (b : Nat) (ao : Option Addr) (n cap m : Nat) (w : World) (hm : m ≤ 900000) (hn : n ≤ 1048576) (hs : SrcK w b ao n cap m) :
    Calls Try.prog 67 #[.pointer (some ⟨b, 0, none⟩)] w fun e w' => ∃ t : ByteArray, e = .returned (.string t) ∧ (t.size ≤ 6 ∧ t ≠ kept) ∧ SrcK w' b ao n cap (m + 3) ∧ Keep (fun k => k = b) w w' := by
  have HS := hide hs
  have hlt := hs.lt
  clear hs
  have HSA := hide ((unhide HS).below (Joins.below_alloc1 w (.cells (strV snapNms).toArray 9)))
  have HKA : Hid (Keep (fun k => k = b) w (w.alloc (.cells (strV snapNms).toArray 9))) := hide (Keep.of_below (Joins.below_alloc1 _ _))
  have HBA : Hid ((w.alloc (.cells (strV snapNms).toArray 9)).heap[w.heap.size]? = some (.cells (strV snapNms).toArray 9 (0, 0))) := hide (heap_alloc_new _ _)
  go_enter Try.func67, Try.ntmps67
  go_wp2_with fail
  refine (pick_k b ao n cap m w.heap.size snapNms _ (by decide) (by decide) hm hn (unhide HSA) (by omega) (unhide HBA)).mono ?_
  rintro e w1 ⟨i, hi, rfl, hs1, hk⟩
  have HS1 := hide hs1
  have HK1 := hide ((unhide HKA).trans hk)
  have HT : Hid (snapNms[i].size ≤ 6 ∧ snapNms[i] ≠ kept) := hide (snapNms_sz i hi)
  clear hs1 hk HBA HSA HKA
  generalize snapNms[i] = t at *
  go_wp2
  go_ret
  exact ⟨t, rfl, unhide HT, unhide HS1, unhide HK1⟩

structure IgS (w W : World) (b : Nat) (ao : Option Addr) (n cap c y : Nat) (a : Im4) (m : Img) (ts : List Value) : Prop where
  s : SrcK W b ao n cap c
  hs : b < w.heap.size
  r : VarM W w.heap.size 29 (.slice none 0 0) (.slice none 0 0) (.slice none 0 0) (.slice none 0 0)
  v : VarM W y 29 (.slice a.ro m.refs.length a.rc) (.slice a.tq m.table.length a.tc) (.slice a.so m.snaps.length a.sc) (.slice a.dq m.data.length a.dc)
  y0 : w.heap.size < y
  o : OwnIm W w.heap.size a m ts
  k : Keep (fun k => k = b) w W
  i : ImK m
theorem IgS.src {w W W' : World} {b n cap c c' y : Nat} {ao : Option Addr} {a : Im4} {m : Img} {ts : List Value} (h : IgS w W b ao n cap c y a m ts) (hs : SrcK W' b ao n cap c') (hk : Keep (fun k => k = b) W W') : IgS w W' b ao n cap c' y a m ts :=
  ⟨hs, h.hs, (hk.block _ h.r.lt (by have := h.hs; omega)).trans h.r, (hk.block _ h.v.lt (by have := h.hs; have := h.y0; omega)).trans h.v, h.y0, h.o.keep hk (fun g hg e => by have := (h.o.ge g hg).1; have := h.hs; omega), h.k.trans hk, h.i⟩
theorem IgS.more {w W : World} {b n cap c c' y : Nat} {ao : Option Addr} {a : Im4} {m : Img} {ts : List Value} (h : IgS w W b ao n cap c y a m ts) (hc : c ≤ c') : IgS w W b ao n cap c' y a m ts := ⟨h.s.more hc, h.hs, h.r, h.v, h.y0, h.o, h.k, h.i⟩
theorem IgS.below {w W W' : World} {b n cap c y : Nat} {ao : Option Addr} {a : Im4} {m : Img} {ts : List Value} (h : IgS w W b ao n cap c y a m ts) (hb : Below W.heap.size W W') : IgS w W' b ao n cap c y a m ts :=
  ⟨h.s.below hb, h.hs, h.r.below hb, h.v.below hb, h.y0, h.o.below hb, h.k.trans (Keep.of_below hb), h.i⟩
theorem IgS.shows {w W : World} {b n cap c y : Nat} {ao : Option Addr} {a : Im4} {m : Img} {ts : List Value} (h : IgS w W b ao n cap c y a m ts) : ImS W a m := h.o.shows h.i.r.M.zs
theorem IgS.put {w W W' : World} {b n cap c y m0 : Nat} {ao : Option Addr} {a a' : Im4} {m m' : Img} {ts ts' : List Value} (h : IgS w W b ao n cap c y a m ts) (h0 : SrcK w b ao n cap m0) (hb : Below W.heap.size W W') (ho : OwnIm W' W.heap.size a' m' ts') (hi : ImK m') : IgS w (putI W' y a' m') b ao n cap c y a' m' ts' := by
  have hk : Keep (fun k => k = y) W' (putI W' y a' m') := (((((Keep.refl (fun k => k = y) W').setCell (p := ⟨y, 0, none⟩) rfl _).setCell (p := ⟨y, 1, none⟩) rfl _).setCell (p := ⟨y, 2, none⟩) rfl _).setCell (p := ⟨y, 3, none⟩) rfl _)
  have h1 := h.below hb
  have hy := h.v.lt
  have hkw := keep_new h1.k hk (fun k e => .inl (by have := h.y0; omega))
  have hv := h1.v
  exact ⟨h0.other h1.s hkw hk (by have := h.hs; have := h.y0; omega), h.hs, (hk.block _ h1.r.lt (by have := h.y0; omega)).trans h1.r, (((hv.set0 _).set1 _).set2 _).set3 _, h.y0, (ho.keep hk (fun g hg e => by have := (ho.ge g hg).1; omega)).base h.k.size, hkw, hi⟩
theorem IgS.fin {w W W' : World} {b n cap c y m0 : Nat} {ao : Option Addr} {a a' : Im4} {m : Img} {ts ts' : List Value} (h : IgS w W b ao n cap c y a m ts) (h0 : SrcK w b ao n cap m0) (hb : Below W.heap.size W W') (ho : OwnIm W' W.heap.size a' m ts') :
    VarM (putI W' w.heap.size a' m) w.heap.size 29 (.slice a'.ro m.refs.length a'.rc) (.slice a'.tq m.table.length a'.tc) (.slice a'.so m.snaps.length a'.sc) (.slice a'.dq m.data.length a'.dc) ∧ OwnIm (putI W' w.heap.size a' m) w.heap.size a' m ts' ∧ SrcK (putI W' w.heap.size a' m) b ao n cap c ∧ Keep (fun k => k = b) w (putI W' w.heap.size a' m) := by
  have hk : Keep (fun k => k = w.heap.size) W' (putI W' w.heap.size a' m) := (((((Keep.refl (fun k => k = w.heap.size) W').setCell (p := ⟨w.heap.size, 0, none⟩) rfl _).setCell (p := ⟨w.heap.size, 1, none⟩) rfl _).setCell (p := ⟨w.heap.size, 2, none⟩) rfl _).setCell (p := ⟨w.heap.size, 3, none⟩) rfl _)
  have h1 := h.below hb
  have hy := h.r.lt
  have hkw := keep_new h1.k hk (fun k e => .inl (by omega))
  have hv := h1.r
  exact ⟨(((hv.set0 _).set1 _).set2 _).set3 _, (ho.keep hk (fun g hg e => by have := (ho.ge g hg).1; omega)).base h.k.size, h0.other h1.s hkw hk (by have := h.hs; omega), hkw⟩
theorem IgS.first {w W W' : World} {b n cap c m0 : Nat} {ao : Option Addr} {a : Im4} {m : Img} {ts : List Value} (h0 : SrcK w b ao n cap m0) (hs : SrcK W b ao n cap c) (hr : VarM W w.heap.size 29 (.slice none 0 0) (.slice none 0 0) (.slice none 0 0) (.slice none 0 0)) (hk : Keep (fun k => k = b) w W) (hb : Below W.heap.size W W') (ho : OwnIm W' W.heap.size a m ts) (hi : ImK m) (c0 : Array Value) :
    IgS w (W'.alloc (.cells #[.slice a.ro m.refs.length a.rc, .slice a.tq m.table.length a.tc, .slice a.so m.snaps.length a.sc, .slice a.dq m.data.length a.dc] 29)) b ao n cap c W'.heap.size a m ts := by
  have hb2 : Below W.heap.size W (W'.alloc (.cells #[.slice a.ro m.refs.length a.rc, .slice a.tq m.table.length a.tc, .slice a.so m.snaps.length a.sc, .slice a.dq m.data.length a.dc] 29)) := fr hb (Joins.below_alloc1 _ _)
  exact ⟨hs.below hb2, h0.lt, hr.below hb2, VarM.new _ _ _ _ _ _, Nat.lt_of_lt_of_le hr.lt hb.size, (ho.below (Joins.below_alloc1 _ _)).base hk.size, hk.trans (Keep.of_below hb2), hi⟩

set_option maxHeartbeats 12800000 in
theorem image_k (b : Nat) (ao : Option Addr) (n cap m : Nat) (w : World) (hm : m ≤ 700000) (hn : n ≤ 1048576) (hs : SrcK w b ao n cap m) :
    Calls Try.prog 37 #[.pointer (some ⟨b, 0, none⟩)] w fun e w' => ∃ a M ts, e = .returned (imV a M) ∧ OwnIm w' w.heap.size a M ts ∧ ImK M ∧ SrcK w' b ao n cap (m + 2000) ∧ Keep (fun k => k = b) w w' := by
  have hbl := hs.lt
  have HS0 := hide hs
  clear hs
  have HSA := hide ((unhide HS0).below (Joins.below_alloc1 w (.cells #[.slice none 0 0, .slice none 0 0, .slice none 0 0, .slice none 0 0] 29)))
  have HKA : Hid (Keep (fun k => k = b) w (w.alloc (.cells #[.slice none 0 0, .slice none 0 0, .slice none 0 0, .slice none 0 0] 29))) := hide (Keep.of_below (Joins.below_alloc1 _ _))
  have HRA := hide (VarM.new w 29 (.slice none 0 0) (.slice none 0 0) (.slice none 0 0) (.slice none 0 0))
  go_enter Try.func37, Try.ntmps37
  go_upto_region 1 with fail
  revert HSA HKA HRA
  generalize (w.alloc _) = W0
  intro HSA HKA HRA
  go_wp2_with fail
  refine (next_k b ao n cap m 13 _ (by omega) (by omega) (by omega) hn (unhide HSA)).mono ?_
  rintro e w1 ⟨r1, rfl, h10, h11, hs1, hk1⟩
  obtain ⟨q1, rfl⟩ := Int.eq_ofNat_of_zero_le h10
  have HS1 := hide hs1
  have HK1 := hide ((unhide HKA).trans hk1)
  have HR1 : Hid (VarM w1 w.heap.size 29 (.slice none 0 0) (.slice none 0 0) (.slice none 0 0) (.slice none 0 0)) := hide ((hk1.block _ (unhide HRA).lt (by omega)).trans (unhide HRA))
  clear hs1 hk1 HSA HKA HRA
  go_wp2_with fail
  refine (l10New_any q1 _ (by omega)).mono ?_
  rintro e w2 ⟨a1, rfl, ho2, hb2⟩
  obtain ⟨M1, HM1⟩ : ∃ M, Hid (M = imNew q1) := ⟨_, hide rfl⟩
  rw [← unhide HM1] at ho2 ⊢
  have HI1 := hide (IgS.first (unhide HS0) (unhide HS1) (unhide HR1) (unhide HK1) hb2 ho2 (by rw [unhide HM1]; exact ImK.new (by omega)) #[])
  clear ho2 hb2 HS1 HK1 HR1 HM1 h10 h11
  go_upto_region 2 with fail
  revert HI1
  generalize w2.heap.size = y
  generalize (w2.alloc _) = W2
  intro HI1
  go_wp2_with fail
  refine (chance_k b ao n cap _ 2 _ (by omega) (by omega) (by omega) hn (unhide HI1).s).mono ?_
  rintro e w3 ⟨ch, rfl, hs3, hk3⟩
  have HI2 := hide ((unhide HI1).src hs3 hk3)
  clear hs3 hk3 HI1
  cases ch
  · have HI3 := hide ((unhide HI2).more (c' := m + 12) (by omega))
    clear HI2
    go_wp2_with fail
    refine (sizeM_k b ao n cap _ 20 _ (by omega) (by omega) hn (unhide HI3).s).mono ?_
    rintro e wx ⟨sz, rfl, hz0, hz1, hwx⟩
    replace hwx := hwx.symm
    subst hwx
    have hw1 : IntKind.i64.wrap (sz + 12) = sz + 12 := wrapI (by omega) (by omega)
    go_wp2_with fail
    refine (next_k b ao n cap _ (sz + 12) _ (by omega) (by omega) (by omega) hn (unhide HI3).s).mono ?_
    rintro e w6 ⟨r6, rfl, h60, h61, hs6, hk6⟩
    obtain ⟨q6, rfl⟩ := Int.eq_ofNat_of_zero_le h60
    have hq6 : q6 ≤ 31 := by omega
    have HI7 := hide (((unhide HI3).src hs6 hk6).more (c' := m + 2000 - 30 * q6) (by omega))
    clear hs6 hk6 HI3 h60 h61 hz0 hz1 hw1
    go_wp2
    go_loopw [4] (fun i wr => ∃ k : Nat, k ≤ 31 ∧ i = .int .i64 k ∧ ∃ a m' ts, Hid (IgS w wr b ao n cap (m + 2000 - 30 * k) y a m' ts)) (fun i _ => (intOf i).toNat)
    case atStart => exact ⟨q6, hq6, rfl, _, _, _, HI7⟩
    case round =>
      clear HI7 hq6
      obtain ⟨k0, hk0, rfl, a, m', ts, HI⟩ := hrel
      by_cases hz : k0 = 0
      · subst hz
        obtain ⟨c0, c1, c2, c3⟩ := (unhide HI).v.cells
        go_wp2_with fail
        refine (l10Own_M a m' _ (unhide HI).i.r.M (unhide HI).shows).mono ?_
        rintro e w8 ⟨a8, ts8, rfl, ho8, hb8⟩
        have HF := hide ((unhide HI).fin (unhide HS0) hb8 ho8)
        have HII := hide (unhide HI).i
        have hr8 := (unhide HI).r.below hb8
        clear ho8 hb8 c0 c1 c2 c3 HI
        obtain ⟨r0, r1, r2, r3⟩ := hr8.cells
        obtain ⟨z0, z1, z2, z3⟩ := hr8.free
        clear hr8
        go_wp2
        refine bodyPost_ret (res_im Try.results37 rfl (unhide HF).1) rfl ?_
        first | exact ⟨a8, m', ts8, rfl, (unhide HF).2.1, unhide HII, (unhide HF).2.2.1.more (by omega), (unhide HF).2.2.2⟩ | exact ⟨a8, m', rfl, ⟨ts8, (unhide HF).2.1⟩, unhide HII, (unhide HF).2.2.1.more (by omega), (unhide HF).2.2.2⟩
      · obtain ⟨k, rfl⟩ : ∃ k, k0 = k + 1 := ⟨k0 - 1, by omega⟩
        have hki : (0 : Int) < ((k + 1 : Nat) : Int) := by omega
        clear hz
        obtain ⟨c0, c1, c2, c3⟩ := (unhide HI).v.cells
        by_cases hp : 0 < m'.table.length
        · have hpi : (0 : Int) < (m'.table.length : Int) := by omega
          have ht12 := (unhide HI).i.r.M.t
          go_wp2_with fail
          refine (next_k b ao n cap _ (m'.table.length : Int) _ (by omega) (by omega) (by omega) hn (unhide HI).s).mono ?_
          rintro e w8 ⟨r8, rfl, h80, h81, hs8, hk8⟩
          obtain ⟨g, rfl⟩ := Int.eq_ofNat_of_zero_le h80
          have hgl : g < m'.table.length := by omega
          have HI8 := hide ((unhide HI).src hs8 hk8)
          clear hs8 hk8 HI c0 c1 c2 c3 h80 h81
          go_wp2_with fail
          refine (next_k b ao n cap _ 9 _ (by omega) (by omega) (by omega) hn (unhide HI8).s).mono ?_
          rintro e wr' ⟨r9, rfl, h90, h91, hs9, hk9⟩
          have HI := hide ((unhide HI8).src hs9 hk9)
          clear hs9 hk9 HI8
          rcases (show r9 = 0 ∨ r9 = 1 ∨ r9 = 2 ∨ r9 = 3 ∨ r9 = 4 ∨ 5 ≤ r9 by omega) with rfl | rfl | rfl | rfl | rfl | h5
          · clear h90 h91
            go_upto_region 14 with fail
            have hS0 : VarM wr'.drew y 29 (.slice a.ro m'.refs.length a.rc) (.slice a.tq m'.table.length a.tc) (.slice a.so m'.snaps.length a.sc) (.slice a.dq m'.data.length a.dc) := (unhide HI).v.below (Below.refl _ _).drew
            have HI0 := hide ((unhide HI).below (Below.refl _ _).drew)
            clear HI
            refine wp_region_ord (fun w' => VarM w' y 29 (.slice a.ro m'.refs.length a.rc) (.slice a.tq m'.table.length a.tc) (.slice a.so m'.snaps.length a.sc) (.slice a.dq m'.data.length a.dc)) [0, 1, 2] [(0, 0), (1, 0), (2, 2), (3, 3), (4, 4), (5, 4), (6, 4), (7, 3)] (by kernel_rfl) (by kernel_rfl) rfl (by kernel_rfl) ?_
            refine ord_read (.agg #[.slice a.ro m'.refs.length a.rc, .slice a.tq m'.table.length a.tc, .slice a.so m'.snaps.length a.sc, .slice a.dq m'.data.length a.dc]) rfl rfl hS0 (fun W hW => by obtain ⟨k0, k1, k2, k3⟩ := hW.cells; go_simp) ?_
            refine ord_read (.pointer (some ⟨b, 0, none⟩)) rfl rfl hS0 (fun W hW => by go_simp) ?_
            refine ord_held rfl rfl ?_
            intro K hK
            unfold Oper.wp
            go_simp
            refine (snapName_k b ao n cap _ _ (by omega) hn (unhide HI0).s).mono ?_
            rintro e w5 ⟨t, rfl, htz, hs5, hk5⟩
            have HI5 := hide ((unhide HI0).src hs5 hk5)
            have HTZ := hide htz
            clear hs5 hk5 htz
            refine hK _ _ (unhide HI5).v ?_
            clear hK K
            refine ord_alone rfl rfl ?_
            intro K hK
            unfold Oper.wp
            go_simp
            obtain ⟨R, HR⟩ : ∃ R, Hid (R = imCreate m' t) := ⟨_, hide rfl⟩
            refine (l10Create_R a m' t R _ (unhide HR) (unhide HI5).i.r.M (unhide HI5).i.r.table (by have := (unhide HTZ).1; unfold maxLen; omega) (unhide HI5).shows).mono ?_
            rintro e w6 ⟨a2, ts2, rfl, ho6, hb6⟩
            have HRI : Hid (ImK R.1) := hide (by rw [unhide HR]; exact (unhide HI5).i.create t (unhide HTZ).2)
            have HN := hide ((unhide HI5).put (unhide HS0) hb6 ho6 (unhide HRI))
            unfold putI at HN
            have hv6 := (unhide HI5).v.below hb6
            refine hK _ _ ?_
            clear hK K ho6 hb6 hS0 HI0 HI5 HR
            obtain ⟨m2, code⟩ := R
            refine ord_val (.tuple #[imV a2 m2, .int .i64 code]) rfl rfl (fun W => by go_simp) ?_
            refine ord_val (imV a2 m2) rfl rfl (fun W => by go_simp) ?_
            refine ord_val (.int .i64 code) rfl rfl (fun W => by go_simp) ?_
            obtain ⟨c0, c1, c2, c3⟩ := hv6.cells
            obtain ⟨z0, z1, z2, z3⟩ := hv6.free
            clear hv6
            refine ord_alone rfl rfl ?_
            intro K hK
            unfold Oper.wp
            go_simp
            refine hK _ _ ?_
            clear hK K
            refine ord_done ?_
            clear c0 c1 c2 c3 z0 z1 z2 z3
            revert HN
            generalize (((w6.setCell _ _).setCell _ _).setCell _ _).setCell _ _ = W7
            intro HN
            go_wp2
            go_roundw
            case rel => exact ⟨k, by omega, by go_num, a2, m2, ts2, hide ((unhide HN).more (by omega))⟩
            case measure => simp [intOf]
          · clear h90 h91
            go_upto_region 16 with fail
            have hS0 : VarM wr'.drew y 29 (.slice a.ro m'.refs.length a.rc) (.slice a.tq m'.table.length a.tc) (.slice a.so m'.snaps.length a.sc) (.slice a.dq m'.data.length a.dc) := (unhide HI).v.below (Below.refl _ _).drew
            have HI0 := hide ((unhide HI).below (Below.refl _ _).drew)
            clear HI
            refine wp_region_ord (fun w' => VarM w' y 29 (.slice a.ro m'.refs.length a.rc) (.slice a.tq m'.table.length a.tc) (.slice a.so m'.snaps.length a.sc) (.slice a.dq m'.data.length a.dc)) [0, 1, 2] [(0, 0), (1, 0), (2, 2), (3, 3), (4, 4), (5, 4), (6, 4), (7, 3)] (by kernel_rfl) (by kernel_rfl) rfl (by kernel_rfl) ?_
            refine ord_read (.agg #[.slice a.ro m'.refs.length a.rc, .slice a.tq m'.table.length a.tc, .slice a.so m'.snaps.length a.sc, .slice a.dq m'.data.length a.dc]) rfl rfl hS0 (fun W hW => by obtain ⟨k0, k1, k2, k3⟩ := hW.cells; go_simp) ?_
            refine ord_read (.pointer (some ⟨b, 0, none⟩)) rfl rfl hS0 (fun W hW => by go_simp) ?_
            refine ord_held rfl rfl ?_
            intro K hK
            unfold Oper.wp
            go_simp
            refine (snapName_k b ao n cap _ _ (by omega) hn (unhide HI0).s).mono ?_
            rintro e w5 ⟨t, rfl, htz, hs5, hk5⟩
            have HI5 := hide ((unhide HI0).src hs5 hk5)
            have HTZ := hide htz
            clear hs5 hk5 htz
            refine hK _ _ (unhide HI5).v ?_
            clear hK K
            refine ord_alone rfl rfl ?_
            intro K hK
            unfold Oper.wp
            go_simp
            obtain ⟨R, HR⟩ : ∃ R, Hid (R = imDelete m' t) := ⟨_, hide rfl⟩
            refine (l10Delete_R a m' t R _ (unhide HR) (unhide HI5).i.r.M (unhide HI5).shows).mono ?_
            rintro e w6 ⟨a2, ts2, rfl, ho6, hb6⟩
            have HRI : Hid (ImK R.1) := hide (by rw [unhide HR]; exact (unhide HI5).i.delete t)
            have HN := hide ((unhide HI5).put (unhide HS0) hb6 ho6 (unhide HRI))
            unfold putI at HN
            have hv6 := (unhide HI5).v.below hb6
            refine hK _ _ ?_
            clear hK K ho6 hb6 hS0 HI0 HI5 HR
            obtain ⟨m2, code⟩ := R
            refine ord_val (.tuple #[imV a2 m2, .int .i64 code]) rfl rfl (fun W => by go_simp) ?_
            refine ord_val (imV a2 m2) rfl rfl (fun W => by go_simp) ?_
            refine ord_val (.int .i64 code) rfl rfl (fun W => by go_simp) ?_
            obtain ⟨c0, c1, c2, c3⟩ := hv6.cells
            obtain ⟨z0, z1, z2, z3⟩ := hv6.free
            clear hv6
            refine ord_alone rfl rfl ?_
            intro K hK
            unfold Oper.wp
            go_simp
            refine hK _ _ ?_
            clear hK K
            refine ord_done ?_
            clear c0 c1 c2 c3 z0 z1 z2 z3
            revert HN
            generalize (((w6.setCell _ _).setCell _ _).setCell _ _).setCell _ _ = W7
            intro HN
            go_wp2
            go_roundw
            case rel => exact ⟨k, by omega, by go_num, a2, m2, ts2, hide ((unhide HN).more (by omega))⟩
            case measure => simp [intOf]
          · clear h90 h91
            go_upto_region 18 with fail
            have hS0 : VarM wr'.drew y 29 (.slice a.ro m'.refs.length a.rc) (.slice a.tq m'.table.length a.tc) (.slice a.so m'.snaps.length a.sc) (.slice a.dq m'.data.length a.dc) := (unhide HI).v.below (Below.refl _ _).drew
            have HI0 := hide ((unhide HI).below (Below.refl _ _).drew)
            clear HI
            refine wp_region_ord (fun w' => VarM w' y 29 (.slice a.ro m'.refs.length a.rc) (.slice a.tq m'.table.length a.tc) (.slice a.so m'.snaps.length a.sc) (.slice a.dq m'.data.length a.dc)) [0, 1, 2] [(0, 0), (1, 0), (2, 2), (3, 3), (4, 4), (5, 4), (6, 4), (7, 3)] (by kernel_rfl) (by kernel_rfl) rfl (by kernel_rfl) ?_
            refine ord_read (.agg #[.slice a.ro m'.refs.length a.rc, .slice a.tq m'.table.length a.tc, .slice a.so m'.snaps.length a.sc, .slice a.dq m'.data.length a.dc]) rfl rfl hS0 (fun W hW => by obtain ⟨k0, k1, k2, k3⟩ := hW.cells; go_simp) ?_
            refine ord_read (.pointer (some ⟨b, 0, none⟩)) rfl rfl hS0 (fun W hW => by go_simp) ?_
            refine ord_held rfl rfl ?_
            intro K hK
            unfold Oper.wp
            go_simp
            refine (snapName_k b ao n cap _ _ (by omega) hn (unhide HI0).s).mono ?_
            rintro e w5 ⟨t, rfl, htz, hs5, hk5⟩
            have HI5 := hide ((unhide HI0).src hs5 hk5)
            have HTZ := hide htz
            clear hs5 hk5 htz
            refine hK _ _ (unhide HI5).v ?_
            clear hK K
            refine ord_alone rfl rfl ?_
            intro K hK
            unfold Oper.wp
            go_simp
            obtain ⟨R, HR⟩ : ∃ R, Hid (R = imRevert m' t) := ⟨_, hide rfl⟩
            refine (l10Revert_R a m' t R _ (unhide HR) (unhide HI5).i.r.M (fun s hs => ((unhide HI5).i.r.snaps s hs).2) (unhide HI5).shows).mono ?_
            rintro e w6 ⟨a2, ts2, rfl, ho6, hb6⟩
            have HRI : Hid (ImK R.1) := hide (by rw [unhide HR]; exact (unhide HI5).i.revert t)
            have HN := hide ((unhide HI5).put (unhide HS0) hb6 ho6 (unhide HRI))
            unfold putI at HN
            have hv6 := (unhide HI5).v.below hb6
            refine hK _ _ ?_
            clear hK K ho6 hb6 hS0 HI0 HI5 HR
            obtain ⟨m2, code⟩ := R
            refine ord_val (.tuple #[imV a2 m2, .int .i64 code]) rfl rfl (fun W => by go_simp) ?_
            refine ord_val (imV a2 m2) rfl rfl (fun W => by go_simp) ?_
            refine ord_val (.int .i64 code) rfl rfl (fun W => by go_simp) ?_
            obtain ⟨c0, c1, c2, c3⟩ := hv6.cells
            obtain ⟨z0, z1, z2, z3⟩ := hv6.free
            clear hv6
            refine ord_alone rfl rfl ?_
            intro K hK
            unfold Oper.wp
            go_simp
            refine hK _ _ ?_
            clear hK K
            refine ord_done ?_
            clear c0 c1 c2 c3 z0 z1 z2 z3
            revert HN
            generalize (((w6.setCell _ _).setCell _ _).setCell _ _).setCell _ _ = W7
            intro HN
            go_wp2
            go_roundw
            case rel => exact ⟨k, by omega, by go_num, a2, m2, ts2, hide ((unhide HN).more (by omega))⟩
            case measure => simp [intOf]
          · clear h90 h91
            go_upto_region 20 with fail
            have hS0 : VarM wr'.drew y 29 (.slice a.ro m'.refs.length a.rc) (.slice a.tq m'.table.length a.tc) (.slice a.so m'.snaps.length a.sc) (.slice a.dq m'.data.length a.dc) := (unhide HI).v.below (Below.refl _ _).drew
            have HI0 := hide ((unhide HI).below (Below.refl _ _).drew)
            clear HI
            refine wp_region_ord (fun w' => VarM w' y 29 (.slice a.ro m'.refs.length a.rc) (.slice a.tq m'.table.length a.tc) (.slice a.so m'.snaps.length a.sc) (.slice a.dq m'.data.length a.dc)) [0, 1, 2] [(0, 0), (1, 0), (2, 2), (3, 3), (4, 3)] (by kernel_rfl) (by kernel_rfl) rfl (by kernel_rfl) ?_
            refine ord_read (.agg #[.slice a.ro m'.refs.length a.rc, .slice a.tq m'.table.length a.tc, .slice a.so m'.snaps.length a.sc, .slice a.dq m'.data.length a.dc]) rfl rfl hS0 (fun W hW => by obtain ⟨k0, k1, k2, k3⟩ := hW.cells; go_simp) ?_
            refine ord_read (.pointer (some ⟨b, 0, none⟩)) rfl rfl hS0 (fun W hW => by go_simp) ?_
            refine ord_held rfl rfl ?_
            intro K hK
            unfold Oper.wp
            go_simp
            refine (next_k b ao n cap _ 13 _ (by omega) (by omega) (by omega) hn (unhide HI0).s).mono ?_
            rintro e w5 ⟨r5, rfl, h50, h51, hs5, hk5⟩
            obtain ⟨q, rfl⟩ := Int.eq_ofNat_of_zero_le h50
            have HI5 := hide ((unhide HI0).src hs5 hk5)
            clear hs5 hk5
            refine hK _ _ (unhide HI5).v ?_
            clear hK K
            refine ord_alone rfl rfl ?_
            intro K hK
            unfold Oper.wp
            go_simp
            obtain ⟨m2, HR⟩ : ∃ R, Hid (R = imResize m' q) := ⟨_, hide rfl⟩
            refine (l10Resize_R a m' q m2 _ (unhide HR) (unhide HI5).i.r.M (by omega) (unhide HI5).shows).mono ?_
            rintro e w6 ⟨a2, ts2, rfl, ho6, hb6⟩
            have HRI : Hid (ImK m2) := hide (by rw [unhide HR]; exact (unhide HI5).i.resize (by omega))
            have HN := hide ((unhide HI5).put (unhide HS0) hb6 ho6 (unhide HRI))
            unfold putI at HN
            have hv6 := (unhide HI5).v.below hb6
            refine hK _ _ ?_
            clear hK K ho6 hb6 hS0 HI0 HI5 HR
            obtain ⟨c0, c1, c2, c3⟩ := hv6.cells
            obtain ⟨z0, z1, z2, z3⟩ := hv6.free
            clear hv6
            refine ord_alone rfl rfl ?_
            intro K hK
            unfold Oper.wp
            go_simp
            refine hK _ _ ?_
            clear hK K
            refine ord_done ?_
            clear c0 c1 c2 c3 z0 z1 z2 z3
            revert HN
            generalize (((w6.setCell _ _).setCell _ _).setCell _ _).setCell _ _ = W7
            intro HN
            go_wp2
            go_roundw
            case rel => exact ⟨k, by omega, by go_num, a2, m2, ts2, hide ((unhide HN).more (by omega))⟩
            case measure => simp [intOf]
          · clear h90 h91
            obtain ⟨c0, c1, c2, c3⟩ := (unhide HI).v.cells
            go_wp2_with fail
            obtain ⟨m2, HR⟩ : ∃ R, Hid (R = imZero m' g) := ⟨_, hide rfl⟩
            refine (l10Zero_R a m' g m2 _ (unhide HR) (unhide HI).i.r.M hgl (unhide HI).shows).mono ?_
            rintro e w6 ⟨a2, ts2, rfl, ho6, hb6⟩
            have HRI : Hid (ImK m2) := hide (by rw [unhide HR]; exact (unhide HI).i.zero hgl)
            have HN := hide ((unhide HI).put (unhide HS0) hb6 ho6 (unhide HRI))
            unfold putI at HN
            have hv6 := (unhide HI).v.below hb6
            clear ho6 hb6 HI HR c0 c1 c2 c3
            obtain ⟨c0, c1, c2, c3⟩ := hv6.cells
            obtain ⟨z0, z1, z2, z3⟩ := hv6.free
            clear hv6
            go_upto_region 6 with fail
            clear c0 c1 c2 c3 z0 z1 z2 z3
            revert HN
            generalize (((w6.setCell _ _).setCell _ _).setCell _ _).setCell _ _ = W7
            intro HN
            go_wp2
            go_roundw
            case rel => exact ⟨k, by omega, by go_num, a2, m2, ts2, hide ((unhide HN).more (by omega))⟩
            case measure => simp [intOf]
          · have b0 : (r9 == 0) = false := by rw [beq_eq_false_iff_ne]; omega
            have b1 : (r9 == 1) = false := by rw [beq_eq_false_iff_ne]; omega
            have b2 : (r9 == 2) = false := by rw [beq_eq_false_iff_ne]; omega
            have b3 : (r9 == 3) = false := by rw [beq_eq_false_iff_ne]; omega
            have b4 : (r9 == 4) = false := by rw [beq_eq_false_iff_ne]; omega
            clear h90 h91 h5
            obtain ⟨c0, c1, c2, c3⟩ := (unhide HI).v.cells
            go_upto_region 12 with fail
            have hS0 : VarM wr'.drew y 29 (.slice a.ro m'.refs.length a.rc) (.slice a.tq m'.table.length a.tc) (.slice a.so m'.snaps.length a.sc) (.slice a.dq m'.data.length a.dc) := (unhide HI).v.below (Below.refl _ _).drew
            have HI0 := hide ((unhide HI).below (Below.refl _ _).drew)
            clear HI c0 c1 c2 c3
            refine wp_region_ord (fun w' => VarM w' y 29 (.slice a.ro m'.refs.length a.rc) (.slice a.tq m'.table.length a.tc) (.slice a.so m'.snaps.length a.sc) (.slice a.dq m'.data.length a.dc)) [0, 1, 2, 3] [(0, 0), (1, 0), (2, 0), (3, 2), (4, 3), (5, 4), (6, 4), (7, 4), (8, 3)] (by kernel_rfl) (by kernel_rfl) rfl (by kernel_rfl) ?_
            refine ord_read (.agg #[.slice a.ro m'.refs.length a.rc, .slice a.tq m'.table.length a.tc, .slice a.so m'.snaps.length a.sc, .slice a.dq m'.data.length a.dc]) rfl rfl hS0 (fun W hW => by obtain ⟨k0, k1, k2, k3⟩ := hW.cells; go_simp) ?_
            refine ord_read (.int .i64 g) rfl rfl hS0 (fun W hW => by go_simp) ?_
            refine ord_read (.pointer (some ⟨b, 0, none⟩)) rfl rfl hS0 (fun W hW => by go_simp) ?_
            refine ord_held rfl rfl ?_
            intro K hK
            unfold Oper.wp
            go_simp
            refine (number_k b ao n cap _ _ (by omega) hn (unhide HI0).s).mono ?_
            rintro e w5 ⟨r5, rfl, h50, h51, hs5, hk5⟩
            have HI5 := hide ((unhide HI0).src hs5 hk5)
            have HNB : Hid (numB r5 = true) := hide (by simp [numB, inB, h50, h51])
            clear hs5 hk5 h50 h51
            refine hK _ _ (unhide HI5).v ?_
            clear hK K
            refine ord_alone rfl rfl ?_
            intro K hK
            unfold Oper.wp
            go_simp
            obtain ⟨R, HR⟩ : ∃ R, Hid (R = imWrite m' g r5) := ⟨_, hide rfl⟩
            refine (l10Write_R a m' g r5 R _ (unhide HR) (unhide HI5).i.r.M hgl (unhide HI5).shows).mono ?_
            rintro e w6 ⟨a2, ts2, rfl, ho6, hb6⟩
            have HRI : Hid (ImK R.1) := hide (by rw [unhide HR]; exact (unhide HI5).i.write hgl (unhide HNB))
            have HN := hide ((unhide HI5).put (unhide HS0) hb6 ho6 (unhide HRI))
            unfold putI at HN
            have hv6 := (unhide HI5).v.below hb6
            refine hK _ _ ?_
            clear hK K ho6 hb6 hS0 HI0 HI5 HR
            obtain ⟨m2, code⟩ := R
            refine ord_val (.tuple #[imV a2 m2, .int .i64 code]) rfl rfl (fun W => by go_simp) ?_
            refine ord_val (imV a2 m2) rfl rfl (fun W => by go_simp) ?_
            refine ord_val (.int .i64 code) rfl rfl (fun W => by go_simp) ?_
            obtain ⟨c0, c1, c2, c3⟩ := hv6.cells
            obtain ⟨z0, z1, z2, z3⟩ := hv6.free
            clear hv6
            refine ord_alone rfl rfl ?_
            intro K hK
            unfold Oper.wp
            go_simp
            refine hK _ _ ?_
            clear hK K
            refine ord_done ?_
            clear c0 c1 c2 c3 z0 z1 z2 z3
            revert HN
            generalize (((w6.setCell _ _).setCell _ _).setCell _ _).setCell _ _ = W7
            intro HN
            go_wp2
            go_roundw
            case rel => exact ⟨k, by omega, by go_num, a2, m2, ts2, hide ((unhide HN).more (by omega))⟩
            case measure => simp [intOf]

        · have hpi : ¬ (0 : Int) < (m'.table.length : Int) := by omega
          clear hp
          go_wp2_with fail
          refine (next_k b ao n cap _ 9 _ (by omega) (by omega) (by omega) hn (unhide HI).s).mono ?_
          rintro e wr' ⟨r9, rfl, h90, h91, hs9, hk9⟩
          have HI8 := hide ((unhide HI).src hs9 hk9)
          clear hs9 hk9 HI c0 c1 c2 c3
          have HI := HI8
          clear HI8
          rcases (show r9 = 0 ∨ r9 = 1 ∨ r9 = 2 ∨ r9 = 3 ∨ r9 = 4 ∨ 5 ≤ r9 by omega) with rfl | rfl | rfl | rfl | rfl | h5
          · clear h90 h91
            go_upto_region 14 with fail
            have hS0 : VarM wr'.drew y 29 (.slice a.ro m'.refs.length a.rc) (.slice a.tq m'.table.length a.tc) (.slice a.so m'.snaps.length a.sc) (.slice a.dq m'.data.length a.dc) := (unhide HI).v.below (Below.refl _ _).drew
            have HI0 := hide ((unhide HI).below (Below.refl _ _).drew)
            clear HI
            refine wp_region_ord (fun w' => VarM w' y 29 (.slice a.ro m'.refs.length a.rc) (.slice a.tq m'.table.length a.tc) (.slice a.so m'.snaps.length a.sc) (.slice a.dq m'.data.length a.dc)) [0, 1, 2] [(0, 0), (1, 0), (2, 2), (3, 3), (4, 4), (5, 4), (6, 4), (7, 3)] (by kernel_rfl) (by kernel_rfl) rfl (by kernel_rfl) ?_
            refine ord_read (.agg #[.slice a.ro m'.refs.length a.rc, .slice a.tq m'.table.length a.tc, .slice a.so m'.snaps.length a.sc, .slice a.dq m'.data.length a.dc]) rfl rfl hS0 (fun W hW => by obtain ⟨k0, k1, k2, k3⟩ := hW.cells; go_simp) ?_
            refine ord_read (.pointer (some ⟨b, 0, none⟩)) rfl rfl hS0 (fun W hW => by go_simp) ?_
            refine ord_held rfl rfl ?_
            intro K hK
            unfold Oper.wp
            go_simp
            refine (snapName_k b ao n cap _ _ (by omega) hn (unhide HI0).s).mono ?_
            rintro e w5 ⟨t, rfl, htz, hs5, hk5⟩
            have HI5 := hide ((unhide HI0).src hs5 hk5)
            have HTZ := hide htz
            clear hs5 hk5 htz
            refine hK _ _ (unhide HI5).v ?_
            clear hK K
            refine ord_alone rfl rfl ?_
            intro K hK
            unfold Oper.wp
            go_simp
            obtain ⟨R, HR⟩ : ∃ R, Hid (R = imCreate m' t) := ⟨_, hide rfl⟩
            refine (l10Create_R a m' t R _ (unhide HR) (unhide HI5).i.r.M (unhide HI5).i.r.table (by have := (unhide HTZ).1; unfold maxLen; omega) (unhide HI5).shows).mono ?_
            rintro e w6 ⟨a2, ts2, rfl, ho6, hb6⟩
            have HRI : Hid (ImK R.1) := hide (by rw [unhide HR]; exact (unhide HI5).i.create t (unhide HTZ).2)
            have HN := hide ((unhide HI5).put (unhide HS0) hb6 ho6 (unhide HRI))
            unfold putI at HN
            have hv6 := (unhide HI5).v.below hb6
            refine hK _ _ ?_
            clear hK K ho6 hb6 hS0 HI0 HI5 HR
            obtain ⟨m2, code⟩ := R
            refine ord_val (.tuple #[imV a2 m2, .int .i64 code]) rfl rfl (fun W => by go_simp) ?_
            refine ord_val (imV a2 m2) rfl rfl (fun W => by go_simp) ?_
            refine ord_val (.int .i64 code) rfl rfl (fun W => by go_simp) ?_
            obtain ⟨c0, c1, c2, c3⟩ := hv6.cells
            obtain ⟨z0, z1, z2, z3⟩ := hv6.free
            clear hv6
            refine ord_alone rfl rfl ?_
            intro K hK
            unfold Oper.wp
            go_simp
            refine hK _ _ ?_
            clear hK K
            refine ord_done ?_
            clear c0 c1 c2 c3 z0 z1 z2 z3
            revert HN
            generalize (((w6.setCell _ _).setCell _ _).setCell _ _).setCell _ _ = W7
            intro HN
            go_wp2
            go_roundw
            case rel => exact ⟨k, by omega, by go_num, a2, m2, ts2, hide ((unhide HN).more (by omega))⟩
            case measure => simp [intOf]
          · clear h90 h91
            go_upto_region 16 with fail
            have hS0 : VarM wr'.drew y 29 (.slice a.ro m'.refs.length a.rc) (.slice a.tq m'.table.length a.tc) (.slice a.so m'.snaps.length a.sc) (.slice a.dq m'.data.length a.dc) := (unhide HI).v.below (Below.refl _ _).drew
            have HI0 := hide ((unhide HI).below (Below.refl _ _).drew)
            clear HI
            refine wp_region_ord (fun w' => VarM w' y 29 (.slice a.ro m'.refs.length a.rc) (.slice a.tq m'.table.length a.tc) (.slice a.so m'.snaps.length a.sc) (.slice a.dq m'.data.length a.dc)) [0, 1, 2] [(0, 0), (1, 0), (2, 2), (3, 3), (4, 4), (5, 4), (6, 4), (7, 3)] (by kernel_rfl) (by kernel_rfl) rfl (by kernel_rfl) ?_
            refine ord_read (.agg #[.slice a.ro m'.refs.length a.rc, .slice a.tq m'.table.length a.tc, .slice a.so m'.snaps.length a.sc, .slice a.dq m'.data.length a.dc]) rfl rfl hS0 (fun W hW => by obtain ⟨k0, k1, k2, k3⟩ := hW.cells; go_simp) ?_
            refine ord_read (.pointer (some ⟨b, 0, none⟩)) rfl rfl hS0 (fun W hW => by go_simp) ?_
            refine ord_held rfl rfl ?_
            intro K hK
            unfold Oper.wp
            go_simp
            refine (snapName_k b ao n cap _ _ (by omega) hn (unhide HI0).s).mono ?_
            rintro e w5 ⟨t, rfl, htz, hs5, hk5⟩
            have HI5 := hide ((unhide HI0).src hs5 hk5)
            have HTZ := hide htz
            clear hs5 hk5 htz
            refine hK _ _ (unhide HI5).v ?_
            clear hK K
            refine ord_alone rfl rfl ?_
            intro K hK
            unfold Oper.wp
            go_simp
            obtain ⟨R, HR⟩ : ∃ R, Hid (R = imDelete m' t) := ⟨_, hide rfl⟩
            refine (l10Delete_R a m' t R _ (unhide HR) (unhide HI5).i.r.M (unhide HI5).shows).mono ?_
            rintro e w6 ⟨a2, ts2, rfl, ho6, hb6⟩
            have HRI : Hid (ImK R.1) := hide (by rw [unhide HR]; exact (unhide HI5).i.delete t)
            have HN := hide ((unhide HI5).put (unhide HS0) hb6 ho6 (unhide HRI))
            unfold putI at HN
            have hv6 := (unhide HI5).v.below hb6
            refine hK _ _ ?_
            clear hK K ho6 hb6 hS0 HI0 HI5 HR
            obtain ⟨m2, code⟩ := R
            refine ord_val (.tuple #[imV a2 m2, .int .i64 code]) rfl rfl (fun W => by go_simp) ?_
            refine ord_val (imV a2 m2) rfl rfl (fun W => by go_simp) ?_
            refine ord_val (.int .i64 code) rfl rfl (fun W => by go_simp) ?_
            obtain ⟨c0, c1, c2, c3⟩ := hv6.cells
            obtain ⟨z0, z1, z2, z3⟩ := hv6.free
            clear hv6
            refine ord_alone rfl rfl ?_
            intro K hK
            unfold Oper.wp
            go_simp
            refine hK _ _ ?_
            clear hK K
            refine ord_done ?_
            clear c0 c1 c2 c3 z0 z1 z2 z3
            revert HN
            generalize (((w6.setCell _ _).setCell _ _).setCell _ _).setCell _ _ = W7
            intro HN
            go_wp2
            go_roundw
            case rel => exact ⟨k, by omega, by go_num, a2, m2, ts2, hide ((unhide HN).more (by omega))⟩
            case measure => simp [intOf]
          · clear h90 h91
            go_upto_region 18 with fail
            have hS0 : VarM wr'.drew y 29 (.slice a.ro m'.refs.length a.rc) (.slice a.tq m'.table.length a.tc) (.slice a.so m'.snaps.length a.sc) (.slice a.dq m'.data.length a.dc) := (unhide HI).v.below (Below.refl _ _).drew
            have HI0 := hide ((unhide HI).below (Below.refl _ _).drew)
            clear HI
            refine wp_region_ord (fun w' => VarM w' y 29 (.slice a.ro m'.refs.length a.rc) (.slice a.tq m'.table.length a.tc) (.slice a.so m'.snaps.length a.sc) (.slice a.dq m'.data.length a.dc)) [0, 1, 2] [(0, 0), (1, 0), (2, 2), (3, 3), (4, 4), (5, 4), (6, 4), (7, 3)] (by kernel_rfl) (by kernel_rfl) rfl (by kernel_rfl) ?_
            refine ord_read (.agg #[.slice a.ro m'.refs.length a.rc, .slice a.tq m'.table.length a.tc, .slice a.so m'.snaps.length a.sc, .slice a.dq m'.data.length a.dc]) rfl rfl hS0 (fun W hW => by obtain ⟨k0, k1, k2, k3⟩ := hW.cells; go_simp) ?_
            refine ord_read (.pointer (some ⟨b, 0, none⟩)) rfl rfl hS0 (fun W hW => by go_simp) ?_
            refine ord_held rfl rfl ?_
            intro K hK
            unfold Oper.wp
            go_simp
            refine (snapName_k b ao n cap _ _ (by omega) hn (unhide HI0).s).mono ?_
            rintro e w5 ⟨t, rfl, htz, hs5, hk5⟩
            have HI5 := hide ((unhide HI0).src hs5 hk5)
            have HTZ := hide htz
            clear hs5 hk5 htz
            refine hK _ _ (unhide HI5).v ?_
            clear hK K
            refine ord_alone rfl rfl ?_
            intro K hK
            unfold Oper.wp
            go_simp
            obtain ⟨R, HR⟩ : ∃ R, Hid (R = imRevert m' t) := ⟨_, hide rfl⟩
            refine (l10Revert_R a m' t R _ (unhide HR) (unhide HI5).i.r.M (fun s hs => ((unhide HI5).i.r.snaps s hs).2) (unhide HI5).shows).mono ?_
            rintro e w6 ⟨a2, ts2, rfl, ho6, hb6⟩
            have HRI : Hid (ImK R.1) := hide (by rw [unhide HR]; exact (unhide HI5).i.revert t)
            have HN := hide ((unhide HI5).put (unhide HS0) hb6 ho6 (unhide HRI))
            unfold putI at HN
            have hv6 := (unhide HI5).v.below hb6
            refine hK _ _ ?_
            clear hK K ho6 hb6 hS0 HI0 HI5 HR
            obtain ⟨m2, code⟩ := R
            refine ord_val (.tuple #[imV a2 m2, .int .i64 code]) rfl rfl (fun W => by go_simp) ?_
            refine ord_val (imV a2 m2) rfl rfl (fun W => by go_simp) ?_
            refine ord_val (.int .i64 code) rfl rfl (fun W => by go_simp) ?_
            obtain ⟨c0, c1, c2, c3⟩ := hv6.cells
            obtain ⟨z0, z1, z2, z3⟩ := hv6.free
            clear hv6
            refine ord_alone rfl rfl ?_
            intro K hK
            unfold Oper.wp
            go_simp
            refine hK _ _ ?_
            clear hK K
            refine ord_done ?_
            clear c0 c1 c2 c3 z0 z1 z2 z3
            revert HN
            generalize (((w6.setCell _ _).setCell _ _).setCell _ _).setCell _ _ = W7
            intro HN
            go_wp2
            go_roundw
            case rel => exact ⟨k, by omega, by go_num, a2, m2, ts2, hide ((unhide HN).more (by omega))⟩
            case measure => simp [intOf]
          · clear h90 h91
            go_upto_region 20 with fail
            have hS0 : VarM wr'.drew y 29 (.slice a.ro m'.refs.length a.rc) (.slice a.tq m'.table.length a.tc) (.slice a.so m'.snaps.length a.sc) (.slice a.dq m'.data.length a.dc) := (unhide HI).v.below (Below.refl _ _).drew
            have HI0 := hide ((unhide HI).below (Below.refl _ _).drew)
            clear HI
            refine wp_region_ord (fun w' => VarM w' y 29 (.slice a.ro m'.refs.length a.rc) (.slice a.tq m'.table.length a.tc) (.slice a.so m'.snaps.length a.sc) (.slice a.dq m'.data.length a.dc)) [0, 1, 2] [(0, 0), (1, 0), (2, 2), (3, 3), (4, 3)] (by kernel_rfl) (by kernel_rfl) rfl (by kernel_rfl) ?_
            refine ord_read (.agg #[.slice a.ro m'.refs.length a.rc, .slice a.tq m'.table.length a.tc, .slice a.so m'.snaps.length a.sc, .slice a.dq m'.data.length a.dc]) rfl rfl hS0 (fun W hW => by obtain ⟨k0, k1, k2, k3⟩ := hW.cells; go_simp) ?_
            refine ord_read (.pointer (some ⟨b, 0, none⟩)) rfl rfl hS0 (fun W hW => by go_simp) ?_
            refine ord_held rfl rfl ?_
            intro K hK
            unfold Oper.wp
            go_simp
            refine (next_k b ao n cap _ 13 _ (by omega) (by omega) (by omega) hn (unhide HI0).s).mono ?_
            rintro e w5 ⟨r5, rfl, h50, h51, hs5, hk5⟩
            obtain ⟨q, rfl⟩ := Int.eq_ofNat_of_zero_le h50
            have HI5 := hide ((unhide HI0).src hs5 hk5)
            clear hs5 hk5
            refine hK _ _ (unhide HI5).v ?_
            clear hK K
            refine ord_alone rfl rfl ?_
            intro K hK
            unfold Oper.wp
            go_simp
            obtain ⟨m2, HR⟩ : ∃ R, Hid (R = imResize m' q) := ⟨_, hide rfl⟩
            refine (l10Resize_R a m' q m2 _ (unhide HR) (unhide HI5).i.r.M (by omega) (unhide HI5).shows).mono ?_
            rintro e w6 ⟨a2, ts2, rfl, ho6, hb6⟩
            have HRI : Hid (ImK m2) := hide (by rw [unhide HR]; exact (unhide HI5).i.resize (by omega))
            have HN := hide ((unhide HI5).put (unhide HS0) hb6 ho6 (unhide HRI))
            unfold putI at HN
            have hv6 := (unhide HI5).v.below hb6
            refine hK _ _ ?_
            clear hK K ho6 hb6 hS0 HI0 HI5 HR
            obtain ⟨c0, c1, c2, c3⟩ := hv6.cells
            obtain ⟨z0, z1, z2, z3⟩ := hv6.free
            clear hv6
            refine ord_alone rfl rfl ?_
            intro K hK
            unfold Oper.wp
            go_simp
            refine hK _ _ ?_
            clear hK K
            refine ord_done ?_
            clear c0 c1 c2 c3 z0 z1 z2 z3
            revert HN
            generalize (((w6.setCell _ _).setCell _ _).setCell _ _).setCell _ _ = W7
            intro HN
            go_wp2
            go_roundw
            case rel => exact ⟨k, by omega, by go_num, a2, m2, ts2, hide ((unhide HN).more (by omega))⟩
            case measure => simp [intOf]
          · clear h90 h91
            obtain ⟨c0, c1, c2, c3⟩ := (unhide HI).v.cells
            have HN := HI
            obtain ⟨a2, m2, ts2, e2⟩ : ∃ (a2 : Im4) (m2 : Img) (ts2 : List Value), a2 = a ∧ m2 = m' ∧ ts2 = ts := ⟨_, _, _, rfl, rfl, rfl⟩
            obtain ⟨rfl, rfl, rfl⟩ := e2
            clear HI
            go_wp2
            go_roundw
            case rel => exact ⟨k, by omega, by go_num, a2, m2, ts2, hide ((unhide HN).more (by omega))⟩
            case measure => simp [intOf]
          · have b0 : (r9 == 0) = false := by rw [beq_eq_false_iff_ne]; omega
            have b1 : (r9 == 1) = false := by rw [beq_eq_false_iff_ne]; omega
            have b2 : (r9 == 2) = false := by rw [beq_eq_false_iff_ne]; omega
            have b3 : (r9 == 3) = false := by rw [beq_eq_false_iff_ne]; omega
            have b4 : (r9 == 4) = false := by rw [beq_eq_false_iff_ne]; omega
            clear h90 h91 h5
            obtain ⟨c0, c1, c2, c3⟩ := (unhide HI).v.cells
            have HN := HI
            obtain ⟨a2, m2, ts2, e2⟩ : ∃ (a2 : Im4) (m2 : Img) (ts2 : List Value), a2 = a ∧ m2 = m' ∧ ts2 = ts := ⟨_, _, _, rfl, rfl, rfl⟩
            obtain ⟨rfl, rfl, rfl⟩ := e2
            clear HI
            go_wp2
            go_roundw
            case rel => exact ⟨k, by omega, by go_num, a2, m2, ts2, hide ((unhide HN).more (by omega))⟩
            case measure => simp [intOf]

  · go_wp2_with fail
    refine (next_k b ao n cap _ 7 _ (by omega) (by omega) (by omega) hn (unhide HI2).s).mono ?_
    rintro e w4 ⟨r4, rfl, h40, h41, hs4, hk4⟩
    obtain ⟨q4, rfl⟩ := Int.eq_ofNat_of_zero_le h40
    have HI4 := hide ((unhide HI2).src hs4 hk4)
    clear hs4 hk4 HI2
    have hw6 : IntKind.i64.wrap (6 + (q4 : Int)) = ((6 + q4 : Nat) : Int) := by rw [IntKind.wrap_i64]; omega
    go_wp2_with fail
    refine (l10New_any (6 + q4) _ (by omega)).mono ?_
    rintro e w5 ⟨a5, rfl, ho5, hb5⟩
    obtain ⟨M5, HM5⟩ : ∃ M, Hid (M = imNew (6 + q4)) := ⟨_, hide rfl⟩
    rw [← unhide HM5] at ho5 ⊢
    have HI6 := hide (((unhide HI4).put (unhide HS0) hb5 ho5 (by rw [unhide HM5]; exact ImK.new (by omega))).more (c' := m + 12) (by omega))
    unfold putI at HI6
    have hv5 := (unhide HI4).v.below hb5
    clear ho5 hb5 HM5 h40 h41 hw6 HI4
    obtain ⟨c0, c1, c2, c3⟩ := hv5.cells
    obtain ⟨z0, z1, z2, z3⟩ := hv5.free
    clear hv5
    go_upto_region 4 with fail
    clear c0 c1 c2 c3 z0 z1 z2 z3
    have HI3 := HI6
    clear HI6
    revert HI3
    generalize (((w5.setCell _ _).setCell _ _).setCell _ _).setCell _ _ = W5
    intro HI3
    go_wp2_with fail
    refine (sizeM_k b ao n cap _ 20 _ (by omega) (by omega) hn (unhide HI3).s).mono ?_
    rintro e wx ⟨sz, rfl, hz0, hz1, hwx⟩
    replace hwx := hwx.symm
    subst hwx
    have hw1 : IntKind.i64.wrap (sz + 12) = sz + 12 := wrapI (by omega) (by omega)
    go_wp2_with fail
    refine (next_k b ao n cap _ (sz + 12) _ (by omega) (by omega) (by omega) hn (unhide HI3).s).mono ?_
    rintro e w6 ⟨r6, rfl, h60, h61, hs6, hk6⟩
    obtain ⟨q6, rfl⟩ := Int.eq_ofNat_of_zero_le h60
    have hq6 : q6 ≤ 31 := by omega
    have HI7 := hide (((unhide HI3).src hs6 hk6).more (c' := m + 2000 - 30 * q6) (by omega))
    clear hs6 hk6 HI3 h60 h61 hz0 hz1 hw1
    go_wp2
    go_loopw [4] (fun i wr => ∃ k : Nat, k ≤ 31 ∧ i = .int .i64 k ∧ ∃ a m' ts, Hid (IgS w wr b ao n cap (m + 2000 - 30 * k) y a m' ts)) (fun i _ => (intOf i).toNat)
    case atStart => exact ⟨q6, hq6, rfl, _, _, _, HI7⟩
    case round =>
      clear HI7 hq6
      obtain ⟨k0, hk0, rfl, a, m', ts, HI⟩ := hrel
      by_cases hz : k0 = 0
      · subst hz
        obtain ⟨c0, c1, c2, c3⟩ := (unhide HI).v.cells
        go_wp2_with fail
        refine (l10Own_M a m' _ (unhide HI).i.r.M (unhide HI).shows).mono ?_
        rintro e w8 ⟨a8, ts8, rfl, ho8, hb8⟩
        have HF := hide ((unhide HI).fin (unhide HS0) hb8 ho8)
        have HII := hide (unhide HI).i
        have hr8 := (unhide HI).r.below hb8
        clear ho8 hb8 c0 c1 c2 c3 HI
        obtain ⟨r0, r1, r2, r3⟩ := hr8.cells
        obtain ⟨z0, z1, z2, z3⟩ := hr8.free
        clear hr8
        go_wp2
        refine bodyPost_ret (res_im Try.results37 rfl (unhide HF).1) rfl ?_
        first | exact ⟨a8, m', ts8, rfl, (unhide HF).2.1, unhide HII, (unhide HF).2.2.1.more (by omega), (unhide HF).2.2.2⟩ | exact ⟨a8, m', rfl, ⟨ts8, (unhide HF).2.1⟩, unhide HII, (unhide HF).2.2.1.more (by omega), (unhide HF).2.2.2⟩
      · obtain ⟨k, rfl⟩ : ∃ k, k0 = k + 1 := ⟨k0 - 1, by omega⟩
        have hki : (0 : Int) < ((k + 1 : Nat) : Int) := by omega
        clear hz
        obtain ⟨c0, c1, c2, c3⟩ := (unhide HI).v.cells
        by_cases hp : 0 < m'.table.length
        · have hpi : (0 : Int) < (m'.table.length : Int) := by omega
          have ht12 := (unhide HI).i.r.M.t
          go_wp2_with fail
          refine (next_k b ao n cap _ (m'.table.length : Int) _ (by omega) (by omega) (by omega) hn (unhide HI).s).mono ?_
          rintro e w8 ⟨r8, rfl, h80, h81, hs8, hk8⟩
          obtain ⟨g, rfl⟩ := Int.eq_ofNat_of_zero_le h80
          have hgl : g < m'.table.length := by omega
          have HI8 := hide ((unhide HI).src hs8 hk8)
          clear hs8 hk8 HI c0 c1 c2 c3 h80 h81
          go_wp2_with fail
          refine (next_k b ao n cap _ 9 _ (by omega) (by omega) (by omega) hn (unhide HI8).s).mono ?_
          rintro e wr' ⟨r9, rfl, h90, h91, hs9, hk9⟩
          have HI := hide ((unhide HI8).src hs9 hk9)
          clear hs9 hk9 HI8
          rcases (show r9 = 0 ∨ r9 = 1 ∨ r9 = 2 ∨ r9 = 3 ∨ r9 = 4 ∨ 5 ≤ r9 by omega) with rfl | rfl | rfl | rfl | rfl | h5
          · clear h90 h91
            go_upto_region 14 with fail
            have hS0 : VarM wr'.drew y 29 (.slice a.ro m'.refs.length a.rc) (.slice a.tq m'.table.length a.tc) (.slice a.so m'.snaps.length a.sc) (.slice a.dq m'.data.length a.dc) := (unhide HI).v.below (Below.refl _ _).drew
            have HI0 := hide ((unhide HI).below (Below.refl _ _).drew)
            clear HI
            refine wp_region_ord (fun w' => VarM w' y 29 (.slice a.ro m'.refs.length a.rc) (.slice a.tq m'.table.length a.tc) (.slice a.so m'.snaps.length a.sc) (.slice a.dq m'.data.length a.dc)) [0, 1, 2] [(0, 0), (1, 0), (2, 2), (3, 3), (4, 4), (5, 4), (6, 4), (7, 3)] (by kernel_rfl) (by kernel_rfl) rfl (by kernel_rfl) ?_
            refine ord_read (.agg #[.slice a.ro m'.refs.length a.rc, .slice a.tq m'.table.length a.tc, .slice a.so m'.snaps.length a.sc, .slice a.dq m'.data.length a.dc]) rfl rfl hS0 (fun W hW => by obtain ⟨k0, k1, k2, k3⟩ := hW.cells; go_simp) ?_
            refine ord_read (.pointer (some ⟨b, 0, none⟩)) rfl rfl hS0 (fun W hW => by go_simp) ?_
            refine ord_held rfl rfl ?_
            intro K hK
            unfold Oper.wp
            go_simp
            refine (snapName_k b ao n cap _ _ (by omega) hn (unhide HI0).s).mono ?_
            rintro e w5 ⟨t, rfl, htz, hs5, hk5⟩
            have HI5 := hide ((unhide HI0).src hs5 hk5)
            have HTZ := hide htz
            clear hs5 hk5 htz
            refine hK _ _ (unhide HI5).v ?_
            clear hK K
            refine ord_alone rfl rfl ?_
            intro K hK
            unfold Oper.wp
            go_simp
            obtain ⟨R, HR⟩ : ∃ R, Hid (R = imCreate m' t) := ⟨_, hide rfl⟩
            refine (l10Create_R a m' t R _ (unhide HR) (unhide HI5).i.r.M (unhide HI5).i.r.table (by have := (unhide HTZ).1; unfold maxLen; omega) (unhide HI5).shows).mono ?_
            rintro e w6 ⟨a2, ts2, rfl, ho6, hb6⟩
            have HRI : Hid (ImK R.1) := hide (by rw [unhide HR]; exact (unhide HI5).i.create t (unhide HTZ).2)
            have HN := hide ((unhide HI5).put (unhide HS0) hb6 ho6 (unhide HRI))
            unfold putI at HN
            have hv6 := (unhide HI5).v.below hb6
            refine hK _ _ ?_
            clear hK K ho6 hb6 hS0 HI0 HI5 HR
            obtain ⟨m2, code⟩ := R
            refine ord_val (.tuple #[imV a2 m2, .int .i64 code]) rfl rfl (fun W => by go_simp) ?_
            refine ord_val (imV a2 m2) rfl rfl (fun W => by go_simp) ?_
            refine ord_val (.int .i64 code) rfl rfl (fun W => by go_simp) ?_
            obtain ⟨c0, c1, c2, c3⟩ := hv6.cells
            obtain ⟨z0, z1, z2, z3⟩ := hv6.free
            clear hv6
            refine ord_alone rfl rfl ?_
            intro K hK
            unfold Oper.wp
            go_simp
            refine hK _ _ ?_
            clear hK K
            refine ord_done ?_
            clear c0 c1 c2 c3 z0 z1 z2 z3
            revert HN
            generalize (((w6.setCell _ _).setCell _ _).setCell _ _).setCell _ _ = W7
            intro HN
            go_wp2
            go_roundw
            case rel => exact ⟨k, by omega, by go_num, a2, m2, ts2, hide ((unhide HN).more (by omega))⟩
            case measure => simp [intOf]
          · clear h90 h91
            go_upto_region 16 with fail
            have hS0 : VarM wr'.drew y 29 (.slice a.ro m'.refs.length a.rc) (.slice a.tq m'.table.length a.tc) (.slice a.so m'.snaps.length a.sc) (.slice a.dq m'.data.length a.dc) := (unhide HI).v.below (Below.refl _ _).drew
            have HI0 := hide ((unhide HI).below (Below.refl _ _).drew)
            clear HI
            refine wp_region_ord (fun w' => VarM w' y 29 (.slice a.ro m'.refs.length a.rc) (.slice a.tq m'.table.length a.tc) (.slice a.so m'.snaps.length a.sc) (.slice a.dq m'.data.length a.dc)) [0, 1, 2] [(0, 0), (1, 0), (2, 2), (3, 3), (4, 4), (5, 4), (6, 4), (7, 3)] (by kernel_rfl) (by kernel_rfl) rfl (by kernel_rfl) ?_
            refine ord_read (.agg #[.slice a.ro m'.refs.length a.rc, .slice a.tq m'.table.length a.tc, .slice a.so m'.snaps.length a.sc, .slice a.dq m'.data.length a.dc]) rfl rfl hS0 (fun W hW => by obtain ⟨k0, k1, k2, k3⟩ := hW.cells; go_simp) ?_
            refine ord_read (.pointer (some ⟨b, 0, none⟩)) rfl rfl hS0 (fun W hW => by go_simp) ?_
            refine ord_held rfl rfl ?_
            intro K hK
            unfold Oper.wp
            go_simp
            refine (snapName_k b ao n cap _ _ (by omega) hn (unhide HI0).s).mono ?_
            rintro e w5 ⟨t, rfl, htz, hs5, hk5⟩
            have HI5 := hide ((unhide HI0).src hs5 hk5)
            have HTZ := hide htz
            clear hs5 hk5 htz
            refine hK _ _ (unhide HI5).v ?_
            clear hK K
            refine ord_alone rfl rfl ?_
            intro K hK
            unfold Oper.wp
            go_simp
            obtain ⟨R, HR⟩ : ∃ R, Hid (R = imDelete m' t) := ⟨_, hide rfl⟩
            refine (l10Delete_R a m' t R _ (unhide HR) (unhide HI5).i.r.M (unhide HI5).shows).mono ?_
            rintro e w6 ⟨a2, ts2, rfl, ho6, hb6⟩
            have HRI : Hid (ImK R.1) := hide (by rw [unhide HR]; exact (unhide HI5).i.delete t)
            have HN := hide ((unhide HI5).put (unhide HS0) hb6 ho6 (unhide HRI))
            unfold putI at HN
            have hv6 := (unhide HI5).v.below hb6
            refine hK _ _ ?_
            clear hK K ho6 hb6 hS0 HI0 HI5 HR
            obtain ⟨m2, code⟩ := R
            refine ord_val (.tuple #[imV a2 m2, .int .i64 code]) rfl rfl (fun W => by go_simp) ?_
            refine ord_val (imV a2 m2) rfl rfl (fun W => by go_simp) ?_
            refine ord_val (.int .i64 code) rfl rfl (fun W => by go_simp) ?_
            obtain ⟨c0, c1, c2, c3⟩ := hv6.cells
            obtain ⟨z0, z1, z2, z3⟩ := hv6.free
            clear hv6
            refine ord_alone rfl rfl ?_
            intro K hK
            unfold Oper.wp
            go_simp
            refine hK _ _ ?_
            clear hK K
            refine ord_done ?_
            clear c0 c1 c2 c3 z0 z1 z2 z3
            revert HN
            generalize (((w6.setCell _ _).setCell _ _).setCell _ _).setCell _ _ = W7
            intro HN
            go_wp2
            go_roundw
            case rel => exact ⟨k, by omega, by go_num, a2, m2, ts2, hide ((unhide HN).more (by omega))⟩
            case measure => simp [intOf]
          · clear h90 h91
            go_upto_region 18 with fail
            have hS0 : VarM wr'.drew y 29 (.slice a.ro m'.refs.length a.rc) (.slice a.tq m'.table.length a.tc) (.slice a.so m'.snaps.length a.sc) (.slice a.dq m'.data.length a.dc) := (unhide HI).v.below (Below.refl _ _).drew
            have HI0 := hide ((unhide HI).below (Below.refl _ _).drew)
            clear HI
            refine wp_region_ord (fun w' => VarM w' y 29 (.slice a.ro m'.refs.length a.rc) (.slice a.tq m'.table.length a.tc) (.slice a.so m'.snaps.length a.sc) (.slice a.dq m'.data.length a.dc)) [0, 1, 2] [(0, 0), (1, 0), (2, 2), (3, 3), (4, 4), (5, 4), (6, 4), (7, 3)] (by kernel_rfl) (by kernel_rfl) rfl (by kernel_rfl) ?_
            refine ord_read (.agg #[.slice a.ro m'.refs.length a.rc, .slice a.tq m'.table.length a.tc, .slice a.so m'.snaps.length a.sc, .slice a.dq m'.data.length a.dc]) rfl rfl hS0 (fun W hW => by obtain ⟨k0, k1, k2, k3⟩ := hW.cells; go_simp) ?_
            refine ord_read (.pointer (some ⟨b, 0, none⟩)) rfl rfl hS0 (fun W hW => by go_simp) ?_
            refine ord_held rfl rfl ?_
            intro K hK
            unfold Oper.wp
            go_simp
            refine (snapName_k b ao n cap _ _ (by omega) hn (unhide HI0).s).mono ?_
            rintro e w5 ⟨t, rfl, htz, hs5, hk5⟩
            have HI5 := hide ((unhide HI0).src hs5 hk5)
            have HTZ := hide htz
            clear hs5 hk5 htz
            refine hK _ _ (unhide HI5).v ?_
            clear hK K
            refine ord_alone rfl rfl ?_
            intro K hK
            unfold Oper.wp
            go_simp
            obtain ⟨R, HR⟩ : ∃ R, Hid (R = imRevert m' t) := ⟨_, hide rfl⟩
            refine (l10Revert_R a m' t R _ (unhide HR) (unhide HI5).i.r.M (fun s hs => ((unhide HI5).i.r.snaps s hs).2) (unhide HI5).shows).mono ?_
            rintro e w6 ⟨a2, ts2, rfl, ho6, hb6⟩
            have HRI : Hid (ImK R.1) := hide (by rw [unhide HR]; exact (unhide HI5).i.revert t)
            have HN := hide ((unhide HI5).put (unhide HS0) hb6 ho6 (unhide HRI))
            unfold putI at HN
            have hv6 := (unhide HI5).v.below hb6
            refine hK _ _ ?_
            clear hK K ho6 hb6 hS0 HI0 HI5 HR
            obtain ⟨m2, code⟩ := R
            refine ord_val (.tuple #[imV a2 m2, .int .i64 code]) rfl rfl (fun W => by go_simp) ?_
            refine ord_val (imV a2 m2) rfl rfl (fun W => by go_simp) ?_
            refine ord_val (.int .i64 code) rfl rfl (fun W => by go_simp) ?_
            obtain ⟨c0, c1, c2, c3⟩ := hv6.cells
            obtain ⟨z0, z1, z2, z3⟩ := hv6.free
            clear hv6
            refine ord_alone rfl rfl ?_
            intro K hK
            unfold Oper.wp
            go_simp
            refine hK _ _ ?_
            clear hK K
            refine ord_done ?_
            clear c0 c1 c2 c3 z0 z1 z2 z3
            revert HN
            generalize (((w6.setCell _ _).setCell _ _).setCell _ _).setCell _ _ = W7
            intro HN
            go_wp2
            go_roundw
            case rel => exact ⟨k, by omega, by go_num, a2, m2, ts2, hide ((unhide HN).more (by omega))⟩
            case measure => simp [intOf]
          · clear h90 h91
            go_upto_region 20 with fail
            have hS0 : VarM wr'.drew y 29 (.slice a.ro m'.refs.length a.rc) (.slice a.tq m'.table.length a.tc) (.slice a.so m'.snaps.length a.sc) (.slice a.dq m'.data.length a.dc) := (unhide HI).v.below (Below.refl _ _).drew
            have HI0 := hide ((unhide HI).below (Below.refl _ _).drew)
            clear HI
            refine wp_region_ord (fun w' => VarM w' y 29 (.slice a.ro m'.refs.length a.rc) (.slice a.tq m'.table.length a.tc) (.slice a.so m'.snaps.length a.sc) (.slice a.dq m'.data.length a.dc)) [0, 1, 2] [(0, 0), (1, 0), (2, 2), (3, 3), (4, 3)] (by kernel_rfl) (by kernel_rfl) rfl (by kernel_rfl) ?_
            refine ord_read (.agg #[.slice a.ro m'.refs.length a.rc, .slice a.tq m'.table.length a.tc, .slice a.so m'.snaps.length a.sc, .slice a.dq m'.data.length a.dc]) rfl rfl hS0 (fun W hW => by obtain ⟨k0, k1, k2, k3⟩ := hW.cells; go_simp) ?_
            refine ord_read (.pointer (some ⟨b, 0, none⟩)) rfl rfl hS0 (fun W hW => by go_simp) ?_
            refine ord_held rfl rfl ?_
            intro K hK
            unfold Oper.wp
            go_simp
            refine (next_k b ao n cap _ 13 _ (by omega) (by omega) (by omega) hn (unhide HI0).s).mono ?_
            rintro e w5 ⟨r5, rfl, h50, h51, hs5, hk5⟩
            obtain ⟨q, rfl⟩ := Int.eq_ofNat_of_zero_le h50
            have HI5 := hide ((unhide HI0).src hs5 hk5)
            clear hs5 hk5
            refine hK _ _ (unhide HI5).v ?_
            clear hK K
            refine ord_alone rfl rfl ?_
            intro K hK
            unfold Oper.wp
            go_simp
            obtain ⟨m2, HR⟩ : ∃ R, Hid (R = imResize m' q) := ⟨_, hide rfl⟩
            refine (l10Resize_R a m' q m2 _ (unhide HR) (unhide HI5).i.r.M (by omega) (unhide HI5).shows).mono ?_
            rintro e w6 ⟨a2, ts2, rfl, ho6, hb6⟩
            have HRI : Hid (ImK m2) := hide (by rw [unhide HR]; exact (unhide HI5).i.resize (by omega))
            have HN := hide ((unhide HI5).put (unhide HS0) hb6 ho6 (unhide HRI))
            unfold putI at HN
            have hv6 := (unhide HI5).v.below hb6
            refine hK _ _ ?_
            clear hK K ho6 hb6 hS0 HI0 HI5 HR
            obtain ⟨c0, c1, c2, c3⟩ := hv6.cells
            obtain ⟨z0, z1, z2, z3⟩ := hv6.free
            clear hv6
            refine ord_alone rfl rfl ?_
            intro K hK
            unfold Oper.wp
            go_simp
            refine hK _ _ ?_
            clear hK K
            refine ord_done ?_
            clear c0 c1 c2 c3 z0 z1 z2 z3
            revert HN
            generalize (((w6.setCell _ _).setCell _ _).setCell _ _).setCell _ _ = W7
            intro HN
            go_wp2
            go_roundw
            case rel => exact ⟨k, by omega, by go_num, a2, m2, ts2, hide ((unhide HN).more (by omega))⟩
            case measure => simp [intOf]
          · clear h90 h91
            obtain ⟨c0, c1, c2, c3⟩ := (unhide HI).v.cells
            go_wp2_with fail
            obtain ⟨m2, HR⟩ : ∃ R, Hid (R = imZero m' g) := ⟨_, hide rfl⟩
            refine (l10Zero_R a m' g m2 _ (unhide HR) (unhide HI).i.r.M hgl (unhide HI).shows).mono ?_
            rintro e w6 ⟨a2, ts2, rfl, ho6, hb6⟩
            have HRI : Hid (ImK m2) := hide (by rw [unhide HR]; exact (unhide HI).i.zero hgl)
            have HN := hide ((unhide HI).put (unhide HS0) hb6 ho6 (unhide HRI))
            unfold putI at HN
            have hv6 := (unhide HI).v.below hb6
            clear ho6 hb6 HI HR c0 c1 c2 c3
            obtain ⟨c0, c1, c2, c3⟩ := hv6.cells
            obtain ⟨z0, z1, z2, z3⟩ := hv6.free
            clear hv6
            go_upto_region 6 with fail
            clear c0 c1 c2 c3 z0 z1 z2 z3
            revert HN
            generalize (((w6.setCell _ _).setCell _ _).setCell _ _).setCell _ _ = W7
            intro HN
            go_wp2
            go_roundw
            case rel => exact ⟨k, by omega, by go_num, a2, m2, ts2, hide ((unhide HN).more (by omega))⟩
            case measure => simp [intOf]
          · have b0 : (r9 == 0) = false := by rw [beq_eq_false_iff_ne]; omega
            have b1 : (r9 == 1) = false := by rw [beq_eq_false_iff_ne]; omega
            have b2 : (r9 == 2) = false := by rw [beq_eq_false_iff_ne]; omega
            have b3 : (r9 == 3) = false := by rw [beq_eq_false_iff_ne]; omega
            have b4 : (r9 == 4) = false := by rw [beq_eq_false_iff_ne]; omega
            clear h90 h91 h5
            obtain ⟨c0, c1, c2, c3⟩ := (unhide HI).v.cells
            go_upto_region 12 with fail
            have hS0 : VarM wr'.drew y 29 (.slice a.ro m'.refs.length a.rc) (.slice a.tq m'.table.length a.tc) (.slice a.so m'.snaps.length a.sc) (.slice a.dq m'.data.length a.dc) := (unhide HI).v.below (Below.refl _ _).drew
            have HI0 := hide ((unhide HI).below (Below.refl _ _).drew)
            clear HI c0 c1 c2 c3
            refine wp_region_ord (fun w' => VarM w' y 29 (.slice a.ro m'.refs.length a.rc) (.slice a.tq m'.table.length a.tc) (.slice a.so m'.snaps.length a.sc) (.slice a.dq m'.data.length a.dc)) [0, 1, 2, 3] [(0, 0), (1, 0), (2, 0), (3, 2), (4, 3), (5, 4), (6, 4), (7, 4), (8, 3)] (by kernel_rfl) (by kernel_rfl) rfl (by kernel_rfl) ?_
            refine ord_read (.agg #[.slice a.ro m'.refs.length a.rc, .slice a.tq m'.table.length a.tc, .slice a.so m'.snaps.length a.sc, .slice a.dq m'.data.length a.dc]) rfl rfl hS0 (fun W hW => by obtain ⟨k0, k1, k2, k3⟩ := hW.cells; go_simp) ?_
            refine ord_read (.int .i64 g) rfl rfl hS0 (fun W hW => by go_simp) ?_
            refine ord_read (.pointer (some ⟨b, 0, none⟩)) rfl rfl hS0 (fun W hW => by go_simp) ?_
            refine ord_held rfl rfl ?_
            intro K hK
            unfold Oper.wp
            go_simp
            refine (number_k b ao n cap _ _ (by omega) hn (unhide HI0).s).mono ?_
            rintro e w5 ⟨r5, rfl, h50, h51, hs5, hk5⟩
            have HI5 := hide ((unhide HI0).src hs5 hk5)
            have HNB : Hid (numB r5 = true) := hide (by simp [numB, inB, h50, h51])
            clear hs5 hk5 h50 h51
            refine hK _ _ (unhide HI5).v ?_
            clear hK K
            refine ord_alone rfl rfl ?_
            intro K hK
            unfold Oper.wp
            go_simp
            obtain ⟨R, HR⟩ : ∃ R, Hid (R = imWrite m' g r5) := ⟨_, hide rfl⟩
            refine (l10Write_R a m' g r5 R _ (unhide HR) (unhide HI5).i.r.M hgl (unhide HI5).shows).mono ?_
            rintro e w6 ⟨a2, ts2, rfl, ho6, hb6⟩
            have HRI : Hid (ImK R.1) := hide (by rw [unhide HR]; exact (unhide HI5).i.write hgl (unhide HNB))
            have HN := hide ((unhide HI5).put (unhide HS0) hb6 ho6 (unhide HRI))
            unfold putI at HN
            have hv6 := (unhide HI5).v.below hb6
            refine hK _ _ ?_
            clear hK K ho6 hb6 hS0 HI0 HI5 HR
            obtain ⟨m2, code⟩ := R
            refine ord_val (.tuple #[imV a2 m2, .int .i64 code]) rfl rfl (fun W => by go_simp) ?_
            refine ord_val (imV a2 m2) rfl rfl (fun W => by go_simp) ?_
            refine ord_val (.int .i64 code) rfl rfl (fun W => by go_simp) ?_
            obtain ⟨c0, c1, c2, c3⟩ := hv6.cells
            obtain ⟨z0, z1, z2, z3⟩ := hv6.free
            clear hv6
            refine ord_alone rfl rfl ?_
            intro K hK
            unfold Oper.wp
            go_simp
            refine hK _ _ ?_
            clear hK K
            refine ord_done ?_
            clear c0 c1 c2 c3 z0 z1 z2 z3
            revert HN
            generalize (((w6.setCell _ _).setCell _ _).setCell _ _).setCell _ _ = W7
            intro HN
            go_wp2
            go_roundw
            case rel => exact ⟨k, by omega, by go_num, a2, m2, ts2, hide ((unhide HN).more (by omega))⟩
            case measure => simp [intOf]

        · have hpi : ¬ (0 : Int) < (m'.table.length : Int) := by omega
          clear hp
          go_wp2_with fail
          refine (next_k b ao n cap _ 9 _ (by omega) (by omega) (by omega) hn (unhide HI).s).mono ?_
          rintro e wr' ⟨r9, rfl, h90, h91, hs9, hk9⟩
          have HI8 := hide ((unhide HI).src hs9 hk9)
          clear hs9 hk9 HI c0 c1 c2 c3
          have HI := HI8
          clear HI8
          rcases (show r9 = 0 ∨ r9 = 1 ∨ r9 = 2 ∨ r9 = 3 ∨ r9 = 4 ∨ 5 ≤ r9 by omega) with rfl | rfl | rfl | rfl | rfl | h5
          · clear h90 h91
            go_upto_region 14 with fail
            have hS0 : VarM wr'.drew y 29 (.slice a.ro m'.refs.length a.rc) (.slice a.tq m'.table.length a.tc) (.slice a.so m'.snaps.length a.sc) (.slice a.dq m'.data.length a.dc) := (unhide HI).v.below (Below.refl _ _).drew
            have HI0 := hide ((unhide HI).below (Below.refl _ _).drew)
            clear HI
            refine wp_region_ord (fun w' => VarM w' y 29 (.slice a.ro m'.refs.length a.rc) (.slice a.tq m'.table.length a.tc) (.slice a.so m'.snaps.length a.sc) (.slice a.dq m'.data.length a.dc)) [0, 1, 2] [(0, 0), (1, 0), (2, 2), (3, 3), (4, 4), (5, 4), (6, 4), (7, 3)] (by kernel_rfl) (by kernel_rfl) rfl (by kernel_rfl) ?_
            refine ord_read (.agg #[.slice a.ro m'.refs.length a.rc, .slice a.tq m'.table.length a.tc, .slice a.so m'.snaps.length a.sc, .slice a.dq m'.data.length a.dc]) rfl rfl hS0 (fun W hW => by obtain ⟨k0, k1, k2, k3⟩ := hW.cells; go_simp) ?_
            refine ord_read (.pointer (some ⟨b, 0, none⟩)) rfl rfl hS0 (fun W hW => by go_simp) ?_
            refine ord_held rfl rfl ?_
            intro K hK
            unfold Oper.wp
            go_simp
            refine (snapName_k b ao n cap _ _ (by omega) hn (unhide HI0).s).mono ?_
            rintro e w5 ⟨t, rfl, htz, hs5, hk5⟩
            have HI5 := hide ((unhide HI0).src hs5 hk5)
            have HTZ := hide htz
            clear hs5 hk5 htz
            refine hK _ _ (unhide HI5).v ?_
            clear hK K
            refine ord_alone rfl rfl ?_
            intro K hK
            unfold Oper.wp
            go_simp
            obtain ⟨R, HR⟩ : ∃ R, Hid (R = imCreate m' t) := ⟨_, hide rfl⟩
            refine (l10Create_R a m' t R _ (unhide HR) (unhide HI5).i.r.M (unhide HI5).i.r.table (by have := (unhide HTZ).1; unfold maxLen; omega) (unhide HI5).shows).mono ?_
            rintro e w6 ⟨a2, ts2, rfl, ho6, hb6⟩
            have HRI : Hid (ImK R.1) := hide (by rw [unhide HR]; exact (unhide HI5).i.create t (unhide HTZ).2)
            have HN := hide ((unhide HI5).put (unhide HS0) hb6 ho6 (unhide HRI))
            unfold putI at HN
            have hv6 := (unhide HI5).v.below hb6
            refine hK _ _ ?_
            clear hK K ho6 hb6 hS0 HI0 HI5 HR
            obtain ⟨m2, code⟩ := R
            refine ord_val (.tuple #[imV a2 m2, .int .i64 code]) rfl rfl (fun W => by go_simp) ?_
            refine ord_val (imV a2 m2) rfl rfl (fun W => by go_simp) ?_
            refine ord_val (.int .i64 code) rfl rfl (fun W => by go_simp) ?_
            obtain ⟨c0, c1, c2, c3⟩ := hv6.cells
            obtain ⟨z0, z1, z2, z3⟩ := hv6.free
            clear hv6
            refine ord_alone rfl rfl ?_
            intro K hK
            unfold Oper.wp
            go_simp
            refine hK _ _ ?_
            clear hK K
            refine ord_done ?_
            clear c0 c1 c2 c3 z0 z1 z2 z3
            revert HN
            generalize (((w6.setCell _ _).setCell _ _).setCell _ _).setCell _ _ = W7
            intro HN
            go_wp2
            go_roundw
            case rel => exact ⟨k, by omega, by go_num, a2, m2, ts2, hide ((unhide HN).more (by omega))⟩
            case measure => simp [intOf]
          · clear h90 h91
            go_upto_region 16 with fail
            have hS0 : VarM wr'.drew y 29 (.slice a.ro m'.refs.length a.rc) (.slice a.tq m'.table.length a.tc) (.slice a.so m'.snaps.length a.sc) (.slice a.dq m'.data.length a.dc) := (unhide HI).v.below (Below.refl _ _).drew
            have HI0 := hide ((unhide HI).below (Below.refl _ _).drew)
            clear HI
            refine wp_region_ord (fun w' => VarM w' y 29 (.slice a.ro m'.refs.length a.rc) (.slice a.tq m'.table.length a.tc) (.slice a.so m'.snaps.length a.sc) (.slice a.dq m'.data.length a.dc)) [0, 1, 2] [(0, 0), (1, 0), (2, 2), (3, 3), (4, 4), (5, 4), (6, 4), (7, 3)] (by kernel_rfl) (by kernel_rfl) rfl (by kernel_rfl) ?_
            refine ord_read (.agg #[.slice a.ro m'.refs.length a.rc, .slice a.tq m'.table.length a.tc, .slice a.so m'.snaps.length a.sc, .slice a.dq m'.data.length a.dc]) rfl rfl hS0 (fun W hW => by obtain ⟨k0, k1, k2, k3⟩ := hW.cells; go_simp) ?_
            refine ord_read (.pointer (some ⟨b, 0, none⟩)) rfl rfl hS0 (fun W hW => by go_simp) ?_
            refine ord_held rfl rfl ?_
            intro K hK
            unfold Oper.wp
            go_simp
            refine (snapName_k b ao n cap _ _ (by omega) hn (unhide HI0).s).mono ?_
            rintro e w5 ⟨t, rfl, htz, hs5, hk5⟩
            have HI5 := hide ((unhide HI0).src hs5 hk5)
            have HTZ := hide htz
            clear hs5 hk5 htz
            refine hK _ _ (unhide HI5).v ?_
            clear hK K
            refine ord_alone rfl rfl ?_
            intro K hK
            unfold Oper.wp
            go_simp
            obtain ⟨R, HR⟩ : ∃ R, Hid (R = imDelete m' t) := ⟨_, hide rfl⟩
            refine (l10Delete_R a m' t R _ (unhide HR) (unhide HI5).i.r.M (unhide HI5).shows).mono ?_
            rintro e w6 ⟨a2, ts2, rfl, ho6, hb6⟩
            have HRI : Hid (ImK R.1) := hide (by rw [unhide HR]; exact (unhide HI5).i.delete t)
            have HN := hide ((unhide HI5).put (unhide HS0) hb6 ho6 (unhide HRI))
            unfold putI at HN
            have hv6 := (unhide HI5).v.below hb6
            refine hK _ _ ?_
            clear hK K ho6 hb6 hS0 HI0 HI5 HR
            obtain ⟨m2, code⟩ := R
            refine ord_val (.tuple #[imV a2 m2, .int .i64 code]) rfl rfl (fun W => by go_simp) ?_
            refine ord_val (imV a2 m2) rfl rfl (fun W => by go_simp) ?_
            refine ord_val (.int .i64 code) rfl rfl (fun W => by go_simp) ?_
            obtain ⟨c0, c1, c2, c3⟩ := hv6.cells
            obtain ⟨z0, z1, z2, z3⟩ := hv6.free
            clear hv6
            refine ord_alone rfl rfl ?_
            intro K hK
            unfold Oper.wp
            go_simp
            refine hK _ _ ?_
            clear hK K
            refine ord_done ?_
            clear c0 c1 c2 c3 z0 z1 z2 z3
            revert HN
            generalize (((w6.setCell _ _).setCell _ _).setCell _ _).setCell _ _ = W7
            intro HN
            go_wp2
            go_roundw
            case rel => exact ⟨k, by omega, by go_num, a2, m2, ts2, hide ((unhide HN).more (by omega))⟩
            case measure => simp [intOf]
          · clear h90 h91
            go_upto_region 18 with fail
            have hS0 : VarM wr'.drew y 29 (.slice a.ro m'.refs.length a.rc) (.slice a.tq m'.table.length a.tc) (.slice a.so m'.snaps.length a.sc) (.slice a.dq m'.data.length a.dc) := (unhide HI).v.below (Below.refl _ _).drew
            have HI0 := hide ((unhide HI).below (Below.refl _ _).drew)
            clear HI
            refine wp_region_ord (fun w' => VarM w' y 29 (.slice a.ro m'.refs.length a.rc) (.slice a.tq m'.table.length a.tc) (.slice a.so m'.snaps.length a.sc) (.slice a.dq m'.data.length a.dc)) [0, 1, 2] [(0, 0), (1, 0), (2, 2), (3, 3), (4, 4), (5, 4), (6, 4), (7, 3)] (by kernel_rfl) (by kernel_rfl) rfl (by kernel_rfl) ?_
            refine ord_read (.agg #[.slice a.ro m'.refs.length a.rc, .slice a.tq m'.table.length a.tc, .slice a.so m'.snaps.length a.sc, .slice a.dq m'.data.length a.dc]) rfl rfl hS0 (fun W hW => by obtain ⟨k0, k1, k2, k3⟩ := hW.cells; go_simp) ?_
            refine ord_read (.pointer (some ⟨b, 0, none⟩)) rfl rfl hS0 (fun W hW => by go_simp) ?_
            refine ord_held rfl rfl ?_
            intro K hK
            unfold Oper.wp
            go_simp
            refine (snapName_k b ao n cap _ _ (by omega) hn (unhide HI0).s).mono ?_
            rintro e w5 ⟨t, rfl, htz, hs5, hk5⟩
            have HI5 := hide ((unhide HI0).src hs5 hk5)
            have HTZ := hide htz
            clear hs5 hk5 htz
            refine hK _ _ (unhide HI5).v ?_
            clear hK K
            refine ord_alone rfl rfl ?_
            intro K hK
            unfold Oper.wp
            go_simp
            obtain ⟨R, HR⟩ : ∃ R, Hid (R = imRevert m' t) := ⟨_, hide rfl⟩
            refine (l10Revert_R a m' t R _ (unhide HR) (unhide HI5).i.r.M (fun s hs => ((unhide HI5).i.r.snaps s hs).2) (unhide HI5).shows).mono ?_
            rintro e w6 ⟨a2, ts2, rfl, ho6, hb6⟩
            have HRI : Hid (ImK R.1) := hide (by rw [unhide HR]; exact (unhide HI5).i.revert t)
            have HN := hide ((unhide HI5).put (unhide HS0) hb6 ho6 (unhide HRI))
            unfold putI at HN
            have hv6 := (unhide HI5).v.below hb6
            refine hK _ _ ?_
            clear hK K ho6 hb6 hS0 HI0 HI5 HR
            obtain ⟨m2, code⟩ := R
            refine ord_val (.tuple #[imV a2 m2, .int .i64 code]) rfl rfl (fun W => by go_simp) ?_
            refine ord_val (imV a2 m2) rfl rfl (fun W => by go_simp) ?_
            refine ord_val (.int .i64 code) rfl rfl (fun W => by go_simp) ?_
            obtain ⟨c0, c1, c2, c3⟩ := hv6.cells
            obtain ⟨z0, z1, z2, z3⟩ := hv6.free
            clear hv6
            refine ord_alone rfl rfl ?_
            intro K hK
            unfold Oper.wp
            go_simp
            refine hK _ _ ?_
            clear hK K
            refine ord_done ?_
            clear c0 c1 c2 c3 z0 z1 z2 z3
            revert HN
            generalize (((w6.setCell _ _).setCell _ _).setCell _ _).setCell _ _ = W7
            intro HN
            go_wp2
            go_roundw
            case rel => exact ⟨k, by omega, by go_num, a2, m2, ts2, hide ((unhide HN).more (by omega))⟩
            case measure => simp [intOf]
          · clear h90 h91
            go_upto_region 20 with fail
            have hS0 : VarM wr'.drew y 29 (.slice a.ro m'.refs.length a.rc) (.slice a.tq m'.table.length a.tc) (.slice a.so m'.snaps.length a.sc) (.slice a.dq m'.data.length a.dc) := (unhide HI).v.below (Below.refl _ _).drew
            have HI0 := hide ((unhide HI).below (Below.refl _ _).drew)
            clear HI
            refine wp_region_ord (fun w' => VarM w' y 29 (.slice a.ro m'.refs.length a.rc) (.slice a.tq m'.table.length a.tc) (.slice a.so m'.snaps.length a.sc) (.slice a.dq m'.data.length a.dc)) [0, 1, 2] [(0, 0), (1, 0), (2, 2), (3, 3), (4, 3)] (by kernel_rfl) (by kernel_rfl) rfl (by kernel_rfl) ?_
            refine ord_read (.agg #[.slice a.ro m'.refs.length a.rc, .slice a.tq m'.table.length a.tc, .slice a.so m'.snaps.length a.sc, .slice a.dq m'.data.length a.dc]) rfl rfl hS0 (fun W hW => by obtain ⟨k0, k1, k2, k3⟩ := hW.cells; go_simp) ?_
            refine ord_read (.pointer (some ⟨b, 0, none⟩)) rfl rfl hS0 (fun W hW => by go_simp) ?_
            refine ord_held rfl rfl ?_
            intro K hK
            unfold Oper.wp
            go_simp
            refine (next_k b ao n cap _ 13 _ (by omega) (by omega) (by omega) hn (unhide HI0).s).mono ?_
            rintro e w5 ⟨r5, rfl, h50, h51, hs5, hk5⟩
            obtain ⟨q, rfl⟩ := Int.eq_ofNat_of_zero_le h50
            have HI5 := hide ((unhide HI0).src hs5 hk5)
            clear hs5 hk5
            refine hK _ _ (unhide HI5).v ?_
            clear hK K
            refine ord_alone rfl rfl ?_
            intro K hK
            unfold Oper.wp
            go_simp
            obtain ⟨m2, HR⟩ : ∃ R, Hid (R = imResize m' q) := ⟨_, hide rfl⟩
            refine (l10Resize_R a m' q m2 _ (unhide HR) (unhide HI5).i.r.M (by omega) (unhide HI5).shows).mono ?_
            rintro e w6 ⟨a2, ts2, rfl, ho6, hb6⟩
            have HRI : Hid (ImK m2) := hide (by rw [unhide HR]; exact (unhide HI5).i.resize (by omega))
            have HN := hide ((unhide HI5).put (unhide HS0) hb6 ho6 (unhide HRI))
            unfold putI at HN
            have hv6 := (unhide HI5).v.below hb6
            refine hK _ _ ?_
            clear hK K ho6 hb6 hS0 HI0 HI5 HR
            obtain ⟨c0, c1, c2, c3⟩ := hv6.cells
            obtain ⟨z0, z1, z2, z3⟩ := hv6.free
            clear hv6
            refine ord_alone rfl rfl ?_
            intro K hK
            unfold Oper.wp
            go_simp
            refine hK _ _ ?_
            clear hK K
            refine ord_done ?_
            clear c0 c1 c2 c3 z0 z1 z2 z3
            revert HN
            generalize (((w6.setCell _ _).setCell _ _).setCell _ _).setCell _ _ = W7
            intro HN
            go_wp2
            go_roundw
            case rel => exact ⟨k, by omega, by go_num, a2, m2, ts2, hide ((unhide HN).more (by omega))⟩
            case measure => simp [intOf]
          · clear h90 h91
            obtain ⟨c0, c1, c2, c3⟩ := (unhide HI).v.cells
            have HN := HI
            obtain ⟨a2, m2, ts2, e2⟩ : ∃ (a2 : Im4) (m2 : Img) (ts2 : List Value), a2 = a ∧ m2 = m' ∧ ts2 = ts := ⟨_, _, _, rfl, rfl, rfl⟩
            obtain ⟨rfl, rfl, rfl⟩ := e2
            clear HI
            go_wp2
            go_roundw
            case rel => exact ⟨k, by omega, by go_num, a2, m2, ts2, hide ((unhide HN).more (by omega))⟩
            case measure => simp [intOf]
          · have b0 : (r9 == 0) = false := by rw [beq_eq_false_iff_ne]; omega
            have b1 : (r9 == 1) = false := by rw [beq_eq_false_iff_ne]; omega
            have b2 : (r9 == 2) = false := by rw [beq_eq_false_iff_ne]; omega
            have b3 : (r9 == 3) = false := by rw [beq_eq_false_iff_ne]; omega
            have b4 : (r9 == 4) = false := by rw [beq_eq_false_iff_ne]; omega
            clear h90 h91 h5
            obtain ⟨c0, c1, c2, c3⟩ := (unhide HI).v.cells
            have HN := HI
            obtain ⟨a2, m2, ts2, e2⟩ : ∃ (a2 : Im4) (m2 : Img) (ts2 : List Value), a2 = a ∧ m2 = m' ∧ ts2 = ts := ⟨_, _, _, rfl, rfl, rfl⟩
            obtain ⟨rfl, rfl, rfl⟩ := e2
            clear HI
            go_wp2
            go_roundw
            case rel => exact ⟨k, by omega, by go_num, a2, m2, ts2, hide ((unhide HN).more (by omega))⟩
            case measure => simp [intOf]

theorem imageOf_kept (ao : Option Addr) (n cap : Nat) (w : World) (hn : n ≤ 1048576) (hB : Bs w ao n) :
    Calls Try.prog 12 #[.slice ao n cap] w fun e w' => ∃ a M ts, e = .returned (imV a M) ∧ OwnIm w' w.heap.size a M ts ∧ ImK M ∧ Below w.heap.size w w' := by
  have HA := hide (Joins.below_alloc1 w (.cells #[.slice none 0 0, .slice none 0 0, .slice none 0 0, .slice none 0 0] 29))
  have HV := hide (VarM.new w 29 (.slice none 0 0) (.slice none 0 0) (.slice none 0 0) (.slice none 0 0))
  have HB := hide (hB.below (unhide HA))
  clear hB
  go_enter Try.func12, Try.ntmps12
  go_upto_region 1 with fail
  revert HA HV HB
  generalize (w.alloc _) = W0
  intro HA HV HB
  go_wp2_with fail
  refine (source_any ao n cap _ hn (unhide HB)).mono ?_
  rintro e w1 ⟨rfl, hs1, hb1, hz⟩
  go_wp2_with fail
  refine (image_k _ ao n cap 0 _ (by omega) hn hs1).mono ?_
  rintro e w2 ⟨a, M, ts, rfl, ho, hi, _, hk⟩
  have hb2 : Below W0.heap.size W0 w2 := hb1.trans (hk.below (B := W0.heap.size) (by omega) (fun k hk => by omega))
  have HP := hide (ImSt.put ((unhide HV).below hb2) (ho.base (B' := W0.heap.size) (by omega)) (fr (unhide HA) hb2) (Nat.le_refl _) (unhide HV).lt a M)
  have hv2 := (unhide HV).below hb2
  have HI := hide hi
  have HA0 := hide (unhide HA).size
  clear ho hi hk hb1 hs1 hz hb2 HV HB HA
  obtain ⟨c0, c1, c2, c3⟩ := hv2.cells
  obtain ⟨z0, z1, z2, z3⟩ := hv2.free
  clear hv2
  go_wp2
  refine bodyPost_ret (res_im Try.results12 rfl (unhide HP).1) rfl ?_
  first | exact ⟨a, M, ts, rfl, (unhide HP).2.1.base (unhide HA0), unhide HI, (unhide HP).2.2⟩ | exact ⟨a, M, rfl, ⟨ts, (unhide HP).2.1.base (unhide HA0)⟩, unhide HI, (unhide HP).2.2⟩

theorem imageOf_any (ao : Option Addr) (n cap : Nat) (w : World) (hn : n ≤ 1048576) (hB : Bs w ao n) :
    Calls Try.prog 12 #[.slice ao n cap] w fun e w' => ∃ a M ts, e = .returned (imV a M) ∧ OwnIm w' w.heap.size a M ts ∧ ImR M ∧ Below w.heap.size w w' :=
  (imageOf_kept ao n cap w hn hB).mono fun e w' ⟨a, M, ts, h1, h2, h3, h4⟩ => ⟨a, M, ts, h1, h2, h3.r, h4⟩

end Go.Proofs.Ytjoafbkcnnhdiac
