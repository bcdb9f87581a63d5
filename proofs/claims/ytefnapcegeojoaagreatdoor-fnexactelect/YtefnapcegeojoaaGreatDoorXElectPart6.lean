import Derived.Test.YtefnapcegeojoaaGreatDoorXElectPart1
import Derived.Test.YtefnapcegeojoaaGreatDoorXElectPart4
import Derived.Test.YtefnapcegeojoaaGreatDoorXElectPart5
import Derived.Test.YtefnapcegeojoaaGreatDoorRows
import Derived.Test.YtefnapcegeojoaaGreatDoorXElectPart2
import Derived.WalkKit
import Derived.Test.YtefnapcegeojoaaGreatDoorXElectPart3
import Derived.WalkSpells
import Derived.KernelRfl
import Derived.Deep.MidRow
import Derived.Deep.CutRange
import Derived.Lib.SmallJoins

namespace Go.Proofs.YtefnapcegeojoaaGreatDoor
set_option linter.unusedVariables false

def wS (ss : List ByteArray) (xs : List Wr) (h a : Int) (t : ByteArray) : List ByteArray := putW ss (ofH h (xs ++ [⟨h, a, t⟩]))
def wX (xs : List Wr) (h a : Int) (t : ByteArray) : List Wr := dropF h (xs ++ [⟨h, a, t⟩])
theorem wX_eq (xs : List Wr) (h a : Int) (t : ByteArray) : wX xs h a t = dropF h xs := by simp [wX, dropF]
theorem wX_len (xs : List Wr) (h a : Int) (t : ByteArray) : (wX xs h a t).length ≤ xs.length := by rw [wX_eq]; exact drop_le h xs
theorem wS_len (ss : List ByteArray) (xs : List Wr) (h a : Int) (t : ByteArray) : (wS ss xs h a t).length = ss.length := put_len _ _
theorem w_io {h a : Int} {t : ByteArray} (h0 : 0 ≤ h) (h3 : h ≤ 3) (a0 : 0 ≤ a) (a1 : a ≤ 63) (ht : t.size ≤ 80) : ioB ⟨h, a, t⟩ = true := ioB_parts.2 ⟨⟨h0, h3⟩, ⟨a0, a1⟩, ht⟩
theorem w_right {ss : List ByteArray} {xs : List Wr} {h a : Int} {t : ByteArray} (hd : diskB ss xs = true) (hl : xs.length < 200) (h0 : 0 ≤ h) (h3 : h ≤ 3) (a0 : 0 ≤ a) (a1 : a ≤ 63) (ht : t.size ≤ 80) : diskB (wS ss xs h a t) (wX xs h a t) = true :=
  diskB_put (diskB_snoc hd hl (w_io h0 h3 a0 a1 ht)) (fun x hx => of_mem hx) (fun x hx => drop_mem hx) (drop_le h _)

structure Est where
  ss : List ByteArray
  xs : List Wr
  p : Pxs
  bs : List Bk
def wroteB (a b : Int) : Bool := (decide (b = 2) && decide (a = 1)) || (decide (b = 4) && decide (a = 3))
def ownK (p : Pxs) (bs : List Bk) : Bk := bs.getD p.host.toNat bk0
def elStep (s : Est) : Est :=
  if wroteB s.p.phase (pxStepP s.p s.bs).1.phase = true then ⟨wS s.ss s.xs s.p.host (1 + s.p.host) (encB (ownK s.p (pxStepP s.p s.bs).2)), wX s.xs s.p.host (1 + s.p.host) (encB (ownK s.p (pxStepP s.p s.bs).2)), (pxStepP s.p s.bs).1, (pxStepP s.p s.bs).2⟩
  else ⟨s.ss, s.xs, (pxStepP s.p s.bs).1, (pxStepP s.p s.bs).2⟩
def mOf (p : Pxs) : Nat := if p.phase = 1 then 13 else if p.phase = 2 then 12 - p.next.toNat else if p.phase = 3 then 6 else if p.phase = 4 then 5 - p.next.toNat else 0
def elRun : Nat → Est → Est
  | 0, s => s
  | n + 1, s => if s.p.phase < 5 then elRun n (elStep s) else s
def elEnd (s : Est) : Est := elRun 13 s

theorem step_p (s : Est) : (elStep s).p = (pxStepP s.p s.bs).1 ∧ (elStep s).bs = (pxStepP s.p s.bs).2 := by unfold elStep; split <;> exact ⟨rfl, rfl⟩

structure ElOK (h : Int) (s : Est) : Prop where
  p : pxB s.p = true
  b : bksB s.bs = true
  d : diskB s.ss s.xs = true
  l : s.xs.length < 200
  o : s.p.host = h
  j : s.p.phase = 2 ∨ s.p.phase = 3 → (ownK s.p s.bs).bal < s.p.ballot

theorem pxEnd_ph (p : Pxs) (h2 : p.phase = 2 ∨ p.phase = 4) : ((pxEnd p).phase = p.phase ∧ (pxEnd p).next = p.next ∧ p.next < 4) ∨ (p.phase = 2 ∧ (pxEnd p).phase = 3) ∨ (p.phase = 4 ∧ (pxEnd p).phase = 5) := by
  unfold pxEnd
  split
  · exact .inl ⟨rfl, rfl, by assumption⟩
  · split
    · exact .inr (.inr ⟨by assumption, rfl⟩)
    · exact .inr (.inl ⟨by rcases h2 with h | h <;> first | exact h | contradiction, rfl⟩)
theorem pxEnd_at (p : Pxs) : (pxEnd p).host = p.host ∧ (pxEnd p).ballot = p.ballot ∧ (pxEnd p).ver = p.ver := by
  unfold pxEnd; split; · exact ⟨rfl, rfl, rfl⟩
  split <;> exact ⟨rfl, rfl, rfl⟩
theorem pxRd_at (p : Pxs) (bs : List Bk) : (pxRd p bs).host = p.host ∧ (pxRd p bs).ballot = p.ballot ∧ (pxRd p bs).ver = p.ver := by
  unfold pxRd
  simp only
  split
  · split
    · exact ⟨rfl, rfl, rfl⟩
    · obtain ⟨a, b, c⟩ := pxEnd_at (pxLook { p with next := skip p p.next } (bkOf (bs.getD ({ p with next := skip p p.next } : Pxs).next.toNat bk0) p.ver))
      exact ⟨a, b, c⟩
  · obtain ⟨a, b, c⟩ := pxEnd_at { p with next := skip p p.next }
    exact ⟨a, b, c⟩
theorem pxRd_ph (p : Pxs) (bs : List Bk) (h2 : p.phase = 2 ∨ p.phase = 4) : ((pxRd p bs).phase = p.phase ∧ p.next < (pxRd p bs).next ∧ (pxRd p bs).next < 4) ∨ (p.phase = 2 ∧ (pxRd p bs).phase = 3) ∨ (p.phase = 4 ∧ (pxRd p bs).phase = 5) ∨ (pxRd p bs).phase = 6 := by
  have hs : ∀ n : Int, n ≤ skip p n := fun n => by unfold skip; split <;> omega
  unfold pxRd
  simp only
  split
  · split
    · exact .inr (.inr (.inr rfl))
    · rename_i b _
      rcases pxEnd_ph (pxLook { p with next := skip p p.next } (bkOf (bs.getD ({ p with next := skip p p.next } : Pxs).next.toNat bk0) p.ver)) h2 with ⟨a, b, c⟩ | a | a
      · refine .inl ⟨a, ?_, ?_⟩
        · rw [b]
          have e : (pxLook { p with next := skip p p.next } (bkOf (bs.getD ({ p with next := skip p p.next } : Pxs).next.toNat bk0) p.ver)).next = skip p (skip p p.next + 1) := rfl
          rw [e]
          have := hs p.next
          have := hs (skip p p.next + 1)
          omega
        · rw [b]; exact c
      · exact .inr (.inl a)
      · exact .inr (.inr (.inl a))
  · rename_i hn
    rcases pxEnd_ph { p with next := skip p p.next } h2 with ⟨a, b, c⟩ | a | a
    · exact absurd c hn
    · exact .inr (.inl a)
    · exact .inr (.inr (.inl a))

theorem mOf_1 {p : Pxs} (h : p.phase = 1) : mOf p = 13 := if_pos h
theorem mOf_2 {p : Pxs} (h : p.phase = 2) : mOf p = 12 - p.next.toNat := by unfold mOf; rw [if_neg (by omega), if_pos h]
theorem mOf_3 {p : Pxs} (h : p.phase = 3) : mOf p = 6 := by unfold mOf; rw [if_neg (by omega), if_neg (by omega), if_pos h]
theorem mOf_4 {p : Pxs} (h : p.phase = 4) : mOf p = 5 - p.next.toNat := by unfold mOf; rw [if_neg (by omega), if_neg (by omega), if_neg (by omega), if_pos h]
theorem mOf_5 {p : Pxs} (h : 5 ≤ p.phase) : mOf p = 0 := by unfold mOf; rw [if_neg (by omega), if_neg (by omega), if_neg (by omega), if_neg (by omega)]
theorem px_parts {p : Pxs} (h : pxB p = true) : (0 ≤ p.host ∧ p.host ≤ 3) ∧ (0 ≤ p.ver ∧ p.ver ≤ 1000000) ∧ (1 ≤ p.phase ∧ p.phase ≤ 6) ∧ (1 ≤ p.ballot ∧ p.ballot ≤ 1000000) ∧ (0 ≤ p.value ∧ p.value ≤ 2147483647) ∧ (0 ≤ p.next ∧ p.next ≤ 4) := by
  obtain ⟨a, b, c, d, e, f, g, _⟩ := pxB_iff.1 h
  exact ⟨a, b, c, d, f, g⟩
theorem mOf_le {p : Pxs} (h : pxB p = true) : mOf p ≤ 13 := by
  unfold mOf; split; · omega
  split; · omega
  split; · omega
  split <;> omega
theorem step_kinds {p : Pxs} {bs : List Bk} (hp : pxB p = true) (h5 : p.phase < 5) : ((p.phase = 2 ∨ p.phase = 4) ∧ pxStepP p bs = (pxRd p bs, bs)) ∨ ((p.phase = 1 ∨ p.phase = 3) ∧ pxNo p (pxOwn p bs) ∧ pxStepP p bs = ({ p with phase := 6 }, bs)) ∨
    ((p.phase = 1 ∨ p.phase = 3) ∧ ¬ pxNo p (pxOwn p bs) ∧ pxStepP p bs = (pxW1 p (pxOwn p bs), bs.set p.host.toNat (pxW2 p (pxOwn p bs)))) := by
  obtain ⟨_, _, ⟨h1, h6⟩, _⟩ := px_parts hp
  rcases (show p.phase = 1 ∨ p.phase = 2 ∨ p.phase = 3 ∨ p.phase = 4 by omega) with e | e | e | e
  · by_cases c : pxNo p (pxOwn p bs)
    · exact .inr (.inl ⟨.inl e, c, pxStepP_no bs (.inl e) c⟩)
    · exact .inr (.inr ⟨.inl e, c, pxStepP_wr bs (.inl e) c⟩)
  · exact .inl ⟨.inl e, pxStepP_rd bs (.inl e)⟩
  · by_cases c : pxNo p (pxOwn p bs)
    · exact .inr (.inl ⟨.inr e, c, pxStepP_no bs (.inr e) c⟩)
    · exact .inr (.inr ⟨.inr e, c, pxStepP_wr bs (.inr e) c⟩)
  · exact .inl ⟨.inr e, pxStepP_rd bs (.inr e)⟩
theorem w1_ph1 {p : Pxs} {o : Bk} (h : p.phase = 1) : (pxW1 p o).phase = 2 ∧ (pxW1 p o).next = 0 := by unfold pxW1; rw [if_pos h]; exact ⟨rfl, rfl⟩
theorem w1_ph3 {p : Pxs} {o : Bk} (h : p.phase = 3) : (pxW1 p o).phase = 4 ∧ (pxW1 p o).next = 0 := by unfold pxW1; rw [if_neg (by omega)]; exact ⟨rfl, rfl⟩
theorem w1_at (p : Pxs) (o : Bk) : (pxW1 p o).host = p.host ∧ (pxW1 p o).ballot = p.ballot ∧ (pxW1 p o).ver = p.ver := by unfold pxW1; split <;> exact ⟨rfl, rfl, rfl⟩
theorem step_less {p : Pxs} {bs : List Bk} (hp : pxB p = true) (h5 : p.phase < 5) : mOf (pxStepP p bs).1 < mOf p := by
  obtain ⟨_, _, _, _, _, n0, n4⟩ := px_parts hp
  rcases step_kinds (bs := bs) hp h5 with ⟨e, h⟩ | ⟨e, _, h⟩ | ⟨e, _, h⟩ <;> rw [h]
  · show mOf (pxRd p bs) < mOf p
    rcases pxRd_ph p bs e with ⟨a, b, c⟩ | ⟨a, b⟩ | ⟨a, b⟩ | a
    · rcases e with e | e
      · rw [mOf_2 e, mOf_2 (a.trans e)]; omega
      · rw [mOf_4 e, mOf_4 (a.trans e)]; omega
    · rw [mOf_2 a, mOf_3 b]; omega
    · rw [mOf_4 a, mOf_5 (by omega)]; omega
    · rw [mOf_5 (p := pxRd p bs) (by omega)]
      rcases e with e | e
      · rw [mOf_2 e]; omega
      · rw [mOf_4 e]; omega
  · rw [mOf_5 (p := { p with phase := 6 }) (by show (5 : Int) ≤ 6; decide)]
    rcases e with e | e
    · rw [mOf_1 e]; omega
    · rw [mOf_3 e]; omega
  · show mOf (pxW1 p (pxOwn p bs)) < mOf p
    rcases e with e | e
    · obtain ⟨a, b⟩ := w1_ph1 (o := pxOwn p bs) e
      rw [mOf_1 e, mOf_2 a]; omega
    · obtain ⟨a, b⟩ := w1_ph3 (o := pxOwn p bs) e
      rw [mOf_3 e, mOf_4 a, b]; decide
theorem own_set {bs : List Bk} {p : Pxs} {y : Bk} (h4 : bs.length = 4) (hh : 0 ≤ p.host ∧ p.host ≤ 3) : ownK p (bs.set p.host.toNat y) = y := by
  have : p.host.toNat < bs.length := by omega
  simp [ownK, this]
theorem wrote_iff {p : Pxs} {bs : List Bk} (hp : pxB p = true) (hb : bksB bs = true) (h5 : p.phase < 5) (hj : p.phase = 2 ∨ p.phase = 3 → (ownK p bs).bal < p.ballot) :
    (wroteB p.phase (pxStepP p bs).1.phase = true ∧ ownK p (pxStepP p bs).2 ≠ ownK p bs) ∨ (wroteB p.phase (pxStepP p bs).1.phase = false ∧ ownK p (pxStepP p bs).2 = ownK p bs) := by
  obtain ⟨h4, hk⟩ := bksB_parts hb
  obtain ⟨hh, _, _, hbal, _, n0, n4⟩ := px_parts hp
  rcases step_kinds (bs := bs) hp h5 with ⟨e, h⟩ | ⟨e, _, h⟩ | ⟨e, c, h⟩ <;> rw [h]
  · refine .inr ⟨?_, rfl⟩
    show wroteB p.phase (pxRd p bs).phase = false
    rcases e with e | e <;> simp [wroteB, e]
  · refine .inr ⟨?_, rfl⟩
    show wroteB p.phase 6 = false
    rcases e with e | e <;> simp [wroteB]
  · refine .inl ⟨?_, ?_⟩
    · show wroteB p.phase (pxW1 p (pxOwn p bs)).phase = true
      rcases e with e | e
      · rw [(w1_ph1 e).1, e]; rfl
      · rw [(w1_ph3 e).1, e]; rfl
    · show ownK p (bs.set p.host.toNat (pxW2 p (pxOwn p bs))) ≠ ownK p bs
      rw [own_set h4 hh]
      simp only [pxNo, not_or, not_and] at c
      obtain ⟨c1, c2, c3, c4⟩ := c
      intro heq
      have hO : pxOwn p bs = bkOf (ownK p bs) p.ver := rfl
      rcases e with e | e
      · have c3' := c3 e
        rw [hO] at c1 c2 c3' heq
        unfold pxW2 at heq
        rw [if_pos e] at heq
        have e1 := congrArg Bk.ver heq
        have e2 := congrArg Bk.mbal heq
        simp only at e1 e2
        unfold bkOf at c1 c2 c3'
        split at c3'
        · omega
        · rename_i hv
          rw [if_neg hv] at c2
          omega
      · have c4' := c4 e
        rw [hO] at c1 c2 c4' heq
        unfold pxW2 at heq
        rw [if_neg (by omega)] at heq
        have e2 := congrArg Bk.bal heq
        simp only at e2
        have := hj (.inr e)
        omega
theorem own_right {p : Pxs} {bs : List Bk} (hp : pxB p = true) (hb : bksB bs = true) : bkB (ownK p bs) = true := by
  obtain ⟨h4, hk⟩ := bksB_parts hb
  obtain ⟨hh, _⟩ := px_parts hp
  exact hk p.host.toNat (by omega)
theorem ElOK.step {h : Int} {s : Est} (k : ElOK h s) (h5 : s.p.phase < 5) : ElOK h (elStep s) := by
  obtain ⟨h4, hk⟩ := bksB_parts k.b
  obtain ⟨hh, hv, _, hbal, _, n0, n4⟩ := px_parts k.p
  obtain ⟨q1, q2⟩ := px_right k.p k.b
  obtain ⟨e1, e2⟩ := step_p s
  have hhost : (pxStepP s.p s.bs).1.host = s.p.host ∧ (pxStepP s.p s.bs).1.ballot = s.p.ballot := by
    rcases step_kinds (bs := s.bs) k.p h5 with ⟨e, hq⟩ | ⟨e, _, hq⟩ | ⟨e, _, hq⟩ <;> rw [hq]
    · exact ⟨(pxRd_at _ _).1, (pxRd_at _ _).2.1⟩
    · exact ⟨rfl, rfl⟩
    · exact ⟨(w1_at _ _).1, (w1_at _ _).2.1⟩
  have hj : (elStep s).p.phase = 2 ∨ (elStep s).p.phase = 3 → (ownK (elStep s).p (elStep s).bs).bal < (elStep s).p.ballot := by
    rw [e1, e2, hhost.2]
    intro hph
    have hO : ownK (pxStepP s.p s.bs).1 (pxStepP s.p s.bs).2 = ownK s.p (pxStepP s.p s.bs).2 := by unfold ownK; rw [hhost.1]
    rw [hO]
    rcases step_kinds (bs := s.bs) k.p h5 with ⟨e, hq⟩ | ⟨e, _, hq⟩ | ⟨e, c, hq⟩ <;> rw [hq] at hph ⊢
    · rcases e with e | e
      · exact k.j (.inl e)
      · rcases pxRd_ph s.p s.bs (.inr e) with ⟨a, _⟩ | ⟨a, _⟩ | ⟨_, a⟩ | a
        · have : (pxRd s.p s.bs).phase = 2 ∨ (pxRd s.p s.bs).phase = 3 := hph
          omega
        · omega
        · have : (pxRd s.p s.bs).phase = 2 ∨ (pxRd s.p s.bs).phase = 3 := hph
          omega
        · have : (pxRd s.p s.bs).phase = 2 ∨ (pxRd s.p s.bs).phase = 3 := hph
          omega
    · have : (6 : Int) = 2 ∨ (6 : Int) = 3 := hph
      omega
    · rcases e with e | e
      · show (ownK s.p (s.bs.set s.p.host.toNat (pxW2 s.p (pxOwn s.p s.bs)))).bal < s.p.ballot
        rw [own_set h4 hh]
        unfold pxW2
        rw [if_pos e]
        show (pxOwn s.p s.bs).bal < s.p.ballot
        have hr : bkB (pxOwn s.p s.bs) = true := bkOf_right (own_right k.p k.b) hv
        obtain ⟨_, _, b3, _⟩ := bkB_iff.1 hr
        simp only [pxNo, not_or, not_and] at c
        have := c.2.1
        have := c.2.2.1 e
        omega
      · have : (pxW1 s.p (pxOwn s.p s.bs)).phase = 2 ∨ (pxW1 s.p (pxOwn s.p s.bs)).phase = 3 := hph
        rw [(w1_ph3 e).1] at this
        omega
  have hd : diskB (elStep s).ss (elStep s).xs = true ∧ (elStep s).xs.length < 200 := by
    unfold elStep
    split
    · refine ⟨w_right k.d k.l hh.1 hh.2 (by omega) (by omega) (by rw [encB_size]; decide), ?_⟩
      exact Nat.lt_of_le_of_lt (wX_len _ _ _ _) k.l
    · exact ⟨k.d, k.l⟩
  exact ⟨by rw [e1]; exact q1, by rw [e2]; exact q2, hd.1, hd.2, by rw [e1, hhost.1]; exact k.o, hj⟩
theorem elRun_any {h : Int} : ∀ (n m : Nat) (s : Est), ElOK h s → mOf s.p ≤ n → mOf s.p ≤ m → elRun n s = elRun m s
  | 0, 0, _, _, _, _ => rfl
  | 0, m + 1, s, k, hn, _ => by
    have : ¬ s.p.phase < 5 := fun h5 => by have := step_less (bs := s.bs) k.p h5; omega
    rw [elRun, elRun, if_neg this]
  | n + 1, 0, s, k, _, hm => by
    have : ¬ s.p.phase < 5 := fun h5 => by have := step_less (bs := s.bs) k.p h5; omega
    rw [elRun, elRun, if_neg this]
  | n + 1, m + 1, s, k, hn, hm => by
    rw [elRun, elRun]
    by_cases h5 : s.p.phase < 5
    · rw [if_pos h5, if_pos h5]
      have := step_less (bs := s.bs) k.p h5
      have e := (step_p s).1
      exact elRun_any n m (elStep s) (k.step h5) (by rw [e]; omega) (by rw [e]; omega)
    · rw [if_neg h5, if_neg h5]
theorem elEnd_on {h : Int} {s : Est} (k : ElOK h s) (h5 : s.p.phase < 5) : elEnd (elStep s) = elEnd s := by
  have := step_less (bs := s.bs) k.p h5
  have hm := mOf_le k.p
  have e := (step_p s).1
  show elRun 13 (elStep s) = elRun 13 s
  rw [show elRun 13 s = elRun 12 (elStep s) from by rw [elRun, if_pos h5]]
  exact elRun_any 13 12 (elStep s) (k.step h5) (by rw [e]; omega) (by rw [e]; omega)
theorem elEnd_at {s : Est} (h5 : ¬ s.p.phase < 5) : elEnd s = s := by
  show elRun 13 s = s
  rw [elRun, if_neg h5]
theorem elRun_ok {h : Int} : ∀ (n : Nat) (s : Est), ElOK h s → ElOK h (elRun n s)
  | 0, _, k => k
  | n + 1, s, k => by
    rw [elRun]
    split
    · exact elRun_ok n _ (k.step (by assumption))
    · exact k
def ldOf (ss : List ByteArray) (xs : List Wr) (h : Int) : Ld := ldK (readV ss xs h 0)
def bksOf (ss : List ByteArray) (xs : List Wr) (h : Int) : List Bk := [bdK (readV ss xs h 1), bdK (readV ss xs h 2), bdK (readV ss xs h 3), bdK (readV ss xs h 4)]
theorem bdK_right (t : ByteArray) : bkB (bdK t) = true := by
  by_cases h : bdB t = true
  · exact bd_right h
  · rw [Bool.not_eq_true] at h; rw [bd_no h]; rfl
theorem bksOf_right (ss : List ByteArray) (xs : List Wr) (h : Int) : bksB (bksOf ss xs h) = true := by
  simp [bksB, bksOf, bdK_right]
def leC (ss : List ByteArray) (xs : List Wr) (h : Int) : Int := if hostC ss xs h = 0 then (if xs.length = 200 then 7 else 0) else hostC ss xs h
theorem leC_host {ss : List ByteArray} {xs : List Wr} {h : Int} (e : hostC ss xs h ≠ 0) : leC ss xs h = hostC ss xs h := if_neg e
theorem leC_full {ss : List ByteArray} {xs : List Wr} {h : Int} (e : hostC ss xs h = 0) (l : xs.length = 200) : leC ss xs h = 7 := by rw [leC, if_pos e, if_pos l]
theorem leC_ok {ss : List ByteArray} {xs : List Wr} {h : Int} (e : hostC ss xs h = 0) (l : ¬ xs.length = 200) : leC ss xs h = 0 := by rw [leC, if_pos e, if_neg l]
theorem leC_eq {ss : List ByteArray} {xs : List Wr} {h : Int} (e : leC ss xs h = 0) : diskB ss xs = true ∧ (0 ≤ h ∧ h ≤ 3) ∧ xs.length < 200 := by
  by_cases e0 : hostC ss xs h = 0
  · obtain ⟨ed, e1, e2⟩ := hostC_eq e0
    by_cases l : xs.length = 200
    · rw [leC_full e0 l] at e; cases e
    · have := (diskB_len ed).2
      exact ⟨ed, ⟨e1, e2⟩, by omega⟩
  · rw [leC_host e0] at e; exact absurd e e0
structure Ans where
  ss : List ByteArray
  xs : List Wr
  l : Ld
  c : Int
def leadOf (v : Int) (value : Int) : Ld := ⟨v, value % 1024, value / 1024⟩
def elTry (ss : List ByteArray) (xs : List Wr) (h o g : Int) : Pxs := ⟨h, (ldOf ss xs h).ver + 1, 1, nxBal h ((ldOf ss xs h).ver + 1) (bksOf ss xs h), 1024 * g + o, 0, 0, 0⟩
def elFrom (ss : List ByteArray) (xs : List Wr) (h o g : Int) : Est := ⟨ss, xs, elTry ss xs h o g, bksOf ss xs h⟩
def elLast (h : Int) (old : Ld) (e : Est) : Ans :=
  if e.p.phase = 5 ∧ ldB (leadOf (old.ver + 1) e.p.value) = true then ⟨wS e.ss e.xs h 0 (encL (leadOf (old.ver + 1) e.p.value)), wX e.xs h 0 (encL (leadOf (old.ver + 1) e.p.value)), leadOf (old.ver + 1) e.p.value, 0⟩
  else ⟨e.ss, e.xs, old, 19⟩
def elMany (ss : List ByteArray) (xs : List Wr) (h : Int) : Bool := decide (1000000 < (ldOf ss xs h).ver + 1) || decide (1000000 < nxBal h ((ldOf ss xs h).ver + 1) (bksOf ss xs h))
def elA (ss : List ByteArray) (xs : List Wr) (h o g : Int) : Ans :=
  if leC ss xs h = 0 then
    (if (inB o 0 3 && inB g 1 1000000) = true then
      (if elMany ss xs h = true then ⟨ss, xs, ldOf ss xs h, 6⟩ else elLast h (ldOf ss xs h) (elEnd (elFrom ss xs h o g)))
    else ⟨[], [], ld0, 4⟩)
  else ⟨[], [], ld0, leC ss xs h⟩
theorem elA_room {ss : List ByteArray} {xs : List Wr} {h o g : Int} (e : leC ss xs h ≠ 0) : elA ss xs h o g = ⟨[], [], ld0, leC ss xs h⟩ := if_neg e
theorem elA_range {ss : List ByteArray} {xs : List Wr} {h o g : Int} (e : leC ss xs h = 0) (e1 : (inB o 0 3 && inB g 1 1000000) = false) : elA ss xs h o g = ⟨[], [], ld0, 4⟩ := by rw [elA, if_pos e, if_neg (by simp [e1])]
theorem elA_many {ss : List ByteArray} {xs : List Wr} {h o g : Int} (e : leC ss xs h = 0) (e1 : (inB o 0 3 && inB g 1 1000000) = true) (e2 : elMany ss xs h = true) : elA ss xs h o g = ⟨ss, xs, ldOf ss xs h, 6⟩ := by rw [elA, if_pos e, if_pos e1, if_pos e2]
theorem elA_end {ss : List ByteArray} {xs : List Wr} {h o g : Int} (e : leC ss xs h = 0) (e1 : (inB o 0 3 && inB g 1 1000000) = true) (e2 : elMany ss xs h = false) : elA ss xs h o g = elLast h (ldOf ss xs h) (elEnd (elFrom ss xs h o g)) := by rw [elA, if_pos e, if_pos e1, if_neg (by simp [e2])]
theorem elFrom_ok {ss : List ByteArray} {xs : List Wr} {h o g : Int} (e : leC ss xs h = 0) (e1 : (inB o 0 3 && inB g 1 1000000) = true) (e2 : elMany ss xs h = false) : ElOK h (elFrom ss xs h o g) := by
  obtain ⟨ed, ⟨h0, h3⟩, el⟩ := leC_eq e
  simp only [elMany, Bool.or_eq_false_iff, decide_eq_false_iff_not] at e2
  simp only [inB, Bool.and_eq_true, decide_eq_true_eq] at e1
  have hl := (ldB_lo (ld_right (readV ss xs h 0))).1
  have hl' : 0 ≤ (ldOf ss xs h).ver ∧ (ldOf ss xs h).ver ≤ 1000000 := hl
  obtain ⟨n, rfl⟩ : ∃ n : Nat, h = n := ⟨h.toNat, by omega⟩
  have hm := nxBal_mod (bksOf ss xs n) (h := n) (by omega) ((ldOf ss xs n).ver + 1)
  have hg := nxBal_gt (bs := bksOf ss xs n) n 0 (by simp [bksOf]) ((ldOf ss xs n).ver + 1)
  have hb0 : 0 ≤ (bkOf ((bksOf ss xs n).getD 0 bk0) ((ldOf ss xs n).ver + 1)).mbal := by
    have := bkB_iff.1 (bkOf_right (v := (ldOf ss xs n).ver + 1) (bdK_right (readV ss xs n 1)) (by omega))
    exact this.2.1.1
  refine ⟨?_, bksOf_right ss xs n, ed, el, rfl, ?_⟩
  · refine pxB_iff.2 ⟨⟨h0, h3⟩, ⟨by show 0 ≤ (ldOf ss xs n).ver + 1; omega, by show (ldOf ss xs n).ver + 1 ≤ 1000000; omega⟩, ⟨by show (1 : Int) ≤ 1; decide, by show (1 : Int) ≤ 6; decide⟩, ⟨?_, ?_⟩, hm, ⟨?_, ?_⟩, ⟨by show (0 : Int) ≤ 0; decide, by show (0 : Int) ≤ 4; decide⟩, ⟨by show (0 : Int) ≤ 0; decide, by show (0 : Int) ≤ 2147483647; decide⟩, by show (0 : Int) ≤ 0; decide, by show (0 : Int) ≤ 1000000; decide⟩
    · show 1 ≤ nxBal n _ _; omega
    · show nxBal n _ _ ≤ 1000000; omega
    · show 0 ≤ 1024 * g + o; omega
    · show 1024 * g + o ≤ 2147483647; omega
  · intro hp
    have : (1 : Int) = 2 ∨ (1 : Int) = 3 := hp
    omega

end Go.Proofs.YtefnapcegeojoaaGreatDoor

namespace Go.Proofs.YtefnapcegeojoaaGreatDoor
open Go.RowKit
set_option linter.unusedVariables false
set_option maxRecDepth 100000

def VarS (w : World) (x : Nat) (p : Pxs) (b s d : Value) (L : Ld) : Prop := w.heap[x]? = some (.cells #[.int .i64 p.host, .int .i64 p.ver, .int .i64 p.phase, .int .i64 p.ballot, .int .i64 p.value, .int .i64 p.next, .int .i64 p.best, .int .i64 p.bestBal, b, s, d, .int .i64 L.ver, .int .i64 L.own, .int .i64 L.gen] 68 (0, 0))
theorem VarS.lt {w : World} {x : Nat} {p : Pxs} {b s d : Value} {L : Ld} (k : VarS w x p b s d L) : x < w.heap.size := (Array.getElem?_eq_some_iff.1 k).1
theorem VarS.px {w : World} {x : Nat} {p : Pxs} {b s d : Value} {L : Ld} (k : VarS w x p b s d L) : w.cell? ⟨x, 0, none⟩ = some (.int .i64 p.host) ∧ w.cell? ⟨x, 1, none⟩ = some (.int .i64 p.ver) ∧ w.cell? ⟨x, 2, none⟩ = some (.int .i64 p.phase) ∧ w.cell? ⟨x, 3, none⟩ = some (.int .i64 p.ballot) ∧ w.cell? ⟨x, 4, none⟩ = some (.int .i64 p.value) ∧ w.cell? ⟨x, 5, none⟩ = some (.int .i64 p.next) ∧ w.cell? ⟨x, 6, none⟩ = some (.int .i64 p.best) ∧ w.cell? ⟨x, 7, none⟩ = some (.int .i64 p.bestBal) :=
  ⟨by rw [Joins.cell_of_block k]; rfl, by rw [Joins.cell_of_block k]; rfl, by rw [Joins.cell_of_block k]; rfl, by rw [Joins.cell_of_block k]; rfl, by rw [Joins.cell_of_block k]; rfl, by rw [Joins.cell_of_block k]; rfl, by rw [Joins.cell_of_block k]; rfl, by rw [Joins.cell_of_block k]; rfl⟩
theorem VarS.rest {w : World} {x : Nat} {p : Pxs} {b s d : Value} {L : Ld} (k : VarS w x p b s d L) : w.cell? ⟨x, 8, none⟩ = some b ∧ w.cell? ⟨x, 9, none⟩ = some s ∧ w.cell? ⟨x, 10, none⟩ = some d ∧ w.cell? ⟨x, 11, none⟩ = some (.int .i64 L.ver) ∧ w.cell? ⟨x, 12, none⟩ = some (.int .i64 L.own) ∧ w.cell? ⟨x, 13, none⟩ = some (.int .i64 L.gen) :=
  ⟨by rw [Joins.cell_of_block k]; rfl, by rw [Joins.cell_of_block k]; rfl, by rw [Joins.cell_of_block k]; rfl, by rw [Joins.cell_of_block k]; rfl, by rw [Joins.cell_of_block k]; rfl, by rw [Joins.cell_of_block k]; rfl⟩
theorem VarS.free {w : World} {x : Nat} {p : Pxs} {b s d : Value} {L : Ld} (k : VarS w x p b s d L) (i : Nat) : w.frozen? ⟨x, i, none⟩ = false := Joins.unfrozen_of_block k i
theorem VarS.below {w w' : World} {x : Nat} {p : Pxs} {b s d : Value} {L : Ld} (k : VarS w x p b s d L) (hb : Below w.heap.size w w') : VarS w' x p b s d L := by
  unfold VarS; rw [hb.block x k.lt]; exact k
theorem VarS.new (w : World) (p : Pxs) (b s d : Value) (L : Ld) : VarS (w.alloc (.cells #[.int .i64 p.host, .int .i64 p.ver, .int .i64 p.phase, .int .i64 p.ballot, .int .i64 p.value, .int .i64 p.next, .int .i64 p.best, .int .i64 p.bestBal, b, s, d, .int .i64 L.ver, .int .i64 L.own, .int .i64 L.gen] 68)) w.heap.size p b s d L := heap_alloc_new w _
abbrev set8 (w : World) (x : Nat) (q : Pxs) : World := (((((((w.setCell ⟨x, 0, none⟩ (.int .i64 q.host)).setCell ⟨x, 1, none⟩ (.int .i64 q.ver)).setCell ⟨x, 2, none⟩ (.int .i64 q.phase)).setCell ⟨x, 3, none⟩ (.int .i64 q.ballot)).setCell ⟨x, 4, none⟩ (.int .i64 q.value)).setCell ⟨x, 5, none⟩ (.int .i64 q.next)).setCell ⟨x, 6, none⟩ (.int .i64 q.best)).setCell ⟨x, 7, none⟩ (.int .i64 q.bestBal)
theorem VarS.set0 {w : World} {x : Nat} {p : Pxs} {b s d : Value} {L : Ld} (k : VarS w x p b s d L) (n : Int) : VarS (w.setCell ⟨x, 0, none⟩ (.int .i64 n)) x { p with host := n } b s d L := set_heap (i := 0) k _
theorem VarS.set1 {w : World} {x : Nat} {p : Pxs} {b s d : Value} {L : Ld} (k : VarS w x p b s d L) (n : Int) : VarS (w.setCell ⟨x, 1, none⟩ (.int .i64 n)) x { p with ver := n } b s d L := set_heap (i := 1) k _
theorem VarS.set2 {w : World} {x : Nat} {p : Pxs} {b s d : Value} {L : Ld} (k : VarS w x p b s d L) (n : Int) : VarS (w.setCell ⟨x, 2, none⟩ (.int .i64 n)) x { p with phase := n } b s d L := set_heap (i := 2) k _
theorem VarS.set3 {w : World} {x : Nat} {p : Pxs} {b s d : Value} {L : Ld} (k : VarS w x p b s d L) (n : Int) : VarS (w.setCell ⟨x, 3, none⟩ (.int .i64 n)) x { p with ballot := n } b s d L := set_heap (i := 3) k _
theorem VarS.set4 {w : World} {x : Nat} {p : Pxs} {b s d : Value} {L : Ld} (k : VarS w x p b s d L) (n : Int) : VarS (w.setCell ⟨x, 4, none⟩ (.int .i64 n)) x { p with value := n } b s d L := set_heap (i := 4) k _
theorem VarS.set5 {w : World} {x : Nat} {p : Pxs} {b s d : Value} {L : Ld} (k : VarS w x p b s d L) (n : Int) : VarS (w.setCell ⟨x, 5, none⟩ (.int .i64 n)) x { p with next := n } b s d L := set_heap (i := 5) k _
theorem VarS.set6 {w : World} {x : Nat} {p : Pxs} {b s d : Value} {L : Ld} (k : VarS w x p b s d L) (n : Int) : VarS (w.setCell ⟨x, 6, none⟩ (.int .i64 n)) x { p with best := n } b s d L := set_heap (i := 6) k _
theorem VarS.set7 {w : World} {x : Nat} {p : Pxs} {b s d : Value} {L : Ld} (k : VarS w x p b s d L) (n : Int) : VarS (w.setCell ⟨x, 7, none⟩ (.int .i64 n)) x { p with bestBal := n } b s d L := set_heap (i := 7) k _
theorem VarS.put {w : World} {x : Nat} {p : Pxs} {b s d : Value} {L : Ld} (k : VarS w x p b s d L) (q : Pxs) : VarS (set8 w x q) x q b s d L := (((((((k.set0 q.host).set1 q.ver).set2 q.phase).set3 q.ballot).set4 q.value).set5 q.next).set6 q.best).set7 q.bestBal
theorem VarS.row {w : World} {x : Nat} {p : Pxs} {b s d : Value} {L : Ld} (k : VarS w x p b s d L) (b' : Value) : VarS (w.setCell ⟨x, 8, none⟩ b') x p b' s d L := set_heap (i := 8) k b'
theorem VarS.disk {w : World} {x : Nat} {p : Pxs} {b s d : Value} {L : Ld} (k : VarS w x p b s d L) (s' d' : Value) : VarS ((w.setCell ⟨x, 9, none⟩ s').setCell ⟨x, 10, none⟩ d') x p b s' d' L := set_heap (i := 10) (set_heap (i := 9) k s') d'
theorem VarS.lead {w : World} {x : Nat} {p : Pxs} {b s d : Value} {L : Ld} (k : VarS w x p b s d L) (M : Ld) : VarS (((w.setCell ⟨x, 11, none⟩ (.int .i64 M.ver)).setCell ⟨x, 12, none⟩ (.int .i64 M.own)).setCell ⟨x, 13, none⟩ (.int .i64 M.gen)) x p b s d M := set_heap (i := 13) (set_heap (i := 12) (set_heap (i := 11) k (.int .i64 M.ver)) (.int .i64 M.own)) (.int .i64 M.gen)

structure Sto (W : World) (B x : Nat) (s : Est) (L : Ld) (bo : Option Addr) (ba : Nat) (ao : Option Addr) (ca : Nat) (qo : Option Addr) (cb : Nat) : Prop where
  v : VarS W x s.p (.slice bo 4 ba) (.slice ao s.ss.length ca) (.slice qo s.xs.length cb) L
  b : OwnR W B 96 4 (.slice bo 4 ba) 4 (bksV s.bs)
  d : OwnD W B ao s.ss.length ca qo s.xs.length cb s.ss s.xs
  k : B ≤ x
theorem Sto.below {W W' : World} {B x : Nat} {s : Est} {L : Ld} {bo ao qo : Option Addr} {ba ca cb : Nat} (h : Sto W B x s L bo ba ao ca qo cb) (hb : Below W.heap.size W W') : Sto W' B x s L bo ba ao ca qo cb := ⟨h.v.below hb, h.b.below hb, h.d.below hb, h.k⟩
theorem Sto.bks {W : World} {B x : Nat} {s : Est} {L : Ld} {bo ao qo : Option Addr} {ba ca cb : Nat} (h : Sto W B x s L bo ba ao ca qo cb) (h4 : s.bs.length = 4) : Bks W bo s.bs :=
  ownBks (B := B) (e := 96) (cap := ba) (by rw [h4]; exact h.b)
theorem rowX {W W' : World} {B x n : Nat} {p : Pxs} {b s d v : Value} {L : Ld} {xs : List Value} (hv : VarS W x p b s d L) (h : OwnR W B 96 4 v n xs) (hk : Keep (fun j => j = x) W W') : OwnR W' B 96 4 v n xs :=
  h.keep hk (fun g hg e => by have e' : g = x := e; subst e'; exact h.other hv (by decide) hg)
theorem diskX {W W' : World} {B x n m ca cb : Nat} {p : Pxs} {b s d : Value} {L : Ld} {ao bo : Option Addr} {ss : List ByteArray} {xs : List Wr} (hv : VarS W x p b s d L) (h : OwnD W B ao n ca bo m cb ss xs) (hk : Keep (fun j => j = x) W W') : OwnD W' B ao n ca bo m cb ss xs :=
  h.keep hk (fun g hg e => by have e' : g = x := e; subst e'; exact h.other hv (by decide) (by decide) hg)
theorem Sto.owns {W W' : World} {B x : Nat} {s : Est} {L : Ld} {bo ao qo : Option Addr} {ba ca cb : Nat} (h : Sto W B x s L bo ba ao ca qo cb) (hk : Keep (fun j => j = x) W W') : OwnR W' B 96 4 (.slice bo 4 ba) 4 (bksV s.bs) ∧ OwnD W' B ao s.ss.length ca qo s.xs.length cb s.ss s.xs :=
  ⟨rowX h.v h.b hk, diskX h.v h.d hk⟩
theorem keep_set8 (W : World) (x : Nat) (q : Pxs) : Keep (fun j => j = x) W (set8 W x q) := keep8 (Keep.refl (fun j => j = x) W) (show x = x from rfl) _ _ _ _ _ _ _ _
theorem keep_row (W : World) (x : Nat) (b : Value) : Keep (fun j => j = x) W (W.setCell ⟨x, 8, none⟩ b) := (Keep.refl (fun j => j = x) W).setCell (p := ⟨x, 8, none⟩) rfl b
theorem keep_disk (W : World) (x : Nat) (a b : Value) : Keep (fun j => j = x) W ((W.setCell ⟨x, 9, none⟩ a).setCell ⟨x, 10, none⟩ b) := ((Keep.refl (fun j => j = x) W).setCell (p := ⟨x, 9, none⟩) rfl a).setCell (p := ⟨x, 10, none⟩) rfl b
theorem keep_lead (W : World) (x : Nat) (a b c : Value) : Keep (fun j => j = x) W (((W.setCell ⟨x, 11, none⟩ a).setCell ⟨x, 12, none⟩ b).setCell ⟨x, 13, none⟩ c) := (((Keep.refl (fun j => j = x) W).setCell (p := ⟨x, 11, none⟩) rfl a).setCell (p := ⟨x, 12, none⟩) rfl b).setCell (p := ⟨x, 13, none⟩) rfl c
theorem Sto.try {W : World} {B x : Nat} {s : Est} {L : Ld} {bo ao qo : Option Addr} {ba ca cb : Nat} (h : Sto W B x s L bo ba ao ca qo cb) (q : Pxs) : Sto (set8 W x q) B x ⟨s.ss, s.xs, q, s.bs⟩ L bo ba ao ca qo cb :=
  ⟨h.v.put q, (h.owns (keep_set8 W x q)).1, (h.owns (keep_set8 W x q)).2, h.k⟩
theorem Sto.step {W W' : World} {B x : Nat} {s : Est} {L : Ld} {bo ao qo ro : Option Addr} {ba ca cb ra : Nat} {bs : List Bk} (h : Sto W B x s L bo ba ao ca qo cb) (hb : Below W.heap.size W W') (ho : OwnR W' W.heap.size 96 4 (.slice ro 4 ra) 4 (bksV bs)) (q : Pxs) :
    Sto ((set8 W' x q).setCell ⟨x, 8, none⟩ (.slice ro 4 ra)) B x ⟨s.ss, s.xs, q, bs⟩ L ro ra ao ca qo cb ∧ Keep (fun j => j = x) W ((set8 W' x q).setCell ⟨x, 8, none⟩ (.slice ro 4 ra)) := by
  have hk : Keep (fun j => j = x) W' ((set8 W' x q).setCell ⟨x, 8, none⟩ (.slice ro 4 ra)) := (keep_set8 W' x q).trans (keep_row _ x _)
  have h' := h.below hb
  have ho' : OwnR W' B 96 4 (.slice ro 4 ra) 4 (bksV bs) := ho.base (Nat.le_trans h.k (Nat.le_of_lt h.v.lt))
  exact ⟨⟨(h'.v.put q).row _, rowX h'.v ho' hk, (h'.owns hk).2, h.k⟩, (Keep.of_below hb).trans hk⟩
theorem Sto.write {W W' : World} {B x : Nat} {s : Est} {L : Ld} {bo ao qo ro so : Option Addr} {ba ca cb ra sa : Nat} {S : List ByteArray} {X : List Wr} (h : Sto W B x s L bo ba ao ca qo cb) (hb : Below W.heap.size W W') (ho : OwnD W' W.heap.size ro S.length ra so X.length sa S X) :
    Sto ((W'.setCell ⟨x, 9, none⟩ (.slice ro S.length ra)).setCell ⟨x, 10, none⟩ (.slice so X.length sa)) B x ⟨S, X, s.p, s.bs⟩ L bo ba ro ra so sa ∧ Keep (fun j => j = x) W ((W'.setCell ⟨x, 9, none⟩ (.slice ro S.length ra)).setCell ⟨x, 10, none⟩ (.slice so X.length sa)) := by
  have hk := keep_disk W' x (.slice ro S.length ra) (.slice so X.length sa)
  have h' := h.below hb
  have ho' : OwnD W' B ro S.length ra so X.length sa S X := ho.base (Nat.le_trans h.k (Nat.le_of_lt h.v.lt))
  exact ⟨⟨h'.v.disk _ _, (h'.owns hk).1, diskX h'.v ho' hk, h.k⟩, (Keep.of_below hb).trans hk⟩
theorem Sto.leader {W : World} {B x : Nat} {s : Est} {L : Ld} {bo ao qo : Option Addr} {ba ca cb : Nat} (h : Sto W B x s L bo ba ao ca qo cb) (M : Ld) : Sto (((W.setCell ⟨x, 11, none⟩ (.int .i64 M.ver)).setCell ⟨x, 12, none⟩ (.int .i64 M.own)).setCell ⟨x, 13, none⟩ (.int .i64 M.gen)) B x s M bo ba ao ca qo cb :=
  ⟨h.v.lead M, (h.owns (keep_lead W x _ _ _)).1, (h.owns (keep_lead W x _ _ _)).2, h.k⟩
def StoE (W : World) (B x : Nat) (s : Est) (L : Ld) : Prop := ∃ bo ba ao ca qo cb, Sto W B x s L bo ba ao ca qo cb

end Go.Proofs.YtefnapcegeojoaaGreatDoor

namespace Go.Proofs.YtefnapcegeojoaaGreatDoor
open Go.RowKit
set_option linter.unusedVariables false
set_option maxRecDepth 100000

set_option maxHeartbeats 1600000 in
theorem own_any (B x : Nat) (s : Est) (L : Ld) (bo ao qo : Option Addr) (ba ca cb : Nat) (w : World) (h4 : s.bs.length = 4) (hh : 0 ≤ s.p.host ∧ s.p.host ≤ 3) (hs : Sto w B x s L bo ba ao ca qo cb) :
    Calls Tryz.prog 116 #[.pointer (some ⟨x, 0, none⟩)] w fun e w' => e = .returned (bV (ownK s.p s.bs)) ∧ Below w.heap.size w w' := by
  have HA := hide (Joins.below_alloc1 w (.cells #[.int .i64 0, .int .i64 0, .int .i64 0, .int .i64 0] 96))
  have H0 := hide (hs.below (unhide HA))
  have HV := hide (VarB.new0 w 96)
  have hlt := hs.v.lt
  have hne : w.heap.size ≠ x := by omega
  have hne' : x ≠ w.heap.size := by omega
  obtain ⟨k, hk⟩ : ∃ k : Nat, s.p.host = k := ⟨s.p.host.toNat, by omega⟩
  have hk5 : (k : Int) < 4 := by omega
  have hk6 : (0 : Int) ≤ (k : Int) := by omega
  have hkl : k < s.bs.length := by omega
  rw [show ownK s.p s.bs = s.bs.getD k bk0 by unfold ownK; rw [show s.p.host.toNat = k by omega]]
  obtain ⟨y, hy⟩ : ∃ y, s.bs.getD k bk0 = y := ⟨_, rfl⟩
  rw [hy]
  have HY := hide hy
  clear hs hlt hy
  go_enter Tryz.func116, Tryz.ntmps116
  go_upto_region 1 with fail
  revert HA H0 HV
  generalize w.alloc (.cells #[.int .i64 0, .int .i64 0, .int .i64 0, .int .i64 0] 96) = W0
  intro HA H0 HV
  obtain ⟨c0, _⟩ := (unhide H0).v.px
  obtain ⟨c8, _⟩ := (unhide H0).v.rest
  obtain ⟨b, off, rfl, hbl, g0, g1, g2, g3⟩ := ((unhide H0).bks h4).get k hkl
  rw [hk] at c0
  rw [unhide HY] at g0 g1 g2 g3
  obtain ⟨v0, v1, v2, v3⟩ := (unhide HV).cells
  obtain ⟨f0, f1, f2, f3⟩ := (unhide HV).free
  have HE := hide (fun u v x y => below4 (unhide HA) (Nat.le_refl _) 0 1 2 3 u v x y)
  clear hk hkl h4 hh
  go_region
  go_wp2
  exact bodyPost_ret (v := bV y) (by simp [results, Tryz.results116, go_sem, v0, v1, v2, v3]) rfl ⟨rfl, (unhide HE _ _ _ _).drew⟩

theorem ended_iff {p : Pxs} (hp : pxB p = true) : ((p.phase == 5) || (p.phase == 6)) = decide (¬ p.phase < 5) := by
  obtain ⟨_, _, ⟨h1, h6⟩, _⟩ := px_parts hp
  rw [Bool.eq_iff_iff]; simp; omega
set_option maxHeartbeats 1600000 in
theorem hasEnded_any (B x : Nat) (s : Est) (L : Ld) (bo ao qo : Option Addr) (ba ca cb : Nat) (w : World) (hp : pxB s.p = true) (hs : Sto w B x s L bo ba ao ca qo cb) :
    Calls Tryz.prog 80 #[.pointer (some ⟨x, 0, none⟩)] w fun e w' => e = .returned (.bool (decide (¬ s.p.phase < 5))) ∧ w' = w := by
  rw [← ended_iff hp]
  obtain ⟨c0, c1, c2, c3, c4, c5, c6, c7⟩ := hs.v.px
  clear hs hp c0 c1 c3 c4 c5 c6 c7
  go_enter Tryz.func80, Tryz.ntmps80
  by_cases h5 : s.p.phase = 5
  · have b5 : (s.p.phase == 5) = true := by simp [h5]
    clear h5
    go_wp2
    go_ret
    rw [b5]
    exact ⟨rfl, rfl⟩
  · have b5 : (s.p.phase == 5) = false := by simp [h5]
    clear h5
    go_wp2
    go_ret
    rw [b5]
    exact ⟨rfl, rfl⟩

set_option maxHeartbeats 1600000 in
theorem ballotValue_any (y : Ld) (w : World) (hg : 0 ≤ y.gen ∧ y.gen ≤ 1000000) (ho : 0 ≤ y.own ∧ y.own ≤ 3) : Calls Tryz.prog 79 #[lV y] w fun e w' => e = .returned (.int .i64 (1024 * y.gen + y.own)) ∧ Below w.heap.size w w' := by
  have w1 : IntKind.i64.wrap (1024 * y.gen) = 1024 * y.gen := by rw [IntKind.wrap_i64]; omega
  have w2 : IntKind.i64.wrap (1024 * y.gen + y.own) = 1024 * y.gen + y.own := by rw [IntKind.wrap_i64]; omega
  go_enter Tryz.func79, Tryz.ntmps79
  go_wp2
  go_ret
  exact ⟨rfl, Joins.below_alloc1 _ _⟩

set_option maxHeartbeats 1600000 in
theorem leaderOf_any (v x : Int) (w : World) (hx : 0 ≤ x ∧ x ≤ 2147483647) : Calls Tryz.prog 83 #[.int .i64 v, .int .i64 x] w fun e w' => e = .returned (lV (leadOf v x)) ∧ Below w.heap.size w w' := by
  have e1 : Int.tmod x 1024 = x % 1024 := Int.tmod_eq_emod_of_nonneg hx.1
  have e2 : Int.tdiv x 1024 = x / 1024 := Int.tdiv_eq_ediv_of_nonneg hx.1
  have w1 : IntKind.i64.wrap (x % 1024) = x % 1024 := by rw [IntKind.wrap_i64]; omega
  have w2 : IntKind.i64.wrap (x / 1024) = x / 1024 := by rw [IntKind.wrap_i64]; omega
  go_enter Tryz.func83, Tryz.ntmps83
  go_wp2
  exact bodyPost_ret (v := lV (leadOf v x)) (by simp [results, Tryz.results83, go_sem, leadOf]) rfl ⟨rfl, Joins.below_alloc1 _ _⟩

set_option maxHeartbeats 1600000 in
theorem roomFault_any (ao bo : Option Addr) (ca cb : Nat) (ss : List ByteArray) (xs : List Wr) (h : Int) (w : World) (hl : ss.length ≤ maxLen) (hm : xs.length ≤ maxLen) (h1 : Ss w ao ss) (h2 : Ios w bo xs) :
    Calls Tryz.prog 34 #[.agg #[.slice ao ss.length ca, .slice bo xs.length cb], .int .i64 h] w fun e w' => e = .returned (.int .i64 (leC ss xs h)) ∧ Below w.heap.size w w' := by
  have HA := hide (Joins.below_alloc1 w (.cells #[.slice ao ss.length ca, .slice bo xs.length cb] 26))
  have H1 := hide (h1.below (unhide HA))
  have H2 := hide (h2.below (unhide HA))
  have HV := hide (VarD.new w (.slice ao ss.length ca) (.slice bo xs.length cb))
  have HL := hide hl
  have HM := hide hm
  clear h1 h2 hl hm
  go_enter Tryz.func34, Tryz.ntmps34
  go_wp2_with fail
  refine (hostFault_any _ _ _ _ ss xs h _ (unhide HL) (unhide HM) (unhide H1) (unhide H2)).mono ?_
  rintro e w1 ⟨rfl, hb1⟩
  have HB1 := hide (fr (unhide HA) hb1)
  obtain ⟨hc0, hc1⟩ := ((unhide HV).below hb1).cells
  clear hb1
  by_cases e0 : hostC ss xs h = 0
  · have hb : (hostC ss xs h != 0) = false := by simp [e0]
    obtain ⟨ed, _⟩ := hostC_eq e0
    have hl2 := (diskB_len ed).2
    by_cases e2 : xs.length = 200
    · have HX := hide (leC_full e0 e2)
      have hfb : (200 : Int) ≤ (xs.length : Int) := by omega
      clear e2 ed
      go_wp2
      go_ret
      exact ⟨ret_int (unhide HX).symm, unhide HB1⟩
    · have HX := hide (leC_ok e0 e2)
      have hfb : ¬ (200 : Int) ≤ (xs.length : Int) := by omega
      clear e2 ed
      go_wp2
      go_ret
      exact ⟨ret_int (unhide HX).symm, unhide HB1⟩
  · have hb : (hostC ss xs h != 0) = true := by simp [e0]
    have HX := hide (leC_host e0)
    go_wp2
    go_ret
    exact ⟨ret_int (unhide HX).symm, unhide HB1⟩

end Go.Proofs.YtefnapcegeojoaaGreatDoor

namespace Go.Proofs.YtefnapcegeojoaaGreatDoor
open Go.RowKit
set_option linter.unusedVariables false
set_option maxRecDepth 100000

set_option maxHeartbeats 1600000 in
theorem leaderOK_spec (x : Ld) (w : World) : Calls Tryz.prog 50 #[lV x] w fun e w' => e = .returned (.bool (ldB x)) ∧ Below w.heap.size w w' := by
  obtain ⟨v, o, g⟩ := x
  go_enter Tryz.func50, Tryz.ntmps50
  go_wp2_with fail
  refine (l01In_num v 0 1000000 _).mono ?_
  rintro e w1 ⟨rfl, rfl⟩
  by_cases h1 : inB v 0 1000000 = false
  · have hr : Hid (ldB ⟨v, o, g⟩ = false) := hide (by simp [ldB, h1])
    go_wp2
    go_ret
    rw [unhide hr]
    exact ⟨rfl, Joins.below_alloc1 _ _⟩
  rw [Bool.not_eq_false] at h1
  by_cases hn : o = -1 ∧ g = 0
  · obtain ⟨hn1, hn2⟩ := hn
    have hr : Hid (ldB ⟨v, o, g⟩ = true) := hide (by simp [ldB, h1, hn1, hn2])
    have hb1 : (o == -1) = true := beq_iff_eq.2 hn1
    have hb2 : (g == 0) = true := beq_iff_eq.2 hn2
    clear hn1 hn2
    go_wp2
    go_ret
    rw [unhide hr]
    exact ⟨rfl, Joins.below_alloc1 _ _⟩
  have hr : Hid (ldB ⟨v, o, g⟩ = (decide (0 < v) && (inB o 0 3 && inB g 1 1000000))) := hide (by
    have : (decide (o = -1) && decide (g = 0)) = false := by simpa using hn
    simp [ldB, h1, this])
  rcases (show ((o == -1) = false) ∨ ((o == -1) = true ∧ (g == 0) = false) by simp only [beq_eq_false_iff_ne, beq_iff_eq]; omega) with ho | ⟨ho, hg⟩
  all_goals
    clear hn
    by_cases h2 : 0 < v
    · have hr2 : Hid (ldB ⟨v, o, g⟩ = (inB o 0 3 && inB g 1 1000000)) := hide (by rw [unhide hr]; simp [h2])
      go_wp2_with fail
      refine (l04Host_any o _).mono ?_
      rintro e w1 ⟨rfl, rfl⟩
      by_cases h3 : inB o 0 3 = false
      · have hr3 : Hid (ldB ⟨v, o, g⟩ = false) := hide (by rw [unhide hr2]; simp [h3])
        go_wp2
        go_ret
        rw [unhide hr3]
        exact ⟨rfl, Joins.below_alloc1 _ _⟩
      rw [Bool.not_eq_false] at h3
      have hr3 : Hid (ldB ⟨v, o, g⟩ = inB g 1 1000000) := hide (by rw [unhide hr2]; simp [h3])
      go_wp2_with fail
      refine (l01In_num g 1 1000000 _).mono ?_
      rintro e w1 ⟨rfl, rfl⟩
      go_wp2
      go_ret
      rw [unhide hr3]
      exact ⟨rfl, Joins.below_alloc1 _ _⟩
    · have hr2 : Hid (ldB ⟨v, o, g⟩ = false) := hide (by rw [unhide hr]; simp [h2])
      go_wp2
      go_ret
      rw [unhide hr2]
      exact ⟨rfl, Joins.below_alloc1 _ _⟩

set_option maxHeartbeats 1600000 in
theorem l06Encode_ld (x : Ld) (w : World) (hd : ldB x = true) : Calls Tryz.prog 54 #[lV x] w fun e w' => e = .returned (.string (encL x)) ∧ Below w.heap.size w w' := by
  have wr1 : IntKind.i64.wrap (x.own + 1) = x.own + 1 := by have := ldB_lo hd; rw [IntKind.wrap_i64]; omega
  have HD := hide (l3_nums hd)
  clear hd
  go_enter Tryz.func54, Tryz.ntmps54
  go_wp2_with fail
  refine (l02Seal_any 6 _ 3 [x.ver, x.own + 1, x.gen] _ (by decide) (by simp) (unhide HD) (is3 _ _ _ _ _ _ (by simp))).mono ?_
  rintro e w1 ⟨rfl, hb⟩
  have HB := hide hb
  clear hb
  go_wp2
  go_ret
  exact ⟨rfl, fr (Joins.below_alloc2 _ _ _) (unhide HB)⟩

end Go.Proofs.YtefnapcegeojoaaGreatDoor

namespace Go.Proofs.YtefnapcegeojoaaGreatDoor
open Go.RowKit
set_option linter.unusedVariables false
set_option maxRecDepth 100000

set_option maxHeartbeats 1600000 in
theorem l06Decode_any (t : ByteArray) (w : World) (hs : t.size ≤ 65536) : Calls Tryz.prog 96 #[.string t] w fun e w' => e = .returned (.tuple #[lV (ldK t), .bool (ldD t)]) ∧ Below w.heap.size w w' := by
  have HA := hide (Joins.below_alloc1 w (.cells #[.int .i64 0, .int .i64 0, .int .i64 0] 30))
  have HV := hide (VarT.new w 30 0 0 0)
  go_enter Tryz.func96, Tryz.ntmps96
  go_wp2_with fail
  refine (l02Open_any t 6 _ hs).mono ?_
  rintro e w1 ⟨v, rfl, ⟨qo, qa, rfl, ho⟩, hb⟩
  have HB := hide (fr (unhide HA) hb)
  have HB1 := hide hb
  have HO := hide ho
  obtain ⟨hc0, hc1, hc2⟩ := ((unhide HV).below hb).cells
  obtain ⟨hf0, hf1, hf2⟩ := ((unhide HV).below hb).free
  have HR := hide (fun u v x => below3 (unhide HB) (Nat.le_refl _) 0 1 2 u v x)
  clear hb ho
  by_cases hb : openB t 6 = false
  · have HE := hide (ldD_open hb)
    go_wp2
    refine bodyPost_ret (v := .tuple #[lV (ldN 0), .bool false]) (by simp [results, Tryz.results96, go_sem, hc0, hc1, hc2, ldN]) rfl ⟨?_, unhide HR _ _ _⟩
    exact ret_lb (ld_no (unhide HE)).symm (unhide HE).symm
  rw [Bool.not_eq_false] at hb
  by_cases h3 : (openL t 6).length = 3
  · obtain ⟨a, b, c, hl⟩ := three h3
    have wr1 := open_mid hb hl
    have HL := hide hl
    have hI := ownRN (unhide HO)
    rw [hl] at hI
    obtain ⟨g, off, rfl, hi0⟩ := hI 0 (by simp)
    obtain ⟨g', off', he, hi1⟩ := hI 1 (by simp)
    cases he
    obtain ⟨g', off', he, hi2⟩ := hI 2 (by simp)
    cases he
    simp only [List.getElem_cons_zero, List.getElem_cons_succ, Nat.add_zero] at hi0 hi1 hi2
    have hg := World.block_lt_of_cell? _ _ hi0
    clear hI
    go_wp2_with fail
    have HA2 := hide (Joins.below_alloc1 w1 (.cells #[.int .i64 a, .int .i64 (b - 1), .int .i64 c] 30)).drew
    have HV2 := hide (((unhide HV).below (unhide HB1)).below (unhide HA2))
    have HV3 : Hid (VarT (w1.alloc (.cells #[.int .i64 a, .int .i64 (b - 1), .int .i64 c] 30)).drew w1.heap.size 30 a (b - 1) c) := hide ((VarT.new w1 30 a (b - 1) c).below (Below.refl _ _).drew)
    have HB2 := hide (fr (unhide HB) (unhide HA2))
    clear hc0 hc1 hc2 hf0 hf1 hf2 HR
    go_region
    go_wp2_with fail
    refine (leaderOK_spec ⟨a, b - 1, c⟩ _).mono ?_
    rintro e w2 ⟨rfl, hb2⟩
    have HB3 := hide (fr (unhide HB2) hb2)
    obtain ⟨hc0, hc1, hc2⟩ := ((unhide HV2).below hb2).cells
    obtain ⟨hf0, hf1, hf2⟩ := ((unhide HV2).below hb2).free
    obtain ⟨hx0, hx1, hx2⟩ := ((unhide HV3).below hb2).cells
    have HR := hide (fun u v x => below3 (unhide HB3) (Nat.le_refl _) 0 1 2 u v x)
    have HE := hide (ldD_at hb (unhide HL))
    clear hb2 hi0 hi1 hi2
    by_cases hd : ldB ⟨a, b - 1, c⟩ = true
    · go_wp2
      refine bodyPost_ret (v := .tuple #[lV ⟨a, b - 1, c⟩, .bool true]) (by simp [results, Tryz.results96, go_sem, hc0, hc1, hc2]) rfl ⟨?_, unhide HR _ _ _⟩
      exact ret_lb (ld_yes (by rw [unhide HE]; exact hd) (unhide HL)).symm (by rw [unhide HE]; exact hd.symm)
    · rw [Bool.not_eq_true] at hd
      go_wp2
      refine bodyPost_ret (v := .tuple #[lV (ldN 0), .bool false]) (by simp [results, Tryz.results96, go_sem, hc0, hc1, hc2, ldN]) rfl ⟨?_, unhide HR _ _ _⟩
      exact ret_lb (ld_no (by rw [unhide HE]; exact hd)).symm (by rw [unhide HE]; exact hd.symm)
  · have HE := hide (ldD_len h3)
    go_wp2
    refine bodyPost_ret (v := .tuple #[lV (ldN 0), .bool false]) (by simp [results, Tryz.results96, go_sem, hc0, hc1, hc2, ldN]) rfl ⟨?_, unhide HR _ _ _⟩
    exact ret_lb (ld_no (unhide HE)).symm (unhide HE).symm

end Go.Proofs.YtefnapcegeojoaaGreatDoor

namespace Go.Proofs.YtefnapcegeojoaaGreatDoor
open Go.RowKit
set_option linter.unusedVariables false
set_option maxRecDepth 100000

theorem ret_l {a b : Ld} (h : a = b) : Ending.returned (lV a) = .returned (lV b) := by rw [h]
theorem varL_new (w : World) (x : Obj) (a b c : Int) : VarT ((w.alloc x).alloc (.cells #[.int .i64 a, .int .i64 b, .int .i64 c] 30)) (w.heap.size + 1) 30 a b c := by
  have := VarT.new (w.alloc x) 30 a b c
  simp only [World.size_alloc] at this
  exact this

set_option maxHeartbeats 1600000 in
theorem l06Read_any (ao bo : Option Addr) (ca cb : Nat) (ss : List ByteArray) (xs : List Wr) (h : Int) (L : Ld) (w : World) (hL : ldOf ss xs h = L) (hd : diskB ss xs = true) (h1 : Ss w ao ss) (h2 : Ios w bo xs) :
    Calls Tryz.prog 51 #[.agg #[.slice ao ss.length ca, .slice bo xs.length cb], .int .i64 h] w fun e w' => e = .returned (lV L) ∧ Below w.heap.size w w' := by
  have HS := hide (readV_size hd h 0)
  obtain ⟨hlen, hlx⟩ := diskB_len hd
  have HL : Hid (ss.length ≤ 1048576) := hide (by omega)
  have HN : Hid (0 < ss.length) := hide (by omega)
  have HM : Hid (xs.length ≤ maxLen) := hide (by unfold maxLen; omega)
  have HA := hide (Joins.below_alloc2 w (.cells #[.slice ao ss.length ca, .slice bo xs.length cb] 26) (.cells #[.int .i64 0, .int .i64 0, .int .i64 0] 30))
  have H1 := hide (h1.below (unhide HA))
  have H2 := hide (h2.below (unhide HA))
  have HR := hide (varL_new w (.cells #[.slice ao ss.length ca, .slice bo xs.length cb] 26) 0 0 0)
  obtain ⟨T, HT⟩ : ∃ T, Hid (readV ss xs h 0 = T) := ⟨_, hide rfl⟩
  have HK : Hid (ldK T = L) := hide (by rw [← unhide HT]; exact hL)
  rw [unhide HT] at HS
  clear h1 h2 hd hlen hlx hL
  go_enter Tryz.func51, Tryz.ntmps51
  go_wp2_with fail
  refine Calls.mono (show Calls _ _ #[.agg #[.slice ao ss.length ca, .slice bo xs.length cb], .int .i64 h, .int .i64 0] _ _ from l01Read_any _ _ _ _ ss xs h 0 _ (unhide HN) (unhide HL) (unhide HM) (unhide H1) (unhide H2)) ?_
  rintro e w1 ⟨rfl, hb1⟩
  have HB1 := hide (fr (unhide HA) hb1)
  have HR1 := hide ((unhide HR).below hb1)
  rw [show readV ss xs h ((0 : Nat) : Int) = T from unhide HT]
  clear hb1
  go_wp2_with fail
  refine (l06Decode_any T _ (Nat.le_trans (unhide HS) (by decide))).mono ?_
  rintro e w2 ⟨rfl, hb2⟩
  rw [unhide HK]
  have HB2 := hide (fr (unhide HB1) hb2)
  have HR2 := hide ((unhide HR1).below hb2)
  obtain ⟨hc0, hc1, hc2⟩ := (unhide HR2).cells
  obtain ⟨hf0, hf1, hf2⟩ := (unhide HR2).free
  have hlt := (unhide HR2).lt
  have HE := hide (fun u v x => fr (below3 (g := w.heap.size + 1) (unhide HB2) (by omega) 0 1 2 u v x) (Joins.below_alloc1 _ (.cells #[.int .i64 L.ver, .int .i64 L.own, .int .i64 L.gen] 30)))
  clear hb2
  go_wp2
  exact bodyPost_ret (v := lV L) (by simp [results, Tryz.results51, go_sem, hc0, hc1, hc2, hlt]) rfl ⟨rfl, unhide HE _ _ _⟩

end Go.Proofs.YtefnapcegeojoaaGreatDoor

namespace Go.Proofs.YtefnapcegeojoaaGreatDoor
open Go.RowKit
set_option linter.unusedVariables false
set_option maxRecDepth 100000

def txt : Value → ByteArray
  | .string s => s
  | _ => ⟨#[]⟩
def Rest (s u : ByteArray) (k : Nat) : Prop := u.size + k = s.size ∧ ∀ j, j < u.size → byteAt u j = byteAt s (k + j)
theorem Rest.zero (s : ByteArray) : Rest s s 0 := ⟨rfl, fun j _ => by rw [Nat.zero_add]⟩
theorem Rest.num {s u : ByteArray} {k : Nat} (h : Rest s u k) (h4 : 4 ≤ u.size) : numAt u 0 = numAt s k := by
  unfold numAt
  rw [h.2 0 (by omega), h.2 (0 + 1) (by omega), h.2 (0 + 2) (by omega), h.2 (0 + 3) (by omega)]
  simp

theorem cut_size {u : ByteArray} (a : Nat) : (u.extract a u.size).size = u.size - a := by simp
theorem cut_byte {u : ByteArray} {a j : Nat} (h : a + j < u.size) : byteAt (u.extract a u.size) j = byteAt u (a + j) := by
  have h' : a + j < u.data.size := h
  have e : (u.extract a u.size).data = u.data.extract a u.size := by simp
  unfold byteAt
  rw [e, Array.getElem?_extract]
  have : j < u.size - a := by omega
  simp [this]
theorem Rest.cut {s u : ByteArray} {k : Nat} (h : Rest s u k) (h4 : 4 ≤ u.size) : Rest s (u.extract 4 u.size) (k + 4) := by
  refine ⟨by rw [cut_size]; have := h.1; omega, fun j hj => ?_⟩
  rw [cut_size] at hj
  rw [cut_byte (by omega), h.2 (4 + j) (by omega), Nat.add_assoc]

set_option maxHeartbeats 1600000 in
theorem readNumbers_ok (s : ByteArray) (w : World) (h4 : s.size % 4 = 0) (hl : s.size ≤ 64) (hn : ∀ k, k < s.size / 4 → numB (numAt s (k * 4)) = true) :
    Calls Tryz.prog 145 #[.string s] w fun e w' => ∃ v, e = .returned v ∧ OwnN w' w.heap.size v (unL s) ∧ Below w.heap.size w w' := by
  obtain ⟨j0, hj, hy0, hy1, hy2⟩ := info_parts infoM
  have hb4 : ((s.size : Int) % 4 == 0) = true := by simp; omega
  have hli : (s.size : Int) ≤ 64 := by omega
  have HN := hide hn
  clear hn
  go_enter Tryz.func145, Tryz.ntmps145
  go_wp2_with (go_at_call 95; refine (demand_true _).mono ?_; rintro e w' ⟨rfl, hw⟩; replace hw := hw.symm; subst hw)
  go_loopw [0, 3] (fun t o wr => ∃ (k : Nat) (u : ByteArray) (qo : Option Addr) (qa : Nat), k ≤ s.size / 4 ∧ t = .string u ∧ o = .slice qo k qa ∧ u.size + k * 4 = s.size ∧ Hid (Rest s u (k * 4)) ∧ Hid (OwnR wr w.heap.size 3 1 (.slice qo k qa) k (intV ((unL s).take k))) ∧ Hid (Below w.heap.size w wr)) (fun t _ _ => (txt t).size)
  case atStart => exact ⟨0, s, _, _, Nat.zero_le _, rfl, rfl, rfl, hide (Rest.zero s), hide (.inl ⟨rfl, rfl, _, rfl⟩), hide (Below.refl _ _)⟩
  case round =>
    obtain ⟨k, u, qo, qa, hk, rfl, rfl, hu, HR, HO, HB⟩ := hrel
    by_cases hlt : k < s.size / 4
    · have hu4 : 4 ≤ u.size := by omega
      have HNU : Hid (numB (numAt u 0) = true) := hide (by rw [(unhide HR).num hu4]; exact unhide HN k hlt)
      have HNE := hide ((unhide HR).num hu4)
      have hu0 : 0 < u.size := by omega
      have HSZU := hide (cut_size (u := u) 4)
      go_wp2_with fail
      refine (readNumber_ok u _ hu4 (unhide HNU)).mono ?_
      rintro e w1 ⟨rfl, hb1⟩
      have HB1 := hide (fr (unhide HB) hb1)
      have HO1 := hide ((unhide HO).below hb1)
      clear hb1
      have HOA := hide ((unhide HO1).below (Joins.below_alloc1 _ (.cells #[.int .i64 (numAt u 0)] 3)))
      have HBA := hide (fr (unhide HB1) (Joins.below_alloc1 _ (.cells #[.int .i64 (numAt u 0)] 3)))
      have HSZ := hide (unhide HB1).size
      go_wp2_with (at_builtin; refine wpList_append_one rfl _ _ 77 rfl w.heap.size 3 j0 (.int .i64 0) 1 8 Tryz.underlying77 hj hy0 hy1 hy2 rfl (by omega) qo k qa (intV ((unL s).take k)) rfl (unhide HOA) (by have := unhide HSZ; simp; omega) ⟨w1.heap.size, 0, none⟩ _ [.int .i64 (numAt u 0)] rfl rfl (byte_news w1 _ _) (int_one _) (by unfold maxLen; omega) (by omega) ?_; intro g2 cap2 wA hoA hkA; have HSF := hide (And.intro hoA (keep_below (unhide HBA) (unhide HOA) (Nat.le_refl _) hkA)); clear hoA hkA)
      go_roundw
      case rel => exact ⟨k + 1, _, _, _, by omega, rfl, rfl, by rw [unhide HSZU]; omega, hide (by rw [show (k + 1) * 4 = k * 4 + 4 by omega]; exact (unhide HR).cut hu4), hide (.inr ⟨by omega, by rw [unL_succ hlt, intV_snoc, ← unhide HNE]; exact (unhide HSF).1⟩), hide (unhide HSF).2⟩
      case measure => show (u.extract 4 u.size).size < u.size; rw [unhide HSZU]; omega
    · have hke : k = (unL s).length := by rw [unL_length]; omega
      have hu0 : u.size = 0 := by omega
      have HT : Hid ((unL s).take k = unL s) := hide (List.take_of_length_le (by omega))
      have HON : Hid (OwnR wr w.heap.size 3 1 (.slice qo (unL s).length qa) (unL s).length (intV (unL s))) := hide (by have := unhide HO; rw [unhide HT, hke] at this; exact this)
      subst hke
      go_wp2
      go_ret
      exact ⟨.slice qo (unL s).length qa, rfl, ⟨qo, qa, rfl, unhide HON⟩, unhide HB⟩

set_option maxHeartbeats 1600000 in
theorem readNumbers_bad (s : ByteArray) (w : World) (k0 : Nat) (h4 : s.size % 4 = 0) (hl : s.size ≤ 64) (hk0 : k0 < s.size / 4) (hn : ∀ k, k < k0 → numB (numAt s (k * 4)) = true) (hn0 : numB (numAt s (k0 * 4)) = false) (hE : ErrW w) :
    Calls Tryz.prog 145 #[.string s] w fun e w' => (∃ u pv, e = .panicked [{ v := .iface u pv, recovered := false }]) ∧ Below w.heap.size w w' := by
  obtain ⟨j0, hj, hy0, hy1, hy2⟩ := info_parts infoM
  have hb4 : ((s.size : Int) % 4 == 0) = true := by simp; omega
  have hli : (s.size : Int) ≤ 64 := by omega
  have HN := hide hn
  have HN0 := hide hn0
  have HE := hide hE
  clear hn hn0 hE
  go_enter Tryz.func145, Tryz.ntmps145
  go_wp2_with (go_at_call 95; refine (demand_true _).mono ?_; rintro e w' ⟨rfl, hw⟩; replace hw := hw.symm; subst hw)
  go_loopw [0, 3] (fun t o wr => ∃ (k : Nat) (u : ByteArray) (qo : Option Addr) (qa : Nat), k ≤ k0 ∧ t = .string u ∧ o = .slice qo k qa ∧ u.size + k * 4 = s.size ∧ Hid (Rest s u (k * 4)) ∧ Hid (OwnR wr w.heap.size 3 1 (.slice qo k qa) k (intV ((unL s).take k))) ∧ Hid (Below w.heap.size w wr)) (fun t _ _ => (txt t).size)
  case atStart => exact ⟨0, s, _, _, Nat.zero_le _, rfl, rfl, rfl, hide (Rest.zero s), hide (.inl ⟨rfl, rfl, _, rfl⟩), hide (Below.refl _ _)⟩
  case round =>
    obtain ⟨k, u, qo, qa, hk, rfl, rfl, hu, HR, HO, HB⟩ := hrel
    have hlt0 : k < s.size / 4 := by omega
    by_cases hlt : k < k0
    · have hu4 : 4 ≤ u.size := by omega
      have HNU : Hid (numB (numAt u 0) = true) := hide (by rw [(unhide HR).num hu4]; exact unhide HN k hlt)
      have HNE := hide ((unhide HR).num hu4)
      have hu0 : 0 < u.size := by omega
      have HSZU := hide (cut_size (u := u) 4)
      go_wp2_with fail
      refine (readNumber_ok u _ hu4 (unhide HNU)).mono ?_
      rintro e w1 ⟨rfl, hb1⟩
      have HB1 := hide (fr (unhide HB) hb1)
      have HO1 := hide ((unhide HO).below hb1)
      clear hb1
      have HOA := hide ((unhide HO1).below (Joins.below_alloc1 _ (.cells #[.int .i64 (numAt u 0)] 3)))
      have HBA := hide (fr (unhide HB1) (Joins.below_alloc1 _ (.cells #[.int .i64 (numAt u 0)] 3)))
      have HSZ := hide (unhide HB1).size
      go_wp2_with (at_builtin; refine wpList_append_one rfl _ _ 77 rfl w.heap.size 3 j0 (.int .i64 0) 1 8 Tryz.underlying77 hj hy0 hy1 hy2 rfl (by omega) qo k qa (intV ((unL s).take k)) rfl (unhide HOA) (by have := unhide HSZ; simp; omega) ⟨w1.heap.size, 0, none⟩ _ [.int .i64 (numAt u 0)] rfl rfl (byte_news w1 _ _) (int_one _) (by unfold maxLen; omega) (by omega) ?_; intro g2 cap2 wA hoA hkA; have HSF := hide (And.intro hoA (keep_below (unhide HBA) (unhide HOA) (Nat.le_refl _) hkA)); clear hoA hkA)
      go_roundw
      case rel => exact ⟨k + 1, _, _, _, by omega, rfl, rfl, by rw [unhide HSZU]; omega, hide (by rw [show (k + 1) * 4 = k * 4 + 4 by omega]; exact (unhide HR).cut hu4), hide (.inr ⟨by omega, by rw [unL_succ hlt0, intV_snoc, ← unhide HNE]; exact (unhide HSF).1⟩), hide (unhide HSF).2⟩
      case measure => show (u.extract 4 u.size).size < u.size; rw [unhide HSZU]; omega
    · have hu4 : 4 ≤ u.size := by omega
      have hu0 : 0 < u.size := by omega
      have hke : k = k0 := by omega
      have HNU : Hid (numB (numAt u 0) = false) := hide (by rw [(unhide HR).num hu4, hke]; exact unhide HN0)
      go_wp2_with fail
      refine (readNumber_no u _ hu4 (unhide HNU) ((unhide HE).below (unhide HB))).mono ?_
      rintro e w1 ⟨⟨u1, pv, rfl⟩, hb1⟩
      have HB1 := hide (fr (unhide HB) hb1)
      clear hb1
      go_wp2
      exact ⟨rfl, ⟨u1, pv, rfl⟩, unhide HB1⟩

set_option maxHeartbeats 800000 in
theorem readNumbers_form (s : ByteArray) (w : World) (h : s.size % 4 ≠ 0 ∨ 64 < s.size) (hE : ErrW w) :
    Calls Tryz.prog 145 #[.string s] w fun e w' => (∃ u pv, e = .panicked [{ v := .iface u pv, recovered := false }]) ∧ Below w.heap.size w w' := by
  have HE := hide hE
  clear hE
  by_cases h4 : s.size % 4 = 0
  · have hb4 : ((s.size : Int) % 4 == 0) = true := by simp; omega
    have hli : ¬ (s.size : Int) ≤ 64 := by omega
    go_enter Tryz.func145, Tryz.ntmps145
    go_wp2_with (go_at_call 95; refine (demand_false _ (unhide HE)).mono ?_; rintro e w' ⟨⟨u1, pv, rfl⟩, hw⟩; replace hw := hw.symm; subst hw)
    exact ⟨rfl, ⟨_, _, rfl⟩, Below.refl _ _⟩
  · have hb4 : ((s.size : Int) % 4 == 0) = false := by simp; omega
    go_enter Tryz.func145, Tryz.ntmps145
    go_wp2_with (go_at_call 95; refine (demand_false _ (unhide HE)).mono ?_; rintro e w' ⟨⟨u1, pv, rfl⟩, hw⟩; replace hw := hw.symm; subst hw)
    exact ⟨rfl, ⟨_, _, rfl⟩, Below.refl _ _⟩

theorem first_bad {p : Nat → Bool} : ∀ n, (∀ k, k < n → p k = true) ∨ ∃ k0, k0 < n ∧ (∀ k, k < k0 → p k = true) ∧ p k0 = false
  | 0 => .inl (fun k hk => by omega)
  | n + 1 => by
    rcases first_bad (p := p) n with h | ⟨k0, h0, h1, h2⟩
    · cases hp : p n with
      | true => exact .inl (fun k hk => by
          by_cases e : k = n
          · subst e; exact hp
          · exact h k (by omega))
      | false => exact .inr ⟨n, by omega, h, hp⟩
    · exact .inr ⟨k0, by omega, h1, h2⟩

theorem readNumbers_yes (s : ByteArray) (w : World) (h : okU s = true) :
    Calls Tryz.prog 145 #[.string s] w fun e w' => ∃ v, e = .returned v ∧ OwnN w' w.heap.size v (unL s) ∧ Below w.heap.size w w' := by
  have h4 : s.size % 4 = 0 := by
    by_cases h4 : s.size % 4 = 0
    · exact h4
    · rw [okU_rest h4] at h; cases h
  have hl : s.size ≤ 64 := by
    by_cases hl : 64 < s.size
    · rw [okU_long hl] at h; cases h
    · omega
  refine readNumbers_ok s w h4 hl (fun k hk => ?_)
  cases hb : numB (numAt s (k * 4)) with
  | true => rfl
  | false => rw [okU_bad hk hb] at h; cases h
theorem readNumbers_no (s : ByteArray) (w : World) (h : okU s = false) (hE : ErrW w) :
    Calls Tryz.prog 145 #[.string s] w fun e w' => (∃ u pv, e = .panicked [{ v := .iface u pv, recovered := false }]) ∧ Below w.heap.size w w' := by
  by_cases h4 : s.size % 4 = 0
  · by_cases hl : s.size ≤ 64
    · rcases first_bad (p := fun k => numB (numAt s (k * 4))) (s.size / 4) with hg | ⟨k0, h0, h1, h2⟩
      · rw [okU_true h4 hl hg] at h; cases h
      · exact readNumbers_bad s w k0 h4 hl h0 h1 h2 hE
    · exact readNumbers_form s w (.inr (by omega)) hE
  · exact readNumbers_form s w (.inl h4) hE

end Go.Proofs.YtefnapcegeojoaaGreatDoor
