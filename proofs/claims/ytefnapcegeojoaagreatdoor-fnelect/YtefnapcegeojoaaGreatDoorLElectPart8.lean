import Derived.Test.YtefnapcegeojoaaGreatDoorLElectPart1
import Derived.Test.YtefnapcegeojoaaGreatDoorLElectPart3
import Derived.Test.YtefnapcegeojoaaGreatDoorLElectPart4
import Derived.Test.YtefnapcegeojoaaGreatDoorLElectPart7
import Derived.Test.YtefnapcegeojoaaGreatDoorLElectPart6
import Derived.Test.YtefnapcegeojoaaGreatDoorRows
import Derived.Test.YtefnapcegeojoaaGreatDoorLElectPart2
import Derived.WalkKit
import Derived.WalkSpells
import Derived.KernelRfl
import Derived.BigQuiet
import Derived.Deep.QuietTactic
import Derived.Deep.RegionWith
import Derived.Defers
import Derived.Recover

namespace Go.Proofs.YtefnapcegeojoaaGreatDoor
set_option linter.unusedVariables false

def wS (ss : List ByteArray) (xs : List Wr) (h a : Int) (t : ByteArray) : List ByteArray := putW ss (ofH h (xs ++ [⟨h, a, t⟩]))
def wX (xs : List Wr) (h a : Int) (t : ByteArray) : List Wr := dropF h (xs ++ [⟨h, a, t⟩])
theorem wX_eq (xs : List Wr) (h a : Int) (t : ByteArray) : wX xs h a t = dropF h xs := by simp [wX, dropF]
theorem wX_len (xs : List Wr) (h a : Int) (t : ByteArray) : (wX xs h a t).length ≤ xs.length := by rw [wX_eq]; exact drop_le h xs
theorem wS_len (ss : List ByteArray) (xs : List Wr) (h a : Int) (t : ByteArray) : (wS ss xs h a t).length = ss.length := put_len _ _
theorem w_io {h a : Int} {t : ByteArray} (h0 : 0 ≤ h) (h3 : h ≤ 3) (a0 : 0 ≤ a) (a1 : a ≤ 63) (ht : t.size ≤ 80) : ioB ⟨h, a, t⟩ = true := ioB_parts.2 ⟨⟨h0, h3⟩, ⟨a0, a1⟩, ht⟩
theorem w_right {ss : List ByteArray} {xs : List Wr} {h a : Int} {t : ByteArray} (hd : diskB ss xs = true) (hl : xs.length < 200) (h0 : 0 ≤ h) (h3 : h ≤ 3) (a0 : 0 ≤ a) (a1 : a ≤ 63) (ht : t.size ≤ 80) : diskB (wS ss xs h a t) (wX xs h a t) = true :=
  diskB_put (diskB_snoc hd hl (w_io h0 h3 a0 a1 ht)) (fun x hx => of_mem hx) (fun x hx => drop_mem hx) (drop_le h _)

structure Est where
  ss : List ByteArray
  xs : List Wr
  p : Pxs
  bs : List Bk
def wroteB (a b : Int) : Bool := (decide (b = 2) && decide (a = 1)) || (decide (b = 4) && decide (a = 3))
def ownK (p : Pxs) (bs : List Bk) : Bk := bs.getD p.host.toNat bk0
def elStep (s : Est) : Est :=
  if wroteB s.p.phase (pxStepP s.p s.bs).1.phase = true then ⟨wS s.ss s.xs s.p.host (1 + s.p.host) (encB (ownK s.p (pxStepP s.p s.bs).2)), wX s.xs s.p.host (1 + s.p.host) (encB (ownK s.p (pxStepP s.p s.bs).2)), (pxStepP s.p s.bs).1, (pxStepP s.p s.bs).2⟩
  else ⟨s.ss, s.xs, (pxStepP s.p s.bs).1, (pxStepP s.p s.bs).2⟩
def mOf (p : Pxs) : Nat := if p.phase = 1 then 13 else if p.phase = 2 then 12 - p.next.toNat else if p.phase = 3 then 6 else if p.phase = 4 then 5 - p.next.toNat else 0
def elRun : Nat → Est → Est
  | 0, s => s
  | n + 1, s => if s.p.phase < 5 then elRun n (elStep s) else s
def elEnd (s : Est) : Est := elRun 13 s

theorem step_p (s : Est) : (elStep s).p = (pxStepP s.p s.bs).1 ∧ (elStep s).bs = (pxStepP s.p s.bs).2 := by unfold elStep; split <;> exact ⟨rfl, rfl⟩

structure ElOK (h : Int) (s : Est) : Prop where
  p : pxB s.p = true
  b : bksB s.bs = true
  d : diskB s.ss s.xs = true
  l : s.xs.length < 200
  o : s.p.host = h
  j : s.p.phase = 2 ∨ s.p.phase = 3 → (ownK s.p s.bs).bal < s.p.ballot

theorem pxEnd_ph (p : Pxs) (h2 : p.phase = 2 ∨ p.phase = 4) : ((pxEnd p).phase = p.phase ∧ (pxEnd p).next = p.next ∧ p.next < 4) ∨ (p.phase = 2 ∧ (pxEnd p).phase = 3) ∨ (p.phase = 4 ∧ (pxEnd p).phase = 5) := by
  unfold pxEnd
  split
  · exact .inl ⟨rfl, rfl, by assumption⟩
  · split
    · exact .inr (.inr ⟨by assumption, rfl⟩)
    · exact .inr (.inl ⟨by rcases h2 with h | h <;> first | exact h | contradiction, rfl⟩)
theorem pxEnd_at (p : Pxs) : (pxEnd p).host = p.host ∧ (pxEnd p).ballot = p.ballot ∧ (pxEnd p).ver = p.ver := by
  unfold pxEnd; split; · exact ⟨rfl, rfl, rfl⟩
  split <;> exact ⟨rfl, rfl, rfl⟩
theorem pxRd_at (p : Pxs) (bs : List Bk) : (pxRd p bs).host = p.host ∧ (pxRd p bs).ballot = p.ballot ∧ (pxRd p bs).ver = p.ver := by
  unfold pxRd
  simp only
  split
  · split
    · exact ⟨rfl, rfl, rfl⟩
    · obtain ⟨a, b, c⟩ := pxEnd_at (pxLook { p with next := skip p p.next } (bkOf (bs.getD ({ p with next := skip p p.next } : Pxs).next.toNat bk0) p.ver))
      exact ⟨a, b, c⟩
  · obtain ⟨a, b, c⟩ := pxEnd_at { p with next := skip p p.next }
    exact ⟨a, b, c⟩
theorem pxRd_ph (p : Pxs) (bs : List Bk) (h2 : p.phase = 2 ∨ p.phase = 4) : ((pxRd p bs).phase = p.phase ∧ p.next < (pxRd p bs).next ∧ (pxRd p bs).next < 4) ∨ (p.phase = 2 ∧ (pxRd p bs).phase = 3) ∨ (p.phase = 4 ∧ (pxRd p bs).phase = 5) ∨ (pxRd p bs).phase = 6 := by
  have hs : ∀ n : Int, n ≤ skip p n := fun n => by unfold skip; split <;> omega
  unfold pxRd
  simp only
  split
  · split
    · exact .inr (.inr (.inr rfl))
    · rename_i b _
      rcases pxEnd_ph (pxLook { p with next := skip p p.next } (bkOf (bs.getD ({ p with next := skip p p.next } : Pxs).next.toNat bk0) p.ver)) h2 with ⟨a, b, c⟩ | a | a
      · refine .inl ⟨a, ?_, ?_⟩
        · rw [b]
          have e : (pxLook { p with next := skip p p.next } (bkOf (bs.getD ({ p with next := skip p p.next } : Pxs).next.toNat bk0) p.ver)).next = skip p (skip p p.next + 1) := rfl
          rw [e]
          have := hs p.next
          have := hs (skip p p.next + 1)
          omega
        · rw [b]; exact c
      · exact .inr (.inl a)
      · exact .inr (.inr (.inl a))
  · rename_i hn
    rcases pxEnd_ph { p with next := skip p p.next } h2 with ⟨a, b, c⟩ | a | a
    · exact absurd c hn
    · exact .inr (.inl a)
    · exact .inr (.inr (.inl a))

theorem mOf_1 {p : Pxs} (h : p.phase = 1) : mOf p = 13 := if_pos h
theorem mOf_2 {p : Pxs} (h : p.phase = 2) : mOf p = 12 - p.next.toNat := by unfold mOf; rw [if_neg (by omega), if_pos h]
theorem mOf_3 {p : Pxs} (h : p.phase = 3) : mOf p = 6 := by unfold mOf; rw [if_neg (by omega), if_neg (by omega), if_pos h]
theorem mOf_4 {p : Pxs} (h : p.phase = 4) : mOf p = 5 - p.next.toNat := by unfold mOf; rw [if_neg (by omega), if_neg (by omega), if_neg (by omega), if_pos h]
theorem mOf_5 {p : Pxs} (h : 5 ≤ p.phase) : mOf p = 0 := by unfold mOf; rw [if_neg (by omega), if_neg (by omega), if_neg (by omega), if_neg (by omega)]
theorem px_parts {p : Pxs} (h : pxB p = true) : (0 ≤ p.host ∧ p.host ≤ 3) ∧ (0 ≤ p.ver ∧ p.ver ≤ 1000000) ∧ (1 ≤ p.phase ∧ p.phase ≤ 6) ∧ (1 ≤ p.ballot ∧ p.ballot ≤ 1000000) ∧ (0 ≤ p.value ∧ p.value ≤ 2147483647) ∧ (0 ≤ p.next ∧ p.next ≤ 4) := by
  obtain ⟨a, b, c, d, e, f, g, _⟩ := pxB_iff.1 h
  exact ⟨a, b, c, d, f, g⟩
theorem mOf_le {p : Pxs} (h : pxB p = true) : mOf p ≤ 13 := by
  unfold mOf; split; · omega
  split; · omega
  split; · omega
  split <;> omega
theorem step_kinds {p : Pxs} {bs : List Bk} (hp : pxB p = true) (h5 : p.phase < 5) : ((p.phase = 2 ∨ p.phase = 4) ∧ pxStepP p bs = (pxRd p bs, bs)) ∨ ((p.phase = 1 ∨ p.phase = 3) ∧ pxNo p (pxOwn p bs) ∧ pxStepP p bs = ({ p with phase := 6 }, bs)) ∨
    ((p.phase = 1 ∨ p.phase = 3) ∧ ¬ pxNo p (pxOwn p bs) ∧ pxStepP p bs = (pxW1 p (pxOwn p bs), bs.set p.host.toNat (pxW2 p (pxOwn p bs)))) := by
  obtain ⟨_, _, ⟨h1, h6⟩, _⟩ := px_parts hp
  rcases (show p.phase = 1 ∨ p.phase = 2 ∨ p.phase = 3 ∨ p.phase = 4 by omega) with e | e | e | e
  · by_cases c : pxNo p (pxOwn p bs)
    · exact .inr (.inl ⟨.inl e, c, pxStepP_no bs (.inl e) c⟩)
    · exact .inr (.inr ⟨.inl e, c, pxStepP_wr bs (.inl e) c⟩)
  · exact .inl ⟨.inl e, pxStepP_rd bs (.inl e)⟩
  · by_cases c : pxNo p (pxOwn p bs)
    · exact .inr (.inl ⟨.inr e, c, pxStepP_no bs (.inr e) c⟩)
    · exact .inr (.inr ⟨.inr e, c, pxStepP_wr bs (.inr e) c⟩)
  · exact .inl ⟨.inr e, pxStepP_rd bs (.inr e)⟩
theorem w1_ph1 {p : Pxs} {o : Bk} (h : p.phase = 1) : (pxW1 p o).phase = 2 ∧ (pxW1 p o).next = 0 := by unfold pxW1; rw [if_pos h]; exact ⟨rfl, rfl⟩
theorem w1_ph3 {p : Pxs} {o : Bk} (h : p.phase = 3) : (pxW1 p o).phase = 4 ∧ (pxW1 p o).next = 0 := by unfold pxW1; rw [if_neg (by omega)]; exact ⟨rfl, rfl⟩
theorem w1_at (p : Pxs) (o : Bk) : (pxW1 p o).host = p.host ∧ (pxW1 p o).ballot = p.ballot ∧ (pxW1 p o).ver = p.ver := by unfold pxW1; split <;> exact ⟨rfl, rfl, rfl⟩
theorem step_less {p : Pxs} {bs : List Bk} (hp : pxB p = true) (h5 : p.phase < 5) : mOf (pxStepP p bs).1 < mOf p := by
  obtain ⟨_, _, _, _, _, n0, n4⟩ := px_parts hp
  rcases step_kinds (bs := bs) hp h5 with ⟨e, h⟩ | ⟨e, _, h⟩ | ⟨e, _, h⟩ <;> rw [h]
  · show mOf (pxRd p bs) < mOf p
    rcases pxRd_ph p bs e with ⟨a, b, c⟩ | ⟨a, b⟩ | ⟨a, b⟩ | a
    · rcases e with e | e
      · rw [mOf_2 e, mOf_2 (a.trans e)]; omega
      · rw [mOf_4 e, mOf_4 (a.trans e)]; omega
    · rw [mOf_2 a, mOf_3 b]; omega
    · rw [mOf_4 a, mOf_5 (by omega)]; omega
    · rw [mOf_5 (p := pxRd p bs) (by omega)]
      rcases e with e | e
      · rw [mOf_2 e]; omega
      · rw [mOf_4 e]; omega
  · rw [mOf_5 (p := { p with phase := 6 }) (by show (5 : Int) ≤ 6; decide)]
    rcases e with e | e
    · rw [mOf_1 e]; omega
    · rw [mOf_3 e]; omega
  · show mOf (pxW1 p (pxOwn p bs)) < mOf p
    rcases e with e | e
    · obtain ⟨a, b⟩ := w1_ph1 (o := pxOwn p bs) e
      rw [mOf_1 e, mOf_2 a]; omega
    · obtain ⟨a, b⟩ := w1_ph3 (o := pxOwn p bs) e
      rw [mOf_3 e, mOf_4 a, b]; decide
theorem own_set {bs : List Bk} {p : Pxs} {y : Bk} (h4 : bs.length = 4) (hh : 0 ≤ p.host ∧ p.host ≤ 3) : ownK p (bs.set p.host.toNat y) = y := by
  have : p.host.toNat < bs.length := by omega
  simp [ownK, this]
theorem wrote_iff {p : Pxs} {bs : List Bk} (hp : pxB p = true) (hb : bksB bs = true) (h5 : p.phase < 5) (hj : p.phase = 2 ∨ p.phase = 3 → (ownK p bs).bal < p.ballot) :
    (wroteB p.phase (pxStepP p bs).1.phase = true ∧ ownK p (pxStepP p bs).2 ≠ ownK p bs) ∨ (wroteB p.phase (pxStepP p bs).1.phase = false ∧ ownK p (pxStepP p bs).2 = ownK p bs) := by
  obtain ⟨h4, hk⟩ := bksB_parts hb
  obtain ⟨hh, _, _, hbal, _, n0, n4⟩ := px_parts hp
  rcases step_kinds (bs := bs) hp h5 with ⟨e, h⟩ | ⟨e, _, h⟩ | ⟨e, c, h⟩ <;> rw [h]
  · refine .inr ⟨?_, rfl⟩
    show wroteB p.phase (pxRd p bs).phase = false
    rcases e with e | e <;> simp [wroteB, e]
  · refine .inr ⟨?_, rfl⟩
    show wroteB p.phase 6 = false
    rcases e with e | e <;> simp [wroteB]
  · refine .inl ⟨?_, ?_⟩
    · show wroteB p.phase (pxW1 p (pxOwn p bs)).phase = true
      rcases e with e | e
      · rw [(w1_ph1 e).1, e]; rfl
      · rw [(w1_ph3 e).1, e]; rfl
    · show ownK p (bs.set p.host.toNat (pxW2 p (pxOwn p bs))) ≠ ownK p bs
      rw [own_set h4 hh]
      simp only [pxNo, not_or, not_and] at c
      obtain ⟨c1, c2, c3, c4⟩ := c
      intro heq
      have hO : pxOwn p bs = bkOf (ownK p bs) p.ver := rfl
      rcases e with e | e
      · have c3' := c3 e
        rw [hO] at c1 c2 c3' heq
        unfold pxW2 at heq
        rw [if_pos e] at heq
        have e1 := congrArg Bk.ver heq
        have e2 := congrArg Bk.mbal heq
        simp only at e1 e2
        unfold bkOf at c1 c2 c3'
        split at c3'
        · omega
        · rename_i hv
          rw [if_neg hv] at c2
          omega
      · have c4' := c4 e
        rw [hO] at c1 c2 c4' heq
        unfold pxW2 at heq
        rw [if_neg (by omega)] at heq
        have e2 := congrArg Bk.bal heq
        simp only at e2
        have := hj (.inr e)
        omega
theorem own_right {p : Pxs} {bs : List Bk} (hp : pxB p = true) (hb : bksB bs = true) : bkB (ownK p bs) = true := by
  obtain ⟨h4, hk⟩ := bksB_parts hb
  obtain ⟨hh, _⟩ := px_parts hp
  exact hk p.host.toNat (by omega)
theorem ElOK.step {h : Int} {s : Est} (k : ElOK h s) (h5 : s.p.phase < 5) : ElOK h (elStep s) := by
  obtain ⟨h4, hk⟩ := bksB_parts k.b
  obtain ⟨hh, hv, _, hbal, _, n0, n4⟩ := px_parts k.p
  obtain ⟨q1, q2⟩ := px_right k.p k.b
  obtain ⟨e1, e2⟩ := step_p s
  have hhost : (pxStepP s.p s.bs).1.host = s.p.host ∧ (pxStepP s.p s.bs).1.ballot = s.p.ballot := by
    rcases step_kinds (bs := s.bs) k.p h5 with ⟨e, hq⟩ | ⟨e, _, hq⟩ | ⟨e, _, hq⟩ <;> rw [hq]
    · exact ⟨(pxRd_at _ _).1, (pxRd_at _ _).2.1⟩
    · exact ⟨rfl, rfl⟩
    · exact ⟨(w1_at _ _).1, (w1_at _ _).2.1⟩
  have hj : (elStep s).p.phase = 2 ∨ (elStep s).p.phase = 3 → (ownK (elStep s).p (elStep s).bs).bal < (elStep s).p.ballot := by
    rw [e1, e2, hhost.2]
    intro hph
    have hO : ownK (pxStepP s.p s.bs).1 (pxStepP s.p s.bs).2 = ownK s.p (pxStepP s.p s.bs).2 := by unfold ownK; rw [hhost.1]
    rw [hO]
    rcases step_kinds (bs := s.bs) k.p h5 with ⟨e, hq⟩ | ⟨e, _, hq⟩ | ⟨e, c, hq⟩ <;> rw [hq] at hph ⊢
    · rcases e with e | e
      · exact k.j (.inl e)
      · rcases pxRd_ph s.p s.bs (.inr e) with ⟨a, _⟩ | ⟨a, _⟩ | ⟨_, a⟩ | a
        · have : (pxRd s.p s.bs).phase = 2 ∨ (pxRd s.p s.bs).phase = 3 := hph
          omega
        · omega
        · have : (pxRd s.p s.bs).phase = 2 ∨ (pxRd s.p s.bs).phase = 3 := hph
          omega
        · have : (pxRd s.p s.bs).phase = 2 ∨ (pxRd s.p s.bs).phase = 3 := hph
          omega
    · have : (6 : Int) = 2 ∨ (6 : Int) = 3 := hph
      omega
    · rcases e with e | e
      · show (ownK s.p (s.bs.set s.p.host.toNat (pxW2 s.p (pxOwn s.p s.bs)))).bal < s.p.ballot
        rw [own_set h4 hh]
        unfold pxW2
        rw [if_pos e]
        show (pxOwn s.p s.bs).bal < s.p.ballot
        have hr : bkB (pxOwn s.p s.bs) = true := bkOf_right (own_right k.p k.b) hv
        obtain ⟨_, _, b3, _⟩ := bkB_iff.1 hr
        simp only [pxNo, not_or, not_and] at c
        have := c.2.1
        have := c.2.2.1 e
        omega
      · have : (pxW1 s.p (pxOwn s.p s.bs)).phase = 2 ∨ (pxW1 s.p (pxOwn s.p s.bs)).phase = 3 := hph
        rw [(w1_ph3 e).1] at this
        omega
  have hd : diskB (elStep s).ss (elStep s).xs = true ∧ (elStep s).xs.length < 200 := by
    unfold elStep
    split
    · refine ⟨w_right k.d k.l hh.1 hh.2 (by omega) (by omega) (by rw [encB_size]; decide), ?_⟩
      exact Nat.lt_of_le_of_lt (wX_len _ _ _ _) k.l
    · exact ⟨k.d, k.l⟩
  exact ⟨by rw [e1]; exact q1, by rw [e2]; exact q2, hd.1, hd.2, by rw [e1, hhost.1]; exact k.o, hj⟩
theorem elRun_any {h : Int} : ∀ (n m : Nat) (s : Est), ElOK h s → mOf s.p ≤ n → mOf s.p ≤ m → elRun n s = elRun m s
  | 0, 0, _, _, _, _ => rfl
  | 0, m + 1, s, k, hn, _ => by
    have : ¬ s.p.phase < 5 := fun h5 => by have := step_less (bs := s.bs) k.p h5; omega
    rw [elRun, elRun, if_neg this]
  | n + 1, 0, s, k, _, hm => by
    have : ¬ s.p.phase < 5 := fun h5 => by have := step_less (bs := s.bs) k.p h5; omega
    rw [elRun, elRun, if_neg this]
  | n + 1, m + 1, s, k, hn, hm => by
    rw [elRun, elRun]
    by_cases h5 : s.p.phase < 5
    · rw [if_pos h5, if_pos h5]
      have := step_less (bs := s.bs) k.p h5
      have e := (step_p s).1
      exact elRun_any n m (elStep s) (k.step h5) (by rw [e]; omega) (by rw [e]; omega)
    · rw [if_neg h5, if_neg h5]
theorem elEnd_on {h : Int} {s : Est} (k : ElOK h s) (h5 : s.p.phase < 5) : elEnd (elStep s) = elEnd s := by
  have := step_less (bs := s.bs) k.p h5
  have hm := mOf_le k.p
  have e := (step_p s).1
  show elRun 13 (elStep s) = elRun 13 s
  rw [show elRun 13 s = elRun 12 (elStep s) from by rw [elRun, if_pos h5]]
  exact elRun_any 13 12 (elStep s) (k.step h5) (by rw [e]; omega) (by rw [e]; omega)
theorem elEnd_at {s : Est} (h5 : ¬ s.p.phase < 5) : elEnd s = s := by
  show elRun 13 s = s
  rw [elRun, if_neg h5]
theorem elRun_ok {h : Int} : ∀ (n : Nat) (s : Est), ElOK h s → ElOK h (elRun n s)
  | 0, _, k => k
  | n + 1, s, k => by
    rw [elRun]
    split
    · exact elRun_ok n _ (k.step (by assumption))
    · exact k
def ldOf (ss : List ByteArray) (xs : List Wr) (h : Int) : Ld := ldK (readV ss xs h 0)
def bksOf (ss : List ByteArray) (xs : List Wr) (h : Int) : List Bk := [bdK (readV ss xs h 1), bdK (readV ss xs h 2), bdK (readV ss xs h 3), bdK (readV ss xs h 4)]
theorem bdK_right (t : ByteArray) : bkB (bdK t) = true := by
  by_cases h : bdB t = true
  · exact bd_right h
  · rw [Bool.not_eq_true] at h; rw [bd_no h]; rfl
theorem bksOf_right (ss : List ByteArray) (xs : List Wr) (h : Int) : bksB (bksOf ss xs h) = true := by
  simp [bksB, bksOf, bdK_right]
def leC (ss : List ByteArray) (xs : List Wr) (h : Int) : Int := if hostC ss xs h = 0 then (if xs.length = 200 then 7 else 0) else hostC ss xs h
theorem leC_host {ss : List ByteArray} {xs : List Wr} {h : Int} (e : hostC ss xs h ≠ 0) : leC ss xs h = hostC ss xs h := if_neg e
theorem leC_full {ss : List ByteArray} {xs : List Wr} {h : Int} (e : hostC ss xs h = 0) (l : xs.length = 200) : leC ss xs h = 7 := by rw [leC, if_pos e, if_pos l]
theorem leC_ok {ss : List ByteArray} {xs : List Wr} {h : Int} (e : hostC ss xs h = 0) (l : ¬ xs.length = 200) : leC ss xs h = 0 := by rw [leC, if_pos e, if_neg l]
theorem leC_eq {ss : List ByteArray} {xs : List Wr} {h : Int} (e : leC ss xs h = 0) : diskB ss xs = true ∧ (0 ≤ h ∧ h ≤ 3) ∧ xs.length < 200 := by
  by_cases e0 : hostC ss xs h = 0
  · obtain ⟨ed, e1, e2⟩ := hostC_eq e0
    by_cases l : xs.length = 200
    · rw [leC_full e0 l] at e; cases e
    · have := (diskB_len ed).2
      exact ⟨ed, ⟨e1, e2⟩, by omega⟩
  · rw [leC_host e0] at e; exact absurd e e0
structure Ans where
  ss : List ByteArray
  xs : List Wr
  l : Ld
  c : Int
def leadOf (v : Int) (value : Int) : Ld := ⟨v, value % 1024, value / 1024⟩
def elTry (ss : List ByteArray) (xs : List Wr) (h o g : Int) : Pxs := ⟨h, (ldOf ss xs h).ver + 1, 1, nxBal h ((ldOf ss xs h).ver + 1) (bksOf ss xs h), 1024 * g + o, 0, 0, 0⟩
def elFrom (ss : List ByteArray) (xs : List Wr) (h o g : Int) : Est := ⟨ss, xs, elTry ss xs h o g, bksOf ss xs h⟩
def elLast (h : Int) (old : Ld) (e : Est) : Ans :=
  if e.p.phase = 5 ∧ ldB (leadOf (old.ver + 1) e.p.value) = true then ⟨wS e.ss e.xs h 0 (encL (leadOf (old.ver + 1) e.p.value)), wX e.xs h 0 (encL (leadOf (old.ver + 1) e.p.value)), leadOf (old.ver + 1) e.p.value, 0⟩
  else ⟨e.ss, e.xs, old, 19⟩
def elMany (ss : List ByteArray) (xs : List Wr) (h : Int) : Bool := decide (1000000 < (ldOf ss xs h).ver + 1) || decide (1000000 < nxBal h ((ldOf ss xs h).ver + 1) (bksOf ss xs h))
def elA (ss : List ByteArray) (xs : List Wr) (h o g : Int) : Ans :=
  if leC ss xs h = 0 then
    (if (inB o 0 3 && inB g 1 1000000) = true then
      (if elMany ss xs h = true then ⟨ss, xs, ldOf ss xs h, 6⟩ else elLast h (ldOf ss xs h) (elEnd (elFrom ss xs h o g)))
    else ⟨[], [], ld0, 4⟩)
  else ⟨[], [], ld0, leC ss xs h⟩
theorem elA_room {ss : List ByteArray} {xs : List Wr} {h o g : Int} (e : leC ss xs h ≠ 0) : elA ss xs h o g = ⟨[], [], ld0, leC ss xs h⟩ := if_neg e
theorem elA_range {ss : List ByteArray} {xs : List Wr} {h o g : Int} (e : leC ss xs h = 0) (e1 : (inB o 0 3 && inB g 1 1000000) = false) : elA ss xs h o g = ⟨[], [], ld0, 4⟩ := by rw [elA, if_pos e, if_neg (by simp [e1])]
theorem elA_many {ss : List ByteArray} {xs : List Wr} {h o g : Int} (e : leC ss xs h = 0) (e1 : (inB o 0 3 && inB g 1 1000000) = true) (e2 : elMany ss xs h = true) : elA ss xs h o g = ⟨ss, xs, ldOf ss xs h, 6⟩ := by rw [elA, if_pos e, if_pos e1, if_pos e2]
theorem elA_end {ss : List ByteArray} {xs : List Wr} {h o g : Int} (e : leC ss xs h = 0) (e1 : (inB o 0 3 && inB g 1 1000000) = true) (e2 : elMany ss xs h = false) : elA ss xs h o g = elLast h (ldOf ss xs h) (elEnd (elFrom ss xs h o g)) := by rw [elA, if_pos e, if_pos e1, if_neg (by simp [e2])]
theorem elFrom_ok {ss : List ByteArray} {xs : List Wr} {h o g : Int} (e : leC ss xs h = 0) (e1 : (inB o 0 3 && inB g 1 1000000) = true) (e2 : elMany ss xs h = false) : ElOK h (elFrom ss xs h o g) := by
  obtain ⟨ed, ⟨h0, h3⟩, el⟩ := leC_eq e
  simp only [elMany, Bool.or_eq_false_iff, decide_eq_false_iff_not] at e2
  simp only [inB, Bool.and_eq_true, decide_eq_true_eq] at e1
  have hl := (ldB_lo (ld_right (readV ss xs h 0))).1
  have hl' : 0 ≤ (ldOf ss xs h).ver ∧ (ldOf ss xs h).ver ≤ 1000000 := hl
  obtain ⟨n, rfl⟩ : ∃ n : Nat, h = n := ⟨h.toNat, by omega⟩
  have hm := nxBal_mod (bksOf ss xs n) (h := n) (by omega) ((ldOf ss xs n).ver + 1)
  have hg := nxBal_gt (bs := bksOf ss xs n) n 0 (by simp [bksOf]) ((ldOf ss xs n).ver + 1)
  have hb0 : 0 ≤ (bkOf ((bksOf ss xs n).getD 0 bk0) ((ldOf ss xs n).ver + 1)).mbal := by
    have := bkB_iff.1 (bkOf_right (v := (ldOf ss xs n).ver + 1) (bdK_right (readV ss xs n 1)) (by omega))
    exact this.2.1.1
  refine ⟨?_, bksOf_right ss xs n, ed, el, rfl, ?_⟩
  · refine pxB_iff.2 ⟨⟨h0, h3⟩, ⟨by show 0 ≤ (ldOf ss xs n).ver + 1; omega, by show (ldOf ss xs n).ver + 1 ≤ 1000000; omega⟩, ⟨by show (1 : Int) ≤ 1; decide, by show (1 : Int) ≤ 6; decide⟩, ⟨?_, ?_⟩, hm, ⟨?_, ?_⟩, ⟨by show (0 : Int) ≤ 0; decide, by show (0 : Int) ≤ 4; decide⟩, ⟨by show (0 : Int) ≤ 0; decide, by show (0 : Int) ≤ 2147483647; decide⟩, by show (0 : Int) ≤ 0; decide, by show (0 : Int) ≤ 1000000; decide⟩
    · show 1 ≤ nxBal n _ _; omega
    · show nxBal n _ _ ≤ 1000000; omega
    · show 0 ≤ 1024 * g + o; omega
    · show 1024 * g + o ≤ 2147483647; omega
  · intro hp
    have : (1 : Int) = 2 ∨ (1 : Int) = 3 := hp
    omega

def rlK (ss : List ByteArray) (xs : List Wr) (h : Int) : Ld := if hostC ss xs h = 0 then ldOf ss xs h else ld0
def hlB (ss : List ByteArray) (xs : List Wr) (h g : Int) : Bool := decide (hostC ss xs h = 0) && (decide ((ldOf ss xs h).own = h) && decide ((ldOf ss xs h).gen = g))

end Go.Proofs.YtefnapcegeojoaaGreatDoor

namespace Go.Proofs.YtefnapcegeojoaaGreatDoor
open Go.RowKit
set_option linter.unusedVariables false
set_option maxRecDepth 100000

theorem ret_l {a b : Ld} (h : a = b) : Ending.returned (lV a) = .returned (lV b) := by rw [h]
theorem ret_bi2 {a b : Bool} {x y : Int} (h : a = b) (k : x = y) : Ending.returned (.tuple #[.bool a, .int .i64 x]) = .returned (.tuple #[.bool b, .int .i64 y]) := by rw [h, k]
theorem varL_new (w : World) (x : Obj) (a b c : Int) : VarT ((w.alloc x).alloc (.cells #[.int .i64 a, .int .i64 b, .int .i64 c] 30)) (w.heap.size + 1) 30 a b c := by
  have := VarT.new (w.alloc x) 30 a b c
  simp only [World.size_alloc] at this
  exact this

set_option maxHeartbeats 1600000 in
theorem l06Read_any (ao bo : Option Addr) (ca cb : Nat) (ss : List ByteArray) (xs : List Wr) (h : Int) (L : Ld) (w : World) (hL : ldOf ss xs h = L) (hd : diskB ss xs = true) (h1 : Ss w ao ss) (h2 : Ios w bo xs) :
    Calls Tryz.prog 51 #[.agg #[.slice ao ss.length ca, .slice bo xs.length cb], .int .i64 h] w fun e w' => e = .returned (lV L) ∧ Below w.heap.size w w' := by
  have HS := hide (readV_size hd h 0)
  obtain ⟨hlen, hlx⟩ := diskB_len hd
  have HL : Hid (ss.length ≤ 1048576) := hide (by omega)
  have HN : Hid (0 < ss.length) := hide (by omega)
  have HM : Hid (xs.length ≤ maxLen) := hide (by unfold maxLen; omega)
  have HA := hide (Joins.below_alloc2 w (.cells #[.slice ao ss.length ca, .slice bo xs.length cb] 26) (.cells #[.int .i64 0, .int .i64 0, .int .i64 0] 30))
  have H1 := hide (h1.below (unhide HA))
  have H2 := hide (h2.below (unhide HA))
  have HR := hide (varL_new w (.cells #[.slice ao ss.length ca, .slice bo xs.length cb] 26) 0 0 0)
  obtain ⟨T, HT⟩ : ∃ T, Hid (readV ss xs h 0 = T) := ⟨_, hide rfl⟩
  have HK : Hid (ldK T = L) := hide (by rw [← unhide HT]; exact hL)
  rw [unhide HT] at HS
  clear h1 h2 hd hlen hlx hL
  go_enter Tryz.func51, Tryz.ntmps51
  go_wp2_with fail
  refine Calls.mono (show Calls _ _ #[.agg #[.slice ao ss.length ca, .slice bo xs.length cb], .int .i64 h, .int .i64 0] _ _ from l01Read_any _ _ _ _ ss xs h 0 _ (unhide HN) (unhide HL) (unhide HM) (unhide H1) (unhide H2)) ?_
  rintro e w1 ⟨rfl, hb1⟩
  have HB1 := hide (fr (unhide HA) hb1)
  have HR1 := hide ((unhide HR).below hb1)
  rw [show readV ss xs h ((0 : Nat) : Int) = T from unhide HT]
  clear hb1
  go_wp2_with fail
  refine (l06Decode_any T _ (Nat.le_trans (unhide HS) (by decide))).mono ?_
  rintro e w2 ⟨rfl, hb2⟩
  rw [unhide HK]
  have HB2 := hide (fr (unhide HB1) hb2)
  have HR2 := hide ((unhide HR1).below hb2)
  obtain ⟨hc0, hc1, hc2⟩ := (unhide HR2).cells
  obtain ⟨hf0, hf1, hf2⟩ := (unhide HR2).free
  have hlt := (unhide HR2).lt
  have HE := hide (fun u v x => fr (below3 (g := w.heap.size + 1) (unhide HB2) (by omega) 0 1 2 u v x) (Joins.below_alloc1 _ (.cells #[.int .i64 L.ver, .int .i64 L.own, .int .i64 L.gen] 30)))
  clear hb2
  go_wp2
  exact bodyPost_ret (v := lV L) (by simp [results, Tryz.results51, go_sem, hc0, hc1, hc2, hlt]) rfl ⟨rfl, unhide HE _ _ _⟩

end Go.Proofs.YtefnapcegeojoaaGreatDoor

namespace Go.Proofs.YtefnapcegeojoaaGreatDoor
open Go.RowKit
set_option linter.unusedVariables false
set_option maxRecDepth 100000

def txt : Value → ByteArray
  | .string s => s
  | _ => ⟨#[]⟩
def Rest (s u : ByteArray) (k : Nat) : Prop := u.size + k = s.size ∧ ∀ j, j < u.size → byteAt u j = byteAt s (k + j)
theorem Rest.zero (s : ByteArray) : Rest s s 0 := ⟨rfl, fun j _ => by rw [Nat.zero_add]⟩
theorem Rest.num {s u : ByteArray} {k : Nat} (h : Rest s u k) (h4 : 4 ≤ u.size) : numAt u 0 = numAt s k := by
  unfold numAt
  rw [h.2 0 (by omega), h.2 (0 + 1) (by omega), h.2 (0 + 2) (by omega), h.2 (0 + 3) (by omega)]
  simp

theorem cut_size {u : ByteArray} (a : Nat) : (u.extract a u.size).size = u.size - a := by simp
theorem cut_byte {u : ByteArray} {a j : Nat} (h : a + j < u.size) : byteAt (u.extract a u.size) j = byteAt u (a + j) := by
  have h' : a + j < u.data.size := h
  have e : (u.extract a u.size).data = u.data.extract a u.size := by simp
  unfold byteAt
  rw [e, Array.getElem?_extract]
  have : j < u.size - a := by omega
  simp [this]
theorem Rest.cut {s u : ByteArray} {k : Nat} (h : Rest s u k) (h4 : 4 ≤ u.size) : Rest s (u.extract 4 u.size) (k + 4) := by
  refine ⟨by rw [cut_size]; have := h.1; omega, fun j hj => ?_⟩
  rw [cut_size] at hj
  rw [cut_byte (by omega), h.2 (4 + j) (by omega), Nat.add_assoc]

set_option maxHeartbeats 1600000 in
theorem readNumbers_ok (s : ByteArray) (w : World) (h4 : s.size % 4 = 0) (hl : s.size ≤ 64) (hn : ∀ k, k < s.size / 4 → numB (numAt s (k * 4)) = true) :
    Calls Tryz.prog 145 #[.string s] w fun e w' => ∃ v, e = .returned v ∧ OwnN w' w.heap.size v (unL s) ∧ Below w.heap.size w w' := by
  obtain ⟨j0, hj, hy0, hy1, hy2⟩ := info_parts infoM
  have hb4 : ((s.size : Int) % 4 == 0) = true := by simp; omega
  have hli : (s.size : Int) ≤ 64 := by omega
  have HN := hide hn
  clear hn
  go_enter Tryz.func145, Tryz.ntmps145
  go_wp2_with (go_at_call 95; refine (demand_true _).mono ?_; rintro e w' ⟨rfl, hw⟩; replace hw := hw.symm; subst hw)
  go_loopw [0, 3] (fun t o wr => ∃ (k : Nat) (u : ByteArray) (qo : Option Addr) (qa : Nat), k ≤ s.size / 4 ∧ t = .string u ∧ o = .slice qo k qa ∧ u.size + k * 4 = s.size ∧ Hid (Rest s u (k * 4)) ∧ Hid (OwnR wr w.heap.size 3 1 (.slice qo k qa) k (intV ((unL s).take k))) ∧ Hid (Below w.heap.size w wr)) (fun t _ _ => (txt t).size)
  case atStart => exact ⟨0, s, _, _, Nat.zero_le _, rfl, rfl, rfl, hide (Rest.zero s), hide (.inl ⟨rfl, rfl, _, rfl⟩), hide (Below.refl _ _)⟩
  case round =>
    obtain ⟨k, u, qo, qa, hk, rfl, rfl, hu, HR, HO, HB⟩ := hrel
    by_cases hlt : k < s.size / 4
    · have hu4 : 4 ≤ u.size := by omega
      have HNU : Hid (numB (numAt u 0) = true) := hide (by rw [(unhide HR).num hu4]; exact unhide HN k hlt)
      have HNE := hide ((unhide HR).num hu4)
      have hu0 : 0 < u.size := by omega
      have HSZU := hide (cut_size (u := u) 4)
      go_wp2_with fail
      refine (readNumber_ok u _ hu4 (unhide HNU)).mono ?_
      rintro e w1 ⟨rfl, hb1⟩
      have HB1 := hide (fr (unhide HB) hb1)
      have HO1 := hide ((unhide HO).below hb1)
      clear hb1
      have HOA := hide ((unhide HO1).below (Joins.below_alloc1 _ (.cells #[.int .i64 (numAt u 0)] 3)))
      have HBA := hide (fr (unhide HB1) (Joins.below_alloc1 _ (.cells #[.int .i64 (numAt u 0)] 3)))
      have HSZ := hide (unhide HB1).size
      go_wp2_with (at_builtin; refine wpList_append_one rfl _ _ 77 rfl w.heap.size 3 j0 (.int .i64 0) 1 8 Tryz.underlying77 hj hy0 hy1 hy2 rfl (by omega) qo k qa (intV ((unL s).take k)) rfl (unhide HOA) (by have := unhide HSZ; simp; omega) ⟨w1.heap.size, 0, none⟩ _ [.int .i64 (numAt u 0)] rfl rfl (byte_news w1 _ _) (int_one _) (by unfold maxLen; omega) (by omega) ?_; intro g2 cap2 wA hoA hkA; have HSF := hide (And.intro hoA (keep_below (unhide HBA) (unhide HOA) (Nat.le_refl _) hkA)); clear hoA hkA)
      go_roundw
      case rel => exact ⟨k + 1, _, _, _, by omega, rfl, rfl, by rw [unhide HSZU]; omega, hide (by rw [show (k + 1) * 4 = k * 4 + 4 by omega]; exact (unhide HR).cut hu4), hide (.inr ⟨by omega, by rw [unL_succ hlt, intV_snoc, ← unhide HNE]; exact (unhide HSF).1⟩), hide (unhide HSF).2⟩
      case measure => show (u.extract 4 u.size).size < u.size; rw [unhide HSZU]; omega
    · have hke : k = (unL s).length := by rw [unL_length]; omega
      have hu0 : u.size = 0 := by omega
      have HT : Hid ((unL s).take k = unL s) := hide (List.take_of_length_le (by omega))
      have HON : Hid (OwnR wr w.heap.size 3 1 (.slice qo (unL s).length qa) (unL s).length (intV (unL s))) := hide (by have := unhide HO; rw [unhide HT, hke] at this; exact this)
      subst hke
      go_wp2
      go_ret
      exact ⟨.slice qo (unL s).length qa, rfl, ⟨qo, qa, rfl, unhide HON⟩, unhide HB⟩

set_option maxHeartbeats 1600000 in
theorem readNumbers_bad (s : ByteArray) (w : World) (k0 : Nat) (h4 : s.size % 4 = 0) (hl : s.size ≤ 64) (hk0 : k0 < s.size / 4) (hn : ∀ k, k < k0 → numB (numAt s (k * 4)) = true) (hn0 : numB (numAt s (k0 * 4)) = false) (hE : ErrW w) :
    Calls Tryz.prog 145 #[.string s] w fun e w' => (∃ u pv, e = .panicked [{ v := .iface u pv, recovered := false }]) ∧ Below w.heap.size w w' := by
  obtain ⟨j0, hj, hy0, hy1, hy2⟩ := info_parts infoM
  have hb4 : ((s.size : Int) % 4 == 0) = true := by simp; omega
  have hli : (s.size : Int) ≤ 64 := by omega
  have HN := hide hn
  have HN0 := hide hn0
  have HE := hide hE
  clear hn hn0 hE
  go_enter Tryz.func145, Tryz.ntmps145
  go_wp2_with (go_at_call 95; refine (demand_true _).mono ?_; rintro e w' ⟨rfl, hw⟩; replace hw := hw.symm; subst hw)
  go_loopw [0, 3] (fun t o wr => ∃ (k : Nat) (u : ByteArray) (qo : Option Addr) (qa : Nat), k ≤ k0 ∧ t = .string u ∧ o = .slice qo k qa ∧ u.size + k * 4 = s.size ∧ Hid (Rest s u (k * 4)) ∧ Hid (OwnR wr w.heap.size 3 1 (.slice qo k qa) k (intV ((unL s).take k))) ∧ Hid (Below w.heap.size w wr)) (fun t _ _ => (txt t).size)
  case atStart => exact ⟨0, s, _, _, Nat.zero_le _, rfl, rfl, rfl, hide (Rest.zero s), hide (.inl ⟨rfl, rfl, _, rfl⟩), hide (Below.refl _ _)⟩
  case round =>
    obtain ⟨k, u, qo, qa, hk, rfl, rfl, hu, HR, HO, HB⟩ := hrel
    have hlt0 : k < s.size / 4 := by omega
    by_cases hlt : k < k0
    · have hu4 : 4 ≤ u.size := by omega
      have HNU : Hid (numB (numAt u 0) = true) := hide (by rw [(unhide HR).num hu4]; exact unhide HN k hlt)
      have HNE := hide ((unhide HR).num hu4)
      have hu0 : 0 < u.size := by omega
      have HSZU := hide (cut_size (u := u) 4)
      go_wp2_with fail
      refine (readNumber_ok u _ hu4 (unhide HNU)).mono ?_
      rintro e w1 ⟨rfl, hb1⟩
      have HB1 := hide (fr (unhide HB) hb1)
      have HO1 := hide ((unhide HO).below hb1)
      clear hb1
      have HOA := hide ((unhide HO1).below (Joins.below_alloc1 _ (.cells #[.int .i64 (numAt u 0)] 3)))
      have HBA := hide (fr (unhide HB1) (Joins.below_alloc1 _ (.cells #[.int .i64 (numAt u 0)] 3)))
      have HSZ := hide (unhide HB1).size
      go_wp2_with (at_builtin; refine wpList_append_one rfl _ _ 77 rfl w.heap.size 3 j0 (.int .i64 0) 1 8 Tryz.underlying77 hj hy0 hy1 hy2 rfl (by omega) qo k qa (intV ((unL s).take k)) rfl (unhide HOA) (by have := unhide HSZ; simp; omega) ⟨w1.heap.size, 0, none⟩ _ [.int .i64 (numAt u 0)] rfl rfl (byte_news w1 _ _) (int_one _) (by unfold maxLen; omega) (by omega) ?_; intro g2 cap2 wA hoA hkA; have HSF := hide (And.intro hoA (keep_below (unhide HBA) (unhide HOA) (Nat.le_refl _) hkA)); clear hoA hkA)
      go_roundw
      case rel => exact ⟨k + 1, _, _, _, by omega, rfl, rfl, by rw [unhide HSZU]; omega, hide (by rw [show (k + 1) * 4 = k * 4 + 4 by omega]; exact (unhide HR).cut hu4), hide (.inr ⟨by omega, by rw [unL_succ hlt0, intV_snoc, ← unhide HNE]; exact (unhide HSF).1⟩), hide (unhide HSF).2⟩
      case measure => show (u.extract 4 u.size).size < u.size; rw [unhide HSZU]; omega
    · have hu4 : 4 ≤ u.size := by omega
      have hu0 : 0 < u.size := by omega
      have hke : k = k0 := by omega
      have HNU : Hid (numB (numAt u 0) = false) := hide (by rw [(unhide HR).num hu4, hke]; exact unhide HN0)
      go_wp2_with fail
      refine (readNumber_no u _ hu4 (unhide HNU) ((unhide HE).below (unhide HB))).mono ?_
      rintro e w1 ⟨⟨u1, pv, rfl⟩, hb1⟩
      have HB1 := hide (fr (unhide HB) hb1)
      clear hb1
      go_wp2
      exact ⟨rfl, ⟨u1, pv, rfl⟩, unhide HB1⟩

set_option maxHeartbeats 800000 in
theorem readNumbers_form (s : ByteArray) (w : World) (h : s.size % 4 ≠ 0 ∨ 64 < s.size) (hE : ErrW w) :
    Calls Tryz.prog 145 #[.string s] w fun e w' => (∃ u pv, e = .panicked [{ v := .iface u pv, recovered := false }]) ∧ Below w.heap.size w w' := by
  have HE := hide hE
  clear hE
  by_cases h4 : s.size % 4 = 0
  · have hb4 : ((s.size : Int) % 4 == 0) = true := by simp; omega
    have hli : ¬ (s.size : Int) ≤ 64 := by omega
    go_enter Tryz.func145, Tryz.ntmps145
    go_wp2_with (go_at_call 95; refine (demand_false _ (unhide HE)).mono ?_; rintro e w' ⟨⟨u1, pv, rfl⟩, hw⟩; replace hw := hw.symm; subst hw)
    exact ⟨rfl, ⟨_, _, rfl⟩, Below.refl _ _⟩
  · have hb4 : ((s.size : Int) % 4 == 0) = false := by simp; omega
    go_enter Tryz.func145, Tryz.ntmps145
    go_wp2_with (go_at_call 95; refine (demand_false _ (unhide HE)).mono ?_; rintro e w' ⟨⟨u1, pv, rfl⟩, hw⟩; replace hw := hw.symm; subst hw)
    exact ⟨rfl, ⟨_, _, rfl⟩, Below.refl _ _⟩

theorem first_bad {p : Nat → Bool} : ∀ n, (∀ k, k < n → p k = true) ∨ ∃ k0, k0 < n ∧ (∀ k, k < k0 → p k = true) ∧ p k0 = false
  | 0 => .inl (fun k hk => by omega)
  | n + 1 => by
    rcases first_bad (p := p) n with h | ⟨k0, h0, h1, h2⟩
    · cases hp : p n with
      | true => exact .inl (fun k hk => by
          by_cases e : k = n
          · subst e; exact hp
          · exact h k (by omega))
      | false => exact .inr ⟨n, by omega, h, hp⟩
    · exact .inr ⟨k0, by omega, h1, h2⟩

theorem readNumbers_yes (s : ByteArray) (w : World) (h : okU s = true) :
    Calls Tryz.prog 145 #[.string s] w fun e w' => ∃ v, e = .returned v ∧ OwnN w' w.heap.size v (unL s) ∧ Below w.heap.size w w' := by
  have h4 : s.size % 4 = 0 := by
    by_cases h4 : s.size % 4 = 0
    · exact h4
    · rw [okU_rest h4] at h; cases h
  have hl : s.size ≤ 64 := by
    by_cases hl : 64 < s.size
    · rw [okU_long hl] at h; cases h
    · omega
  refine readNumbers_ok s w h4 hl (fun k hk => ?_)
  cases hb : numB (numAt s (k * 4)) with
  | true => rfl
  | false => rw [okU_bad hk hb] at h; cases h
theorem readNumbers_no (s : ByteArray) (w : World) (h : okU s = false) (hE : ErrW w) :
    Calls Tryz.prog 145 #[.string s] w fun e w' => (∃ u pv, e = .panicked [{ v := .iface u pv, recovered := false }]) ∧ Below w.heap.size w w' := by
  by_cases h4 : s.size % 4 = 0
  · by_cases hl : s.size ≤ 64
    · rcases first_bad (p := fun k => numB (numAt s (k * 4))) (s.size / 4) with hg | ⟨k0, h0, h1, h2⟩
      · rw [okU_true h4 hl hg] at h; cases h
      · exact readNumbers_bad s w k0 h4 hl h0 h1 h2 hE
    · exact readNumbers_form s w (.inr (by omega)) hE
  · exact readNumbers_form s w (.inl h4) hE

end Go.Proofs.YtefnapcegeojoaaGreatDoor

namespace Go.Proofs.YtefnapcegeojoaaGreatDoor
open Go.RowKit
set_option linter.unusedVariables false
set_option maxRecDepth 100000

structure HeadSt (w W : World) : Prop where
  blk : W.heap[w.heap.size]? = some (.cells #[.int .i64 0, .slice none 0 0] 153 (0, 0))
  size : w.heap.size + 2 ≤ W.heap.size
  below : Below w.heap.size w W
theorem HeadSt.mk' (w : World) (a b : Obj) (n : Nat) (ha : a = .cells #[.int .i64 0, .slice none 0 0] 153) : HeadSt w (((w.alloc a).alloc b).drewN n) := by
  subst ha
  have h : Below w.heap.size w ((w.alloc (.cells #[.int .i64 0, .slice none 0 0] 153)).alloc b) := Joins.below_alloc2 _ _ _
  refine ⟨?_, by simp, h.trans (Joins.below_draws _ _ _)⟩
  show ((w.alloc _).alloc b).heap[w.heap.size]? = _
  rw [(Joins.below_alloc1 _ b).block _ (by simp)]
  exact heap_alloc_new w _

theorem sum_rec (s : ByteArray) (n : Int) (w : World) (hs : s.size ≤ 65536) (h4 : 4 ≤ s.size) (hn : sumC (headT s ++ bodyT s) = n) : Calls Tryz.prog 92 #[.string (s.extract 0 2 ++ s.extract 4 s.size)] w fun e w' => e = .returned (.int .i64 n) ∧ w' = w := by
  subst hn
  exact sumOf_impl (headT s ++ bodyT s) w (by rw [ByteArray.size_append, bodyT_size, headT_size h4]; omega)

set_option maxHeartbeats 1600000 in
theorem readRecord_yes (s : ByteArray) (w : World) (hs : s.size ≤ 65536) (hr : RecP s) : Calls Tryz.prog 125 #[.string s] w fun e w' => ∃ v, e = .returned (.agg #[.int .i64 (byteAt s 0), v]) ∧ OwnN w' w.heap.size v (unL (bodyT s)) ∧ Below w.heap.size w w' := by
  obtain ⟨h4, hk, h3, hcnt, hsum, hok⟩ := hr
  have hc4 := copy4_at (w.alloc (.cells #[.int .i64 0, .slice none 0 0] 153)) (w.heap.size + 1) s (by simp) h4
  have h4i : (4 : Int) ≤ (s.size : Int) := by omega
  have b0 := byteAt_in s 0
  have b1 := byteAt_in s 1
  have b2 := byteAt_in s 2
  have HBZ := hide (bodyT_size s)
  have HHZ := hide (headT_size h4)
  have b3 : (byteAt s 3 == 0) = true := by simp [h3]
  have HSM : Hid (sumC (headT s ++ bodyT s) = byteAt s 2) := hide (by rw [hsum]; exact sumC_short (by rw [ByteArray.size_append, bodyT_size, headT_size h4]; omega))
  have HOK := hide hok
  have hlen : (((s.size - 4 : Nat) : Int) == byteAt s 1 * 4) = true := by rw [bodyT_size] at hcnt; simp [hcnt]
  clear h3 hcnt hsum hok
  go_enter Tryz.func125, Tryz.ntmps125
  go_wp2_with (first | (go_at_call 95; refine (demand_true _).mono ?_; rintro e w' ⟨rfl, hw⟩; replace hw := hw.symm; subst hw))
  go_quiet (fail)
  have HH := hide (HeadSt.mk' w (.cells #[.int .i64 0, .slice none 0 0] 153) (.cells #[.int .u8 (byteAt s 0), .int .u8 (byteAt s 1), .int .u8 (byteAt s 2), .int .u8 (byteAt s 3)] 113) nq rfl)
  revert HH
  generalize (((w.alloc (.cells #[.int .i64 0, .slice none 0 0] 153)).alloc (.cells #[.int .u8 (byteAt s 0), .int .u8 (byteAt s 1), .int .u8 (byteAt s 2), .int .u8 (byteAt s 3)] 113)).drewN nq) = W
  intro HH
  clear hc4
  go_wp2_with (first | (go_at_call 90; refine (kindOK_any _ _).mono ?_; rintro e w' ⟨rfl, hw⟩; replace hw := hw.symm; subst hw) | (go_at_call 95; refine (demand_true _).mono ?_; rintro e w' ⟨rfl, hw⟩; replace hw := hw.symm; subst hw) | (go_at_call 92; refine (sum_rec s _ _ hs h4 (unhide HSM)).mono ?_; rintro e w' ⟨rfl, hw⟩; replace hw := hw.symm; subst hw))
  refine (readNumbers_yes (bodyT s) _ (unhide HOK)).mono ?_
  rintro e w1 ⟨v, rfl, ⟨qo, qa, rfl, ho⟩, hb⟩
  have hblk : w1.heap[w.heap.size]? = some (.cells #[.int .i64 0, .slice none 0 0] 153 (0, 0)) := by
    rw [hb.block _ (by have := (unhide HH).size; omega)]; exact (unhide HH).blk
  have hc0 : w1.cell? ⟨w.heap.size, 0, none⟩ = some (.int .i64 0) := by rw [Joins.cell_of_block hblk]; rfl
  have hc1 : w1.cell? ⟨w.heap.size, 1, none⟩ = some (.slice none 0 0) := by rw [Joins.cell_of_block hblk]; rfl
  have hf0 := Joins.unfrozen_of_block hblk 0
  have hf1 := Joins.unfrozen_of_block hblk 1
  have HO := hide (ho.base (B' := w.heap.size + 1) (by have := (unhide HH).size; omega))
  have HB := hide (fr (unhide HH).below hb)
  clear ho hb hblk
  go_wp2
  exact bodyPost_ret (v := .agg #[.int .i64 (byteAt s 0), .slice qo (unL (bodyT s)).length qa]) (by simp [results, Tryz.results125, go_sem, hc0, hc1]) rfl
    ⟨.slice qo (unL (bodyT s)).length qa, rfl, ⟨qo, qa, rfl, (((unhide HO).setCell (a := ⟨w.heap.size, 0, none⟩) (Nat.lt_succ_self _) _).setCell (a := ⟨w.heap.size, 1, none⟩) (Nat.lt_succ_self _) _).base (Nat.le_succ _)⟩, ((unhide HB).setCell (p := ⟨w.heap.size, 0, none⟩) (Nat.le_refl _) _).setCell (p := ⟨w.heap.size, 1, none⟩) (Nat.le_refl _) _⟩

theorem readRecord_short (s : ByteArray) (w : World) (h4 : ¬ 4 ≤ s.size) (hE : ErrW w) : Calls Tryz.prog 125 #[.string s] w fun e w' => (∃ u pv, e = .panicked [{ v := .iface u pv, recovered := false }]) ∧ Below w.heap.size w w' := by
  have HE := hide (hE.below (Joins.below_alloc1 w (.cells #[.int .i64 0, .slice none 0 0] 153)))
  have h4i : ¬ (4 : Int) ≤ (s.size : Int) := by omega
  clear hE
  go_enter Tryz.func125, Tryz.ntmps125
  go_wp2_with (go_at_call 95; refine (demand_false _ (unhide HE)).mono ?_; rintro e w' ⟨⟨u, pv, rfl⟩, hw⟩; replace hw := hw.symm; subst hw)
  exact ⟨rfl, ⟨_, _, rfl⟩, Joins.below_alloc1 _ _⟩

set_option maxHeartbeats 1600000 in
theorem readRecord_kind (s : ByteArray) (w : World) (hs : s.size ≤ 65536) (h4 : 4 ≤ s.size) (hk : kindB (byteAt s 0) = false) (hE : ErrW w) : Calls Tryz.prog 125 #[.string s] w fun e w' => (∃ u pv, e = .panicked [{ v := .iface u pv, recovered := false }]) ∧ Below w.heap.size w w' := by
  have HE := hide hE
  clear hE
  have hc4 := copy4_at (w.alloc (.cells #[.int .i64 0, .slice none 0 0] 153)) (w.heap.size + 1) s (by simp) h4
  have h4i : (4 : Int) ≤ (s.size : Int) := by omega
  have b0 := byteAt_in s 0
  have b1 := byteAt_in s 1
  have b2 := byteAt_in s 2
  have HBZ := hide (bodyT_size s)
  have HHZ := hide (headT_size h4)
  go_enter Tryz.func125, Tryz.ntmps125
  go_wp2_with (first | (go_at_call 95; refine (demand_true _).mono ?_; rintro e w' ⟨rfl, hw⟩; replace hw := hw.symm; subst hw))
  go_quiet (fail)
  have HH := hide (HeadSt.mk' w (.cells #[.int .i64 0, .slice none 0 0] 153) (.cells #[.int .u8 (byteAt s 0), .int .u8 (byteAt s 1), .int .u8 (byteAt s 2), .int .u8 (byteAt s 3)] 113) nq rfl)
  revert HH
  generalize (((w.alloc (.cells #[.int .i64 0, .slice none 0 0] 153)).alloc (.cells #[.int .u8 (byteAt s 0), .int .u8 (byteAt s 1), .int .u8 (byteAt s 2), .int .u8 (byteAt s 3)] 113)).drewN nq) = W
  intro HH
  clear hc4
  go_wp2_with (first | (go_at_call 90; refine (kindOK_any _ _).mono ?_; rintro e w' ⟨rfl, hw⟩; replace hw := hw.symm; subst hw) | (go_at_call 95; refine (demand_false _ ((unhide HE).below (unhide HH).below)).mono ?_; rintro e w' ⟨⟨u, pv, rfl⟩, hw⟩; replace hw := hw.symm; subst hw))
  exact ⟨rfl, ⟨_, _, rfl⟩, (unhide HH).below⟩

set_option maxHeartbeats 1600000 in
theorem readRecord_last (s : ByteArray) (w : World) (hs : s.size ≤ 65536) (h4 : 4 ≤ s.size) (hk : kindB (byteAt s 0) = true) (h3 : byteAt s 3 ≠ 0) (hE : ErrW w) : Calls Tryz.prog 125 #[.string s] w fun e w' => (∃ u pv, e = .panicked [{ v := .iface u pv, recovered := false }]) ∧ Below w.heap.size w w' := by
  have HE := hide hE
  clear hE
  have hc4 := copy4_at (w.alloc (.cells #[.int .i64 0, .slice none 0 0] 153)) (w.heap.size + 1) s (by simp) h4
  have h4i : (4 : Int) ≤ (s.size : Int) := by omega
  have b0 := byteAt_in s 0
  have b1 := byteAt_in s 1
  have b2 := byteAt_in s 2
  have HBZ := hide (bodyT_size s)
  have HHZ := hide (headT_size h4)
  have b3 : (byteAt s 3 == 0) = false := by simp [h3]
  clear h3
  go_enter Tryz.func125, Tryz.ntmps125
  go_wp2_with (first | (go_at_call 95; refine (demand_true _).mono ?_; rintro e w' ⟨rfl, hw⟩; replace hw := hw.symm; subst hw))
  go_quiet (fail)
  have HH := hide (HeadSt.mk' w (.cells #[.int .i64 0, .slice none 0 0] 153) (.cells #[.int .u8 (byteAt s 0), .int .u8 (byteAt s 1), .int .u8 (byteAt s 2), .int .u8 (byteAt s 3)] 113) nq rfl)
  revert HH
  generalize (((w.alloc (.cells #[.int .i64 0, .slice none 0 0] 153)).alloc (.cells #[.int .u8 (byteAt s 0), .int .u8 (byteAt s 1), .int .u8 (byteAt s 2), .int .u8 (byteAt s 3)] 113)).drewN nq) = W
  intro HH
  clear hc4
  go_wp2_with (first | (go_at_call 90; refine (kindOK_any _ _).mono ?_; rintro e w' ⟨rfl, hw⟩; replace hw := hw.symm; subst hw) | (go_at_call 95; refine (demand_false _ ((unhide HE).below (unhide HH).below)).mono ?_; rintro e w' ⟨⟨u, pv, rfl⟩, hw⟩; replace hw := hw.symm; subst hw))
  exact ⟨rfl, ⟨_, _, rfl⟩, (unhide HH).below⟩

set_option maxHeartbeats 1600000 in
theorem readRecord_count (s : ByteArray) (w : World) (hs : s.size ≤ 65536) (h4 : 4 ≤ s.size) (hk : kindB (byteAt s 0) = true) (h3 : byteAt s 3 = 0) (hcnt : ((bodyT s).size : Int) ≠ byteAt s 1 * 4) (hE : ErrW w) : Calls Tryz.prog 125 #[.string s] w fun e w' => (∃ u pv, e = .panicked [{ v := .iface u pv, recovered := false }]) ∧ Below w.heap.size w w' := by
  have HE := hide hE
  clear hE
  have hc4 := copy4_at (w.alloc (.cells #[.int .i64 0, .slice none 0 0] 153)) (w.heap.size + 1) s (by simp) h4
  have h4i : (4 : Int) ≤ (s.size : Int) := by omega
  have b0 := byteAt_in s 0
  have b1 := byteAt_in s 1
  have b2 := byteAt_in s 2
  have HBZ := hide (bodyT_size s)
  have HHZ := hide (headT_size h4)
  have b3 : (byteAt s 3 == 0) = true := by simp [h3]
  have hlen : (((s.size - 4 : Nat) : Int) == byteAt s 1 * 4) = false := by rw [bodyT_size] at hcnt; simp [hcnt]
  clear h3 hcnt
  go_enter Tryz.func125, Tryz.ntmps125
  go_wp2_with (first | (go_at_call 95; refine (demand_true _).mono ?_; rintro e w' ⟨rfl, hw⟩; replace hw := hw.symm; subst hw))
  go_quiet (fail)
  have HH := hide (HeadSt.mk' w (.cells #[.int .i64 0, .slice none 0 0] 153) (.cells #[.int .u8 (byteAt s 0), .int .u8 (byteAt s 1), .int .u8 (byteAt s 2), .int .u8 (byteAt s 3)] 113) nq rfl)
  revert HH
  generalize (((w.alloc (.cells #[.int .i64 0, .slice none 0 0] 153)).alloc (.cells #[.int .u8 (byteAt s 0), .int .u8 (byteAt s 1), .int .u8 (byteAt s 2), .int .u8 (byteAt s 3)] 113)).drewN nq) = W
  intro HH
  clear hc4
  go_wp2_with (first | (go_at_call 90; refine (kindOK_any _ _).mono ?_; rintro e w' ⟨rfl, hw⟩; replace hw := hw.symm; subst hw) | (go_at_call 95; refine (demand_true _).mono ?_; rintro e w' ⟨rfl, hw⟩; replace hw := hw.symm; subst hw) | (go_at_call 95; refine (demand_false _ ((unhide HE).below (unhide HH).below)).mono ?_; rintro e w' ⟨⟨u, pv, rfl⟩, hw⟩; replace hw := hw.symm; subst hw))
  exact ⟨rfl, ⟨_, _, rfl⟩, (unhide HH).below⟩

set_option maxHeartbeats 1600000 in
theorem readRecord_sum (s : ByteArray) (w : World) (hs : s.size ≤ 65536) (h4 : 4 ≤ s.size) (hk : kindB (byteAt s 0) = true) (h3 : byteAt s 3 = 0) (hcnt : ((bodyT s).size : Int) = byteAt s 1 * 4) (hsum : byteAt s 2 ≠ sumS (headT s ++ bodyT s)) (hE : ErrW w) : Calls Tryz.prog 125 #[.string s] w fun e w' => (∃ u pv, e = .panicked [{ v := .iface u pv, recovered := false }]) ∧ Below w.heap.size w w' := by
  have HE := hide hE
  clear hE
  have hc4 := copy4_at (w.alloc (.cells #[.int .i64 0, .slice none 0 0] 153)) (w.heap.size + 1) s (by simp) h4
  have h4i : (4 : Int) ≤ (s.size : Int) := by omega
  have b0 := byteAt_in s 0
  have b1 := byteAt_in s 1
  have b2 := byteAt_in s 2
  have HBZ := hide (bodyT_size s)
  have HHZ := hide (headT_size h4)
  have b3 : (byteAt s 3 == 0) = true := by simp [h3]
  have hlen : (((s.size - 4 : Nat) : Int) == byteAt s 1 * 4) = true := by rw [bodyT_size] at hcnt; simp [hcnt]
  have HSM : Hid (sumC (headT s ++ bodyT s) = sumS (headT s ++ bodyT s)) := hide (sumC_short (by rw [ByteArray.size_append, bodyT_size, headT_size h4]; omega))
  have hsb : (byteAt s 2 == sumS (headT s ++ bodyT s)) = false := by simp [hsum]
  clear h3 hcnt hsum
  go_enter Tryz.func125, Tryz.ntmps125
  go_wp2_with (first | (go_at_call 95; refine (demand_true _).mono ?_; rintro e w' ⟨rfl, hw⟩; replace hw := hw.symm; subst hw))
  go_quiet (fail)
  have HH := hide (HeadSt.mk' w (.cells #[.int .i64 0, .slice none 0 0] 153) (.cells #[.int .u8 (byteAt s 0), .int .u8 (byteAt s 1), .int .u8 (byteAt s 2), .int .u8 (byteAt s 3)] 113) nq rfl)
  revert HH
  generalize (((w.alloc (.cells #[.int .i64 0, .slice none 0 0] 153)).alloc (.cells #[.int .u8 (byteAt s 0), .int .u8 (byteAt s 1), .int .u8 (byteAt s 2), .int .u8 (byteAt s 3)] 113)).drewN nq) = W
  intro HH
  clear hc4
  go_wp2_with (first | (go_at_call 90; refine (kindOK_any _ _).mono ?_; rintro e w' ⟨rfl, hw⟩; replace hw := hw.symm; subst hw) | (go_at_call 95; refine (demand_true _).mono ?_; rintro e w' ⟨rfl, hw⟩; replace hw := hw.symm; subst hw) | (go_at_call 92; refine (sum_rec s _ _ hs h4 (unhide HSM)).mono ?_; rintro e w' ⟨rfl, hw⟩; replace hw := hw.symm; subst hw) | (go_at_call 95; refine (demand_false _ ((unhide HE).below (unhide HH).below)).mono ?_; rintro e w' ⟨⟨u, pv, rfl⟩, hw⟩; replace hw := hw.symm; subst hw))
  exact ⟨rfl, ⟨_, _, rfl⟩, (unhide HH).below⟩

set_option maxHeartbeats 1600000 in
theorem readRecord_nums (s : ByteArray) (w : World) (hs : s.size ≤ 65536) (h4 : 4 ≤ s.size) (hk : kindB (byteAt s 0) = true) (h3 : byteAt s 3 = 0) (hcnt : ((bodyT s).size : Int) = byteAt s 1 * 4) (hsum : byteAt s 2 = sumS (headT s ++ bodyT s)) (hok : okU (bodyT s) = false) (hE : ErrW w) : Calls Tryz.prog 125 #[.string s] w fun e w' => (∃ u pv, e = .panicked [{ v := .iface u pv, recovered := false }]) ∧ Below w.heap.size w w' := by
  have HE := hide hE
  clear hE
  have hc4 := copy4_at (w.alloc (.cells #[.int .i64 0, .slice none 0 0] 153)) (w.heap.size + 1) s (by simp) h4
  have h4i : (4 : Int) ≤ (s.size : Int) := by omega
  have b0 := byteAt_in s 0
  have b1 := byteAt_in s 1
  have b2 := byteAt_in s 2
  have HBZ := hide (bodyT_size s)
  have HHZ := hide (headT_size h4)
  have b3 : (byteAt s 3 == 0) = true := by simp [h3]
  have hlen : (((s.size - 4 : Nat) : Int) == byteAt s 1 * 4) = true := by rw [bodyT_size] at hcnt; simp [hcnt]
  have HSM : Hid (sumC (headT s ++ bodyT s) = byteAt s 2) := hide (by rw [hsum]; exact sumC_short (by rw [ByteArray.size_append, bodyT_size, headT_size h4]; omega))
  have HOK := hide hok
  clear h3 hcnt hsum hok
  go_enter Tryz.func125, Tryz.ntmps125
  go_wp2_with (first | (go_at_call 95; refine (demand_true _).mono ?_; rintro e w' ⟨rfl, hw⟩; replace hw := hw.symm; subst hw))
  go_quiet (fail)
  have HH := hide (HeadSt.mk' w (.cells #[.int .i64 0, .slice none 0 0] 153) (.cells #[.int .u8 (byteAt s 0), .int .u8 (byteAt s 1), .int .u8 (byteAt s 2), .int .u8 (byteAt s 3)] 113) nq rfl)
  revert HH
  generalize (((w.alloc (.cells #[.int .i64 0, .slice none 0 0] 153)).alloc (.cells #[.int .u8 (byteAt s 0), .int .u8 (byteAt s 1), .int .u8 (byteAt s 2), .int .u8 (byteAt s 3)] 113)).drewN nq) = W
  intro HH
  clear hc4
  go_wp2_with (first | (go_at_call 90; refine (kindOK_any _ _).mono ?_; rintro e w' ⟨rfl, hw⟩; replace hw := hw.symm; subst hw) | (go_at_call 95; refine (demand_true _).mono ?_; rintro e w' ⟨rfl, hw⟩; replace hw := hw.symm; subst hw) | (go_at_call 92; refine (sum_rec s _ _ hs h4 (unhide HSM)).mono ?_; rintro e w' ⟨rfl, hw⟩; replace hw := hw.symm; subst hw))
  refine (readNumbers_no (bodyT s) _ (unhide HOK) ((unhide HE).below (unhide HH).below)).mono ?_
  rintro e w1 ⟨⟨u, pv, rfl⟩, hb⟩
  have HB := hide (fr (unhide HH).below hb)
  clear hb
  go_wp2
  exact ⟨rfl, ⟨u, pv, rfl⟩, unhide HB⟩

theorem readRecord_no (s : ByteArray) (w : World) (hs : s.size ≤ 65536) (hr : ¬ RecP s) (hE : ErrW w) : Calls Tryz.prog 125 #[.string s] w fun e w' => (∃ u pv, e = .panicked [{ v := .iface u pv, recovered := false }]) ∧ Below w.heap.size w w' := by
  by_cases h4 : 4 ≤ s.size
  · cases hk : kindB (byteAt s 0) with
    | false => exact readRecord_kind s w hs h4 hk hE
    | true =>
      by_cases h3 : byteAt s 3 = 0
      · by_cases hcnt : ((bodyT s).size : Int) = byteAt s 1 * 4
        · by_cases hsum : byteAt s 2 = sumS (headT s ++ bodyT s)
          · cases hok : okU (bodyT s) with
            | false => exact readRecord_nums s w hs h4 hk h3 hcnt hsum hok hE
            | true => exact absurd ⟨h4, hk, h3, hcnt, hsum, hok⟩ hr
          · exact readRecord_sum s w hs h4 hk h3 hcnt hsum hE
        · exact readRecord_count s w hs h4 hk h3 hcnt hE
      · exact readRecord_last s w hs h4 hk h3 hE
  · exact readRecord_short s w h4 hE

end Go.Proofs.YtefnapcegeojoaaGreatDoor

namespace Go.Proofs.YtefnapcegeojoaaGreatDoor
open Go.RowKit
set_option linter.unusedVariables false
set_option maxRecDepth 100000

set_option maxHeartbeats 1600000 in
theorem readKind_yes (s : ByteArray) (k : Int) (w : World) (hs : s.size ≤ 65536) (hr : RecP s) (hk : byteAt s 0 = k) :
    Calls Tryz.prog 94 #[.string s, .int .i64 k] w fun e w' => ∃ v, e = .returned v ∧ OwnN w' w.heap.size v (unL (bodyT s)) ∧ Below w.heap.size w w' := by
  subst hk
  go_enter Tryz.func94, Tryz.ntmps94
  go_wp2_with fail
  refine (readRecord_yes s _ hs hr).mono ?_
  rintro e w1 ⟨v, rfl, ⟨qo, qa, rfl, ho⟩, hb⟩
  have HO := hide (ho.below (Joins.below_alloc1 _ (.cells #[.int .i64 (byteAt s 0), .slice qo (unL (bodyT s)).length qa] 153)))
  have HB := hide (fr hb (Joins.below_alloc1 _ (.cells #[.int .i64 (byteAt s 0), .slice qo (unL (bodyT s)).length qa] 153)))
  clear ho hb
  go_wp2_with (go_at_call 95; refine (demand_true _).mono ?_; rintro e w' ⟨rfl, hw⟩; replace hw := hw.symm; subst hw)
  go_ret
  exact ⟨.slice qo (unL (bodyT s)).length qa, rfl, ⟨qo, qa, rfl, unhide HO⟩, unhide HB⟩

set_option maxHeartbeats 1600000 in
theorem readKind_no (s : ByteArray) (k : Int) (w : World) (hs : s.size ≤ 65536) (hr : ¬ (RecP s ∧ byteAt s 0 = k)) (hE : ErrW w) :
    Calls Tryz.prog 94 #[.string s, .int .i64 k] w fun e w' => (∃ u pv, e = .panicked [{ v := .iface u pv, recovered := false }]) ∧ Below w.heap.size w w' := by
  by_cases hp : RecP s
  · have hkb : (byteAt s 0 == k) = false := by rw [beq_eq_false_iff_ne]; exact fun e => hr ⟨hp, e⟩
    have HE := hide hE
    clear hr hE
    go_enter Tryz.func94, Tryz.ntmps94
    go_wp2_with fail
    refine (readRecord_yes s _ hs hp).mono ?_
    rintro e w1 ⟨v, rfl, ⟨qo, qa, rfl, ho⟩, hb⟩
    have HB := hide (fr hb (Joins.below_alloc1 _ (.cells #[.int .i64 (byteAt s 0), .slice qo (unL (bodyT s)).length qa] 153)))
    clear ho hb
    go_wp2_with (go_at_call 95; refine (demand_false _ ((unhide HE).below (unhide HB))).mono ?_; rintro e w' ⟨⟨u, pv, rfl⟩, hw⟩; replace hw := hw.symm; subst hw)
    exact ⟨rfl, ⟨_, _, rfl⟩, unhide HB⟩
  · go_enter Tryz.func94, Tryz.ntmps94
    go_wp2_with fail
    refine (readRecord_no s _ hs hp hE).mono ?_
    rintro e w1 ⟨⟨u, pv, rfl⟩, hb⟩
    have HB := hide hb
    clear hb
    go_wp2
    exact ⟨rfl, ⟨_, _, rfl⟩, unhide HB⟩

end Go.Proofs.YtefnapcegeojoaaGreatDoor

namespace Go.Proofs.YtefnapcegeojoaaGreatDoor
open Go.RowKit
set_option linter.unusedVariables false
set_option maxRecDepth 100000

theorem openB_iff {t : ByteArray} {k : Int} : openB t k = true ↔ RecP t ∧ byteAt t 0 = k := by
  simp only [openB, Bool.and_eq_true, decide_eq_true_eq, recB_iff]
end Go.Proofs.YtefnapcegeojoaaGreatDoor

namespace Go.Proofs.YtefnapcegeojoaaGreatDoor
open Go.RowKit
set_option linter.unusedVariables false
set_option maxRecDepth 100000

theorem ld_open {t : ByteArray} (h : ldD t = true) : (RecP t ∧ byteAt t 0 = 6) ∧ ∃ a b c, unL (bodyT t) = [a, b, c] ∧ ldB ⟨a, b - 1, c⟩ = true ∧ ldK t = ⟨a, b - 1, c⟩ ∧ IntKind.i64.wrap (b - 1) = b - 1 := by
  have h' := h
  simp only [ldD, Bool.and_eq_true, decide_eq_true_eq] at h'
  obtain ⟨ho, hl, hd⟩ := h'
  obtain ⟨a, b, c, e⟩ := three hl
  rw [e] at hd
  refine ⟨openB_iff.1 ho, a, b, c, ?_, hd, ld_yes h e, open_mid ho e⟩
  rw [← e, ldL, openL_yes ho]
theorem ld_shut {t : ByteArray} (h : ldD t = false) (ho : RecP t ∧ byteAt t 0 = 6) (hl : (unL (bodyT t)).length = 3) : ∃ a b c, unL (bodyT t) = [a, b, c] ∧ ldB ⟨a, b - 1, c⟩ = false ∧ IntKind.i64.wrap (b - 1) = b - 1 := by
  have ho' := openB_iff.2 ho
  obtain ⟨a, b, c, e⟩ := three hl
  have e' : ldL t = [a, b, c] := by rw [← e, ldL, openL_yes ho']
  refine ⟨a, b, c, e, ?_, open_mid ho' e'⟩
  rw [← ldD_at ho' e']; exact h

set_option maxHeartbeats 1600000 in
theorem readLeader_yes (t : ByteArray) (w : World) (hs : t.size ≤ 65536) (hd : ldD t = true) :
    Calls Tryz.prog 46 #[.string t] w fun e w' => e = .returned (lV (ldK t)) ∧ Below w.heap.size w w' := by
  obtain ⟨⟨hr, hk⟩, a, b, c, hl, hdd, e1, wr1⟩ := ld_open hd
  rw [e1]
  have HL := hide hl
  have HDD := hide hdd
  have HR := hide hr
  have HK := hide hk
  clear hl hdd e1 hr hk hd
  have HA := hide (Joins.below_alloc1 w (.cells #[.int .i64 0, .int .i64 0, .int .i64 0] 30))
  have HV := hide (VarT.new w 30 0 0 0)
  go_enter Tryz.func46, Tryz.ntmps46
  go_wp2_with fail
  refine (readKind_yes t 6 _ hs (unhide HR) (unhide HK)).mono ?_
  rintro e w1 ⟨v, rfl, ⟨qo, qa, rfl, ho⟩, hb⟩
  have HB := hide (fr (unhide HA) hb)
  have HB1 := hide hb
  have hI := ownRN ho
  rw [unhide HL] at hI ⊢
  obtain ⟨g, off, rfl, hi0⟩ := hI 0 (by simp)
  obtain ⟨g', off', he, hi1⟩ := hI 1 (by simp)
  cases he
  obtain ⟨g', off', he, hi2⟩ := hI 2 (by simp)
  cases he
  simp only [List.getElem_cons_zero, List.getElem_cons_succ, Nat.add_zero] at hi0 hi1 hi2
  have hg := World.block_lt_of_cell? _ _ hi0
  clear hI ho hb
  simp only [List.length_cons, List.length_nil, Nat.zero_add, Nat.reduceAdd]
  go_wp2_with (go_at_call 95; refine (demand_true _).mono ?_; rintro e w' ⟨rfl, hw⟩; replace hw := hw.symm; subst hw)
  have HA2 := hide (Joins.below_alloc1 w1 (.cells #[.int .i64 a, .int .i64 (b - 1), .int .i64 c] 30)).drew
  have HV2 := hide (((unhide HV).below (unhide HB1)).below (unhide HA2))
  have HV3 : Hid (VarT (w1.alloc (.cells #[.int .i64 a, .int .i64 (b - 1), .int .i64 c] 30)).drew w1.heap.size 30 a (b - 1) c) := hide ((VarT.new w1 30 a (b - 1) c).below (Below.refl _ _).drew)
  have HB2 := hide (fr (unhide HB) (unhide HA2))
  go_region
  go_wp2_with fail
  refine (leaderOK_impl ⟨a, b - 1, c⟩ _).mono ?_
  rintro e w2 ⟨rfl, hb2⟩
  rw [unhide HDD]
  have HB3 := hide (fr (unhide HB2) hb2)
  obtain ⟨hc0, hc1, hc2⟩ := ((unhide HV2).below hb2).cells
  obtain ⟨hf0, hf1, hf2⟩ := ((unhide HV2).below hb2).free
  obtain ⟨hx0, hx1, hx2⟩ := ((unhide HV3).below hb2).cells
  have HR3 := hide (fun u v x => below3 (unhide HB3) (Nat.le_refl _) 0 1 2 u v x)
  clear hb2 hi0 hi1 hi2
  go_wp2_with (go_at_call 95; refine (demand_true _).mono ?_; rintro e w' ⟨rfl, hw⟩; replace hw := hw.symm; subst hw)
  exact bodyPost_ret (v := lV ⟨a, b - 1, c⟩) (by simp [results, Tryz.results46, go_sem, hc0, hc1, hc2]) rfl ⟨rfl, unhide HR3 _ _ _⟩

set_option maxHeartbeats 1600000 in
theorem readLeader_no (t : ByteArray) (w : World) (hs : t.size ≤ 65536) (hd : ldD t = false) (hE : ErrW w) :
    Calls Tryz.prog 46 #[.string t] w fun e w' => (∃ u pv, e = .panicked [{ v := .iface u pv, recovered := false }]) ∧ Below w.heap.size w w' := by
  have HA := hide (Joins.below_alloc1 w (.cells #[.int .i64 0, .int .i64 0, .int .i64 0] 30))
  have HE := hide (hE.below (unhide HA))
  clear hE
  by_cases hr : RecP t ∧ byteAt t 0 = 6
  · obtain ⟨hr1, hr2⟩ := hr
    by_cases hl : (unL (bodyT t)).length = 3
    · obtain ⟨a, b, c, hl, hdd, wr1⟩ := ld_shut hd ⟨hr1, hr2⟩ hl
      have HL := hide hl
      have HDD := hide hdd
      have HR := hide hr1
      have HK := hide hr2
      clear hl hdd hr1 hr2 hd
      go_enter Tryz.func46, Tryz.ntmps46
      go_wp2_with fail
      refine (readKind_yes t 6 _ hs (unhide HR) (unhide HK)).mono ?_
      rintro e w1 ⟨v, rfl, ⟨qo, qa, rfl, ho⟩, hb⟩
      have HB := hide (fr (unhide HA) hb)
      have HE1 := hide ((unhide HE).below hb)
      have hI := ownRN ho
      rw [unhide HL] at hI ⊢
      obtain ⟨g, off, rfl, hi0⟩ := hI 0 (by simp)
      obtain ⟨g', off', he, hi1⟩ := hI 1 (by simp)
      cases he
      obtain ⟨g', off', he, hi2⟩ := hI 2 (by simp)
      cases he
      simp only [List.getElem_cons_zero, List.getElem_cons_succ, Nat.add_zero] at hi0 hi1 hi2
      have hg := World.block_lt_of_cell? _ _ hi0
      clear hI ho hb
      simp only [List.length_cons, List.length_nil, Nat.zero_add, Nat.reduceAdd]
      go_wp2_with (go_at_call 95; refine (demand_true _).mono ?_; rintro e w' ⟨rfl, hw⟩; replace hw := hw.symm; subst hw)
      have HA2 := hide (Joins.below_alloc1 w1 (.cells #[.int .i64 a, .int .i64 (b - 1), .int .i64 c] 30)).drew
      have HV3 : Hid (VarT (w1.alloc (.cells #[.int .i64 a, .int .i64 (b - 1), .int .i64 c] 30)).drew w1.heap.size 30 a (b - 1) c) := hide ((VarT.new w1 30 a (b - 1) c).below (Below.refl _ _).drew)
      have HB2 := hide (fr (unhide HB) (unhide HA2))
      go_region
      go_wp2_with fail
      refine (leaderOK_impl ⟨a, b - 1, c⟩ _).mono ?_
      rintro e w2 ⟨rfl, hb2⟩
      rw [unhide HDD]
      have HB3 := hide (fr (unhide HB2) hb2)
      have HE2 := hide (((unhide HE1).below (unhide HA2)).below hb2)
      clear hb2 hi0 hi1 hi2
      go_wp2_with (go_at_call 95; refine (demand_false _ (unhide HE2)).mono ?_; rintro e w' ⟨⟨u, pv, rfl⟩, hw⟩; replace hw := hw.symm; subst hw)
      exact ⟨rfl, ⟨_, _, rfl⟩, unhide HB3⟩
    · have hl3 : ((((unL (bodyT t)).length : Nat) : Int) == 3) = false := by rw [beq_eq_false_iff_ne]; omega
      have HR := hide hr1
      have HK := hide hr2
      clear hl hr1 hr2 hd
      go_enter Tryz.func46, Tryz.ntmps46
      go_wp2_with fail
      refine (readKind_yes t 6 _ hs (unhide HR) (unhide HK)).mono ?_
      rintro e w1 ⟨v, rfl, ⟨qo, qa, rfl, ho⟩, hb⟩
      have HB := hide (fr (unhide HA) hb)
      have HE1 := hide ((unhide HE).below hb)
      clear ho hb
      go_wp2_with (go_at_call 95; refine (demand_false _ (unhide HE1)).mono ?_; rintro e w' ⟨⟨u, pv, rfl⟩, hw⟩; replace hw := hw.symm; subst hw)
      exact ⟨rfl, ⟨_, _, rfl⟩, unhide HB⟩
  · go_enter Tryz.func46, Tryz.ntmps46
    go_wp2_with fail
    refine (readKind_no t 6 _ hs hr (unhide HE)).mono ?_
    rintro e w1 ⟨⟨u, pv, rfl⟩, hb⟩
    have HB := hide (fr (unhide HA) hb)
    clear hb
    go_wp2
    exact ⟨rfl, ⟨_, _, rfl⟩, unhide HB⟩

theorem catchL_panicking (p : Addr) (x : Int) (u : TypeId) (pv : Value) (older : List PanicEntry) (w : World) (hc : w.cell? p = some (.int .i64 x)) (hz : w.frozen? p = false) :
    CallsD Tryz.prog 93 #[.pointer (some p)] (.panicking ({ v := .iface u pv, recovered := false } :: older)) w fun e u' w' =>
      e = .returned (.tuple #[]) ∧ u' = .panicking ({ v := .iface u pv, recovered := true } :: older) ∧ w' = w.setCell p (.int .i64 3) := by
  refine callsD_of_wpS Tryz.func93 rfl fun c₀ cs hu => ?_
  apply wpS_seq
  apply wpS_region
  simp [wpOpsS, go_sem, recoverD, hu, Tryz.ntmps93, Exit.thenS]
  refine wpS_cond (t := true) (by simp [Act.eval, Array.replicate]) ?_
  simp only [if_true]
  apply wpS_region
  simp [wpOpsS, go_sem, hc, hz, bodyPostS, results, Tryz.results93]

theorem catchL_idle (p : Addr) (w : World) :
    CallsD Tryz.prog 93 #[.pointer (some p)] .returning w fun e u' w' => e = .returned (.tuple #[]) ∧ u' = .returning ∧ w' = w := by
  refine callsD_of_wpS Tryz.func93 rfl fun c₀ cs hu => ?_
  apply wpS_seq
  apply wpS_region
  simp [wpOpsS, go_sem, recoverD, hu, Tryz.ntmps93, Exit.thenS]
  refine wpS_cond (t := false) (by simp [Act.eval, Array.replicate]) ?_
  simp only [Bool.false_eq_true, if_false]
  refine wpS_of_wp (wp_skip ?_)
  cases c₀
  simp_all [bodyPostS, results, Tryz.results93]

end Go.Proofs.YtefnapcegeojoaaGreatDoor

namespace Go.Proofs.YtefnapcegeojoaaGreatDoor
open Go.RowKit
set_option linter.unusedVariables false
set_option maxRecDepth 100000

theorem two_newL {w w1 : World} (hb : Below ((w.alloc (.cells #[.int .i64 0, .int .i64 0, .int .i64 0] 30)).alloc (.cells #[.int .i64 0] 3)).heap.size ((w.alloc (.cells #[.int .i64 0, .int .i64 0, .int .i64 0] 30)).alloc (.cells #[.int .i64 0] 3)) w1) : VarT w1 w.heap.size 30 0 0 0 ∧ w1.heap[w.heap.size + 1]? = some (.cells #[.int .i64 0] 3 (0, 0)) := by
  constructor
  · exact ((VarT.new w _ 0 0 0).below (Joins.below_alloc1 _ _)).below hb
  · rw [hb.block _ (by simp)]
    have := heap_alloc_new (w.alloc (.cells #[.int .i64 0, .int .i64 0, .int .i64 0] 30)) (.cells #[.int .i64 0] 3)
    simp only [World.size_alloc] at this
    exact this

set_option maxHeartbeats 1600000 in
theorem readTextL_yes (s : ByteArray) (w : World) (hs : s.size ≤ 65536) (hd : ldD s = true) :
    Calls Tryz.prog 45 #[.string s, .func (.func 46) #[] #[]] w fun e w' => e = .returned (.tuple #[lV (ldK s), .int .i64 0]) ∧ Below w.heap.size w w' := by
  have hmf : ∀ (fn : Fn) (first cap : Array Value) (w : World), (Instr.makeFunc fn first cap).run Tryz.prog w = .ok (.func fn first cap) w := fun _ _ _ _ => rfl
  have HD := hide hd
  clear hd
  go_enter_defers Tryz.func45, Tryz.ntmps45
  go_wp2_with fail
  refine (readLeader_yes s _ hs (unhide HD)).mono ?_
  rintro e w1 ⟨rfl, hb1⟩
  obtain ⟨hv, hblk⟩ := two_newL hb1
  obtain ⟨v0, v1, v2⟩ := hv.cells
  obtain ⟨f0, f1, f2⟩ := hv.free
  have hc0 := Joins.cell_of_block hblk 0
  have hf0 := Joins.unfrozen_of_block hblk 0
  simp only [List.size_toArray, List.length_cons, List.length_nil, Nat.zero_add, Nat.lt_add_one, getElem?_pos, List.getElem_toArray, List.getElem_cons_zero] at hc0
  have HB := hide (fr (Joins.below_alloc2 w _ _) hb1)
  clear hb1 hblk hv
  go_wp2
  refine leaves_cons (f := 93) (args := #[.pointer (some ⟨w.heap.size + 1, 0, none⟩)]) (by simp) (by simp [go_sem]) ?_
  refine (catchL_idle ⟨w.heap.size + 1, 0, none⟩ _).mono ?_
  rintro e u' w'' ⟨rfl, rfl, rfl⟩
  simp [Leaves, settle, results, Tryz.results45, go_sem, v0, v1, v2, hc0]
  exact (below3 (unhide HB) (Nat.le_refl _) 0 1 2 _ _ _).setCell (p := ⟨w.heap.size + 1, 0, none⟩) (Nat.le_succ _) _

set_option maxHeartbeats 1600000 in
theorem readTextL_no (s : ByteArray) (w : World) (hs : s.size ≤ 65536) (hd : ldD s = false) (hE : ErrW w) :
    Calls Tryz.prog 45 #[.string s, .func (.func 46) #[] #[]] w fun e w' => e = .returned (.tuple #[lV ld0, .int .i64 3]) ∧ Below w.heap.size w w' := by
  have hmf : ∀ (fn : Fn) (first cap : Array Value) (w : World), (Instr.makeFunc fn first cap).run Tryz.prog w = .ok (.func fn first cap) w := fun _ _ _ _ => rfl
  have HD := hide hd
  have HE := hide (hE.below (Joins.below_alloc2 w (.cells #[.int .i64 0, .int .i64 0, .int .i64 0] 30) (.cells #[.int .i64 0] 3)))
  clear hd hE
  go_enter_defers Tryz.func45, Tryz.ntmps45
  go_wp2_with fail
  refine (readLeader_no s _ hs (unhide HD) (unhide HE)).mono ?_
  rintro e w1 ⟨⟨u, pv, rfl⟩, hb1⟩
  obtain ⟨hv, hblk⟩ := two_newL hb1
  obtain ⟨v0, v1, v2⟩ := hv.cells
  have hc0 := Joins.cell_of_block hblk 0
  have hf0 := Joins.unfrozen_of_block hblk 0
  simp only [List.size_toArray, List.length_cons, List.length_nil, Nat.zero_add, Nat.lt_add_one, getElem?_pos, List.getElem_toArray, List.getElem_cons_zero] at hc0
  have HB := hide (fr (Joins.below_alloc2 w _ _) hb1)
  clear hb1 hblk hv
  go_wp2
  refine leaves_cons (f := 93) (args := #[.pointer (some ⟨w.heap.size + 1, 0, none⟩)]) (by simp) (by simp [go_sem]) ?_
  refine (catchL_panicking ⟨w.heap.size + 1, 0, none⟩ 0 u pv [] _ hc0 hf0).mono ?_
  rintro e u' w'' ⟨rfl, rfl, rfl⟩
  simp [Leaves, settle, results, Tryz.results45, go_sem, v0, v1, v2, hc0, ld0]
  exact (unhide HB).setCell (p := ⟨w.heap.size + 1, 0, none⟩) (Nat.le_succ _) _

theorem readTextL_long (s : ByteArray) (w : World) (hs : 65536 < s.size) (f : Value) :
    Calls Tryz.prog 45 #[.string s, f] w fun e w' => e = .returned (.tuple #[lV ld0, .int .i64 2]) ∧ Below w.heap.size w w' := by
  go_enter_defers Tryz.func45, Tryz.ntmps45
  go_wp2
  simp [bodyPostD, Leaves, results, Tryz.results45, go_sem, ld0]
  exact Joins.below_alloc2 _ _ _

set_option maxHeartbeats 1600000 in
theorem decodeLeader_impl (t : ByteArray) (w : World) (hE : ErrW w) : Calls Tryz.prog 15 #[.string t] w fun e w' => e = .returned (.tuple #[lV (lcK t), .int .i64 (lcC t)]) ∧ Below w.heap.size w w' := by
  have hmf : ∀ (fn : Fn) (first cap : Array Value) (w : World), (Instr.makeFunc fn first cap).run Tryz.prog w = .ok (.func fn first cap) w := fun _ _ _ _ => rfl
  have HA := hide (Joins.below_alloc1 w (.cells #[.int .i64 0, .int .i64 0, .int .i64 0] 30))
  have HE := hide (hE.below (unhide HA))
  have HV := hide (VarT.new w 30 0 0 0)
  clear hE
  obtain ⟨K, HK⟩ : ∃ K : Prop, Hid K := ⟨True, trivial⟩
  have key : ∀ (K1 : Ld) (d : Int), (lcK t = K1 ∧ lcC t = d) → (∀ W, ErrW W → Calls Tryz.prog 45 #[.string t, .func (.func 46) #[] #[]] W fun e w' => e = .returned (.tuple #[lV K1, .int .i64 d]) ∧ Below W.heap.size W w') →
      Calls Tryz.prog 15 #[.string t] w fun e w' => e = .returned (.tuple #[lV (lcK t), .int .i64 (lcC t)]) ∧ Below w.heap.size w w' := by
    intro K1 d hq hc
    have HQ := hide hq
    have HC := hide hc
    clear hq hc
    go_enter Tryz.func15, Tryz.ntmps15
    go_wp2_with fail
    refine (unhide HC _ (unhide HE)).mono ?_
    rintro e w1 ⟨rfl, hb⟩
    have HV1 := hide ((unhide HV).below hb)
    obtain ⟨hc0, hc1, hc2⟩ := (unhide HV1).cells
    obtain ⟨hf0, hf1, hf2⟩ := (unhide HV1).free
    have HB := hide (fun u v x => below3 (fr (unhide HA) hb) (Nat.le_refl _) 0 1 2 u v x)
    clear hb
    go_wp2
    refine bodyPost_ret (v := .tuple #[lV K1, .int .i64 d]) (by simp [results, Tryz.results15, go_sem, hc0, hc1, hc2]) rfl ⟨?_, unhide HB _ _ _⟩
    exact ret_li (unhide HQ).1.symm (unhide HQ).2.symm
  by_cases h1 : 65536 < t.size
  · exact key _ _ (lc_long h1) (fun W _ => readTextL_long t W h1 _)
  · by_cases hd : ldD t = true
    · exact key _ _ (lc_yes h1 hd) (fun W _ => readTextL_yes t W (by omega) hd)
    · rw [Bool.not_eq_true] at hd
      exact key _ _ (lc_no h1 hd) (fun W hW => readTextL_no t W (by omega) hd hW)

end Go.Proofs.YtefnapcegeojoaaGreatDoor
