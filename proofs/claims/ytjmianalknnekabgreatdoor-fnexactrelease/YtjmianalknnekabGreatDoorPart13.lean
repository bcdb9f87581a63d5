import Derived.Test.YtjmianalknnekabGreatDoorPart12
import Derived.Test.YtjmianalknnekabGreatDoorPart1
import Derived.Test.YtjmianalknnekabGreatDoorPart6
import Derived.Test.YtjmianalknnekabGreatDoorPaxP

/- Plain: steps and runs keep ballots and blocks right; how a run's state is kept by the program, which has zeroes for hosts that have not begun. -/
namespace Go.Proofs.YtjmianalknnekabGreatDoor
set_option linter.unusedVariables false
theorem bkOf_right {b : Bk} {v : Int} (h : bkB b = true) (hv : 0 ≤ v ∧ v ≤ 1000000) : bkB (bkOf b v) = true := by
  unfold bkOf
  split
  · exact bkB_iff.2 ⟨hv, (by decide : (0 : Int) ≤ 0 ∧ (0 : Int) ≤ 1000000), (by decide : (0 : Int) ≤ 0 ∧ (0 : Int) ≤ 0), (by decide : (0 : Int) ≤ 0 ∧ (0 : Int) ≤ 2147483647), .inr rfl⟩
  · exact h
theorem skip_le {p : Pxs} {n : Int} (hh : 0 ≤ p.host ∧ p.host ≤ 3) (h0 : 0 ≤ n) (h4 : n ≤ 4) : 0 ≤ skip p n ∧ skip p n ≤ 4 := by unfold skip; split <;> omega
theorem look_right {p : Pxs} {b : Bk} (hp : pxB p = true) (hn : p.next < 4) (hb : bkB b = true) : pxB (pxLook p b) = true := by
  obtain ⟨h1, h2, h3, h4, h5, h6, h7, h8, h9⟩ := pxB_iff.1 hp
  obtain ⟨_, b2, b3, b4, _⟩ := bkB_iff.1 hb
  refine pxB_iff.2 ⟨h1, h2, h3, h4, h5, h6, skip_le h1 (by omega) (by omega), ?_, ?_⟩
  · show 0 ≤ (if p.phase = 2 ∧ p.bestBal < b.bal then b.inp else p.best) ∧ (if p.phase = 2 ∧ p.bestBal < b.bal then b.inp else p.best) ≤ 2147483647
    split
    · exact b4
    · exact h8
  · show 0 ≤ (if p.phase = 2 ∧ p.bestBal < b.bal then b.bal else p.bestBal) ∧ (if p.phase = 2 ∧ p.bestBal < b.bal then b.bal else p.bestBal) ≤ 1000000
    split
    · omega
    · exact h9
theorem end_right {p : Pxs} (hp : pxB p = true) : pxB (pxEnd p) = true := by
  obtain ⟨h1, h2, h3, h4, h5, h6, h7, h8, h9⟩ := pxB_iff.1 hp
  unfold pxEnd
  split
  · exact hp
  · split
    · exact pxB_iff.2 ⟨h1, h2, (by decide : (1 : Int) ≤ 5 ∧ (5 : Int) ≤ 6), h4, h5, h6, h7, h8, h9⟩
    · refine pxB_iff.2 ⟨h1, h2, (by decide : (1 : Int) ≤ 3 ∧ (3 : Int) ≤ 6), h4, h5, ?_, h7, h8, h9⟩
      show 0 ≤ (if 0 < p.bestBal then p.best else p.value) ∧ (if 0 < p.bestBal then p.best else p.value) ≤ 2147483647
      split
      · exact h8
      · exact h6
theorem rd_right {p : Pxs} {bs : List Bk} (hp : pxB p = true) (hb : bksB bs = true) : pxB (pxRd p bs) = true := by
  obtain ⟨h1, h2, h3, h4, h5, h6, h7, h8, h9⟩ := pxB_iff.1 hp
  obtain ⟨hl, hr⟩ := bksB_parts hb
  have hs := skip_le h1 h7.1 h7.2
  have hq : pxB { p with next := skip p p.next } = true := pxB_iff.2 ⟨h1, h2, h3, h4, h5, h6, hs, h8, h9⟩
  have e : pxRd p bs = (if skip p p.next < 4 then (if p.ver < (bkOf (bs.getD (skip p p.next).toNat bk0) p.ver).ver ∨ p.ballot < (bkOf (bs.getD (skip p p.next).toNat bk0) p.ver).mbal then { p with next := skip p p.next, phase := 6 } else pxEnd (pxLook { p with next := skip p p.next } (bkOf (bs.getD (skip p p.next).toNat bk0) p.ver))) else pxEnd { p with next := skip p p.next }) := rfl
  rw [e]
  by_cases hn : skip p p.next < 4
  · rw [if_pos hn]
    have hbk : bkB (bkOf (bs.getD (skip p p.next).toNat bk0) p.ver) = true := bkOf_right (hr _ (by omega)) h2
    by_cases ha : p.ver < (bkOf (bs.getD (skip p p.next).toNat bk0) p.ver).ver ∨ p.ballot < (bkOf (bs.getD (skip p p.next).toNat bk0) p.ver).mbal
    · rw [if_pos ha]
      exact pxB_iff.2 ⟨h1, h2, (by decide : (1 : Int) ≤ 6 ∧ (6 : Int) ≤ 6), h4, h5, h6, hs, h8, h9⟩
    · rw [if_neg ha]
      exact end_right (look_right hq hn hbk)
  · rw [if_neg hn]
    exact end_right hq
theorem set_right {bs : List Bk} {k : Nat} {y : Bk} (hb : bksB bs = true) (hy : bkB y = true) : bksB (bs.set k y) = true := by
  unfold bksB at hb ⊢
  simp only [Bool.and_eq_true, decide_eq_true_eq, List.all_eq_true] at hb ⊢
  refine ⟨by rw [List.length_set]; exact hb.1, fun x hx => ?_⟩
  rcases List.mem_or_eq_of_mem_set hx with h | h
  · exact hb.2 x h
  · rw [h]; exact hy
/-- A step of a right ballot on right blocks leaves them right. -/
theorem px_right {p : Pxs} {bs : List Bk} (hp : pxB p = true) (hb : bksB bs = true) : pxB (pxStepP p bs).1 = true ∧ bksB (pxStepP p bs).2 = true := by
  obtain ⟨h1, h2, h3, h4, h5, h6, h7, h8, h9⟩ := pxB_iff.1 hp
  obtain ⟨hl, hr⟩ := bksB_parts hb
  unfold pxStepP
  split
  · exact ⟨hp, hb⟩
  · split
    · exact ⟨rd_right hp hb, hb⟩
    · have ho : bkB (pxOwn p bs) = true := bkOf_right (hr _ (by omega)) h2
      obtain ⟨b1, b2, b3, b4, b5⟩ := bkB_iff.1 ho
      split
      · exact ⟨pxB_iff.2 ⟨h1, h2, (by decide : (1 : Int) ≤ 6 ∧ (6 : Int) ≤ 6), h4, h5, h6, h7, h8, h9⟩, hb⟩
      · rename_i hno
        refine ⟨?_, set_right hb ?_⟩
        · show pxB (pxW1 p (pxOwn p bs)) = true
          unfold pxW1
          split
          · exact pxB_iff.2 ⟨h1, h2, (by decide : (1 : Int) ≤ 2 ∧ (2 : Int) ≤ 6), h4, h5, h6, (by decide : (0 : Int) ≤ 0 ∧ (0 : Int) ≤ 4), b4, by show 0 ≤ (pxOwn p bs).bal ∧ (pxOwn p bs).bal ≤ 1000000; omega⟩
          · exact pxB_iff.2 ⟨h1, h2, (by decide : (1 : Int) ≤ 4 ∧ (4 : Int) ≤ 6), h4, h5, h6, (by decide : (0 : Int) ≤ 0 ∧ (0 : Int) ≤ 4), h8, h9⟩
        · unfold pxW2
          split
          · refine bkB_iff.2 ⟨h2, by show 0 ≤ p.ballot ∧ p.ballot ≤ 1000000; omega, ?_, b4, b5⟩
            show 0 ≤ (pxOwn p bs).bal ∧ (pxOwn p bs).bal ≤ p.ballot
            have : ¬ p.ballot < (pxOwn p bs).mbal := fun h => hno (.inr (.inl h))
            omega
          · exact bkB_iff.2 ⟨h2, by show 0 ≤ p.ballot ∧ p.ballot ≤ 1000000; omega, by show 0 ≤ p.ballot ∧ p.ballot ≤ p.ballot; omega, h6, .inl (by show 0 < p.ballot; omega)⟩

/-- What holds in a run of right values. -/
structure RunR (vs : List Int) (m : Int) (st : List Pxs × List Bk) : Prop where
  g : Good vs m st
  b : bksB st.2 = true
  h : ∀ q, q < 4 → (hsOf st.1 q).phase = 6 ∨ pxB (hsOf st.1 q) = true
def vsB (vs : List Int) : Prop := ∀ q, q < 4 → 0 ≤ vs.getD q 0 ∧ vs.getD q 0 ≤ 2147483647
theorem runR0 (vs : List Int) : RunR vs 0 (run0 vs) := by
  refine ⟨good0 vs, by rfl, fun q hq => .inl ?_⟩
  rcases (show q = 0 ∨ q = 1 ∨ q = 2 ∨ q = 3 by omega) with rfl | rfl | rfl | rfl <;> rfl
theorem RunR.mb {vs : List Int} {m : Int} {st : List Pxs × List Bk} (r : RunR vs m st) (i : Nat) (hi : i < st.2.length) : (bkOf (st.2.getD i bk0) 0).mbal ≤ max m 0 := by
  have := r.g.mb i (by rw [← r.g.lb]; exact hi)
  rcases bkOf_mbal (st.2.getD i bk0) 0 with e | e
  · rw [e]; omega
  · rw [e]; have h2 : (st.2.getD i bk0).mbal ≤ m := this; omega
/-- The ballot that a host begins with. -/
theorem RunR.fresh {vs : List Int} {m : Int} {st : List Pxs × List Bk} (r : RunR vs m st) (hv : vsB vs) (h0 : 0 ≤ m) (hm : m ≤ 900000) {h : Nat} (hh : h < 4) : pxB (ps0 h 0 (nxBal h 0 st.2) (vs.getD h 0)) = true ∧ nxBal h 0 st.2 ≤ 1000000 := by
  have h1 := nxBal_le hh 0 m h0 (bs := st.2) (fun i hi => by have := r.mb i hi; omega)
  have h2 := nxBal_mod st.2 hh 0
  have h3 : 0 < nxBal h 0 st.2 := by
    have := nxMax_ge 0 st.2 0
    unfold nxBal
    have e : Int.tdiv (nxMax 0 st.2 0) 4 = nxMax 0 st.2 0 / 4 := Int.tdiv_eq_ediv_of_nonneg this
    omega
  have := hv h hh
  exact ⟨pxB_iff.2 ⟨by show (0 : Int) ≤ h ∧ (h : Int) ≤ 3; omega, (by decide : (0 : Int) ≤ 0 ∧ (0 : Int) ≤ 1000000), (by decide : (1 : Int) ≤ 1 ∧ (1 : Int) ≤ 6), by show 1 ≤ nxBal h 0 st.2 ∧ nxBal h 0 st.2 ≤ 1000000; omega, h2, this, (by decide : (0 : Int) ≤ 0 ∧ (0 : Int) ≤ 4), (by decide : (0 : Int) ≤ 0 ∧ (0 : Int) ≤ 2147483647), (by decide : (0 : Int) ≤ 0 ∧ (0 : Int) ≤ 1000000)⟩, by omega⟩
/-- What the host of a turn steps with. -/
def stepWith (vs : List Int) (st : List Pxs × List Bk) (h : Nat) : Pxs := if (hsOf st.1 h).phase = 6 then ps0 h 0 (nxBal h 0 st.2) (vs.getD h 0) else hsOf st.1 h
theorem runAt_eq (vs : List Int) (st : List Pxs × List Bk) (h : Nat) : runAt vs st h = (st.1.set h (pxStepP (stepWith vs st h) st.2).1, (pxStepP (stepWith vs st h) st.2).2) := rfl
theorem RunR.with {vs : List Int} {m : Int} {st : List Pxs × List Bk} (r : RunR vs m st) (hv : vsB vs) (h0 : 0 ≤ m) (hm : m ≤ 900000) {h : Nat} (hh : h < 4) : pxB (stepWith vs st h) = true := by
  unfold stepWith
  split
  · exact (r.fresh hv h0 hm hh).1
  · rename_i hn
    rcases r.h h hh with e | e
    · exact absurd e hn
    · exact e
theorem RunR.step {vs : List Int} {m : Int} {st : List Pxs × List Bk} (r : RunR vs m st) (hv : vsB vs) (h0 : 0 ≤ m) (hm : m ≤ 900000) {h : Nat} (hh : h < 4) : RunR vs (m + 7) (runAt vs st h) := by
  obtain ⟨p1, p2⟩ := px_right (r.with hv h0 hm hh) r.b
  refine ⟨r.g.step hh, ?_, fun q hq => ?_⟩
  · rw [runAt_eq]; exact p2
  · rw [runAt_eq, hsOf_set _ (by rw [r.g.lh]; exact hh)]
    by_cases e : q = h
    · subst e; rw [upd_same]; exact .inr p1
    · rw [upd_other _ _ e]; exact r.h q hq
theorem run_app (vs : List Int) : ∀ (l r : List Nat) (st : List Pxs × List Bk), run vs (l ++ r) st = run vs r (run vs l st)
  | [], r, st => rfl
  | h :: l, r, st => run_app vs l r (runAt vs st h)
/-- A schedule's first hosts, as numbers. -/
def hostsN (sc : List Int) (k : Nat) : List Nat := (sc.take k).map Int.toNat
theorem hostsN_succ {sc : List Int} {k : Nat} (hk : k < sc.length) : hostsN sc (k + 1) = hostsN sc k ++ [sc[k].toNat] := by
  unfold hostsN
  rw [List.take_add_one, List.map_append]
  simp [hk]
theorem run_succ {vs sc : List Int} {k : Nat} (hk : k < sc.length) (st : List Pxs × List Bk) : run vs (hostsN sc (k + 1)) st = runAt vs (run vs (hostsN sc k) st) sc[k].toNat := by
  rw [hostsN_succ hk, run_app]; rfl
theorem runR_all {vs sc : List Int} (hv : vsB vs) (hs : ∀ j (hj : j < sc.length), 0 ≤ sc[j] ∧ sc[j] ≤ 3) (hl : sc.length ≤ 4096) : ∀ k, k ≤ sc.length → RunR vs (7 * k) (run vs (hostsN sc k) (run0 vs))
  | 0, _ => runR0 vs
  | k + 1, hk => by
    rw [run_succ (by omega)]
    have := (runR_all hv hs hl k (by omega)).step hv (by omega) (by omega) (h := sc[k].toNat) (by have := hs k (by omega); omega)
    have e : (7 : Int) * ((k + 1 : Nat) : Int) = 7 * (k : Int) + 7 := by omega
    rw [e]; exact this
/-- How the program keeps hosts: zeroes for who has not begun. -/
def Alike (qs ps : List Pxs) : Prop := qs.length = 4 ∧ ∀ i, i < 4 → hsOf qs i = hsOf ps i ∨ ((hsOf qs i).phase = 0 ∧ (hsOf ps i).phase = 6)
theorem alike0 (vs : List Int) : Alike [p00, p00, p00, p00] (run0 vs).1 := by
  refine ⟨rfl, fun i hi => .inr ?_⟩
  rcases (show i = 0 ∨ i = 1 ∨ i = 2 ∨ i = 3 by omega) with rfl | rfl | rfl | rfl <;> exact ⟨rfl, rfl⟩
theorem Alike.set {qs ps : List Pxs} (h : Alike qs ps) (hl : ps.length = 4) {k : Nat} (hk : k < 4) (x : Pxs) : Alike (qs.set k x) (ps.set k x) := by
  refine ⟨by rw [List.length_set]; exact h.1, fun i hi => ?_⟩
  rw [hsOf_set _ (by rw [h.1]; exact hk), hsOf_set _ (by rw [hl]; exact hk)]
  by_cases e : i = k
  · subst e; rw [upd_same, upd_same]; exact .inl rfl
  · rw [upd_other _ _ e, upd_other _ _ e]; exact h.2 i hi
theorem Alike.told {qs ps : List Pxs} (h : Alike qs ps) (hl : ps.length = 4) : told qs = told ps := by
  apply List.ext_getElem
  · simp [Go.Proofs.YtjmianalknnekabGreatDoor.told, h.1, hl]
  · intro i h1 h2
    have hi : i < 4 := by simpa [Go.Proofs.YtjmianalknnekabGreatDoor.told, h.1] using h1
    have e1 : hsOf qs i = qs[i]'(by rw [h.1]; exact hi) := by simp [hsOf, h.1, hi]
    have e2 : hsOf ps i = ps[i]'(by rw [hl]; exact hi) := by simp [hsOf, hl, hi]
    simp only [Go.Proofs.YtjmianalknnekabGreatDoor.told, List.getElem_map]
    rw [← e1, ← e2]
    rcases h.2 i hi with e | ⟨e, f⟩
    · rw [e]
    · rw [e, f]; simp
end Go.Proofs.YtjmianalknnekabGreatDoor

/- Plain: an election. The disk behind a write that is sure, a ballot's steps up to its end with what they write, what Elect, Release and Holds answer. -/
namespace Go.Proofs.YtjmianalknnekabGreatDoor
set_option linter.unusedVariables false

def wS (ss : List ByteArray) (xs : List Wr) (h a : Int) (t : ByteArray) : List ByteArray := putW ss (ofH h (xs ++ [⟨h, a, t⟩]))
def wX (xs : List Wr) (h a : Int) (t : ByteArray) : List Wr := dropF h (xs ++ [⟨h, a, t⟩])
theorem wX_eq (xs : List Wr) (h a : Int) (t : ByteArray) : wX xs h a t = dropF h xs := by simp [wX, dropF]
theorem wX_len (xs : List Wr) (h a : Int) (t : ByteArray) : (wX xs h a t).length ≤ xs.length := by rw [wX_eq]; exact drop_le h xs
theorem wS_len (ss : List ByteArray) (xs : List Wr) (h a : Int) (t : ByteArray) : (wS ss xs h a t).length = ss.length := put_len _ _
theorem w_io {h a : Int} {t : ByteArray} (h0 : 0 ≤ h) (h3 : h ≤ 3) (a0 : 0 ≤ a) (a1 : a ≤ 63) (ht : t.size ≤ 80) : ioB ⟨h, a, t⟩ = true := ioB_parts.2 ⟨⟨h0, h3⟩, ⟨a0, a1⟩, ht⟩
theorem w_right {ss : List ByteArray} {xs : List Wr} {h a : Int} {t : ByteArray} (hd : diskB ss xs = true) (hl : xs.length < 200) (h0 : 0 ≤ h) (h3 : h ≤ 3) (a0 : 0 ≤ a) (a1 : a ≤ 63) (ht : t.size ≤ 80) : diskB (wS ss xs h a t) (wX xs h a t) = true :=
  diskB_put (diskB_snoc hd hl (w_io h0 h3 a0 a1 ht)) (fun x hx => of_mem hx) (fun x hx => drop_mem hx) (drop_le h _)

/-- What is between two steps: the disk, the host's try, the blocks. -/
structure Est where
  ss : List ByteArray
  xs : List Wr
  p : Pxs
  bs : List Bk
def wroteB (a b : Int) : Bool := (decide (b = 2) && decide (a = 1)) || (decide (b = 4) && decide (a = 3))
def ownK (p : Pxs) (bs : List Bk) : Bk := bs.getD p.host.toNat bk0
def elStep (s : Est) : Est :=
  if wroteB s.p.phase (pxStepP s.p s.bs).1.phase = true then ⟨wS s.ss s.xs s.p.host (1 + s.p.host) (encB (ownK s.p (pxStepP s.p s.bs).2)), wX s.xs s.p.host (1 + s.p.host) (encB (ownK s.p (pxStepP s.p s.bs).2)), (pxStepP s.p s.bs).1, (pxStepP s.p s.bs).2⟩
  else ⟨s.ss, s.xs, (pxStepP s.p s.bs).1, (pxStepP s.p s.bs).2⟩
def mOf (p : Pxs) : Nat := if p.phase = 1 then 13 else if p.phase = 2 then 12 - p.next.toNat else if p.phase = 3 then 6 else if p.phase = 4 then 5 - p.next.toNat else 0
def elRun : Nat → Est → Est
  | 0, s => s
  | n + 1, s => if s.p.phase < 5 then elRun n (elStep s) else s
def elEnd (s : Est) : Est := elRun 13 s

theorem step_p (s : Est) : (elStep s).p = (pxStepP s.p s.bs).1 ∧ (elStep s).bs = (pxStepP s.p s.bs).2 := by unfold elStep; split <;> exact ⟨rfl, rfl⟩

/-- The greatest that is known between two steps. -/
structure ElOK (h : Int) (s : Est) : Prop where
  p : pxB s.p = true
  b : bksB s.bs = true
  d : diskB s.ss s.xs = true
  l : s.xs.length < 200
  o : s.p.host = h
  j : s.p.phase = 2 ∨ s.p.phase = 3 → (ownK s.p s.bs).bal < s.p.ballot

theorem pxEnd_ph (p : Pxs) (h2 : p.phase = 2 ∨ p.phase = 4) : ((pxEnd p).phase = p.phase ∧ (pxEnd p).next = p.next ∧ p.next < 4) ∨ (p.phase = 2 ∧ (pxEnd p).phase = 3) ∨ (p.phase = 4 ∧ (pxEnd p).phase = 5) := by
  unfold pxEnd
  split
  · exact .inl ⟨rfl, rfl, by assumption⟩
  · split
    · exact .inr (.inr ⟨by assumption, rfl⟩)
    · exact .inr (.inl ⟨by rcases h2 with h | h <;> first | exact h | contradiction, rfl⟩)
theorem pxEnd_at (p : Pxs) : (pxEnd p).host = p.host ∧ (pxEnd p).ballot = p.ballot ∧ (pxEnd p).ver = p.ver := by
  unfold pxEnd; split; · exact ⟨rfl, rfl, rfl⟩
  split <;> exact ⟨rfl, rfl, rfl⟩
theorem pxRd_at (p : Pxs) (bs : List Bk) : (pxRd p bs).host = p.host ∧ (pxRd p bs).ballot = p.ballot ∧ (pxRd p bs).ver = p.ver := by
  unfold pxRd
  simp only
  split
  · split
    · exact ⟨rfl, rfl, rfl⟩
    · obtain ⟨a, b, c⟩ := pxEnd_at (pxLook { p with next := skip p p.next } (bkOf (bs.getD ({ p with next := skip p p.next } : Pxs).next.toNat bk0) p.ver))
      exact ⟨a, b, c⟩
  · obtain ⟨a, b, c⟩ := pxEnd_at { p with next := skip p p.next }
    exact ⟨a, b, c⟩
/-- A read: on in the same phase, or up. -/
theorem pxRd_ph (p : Pxs) (bs : List Bk) (h2 : p.phase = 2 ∨ p.phase = 4) : ((pxRd p bs).phase = p.phase ∧ p.next < (pxRd p bs).next ∧ (pxRd p bs).next < 4) ∨ (p.phase = 2 ∧ (pxRd p bs).phase = 3) ∨ (p.phase = 4 ∧ (pxRd p bs).phase = 5) ∨ (pxRd p bs).phase = 6 := by
  have hs : ∀ n : Int, n ≤ skip p n := fun n => by unfold skip; split <;> omega
  unfold pxRd
  simp only
  split
  · split
    · exact .inr (.inr (.inr rfl))
    · rename_i b _
      rcases pxEnd_ph (pxLook { p with next := skip p p.next } (bkOf (bs.getD ({ p with next := skip p p.next } : Pxs).next.toNat bk0) p.ver)) h2 with ⟨a, b, c⟩ | a | a
      · refine .inl ⟨a, ?_, ?_⟩
        · rw [b]
          have e : (pxLook { p with next := skip p p.next } (bkOf (bs.getD ({ p with next := skip p p.next } : Pxs).next.toNat bk0) p.ver)).next = skip p (skip p p.next + 1) := rfl
          rw [e]
          have := hs p.next
          have := hs (skip p p.next + 1)
          omega
        · rw [b]; exact c
      · exact .inr (.inl a)
      · exact .inr (.inr (.inl a))
  · rename_i hn
    rcases pxEnd_ph { p with next := skip p p.next } h2 with ⟨a, b, c⟩ | a | a
    · exact absurd c hn
    · exact .inr (.inl a)
    · exact .inr (.inr (.inl a))

theorem mOf_1 {p : Pxs} (h : p.phase = 1) : mOf p = 13 := if_pos h
theorem mOf_2 {p : Pxs} (h : p.phase = 2) : mOf p = 12 - p.next.toNat := by unfold mOf; rw [if_neg (by omega), if_pos h]
theorem mOf_3 {p : Pxs} (h : p.phase = 3) : mOf p = 6 := by unfold mOf; rw [if_neg (by omega), if_neg (by omega), if_pos h]
theorem mOf_4 {p : Pxs} (h : p.phase = 4) : mOf p = 5 - p.next.toNat := by unfold mOf; rw [if_neg (by omega), if_neg (by omega), if_neg (by omega), if_pos h]
theorem mOf_5 {p : Pxs} (h : 5 ≤ p.phase) : mOf p = 0 := by unfold mOf; rw [if_neg (by omega), if_neg (by omega), if_neg (by omega), if_neg (by omega)]
theorem px_parts {p : Pxs} (h : pxB p = true) : (0 ≤ p.host ∧ p.host ≤ 3) ∧ (0 ≤ p.ver ∧ p.ver ≤ 1000000) ∧ (1 ≤ p.phase ∧ p.phase ≤ 6) ∧ (1 ≤ p.ballot ∧ p.ballot ≤ 1000000) ∧ (0 ≤ p.value ∧ p.value ≤ 2147483647) ∧ (0 ≤ p.next ∧ p.next ≤ 4) := by
  obtain ⟨a, b, c, d, e, f, g, _⟩ := pxB_iff.1 h
  exact ⟨a, b, c, d, f, g⟩
theorem mOf_le {p : Pxs} (h : pxB p = true) : mOf p ≤ 13 := by
  unfold mOf; split; · omega
  split; · omega
  split; · omega
  split <;> omega
/-- A step's kinds. -/
theorem step_kinds {p : Pxs} {bs : List Bk} (hp : pxB p = true) (h5 : p.phase < 5) : ((p.phase = 2 ∨ p.phase = 4) ∧ pxStepP p bs = (pxRd p bs, bs)) ∨ ((p.phase = 1 ∨ p.phase = 3) ∧ pxNo p (pxOwn p bs) ∧ pxStepP p bs = ({ p with phase := 6 }, bs)) ∨
    ((p.phase = 1 ∨ p.phase = 3) ∧ ¬ pxNo p (pxOwn p bs) ∧ pxStepP p bs = (pxW1 p (pxOwn p bs), bs.set p.host.toNat (pxW2 p (pxOwn p bs)))) := by
  obtain ⟨_, _, ⟨h1, h6⟩, _⟩ := px_parts hp
  rcases (show p.phase = 1 ∨ p.phase = 2 ∨ p.phase = 3 ∨ p.phase = 4 by omega) with e | e | e | e
  · by_cases c : pxNo p (pxOwn p bs)
    · exact .inr (.inl ⟨.inl e, c, pxStepP_no bs (.inl e) c⟩)
    · exact .inr (.inr ⟨.inl e, c, pxStepP_wr bs (.inl e) c⟩)
  · exact .inl ⟨.inl e, pxStepP_rd bs (.inl e)⟩
  · by_cases c : pxNo p (pxOwn p bs)
    · exact .inr (.inl ⟨.inr e, c, pxStepP_no bs (.inr e) c⟩)
    · exact .inr (.inr ⟨.inr e, c, pxStepP_wr bs (.inr e) c⟩)
  · exact .inl ⟨.inr e, pxStepP_rd bs (.inr e)⟩
theorem w1_ph1 {p : Pxs} {o : Bk} (h : p.phase = 1) : (pxW1 p o).phase = 2 ∧ (pxW1 p o).next = 0 := by unfold pxW1; rw [if_pos h]; exact ⟨rfl, rfl⟩
theorem w1_ph3 {p : Pxs} {o : Bk} (h : p.phase = 3) : (pxW1 p o).phase = 4 ∧ (pxW1 p o).next = 0 := by unfold pxW1; rw [if_neg (by omega)]; exact ⟨rfl, rfl⟩
theorem w1_at (p : Pxs) (o : Bk) : (pxW1 p o).host = p.host ∧ (pxW1 p o).ballot = p.ballot ∧ (pxW1 p o).ver = p.ver := by unfold pxW1; split <;> exact ⟨rfl, rfl, rfl⟩
theorem step_less {p : Pxs} {bs : List Bk} (hp : pxB p = true) (h5 : p.phase < 5) : mOf (pxStepP p bs).1 < mOf p := by
  obtain ⟨_, _, _, _, _, n0, n4⟩ := px_parts hp
  rcases step_kinds (bs := bs) hp h5 with ⟨e, h⟩ | ⟨e, _, h⟩ | ⟨e, _, h⟩ <;> rw [h]
  · show mOf (pxRd p bs) < mOf p
    rcases pxRd_ph p bs e with ⟨a, b, c⟩ | ⟨a, b⟩ | ⟨a, b⟩ | a
    · rcases e with e | e
      · rw [mOf_2 e, mOf_2 (a.trans e)]; omega
      · rw [mOf_4 e, mOf_4 (a.trans e)]; omega
    · rw [mOf_2 a, mOf_3 b]; omega
    · rw [mOf_4 a, mOf_5 (by omega)]; omega
    · rw [mOf_5 (p := pxRd p bs) (by omega)]
      rcases e with e | e
      · rw [mOf_2 e]; omega
      · rw [mOf_4 e]; omega
  · rw [mOf_5 (p := { p with phase := 6 }) (by show (5 : Int) ≤ 6; decide)]
    rcases e with e | e
    · rw [mOf_1 e]; omega
    · rw [mOf_3 e]; omega
  · show mOf (pxW1 p (pxOwn p bs)) < mOf p
    rcases e with e | e
    · obtain ⟨a, b⟩ := w1_ph1 (o := pxOwn p bs) e
      rw [mOf_1 e, mOf_2 a]; omega
    · obtain ⟨a, b⟩ := w1_ph3 (o := pxOwn p bs) e
      rw [mOf_3 e, mOf_4 a, b]; decide
/-- A step writes just where its own block changes. -/
theorem own_set {bs : List Bk} {p : Pxs} {y : Bk} (h4 : bs.length = 4) (hh : 0 ≤ p.host ∧ p.host ≤ 3) : ownK p (bs.set p.host.toNat y) = y := by
  have : p.host.toNat < bs.length := by omega
  simp [ownK, this]
theorem wrote_iff {p : Pxs} {bs : List Bk} (hp : pxB p = true) (hb : bksB bs = true) (h5 : p.phase < 5) (hj : p.phase = 2 ∨ p.phase = 3 → (ownK p bs).bal < p.ballot) :
    (wroteB p.phase (pxStepP p bs).1.phase = true ∧ ownK p (pxStepP p bs).2 ≠ ownK p bs) ∨ (wroteB p.phase (pxStepP p bs).1.phase = false ∧ ownK p (pxStepP p bs).2 = ownK p bs) := by
  obtain ⟨h4, hk⟩ := bksB_parts hb
  obtain ⟨hh, _, _, hbal, _, n0, n4⟩ := px_parts hp
  rcases step_kinds (bs := bs) hp h5 with ⟨e, h⟩ | ⟨e, _, h⟩ | ⟨e, c, h⟩ <;> rw [h]
  · refine .inr ⟨?_, rfl⟩
    show wroteB p.phase (pxRd p bs).phase = false
    rcases e with e | e <;> simp [wroteB, e]
  · refine .inr ⟨?_, rfl⟩
    show wroteB p.phase 6 = false
    rcases e with e | e <;> simp [wroteB]
  · refine .inl ⟨?_, ?_⟩
    · show wroteB p.phase (pxW1 p (pxOwn p bs)).phase = true
      rcases e with e | e
      · rw [(w1_ph1 e).1, e]; rfl
      · rw [(w1_ph3 e).1, e]; rfl
    · show ownK p (bs.set p.host.toNat (pxW2 p (pxOwn p bs))) ≠ ownK p bs
      rw [own_set h4 hh]
      simp only [pxNo, not_or, not_and] at c
      obtain ⟨c1, c2, c3, c4⟩ := c
      intro heq
      have hO : pxOwn p bs = bkOf (ownK p bs) p.ver := rfl
      rcases e with e | e
      · have c3' := c3 e
        rw [hO] at c1 c2 c3' heq
        unfold pxW2 at heq
        rw [if_pos e] at heq
        have e1 := congrArg Bk.ver heq
        have e2 := congrArg Bk.mbal heq
        simp only at e1 e2
        unfold bkOf at c1 c2 c3'
        split at c3'
        · omega
        · rename_i hv
          rw [if_neg hv] at c2
          omega
      · have c4' := c4 e
        rw [hO] at c1 c2 c4' heq
        unfold pxW2 at heq
        rw [if_neg (by omega)] at heq
        have e2 := congrArg Bk.bal heq
        simp only at e2
        have := hj (.inr e)
        omega
theorem own_right {p : Pxs} {bs : List Bk} (hp : pxB p = true) (hb : bksB bs = true) : bkB (ownK p bs) = true := by
  obtain ⟨h4, hk⟩ := bksB_parts hb
  obtain ⟨hh, _⟩ := px_parts hp
  exact hk p.host.toNat (by omega)
theorem ElOK.step {h : Int} {s : Est} (k : ElOK h s) (h5 : s.p.phase < 5) : ElOK h (elStep s) := by
  obtain ⟨h4, hk⟩ := bksB_parts k.b
  obtain ⟨hh, hv, _, hbal, _, n0, n4⟩ := px_parts k.p
  obtain ⟨q1, q2⟩ := px_right k.p k.b
  obtain ⟨e1, e2⟩ := step_p s
  have hhost : (pxStepP s.p s.bs).1.host = s.p.host ∧ (pxStepP s.p s.bs).1.ballot = s.p.ballot := by
    rcases step_kinds (bs := s.bs) k.p h5 with ⟨e, hq⟩ | ⟨e, _, hq⟩ | ⟨e, _, hq⟩ <;> rw [hq]
    · exact ⟨(pxRd_at _ _).1, (pxRd_at _ _).2.1⟩
    · exact ⟨rfl, rfl⟩
    · exact ⟨(w1_at _ _).1, (w1_at _ _).2.1⟩
  have hj : (elStep s).p.phase = 2 ∨ (elStep s).p.phase = 3 → (ownK (elStep s).p (elStep s).bs).bal < (elStep s).p.ballot := by
    rw [e1, e2, hhost.2]
    intro hph
    have hO : ownK (pxStepP s.p s.bs).1 (pxStepP s.p s.bs).2 = ownK s.p (pxStepP s.p s.bs).2 := by unfold ownK; rw [hhost.1]
    rw [hO]
    rcases step_kinds (bs := s.bs) k.p h5 with ⟨e, hq⟩ | ⟨e, _, hq⟩ | ⟨e, c, hq⟩ <;> rw [hq] at hph ⊢
    · rcases e with e | e
      · exact k.j (.inl e)
      · rcases pxRd_ph s.p s.bs (.inr e) with ⟨a, _⟩ | ⟨a, _⟩ | ⟨_, a⟩ | a
        · have : (pxRd s.p s.bs).phase = 2 ∨ (pxRd s.p s.bs).phase = 3 := hph
          omega
        · omega
        · have : (pxRd s.p s.bs).phase = 2 ∨ (pxRd s.p s.bs).phase = 3 := hph
          omega
        · have : (pxRd s.p s.bs).phase = 2 ∨ (pxRd s.p s.bs).phase = 3 := hph
          omega
    · have : (6 : Int) = 2 ∨ (6 : Int) = 3 := hph
      omega
    · rcases e with e | e
      · show (ownK s.p (s.bs.set s.p.host.toNat (pxW2 s.p (pxOwn s.p s.bs)))).bal < s.p.ballot
        rw [own_set h4 hh]
        unfold pxW2
        rw [if_pos e]
        show (pxOwn s.p s.bs).bal < s.p.ballot
        have hr : bkB (pxOwn s.p s.bs) = true := bkOf_right (own_right k.p k.b) hv
        obtain ⟨_, _, b3, _⟩ := bkB_iff.1 hr
        simp only [pxNo, not_or, not_and] at c
        have := c.2.1
        have := c.2.2.1 e
        omega
      · have : (pxW1 s.p (pxOwn s.p s.bs)).phase = 2 ∨ (pxW1 s.p (pxOwn s.p s.bs)).phase = 3 := hph
        rw [(w1_ph3 e).1] at this
        omega
  have hd : diskB (elStep s).ss (elStep s).xs = true ∧ (elStep s).xs.length < 200 := by
    unfold elStep
    split
    · refine ⟨w_right k.d k.l hh.1 hh.2 (by omega) (by omega) (by rw [encB_size]; decide), ?_⟩
      exact Nat.lt_of_le_of_lt (wX_len _ _ _ _) k.l
    · exact ⟨k.d, k.l⟩
  exact ⟨by rw [e1]; exact q1, by rw [e2]; exact q2, hd.1, hd.2, by rw [e1, hhost.1]; exact k.o, hj⟩
theorem elRun_any {h : Int} : ∀ (n m : Nat) (s : Est), ElOK h s → mOf s.p ≤ n → mOf s.p ≤ m → elRun n s = elRun m s
  | 0, 0, _, _, _, _ => rfl
  | 0, m + 1, s, k, hn, _ => by
    have : ¬ s.p.phase < 5 := fun h5 => by have := step_less (bs := s.bs) k.p h5; omega
    rw [elRun, elRun, if_neg this]
  | n + 1, 0, s, k, _, hm => by
    have : ¬ s.p.phase < 5 := fun h5 => by have := step_less (bs := s.bs) k.p h5; omega
    rw [elRun, elRun, if_neg this]
  | n + 1, m + 1, s, k, hn, hm => by
    rw [elRun, elRun]
    by_cases h5 : s.p.phase < 5
    · rw [if_pos h5, if_pos h5]
      have := step_less (bs := s.bs) k.p h5
      have e := (step_p s).1
      exact elRun_any n m (elStep s) (k.step h5) (by rw [e]; omega) (by rw [e]; omega)
    · rw [if_neg h5, if_neg h5]
theorem elEnd_on {h : Int} {s : Est} (k : ElOK h s) (h5 : s.p.phase < 5) : elEnd (elStep s) = elEnd s := by
  have := step_less (bs := s.bs) k.p h5
  have hm := mOf_le k.p
  have e := (step_p s).1
  show elRun 13 (elStep s) = elRun 13 s
  rw [show elRun 13 s = elRun 12 (elStep s) from by rw [elRun, if_pos h5]]
  exact elRun_any 13 12 (elStep s) (k.step h5) (by rw [e]; omega) (by rw [e]; omega)
theorem elEnd_at {s : Est} (h5 : ¬ s.p.phase < 5) : elEnd s = s := by
  show elRun 13 s = s
  rw [elRun, if_neg h5]
theorem elRun_ok {h : Int} : ∀ (n : Nat) (s : Est), ElOK h s → ElOK h (elRun n s)
  | 0, _, k => k
  | n + 1, s, k => by
    rw [elRun]
    split
    · exact elRun_ok n _ (k.step (by assumption))
    · exact k
theorem elRun_end {h : Int} : ∀ (n : Nat) (s : Est), ElOK h s → mOf s.p ≤ n → ¬ (elRun n s).p.phase < 5
  | 0, s, k, hm => fun h5 => by have := step_less (bs := s.bs) k.p h5; omega
  | n + 1, s, k, hm => by
    rw [elRun]
    by_cases h5 : s.p.phase < 5
    · rw [if_pos h5]
      have := step_less (bs := s.bs) k.p h5
      exact elRun_end n _ (k.step h5) (by rw [(step_p s).1]; omega)
    · rw [if_neg h5]; exact h5

/-- What a host reads: the leader, the blocks. -/
def ldOf (ss : List ByteArray) (xs : List Wr) (h : Int) : Ld := ldK (readV ss xs h 0)
def bksOf (ss : List ByteArray) (xs : List Wr) (h : Int) : List Bk := [bdK (readV ss xs h 1), bdK (readV ss xs h 2), bdK (readV ss xs h 3), bdK (readV ss xs h 4)]
theorem bdK_right (t : ByteArray) : bkB (bdK t) = true := by
  by_cases h : bdB t = true
  · exact bd_right h
  · rw [Bool.not_eq_true] at h; rw [bd_no h]; rfl
theorem bksOf_right (ss : List ByteArray) (xs : List Wr) (h : Int) : bksB (bksOf ss xs h) = true := by
  simp [bksB, bksOf, bdK_right]
/-- The codes ahead of all. -/
def leC (ss : List ByteArray) (xs : List Wr) (h : Int) : Int := if hostC ss xs h = 0 then (if xs.length = 200 then 7 else 0) else hostC ss xs h
theorem leC_host {ss : List ByteArray} {xs : List Wr} {h : Int} (e : hostC ss xs h ≠ 0) : leC ss xs h = hostC ss xs h := if_neg e
theorem leC_full {ss : List ByteArray} {xs : List Wr} {h : Int} (e : hostC ss xs h = 0) (l : xs.length = 200) : leC ss xs h = 7 := by rw [leC, if_pos e, if_pos l]
theorem leC_ok {ss : List ByteArray} {xs : List Wr} {h : Int} (e : hostC ss xs h = 0) (l : ¬ xs.length = 200) : leC ss xs h = 0 := by rw [leC, if_pos e, if_neg l]
theorem leC_eq {ss : List ByteArray} {xs : List Wr} {h : Int} (e : leC ss xs h = 0) : diskB ss xs = true ∧ (0 ≤ h ∧ h ≤ 3) ∧ xs.length < 200 := by
  by_cases e0 : hostC ss xs h = 0
  · obtain ⟨ed, e1, e2⟩ := hostC_eq e0
    by_cases l : xs.length = 200
    · rw [leC_full e0 l] at e; cases e
    · have := (diskB_len ed).2
      exact ⟨ed, ⟨e1, e2⟩, by omega⟩
  · rw [leC_host e0] at e; exact absurd e e0
/-- An answer: a disk, a leader, a code. -/
structure Ans where
  ss : List ByteArray
  xs : List Wr
  l : Ld
  c : Int
def leadOf (v : Int) (value : Int) : Ld := ⟨v, value % 1024, value / 1024⟩
def elTry (ss : List ByteArray) (xs : List Wr) (h o g : Int) : Pxs := ⟨h, (ldOf ss xs h).ver + 1, 1, nxBal h ((ldOf ss xs h).ver + 1) (bksOf ss xs h), 1024 * g + o, 0, 0, 0⟩
def elFrom (ss : List ByteArray) (xs : List Wr) (h o g : Int) : Est := ⟨ss, xs, elTry ss xs h o g, bksOf ss xs h⟩
def elLast (h : Int) (old : Ld) (e : Est) : Ans :=
  if e.p.phase = 5 ∧ ldB (leadOf (old.ver + 1) e.p.value) = true then ⟨wS e.ss e.xs h 0 (encL (leadOf (old.ver + 1) e.p.value)), wX e.xs h 0 (encL (leadOf (old.ver + 1) e.p.value)), leadOf (old.ver + 1) e.p.value, 0⟩
  else ⟨e.ss, e.xs, old, 19⟩
def elMany (ss : List ByteArray) (xs : List Wr) (h : Int) : Bool := decide (1000000 < (ldOf ss xs h).ver + 1) || decide (1000000 < nxBal h ((ldOf ss xs h).ver + 1) (bksOf ss xs h))
def elA (ss : List ByteArray) (xs : List Wr) (h o g : Int) : Ans :=
  if leC ss xs h = 0 then
    (if (inB o 0 3 && inB g 1 1000000) = true then
      (if elMany ss xs h = true then ⟨ss, xs, ldOf ss xs h, 6⟩ else elLast h (ldOf ss xs h) (elEnd (elFrom ss xs h o g)))
    else ⟨[], [], ld0, 4⟩)
  else ⟨[], [], ld0, leC ss xs h⟩
theorem elA_room {ss : List ByteArray} {xs : List Wr} {h o g : Int} (e : leC ss xs h ≠ 0) : elA ss xs h o g = ⟨[], [], ld0, leC ss xs h⟩ := if_neg e
theorem elA_range {ss : List ByteArray} {xs : List Wr} {h o g : Int} (e : leC ss xs h = 0) (e1 : (inB o 0 3 && inB g 1 1000000) = false) : elA ss xs h o g = ⟨[], [], ld0, 4⟩ := by rw [elA, if_pos e, if_neg (by simp [e1])]
theorem elA_many {ss : List ByteArray} {xs : List Wr} {h o g : Int} (e : leC ss xs h = 0) (e1 : (inB o 0 3 && inB g 1 1000000) = true) (e2 : elMany ss xs h = true) : elA ss xs h o g = ⟨ss, xs, ldOf ss xs h, 6⟩ := by rw [elA, if_pos e, if_pos e1, if_pos e2]
theorem elA_end {ss : List ByteArray} {xs : List Wr} {h o g : Int} (e : leC ss xs h = 0) (e1 : (inB o 0 3 && inB g 1 1000000) = true) (e2 : elMany ss xs h = false) : elA ss xs h o g = elLast h (ldOf ss xs h) (elEnd (elFrom ss xs h o g)) := by rw [elA, if_pos e, if_pos e1, if_neg (by simp [e2])]
theorem elFrom_ok {ss : List ByteArray} {xs : List Wr} {h o g : Int} (e : leC ss xs h = 0) (e1 : (inB o 0 3 && inB g 1 1000000) = true) (e2 : elMany ss xs h = false) : ElOK h (elFrom ss xs h o g) := by
  obtain ⟨ed, ⟨h0, h3⟩, el⟩ := leC_eq e
  simp only [elMany, Bool.or_eq_false_iff, decide_eq_false_iff_not] at e2
  simp only [inB, Bool.and_eq_true, decide_eq_true_eq] at e1
  have hl := (ldB_lo (ld_right (readV ss xs h 0))).1
  have hl' : 0 ≤ (ldOf ss xs h).ver ∧ (ldOf ss xs h).ver ≤ 1000000 := hl
  obtain ⟨n, rfl⟩ : ∃ n : Nat, h = n := ⟨h.toNat, by omega⟩
  have hm := nxBal_mod (bksOf ss xs n) (h := n) (by omega) ((ldOf ss xs n).ver + 1)
  have hg := nxBal_gt (bs := bksOf ss xs n) n 0 (by simp [bksOf]) ((ldOf ss xs n).ver + 1)
  have hb0 : 0 ≤ (bkOf ((bksOf ss xs n).getD 0 bk0) ((ldOf ss xs n).ver + 1)).mbal := by
    have := bkB_iff.1 (bkOf_right (v := (ldOf ss xs n).ver + 1) (bdK_right (readV ss xs n 1)) (by omega))
    exact this.2.1.1
  refine ⟨?_, bksOf_right ss xs n, ed, el, rfl, ?_⟩
  · refine pxB_iff.2 ⟨⟨h0, h3⟩, ⟨by show 0 ≤ (ldOf ss xs n).ver + 1; omega, by show (ldOf ss xs n).ver + 1 ≤ 1000000; omega⟩, ⟨by show (1 : Int) ≤ 1; decide, by show (1 : Int) ≤ 6; decide⟩, ⟨?_, ?_⟩, hm, ⟨?_, ?_⟩, ⟨by show (0 : Int) ≤ 0; decide, by show (0 : Int) ≤ 4; decide⟩, ⟨by show (0 : Int) ≤ 0; decide, by show (0 : Int) ≤ 2147483647; decide⟩, by show (0 : Int) ≤ 0; decide, by show (0 : Int) ≤ 1000000; decide⟩
    · show 1 ≤ nxBal n _ _; omega
    · show nxBal n _ _ ≤ 1000000; omega
    · show 0 ≤ 1024 * g + o; omega
    · show 1024 * g + o ≤ 2147483647; omega
  · intro hp
    have : (1 : Int) = 2 ∨ (1 : Int) = 3 := hp
    omega

def sameL (a b : Ld) : Bool := decide (a.ver = b.ver) && (decide (a.own = b.own) && decide (a.gen = b.gen))
theorem sameL_iff {a b : Ld} : sameL a b = true ↔ a = b := by
  rw [Ld.eq_iff]; simp [sameL]
/-- What Release answers. -/
def rsA (ss : List ByteArray) (xs : List Wr) (h : Int) (x : Ld) : Ans :=
  if leC ss xs h = 0 then
    (if ldB x = true then
      (if sameL (ldOf ss xs h) x = true then
        (if x.own = h then
          (if x.ver = 1000000 then ⟨ss, xs, x, 6⟩ else ⟨wS ss xs h 0 (encL (ldN (x.ver + 1))), wX xs h 0 (encL (ldN (x.ver + 1))), ldN (x.ver + 1), 0⟩)
        else ⟨ss, xs, x, 9⟩)
      else ⟨ss, xs, ldOf ss xs h, 13⟩)
    else ⟨[], [], ld0, 1⟩)
  else ⟨[], [], ld0, leC ss xs h⟩
/-- What ReadLeader, what Holds answers. -/
def rlK (ss : List ByteArray) (xs : List Wr) (h : Int) : Ld := if hostC ss xs h = 0 then ldOf ss xs h else ld0
def hlB (ss : List ByteArray) (xs : List Wr) (h g : Int) : Bool := decide (hostC ss xs h = 0) && (decide ((ldOf ss xs h).own = h) && decide ((ldOf ss xs h).gen = g))

end Go.Proofs.YtjmianalknnekabGreatDoor
