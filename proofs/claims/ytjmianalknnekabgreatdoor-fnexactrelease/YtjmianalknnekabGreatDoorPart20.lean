import Derived.Test.YtjmianalknnekabGreatDoorRows
import Derived.Test.YtjmianalknnekabGreatDoorPart1
import Derived.Test.YtjmianalknnekabGreatDoorPart4
import Derived.Test.YtjmianalknnekabGreatDoorPart10
import Derived.Test.YtjmianalknnekabGreatDoorPart6
import Derived.Test.YtjmianalknnekabGreatDoorPart9
import Derived.Test.YtjmianalknnekabGreatDoorPart12
import Derived.Test.YtjmianalknnekabGreatDoorPart13
import Derived.WalkKit
import Derived.Test.YtjmianalknnekabGreatDoorPart8
import Derived.Test.YtjmianalknnekabGreatDoorPart17
import Derived.Test.YtjmianalknnekabGreatDoorPart18
import Derived.Test.YtjmianalknnekabGreatDoorPart16
import Derived.Test.YtjmianalknnekabGreatDoorPart14
import Derived.WalkSpells
import Derived.KernelRfl
import Derived.Deep.RegionWith
import Derived.Deep.RegionHeld3
import Derived.Deep.MidRow
import Derived.Deep.CutRange
import Derived.Deep.LoopGhost
import Derived.Test.YtjmianalknnekabGreatDoorPart19

/- What is between the parts of spec's election: the disk, the answer, the leader that was; in its loop also a try and the blocks. -/
namespace Go.Proofs.YtjmianalknnekabGreatDoor
open Go.RowKit
set_option linter.unusedVariables false
set_option maxRecDepth 100000

/-- A disk that is the argument's, or owned. -/
def Rd (w W : World) (ao : Option Addr) (ca : Nat) (qo : Option Addr) (cb : Nat) (ss : List ByteArray) (xs : List Wr) : Prop := (Ss w ao ss ∧ Ios w qo xs) ∨ (OwnD W w.heap.size ao ss.length ca qo xs.length cb ss xs ∧ diskB ss xs = true)
theorem Rd.ss {w W : World} {ao qo : Option Addr} {ca cb : Nat} {ss : List ByteArray} {xs : List Wr} (h : Rd w W ao ca qo cb ss xs) (hb : Below w.heap.size w W) : Ss W ao ss ∧ Ios W qo xs := by
  rcases h with ⟨h1, h2⟩ | ⟨h1, h2⟩
  · exact ⟨h1.below hb, h2.below hb⟩
  · exact ⟨h1.ss (right_sz h2).2.1, h1.ios (right_sz h2).2.2⟩
theorem Rd.below {w W W' : World} {ao qo : Option Addr} {ca cb : Nat} {ss : List ByteArray} {xs : List Wr} (h : Rd w W ao ca qo cb ss xs) (hb : Below W.heap.size W W') : Rd w W' ao ca qo cb ss xs := h.imp id (fun k => ⟨k.1.below hb, k.2⟩)
theorem Rd.keep {w W W' : World} {ao qo : Option Addr} {ca cb : Nat} {ss : List ByteArray} {xs : List Wr} {x t : Nat} {c : Array Value} {f : Nat × Nat} (h : Rd w W ao ca qo cb ss xs) (hk : Keep (fun j => j = x) W W') (hx : W.heap[x]? = some (.cells c t f)) (h1 : t ≠ 9) (h2 : t ≠ 50) : Rd w W' ao ca qo cb ss xs :=
  h.imp id (fun k => ⟨k.1.keep hk (fun g hg e => by have e' : g = x := e; subst e'; exact k.1.other hx h1 h2 hg), k.2⟩)

structure LeI (w W : World) (B0 B1 B2 O : Nat) (ss : List ByteArray) (xs : List Wr) (L : Ld) (ao : Option Addr) (ca : Nat) (qo : Option Addr) (cb : Nat) : Prop where
  below : Below w.heap.size w W
  d : VarD W B0 (.slice ao ss.length ca) (.slice qo xs.length cb)
  r : VarD W B1 (.slice none 0 0) (.slice none 0 0)
  t : VarT W B2 32 0 0 0
  o : VarT W O 32 L.ver L.own L.gen
  a : Rd w W ao ca qo cb ss xs
/-- The variables lie apart. -/
structure Apart (w : World) (B0 B1 B2 O : Nat) : Prop where
  k0 : w.heap.size ≤ B0
  k1 : w.heap.size ≤ B1
  k2 : w.heap.size ≤ B2
  k3 : w.heap.size ≤ O
  n01 : B0 ≠ B1
  n02 : B0 ≠ B2
  n03 : B0 ≠ O
  n12 : B1 ≠ B2
  n13 : B1 ≠ O
  n23 : B2 ≠ O
theorem LeI.next {w W W' : World} {B0 B1 B2 O : Nat} {ss : List ByteArray} {xs : List Wr} {L : Ld} {ao qo : Option Addr} {ca cb : Nat} (h : LeI w W B0 B1 B2 O ss xs L ao ca qo cb) (hb : Below W.heap.size W W') : LeI w W' B0 B1 B2 O ss xs L ao ca qo cb :=
  ⟨fr h.below hb, h.d.below hb, h.r.below hb, h.t.below hb, h.o.below hb, h.a.below hb⟩
theorem LeI.keep {w W W' : World} {B0 B1 B2 O x t : Nat} {c : Array Value} {f : Nat × Nat} {ss : List ByteArray} {xs : List Wr} {L : Ld} {ao qo : Option Addr} {ca cb : Nat} (h : LeI w W B0 B1 B2 O ss xs L ao ca qo cb) (hk : Keep (fun j => j = x) W W') (hw : w.heap.size ≤ x) (hx : W.heap[x]? = some (.cells c t f)) (h1 : t ≠ 9) (h2 : t ≠ 50) (n0 : B0 ≠ x) (n1 : B1 ≠ x) (n2 : B2 ≠ x) (n3 : O ≠ x) : LeI w W' B0 B1 B2 O ss xs L ao ca qo cb :=
  ⟨h.below.trans (hk.below (B := w.heap.size) h.below.size (fun j e => by have e' : j = x := e; omega)), h.d.keep hk n0, h.r.keep hk n1, h.t.keep hk n2, h.o.keep hk n3, h.a.keep hk hx h1 h2⟩
theorem keep2 (W : World) (x : Nat) (a b : Value) : Keep (fun j => j = x) W ((W.setCell ⟨x, 0, none⟩ a).setCell ⟨x, 1, none⟩ b) := ((Keep.refl (fun j => j = x) W).setCell (p := ⟨x, 0, none⟩) rfl a).setCell (p := ⟨x, 1, none⟩) rfl b
/-- Another disk is stored: a call made it. -/
theorem LeI.write {w W W' : World} {B0 B1 B2 O : Nat} {ss S : List ByteArray} {xs Y : List Wr} {L : Ld} {ao qo po ro : Option Addr} {ca cb pa ra : Nat} (h : LeI w W B0 B1 B2 O ss xs L ao ca qo cb) (ap : Apart w B0 B1 B2 O) (hb : Below W.heap.size W W') (ho : OwnD W' w.heap.size po S.length pa ro Y.length ra S Y) (hr : diskB S Y = true) :
    LeI w ((W'.setCell ⟨B0, 0, none⟩ (.slice po S.length pa)).setCell ⟨B0, 1, none⟩ (.slice ro Y.length ra)) B0 B1 B2 O S Y L po pa ro ra := by
  have h' := h.next hb
  have hk := keep2 W' B0 (.slice po S.length pa) (.slice ro Y.length ra)
  refine ⟨h'.below.trans (hk.below (B := w.heap.size) h'.below.size (fun j e => by have e' : j = B0 := e; have := ap.k0; omega)), ?_, h'.r.keep hk (Ne.symm ap.n01), h'.t.keep hk (Ne.symm ap.n02), h'.o.keep hk (Ne.symm ap.n03), .inr ⟨ho.keep hk (fun g hg e => by have e' : g = B0 := e; subst e'; exact ho.other h'.d (by decide) (by decide) hg), hr⟩⟩
  exact set_heap (i := 1) (set_heap (i := 0) h'.d (.slice po S.length pa)) (.slice ro Y.length ra)
/-- What its end leaves. -/
def Left (w W : World) (R : Ans) (e : Ending) : Prop := ∃ po pa qo qa, e = .returned (.tuple #[.agg #[.slice po R.ss.length pa, .slice qo R.xs.length qa], lV R.l, .int .i64 R.c]) ∧ Ss W po R.ss ∧ Ios W qo R.xs ∧ Below w.heap.size w W
theorem LeI.out {w W : World} {B0 B1 B2 O : Nat} {ss : List ByteArray} {xs : List Wr} {L : Ld} {ao qo : Option Addr} {ca cb : Nat} (h : LeI w W B0 B1 B2 O ss xs L ao ca qo cb) (ap : Apart w B0 B1 B2 O) (a b x y z : Value) :
    (Ss (set5 W B1 B2 a b x y z) ao ss ∧ Ios (set5 W B1 B2 a b x y z) qo xs ∧ Below w.heap.size w (set5 W B1 B2 a b x y z)) ∧ (Ss (((((W.setCell ⟨B2, 0, none⟩ x).setCell ⟨B2, 1, none⟩ y).setCell ⟨B2, 2, none⟩ z).setCell ⟨B1, 0, none⟩ a).setCell ⟨B1, 1, none⟩ b) ao ss ∧ Ios (((((W.setCell ⟨B2, 0, none⟩ x).setCell ⟨B2, 1, none⟩ y).setCell ⟨B2, 2, none⟩ z).setCell ⟨B1, 0, none⟩ a).setCell ⟨B1, 1, none⟩ b) qo xs ∧ Below w.heap.size w (((((W.setCell ⟨B2, 0, none⟩ x).setCell ⟨B2, 1, none⟩ y).setCell ⟨B2, 2, none⟩ z).setCell ⟨B1, 0, none⟩ a).setCell ⟨B1, 1, none⟩ b)) := by
  have k3 : ∀ V : World, Keep (fun j => j = B2) V (((V.setCell ⟨B2, 0, none⟩ x).setCell ⟨B2, 1, none⟩ y).setCell ⟨B2, 2, none⟩ z) := fun V => (((Keep.refl (fun j => j = B2) V).setCell (p := ⟨B2, 0, none⟩) rfl x).setCell (p := ⟨B2, 1, none⟩) rfl y).setCell (p := ⟨B2, 2, none⟩) rfl z
  have hb1 : ∀ {V V' : World} {q : Nat}, Below w.heap.size w V → w.heap.size ≤ q → Keep (fun j => j = q) V V' → Below w.heap.size w V' := fun hV hq hk => hV.trans (hk.below (B := w.heap.size) hV.size (fun j e => by have e' : j = _ := e; omega))
  constructor
  · have a1 : Rd w ((W.setCell ⟨B1, 0, none⟩ a).setCell ⟨B1, 1, none⟩ b) ao ca qo cb ss xs := h.a.keep (keep2 W B1 a b) h.r (by decide) (by decide)
    have t1 : VarT ((W.setCell ⟨B1, 0, none⟩ a).setCell ⟨B1, 1, none⟩ b) B2 32 0 0 0 := h.t.keep (keep2 W B1 a b) (Ne.symm ap.n12)
    have b1 := hb1 h.below ap.k1 (keep2 W B1 a b)
    have a2 : Rd w (set5 W B1 B2 a b x y z) ao ca qo cb ss xs := a1.keep (k3 _) t1 (by decide) (by decide)
    have b2 : Below w.heap.size w (set5 W B1 B2 a b x y z) := hb1 b1 ap.k2 (k3 _)
    exact ⟨(a2.ss b2).1, (a2.ss b2).2, b2⟩
  · have a1 := h.a.keep (k3 W) h.t (by decide) (by decide)
    have r1 := h.r.keep (k3 W) ap.n12
    have b1 := hb1 h.below ap.k2 (k3 W)
    have a2 := a1.keep (keep2 _ B1 a b) r1 (by decide) (by decide)
    have b2 := hb1 b1 ap.k1 (keep2 _ B1 a b)
    exact ⟨(a2.ss b2).1, (a2.ss b2).2, b2⟩
theorem left_end {w W : World} {R : Ans} {ss : List ByteArray} {xs : List Wr} {L : Ld} {c : Int} {po qo : Option Addr} {pa qa : Nat} (hR : R = ⟨ss, xs, L, c⟩) (h : Ss W po ss ∧ Ios W qo xs ∧ Below w.heap.size w W) : Left w W R (.returned (.tuple #[.agg #[.slice po ss.length pa, .slice qo xs.length qa], lV L, .int .i64 c])) := by
  subst hR
  exact ⟨po, pa, qo, qa, rfl, h.1, h.2.1, h.2.2⟩
theorem left_drew {w W : World} {ss : List ByteArray} {xs : List Wr} {po qo : Option Addr} (h : Ss W po ss ∧ Ios W qo xs ∧ Below w.heap.size w W) : Ss W.drew po ss ∧ Ios W.drew qo xs ∧ Below w.heap.size w W.drew := ⟨h.1.below (Below.refl _ _).drew, h.2.1.below (Below.refl _ _).drew, h.2.2.drew⟩

/-- In the loop. -/
structure LpI (w W : World) (B0 B1 B2 O P : Nat) (s : Est) (L : Ld) (bo : Option Addr) (ba : Nat) (ao : Option Addr) (ca : Nat) (qo : Option Addr) (cb : Nat) : Prop where
  l : LeI w W B0 B1 B2 O s.ss s.xs L ao ca qo cb
  p : VarP W P 54 s.p
  b : OwnR W w.heap.size 91 4 (.slice bo 4 ba) 4 (bksV s.bs)
theorem LpI.next {w W W' : World} {B0 B1 B2 O P : Nat} {s : Est} {L : Ld} {bo ao qo : Option Addr} {ba ca cb : Nat} (h : LpI w W B0 B1 B2 O P s L bo ba ao ca qo cb) (hb : Below W.heap.size W W') : LpI w W' B0 B1 B2 O P s L bo ba ao ca qo cb := ⟨h.l.next hb, h.p.below hb, h.b.below hb⟩
/-- The next try is stored, with its blocks: a call made these. -/
theorem LpI.put {w W : World} {B0 B1 B2 O P : Nat} {s : Est} {L : Ld} {bo ao qo ro : Option Addr} {ba ca cb ra : Nat} {bs : List Bk} (h : LpI w W B0 B1 B2 O P s L bo ba ao ca qo cb) (q : Pxs) (ho : OwnR W w.heap.size 91 4 (.slice ro 4 ra) 4 (bksV bs)) (hP : w.heap.size ≤ P) (n0 : B0 ≠ P) (n1 : B1 ≠ P) (n2 : B2 ≠ P) (n3 : O ≠ P) :
    LpI w ((((((((W.setCell ⟨P, 0, none⟩ (.int .i64 q.host)).setCell ⟨P, 1, none⟩ (.int .i64 q.ver)).setCell ⟨P, 2, none⟩ (.int .i64 q.phase)).setCell ⟨P, 3, none⟩ (.int .i64 q.ballot)).setCell ⟨P, 4, none⟩ (.int .i64 q.value)).setCell ⟨P, 5, none⟩ (.int .i64 q.next)).setCell ⟨P, 6, none⟩ (.int .i64 q.best)).setCell ⟨P, 7, none⟩ (.int .i64 q.bestBal)) B0 B1 B2 O P ⟨s.ss, s.xs, q, bs⟩ L ro ra ao ca qo cb := by
  have hk := keep8 (Keep.refl (fun j => j = P) W) (g := P) (show P = P from rfl) (.int .i64 q.host) (.int .i64 q.ver) (.int .i64 q.phase) (.int .i64 q.ballot) (.int .i64 q.value) (.int .i64 q.next) (.int .i64 q.best) (.int .i64 q.bestBal)
  exact ⟨h.l.keep hk hP h.p (by decide) (by decide) n0 n1 n2 n3, h.p.put q, ho.keep hk (fun g hg e => by have e' : g = P := e; subst e'; exact ho.other h.p (by decide) hg)⟩
/-- The disk is written. -/
theorem LpI.write {w W W' : World} {B0 B1 B2 O P : Nat} {s : Est} {S : List ByteArray} {Y : List Wr} {L : Ld} {bo ao qo po ro : Option Addr} {ba ca cb pa ra : Nat} (h : LpI w W B0 B1 B2 O P s L bo ba ao ca qo cb) (ap : Apart w B0 B1 B2 O) (n0 : B0 ≠ P) (hb : Below W.heap.size W W') (ho : OwnD W' w.heap.size po S.length pa ro Y.length ra S Y) (hr : diskB S Y = true) :
    LpI w ((W'.setCell ⟨B0, 0, none⟩ (.slice po S.length pa)).setCell ⟨B0, 1, none⟩ (.slice ro Y.length ra)) B0 B1 B2 O P ⟨S, Y, s.p, s.bs⟩ L bo ba po pa ro ra := by
  have hk := keep2 W' B0 (.slice po S.length pa) (.slice ro Y.length ra)
  have h' := h.next hb
  exact ⟨h.l.write ap hb ho hr, h'.p.keep hk (Ne.symm n0), h'.b.keep hk (fun g hg e => by have e' : g = B0 := e; subst e'; exact h'.b.other h'.l.d (by decide) hg)⟩

theorem wrote_beq (a b : Int) : wroteB a b = (((b == 2) && (a == 1)) || ((b == 4) && (a == 3))) := by
  rw [Bool.eq_iff_iff]; simp [wroteB]

end Go.Proofs.YtjmianalknnekabGreatDoor

/- Contract of spec.l06Elect. -/
namespace Go.Proofs.YtjmianalknnekabGreatDoor
open Go.RowKit
set_option linter.unusedVariables false
set_option maxRecDepth 100000

theorem le_new (w : World) (ao bo : Option Addr) (ca cb : Nat) (ss : List ByteArray) (xs : List Wr) (h1 : Ss w ao ss) (h2 : Ios w bo xs) :
    (Below w.heap.size w (((w.alloc (.cells #[.slice ao ss.length ca, .slice bo xs.length cb] 31)).alloc (.cells #[.slice none 0 0, .slice none 0 0] 31)).alloc (.cells #[.int .i64 0, .int .i64 0, .int .i64 0] 32))) ∧ VarD (((w.alloc (.cells #[.slice ao ss.length ca, .slice bo xs.length cb] 31)).alloc (.cells #[.slice none 0 0, .slice none 0 0] 31)).alloc (.cells #[.int .i64 0, .int .i64 0, .int .i64 0] 32)) w.heap.size (.slice ao ss.length ca) (.slice bo xs.length cb) ∧
    VarD (((w.alloc (.cells #[.slice ao ss.length ca, .slice bo xs.length cb] 31)).alloc (.cells #[.slice none 0 0, .slice none 0 0] 31)).alloc (.cells #[.int .i64 0, .int .i64 0, .int .i64 0] 32)) (w.heap.size + 1) (.slice none 0 0) (.slice none 0 0) ∧ VarT (((w.alloc (.cells #[.slice ao ss.length ca, .slice bo xs.length cb] 31)).alloc (.cells #[.slice none 0 0, .slice none 0 0] 31)).alloc (.cells #[.int .i64 0, .int .i64 0, .int .i64 0] 32)) (w.heap.size + 1 + 1) 32 0 0 0 := by
  have b1 := Joins.below_alloc1 w (.cells #[.slice ao ss.length ca, .slice bo xs.length cb] 31)
  have b3 := Joins.below_alloc1 (w.alloc (.cells #[.slice ao ss.length ca, .slice bo xs.length cb] 31)) (.cells #[.slice none 0 0, .slice none 0 0] 31)
  have b4 := Joins.below_alloc1 ((w.alloc (.cells #[.slice ao ss.length ca, .slice bo xs.length cb] 31)).alloc (.cells #[.slice none 0 0, .slice none 0 0] 31)) (.cells #[.int .i64 0, .int .i64 0, .int .i64 0] 32)
  refine ⟨fr (fr b1 b3) b4, (VarD.new w _ _).below (fr b3 b4), ?_, ?_⟩
  · have := (VarD.new (w.alloc (.cells #[.slice ao ss.length ca, .slice bo xs.length cb] 31)) (.slice none 0 0) (.slice none 0 0)).below b4
    simp only [World.size_alloc] at this
    exact this
  · have := VarT.new ((w.alloc (.cells #[.slice ao ss.length ca, .slice bo xs.length cb] 31)).alloc (.cells #[.slice none 0 0, .slice none 0 0] 31)) 32 0 0 0
    simp only [World.size_alloc] at this
    exact this
end Go.Proofs.YtjmianalknnekabGreatDoor

/- Contract of spec.Elect; how great the answers of Elect and Release are. -/
namespace Go.Proofs.YtjmianalknnekabGreatDoor
open Go.RowKit
set_option linter.unusedVariables false
set_option maxRecDepth 100000

/-- A right disk, or none. -/
def AnsOK (R : Ans) : Prop := (R.ss = [] ∧ R.xs = []) ∨ diskB R.ss R.xs = true
theorem elA_ok (ss : List ByteArray) (xs : List Wr) (h o g : Int) : AnsOK (elA ss xs h o g) := by
  by_cases e : leC ss xs h = 0
  · cases e1 : (inB o 0 3 && inB g 1 1000000) with
    | false => rw [elA_range e e1]; exact .inl ⟨rfl, rfl⟩
    | true =>
      obtain ⟨ed, ⟨h0, h3⟩, el⟩ := leC_eq e
      cases e2 : elMany ss xs h with
      | true => rw [elA_many e e1 e2]; exact .inr ed
      | false =>
        rw [elA_end e e1 e2]
        have k := elRun_ok 13 _ (elFrom_ok e e1 e2)
        have k' : ElOK h (elEnd (elFrom ss xs h o g)) := k
        unfold elLast
        split
        · exact .inr (w_right k'.d k'.l h0 h3 (by decide) (by decide) (by rw [encL_size]; decide))
        · exact .inr k'.d
  · rw [elA_room e]; exact .inl ⟨rfl, rfl⟩
theorem rsA_ok (ss : List ByteArray) (xs : List Wr) (h : Int) (X : Ld) : AnsOK (rsA ss xs h X) := by
  unfold rsA
  split
  · rename_i e
    obtain ⟨ed, ⟨h0, h3⟩, el⟩ := leC_eq e
    split
    · split
      · split
        · split
          · exact .inr ed
          · exact .inr (w_right ed el h0 h3 (by decide) (by decide) (by rw [encL_size]; decide))
        · exact .inr ed
      · exact .inr ed
    · exact .inl ⟨rfl, rfl⟩
  · exact .inl ⟨rfl, rfl⟩
theorem AnsOK.sizes {R : Ans} (h : AnsOK R) : ((∀ s ∈ R.ss, s.size ≤ maxLen) ∧ ∀ x ∈ R.xs, x.data.size ≤ maxLen) ∧ R.ss.length ≤ 2097152 ∧ R.xs.length ≤ 2097152 := by
  rcases h with ⟨h1, h2⟩ | h
  · rw [h1, h2]
    exact ⟨⟨fun s hs => absurd hs (by simp), fun s hs => absurd hs (by simp)⟩, by simp, by simp⟩
  · have := diskB_len h
    exact ⟨⟨rightS h, rightX h⟩, by omega, by omega⟩

end Go.Proofs.YtjmianalknnekabGreatDoor

/- Contracts of laws.toLeader, laws.eqLeader. -/
namespace Go.Proofs.YtjmianalknnekabGreatDoor
open Go.RowKit
set_option linter.unusedVariables false
set_option maxRecDepth 100000

set_option maxHeartbeats 1600000 in
theorem toLeader_any (x : Ld) (w : World) : Calls Tryz.prog 7 #[lV x] w fun e w' => e = .returned (lV x) ∧ Below w.heap.size w w' := by
  go_enter Tryz.func7, Tryz.ntmps7
  go_wp2
  exact bodyPost_ret (v := lV x) (by simp [results, Tryz.results7, go_sem]) rfl ⟨rfl, fr (Joins.below_alloc2 _ _ _) (Joins.below_alloc1 _ _)⟩

set_option maxHeartbeats 1600000 in
theorem eqLeader_same (x : Ld) (w : World) : Calls Tryz.prog 10 #[lV x, lV x] w fun e w' => e = .returned (.bool true) ∧ Below w.heap.size w w' := by
  go_enter Tryz.func10, Tryz.ntmps10
  go_wp2
  go_ret
  exact ⟨rfl, Joins.below_alloc2 _ _ _⟩

end Go.Proofs.YtjmianalknnekabGreatDoor

/- What the walk of laws.FnExactRelease holds in hand: answers laid into two new variables. -/
namespace Go.Proofs.YtjmianalknnekabGreatDoor
open Go.RowKit
set_option linter.unusedVariables false

abbrev oV (a b : Value) : Obj := .cells #[a, b] 31
abbrev oT (x y z : Int) : Obj := .cells #[.int .i64 x, .int .i64 y, .int .i64 z] 32
/-- A new variable of a disk, of a leader, still zero. -/
def HV1 (W0 W : World) (C : Nat) : Prop := VarD W C (.slice none 0 0) (.slice none 0 0) ∧ W0.heap.size ≤ C
def HT1 (W0 W : World) (C : Nat) : Prop := VarT W C 32 0 0 0 ∧ W0.heap.size ≤ C
theorem HV1.below {W0 W W' : World} {C : Nat} (h : HV1 W0 W C) (hb : Below W.heap.size W W') : HV1 W0 W' C := ⟨h.1.below hb, h.2⟩
theorem HT1.below {W0 W W' : World} {C : Nat} (h : HT1 W0 W C) (hb : Below W.heap.size W W') : HT1 W0 W' C := ⟨h.1.below hb, h.2⟩
theorem HV1.new {W0 W : World} (h : Below W0.heap.size W0 W) : HV1 W0 (W.alloc (.cells #[.slice none 0 0, .slice none 0 0] 31)) W.heap.size := ⟨VarD.new W _ _, h.size⟩
theorem HT1.new {W0 W : World} (h : Below W0.heap.size W0 W) : HT1 W0 (W.alloc (.cells #[.int .i64 0, .int .i64 0, .int .i64 0] 32)) W.heap.size := ⟨VarT.new W _ 0 0 0, h.size⟩
theorem HV1.new2 {W0 W : World} (h : Below W0.heap.size W0 W) (o : Obj) : HV1 W0 ((W.alloc o).alloc (.cells #[.slice none 0 0, .slice none 0 0] 31)) (W.heap.size + 1) := by
  have := HV1.new (belowAl h o)
  rw [World.size_alloc] at this
  exact this
theorem HT1.new2 {W0 W : World} (h : Below W0.heap.size W0 W) (o : Obj) : HT1 W0 ((W.alloc o).alloc (.cells #[.int .i64 0, .int .i64 0, .int .i64 0] 32)) (W.heap.size + 1) := by
  have := HT1.new (belowAl h o)
  rw [World.size_alloc] at this
  exact this
/-- A copy of the disk. -/
def DK (W : World) (g k : Nat) (ss : List ByteArray) (xs : List Wr) : Prop := Ss W (some ⟨g, 0, none⟩) ss ∧ Ios W (some ⟨k, 0, none⟩) xs
theorem DK.below {W W' : World} {g k : Nat} {ss : List ByteArray} {xs : List Wr} (h : DK W g k ss xs) (hb : Below W.heap.size W W') : DK W' g k ss xs := ⟨h.1.below hb, h.2.below hb⟩
/-- The answer in its two variables. -/
structure GotR (W0 W : World) (C1 C2 : Nat) (RS : List ByteArray) (RX : List Wr) (x y z : Int) : Prop where
  k : Below W0.heap.size W0 W
  v : ∃ po pa qo qa, OwnD W W0.heap.size po RS.length pa qo RX.length qa RS RX ∧ VarD W C1 (.slice po RS.length pa) (.slice qo RX.length qa) ∧ VarT W C2 32 x y z
theorem varD_set {W : World} {C : Nat} {a b : Value} (h : VarD W C a b) (u v : Value) : VarD ((W.setCell ⟨C, 0, none⟩ u).setCell ⟨C, 1, none⟩ v) C u v := by
  have h1 := Joins.block_setCell (i := 0) h u
  have h2 := Joins.block_setCell (i := 1) h1 v
  exact h2
theorem varT_set {W : World} {C t : Nat} {a b c : Int} (h : VarT W C t a b c) (x y z : Int) : VarT (((W.setCell ⟨C, 0, none⟩ (.int .i64 x)).setCell ⟨C, 1, none⟩ (.int .i64 y)).setCell ⟨C, 2, none⟩ (.int .i64 z)) C t x y z := by
  have h1 := Joins.block_setCell (i := 0) h (.int .i64 x)
  have h2 := Joins.block_setCell (i := 1) h1 (.int .i64 y)
  have h3 := Joins.block_setCell (i := 2) h2 (.int .i64 z)
  exact h3
theorem apart12 {W : World} {C1 C2 : Nat} {a b : Value} {x y z : Int} (h1 : VarD W C1 a b) (h2 : VarT W C2 32 x y z) : C1 ≠ C2 := by
  rintro rfl
  have h1' : W.heap[C1]? = some (.cells #[a, b] 31 (0, 0)) := h1
  have h2' : W.heap[C1]? = some (.cells #[.int .i64 x, .int .i64 y, .int .i64 z] 32 (0, 0)) := h2
  rw [h1'] at h2'
  simp at h2'
/-- Both variables stood, and are stored into. -/
theorem GotR.five {W0 W : World} {C1 C2 B : Nat} {po qo : Option Addr} {pa qa : Nat} {RS : List ByteArray} {RX : List Wr} {x y z : Int} (hx : Below W0.heap.size W0 W) (hv : HV1 W0 W C1) (ht : HT1 W0 W C2) (ho : OwnD W B po RS.length pa qo RX.length qa RS RX) (hB : W0.heap.size ≤ B) :
    GotR W0 (((((W.setCell ⟨C1, 0, none⟩ (.slice po RS.length pa)).setCell ⟨C1, 1, none⟩ (.slice qo RX.length qa)).setCell ⟨C2, 0, none⟩ (.int .i64 x)).setCell ⟨C2, 1, none⟩ (.int .i64 y)).setCell ⟨C2, 2, none⟩ (.int .i64 z)) C1 C2 RS RX x y z := by
  have hne := apart12 hv.1 ht.1
  have hk1 : Keep (fun j => j = C1) W ((W.setCell ⟨C1, 0, none⟩ (.slice po RS.length pa)).setCell ⟨C1, 1, none⟩ (.slice qo RX.length qa)) := ((Keep.refl (fun j => j = C1) W).setCell (p := ⟨C1, 0, none⟩) rfl _).setCell (p := ⟨C1, 1, none⟩) rfl _
  have hd1 := ho.keep hk1 (fun g hg e => by have e' : g = C1 := e; subst e'; exact ho.other hv.1 (by decide) (by decide) hg)
  have ht1 := ht.1.keep hk1 (fun e => hne (by have e' : C2 = C1 := e; exact e'.symm))
  have hv1 := varD_set hv.1 (.slice po RS.length pa) (.slice qo RX.length qa)
  have hk2 := (((Keep.refl (fun j => j = C2) ((W.setCell ⟨C1, 0, none⟩ (.slice po RS.length pa)).setCell ⟨C1, 1, none⟩ (.slice qo RX.length qa))).setCell (p := ⟨C2, 0, none⟩) rfl (.int .i64 x)).setCell (p := ⟨C2, 1, none⟩) rfl (.int .i64 y)).setCell (p := ⟨C2, 2, none⟩) rfl (.int .i64 z)
  refine ⟨below5 hx hv.2 ht.2 _ _ _ _ _, po, pa, qo, qa, ?_, hv1.keep hk2 (fun e => hne e), varT_set ht1 x y z⟩
  exact OwnD.base (hd1.keep hk2 (fun g hg e => by have e' : g = C2 := e; subst e'; exact hd1.other ht1 (by decide) (by decide) hg)) hB
/-- The disk's variable came with its value. -/
theorem GotR.topV {W0 W : World} {C2 B : Nat} {po qo : Option Addr} {pa qa : Nat} {RS : List ByteArray} {RX : List Wr} {x y z : Int} (hx : Below W0.heap.size W0 W) (ht : HT1 W0 W C2) (ho : OwnD W B po RS.length pa qo RX.length qa RS RX) (hB : W0.heap.size ≤ B) :
    GotR W0 ((((W.setCell ⟨C2, 0, none⟩ (.int .i64 x)).setCell ⟨C2, 1, none⟩ (.int .i64 y)).setCell ⟨C2, 2, none⟩ (.int .i64 z)).alloc (.cells #[.slice po RS.length pa, .slice qo RX.length qa] 31)) W.heap.size C2 RS RX x y z := by
  have hk2 := (((Keep.refl (fun j => j = C2) W).setCell (p := ⟨C2, 0, none⟩) rfl (.int .i64 x)).setCell (p := ⟨C2, 1, none⟩) rfl (.int .i64 y)).setCell (p := ⟨C2, 2, none⟩) rfl (.int .i64 z)
  have ht1 := varT_set ht.1 x y z
  have hd1 := ho.keep hk2 (fun g hg e => by have e' : g = C2 := e; subst e'; exact ho.other ht.1 (by decide) (by decide) hg)
  have hx1 := ((hx.setCell (p := ⟨C2, 0, none⟩) ht.2 (.int .i64 x)).setCell (p := ⟨C2, 1, none⟩) ht.2 (.int .i64 y)).setCell (p := ⟨C2, 2, none⟩) ht.2 (.int .i64 z)
  have hz : (((W.setCell ⟨C2, 0, none⟩ (.int .i64 x)).setCell ⟨C2, 1, none⟩ (.int .i64 y)).setCell ⟨C2, 2, none⟩ (.int .i64 z)).heap.size = W.heap.size := by simp
  revert hk2 ht1 hd1 hx1 hz
  generalize (((W.setCell ⟨C2, 0, none⟩ (.int .i64 x)).setCell ⟨C2, 1, none⟩ (.int .i64 y)).setCell ⟨C2, 2, none⟩ (.int .i64 z)) = U
  intro hk2 ht1 hd1 hx1 hz
  have hb := Joins.below_alloc1 U (.cells #[.slice po RS.length pa, .slice qo RX.length qa] 31)
  have hv := VarD.new U (.slice po RS.length pa) (.slice qo RX.length qa)
  rw [hz] at hv
  exact ⟨fr hx1 hb, po, pa, qo, qa, OwnD.base (hd1.below hb) hB, hv, ht1.below hb⟩
/-- The leader's variable came with its value. -/
theorem GotR.topT {W0 W : World} {C1 B : Nat} {po qo : Option Addr} {pa qa : Nat} {RS : List ByteArray} {RX : List Wr} {x y z : Int} (hx : Below W0.heap.size W0 W) (hv : HV1 W0 W C1) (ho : OwnD W B po RS.length pa qo RX.length qa RS RX) (hB : W0.heap.size ≤ B) :
    GotR W0 (((W.setCell ⟨C1, 0, none⟩ (.slice po RS.length pa)).setCell ⟨C1, 1, none⟩ (.slice qo RX.length qa)).alloc (.cells #[.int .i64 x, .int .i64 y, .int .i64 z] 32)) C1 W.heap.size RS RX x y z := by
  have hk1 := ((Keep.refl (fun j => j = C1) W).setCell (p := ⟨C1, 0, none⟩) rfl (.slice po RS.length pa)).setCell (p := ⟨C1, 1, none⟩) rfl (.slice qo RX.length qa)
  have hv1 := varD_set hv.1 (.slice po RS.length pa) (.slice qo RX.length qa)
  have hd1 := ho.keep hk1 (fun g hg e => by have e' : g = C1 := e; subst e'; exact ho.other hv.1 (by decide) (by decide) hg)
  have hx1 := (hx.setCell (p := ⟨C1, 0, none⟩) hv.2 (.slice po RS.length pa)).setCell (p := ⟨C1, 1, none⟩) hv.2 (.slice qo RX.length qa)
  have hz : ((W.setCell ⟨C1, 0, none⟩ (.slice po RS.length pa)).setCell ⟨C1, 1, none⟩ (.slice qo RX.length qa)).heap.size = W.heap.size := by simp
  revert hk1 hv1 hd1 hx1 hz
  generalize ((W.setCell ⟨C1, 0, none⟩ (.slice po RS.length pa)).setCell ⟨C1, 1, none⟩ (.slice qo RX.length qa)) = U
  intro hk1 hv1 hd1 hx1 hz
  have hb := Joins.below_alloc1 U (.cells #[.int .i64 x, .int .i64 y, .int .i64 z] 32)
  have ht := VarT.new U 32 x y z
  rw [hz] at ht
  exact ⟨fr hx1 hb, po, pa, qo, qa, OwnD.base (hd1.below hb) hB, hv1.below hb, ht⟩
/-- Both came with their values. -/
theorem GotR.topVT {W0 W : World} {B : Nat} {po qo : Option Addr} {pa qa : Nat} {RS : List ByteArray} {RX : List Wr} {x y z : Int} (hx : Below W0.heap.size W0 W) (ho : OwnD W B po RS.length pa qo RX.length qa RS RX) (hB : W0.heap.size ≤ B) :
    GotR W0 ((W.alloc (.cells #[.slice po RS.length pa, .slice qo RX.length qa] 31)).alloc (.cells #[.int .i64 x, .int .i64 y, .int .i64 z] 32)) W.heap.size (W.heap.size + 1) RS RX x y z := by
  have hb := Joins.below_alloc2 W (.cells #[.slice po RS.length pa, .slice qo RX.length qa] 31) (.cells #[.int .i64 x, .int .i64 y, .int .i64 z] 32)
  have ht := VarT.new (W.alloc (.cells #[.slice po RS.length pa, .slice qo RX.length qa] 31)) 32 x y z
  rw [World.size_alloc] at ht
  exact ⟨fr hx hb, po, pa, qo, qa, OwnD.base (ho.below hb) hB, (VarD.new W _ _).below (Joins.below_alloc1 _ _), ht⟩
theorem GotR.topTV {W0 W : World} {B : Nat} {po qo : Option Addr} {pa qa : Nat} {RS : List ByteArray} {RX : List Wr} {x y z : Int} (hx : Below W0.heap.size W0 W) (ho : OwnD W B po RS.length pa qo RX.length qa RS RX) (hB : W0.heap.size ≤ B) :
    GotR W0 ((W.alloc (.cells #[.int .i64 x, .int .i64 y, .int .i64 z] 32)).alloc (.cells #[.slice po RS.length pa, .slice qo RX.length qa] 31)) (W.heap.size + 1) W.heap.size RS RX x y z := by
  have hb := Joins.below_alloc2 W (.cells #[.int .i64 x, .int .i64 y, .int .i64 z] 32) (.cells #[.slice po RS.length pa, .slice qo RX.length qa] 31)
  have hv := VarD.new (W.alloc (.cells #[.int .i64 x, .int .i64 y, .int .i64 z] 32)) (.slice po RS.length pa) (.slice qo RX.length qa)
  rw [World.size_alloc] at hv
  exact ⟨fr hx hb, po, pa, qo, qa, OwnD.base (ho.below hb) hB, hv, (VarT.new W _ x y z).below (Joins.below_alloc1 _ _)⟩

end Go.Proofs.YtjmianalknnekabGreatDoor
