import Derived.Test.YtdfinapjgffjiaaGreatDoorPart1
import Derived.Test.YtdfinapjgffjiaaGreatDoorPart5
import Derived.Test.YtdfinapjgffjiaaGreatDoorPart11
import Derived.Test.YtdfinapjgffjiaaGreatDoorPart6
import Derived.Test.YtdfinapjgffjiaaGreatDoorPart8
import Derived.Test.YtdfinapjgffjiaaGreatDoorRows
import Derived.Test.YtdfinapjgffjiaaGreatDoorPart3
import Derived.Test.YtdfinapjgffjiaaGreatDoorPart2
import Derived.Test.YtdfinapjgffjiaaGreatDoorPart4
import Derived.WalkKit
import Derived.WalkSpells
import Derived.KernelRfl
import Derived.Deep.RegionHeld3
import Derived.Test.YtdfinapjgffjiaaGreatDoorPart7
import Derived.Deep.MidRow
import Derived.Deep.CutRange
import Derived.BigQuiet
import Derived.Deep.QuietTactic
import Derived.Deep.RegionWith
import Derived.Lib.SmallJoins
import Derived.Deep.RegionLawGrows

/- Plain: a leader's text read back; elections at disks on which no writes wait. -/
namespace Go.Proofs.YtdfinapjgffjiaaGreatDoor
set_option linter.unusedVariables false

theorem ld_enc {x : Ld} (hx : ldB x = true) : ldD (encL x) = true ∧ ldK (encL x) = x := by
  obtain ⟨h1, h2, h3⟩ := ldB_lo hx
  have ha : allB [x.ver, x.own + 1, x.gen] = true := by simp [allB, numB, inB]; omega
  have ho : openB (encL x) 6 = true := openB_in.2 ⟨rec_seal ⟨by omega, by omega⟩ ha (by simp), seal_kind ⟨by omega, by omega⟩ (by simp)⟩
  have hl : ldL (encL x) = [x.ver, x.own + 1, x.gen] := by rw [ldL, openL_yes ho, encL, body_seal, un_pack ha]
  have e : (⟨x.ver, x.own + 1 - 1, x.gen⟩ : Ld) = x := by cases x; simp
  have hb : ldD (encL x) = true := by rw [ldD_at ho hl, e]; exact hx
  exact ⟨hb, by rw [ld_yes hb hl, e]⟩
theorem lc_enc {x : Ld} (hx : ldB x = true) : lcK (encL x) = x ∧ lcC (encL x) = 0 := by
  obtain ⟨h1, h2⟩ := ld_enc hx
  obtain ⟨y1, y2⟩ := lc_yes (t := encL x) (by rw [encL_size]; omega) h1
  exact ⟨y1.trans h2, y2⟩
theorem wX_nil (h a : Int) (t : ByteArray) : wX [] h a t = [] := by simp [wX, dropF]
theorem wS_nil (ss : List ByteArray) (h a : Int) (t : ByteArray) : wS ss [] h a t = ss.set a.toNat t := by simp [wS, ofH, putW]
theorem lead_read {ss : List ByteArray} {x : Ld} (h k : Int) (hl : ss.length = 64) (hx : ldB x = true) : ldOf (wS ss [] h 0 (encL x)) [] k = x := by
  rw [ldOf, read_nil, wS_nil]
  have : (ss.set (0 : Int).toNat (encL x)).getD (0 : Int).toNat ⟨#[]⟩ = encL x := by simp [hl]
  rw [this]
  exact (ld_enc hx).2
theorem step_nil {s : Est} (h : s.xs = []) : (elStep s).xs = [] := by
  unfold elStep
  split
  · show wX s.xs _ _ _ = []
    rw [h]; exact wX_nil _ _ _
  · exact h
theorem run_nil : ∀ (n : Nat) (s : Est), s.xs = [] → (elRun n s).xs = []
  | 0, _, h => h
  | n + 1, s, h => by
    rw [elRun]
    split
    · exact run_nil n _ (step_nil h)
    · exact h
theorem le_nil {ss : List ByteArray} {h : Int} (hd : diskB ss [] = true) (h0 : 0 ≤ h) (h3 : h ≤ 3) : leC ss [] h = 0 := leC_ok (codes_right (a := 0) hd h0 h3 (by omega) (by omega)).1 (by simp)
/-- What an election comes to. -/
theorem el_plain {ss : List ByteArray} {h o g : Int} {R : Ans} (hR : elA ss [] h o g = R) (hd : diskB ss [] = true) (h0 : 0 ≤ h) (h3 : h ≤ 3) (e1 : (inB o 0 3 && inB g 1 1000000) = true) :
    (R.c = 0 ∨ R.c = 6 ∨ R.c = 19) ∧ R.xs = [] ∧ diskB R.ss [] = true ∧ (R.c = 0 → R.l.ver = (ldOf ss [] h).ver + 1 ∧ ldB R.l = true ∧ (0 ≤ R.l.own ∧ R.l.own ≤ 3) ∧ 1 ≤ R.l.gen ∧ ∀ k, ldOf R.ss [] k = R.l) := by
  subst hR
  have e := le_nil hd h0 h3
  cases e2 : elMany ss [] h with
  | true =>
    rw [elA_many e e1 e2]
    exact ⟨.inr (.inl rfl), rfl, hd, fun k => absurd k (show ¬ (6 : Int) = 0 by decide)⟩
  | false =>
    rw [elA_end e e1 e2]
    have k' : ElOK h (elEnd (elFrom ss [] h o g)) := elRun_ok 13 _ (elFrom_ok e e1 e2)
    have kn : (elEnd (elFrom ss [] h o g)).xs = [] := run_nil 13 _ rfl
    revert k' kn
    generalize elEnd (elFrom ss [] h o g) = E
    intro k' kn
    have kd := k'.d
    have kl := k'.l
    rw [kn] at kd kl
    unfold elLast
    split
    · rename_i hq
      have hv := (px_parts k'.p).2.2.2.2.1
      obtain ⟨q1, q2⟩ := ldB_iff.1 hq.2
      have q3 : (leadOf ((ldOf ss [] h).ver + 1) E.p.value).own = E.p.value % 1024 := rfl
      have hw : diskB (wS E.ss [] h 0 (encL (leadOf ((ldOf ss [] h).ver + 1) E.p.value))) (wX [] h 0 (encL (leadOf ((ldOf ss [] h).ver + 1) E.p.value))) = true := w_right kd kl h0 h3 (by decide) (by decide) (by rw [encL_size]; decide)
      rw [wX_nil] at hw
      refine ⟨.inl rfl, ?_, ?_, fun _ => ⟨rfl, hq.2, ?_, ?_, fun k => ?_⟩⟩
      · show wX E.xs h 0 _ = []
        rw [kn]; exact wX_nil _ _ _
      · show diskB (wS E.ss E.xs h 0 _) [] = true
        rw [kn]; exact hw
      · show 0 ≤ (leadOf ((ldOf ss [] h).ver + 1) E.p.value).own ∧ (leadOf ((ldOf ss [] h).ver + 1) E.p.value).own ≤ 3
        omega
      · show 1 ≤ (leadOf ((ldOf ss [] h).ver + 1) E.p.value).gen
        omega
      · show ldOf (wS E.ss E.xs h 0 _) [] k = _
        rw [kn]
        exact lead_read h k (diskB_len kd).1 hq.2
    · exact ⟨.inr (.inr rfl), kn, kd, fun k => absurd k (show ¬ (19 : Int) = 0 by decide)⟩
theorem hl_yes {ss : List ByteArray} {L : Ld} {h : Int} (hd : diskB ss [] = true) (h0 : 0 ≤ h) (h3 : h ≤ 3) (hL : ldOf ss [] h = L) (ho : L.own = h) : hlB ss [] h L.gen = true ∧ hostC ss [] h = 0 := by
  have e := (codes_right (xs := []) (a := 0) hd h0 h3 (by omega) (by omega)).1
  exact ⟨by simp [hlB, e, hL, ho], e⟩
theorem hl_no {ss : List ByteArray} {L : Ld} {h g : Int} (hd : diskB ss [] = true) (h0 : 0 ≤ h) (h3 : h ≤ 3) (hL : ldOf ss [] h = L) (ho : L.own ≠ h) : hlB ss [] h g = false ∧ hostC ss [] h = 0 := by
  have e := (codes_right (xs := []) (a := 0) hd h0 h3 (by omega) (by omega)).1
  exact ⟨by simp [hlB, e, hL, ho], e⟩
theorem rl_nil {ss : List ByteArray} {L : Ld} {h : Int} (hd : diskB ss [] = true) (h0 : 0 ≤ h) (h3 : h ≤ 3) (hL : ldOf ss [] h = L) : rlK ss [] h = L ∧ hostC ss [] h = 0 := by
  have e := (codes_right (xs := []) (a := 0) hd h0 h3 (by omega) (by omega)).1
  exact ⟨by rw [rlK, if_pos e, hL], e⟩

end Go.Proofs.YtdfinapjgffjiaaGreatDoor

/- Contracts of spec.TakeDelta, RenewDelta, ReadDelta. -/
namespace Go.Proofs.YtdfinapjgffjiaaGreatDoor
open Go.RowKit
set_option linter.unusedVariables false
set_option maxRecDepth 100000

theorem rightS {ss : List ByteArray} {xs : List Wr} (hd : diskB ss xs = true) : ∀ s ∈ ss, s.size ≤ maxLen := fun s hs => Nat.le_trans ((diskB_parts.1 hd).1.2 s hs) (by decide)
theorem red_in (ss : List ByteArray) (xs : List Wr) (h o : Int) : 0 ≤ redG ss xs h o ∧ redG ss xs h o ≤ 1000000 := by
  cases e : redB ss xs h o with
  | false => rw [(red_no e).1]; omega
  | true =>
    have hb : decB (readV ss xs h (5 + o)) = true := by simp only [redB, Bool.and_eq_true] at e; exact e.1
    have := (dltB_iff.1 (dec_right hb)).2.1
    rw [redG, if_pos e]
    omega

/-- What a call keeps that has a disk in a variable and answers a disk and a generation: its variables, its argument. -/
structure TkS (w W : World) (B0 B1 B2 : Nat) (ao : Option Addr) (ca : Nat) (bo : Option Addr) (cb : Nat) (ss : List ByteArray) (xs : List Wr) : Prop where
  below : Below w.heap.size w W
  d : VarD W B0 (.slice ao ss.length ca) (.slice bo xs.length cb)
  r : VarD W B1 (.slice none 0 0) (.slice none 0 0)
  t : VarT W B2 108 0 0 0
  s : Ss W ao ss
  i : Ios W bo xs
theorem TkS.next {w W W' : World} {B0 B1 B2 : Nat} {ao : Option Addr} {ca : Nat} {bo : Option Addr} {cb : Nat} {ss : List ByteArray} {xs : List Wr} (h : TkS w W B0 B1 B2 ao ca bo cb ss xs) (hb : Below W.heap.size W W') : TkS w W' B0 B1 B2 ao ca bo cb ss xs :=
  ⟨fr h.below hb, h.d.below hb, h.r.below hb, h.t.below hb, h.s.below hb, h.i.below hb⟩
theorem tk_new (w : World) (ao bo : Option Addr) (ca cb : Nat) (ss : List ByteArray) (xs : List Wr) (h1 : Ss w ao ss) (h2 : Ios w bo xs) :
    TkS w (((w.alloc (.cells #[.slice ao ss.length ca, .slice bo xs.length cb] 26)).alloc (.cells #[.slice none 0 0, .slice none 0 0] 26)).alloc (.cells #[.int .i64 0, .int .i64 0, .int .i64 0] 108)) w.heap.size (w.heap.size + 1) (w.heap.size + 1 + 1) ao ca bo cb ss xs := by
  have hA := fr (Joins.below_alloc2 w (.cells #[.slice ao ss.length ca, .slice bo xs.length cb] 26) (.cells #[.slice none 0 0, .slice none 0 0] 26)) (Joins.below_alloc1 _ (.cells #[.int .i64 0, .int .i64 0, .int .i64 0] 108))
  refine ⟨hA, (VarD.new w _ _).below (fr (Joins.below_alloc1 _ _) (Joins.below_alloc1 _ _)), ?_, ?_, h1.below hA, h2.below hA⟩
  · have := (VarD.new (w.alloc (.cells #[.slice ao ss.length ca, .slice bo xs.length cb] 26)) (.slice none 0 0) (.slice none 0 0)).below (Joins.below_alloc1 _ (.cells #[.int .i64 0, .int .i64 0, .int .i64 0] 108))
    simp only [World.size_alloc] at this
    exact this
  · have := VarT.new ((w.alloc (.cells #[.slice ao ss.length ca, .slice bo xs.length cb] 26)).alloc (.cells #[.slice none 0 0, .slice none 0 0] 26)) 108 0 0 0
    simp only [World.size_alloc] at this
    exact this
/-- The answer is stored into its variables. -/
def set5 (W : World) (B1 B2 : Nat) (a b x y z : Value) : World := ((((W.setCell ⟨B1, 0, none⟩ a).setCell ⟨B1, 1, none⟩ b).setCell ⟨B2, 0, none⟩ x).setCell ⟨B2, 1, none⟩ y).setCell ⟨B2, 2, none⟩ z
theorem below5 {w W : World} {B B1 B2 : Nat} (h : Below B w W) (h1 : B ≤ B1) (h2 : B ≤ B2) (a b x y z : Value) : Below B w (set5 W B1 B2 a b x y z) :=
  ((((h.setCell (p := ⟨B1, 0, none⟩) h1 a).setCell (p := ⟨B1, 1, none⟩) h1 b).setCell (p := ⟨B2, 0, none⟩) h2 x).setCell (p := ⟨B2, 1, none⟩) h2 y).setCell (p := ⟨B2, 2, none⟩) h2 z
theorem own5 {W : World} {B n ca m cb : Nat} {ao bo : Option Addr} {ss : List ByteArray} {xs : List Wr} {B1 B2 : Nat} (h : OwnD W B ao n ca bo m cb ss xs) (h1 : B1 < B) (h2 : B2 < B) (a b x y z : Value) : OwnD (set5 W B1 B2 a b x y z) B ao n ca bo m cb ss xs :=
  ((((h.setCell (a := ⟨B1, 0, none⟩) h1 a).setCell (a := ⟨B1, 1, none⟩) h1 b).setCell (a := ⟨B2, 0, none⟩) h2 x).setCell (a := ⟨B2, 1, none⟩) h2 y).setCell (a := ⟨B2, 2, none⟩) h2 z

/-- What TakeDelta answers. -/
def tkC (ss : List ByteArray) (xs : List Wr) (h now : Int) : Int := if roomC ss xs h now = 0 then (if redG ss xs h h = 1000000 then 6 else 0) else roomC ss xs h now
def tkS (ss : List ByteArray) (xs : List Wr) (h now : Int) : List ByteArray := if roomC ss xs h now = 0 then (if redG ss xs h h = 1000000 then ss else pS ss xs h (redG ss xs h h + 1) now) else []
def tkX (ss : List ByteArray) (xs : List Wr) (h now : Int) : List Wr := if roomC ss xs h now = 0 then (if redG ss xs h h = 1000000 then xs else pX xs h (redG ss xs h h + 1) now) else []
def tkH (ss : List ByteArray) (xs : List Wr) (h now : Int) : Int := if tkC ss xs h now = 0 then h else 0
def tkG (ss : List ByteArray) (xs : List Wr) (h now : Int) : Int := if tkC ss xs h now = 0 then redG ss xs h h + 1 else 0
def tkT (ss : List ByteArray) (xs : List Wr) (h now : Int) : Int := if tkC ss xs h now = 0 then now else 0
theorem tk_room {ss : List ByteArray} {xs : List Wr} {h now : Int} (hr : roomC ss xs h now ≠ 0) : tkS ss xs h now = [] ∧ tkX ss xs h now = [] ∧ (tkH ss xs h now = 0 ∧ tkG ss xs h now = 0 ∧ tkT ss xs h now = 0) ∧ tkC ss xs h now = roomC ss xs h now := by
  have e : tkC ss xs h now = roomC ss xs h now := if_neg hr
  have e' : ¬ tkC ss xs h now = 0 := by rw [e]; exact hr
  exact ⟨if_neg hr, if_neg hr, ⟨if_neg e', if_neg e', if_neg e'⟩, e⟩
theorem tk_many {ss : List ByteArray} {xs : List Wr} {h now : Int} (hr : roomC ss xs h now = 0) (hg : redG ss xs h h = 1000000) : tkS ss xs h now = ss ∧ tkX ss xs h now = xs ∧ (tkH ss xs h now = 0 ∧ tkG ss xs h now = 0 ∧ tkT ss xs h now = 0) ∧ tkC ss xs h now = 6 := by
  have e : tkC ss xs h now = 6 := (if_pos hr).trans (if_pos hg)
  have e' : ¬ tkC ss xs h now = 0 := by rw [e]; decide
  exact ⟨(if_pos hr).trans (if_pos hg), (if_pos hr).trans (if_pos hg), ⟨if_neg e', if_neg e', if_neg e'⟩, e⟩
theorem tk_ok {ss : List ByteArray} {xs : List Wr} {h now : Int} (hr : roomC ss xs h now = 0) (hg : redG ss xs h h ≠ 1000000) : tkS ss xs h now = pS ss xs h (redG ss xs h h + 1) now ∧ tkX ss xs h now = pX xs h (redG ss xs h h + 1) now ∧ (tkH ss xs h now = h ∧ tkG ss xs h now = redG ss xs h h + 1 ∧ tkT ss xs h now = now) ∧ tkC ss xs h now = 0 := by
  have e : tkC ss xs h now = 0 := (if_pos hr).trans (if_neg hg)
  exact ⟨(if_pos hr).trans (if_neg hg), (if_pos hr).trans (if_neg hg), ⟨if_pos e, if_pos e, if_pos e⟩, e⟩

end Go.Proofs.YtdfinapjgffjiaaGreatDoor

/- The program's store of a leader in a variable: its cells, what it owns. -/
namespace Go.Proofs.YtdfinapjgffjiaaGreatDoor
open Go.RowKit
set_option linter.unusedVariables false
set_option maxRecDepth 100000

def VarS (w : World) (x : Nat) (p : Pxs) (b s d : Value) (L : Ld) : Prop := w.heap[x]? = some (.cells #[.int .i64 p.host, .int .i64 p.ver, .int .i64 p.phase, .int .i64 p.ballot, .int .i64 p.value, .int .i64 p.next, .int .i64 p.best, .int .i64 p.bestBal, b, s, d, .int .i64 L.ver, .int .i64 L.own, .int .i64 L.gen] 58 (0, 0))
theorem VarS.lt {w : World} {x : Nat} {p : Pxs} {b s d : Value} {L : Ld} (k : VarS w x p b s d L) : x < w.heap.size := (Array.getElem?_eq_some_iff.1 k).1
theorem VarS.px {w : World} {x : Nat} {p : Pxs} {b s d : Value} {L : Ld} (k : VarS w x p b s d L) : w.cell? ⟨x, 0, none⟩ = some (.int .i64 p.host) ∧ w.cell? ⟨x, 1, none⟩ = some (.int .i64 p.ver) ∧ w.cell? ⟨x, 2, none⟩ = some (.int .i64 p.phase) ∧ w.cell? ⟨x, 3, none⟩ = some (.int .i64 p.ballot) ∧ w.cell? ⟨x, 4, none⟩ = some (.int .i64 p.value) ∧ w.cell? ⟨x, 5, none⟩ = some (.int .i64 p.next) ∧ w.cell? ⟨x, 6, none⟩ = some (.int .i64 p.best) ∧ w.cell? ⟨x, 7, none⟩ = some (.int .i64 p.bestBal) :=
  ⟨by rw [Joins.cell_of_block k]; rfl, by rw [Joins.cell_of_block k]; rfl, by rw [Joins.cell_of_block k]; rfl, by rw [Joins.cell_of_block k]; rfl, by rw [Joins.cell_of_block k]; rfl, by rw [Joins.cell_of_block k]; rfl, by rw [Joins.cell_of_block k]; rfl, by rw [Joins.cell_of_block k]; rfl⟩
theorem VarS.rest {w : World} {x : Nat} {p : Pxs} {b s d : Value} {L : Ld} (k : VarS w x p b s d L) : w.cell? ⟨x, 8, none⟩ = some b ∧ w.cell? ⟨x, 9, none⟩ = some s ∧ w.cell? ⟨x, 10, none⟩ = some d ∧ w.cell? ⟨x, 11, none⟩ = some (.int .i64 L.ver) ∧ w.cell? ⟨x, 12, none⟩ = some (.int .i64 L.own) ∧ w.cell? ⟨x, 13, none⟩ = some (.int .i64 L.gen) :=
  ⟨by rw [Joins.cell_of_block k]; rfl, by rw [Joins.cell_of_block k]; rfl, by rw [Joins.cell_of_block k]; rfl, by rw [Joins.cell_of_block k]; rfl, by rw [Joins.cell_of_block k]; rfl, by rw [Joins.cell_of_block k]; rfl⟩
theorem VarS.free {w : World} {x : Nat} {p : Pxs} {b s d : Value} {L : Ld} (k : VarS w x p b s d L) (i : Nat) : w.frozen? ⟨x, i, none⟩ = false := Joins.unfrozen_of_block k i
theorem VarS.below {w w' : World} {x : Nat} {p : Pxs} {b s d : Value} {L : Ld} (k : VarS w x p b s d L) (hb : Below w.heap.size w w') : VarS w' x p b s d L := by
  unfold VarS; rw [hb.block x k.lt]; exact k
theorem VarS.keep {S : Nat → Prop} {w w' : World} {x : Nat} {p : Pxs} {b s d : Value} {L : Ld} (k : VarS w x p b s d L) (hk : Keep S w w') (hs : ¬ S x) : VarS w' x p b s d L := by
  unfold VarS; rw [hk.block x k.lt hs]; exact k
theorem VarS.new (w : World) (p : Pxs) (b s d : Value) (L : Ld) : VarS (w.alloc (.cells #[.int .i64 p.host, .int .i64 p.ver, .int .i64 p.phase, .int .i64 p.ballot, .int .i64 p.value, .int .i64 p.next, .int .i64 p.best, .int .i64 p.bestBal, b, s, d, .int .i64 L.ver, .int .i64 L.own, .int .i64 L.gen] 58)) w.heap.size p b s d L := heap_alloc_new w _
/-- A try is stored; the blocks; the disk; the leader. -/
abbrev set8 (w : World) (x : Nat) (q : Pxs) : World := (((((((w.setCell ⟨x, 0, none⟩ (.int .i64 q.host)).setCell ⟨x, 1, none⟩ (.int .i64 q.ver)).setCell ⟨x, 2, none⟩ (.int .i64 q.phase)).setCell ⟨x, 3, none⟩ (.int .i64 q.ballot)).setCell ⟨x, 4, none⟩ (.int .i64 q.value)).setCell ⟨x, 5, none⟩ (.int .i64 q.next)).setCell ⟨x, 6, none⟩ (.int .i64 q.best)).setCell ⟨x, 7, none⟩ (.int .i64 q.bestBal)
theorem VarS.set0 {w : World} {x : Nat} {p : Pxs} {b s d : Value} {L : Ld} (k : VarS w x p b s d L) (n : Int) : VarS (w.setCell ⟨x, 0, none⟩ (.int .i64 n)) x { p with host := n } b s d L := set_heap (i := 0) k _
theorem VarS.set1 {w : World} {x : Nat} {p : Pxs} {b s d : Value} {L : Ld} (k : VarS w x p b s d L) (n : Int) : VarS (w.setCell ⟨x, 1, none⟩ (.int .i64 n)) x { p with ver := n } b s d L := set_heap (i := 1) k _
theorem VarS.set2 {w : World} {x : Nat} {p : Pxs} {b s d : Value} {L : Ld} (k : VarS w x p b s d L) (n : Int) : VarS (w.setCell ⟨x, 2, none⟩ (.int .i64 n)) x { p with phase := n } b s d L := set_heap (i := 2) k _
theorem VarS.set3 {w : World} {x : Nat} {p : Pxs} {b s d : Value} {L : Ld} (k : VarS w x p b s d L) (n : Int) : VarS (w.setCell ⟨x, 3, none⟩ (.int .i64 n)) x { p with ballot := n } b s d L := set_heap (i := 3) k _
theorem VarS.set4 {w : World} {x : Nat} {p : Pxs} {b s d : Value} {L : Ld} (k : VarS w x p b s d L) (n : Int) : VarS (w.setCell ⟨x, 4, none⟩ (.int .i64 n)) x { p with value := n } b s d L := set_heap (i := 4) k _
theorem VarS.set5 {w : World} {x : Nat} {p : Pxs} {b s d : Value} {L : Ld} (k : VarS w x p b s d L) (n : Int) : VarS (w.setCell ⟨x, 5, none⟩ (.int .i64 n)) x { p with next := n } b s d L := set_heap (i := 5) k _
theorem VarS.set6 {w : World} {x : Nat} {p : Pxs} {b s d : Value} {L : Ld} (k : VarS w x p b s d L) (n : Int) : VarS (w.setCell ⟨x, 6, none⟩ (.int .i64 n)) x { p with best := n } b s d L := set_heap (i := 6) k _
theorem VarS.set7 {w : World} {x : Nat} {p : Pxs} {b s d : Value} {L : Ld} (k : VarS w x p b s d L) (n : Int) : VarS (w.setCell ⟨x, 7, none⟩ (.int .i64 n)) x { p with bestBal := n } b s d L := set_heap (i := 7) k _
theorem VarS.put {w : World} {x : Nat} {p : Pxs} {b s d : Value} {L : Ld} (k : VarS w x p b s d L) (q : Pxs) : VarS (set8 w x q) x q b s d L := (((((((k.set0 q.host).set1 q.ver).set2 q.phase).set3 q.ballot).set4 q.value).set5 q.next).set6 q.best).set7 q.bestBal
theorem VarS.row {w : World} {x : Nat} {p : Pxs} {b s d : Value} {L : Ld} (k : VarS w x p b s d L) (b' : Value) : VarS (w.setCell ⟨x, 8, none⟩ b') x p b' s d L := set_heap (i := 8) k b'
theorem VarS.disk {w : World} {x : Nat} {p : Pxs} {b s d : Value} {L : Ld} (k : VarS w x p b s d L) (s' d' : Value) : VarS ((w.setCell ⟨x, 9, none⟩ s').setCell ⟨x, 10, none⟩ d') x p b s' d' L := set_heap (i := 10) (set_heap (i := 9) k s') d'
theorem VarS.lead {w : World} {x : Nat} {p : Pxs} {b s d : Value} {L : Ld} (k : VarS w x p b s d L) (M : Ld) : VarS (((w.setCell ⟨x, 11, none⟩ (.int .i64 M.ver)).setCell ⟨x, 12, none⟩ (.int .i64 M.own)).setCell ⟨x, 13, none⟩ (.int .i64 M.gen)) x p b s d M := set_heap (i := 13) (set_heap (i := 12) (set_heap (i := 11) k (.int .i64 M.ver)) (.int .i64 M.own)) (.int .i64 M.gen)

/-- The store, and what it owns. -/
structure Sto (W : World) (B x : Nat) (s : Est) (L : Ld) (bo : Option Addr) (ba : Nat) (ao : Option Addr) (ca : Nat) (qo : Option Addr) (cb : Nat) : Prop where
  v : VarS W x s.p (.slice bo 4 ba) (.slice ao s.ss.length ca) (.slice qo s.xs.length cb) L
  b : OwnR W B 80 4 (.slice bo 4 ba) 4 (bksV s.bs)
  d : OwnD W B ao s.ss.length ca qo s.xs.length cb s.ss s.xs
  k : B ≤ x
theorem Sto.below {W W' : World} {B x : Nat} {s : Est} {L : Ld} {bo ao qo : Option Addr} {ba ca cb : Nat} (h : Sto W B x s L bo ba ao ca qo cb) (hb : Below W.heap.size W W') : Sto W' B x s L bo ba ao ca qo cb := ⟨h.v.below hb, h.b.below hb, h.d.below hb, h.k⟩
theorem Sto.bks {W : World} {B x : Nat} {s : Est} {L : Ld} {bo ao qo : Option Addr} {ba ca cb : Nat} (h : Sto W B x s L bo ba ao ca qo cb) (h4 : s.bs.length = 4) : Bks W bo s.bs :=
  ownBks (B := B) (e := 80) (cap := ba) (by rw [h4]; exact h.b)
/-- Of its own cells nothing lies in what it owns. -/
theorem rowX {W W' : World} {B x n : Nat} {p : Pxs} {b s d v : Value} {L : Ld} {xs : List Value} (hv : VarS W x p b s d L) (h : OwnR W B 80 4 v n xs) (hk : Keep (fun j => j = x) W W') : OwnR W' B 80 4 v n xs :=
  h.keep hk (fun g hg e => by have e' : g = x := e; subst e'; exact h.other hv (by decide) hg)
theorem diskX {W W' : World} {B x n m ca cb : Nat} {p : Pxs} {b s d : Value} {L : Ld} {ao bo : Option Addr} {ss : List ByteArray} {xs : List Wr} (hv : VarS W x p b s d L) (h : OwnD W B ao n ca bo m cb ss xs) (hk : Keep (fun j => j = x) W W') : OwnD W' B ao n ca bo m cb ss xs :=
  h.keep hk (fun g hg e => by have e' : g = x := e; subst e'; exact h.other hv (by decide) (by decide) hg)
theorem Sto.owns {W W' : World} {B x : Nat} {s : Est} {L : Ld} {bo ao qo : Option Addr} {ba ca cb : Nat} (h : Sto W B x s L bo ba ao ca qo cb) (hk : Keep (fun j => j = x) W W') : OwnR W' B 80 4 (.slice bo 4 ba) 4 (bksV s.bs) ∧ OwnD W' B ao s.ss.length ca qo s.xs.length cb s.ss s.xs :=
  ⟨rowX h.v h.b hk, diskX h.v h.d hk⟩
theorem keep_set8 (W : World) (x : Nat) (q : Pxs) : Keep (fun j => j = x) W (set8 W x q) := keep8 (Keep.refl (fun j => j = x) W) (show x = x from rfl) _ _ _ _ _ _ _ _
theorem keep_row (W : World) (x : Nat) (b : Value) : Keep (fun j => j = x) W (W.setCell ⟨x, 8, none⟩ b) := (Keep.refl (fun j => j = x) W).setCell (p := ⟨x, 8, none⟩) rfl b
theorem keep_disk (W : World) (x : Nat) (a b : Value) : Keep (fun j => j = x) W ((W.setCell ⟨x, 9, none⟩ a).setCell ⟨x, 10, none⟩ b) := ((Keep.refl (fun j => j = x) W).setCell (p := ⟨x, 9, none⟩) rfl a).setCell (p := ⟨x, 10, none⟩) rfl b
theorem keep_lead (W : World) (x : Nat) (a b c : Value) : Keep (fun j => j = x) W (((W.setCell ⟨x, 11, none⟩ a).setCell ⟨x, 12, none⟩ b).setCell ⟨x, 13, none⟩ c) := (((Keep.refl (fun j => j = x) W).setCell (p := ⟨x, 11, none⟩) rfl a).setCell (p := ⟨x, 12, none⟩) rfl b).setCell (p := ⟨x, 13, none⟩) rfl c
/-- Another try. -/
theorem Sto.try {W : World} {B x : Nat} {s : Est} {L : Ld} {bo ao qo : Option Addr} {ba ca cb : Nat} (h : Sto W B x s L bo ba ao ca qo cb) (q : Pxs) : Sto (set8 W x q) B x ⟨s.ss, s.xs, q, s.bs⟩ L bo ba ao ca qo cb :=
  ⟨h.v.put q, (h.owns (keep_set8 W x q)).1, (h.owns (keep_set8 W x q)).2, h.k⟩
/-- Another try and other blocks: those were made by a call. -/
theorem Sto.step {W W' : World} {B x : Nat} {s : Est} {L : Ld} {bo ao qo ro : Option Addr} {ba ca cb ra : Nat} {bs : List Bk} (h : Sto W B x s L bo ba ao ca qo cb) (hb : Below W.heap.size W W') (ho : OwnR W' W.heap.size 80 4 (.slice ro 4 ra) 4 (bksV bs)) (q : Pxs) :
    Sto ((set8 W' x q).setCell ⟨x, 8, none⟩ (.slice ro 4 ra)) B x ⟨s.ss, s.xs, q, bs⟩ L ro ra ao ca qo cb ∧ Keep (fun j => j = x) W ((set8 W' x q).setCell ⟨x, 8, none⟩ (.slice ro 4 ra)) := by
  have hk : Keep (fun j => j = x) W' ((set8 W' x q).setCell ⟨x, 8, none⟩ (.slice ro 4 ra)) := (keep_set8 W' x q).trans (keep_row _ x _)
  have h' := h.below hb
  have ho' : OwnR W' B 80 4 (.slice ro 4 ra) 4 (bksV bs) := ho.base (Nat.le_trans h.k (Nat.le_of_lt h.v.lt))
  exact ⟨⟨(h'.v.put q).row _, rowX h'.v ho' hk, (h'.owns hk).2, h.k⟩, (Keep.of_below hb).trans hk⟩
/-- Another disk, made by a call. -/
theorem Sto.write {W W' : World} {B x : Nat} {s : Est} {L : Ld} {bo ao qo ro so : Option Addr} {ba ca cb ra sa : Nat} {S : List ByteArray} {X : List Wr} (h : Sto W B x s L bo ba ao ca qo cb) (hb : Below W.heap.size W W') (ho : OwnD W' W.heap.size ro S.length ra so X.length sa S X) :
    Sto ((W'.setCell ⟨x, 9, none⟩ (.slice ro S.length ra)).setCell ⟨x, 10, none⟩ (.slice so X.length sa)) B x ⟨S, X, s.p, s.bs⟩ L bo ba ro ra so sa ∧ Keep (fun j => j = x) W ((W'.setCell ⟨x, 9, none⟩ (.slice ro S.length ra)).setCell ⟨x, 10, none⟩ (.slice so X.length sa)) := by
  have hk := keep_disk W' x (.slice ro S.length ra) (.slice so X.length sa)
  have h' := h.below hb
  have ho' : OwnD W' B ro S.length ra so X.length sa S X := ho.base (Nat.le_trans h.k (Nat.le_of_lt h.v.lt))
  exact ⟨⟨h'.v.disk _ _, (h'.owns hk).1, diskX h'.v ho' hk, h.k⟩, (Keep.of_below hb).trans hk⟩
theorem Sto.leader {W : World} {B x : Nat} {s : Est} {L : Ld} {bo ao qo : Option Addr} {ba ca cb : Nat} (h : Sto W B x s L bo ba ao ca qo cb) (M : Ld) : Sto (((W.setCell ⟨x, 11, none⟩ (.int .i64 M.ver)).setCell ⟨x, 12, none⟩ (.int .i64 M.own)).setCell ⟨x, 13, none⟩ (.int .i64 M.gen)) B x s M bo ba ao ca qo cb :=
  ⟨h.v.lead M, (h.owns (keep_lead W x _ _ _)).1, (h.owns (keep_lead W x _ _ _)).2, h.k⟩
/-- With whatever addresses. -/
def StoE (W : World) (B x : Nat) (s : Est) (L : Ld) : Prop := ∃ bo ba ao ca qo cb, Sto W B x s L bo ba ao ca qo cb

end Go.Proofs.YtdfinapjgffjiaaGreatDoor

/- Contracts of the methods of the program's store that only read, and of what they reckon: own, hasEnded, ballotValue, leaderOf; roomFault. -/
namespace Go.Proofs.YtdfinapjgffjiaaGreatDoor
open Go.RowKit
set_option linter.unusedVariables false
set_option maxRecDepth 100000

set_option maxHeartbeats 1600000 in
theorem own_any (B x : Nat) (s : Est) (L : Ld) (bo ao qo : Option Addr) (ba ca cb : Nat) (w : World) (h4 : s.bs.length = 4) (hh : 0 ≤ s.p.host ∧ s.p.host ≤ 3) (hs : Sto w B x s L bo ba ao ca qo cb) :
    Calls Tryz.prog 93 #[.pointer (some ⟨x, 0, none⟩)] w fun e w' => e = .returned (bV (ownK s.p s.bs)) ∧ Below w.heap.size w w' := by
  have HA := hide (Joins.below_alloc1 w (.cells #[.int .i64 0, .int .i64 0, .int .i64 0, .int .i64 0] 80))
  have H0 := hide (hs.below (unhide HA))
  have HV := hide (VarB.new0 w 80)
  have hlt := hs.v.lt
  have hne : w.heap.size ≠ x := by omega
  have hne' : x ≠ w.heap.size := by omega
  obtain ⟨k, hk⟩ : ∃ k : Nat, s.p.host = k := ⟨s.p.host.toNat, by omega⟩
  have hk5 : (k : Int) < 4 := by omega
  have hk6 : (0 : Int) ≤ (k : Int) := by omega
  have hkl : k < s.bs.length := by omega
  rw [show ownK s.p s.bs = s.bs.getD k bk0 by unfold ownK; rw [show s.p.host.toNat = k by omega]]
  obtain ⟨y, hy⟩ : ∃ y, s.bs.getD k bk0 = y := ⟨_, rfl⟩
  rw [hy]
  have HY := hide hy
  clear hs hlt hy
  go_enter Tryz.func93, Tryz.ntmps93
  go_upto_region 1 with fail
  revert HA H0 HV
  generalize w.alloc (.cells #[.int .i64 0, .int .i64 0, .int .i64 0, .int .i64 0] 80) = W0
  intro HA H0 HV
  obtain ⟨c0, _⟩ := (unhide H0).v.px
  obtain ⟨c8, _⟩ := (unhide H0).v.rest
  obtain ⟨b, off, rfl, hbl, g0, g1, g2, g3⟩ := ((unhide H0).bks h4).get k hkl
  rw [hk] at c0
  rw [unhide HY] at g0 g1 g2 g3
  obtain ⟨v0, v1, v2, v3⟩ := (unhide HV).cells
  obtain ⟨f0, f1, f2, f3⟩ := (unhide HV).free
  have HE := hide (fun u v x y => below4 (unhide HA) (Nat.le_refl _) 0 1 2 3 u v x y)
  clear hk hkl h4 hh
  go_region
  go_wp2
  exact bodyPost_ret (v := bV y) (by simp [results, Tryz.results93, go_sem, v0, v1, v2, v3]) rfl ⟨rfl, (unhide HE _ _ _ _).drew⟩

theorem ended_iff {p : Pxs} (hp : pxB p = true) : ((p.phase == 5) || (p.phase == 6)) = decide (¬ p.phase < 5) := by
  obtain ⟨_, _, ⟨h1, h6⟩, _⟩ := px_parts hp
  rw [Bool.eq_iff_iff]; simp; omega
set_option maxHeartbeats 1600000 in
theorem hasEnded_any (B x : Nat) (s : Est) (L : Ld) (bo ao qo : Option Addr) (ba ca cb : Nat) (w : World) (hp : pxB s.p = true) (hs : Sto w B x s L bo ba ao ca qo cb) :
    Calls Tryz.prog 61 #[.pointer (some ⟨x, 0, none⟩)] w fun e w' => e = .returned (.bool (decide (¬ s.p.phase < 5))) ∧ w' = w := by
  rw [← ended_iff hp]
  obtain ⟨c0, c1, c2, c3, c4, c5, c6, c7⟩ := hs.v.px
  clear hs hp c0 c1 c3 c4 c5 c6 c7
  go_enter Tryz.func61, Tryz.ntmps61
  by_cases h5 : s.p.phase = 5
  · have b5 : (s.p.phase == 5) = true := by simp [h5]
    clear h5
    go_wp2
    go_ret
    rw [b5]
    exact ⟨rfl, rfl⟩
  · have b5 : (s.p.phase == 5) = false := by simp [h5]
    clear h5
    go_wp2
    go_ret
    rw [b5]
    exact ⟨rfl, rfl⟩

set_option maxHeartbeats 1600000 in
theorem ballotValue_any (y : Ld) (w : World) (hg : 0 ≤ y.gen ∧ y.gen ≤ 1000000) (ho : 0 ≤ y.own ∧ y.own ≤ 3) : Calls Tryz.prog 60 #[lV y] w fun e w' => e = .returned (.int .i64 (1024 * y.gen + y.own)) ∧ Below w.heap.size w w' := by
  have w1 : IntKind.i64.wrap (1024 * y.gen) = 1024 * y.gen := by rw [IntKind.wrap_i64]; omega
  have w2 : IntKind.i64.wrap (1024 * y.gen + y.own) = 1024 * y.gen + y.own := by rw [IntKind.wrap_i64]; omega
  go_enter Tryz.func60, Tryz.ntmps60
  go_wp2
  go_ret
  exact ⟨rfl, Joins.below_alloc1 _ _⟩

set_option maxHeartbeats 1600000 in
theorem leaderOf_any (v x : Int) (w : World) (hx : 0 ≤ x ∧ x ≤ 2147483647) : Calls Tryz.prog 64 #[.int .i64 v, .int .i64 x] w fun e w' => e = .returned (lV (leadOf v x)) ∧ Below w.heap.size w w' := by
  have e1 : Int.tmod x 1024 = x % 1024 := Int.tmod_eq_emod_of_nonneg hx.1
  have e2 : Int.tdiv x 1024 = x / 1024 := Int.tdiv_eq_ediv_of_nonneg hx.1
  have w1 : IntKind.i64.wrap (x % 1024) = x % 1024 := by rw [IntKind.wrap_i64]; omega
  have w2 : IntKind.i64.wrap (x / 1024) = x / 1024 := by rw [IntKind.wrap_i64]; omega
  go_enter Tryz.func64, Tryz.ntmps64
  go_wp2
  exact bodyPost_ret (v := lV (leadOf v x)) (by simp [results, Tryz.results64, go_sem, leadOf]) rfl ⟨rfl, Joins.below_alloc1 _ _⟩

set_option maxHeartbeats 1600000 in
theorem roomFault_any (ao bo : Option Addr) (ca cb : Nat) (ss : List ByteArray) (xs : List Wr) (h : Int) (w : World) (hl : ss.length ≤ maxLen) (hm : xs.length ≤ maxLen) (h1 : Ss w ao ss) (h2 : Ios w bo xs) :
    Calls Tryz.prog 25 #[.agg #[.slice ao ss.length ca, .slice bo xs.length cb], .int .i64 h] w fun e w' => e = .returned (.int .i64 (leC ss xs h)) ∧ Below w.heap.size w w' := by
  have HA := hide (Joins.below_alloc1 w (.cells #[.slice ao ss.length ca, .slice bo xs.length cb] 26))
  have H1 := hide (h1.below (unhide HA))
  have H2 := hide (h2.below (unhide HA))
  have HV := hide (VarD.new w (.slice ao ss.length ca) (.slice bo xs.length cb))
  have HL := hide hl
  have HM := hide hm
  clear h1 h2 hl hm
  go_enter Tryz.func25, Tryz.ntmps25
  go_wp2_with fail
  refine (hostFault_any _ _ _ _ ss xs h _ (unhide HL) (unhide HM) (unhide H1) (unhide H2)).mono ?_
  rintro e w1 ⟨rfl, hb1⟩
  have HB1 := hide (fr (unhide HA) hb1)
  obtain ⟨hc0, hc1⟩ := ((unhide HV).below hb1).cells
  clear hb1
  by_cases e0 : hostC ss xs h = 0
  · have hb : (hostC ss xs h != 0) = false := by simp [e0]
    obtain ⟨ed, _⟩ := hostC_eq e0
    have hl2 := (diskB_len ed).2
    by_cases e2 : xs.length = 200
    · have HX := hide (leC_full e0 e2)
      have hfb : (200 : Int) ≤ (xs.length : Int) := by omega
      clear e2 ed
      go_wp2
      go_ret
      exact ⟨ret_int (unhide HX).symm, unhide HB1⟩
    · have HX := hide (leC_ok e0 e2)
      have hfb : ¬ (200 : Int) ≤ (xs.length : Int) := by omega
      clear e2 ed
      go_wp2
      go_ret
      exact ⟨ret_int (unhide HX).symm, unhide HB1⟩
  · have hb : (hostC ss xs h != 0) = true := by simp [e0]
    have HX := hide (leC_host e0)
    go_wp2
    go_ret
    exact ⟨ret_int (unhide HX).symm, unhide HB1⟩

end Go.Proofs.YtdfinapjgffjiaaGreatDoor

/- Plain: worlds in which some memory is new. -/
namespace Go.Proofs.YtdfinapjgffjiaaGreatDoor
open Go.RowKit
set_option linter.unusedVariables false
theorem below_w (w : World) (a b c d : Obj) : Below w.heap.size w ((((w.alloc a).alloc b).alloc c).alloc d) := fr (Joins.below_alloc2 _ _ _) (Joins.below_alloc2 _ _ _)
end Go.Proofs.YtdfinapjgffjiaaGreatDoor

/- Contracts of spec's ballots: l04Host, PxOK, PxStart, l05Of, l05Write. -/
namespace Go.Proofs.YtdfinapjgffjiaaGreatDoor
open Go.RowKit
set_option linter.unusedVariables false
set_option maxRecDepth 100000

theorem l04Host_px (h : Int) (w : World) : Calls Tryz.prog 30 #[.int .i64 h] w fun e w' => e = .returned (.bool (inB h 0 3)) ∧ w' = w := by
  go_enter Tryz.func30, Tryz.ntmps30
  go_wp2_with fail
  refine (l01In_num h 0 3 _).mono ?_
  rintro e w1 ⟨rfl, rfl⟩
  go_wp2
  go_ret
  exact ⟨rfl, rfl⟩

set_option maxHeartbeats 1600000 in
theorem l05Of_any (x : Bk) (v : Int) (w : World) : Calls Tryz.prog 98 #[bV x, .int .i64 v] w fun e w' => e = .returned (bV (bkOf x v)) ∧ Below w.heap.size w w' := by
  by_cases h : x.ver < v
  · rw [show bkOf x v = ⟨v, 0, 0, 0⟩ from if_pos h]
    go_enter Tryz.func98, Tryz.ntmps98
    go_wp2
    exact bodyPost_ret (v := bV ⟨v, 0, 0, 0⟩) (by simp [results, Tryz.results98, go_sem]) rfl ⟨rfl, Joins.below_alloc2 _ _ _⟩
  · rw [show bkOf x v = x from if_neg h]
    go_enter Tryz.func98, Tryz.ntmps98
    go_wp2
    exact bodyPost_ret (v := bV x) (by simp [results, Tryz.results98, go_sem]) rfl ⟨rfl, Joins.below_alloc2 _ _ _⟩

set_option maxHeartbeats 3200000 in
theorem l05Write_any (p : Pxs) (own : Bk) (w : World) : Calls Tryz.prog 100 #[pV p, bV own] w fun e w' => e = .returned (.tuple #[pV (pxW1 p own), bV (pxW2 p own)]) ∧ Below w.heap.size w w' := by
  by_cases h : p.phase = 1
  · rw [show pxW1 p own = { p with phase := 2, next := 0, best := own.inp, bestBal := own.bal } from if_pos h, show pxW2 p own = ⟨p.ver, p.ballot, own.bal, own.inp⟩ from if_pos h]
    go_enter Tryz.func100, Tryz.ntmps100
    go_wp2
    go_region
    go_wp2
    exact bodyPost_ret (v := .tuple #[pV { p with phase := 2, next := 0, best := own.inp, bestBal := own.bal }, bV ⟨p.ver, p.ballot, own.bal, own.inp⟩]) (by simp [results, Tryz.results100, go_sem]) rfl ⟨rfl, by first | exact below_w _ _ _ _ _ | exact (below_w _ _ _ _ _).drew⟩
  · rw [show pxW1 p own = { p with phase := 4, next := 0 } from if_neg h, show pxW2 p own = ⟨p.ver, p.ballot, p.ballot, p.value⟩ from if_neg h]
    go_enter Tryz.func100, Tryz.ntmps100
    go_wp2
    go_region
    go_wp2
    exact bodyPost_ret (v := .tuple #[pV { p with phase := 4, next := 0 }, bV ⟨p.ver, p.ballot, p.ballot, p.value⟩]) (by simp [results, Tryz.results100, go_sem]) rfl ⟨rfl, by first | exact below_w _ _ _ _ _ | exact (below_w _ _ _ _ _).drew⟩

end Go.Proofs.YtdfinapjgffjiaaGreatDoor

/- Contract of spec's l05Read. -/
namespace Go.Proofs.YtdfinapjgffjiaaGreatDoor
open Go.RowKit
set_option linter.unusedVariables false
set_option maxRecDepth 100000

/-- A ballot in a variable, an answer's variable behind it. -/
structure PxAt (w W : World) (x : Nat) (p : Pxs) : Prop where
  v : VarP W x 53 p
  r : VarP W (x + 1) 53 p00
  k : Below w.heap.size w W
  ge : w.heap.size ≤ x
theorem PxAt.below {w W W' : World} {x : Nat} {p : Pxs} (h : PxAt w W x p) (hb : Below W.heap.size W W') : PxAt w W' x p := ⟨h.v.below hb, h.r.below hb, fr h.k hb, h.ge⟩
theorem PxAt.set {w W : World} {x : Nat} {p : Pxs} (h : PxAt w W x p) (i : Nat) (u : Value) (q : Pxs) (hv : VarP (W.setCell ⟨x, i, none⟩ u) x 53 q) : PxAt w (W.setCell ⟨x, i, none⟩ u) x q :=
  ⟨hv, h.r.keep ((Keep.refl (fun k => k = x) W).setCell (p := ⟨x, i, none⟩) rfl u) (by show ¬ x + 1 = x; omega), h.k.setCell (p := ⟨x, i, none⟩) h.ge u, h.ge⟩

def pxRd1 (p : Pxs) (bs : List Bk) : Pxs :=
  if p.next < 4 then
    (if p.ver < (bkOf (bs.getD p.next.toNat bk0) p.ver).ver ∨ p.ballot < (bkOf (bs.getD p.next.toNat bk0) p.ver).mbal then { p with phase := 6 } else pxEnd (pxLook p (bkOf (bs.getD p.next.toNat bk0) p.ver)))
  else pxEnd p
theorem pxRd_eq (p : Pxs) (bs : List Bk) : pxRd p bs = pxRd1 { p with next := skip p p.next } bs := rfl

set_option maxHeartbeats 6400000 in
theorem l05Read_any (p : Pxs) (ao : Option Addr) (n cap : Nat) (bs : List Bk) (w : World) (hn : bs.length = n) (h4 : n = 4) (hh : 0 ≤ p.host ∧ p.host ≤ 3) (hx : 0 ≤ p.next ∧ p.next ≤ 4) (hr : Bks w ao bs) :
    Calls Tryz.prog 99 #[pV p, .slice ao n cap] w fun e w' => e = .returned (pV (pxRd p bs)) ∧ Below w.heap.size w w' := by
  have H0 : Hid (PxAt w ((w.alloc (.cells #[.int .i64 p.host, .int .i64 p.ver, .int .i64 p.phase, .int .i64 p.ballot, .int .i64 p.value, .int .i64 p.next, .int .i64 p.best, .int .i64 p.bestBal] 53)).alloc (.cells #[.int .i64 0, .int .i64 0, .int .i64 0, .int .i64 0, .int .i64 0, .int .i64 0, .int .i64 0, .int .i64 0] 53)) w.heap.size p) :=
    hide ⟨(VarP.new w _ p).below (Joins.below_alloc1 _ _), by
      have := VarP.new0 (w.alloc (.cells #[.int .i64 p.host, .int .i64 p.ver, .int .i64 p.phase, .int .i64 p.ballot, .int .i64 p.value, .int .i64 p.next, .int .i64 p.best, .int .i64 p.bestBal] 53)) 53
      simp only [World.size_alloc] at this
      exact this, Joins.below_alloc2 _ _ _, Nat.le_refl _⟩
  have HR := hide hr
  clear hr
  go_enter Tryz.func99, Tryz.ntmps99
  go_upto_region 1 with fail
  revert H0
  generalize (w.alloc (.cells #[.int .i64 p.host, .int .i64 p.ver, .int .i64 p.phase, .int .i64 p.ballot, .int .i64 p.value, .int .i64 p.next, .int .i64 p.best, .int .i64 p.bestBal] 53)).alloc (.cells #[.int .i64 0, .int .i64 0, .int .i64 0, .int .i64 0, .int .i64 0, .int .i64 0, .int .i64 0, .int .i64 0] 53) = W0
  intro H0
  have wr1 : IntKind.i64.wrap (p.next + 1) = p.next + 1 := by rw [IntKind.wrap_i64]; omega
  obtain ⟨c0, c1, c2, c3, c4, c5, c6, c7⟩ := (unhide H0).v.cells
  obtain ⟨f0, f1, f2, f3, f4, f5, f6, f7⟩ := (unhide H0).v.free
  go_upto_if 10 with fail
  go_cut [] from 6 to 14 (fun wx => Hid (PxAt w wx w.heap.size { p with next := skip p p.next }))
  case first =>
    by_cases e : p.next = p.host
    · have es : Hid (skip p p.next = p.next + 1) := hide (if_pos e)
      have e' : (p.next == p.host) = true := by simp [e]
      have E9 := hide ((unhide H0).set 5 (.int .i64 (p.next + 1)) { p with next := p.next + 1 } ((unhide H0).v.set5 _))
      clear e
      go_wp2_with fail
      go_meet
      rw [unhide es]
      exact E9
    · have es : Hid (skip p p.next = p.next) := hide (if_neg e)
      have e' : (p.next == p.host) = false := by simp [e]
      clear e
      go_wp2_with fail
      go_meet
      rw [unhide es]
      exact H0
  case rest =>
    clear c0 c1 c2 c3 c4 c5 c6 c7 f0 f1 f2 f3 f4 f5 f6 f7 H0 wr1
    have hp0 : 0 ≤ skip p p.next ∧ skip p p.next ≤ 4 := by unfold skip; split <;> omega
    have hd : Hid (pxRd p bs = pxRd1 { p with next := skip p p.next } bs) := hide rfl
    revert hcut hd hp0
    have hh1 : 0 ≤ ({ p with next := skip p p.next } : Pxs).host ∧ ({ p with next := skip p p.next } : Pxs).host ≤ 3 := hh
    revert hh1
    rw [show skip p p.next = ({ p with next := skip p p.next } : Pxs).next from rfl]
    generalize ({ p with next := skip p p.next } : Pxs) = q
    intro hh1 hcut hp0 hd
    subst h4
    rename World => W1
    obtain ⟨c0, c1, c2, c3, c4, c5, c6, c7⟩ := (unhide hcut).v.cells
    obtain ⟨f0, f1, f2, f3, f4, f5, f6, f7⟩ := (unhide hcut).v.free
    obtain ⟨r0, r1, r2, r3, r4, r5, r6, r7⟩ := (unhide hcut).r.cells
    obtain ⟨s0, s1, s2, s3, s4, s5, s6, s7⟩ := (unhide hcut).r.free
    have HC := hcut
    clear hcut hh hx
    go_upto_if 17 with fail
    go_cut [] from 15 to 68 (fun wx => ∃ z : Pxs, Hid (PxAt w wx w.heap.size z) ∧ Hid (pxRd p bs = pxEnd z))
    case first =>
      by_cases h4 : q.next < 4
      · have hd1 : Hid (pxRd p bs = (if q.ver < (bkOf (bs.getD q.next.toNat bk0) q.ver).ver ∨ q.ballot < (bkOf (bs.getD q.next.toNat bk0) q.ver).mbal then { q with phase := 6 } else pxEnd (pxLook q (bkOf (bs.getD q.next.toNat bk0) q.ver)))) := hide ((unhide hd).trans (if_pos h4))
        clear hd
        obtain ⟨k, hk⟩ : ∃ k : Nat, q.next = k := ⟨q.next.toNat, by omega⟩
        have hkl : k < bs.length := by omega
        rw [show q.next.toNat = k by omega] at hd1
        obtain ⟨b, off, rfl, hb, g0, g1, g2, g3⟩ := ((unhide HR).below (unhide HC).k).get k hkl
        revert hd1 g0 g1 g2 g3
        generalize bs.getD k bk0 = y
        intro hd1 g0 g1 g2 g3
        have hk4 : k < 4 := by omega
        have hk5 : (k : Int) < 4 := by omega
        have hk6 : (0 : Int) ≤ (k : Int) := by omega
        have hbn : b ≠ W1.heap.size := by omega
        have hxn : w.heap.size ≠ W1.heap.size := by have := (unhide HC).v.lt; omega
        have hxn1 : w.heap.size + 1 ≠ W1.heap.size := by have := (unhide HC).r.lt; omega
        have hxl : w.heap.size < W1.heap.size := (unhide HC).v.lt
        have hxl1 : w.heap.size + 1 < W1.heap.size := (unhide HC).r.lt
        have hbn' : W1.heap.size ≠ b := by omega
        have hxn' : W1.heap.size ≠ w.heap.size := by omega
        have hxn1' : W1.heap.size ≠ w.heap.size + 1 := by omega
        rw [hk] at c5
        go_upto_region 4 with fail
        go_cut [5] from 15 to 25 (fun c wx => ∃ C : Nat, c = .pointer (some ⟨C, 0, none⟩) ∧ Hid (Got W1 wx C 80 (bkOf y q.ver)))
        case first =>
          go_region_held3 (fun w' => w'.cell? ⟨w.heap.size, 5, none⟩ = some (.int .i64 (k : Int)) ∧ w'.cell? ⟨w.heap.size, 1, none⟩ = some (.int .i64 q.ver) ∧ w'.cell? ⟨b, off + k * 4, none⟩ = some (.int .i64 y.ver) ∧ w'.cell? ⟨b, off + k * 4 + 1, none⟩ = some (.int .i64 y.mbal) ∧ w'.cell? ⟨b, off + k * 4 + 2, none⟩ = some (.int .i64 y.bal) ∧ w'.cell? ⟨b, off + k * 4 + 3, none⟩ = some (.int .i64 y.inp)) (go_keep)
            ((go_at_call 98; refine (l05Of_any y q.ver _).mono ?_; rintro e w2 ⟨rfl, hb2⟩; (first | (have hv2 : VarB w2 W1.heap.size 80 bk0 := (by exact ((VarB.new0 W1 _).below ((Below.refl _ _).drew)).below hb2); obtain ⟨x0, x1, x2, x3⟩ := hv2.cells; obtain ⟨y0, y1, y2, y3⟩ := hv2.free; have HB2 : Hid (Below W1.heap.size W1 w2) := (by exact hide (fr (Joins.below_alloc1 W1 _).drew hb2)); have HV2 := hide hv2; clear hv2 hb2) | (have HB2 : Hid (Below W1.heap.size W1 w2) := (by exact hide (fr ((Below.refl _ W1).drew) hb2)); clear hb2)); have m0 := ((unhide HB2).cell (p := ⟨w.heap.size, 5, none⟩) hxl).trans c5; have m1 := ((unhide HB2).cell (p := ⟨w.heap.size, 1, none⟩) hxl).trans c1; have m2 := ((unhide HB2).cell (p := ⟨b, off + k * 4, none⟩) hb).trans g0; have m3 := ((unhide HB2).cell (p := ⟨b, off + k * 4 + 1, none⟩) hb).trans g1; have m4 := ((unhide HB2).cell (p := ⟨b, off + k * 4 + 2, none⟩) hb).trans g2; have m5 := ((unhide HB2).cell (p := ⟨b, off + k * 4 + 3, none⟩) hb).trans g3))
          all_goals
            go_wp2_with fail
            go_meet
            first
              | exact ⟨_, rfl, hide (Got.set bk0 (unhide HB2) (unhide HV2) (Nat.le_refl _))⟩
              | exact ⟨_, rfl, hide (Got.top _ _ (unhide HB2))⟩
        case rest =>
          obtain ⟨C, rfl, HG⟩ := hcut
          have HC2 := hide ((unhide HC).below (unhide HG).k)
          have hCl : C ≠ w.heap.size := by have := (unhide HC).v.lt; have := (unhide HG).gt; omega
          have hCr : C ≠ w.heap.size + 1 := by have := (unhide HC).r.lt; have := (unhide HG).gt; omega
          have hCl' : w.heap.size ≠ C := fun e => hCl e.symm
          have hCr' : w.heap.size + 1 ≠ C := fun e => hCr e.symm
          clear c0 c1 c2 c3 c4 c5 c6 c7 f0 f1 f2 f3 f4 f5 f6 f7 r0 r1 r2 r3 r4 r5 r6 r7 s0 s1 s2 s3 s4 s5 s6 s7 g0 g1 g2 g3 hb hbn hbn' hxn hxn1 hxn' hxn1' hxl hxl1 hk hk4 hk5 hk6 hkl HR
          obtain ⟨c0, c1, c2, c3, c4, c5, c6, c7⟩ := (unhide HC2).v.cells
          obtain ⟨f0, f1, f2, f3, f4, f5, f6, f7⟩ := (unhide HC2).v.free
          obtain ⟨r0, r1, r2, r3, r4, r5, r6, r7⟩ := (unhide HC2).r.cells
          obtain ⟨s0, s1, s2, s3, s4, s5, s6, s7⟩ := (unhide HC2).r.free
          obtain ⟨v0, v1, v2, v3⟩ := (unhide HG).v.cells
          revert hd1 v0 v1 v2 v3 HG
          generalize bkOf y q.ver = z
          intro hd1 HG v0 v1 v2 v3
          by_cases ha : q.ver < z.ver ∨ q.ballot < z.mbal
          · have HE : Hid (pxRd p bs = { q with phase := 6 }) := hide ((unhide hd1).trans (if_pos ha))
            have HK := hide (fun u u0 u1 u2 u3 u4 u5 u6 u7 => below8 ((unhide HC2).k.setCell (p := ⟨w.heap.size, 2, none⟩) (Nat.le_refl _) u) (show w.heap.size ≤ w.heap.size + 1 by omega) u0 u1 u2 u3 u4 u5 u6 u7)
            rcases Classical.em (q.ver < z.ver) with h1 | h1
            · go_wp2
              exact bodyPost_ret (v := pV { q with phase := 6 }) (by simp [results, Tryz.results99, go_sem, r0, r1, r2, r3, r4, r5, r6, r7]) rfl ⟨by rw [unhide HE], unhide HK _ _ _ _ _ _ _ _ _⟩
            · have h2 : q.ballot < z.mbal := by rcases ha with h | h; exact absurd h h1; exact h
              go_wp2
              exact bodyPost_ret (v := pV { q with phase := 6 }) (by simp [results, Tryz.results99, go_sem, r0, r1, r2, r3, r4, r5, r6, r7]) rfl ⟨by rw [unhide HE], unhide HK _ _ _ _ _ _ _ _ _⟩
          · have HE : Hid (pxRd p bs = pxEnd (pxLook q z)) := hide ((unhide hd1).trans (if_neg ha))
            have ha1 : ¬ q.ver < z.ver := fun h => ha (.inl h)
            have ha2 : ¬ q.ballot < z.mbal := fun h => ha (.inr h)
            clear ha hd1
            have wr1 : IntKind.i64.wrap (q.next + 1) = q.next + 1 := by rw [IntKind.wrap_i64]; omega
            have wr2 : IntKind.i64.wrap (q.next + 1 + 1) = q.next + 1 + 1 := by rw [IntKind.wrap_i64]; omega
            by_cases hq2 : q.phase = 2
            · by_cases hbb : q.bestBal < z.bal
              · by_cases hs1 : q.next + 1 = q.host
                · have hs2 : (q.next + 1 == q.host) = true := by simp [hs1]
                  have EL : Hid (pxLook q z = { q with best := z.inp, bestBal := z.bal, next := q.next + 1 + 1 }) := hide (by simp [pxLook, skip, hs1, hq2, hbb])
                  have E9 := hide ((((((((unhide HC2).set 6 (.int .i64 (z.inp)) _ ((unhide HC2).v.set6 _))).set 7 (.int .i64 (z.bal)) _ ((((unhide HC2).set 6 (.int .i64 (z.inp)) _ ((unhide HC2).v.set6 _))).v.set7 _))).set 5 (.int .i64 (q.next + 1)) _ ((((((unhide HC2).set 6 (.int .i64 (z.inp)) _ ((unhide HC2).v.set6 _))).set 7 (.int .i64 (z.bal)) _ ((((unhide HC2).set 6 (.int .i64 (z.inp)) _ ((unhide HC2).v.set6 _))).v.set7 _))).v.set5 _))).set 5 (.int .i64 (q.next + 1 + 1)) _ ((((((((unhide HC2).set 6 (.int .i64 (z.inp)) _ ((unhide HC2).v.set6 _))).set 7 (.int .i64 (z.bal)) _ ((((unhide HC2).set 6 (.int .i64 (z.inp)) _ ((unhide HC2).v.set6 _))).v.set7 _))).set 5 (.int .i64 (q.next + 1)) _ ((((((unhide HC2).set 6 (.int .i64 (z.inp)) _ ((unhide HC2).v.set6 _))).set 7 (.int .i64 (z.bal)) _ ((((unhide HC2).set 6 (.int .i64 (z.inp)) _ ((unhide HC2).v.set6 _))).v.set7 _))).v.set5 _))).v.set5 _))
                  clear hs1
                  go_wp2_with fail
                  go_meet
                  exact ⟨_, E9, hide (by rw [unhide HE, unhide EL])⟩
                · have hs2 : (q.next + 1 == q.host) = false := by simp [hs1]
                  have EL : Hid (pxLook q z = { q with best := z.inp, bestBal := z.bal, next := q.next + 1 }) := hide (by simp [pxLook, skip, hs1, hq2, hbb])
                  have E9 := hide ((((((unhide HC2).set 6 (.int .i64 (z.inp)) _ ((unhide HC2).v.set6 _))).set 7 (.int .i64 (z.bal)) _ ((((unhide HC2).set 6 (.int .i64 (z.inp)) _ ((unhide HC2).v.set6 _))).v.set7 _))).set 5 (.int .i64 (q.next + 1)) _ ((((((unhide HC2).set 6 (.int .i64 (z.inp)) _ ((unhide HC2).v.set6 _))).set 7 (.int .i64 (z.bal)) _ ((((unhide HC2).set 6 (.int .i64 (z.inp)) _ ((unhide HC2).v.set6 _))).v.set7 _))).v.set5 _))
                  clear hs1
                  go_wp2_with fail
                  go_meet
                  exact ⟨_, E9, hide (by rw [unhide HE, unhide EL])⟩
              · by_cases hs1 : q.next + 1 = q.host
                · have hs2 : (q.next + 1 == q.host) = true := by simp [hs1]
                  have EL : Hid (pxLook q z = { q with next := q.next + 1 + 1 }) := hide (by simp [pxLook, skip, hs1, hbb])
                  have E9 := hide ((((unhide HC2).set 5 (.int .i64 (q.next + 1)) _ ((unhide HC2).v.set5 _))).set 5 (.int .i64 (q.next + 1 + 1)) _ ((((unhide HC2).set 5 (.int .i64 (q.next + 1)) _ ((unhide HC2).v.set5 _))).v.set5 _))
                  clear hs1
                  go_wp2_with fail
                  go_meet
                  exact ⟨_, E9, hide (by rw [unhide HE, unhide EL])⟩
                · have hs2 : (q.next + 1 == q.host) = false := by simp [hs1]
                  have EL : Hid (pxLook q z = { q with next := q.next + 1 }) := hide (by simp [pxLook, skip, hs1, hbb])
                  have E9 := hide ((unhide HC2).set 5 (.int .i64 (q.next + 1)) _ ((unhide HC2).v.set5 _))
                  clear hs1
                  go_wp2_with fail
                  go_meet
                  exact ⟨_, E9, hide (by rw [unhide HE, unhide EL])⟩
            · by_cases hs1 : q.next + 1 = q.host
              · have hs2 : (q.next + 1 == q.host) = true := by simp [hs1]
                have EL : Hid (pxLook q z = { q with next := q.next + 1 + 1 }) := hide (by simp [pxLook, skip, hs1, hq2])
                have E9 := hide ((((unhide HC2).set 5 (.int .i64 (q.next + 1)) _ ((unhide HC2).v.set5 _))).set 5 (.int .i64 (q.next + 1 + 1)) _ ((((unhide HC2).set 5 (.int .i64 (q.next + 1)) _ ((unhide HC2).v.set5 _))).v.set5 _))
                clear hs1
                go_wp2_with fail
                go_meet
                exact ⟨_, E9, hide (by rw [unhide HE, unhide EL])⟩
              · have hs2 : (q.next + 1 == q.host) = false := by simp [hs1]
                have EL : Hid (pxLook q z = { q with next := q.next + 1 }) := hide (by simp [pxLook, skip, hs1, hq2])
                have E9 := hide ((unhide HC2).set 5 (.int .i64 (q.next + 1)) _ ((unhide HC2).v.set5 _))
                clear hs1
                go_wp2_with fail
                go_meet
                exact ⟨_, E9, hide (by rw [unhide HE, unhide EL])⟩
      · have hd1 : Hid (pxRd p bs = pxEnd q) := hide ((unhide hd).trans (if_neg h4))
        clear hd
        go_wp2_with fail
        go_meet
        exact ⟨q, HC, hd1⟩
    case rest =>
      obtain ⟨z, HZ, HE⟩ := hcut
      clear c0 c1 c2 c3 c4 c5 c6 c7 f0 f1 f2 f3 f4 f5 f6 f7 r0 r1 r2 r3 r4 r5 r6 r7 s0 s1 s2 s3 s4 s5 s6 s7 HC hd HR hp0 hh1
      obtain ⟨c0, c1, c2, c3, c4, c5, c6, c7⟩ := (unhide HZ).v.cells
      obtain ⟨f0, f1, f2, f3, f4, f5, f6, f7⟩ := (unhide HZ).v.free
      obtain ⟨r0, r1, r2, r3, r4, r5, r6, r7⟩ := (unhide HZ).r.cells
      obtain ⟨s0, s1, s2, s3, s4, s5, s6, s7⟩ := (unhide HZ).r.free
      have hne : w.heap.size ≠ w.heap.size + 1 := by omega
      have hne' : w.heap.size + 1 ≠ w.heap.size := by omega
      have HK0 := hide (fun u0 u1 u2 u3 u4 u5 u6 u7 => below8 (unhide HZ).k (show w.heap.size ≤ w.heap.size + 1 by omega) u0 u1 u2 u3 u4 u5 u6 u7)
      have HK1 := hide (fun u u0 u1 u2 u3 u4 u5 u6 u7 => below8 ((unhide HZ).k.setCell (p := ⟨w.heap.size, 2, none⟩) (Nat.le_refl _) u) (show w.heap.size ≤ w.heap.size + 1 by omega) u0 u1 u2 u3 u4 u5 u6 u7)
      have HK2 := hide (fun u v u0 u1 u2 u3 u4 u5 u6 u7 => below8 (((unhide HZ).k.setCell (p := ⟨w.heap.size, 2, none⟩) (Nat.le_refl _) u).setCell (p := ⟨w.heap.size, 4, none⟩) (Nat.le_refl _) v) (show w.heap.size ≤ w.heap.size + 1 by omega) u0 u1 u2 u3 u4 u5 u6 u7)
      by_cases h4 : z.next < 4
      · have EE : Hid (pxRd p bs = z) := hide ((unhide HE).trans (pxEnd_lt h4))
        go_wp2
        exact bodyPost_ret (v := pV z) (by simp [results, Tryz.results99, go_sem, r0, r1, r2, r3, r4, r5, r6, r7]) rfl ⟨by rw [unhide EE], unhide HK0 _ _ _ _ _ _ _ _⟩
      · by_cases hq4 : z.phase = 4
        · have EE : Hid (pxRd p bs = { z with phase := 5 }) := hide ((unhide HE).trans (pxEnd_4 h4 hq4))
          go_wp2
          exact bodyPost_ret (v := pV { z with phase := 5 }) (by simp [results, Tryz.results99, go_sem, r0, r1, r2, r3, r4, r5, r6, r7]) rfl ⟨by rw [unhide EE], unhide HK1 _ _ _ _ _ _ _ _ _⟩
        · by_cases hbb : 0 < z.bestBal
          · have EE : Hid (pxRd p bs = { z with phase := 3, value := z.best }) := hide ((unhide HE).trans (by unfold pxEnd; rw [if_neg h4, if_neg hq4, if_pos hbb]))
            go_wp2
            exact bodyPost_ret (v := pV { z with phase := 3, value := z.best }) (by simp [results, Tryz.results99, go_sem, r0, r1, r2, r3, r4, r5, r6, r7]) rfl ⟨by rw [unhide EE], unhide HK2 _ _ _ _ _ _ _ _ _ _⟩
          · have EE : Hid (pxRd p bs = { z with phase := 3 }) := hide ((unhide HE).trans (by unfold pxEnd; rw [if_neg h4, if_neg hq4, if_neg hbb]))
            go_wp2
            exact bodyPost_ret (v := pV { z with phase := 3 }) (by simp [results, Tryz.results99, go_sem, r0, r1, r2, r3, r4, r5, r6, r7]) rfl ⟨by rw [unhide EE], unhide HK1 _ _ _ _ _ _ _ _ _⟩

end Go.Proofs.YtdfinapjgffjiaaGreatDoor

/- A law on append: a row behind an empty one, at a step that does not draw. -/
namespace Go.Proofs.YtdfinapjgffjiaaGreatDoor
open Go.RowKit
set_option linter.unusedVariables false
section
variable {P : Program}
theorem wpList_append_fresh {w : World} {ops : Array Oper} {rest : List Oper} {o : Oper} {a : Act} {Q : Exit → Act → World → Prop} (hgd : o.guard = none) (s x : Operand) (t : TypeId)
    (ho : o.op = .call { callee := .builtin .append, args := #[s, x], argTypes := #[t, t] })
    (e : TypeId) (i : TypeInfo) (z : Value) (size bytes : Nat) (ht : P.underlying t = some (.slice e)) (hi : P.info? e = some i) (hz : i.zero = some z)
    (hsize : i.size = size) (hby : i.bytes = bytes) (hzs : z.cells.size = size) (hsz : 0 < size)
    (hs0 : isFresh (a.eval s) = true) (so : Option Addr) (m c : Nat) (news : List Value) (hx : a.eval x = .slice so m c) (hn : news.length = m * size)
    (hc : 0 < m → ∃ ad, so = some ad ∧ ∀ j u, news[j]? = some u → w.cell? (ad.add j) = some u) (b1 : m ≤ maxLen) (b2 : m * bytes ≤ 140737488355328)
    (hK : ∀ ao cap w', OwnR w' w.heap.size e size (.slice ao m cap) m news → w.grownBy w' none → wpList P ops Q rest (a.put o.dst (.slice ao m cap)) w') : wpList P ops Q (o :: rest) a w := by
  refine wpList_plain hgd fun K hK' => ?_
  obtain ⟨d, hs⟩ := isFresh_form hs0
  obtain ⟨ao, cap, w', hrun, r1, r2⟩ := run_append_fresh (P := P) w t o.type e i z size bytes ht hi hz hsize hby hzs hsz d so m c news hn hc b1 b2
  unfold Oper.wp
  simp [execOp, ho, resolve, invoke, builtin, hs, hx, hrun, Result.andThen]
  exact hK' _ _ (hK _ _ _ r1 r2)
end
end Go.Proofs.YtdfinapjgffjiaaGreatDoor
