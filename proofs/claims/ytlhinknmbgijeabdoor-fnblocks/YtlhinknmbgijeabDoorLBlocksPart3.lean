import Derived.Test.YtlhinknmbgijeabDoorLBlocksPart1
import Derived.WalkKit
import Derived.Test.YtlhinknmbgijeabDoorLBlocksPart2
import Derived.Test.YtlhinknmbgijeabDoorRows
import Derived.WalkSpells
import Derived.KernelRfl
import Derived.Lib.SmallJoins

/- Plain: ballots. One step of a host, a run, and the theorem of ballots: whoever decides decides the same. -/
namespace Go.Proofs.YtlhinknmbgijeabDoor
set_option linter.unusedVariables false

structure Bk where
  ver : Int
  mbal : Int
  bal : Int
  inp : Int
structure Pxs where
  host : Int
  ver : Int
  phase : Int
  ballot : Int
  value : Int
  next : Int
  best : Int
  bestBal : Int
def bk0 : Bk := ⟨0, 0, 0, 0⟩
def bkOf (b : Bk) (v : Int) : Bk := if b.ver < v then ⟨v, 0, 0, 0⟩ else b
def pxW1 (p : Pxs) (own : Bk) : Pxs := if p.phase = 1 then { p with phase := 2, next := 0, best := own.inp, bestBal := own.bal } else { p with phase := 4, next := 0 }
def pxW2 (p : Pxs) (own : Bk) : Bk := if p.phase = 1 then ⟨p.ver, p.ballot, own.bal, own.inp⟩ else ⟨p.ver, p.ballot, p.ballot, p.value⟩
def pxEnd (p : Pxs) : Pxs := if p.next < 4 then p else if p.phase = 4 then { p with phase := 5 } else { p with phase := 3, value := if 0 < p.bestBal then p.best else p.value }
def skip (p : Pxs) (n : Int) : Int := if n = p.host then n + 1 else n
def pxLook (p : Pxs) (b : Bk) : Pxs := { p with next := skip p (p.next + 1), best := if p.phase = 2 ∧ p.bestBal < b.bal then b.inp else p.best, bestBal := if p.phase = 2 ∧ p.bestBal < b.bal then b.bal else p.bestBal }
def pxRd (p0 : Pxs) (bs : List Bk) : Pxs :=
  let p := { p0 with next := skip p0 p0.next }
  if p.next < 4 then
    let b := bkOf (bs.getD p.next.toNat bk0) p.ver
    if p.ver < b.ver ∨ p.ballot < b.mbal then { p with phase := 6 } else pxEnd (pxLook p b)
  else pxEnd p
def pxOwn (p : Pxs) (bs : List Bk) : Bk := bkOf (bs.getD p.host.toNat bk0) p.ver
abbrev pxNo (p : Pxs) (own : Bk) : Prop := p.ver < own.ver ∨ p.ballot < own.mbal ∨ (p.phase = 1 ∧ own.mbal = p.ballot) ∨ (p.phase = 3 ∧ own.mbal ≠ p.ballot)

/-- What holds of hosts and blocks between two steps of a run (version 0, four hosts). -/
abbrev HS := Nat → Pxs
abbrev BS := Nat → Bk
def upd {α : Type} (f : Nat → α) (h : Nat) (x : α) : Nat → α := fun i => if i = h then x else f i
theorem upd_same {α : Type} (f : Nat → α) (h : Nat) (x : α) : upd f h x h = x := if_pos rfl
theorem upd_other {α : Type} (f : Nat → α) {h i : Nat} (x : α) (e : i ≠ h) : upd f h x i = f i := if_neg e

/-- p's ballot binds q. -/
structure Bind (H : HS) (B : BS) (p q : Nat) : Prop where
  acc : (H p).ballot ≤ (B q).bal → (B q).inp = (H p).value
  seen : (H q).phase = 2 → (H p).ballot < (H q).ballot → (p : Int) < (H q).next → (H p).ballot ≤ (H q).bestBal
  best : (H q).phase = 2 → (H p).ballot < (H q).ballot → (H p).ballot ≤ (H q).bestBal → (H q).best = (H p).value
  val : (H q).phase = 3 ∨ (H q).phase = 4 ∨ (H q).phase = 5 → (H p).ballot < (H q).ballot → (H q).value = (H p).value
/-- Nobody that p has not looked at has begun a greater ballot. -/
def Live (H : HS) (B : BS) (p : Nat) : Prop := ∀ q, q < 4 → q ≠ p → (H p).phase = 4 → ¬ ((q : Int) < (H p).next) → (B q).mbal ≤ (H p).ballot
structure Inv (H : HS) (B : BS) : Prop where
  host : ∀ q, q < 4 → (H q).host = q
  ph : ∀ q, q < 4 → (H q).phase = 2 ∨ (H q).phase = 3 ∨ (H q).phase = 4 ∨ (H q).phase = 5 ∨ (H q).phase = 6
  bal : ∀ q, q < 4 → (H q).phase ≠ 6 → (H q).ballot = (B q).mbal ∧ 0 < (H q).ballot ∧ (H q).ballot % 4 = q
  blk : ∀ q, q < 4 → 0 ≤ (B q).bal ∧ (B q).bal ≤ (B q).mbal ∧ ((B q).bal = 0 ∨ (B q).bal % 4 = q)
  acc : ∀ q, q < 4 → (H q).phase = 4 ∨ (H q).phase = 5 → (B q).bal = (H q).ballot ∧ (B q).inp = (H q).value
  nx : ∀ q, q < 4 → 0 ≤ (H q).next
  bnd : ∀ p, p < 4 → (H p).phase = 4 ∨ (H p).phase = 5 → Live H B p → ∀ q, q < 4 → q ≠ p → Bind H B p q

theorem Live.back {H : HS} {B : BS} {h p : Nat} {p' : Pxs} {b' : Bk} (hp : p ≠ h) (mono : (B h).mbal ≤ b'.mbal) (l : Live (upd H h p') (upd B h b') p) : Live H B p := by
  intro q hq hqp h4 hn
  have := l q hq hqp (by rw [upd_other H p' hp]; exact h4) (by rw [upd_other H p' hp]; exact hn)
  rw [upd_other H p' hp] at this
  by_cases e : q = h
  · subst e; rw [upd_same] at this; omega
  · rw [upd_other B b' e] at this; exact this
/-- One host has taken a step. -/
theorem Inv.step {H : HS} {B : BS} (k : Inv H B) {h : Nat} (hh : h < 4) (p' : Pxs) (b' : Bk) (c1 : p'.host = h)
    (c2 : p'.phase = 2 ∨ p'.phase = 3 ∨ p'.phase = 4 ∨ p'.phase = 5 ∨ p'.phase = 6) (c3 : p'.phase ≠ 6 → p'.ballot = b'.mbal ∧ 0 < p'.ballot ∧ p'.ballot % 4 = h)
    (c4 : 0 ≤ b'.bal ∧ b'.bal ≤ b'.mbal ∧ (b'.bal = 0 ∨ b'.bal % 4 = h)) (c5 : p'.phase = 4 ∨ p'.phase = 5 → b'.bal = p'.ballot ∧ b'.inp = p'.value) (c6 : 0 ≤ p'.next) (mono : (B h).mbal ≤ b'.mbal)
    (cq : ∀ p, p < 4 → p ≠ h → (H p).phase = 4 ∨ (H p).phase = 5 → (∀ q, q < 4 → q ≠ p → Bind H B p q) → Bind (upd H h p') (upd B h b') p h)
    (cp : p'.phase = 4 ∨ p'.phase = 5 → Live (upd H h p') (upd B h b') h → ∀ q, q < 4 → q ≠ h → Bind (upd H h p') (upd B h b') h q) :
    Inv (upd H h p') (upd B h b') := by
  have both : ∀ (P : Nat → Pxs → Bk → Prop), P h p' b' → (∀ q, q < 4 → P q (H q) (B q)) → ∀ q, q < 4 → P q (upd H h p' q) (upd B h b' q) := by
    intro P h1 h2 q hq
    by_cases e : q = h
    · subst e; rw [upd_same, upd_same]; exact h1
    · rw [upd_other H p' e, upd_other B b' e]; exact h2 q hq
  refine ⟨both (fun q x _ => x.host = q) c1 k.host, both (fun q x _ => x.phase = 2 ∨ x.phase = 3 ∨ x.phase = 4 ∨ x.phase = 5 ∨ x.phase = 6) c2 k.ph,
    both (fun q x y => x.phase ≠ 6 → x.ballot = y.mbal ∧ 0 < x.ballot ∧ x.ballot % 4 = q) c3 k.bal, both (fun q _ y => 0 ≤ y.bal ∧ y.bal ≤ y.mbal ∧ (y.bal = 0 ∨ y.bal % 4 = q)) c4 k.blk,
    both (fun q x y => x.phase = 4 ∨ x.phase = 5 → y.bal = x.ballot ∧ y.inp = x.value) c5 k.acc, both (fun q x _ => 0 ≤ x.next) c6 k.nx, ?_⟩
  intro p hp hph hl q hq hqp
  by_cases e : p = h
  · subst e
    rw [upd_same] at hph
    exact cp hph hl q hq hqp
  · rw [upd_other H p' e] at hph
    have hb := k.bnd p hp hph (Live.back e mono hl)
    by_cases e2 : q = h
    · subst e2; exact cq p hp e hph hb
    · have hb2 := hb q hq hqp
      exact ⟨by rw [upd_other H p' e, upd_other B b' e2]; exact hb2.acc, by rw [upd_other H p' e, upd_other H p' e2]; exact hb2.seen, by rw [upd_other H p' e, upd_other H p' e2]; exact hb2.best, by rw [upd_other H p' e, upd_other H p' e2]; exact hb2.val⟩

/-- A host begins and writes its ballot. -/
theorem Inv.begin1 {H : HS} {B : BS} (k : Inv H B) {h : Nat} (hh : h < 4) (β v : Int) (hβ : ∀ q, q < 4 → (B q).mbal < β) (h4 : β % 4 = h) :
    Inv (upd H h ⟨h, 0, 2, β, v, 0, (B h).inp, (B h).bal⟩) (upd B h ⟨0, β, (B h).bal, (B h).inp⟩) := by
  have hb := k.blk h hh
  have hβh := hβ h hh
  refine k.step hh _ _ rfl (.inl rfl) (fun _ => ⟨rfl, by show 0 < β; omega, h4⟩) ⟨hb.1, by show (B h).bal ≤ β; omega, hb.2.2⟩ (fun e => by rcases e with e | e <;> simp at e) (by show (0 : Int) ≤ 0; omega) (by show (B h).mbal ≤ β; omega) ?_ (fun e => by rcases e with e | e <;> simp at e)
  intro p hp hph h45 hB
  have b := hB h hh (fun e => hph e.symm)
  refine ⟨?_, ?_, ?_, ?_⟩
  · rw [upd_other H _ hph, upd_same]; exact b.acc
  · rw [upd_other H _ hph, upd_same]; intro _ _ hlt; exact absurd hlt (by show ¬ ((p : Int) < 0); omega)
  · rw [upd_other H _ hph, upd_same]; intro _ _ hle; exact b.acc hle
  · rw [upd_other H _ hph, upd_same]; intro e; rcases e with e | e | e <;> simp at e

/-- A host gives up. -/
theorem Inv.abort {H : HS} {B : BS} (k : Inv H B) {h : Nat} (hh : h < 4) (p' : Pxs) (c1 : p'.host = h) (c2 : p'.phase = 6) (c6 : 0 ≤ p'.next) : Inv (upd H h p') (upd B h (B h)) := by
  refine k.step hh _ _ c1 (.inr (.inr (.inr (.inr c2)))) (fun e => absurd c2 e) (k.blk h hh) (fun e => by rw [c2] at e; rcases e with e | e <;> exact absurd e (by decide)) c6 (Int.le_refl _) ?_ (fun e => by rw [c2] at e; rcases e with e | e <;> exact absurd e (by decide))
  intro p hp hph h45 hB
  have b := hB h hh (fun e => hph e.symm)
  refine ⟨?_, ?_, ?_, ?_⟩
  · rw [upd_other H _ hph, upd_same]; exact b.acc
  · rw [upd_other H _ hph, upd_same]; intro e; rw [c2] at e; exact absurd e (by decide)
  · rw [upd_other H _ hph, upd_same]; intro e; rw [c2] at e; exact absurd e (by decide)
  · rw [upd_other H _ hph, upd_same]; intro e; rw [c2] at e; rcases e with e | e | e <;> exact absurd e (by decide)

/-- A host writes its value. -/
theorem Inv.write2 {H : HS} {B : BS} (k : Inv H B) {h : Nat} (hh : h < 4) (p' : Pxs) (c1 : p'.host = h) (e3 : (H h).phase = 3) (c2 : p'.phase = 4) (cb : p'.ballot = (H h).ballot) (cv : p'.value = (H h).value) (cn : p'.next = 0) :
    Inv (upd H h p') (upd B h ⟨0, (H h).ballot, (H h).ballot, (H h).value⟩) := by
  obtain ⟨m1, m2, m3⟩ := k.bal h hh (by rw [e3]; decide)
  have hb := k.blk h hh
  refine k.step hh _ _ c1 (.inr (.inr (.inl c2))) (fun _ => ⟨cb, by rw [cb]; exact m2, by rw [cb]; exact m3⟩) ⟨by show 0 ≤ (H h).ballot; omega, Int.le_refl _, .inr m3⟩ (fun _ => ⟨cb.symm, cv.symm⟩) (by rw [cn]; omega) (by show (B h).mbal ≤ (H h).ballot; omega) ?_ ?_
  · intro p hp hph h45 hB
    have b := hB h hh (fun e => hph e.symm)
    obtain ⟨n1, n2, n3⟩ := k.bal p hp (by rcases h45 with e | e <;> rw [e] <;> decide)
    refine ⟨?_, ?_, ?_, ?_⟩
    · rw [upd_other H _ hph, upd_same]
      intro hle
      have hle' : (H p).ballot ≤ (H h).ballot := hle
      have hne : (H p).ballot ≠ (H h).ballot := fun e => by rw [e] at n3; omega
      exact b.val (.inl e3) (by omega)
    · rw [upd_other H _ hph, upd_same]; intro e; rw [c2] at e; exact absurd e (by decide)
    · rw [upd_other H _ hph, upd_same]; intro e; rw [c2] at e; exact absurd e (by decide)
    · rw [upd_other H _ hph, upd_same, cb, cv]; intro _ hlt; exact b.val (.inl e3) hlt
  · intro _ hl q hq hqh
    have hmb := hl q hq hqh (by rw [upd_same]; exact c2) (by rw [upd_same, cn]; omega)
    rw [upd_same, upd_other B _ hqh, cb] at hmb
    have hbq := k.blk q hq
    refine ⟨?_, ?_, ?_, ?_⟩
    · rw [upd_same, upd_other B _ hqh, cb]
      intro hle
      have : (B q).bal = (H h).ballot := by omega
      rcases hbq.2.2 with e | e
      · omega
      · rw [this] at e; omega
    · rw [upd_same, upd_other H _ hqh, cb]
      intro e hlt
      have := (k.bal q hq (by rw [e]; decide)).1
      omega
    · rw [upd_same, upd_other H _ hqh, cb]
      intro e hlt
      have := (k.bal q hq (by rw [e]; decide)).1
      omega
    · rw [upd_same, upd_other H _ hqh, cb]
      intro e hlt
      have := (k.bal q hq (by rcases e with e | e | e <;> rw [e] <;> decide)).1
      omega

theorem skip_lt {P : Pxs} {p h : Nat} (n : Int) (hh : P.host = h) (e : p ≠ h) : (p : Int) < skip P n ↔ (p : Int) < n := by
  unfold skip; rw [hh]; split <;> omega
theorem skip_ne (P : Pxs) (n : Int) : skip P n ≠ P.host := by unfold skip; split <;> omega
theorem skip_nn (P : Pxs) {n : Int} (h : 0 ≤ n) : 0 ≤ skip P n := by unfold skip; split <;> omega

/-- What a look brings. -/
theorem Inv.look {H : HS} {B : BS} (k : Inv H B) {h n : Nat} (hh : h < 4) (hn : n < 4) (hnh : n ≠ h) (e2 : (H h).phase = 2) (hs : skip (H h) (H h).next = n)
    {p : Nat} (hp : p < 4) (hph : p ≠ h) (h45 : (H p).phase = 4 ∨ (H p).phase = 5) (hB : ∀ q, q < 4 → q ≠ p → Bind H B p q) (hlt : (H p).ballot < (H h).ballot) :
    ((p : Int) < (n : Int) + 1 → (H p).ballot ≤ (if (H h).bestBal < (B n).bal then (B n).bal else (H h).bestBal)) ∧
    ((H p).ballot ≤ (if (H h).bestBal < (B n).bal then (B n).bal else (H h).bestBal) → (if (H h).bestBal < (B n).bal then (B n).inp else (H h).best) = (H p).value) := by
  have b := hB h hh (fun e => hph e.symm)
  constructor
  · intro hpn
    by_cases e : p = n
    · subst e
      have := (k.acc p hp h45).1
      split <;> omega
    · have h1 : (p : Int) < (H h).next := (skip_lt (P := H h) _ (k.host h hh) hph).mp (by rw [hs]; omega)
      have := b.seen e2 hlt h1
      split <;> omega
  · intro hle
    by_cases c : (H h).bestBal < (B n).bal
    · rw [if_pos c] at hle ⊢
      by_cases e : n = p
      · subst e; exact (k.acc n hp h45).2
      · exact (hB n hn e).acc hle
    · rw [if_neg c] at hle ⊢
      exact b.best e2 hlt hle
/-- A host that looks for values goes on or has looked at all. -/
theorem Inv.read1 {H : HS} {B : BS} (k : Inv H B) {h n : Nat} (hh : h < 4) (hn : n < 4) (hnh : n ≠ h) (e2 : (H h).phase = 2) (hs : skip (H h) (H h).next = n) (p' : Pxs) (c1 : p'.host = h) (cb : p'.ballot = (H h).ballot)
    (cx : p'.next = skip (H h) ((n : Int) + 1)) (cbb : p'.bestBal = if (H h).bestBal < (B n).bal then (B n).bal else (H h).bestBal) (cbe : p'.best = if (H h).bestBal < (B n).bal then (B n).inp else (H h).best)
    (cph : p'.phase = 2 ∨ (p'.phase = 3 ∧ 4 ≤ p'.next ∧ (0 < p'.bestBal → p'.value = p'.best))) : Inv (upd H h p') (upd B h (B h)) := by
  have m := k.bal h hh (by rw [e2]; decide)
  have no : ¬ (p'.phase = 4 ∨ p'.phase = 5) := by rintro (e | e) <;> rcases cph with c | ⟨c, _⟩ <;> rw [c] at e <;> exact absurd e (by decide)
  refine k.step hh _ _ c1 (by rcases cph with c | ⟨c, _⟩; exact .inl c; exact .inr (.inl c)) (fun _ => by rw [cb]; exact m) (k.blk h hh) (fun e => absurd e no) (by rw [cx]; exact skip_nn _ (by omega)) (Int.le_refl _) ?_ (fun e => absurd e no)
  intro p hp hph h45 hB
  have b := hB h hh (fun e => hph e.symm)
  refine ⟨?_, ?_, ?_, ?_⟩
  · rw [upd_other H _ hph, upd_same]; exact b.acc
  · rw [upd_other H _ hph, upd_same, cb, cx, cbb]
    intro _ hlt hpx
    exact (k.look hh hn hnh e2 hs hp hph h45 hB hlt).1 ((skip_lt (P := H h) _ (k.host h hh) hph).mp hpx)
  · rw [upd_other H _ hph, upd_same, cb, cbb, cbe]
    intro _ hlt
    exact (k.look hh hn hnh e2 hs hp hph h45 hB hlt).2
  · rw [upd_other H _ hph, upd_same, cb]
    intro e hlt
    rcases cph with c | ⟨_, c4, cv⟩
    · rw [c] at e; rcases e with e | e | e <;> exact absurd e (by decide)
    · have lk := k.look hh hn hnh e2 hs hp hph h45 hB hlt
      have hall : (p : Int) < (n : Int) + 1 := (skip_lt (P := H h) _ (k.host h hh) hph).mp (by rw [← cx]; omega)
      have h1 := lk.1 hall
      have h2 := lk.2 h1
      have hpos := (k.bal p hp (by rcases h45 with e | e <;> rw [e] <;> decide)).2.1
      rw [← cbb] at h1
      rw [← cbe] at h2
      rw [cv (by omega)]; exact h2
/-- A host that looks for greater ballots goes on or has decided. -/
theorem Inv.read2 {H : HS} {B : BS} (k : Inv H B) {h n : Nat} (hh : h < 4) (hn : n < 4) (hnh : n ≠ h) (e4 : (H h).phase = 4) (hs : skip (H h) (H h).next = n) (hm : (B n).mbal ≤ (H h).ballot) (p' : Pxs) (c1 : p'.host = h) (cb : p'.ballot = (H h).ballot)
    (cv : p'.value = (H h).value) (cx : p'.next = skip (H h) ((n : Int) + 1)) (cph : p'.phase = 4 ∨ (p'.phase = 5 ∧ 4 ≤ p'.next)) : Inv (upd H h p') (upd B h (B h)) := by
  have m := k.bal h hh (by rw [e4]; decide)
  have c45 : p'.phase = 4 ∨ p'.phase = 5 := by rcases cph with c | ⟨c, _⟩; exact .inl c; exact .inr c
  have no : p'.phase ≠ 2 := by intro e; rcases c45 with c | c <;> rw [c] at e <;> exact absurd e (by decide)
  refine k.step hh _ _ c1 (by rcases c45 with c | c; exact .inr (.inr (.inl c)); exact .inr (.inr (.inr (.inl c)))) (fun _ => by rw [cb]; exact m) (k.blk h hh) (fun _ => by rw [cb, cv]; exact k.acc h hh (.inl e4)) (by rw [cx]; exact skip_nn _ (by omega)) (Int.le_refl _) ?_ ?_
  · intro p hp hph h45 hB
    have b := hB h hh (fun e => hph e.symm)
    refine ⟨?_, ?_, ?_, ?_⟩
    · rw [upd_other H _ hph, upd_same]; exact b.acc
    · rw [upd_other H _ hph, upd_same]; intro e; exact absurd e no
    · rw [upd_other H _ hph, upd_same]; intro e; exact absurd e no
    · rw [upd_other H _ hph, upd_same, cb, cv]; intro _; exact b.val (.inr (.inl e4))
  · intro _ hl
    have lb : Live H B h := by
      intro q hq hqh _ hnq
      by_cases e : q = n
      · subst e; exact hm
      · have h1 : ¬ ((q : Int) < skip (H h) (H h).next) := fun c => hnq ((skip_lt (P := H h) _ (k.host h hh) hqh).mp c)
        rw [hs] at h1
        have h2 : ¬ ((q : Int) < skip (H h) ((n : Int) + 1)) := fun c => by have := (skip_lt (P := H h) _ (k.host h hh) hqh).mp c; omega
        rcases cph with c | ⟨c, c4⟩
        · have := hl q hq hqh (by rw [upd_same]; exact c) (by rw [upd_same, cx]; exact h2)
          rw [upd_same, upd_other B _ hqh, cb] at this; exact this
        · rw [← cx] at h2; omega
    intro q hq hqh
    have b := k.bnd h hh (.inl e4) lb q hq hqh
    refine ⟨?_, ?_, ?_, ?_⟩
    · rw [upd_same, upd_other B _ hqh, cb, cv]; exact b.acc
    · rw [upd_same, upd_other H _ hqh, cb]; exact b.seen
    · rw [upd_same, upd_other H _ hqh, cb, cv]; exact b.best
    · rw [upd_same, upd_other H _ hqh, cb, cv]; exact b.val

/-- Whoever decides decides the same. -/
theorem Inv.agree {H : HS} {B : BS} (k : Inv H B) {p q : Nat} (hp : p < 4) (hq : q < 4) (ep : (H p).phase = 5) (eq : (H q).phase = 5) : (H p).value = (H q).value := by
  by_cases e : q = p
  · rw [e]
  have lp : Live H B p := fun r _ _ h => by rw [ep] at h; exact absurd h (by decide)
  have lq : Live H B q := fun r _ _ h => by rw [eq] at h; exact absurd h (by decide)
  have bp := k.bnd p hp (.inr ep) lp q hq e
  have bq := k.bnd q hq (.inr eq) lq p hp (fun h => e h.symm)
  obtain ⟨_, _, m1⟩ := k.bal p hp (by rw [ep]; decide)
  obtain ⟨_, _, m2⟩ := k.bal q hq (by rw [eq]; decide)
  rcases Int.lt_trichotomy (H p).ballot (H q).ballot with h | h | h
  · exact (bp.val (.inr (.inr eq)) h).symm
  · rw [h] at m1; omega
  · exact bq.val (.inr (.inr ep)) h


/-- One step, and one step of a run. -/
def pxStepP (p : Pxs) (bs : List Bk) : Pxs × List Bk :=
  if p.phase = 5 ∨ p.phase = 6 then (p, bs)
  else if p.phase = 2 ∨ p.phase = 4 then (pxRd p bs, bs)
  else if pxNo p (pxOwn p bs) then ({ p with phase := 6 }, bs)
  else (pxW1 p (pxOwn p bs), bs.set p.host.toNat (pxW2 p (pxOwn p bs)))
def nxMax (v : Int) : List Bk → Int → Int
  | [], n => n
  | b :: r, n => nxMax v r (max n (bkOf b v).mbal)
def nxBal (h v : Int) (bs : List Bk) : Int := (Int.tdiv (nxMax v bs 0) 4 + 1) * 4 + h
def px0 : Pxs := ⟨0, 0, 0, 0, 0, 0, 0, 0⟩
def runAt (vs : List Int) (st : List Pxs × List Bk) (h : Nat) : List Pxs × List Bk :=
  let p := st.1.getD h px0
  let p1 := if p.phase = 6 then ⟨h, 0, 1, nxBal h 0 st.2, vs.getD h 0, 0, 0, 0⟩ else p
  let r := pxStepP p1 st.2
  (st.1.set h r.1, r.2)
def run (vs : List Int) : List Nat → List Pxs × List Bk → List Pxs × List Bk
  | [], st => st
  | h :: r, st => run vs r (runAt vs st h)
def run0 (vs : List Int) : List Pxs × List Bk := ([⟨0, 0, 6, 0, vs.getD 0 0, 0, 0, 0⟩, ⟨1, 0, 6, 0, vs.getD 1 0, 0, 0, 0⟩, ⟨2, 0, 6, 0, vs.getD 2 0, 0, 0, 0⟩, ⟨3, 0, 6, 0, vs.getD 3 0, 0, 0, 0⟩], [bk0, bk0, bk0, bk0])

def hsOf (l : List Pxs) : HS := fun i => l.getD i px0
def bsOf (l : List Bk) : BS := fun i => l.getD i bk0
theorem hsOf_set {l : List Pxs} {h : Nat} (x : Pxs) (hh : h < l.length) : hsOf (l.set h x) = upd (hsOf l) h x := by
  funext i
  show (l.set h x).getD i px0 = if i = h then x else l.getD i px0
  rw [List.getD_eq_getElem?_getD, List.getD_eq_getElem?_getD, List.getElem?_set]
  by_cases e : h = i
  · subst e; rw [if_pos rfl, if_pos rfl, if_pos hh]; rfl
  · rw [if_neg e, if_neg (fun h => e h.symm)]
theorem bsOf_set {l : List Bk} {h : Nat} (x : Bk) (hh : h < l.length) : bsOf (l.set h x) = upd (bsOf l) h x := by
  funext i
  show (l.set h x).getD i bk0 = if i = h then x else l.getD i bk0
  rw [List.getD_eq_getElem?_getD, List.getD_eq_getElem?_getD, List.getElem?_set]
  by_cases e : h = i
  · subst e; rw [if_pos rfl, if_pos rfl, if_pos hh]; rfl
  · rw [if_neg e, if_neg (fun h => e h.symm)]
theorem upd_id {α : Type} (f : Nat → α) (h : Nat) : upd f h (f h) = f := by
  funext i; unfold upd; split
  · next e => rw [e]
  · rfl

theorem nxMax_ge (v : Int) : ∀ (bs : List Bk) (n : Int), n ≤ nxMax v bs n
  | [], n => Int.le_refl n
  | b :: r, n => by
    have := nxMax_ge v r (max n (bkOf b v).mbal)
    show n ≤ nxMax v r (max n (bkOf b v).mbal)
    omega
theorem nxMax_mem (v : Int) : ∀ (bs : List Bk) (n : Int) (i : Nat), i < bs.length → (bkOf (bs.getD i bk0) v).mbal ≤ nxMax v bs n
  | [], _, i, h => absurd h (Nat.not_lt_zero i)
  | b :: r, n, 0, _ => by
    have := nxMax_ge v r (max n (bkOf b v).mbal)
    show (bkOf b v).mbal ≤ nxMax v r (max n (bkOf b v).mbal)
    omega
  | b :: r, n, i + 1, h => nxMax_mem v r _ i (Nat.lt_of_succ_lt_succ h)
theorem nxMax_le (v m : Int) : ∀ (bs : List Bk) (n : Int), n ≤ m → (∀ i, i < bs.length → (bkOf (bs.getD i bk0) v).mbal ≤ m) → nxMax v bs n ≤ m
  | [], _, h, _ => h
  | b :: r, n, h, h2 => nxMax_le v m r _ (by have : (bkOf b v).mbal ≤ m := h2 0 (Nat.zero_lt_succ _); omega) (fun i hi => h2 (i + 1) (Nat.succ_lt_succ hi))

/-- A value that some host had. -/
def Had (vs : List Int) (x : Int) : Prop := ∃ k, k < 4 ∧ x = vs.getD k 0
/-- What holds in a run. -/
structure Good (vs : List Int) (m : Int) (st : List Pxs × List Bk) : Prop where
  lh : st.1.length = 4
  lb : st.2.length = 4
  inv : Inv (hsOf st.1) (bsOf st.2)
  hv : ∀ q, q < 4 → (hsOf st.1 q).ver = 0
  bv : ∀ q, q < 4 → (bsOf st.2 q).ver = 0
  vals : ∀ q, q < 4 → Had vs (hsOf st.1 q).value
  inp : ∀ q, q < 4 → 0 < (bsOf st.2 q).bal → Had vs (bsOf st.2 q).inp
  bst : ∀ q, q < 4 → (hsOf st.1 q).phase = 2 → 0 < (hsOf st.1 q).bestBal → Had vs (hsOf st.1 q).best
  mb : ∀ q, q < 4 → (bsOf st.2 q).mbal ≤ m
  rg : ∀ q, q < 4 → (hsOf st.1 q).phase = 2 ∨ (hsOf st.1 q).phase = 4 → skip (hsOf st.1 q) (hsOf st.1 q).next < 4

theorem good0 (vs : List Int) : Good vs 0 (run0 vs) := by
  have e4 : ∀ q, q < 4 → q = 0 ∨ q = 1 ∨ q = 2 ∨ q = 3 := by intro q hq; omega
  have eh : ∀ q, q < 4 → hsOf (run0 vs).1 q = ⟨q, 0, 6, 0, vs.getD q 0, 0, 0, 0⟩ := by
    intro q hq; rcases e4 q hq with e | e | e | e <;> subst e <;> rfl
  have eb : ∀ q, q < 4 → bsOf (run0 vs).2 q = bk0 := by
    intro q hq; rcases e4 q hq with e | e | e | e <;> subst e <;> rfl
  have n6 : ∀ q, q < 4 → (hsOf (run0 vs).1 q).phase = 6 := fun q hq => by rw [eh q hq]
  refine ⟨rfl, rfl, ⟨fun q hq => by rw [eh q hq], fun q hq => .inr (.inr (.inr (.inr (n6 q hq)))), fun q hq h => absurd (n6 q hq) h, fun q hq => by rw [eb q hq]; exact ⟨Int.le_refl _, Int.le_refl _, .inl rfl⟩, ?_, fun q hq => by rw [eh q hq]; exact Int.le_refl _, ?_⟩, fun q hq => by rw [eh q hq], fun q hq => by rw [eb q hq]; rfl, fun q hq => by rw [eh q hq]; exact ⟨q, hq, rfl⟩, fun q hq h => by rw [eb q hq] at h; exact absurd h (by decide), fun q hq h => by rw [n6 q hq] at h; exact absurd h (by decide), fun q hq => by rw [eb q hq]; exact Int.le_refl _, fun q hq h => by rw [n6 q hq] at h; rcases h with h | h <;> exact absurd h (by decide)⟩
  · intro q hq h; rw [n6 q hq] at h; rcases h with h | h <;> exact absurd h (by decide)
  · intro q hq h; rw [n6 q hq] at h; rcases h with h | h <;> exact absurd h (by decide)

/-- One host has taken a step: what holds of versions and values. -/
theorem Good.put {vs : List Int} {m m' : Int} {st : List Pxs × List Bk} (g : Good vs m st) {h : Nat} (hh : h < 4) (p' : Pxs) (b' : Bk) (hm : m ≤ m')
    (i : Inv (upd (hsOf st.1) h p') (upd (bsOf st.2) h b')) (c1 : p'.ver = 0) (c2 : b'.ver = 0) (c3 : Had vs p'.value) (c4 : 0 < b'.bal → Had vs b'.inp) (c5 : p'.phase = 2 → 0 < p'.bestBal → Had vs p'.best) (c6 : b'.mbal ≤ m') (c7 : p'.phase = 2 ∨ p'.phase = 4 → skip p' p'.next < 4) :
    Good vs m' (st.1.set h p', st.2.set h b') := by
  have e1 : hsOf (st.1.set h p') = upd (hsOf st.1) h p' := hsOf_set p' (by rw [g.lh]; exact hh)
  have e2 : bsOf (st.2.set h b') = upd (bsOf st.2) h b' := bsOf_set b' (by rw [g.lb]; exact hh)
  have both : ∀ (P : Nat → Pxs → Bk → Prop), P h p' b' → (∀ q, q < 4 → P q (hsOf st.1 q) (bsOf st.2 q)) → ∀ q, q < 4 → P q (hsOf (st.1.set h p') q) (bsOf (st.2.set h b') q) := by
    intro P h1 h2 q hq
    rw [e1, e2]
    by_cases e : q = h
    · subst e; rw [upd_same, upd_same]; exact h1
    · rw [upd_other _ p' e, upd_other _ b' e]; exact h2 q hq
  exact ⟨by rw [List.length_set]; exact g.lh, by rw [List.length_set]; exact g.lb, by rw [e1, e2]; exact i, both (fun _ x _ => x.ver = 0) c1 g.hv, both (fun _ _ y => y.ver = 0) c2 g.bv, both (fun _ x _ => Had vs x.value) c3 g.vals,
    both (fun _ _ y => 0 < y.bal → Had vs y.inp) c4 g.inp, both (fun _ x _ => x.phase = 2 → 0 < x.bestBal → Had vs x.best) c5 g.bst, both (fun _ _ y => y.mbal ≤ m') c6 (fun q hq => by have := g.mb q hq; omega), both (fun _ x _ => x.phase = 2 ∨ x.phase = 4 → skip x x.next < 4) c7 g.rg⟩
theorem set_id {l : List Bk} {h : Nat} (hh : h < l.length) : l.set h (bsOf l h) = l := by
  apply List.ext_getElem?
  intro i
  rw [List.getElem?_set]
  by_cases e : h = i
  · subst e; rw [if_pos rfl, if_pos hh]; unfold bsOf; rw [List.getD_eq_getElem?_getD, List.getElem?_eq_getElem hh]; rfl
  · rw [if_neg e]
theorem Good.puth {vs : List Int} {m : Int} {st : List Pxs × List Bk} (g : Good vs m st) {h : Nat} (hh : h < 4) (p' : Pxs) (m' : Int) (hm : m ≤ m')
    (i : Inv (upd (hsOf st.1) h p') (upd (bsOf st.2) h (bsOf st.2 h))) (c1 : p'.ver = 0) (c3 : Had vs p'.value) (c5 : p'.phase = 2 → 0 < p'.bestBal → Had vs p'.best) (c7 : p'.phase = 2 ∨ p'.phase = 4 → skip p' p'.next < 4) : Good vs m' (st.1.set h p', st.2) := by
  have := g.put hh p' (bsOf st.2 h) hm i c1 (g.bv h hh) c3 (g.inp h hh) c5 (by have := g.mb h hh; omega) c7
  rw [set_id (by rw [g.lb]; exact hh)] at this
  exact this

theorem bkOf0 {b : Bk} (h : b.ver = 0) : bkOf b 0 = b := by unfold bkOf; rw [h]; rfl
theorem pxEnd_lt {p : Pxs} (h : p.next < 4) : pxEnd p = p := if_pos h
theorem pxEnd_4 {p : Pxs} (h : ¬ p.next < 4) (e : p.phase = 4) : pxEnd p = { p with phase := 5 } := by unfold pxEnd; rw [if_neg h, if_pos e]
theorem pxEnd_2 {p : Pxs} (h : ¬ p.next < 4) (e : p.phase = 2) : pxEnd p = { p with phase := 3, value := if 0 < p.bestBal then p.best else p.value } := by unfold pxEnd; rw [if_neg h, if_neg (by rw [e]; decide)]

/-- Where a host that looks stands: before another host's block. -/
theorem Good.rd {vs : List Int} {m : Int} {st : List Pxs × List Bk} (g : Good vs m st) {h : Nat} (hh : h < 4) (e24 : (hsOf st.1 h).phase = 2 ∨ (hsOf st.1 h).phase = 4) (n : Nat) (hn : n < 4) (hs : skip (hsOf st.1 h) (hsOf st.1 h).next = n) :
    Good vs m (st.1.set h (pxRd (hsOf st.1 h) st.2), st.2) := by
  have k := g.inv
  have hhost := k.host h hh
  have hnh : n ≠ h := by
    intro e
    have := skip_ne (hsOf st.1 h) (hsOf st.1 h).next
    rw [hs, hhost, e] at this; exact this rfl
  have hv := g.hv h hh
  have bv := g.bv n hn
  have eb : bkOf (st.2.getD (n : Int).toNat bk0) (hsOf st.1 h).ver = bsOf st.2 n := by rw [hv]; exact bkOf0 bv
  have e : pxRd (hsOf st.1 h) st.2 = if (hsOf st.1 h).ballot < (bsOf st.2 n).mbal then { hsOf st.1 h with next := n, phase := 6 } else pxEnd (pxLook { hsOf st.1 h with next := n } (bsOf st.2 n)) := by
    show (if skip (hsOf st.1 h) (hsOf st.1 h).next < 4 then _ else _) = _
    rw [hs, if_pos (by omega)]
    show (if (hsOf st.1 h).ver < (bkOf (st.2.getD (n : Int).toNat bk0) (hsOf st.1 h).ver).ver ∨ (hsOf st.1 h).ballot < (bkOf (st.2.getD (n : Int).toNat bk0) (hsOf st.1 h).ver).mbal then _ else pxEnd (pxLook _ (bkOf (st.2.getD (n : Int).toNat bk0) (hsOf st.1 h).ver))) = _
    rw [eb]
    by_cases c : (hsOf st.1 h).ballot < (bsOf st.2 n).mbal
    · rw [if_pos (.inr c), if_pos c]
    · rw [if_neg (by rw [hv, bv]; rintro (c1 | c1); exact absurd c1 (by decide); exact c c1), if_neg c]
  rw [e]
  have hval := g.vals h hh
  by_cases c : (hsOf st.1 h).ballot < (bsOf st.2 n).mbal
  · rw [if_pos c]
    exact g.puth hh _ m (Int.le_refl _) (k.abort hh _ hhost rfl (by show (0 : Int) ≤ n; omega)) hv hval (fun e => by simp at e) (fun e => by rcases e with e | e <;> simp at e)
  rw [if_neg c]
  have enx : ∀ b, (pxLook { hsOf st.1 h with next := (n : Int) } b).next = skip (hsOf st.1 h) ((n : Int) + 1) := fun _ => rfl
  have esk : skip (hsOf st.1 h) (skip (hsOf st.1 h) ((n : Int) + 1)) = skip (hsOf st.1 h) ((n : Int) + 1) := if_neg (skip_ne _ _)
  rcases e24 with e2 | e4
  · have eph : (pxLook { hsOf st.1 h with next := (n : Int) } (bsOf st.2 n)).phase = 2 := e2
    have ebb : (pxLook { hsOf st.1 h with next := (n : Int) } (bsOf st.2 n)).bestBal = if (hsOf st.1 h).bestBal < (bsOf st.2 n).bal then (bsOf st.2 n).bal else (hsOf st.1 h).bestBal := by
      show (if (hsOf st.1 h).phase = 2 ∧ (hsOf st.1 h).bestBal < (bsOf st.2 n).bal then _ else _) = _
      simp only [e2, true_and]
    have ebe : (pxLook { hsOf st.1 h with next := (n : Int) } (bsOf st.2 n)).best = if (hsOf st.1 h).bestBal < (bsOf st.2 n).bal then (bsOf st.2 n).inp else (hsOf st.1 h).best := by
      show (if (hsOf st.1 h).phase = 2 ∧ (hsOf st.1 h).bestBal < (bsOf st.2 n).bal then _ else _) = _
      simp only [e2, true_and]
    have hbest : 0 < (pxLook { hsOf st.1 h with next := (n : Int) } (bsOf st.2 n)).bestBal → Had vs (pxLook { hsOf st.1 h with next := (n : Int) } (bsOf st.2 n)).best := by
      rw [ebb, ebe]
      by_cases c2 : (hsOf st.1 h).bestBal < (bsOf st.2 n).bal
      · rw [if_pos c2, if_pos c2]; exact g.inp n hn
      · rw [if_neg c2, if_neg c2]; exact g.bst h hh e2
    by_cases c4 : (pxLook { hsOf st.1 h with next := (n : Int) } (bsOf st.2 n)).next < 4
    · rw [pxEnd_lt c4]
      exact g.puth hh _ m (Int.le_refl _) (k.read1 hh hn hnh e2 hs _ hhost rfl rfl ebb ebe (.inl eph)) hv hval (fun _ => hbest) (fun _ => by show skip (hsOf st.1 h) (skip (hsOf st.1 h) ((n : Int) + 1)) < 4; rw [esk]; exact c4)
    · rw [pxEnd_2 c4 eph]
      refine g.puth hh _ m (Int.le_refl _) (k.read1 hh hn hnh e2 hs _ hhost rfl rfl ebb ebe (.inr ⟨rfl, by show (4 : Int) ≤ (pxLook { hsOf st.1 h with next := (n : Int) } (bsOf st.2 n)).next; omega, fun hb => ?_⟩)) hv ?_ (fun e => by simp at e) (fun e => by rcases e with e | e <;> simp at e)
      · exact if_pos hb
      · show Had vs (if 0 < (pxLook { hsOf st.1 h with next := (n : Int) } (bsOf st.2 n)).bestBal then _ else (hsOf st.1 h).value)
        by_cases c5 : 0 < (pxLook { hsOf st.1 h with next := (n : Int) } (bsOf st.2 n)).bestBal
        · rw [if_pos c5]; exact hbest c5
        · rw [if_neg c5]; exact hval
  · have eph : (pxLook { hsOf st.1 h with next := (n : Int) } (bsOf st.2 n)).phase = 4 := e4
    by_cases c4 : (pxLook { hsOf st.1 h with next := (n : Int) } (bsOf st.2 n)).next < 4
    · rw [pxEnd_lt c4]
      exact g.puth hh _ m (Int.le_refl _) (k.read2 hh hn hnh e4 hs (by omega) _ hhost rfl rfl rfl (.inl eph)) hv hval (fun e => by rw [eph] at e; exact absurd e (by decide)) (fun _ => by show skip (hsOf st.1 h) (skip (hsOf st.1 h) ((n : Int) + 1)) < 4; rw [esk]; exact c4)
    · rw [pxEnd_4 c4 eph]
      exact g.puth hh _ m (Int.le_refl _) (k.read2 hh hn hnh e4 hs (by omega) _ hhost rfl rfl rfl (.inr ⟨rfl, by show (4 : Int) ≤ (pxLook { hsOf st.1 h with next := (n : Int) } (bsOf st.2 n)).next; omega⟩)) hv hval (fun e => by simp at e) (fun e => by rcases e with e | e <;> simp at e)

theorem Good.more {vs : List Int} {m m' : Int} {st : List Pxs × List Bk} (g : Good vs m st) (h : m ≤ m') : Good vs m' st :=
  ⟨g.lh, g.lb, g.inv, g.hv, g.bv, g.vals, g.inp, g.bst, fun q hq => by have := g.mb q hq; omega, g.rg⟩
theorem seth_id {l : List Pxs} {h : Nat} (hh : h < l.length) : l.set h (hsOf l h) = l := by
  apply List.ext_getElem?
  intro i
  rw [List.getElem?_set]
  by_cases e : h = i
  · subst e; rw [if_pos rfl, if_pos hh]; unfold hsOf; rw [List.getD_eq_getElem?_getD, List.getElem?_eq_getElem hh]; rfl
  · rw [if_neg e]
theorem pxStepP_end {p : Pxs} (bs : List Bk) (e : p.phase = 5 ∨ p.phase = 6) : pxStepP p bs = (p, bs) := if_pos e
theorem pxStepP_rd {p : Pxs} (bs : List Bk) (e : p.phase = 2 ∨ p.phase = 4) : pxStepP p bs = (pxRd p bs, bs) := by
  unfold pxStepP; rw [if_neg (by rcases e with e | e <;> rw [e] <;> decide), if_pos e]
theorem pxStepP_wr {p : Pxs} (bs : List Bk) (e : p.phase = 1 ∨ p.phase = 3) (c : ¬ pxNo p (pxOwn p bs)) : pxStepP p bs = (pxW1 p (pxOwn p bs), bs.set p.host.toNat (pxW2 p (pxOwn p bs))) := by
  unfold pxStepP; rw [if_neg (by rcases e with e | e <;> rw [e] <;> decide), if_neg (by rcases e with e | e <;> rw [e] <;> decide), if_neg c]
theorem pxStepP_no {p : Pxs} (bs : List Bk) (e : p.phase = 1 ∨ p.phase = 3) (c : pxNo p (pxOwn p bs)) : pxStepP p bs = ({ p with phase := 6 }, bs) := by
  unfold pxStepP; rw [if_neg (by rcases e with e | e <;> rw [e] <;> decide), if_neg (by rcases e with e | e <;> rw [e] <;> decide), if_pos c]
theorem nxBal_gt {bs : List Bk} (h : Nat) (i : Nat) (hi : i < bs.length) (v : Int) : (bkOf (bs.getD i bk0) v).mbal < nxBal h v bs := by
  have h1 := nxMax_mem v bs 0 i hi
  have h2 := nxMax_ge v bs 0
  unfold nxBal
  rw [Int.tdiv_eq_ediv_of_nonneg h2]
  omega
theorem nxBal_mod (bs : List Bk) {h : Nat} (hh : h < 4) (v : Int) : nxBal h v bs % 4 = h := by
  unfold nxBal; omega
theorem nxBal_le {bs : List Bk} {h : Nat} (hh : h < 4) (v m : Int) (h0 : 0 ≤ m) (hm : ∀ i, i < bs.length → (bkOf (bs.getD i bk0) v).mbal ≤ m) : nxBal h v bs ≤ m + 7 := by
  have h1 := nxMax_le v m bs 0 h0 hm
  have h2 := nxMax_ge v bs 0
  unfold nxBal
  rw [Int.tdiv_eq_ediv_of_nonneg h2]
  omega

/-- One step of a run. -/
theorem Good.step {vs : List Int} {m : Int} {st : List Pxs × List Bk} (g : Good vs m st) {h : Nat} (hh : h < 4) : Good vs (m + 7) (runAt vs st h) := by
  have k := g.inv
  have hhost := k.host h hh
  have hv := g.hv h hh
  have hval := g.vals h hh
  have lt4 : h < st.2.length := by rw [g.lb]; exact hh
  have own : ∀ (p : Pxs), p.host = h → p.ver = 0 → pxOwn p st.2 = bsOf st.2 h := by
    intro p e1 e2
    unfold pxOwn; rw [e1, e2]; exact bkOf0 (g.bv h hh)
  have e0 : st.1.getD h px0 = hsOf st.1 h := rfl
  have m0 : 0 ≤ m := by have := k.blk h hh; have := g.mb h hh; omega
  rcases k.ph h hh with e | e | e | e | e
  · have er : runAt vs st h = (st.1.set h (pxRd (hsOf st.1 h) st.2), st.2) := by
      unfold runAt; simp only [e0]; rw [if_neg (by rw [e]; decide), pxStepP_rd _ (.inl e)]
    have hs := g.rg h hh (.inl e)
    have hnn := skip_nn (hsOf st.1 h) (k.nx h hh)
    rw [er]
    exact (g.rd hh (.inl e) (skip (hsOf st.1 h) (hsOf st.1 h).next).toNat (by omega) (by omega)).more (by omega)
  · obtain ⟨b1, b2, b3⟩ := k.bal h hh (by rw [e]; decide)
    have eo := own (hsOf st.1 h) hhost hv
    have er : runAt vs st h = (st.1.set h (pxW1 (hsOf st.1 h) (bsOf st.2 h)), st.2.set h (pxW2 (hsOf st.1 h) (bsOf st.2 h))) := by
      unfold runAt; simp only [e0]; rw [if_neg (by rw [e]; decide), pxStepP_wr _ (.inr e) ?_, eo, hhost]; rfl
      rw [eo]; unfold pxNo; rw [hv, g.bv h hh, e, b1]; intro c; rcases c with c | c | c | c <;> omega
    have e1 : pxW1 (hsOf st.1 h) (bsOf st.2 h) = { hsOf st.1 h with phase := 4, next := 0 } := by unfold pxW1; rw [if_neg (by rw [e]; decide)]
    have e2 : pxW2 (hsOf st.1 h) (bsOf st.2 h) = ⟨0, (hsOf st.1 h).ballot, (hsOf st.1 h).ballot, (hsOf st.1 h).value⟩ := by unfold pxW2; rw [if_neg (by rw [e]; decide), hv]
    rw [er, e1, e2]
    refine g.put hh _ _ (by omega) (k.write2 hh _ hhost e rfl rfl rfl rfl) hv rfl hval (fun _ => hval) (fun e => by simp at e) ?_ (fun _ => ?_)
    · show (hsOf st.1 h).ballot ≤ m + 7; have := g.mb h hh; omega
    · show skip (hsOf st.1 h) 0 < 4; unfold skip; split <;> omega
  · have er : runAt vs st h = (st.1.set h (pxRd (hsOf st.1 h) st.2), st.2) := by
      unfold runAt; simp only [e0]; rw [if_neg (by rw [e]; decide), pxStepP_rd _ (.inr e)]
    have hs := g.rg h hh (.inr e)
    have hnn := skip_nn (hsOf st.1 h) (k.nx h hh)
    rw [er]
    exact (g.rd hh (.inr e) (skip (hsOf st.1 h) (hsOf st.1 h).next).toNat (by omega) (by omega)).more (by omega)
  · have er : runAt vs st h = (st.1.set h (hsOf st.1 h), st.2) := by
      unfold runAt; simp only [e0]; rw [if_neg (by rw [e]; decide), pxStepP_end _ (.inl e)]
    rw [er, seth_id (by rw [g.lh]; exact hh)]
    exact g.more (by omega)
  · have hb : ∀ q, q < 4 → (bsOf st.2 q).mbal < nxBal h 0 st.2 := by
      intro q hq
      have := nxBal_gt (bs := st.2) h q (by rw [g.lb]; exact hq) 0
      rw [show bkOf (st.2.getD q bk0) 0 = bsOf st.2 q from bkOf0 (g.bv q hq)] at this; exact this
    have eo := own ⟨h, 0, 1, nxBal h 0 st.2, vs.getD h 0, 0, 0, 0⟩ rfl rfl
    have er : runAt vs st h = (st.1.set h ⟨h, 0, 2, nxBal h 0 st.2, vs.getD h 0, 0, (bsOf st.2 h).inp, (bsOf st.2 h).bal⟩, st.2.set h ⟨0, nxBal h 0 st.2, (bsOf st.2 h).bal, (bsOf st.2 h).inp⟩) := by
      unfold runAt; simp only [e0]; rw [if_pos e, pxStepP_wr _ (.inl rfl) ?_, eo]; rfl
      rw [eo]; unfold pxNo; rw [g.bv h hh]
      have := hb h hh
      intro c
      rcases c with c | c | c | c
      · exact absurd (show (0 : Int) < 0 from c) (by decide)
      · exact absurd (show nxBal h 0 st.2 < (bsOf st.2 h).mbal from c) (by omega)
      · exact absurd (show (bsOf st.2 h).mbal = nxBal h 0 st.2 from c.2) (by omega)
      · exact absurd (show (1 : Int) = 3 from c.1) (by decide)
    rw [er]
    refine g.put hh _ _ (by omega) (k.begin1 hh _ _ hb (nxBal_mod _ hh 0)) rfl rfl ⟨h, hh, rfl⟩ (g.inp h hh) (fun _ => g.inp h hh) ?_ (fun _ => ?_)
    · exact nxBal_le hh 0 m m0 (fun i hi => by rw [show bkOf (st.2.getD i bk0) 0 = bsOf st.2 i from bkOf0 (g.bv i (by rw [← g.lb]; exact hi))]; exact g.mb i (by rw [← g.lb]; exact hi))
    · show skip ⟨h, 0, 2, nxBal h 0 st.2, vs.getD h 0, 0, (bsOf st.2 h).inp, (bsOf st.2 h).bal⟩ 0 < 4; unfold skip; split <;> omega
/-- A run. -/
theorem Good.run {vs : List Int} : ∀ (l : List Nat) {m : Int} {st : List Pxs × List Bk}, Good vs m st → (∀ h, h ∈ l → h < 4) → Good vs (m + 7 * l.length) (run vs l st)
  | [], _, _, g, _ => g.more (by simp)
  | h :: r, _, _, g, hl => by
    have := Good.run r (g.step (hl h (List.mem_cons_self ..))) (fun x hx => hl x (List.mem_cons_of_mem _ hx))
    exact this.more (by rw [List.length_cons]; omega)
/-- What a run tells. -/
def told (hs : List Pxs) : List Int := hs.map (fun p => if p.phase = 5 then p.value else -1)
theorem Good.agree {vs : List Int} {m : Int} {st : List Pxs × List Bk} (g : Good vs m st) {p q : Nat} (hp : p < 4) (hq : q < 4) (ep : (hsOf st.1 p).phase = 5) (eq : (hsOf st.1 q).phase = 5) : (hsOf st.1 p).value = (hsOf st.1 q).value ∧ Had vs (hsOf st.1 p).value :=
  ⟨g.inv.agree hp hq ep eq, g.vals p hp⟩
/-- A whole run. -/
theorem run_agree (vs : List Int) (l : List Nat) (hl : ∀ h, h ∈ l → h < 4) : Good vs (7 * l.length) (run vs l (run0 vs)) := by
  have := Good.run l (good0 vs) hl
  exact this.more (by omega)

end Go.Proofs.YtlhinknmbgijeabDoor

/- Plain words of the ballots' blocks: what a right one is, its text, what a text says; rows of blocks. -/
namespace Go.Proofs.YtlhinknmbgijeabDoor
open Go.RowKit
set_option linter.unusedVariables false

abbrev bV (x : Bk) : Value := .agg #[.int .i64 x.ver, .int .i64 x.mbal, .int .i64 x.bal, .int .i64 x.inp]
def bkB (x : Bk) : Bool := inB x.ver 0 1000000 && (inB x.mbal 0 1000000 && (inB x.bal 0 x.mbal && (numB x.inp && (decide (0 < x.bal) || decide (x.inp = 0)))))
theorem bkB_iff {x : Bk} : bkB x = true ↔ (0 ≤ x.ver ∧ x.ver ≤ 1000000) ∧ (0 ≤ x.mbal ∧ x.mbal ≤ 1000000) ∧ (0 ≤ x.bal ∧ x.bal ≤ x.mbal) ∧ (0 ≤ x.inp ∧ x.inp ≤ 2147483647) ∧ (0 < x.bal ∨ x.inp = 0) := by
  simp only [bkB, numB, inB, Bool.and_eq_true, Bool.or_eq_true, decide_eq_true_eq]
theorem bkB_1 {x : Bk} (e : inB x.ver 0 1000000 = false) : bkB x = false := by simp [bkB, e]
theorem bkB_2 {x : Bk} (e : inB x.mbal 0 1000000 = false) : bkB x = false := by simp [bkB, e]
theorem bkB_3 {x : Bk} (e : inB x.bal 0 x.mbal = false) : bkB x = false := by simp [bkB, e]
theorem bkB_4 {x : Bk} (e : numB x.inp = false) : bkB x = false := by simp [bkB, e]
theorem bkB_5 {x : Bk} (e1 : inB x.ver 0 1000000 = true) (e2 : inB x.mbal 0 1000000 = true) (e3 : inB x.bal 0 x.mbal = true) (e4 : numB x.inp = true) : bkB x = (decide (0 < x.bal) || decide (x.inp = 0)) := by simp [bkB, e1, e2, e3, e4]
/-- Its text. -/
def encB (x : Bk) : ByteArray := sealS 5 [x.ver, x.mbal, x.bal, x.inp]
theorem encB_size (x : Bk) : (encB x).size = 20 := by rw [encB, sealS_size]; rfl
def ebC (x : Bk) : Int := if bkB x = true then 0 else 1
def ebR (x : Bk) : ByteArray := if bkB x = true then encB x else ⟨#[]⟩
theorem ret_se {a b : ByteArray} {c d : Int} (h : a = b) (k : c = d) : Ending.returned (.tuple #[.string a, .int .i64 c]) = .returned (.tuple #[.string b, .int .i64 d]) := by rw [h, k]
/-- What a text says. -/
def bdL (t : ByteArray) : List Int := openL t 5
def bk4 (l : List Int) : Bk := ⟨l.getD 0 0, l.getD 1 0, l.getD 2 0, l.getD 3 0⟩
def bdB (t : ByteArray) : Bool := openB t 5 && (decide ((bdL t).length = 4) && bkB (bk4 (bdL t)))
def bdK (t : ByteArray) : Bk := if bdB t = true then bk4 (bdL t) else bk0
theorem bdB_open {t : ByteArray} (h : openB t 5 = false) : bdB t = false := by simp [bdB, h]
theorem bdB_len {t : ByteArray} (h : ¬ (bdL t).length = 4) : bdB t = false := by simp [bdB, h]
theorem bdB_at {t : ByteArray} {a b c d : Int} (h : openB t 5 = true) (hl : bdL t = [a, b, c, d]) : bdB t = bkB ⟨a, b, c, d⟩ := by
  have e : bk4 (bdL t) = ⟨a, b, c, d⟩ := by rw [hl]; rfl
  simp [bdB, h, e]
  rw [hl]; simp
theorem bd_no {t : ByteArray} (h : bdB t = false) : bdK t = bk0 := by simp [bdK, h]
theorem bd_yes {t : ByteArray} {a b c d : Int} (h : bdB t = true) (hl : bdL t = [a, b, c, d]) : bdK t = ⟨a, b, c, d⟩ := by rw [bdK, if_pos h, hl]; rfl
theorem fourK {l : List Int} (h : l.length = 4) : ∃ a b c d, l = [a, b, c, d] := by
  match l, h with
  | [a, b, c, d], _ => exact ⟨a, b, c, d, rfl⟩
theorem bd_right {t : ByteArray} (h : bdB t = true) : bkB (bdK t) = true := by
  have h' := h
  simp only [bdB, Bool.and_eq_true, decide_eq_true_eq] at h'
  rw [bdK, if_pos h]; exact h'.2.2
/-- What DecodeBlock answers. -/
def bcC (t : ByteArray) : Int := if 65536 < t.size then 2 else if bdB t = true then 0 else 3
def bcK (t : ByteArray) : Bk := if 65536 < t.size then bk0 else bdK t
theorem bc_long {t : ByteArray} (h : 65536 < t.size) : bcK t = bk0 ∧ bcC t = 2 := ⟨if_pos h, if_pos h⟩
theorem bc_no {t : ByteArray} (h : ¬ 65536 < t.size) (hd : bdB t = false) : bcK t = bk0 ∧ bcC t = 3 := ⟨(if_neg h).trans (bd_no hd), (if_neg h).trans (if_neg (by simp [hd]))⟩
theorem bc_yes {t : ByteArray} (h : ¬ 65536 < t.size) (hd : bdB t = true) : bcK t = bdK t ∧ bcC t = 0 := ⟨if_neg h, (if_neg h).trans (if_pos hd)⟩
theorem ret_bi {a b : Bk} {x y : Int} (h : a = b) (k : x = y) : Ending.returned (.tuple #[bV a, .int .i64 x]) = .returned (.tuple #[bV b, .int .i64 y]) := by rw [h, k]
theorem ret_bb {a b : Bk} {x y : Bool} (h : a = b) (k : x = y) : Ending.returned (.tuple #[bV a, .bool x]) = .returned (.tuple #[bV b, .bool y]) := by rw [h, k]

/-- One in a variable. -/
def VarB (w : World) (x : Nat) (t : TypeId) (b : Bk) : Prop := w.heap[x]? = some (.cells #[.int .i64 b.ver, .int .i64 b.mbal, .int .i64 b.bal, .int .i64 b.inp] t (0, 0))
theorem VarB.lt {w : World} {x t : Nat} {b : Bk} (k : VarB w x t b) : x < w.heap.size := (Array.getElem?_eq_some_iff.1 k).1
theorem VarB.cells {w : World} {x t : Nat} {b : Bk} (k : VarB w x t b) : w.cell? ⟨x, 0, none⟩ = some (.int .i64 b.ver) ∧ w.cell? ⟨x, 1, none⟩ = some (.int .i64 b.mbal) ∧ w.cell? ⟨x, 2, none⟩ = some (.int .i64 b.bal) ∧ w.cell? ⟨x, 3, none⟩ = some (.int .i64 b.inp) := ⟨by rw [Joins.cell_of_block k]; rfl, by rw [Joins.cell_of_block k]; rfl, by rw [Joins.cell_of_block k]; rfl, by rw [Joins.cell_of_block k]; rfl⟩
theorem VarB.free {w : World} {x t : Nat} {b : Bk} (k : VarB w x t b) : w.frozen? ⟨x, 0, none⟩ = false ∧ w.frozen? ⟨x, 1, none⟩ = false ∧ w.frozen? ⟨x, 2, none⟩ = false ∧ w.frozen? ⟨x, 3, none⟩ = false := ⟨Joins.unfrozen_of_block k 0, Joins.unfrozen_of_block k 1, Joins.unfrozen_of_block k 2, Joins.unfrozen_of_block k 3⟩
theorem VarB.below {w w' : World} {x t : Nat} {b : Bk} (k : VarB w x t b) (hb : Below w.heap.size w w') : VarB w' x t b := by
  unfold VarB; rw [hb.block x k.lt]; exact k
theorem VarB.keep {S : Nat → Prop} {w w' : World} {x t : Nat} {b : Bk} (k : VarB w x t b) (hk : Keep S w w') (hs : ¬ S x) : VarB w' x t b := by
  unfold VarB; rw [hk.block x k.lt hs]; exact k
theorem VarB.new (w : World) (t : TypeId) (b : Bk) : VarB (w.alloc (.cells #[.int .i64 b.ver, .int .i64 b.mbal, .int .i64 b.bal, .int .i64 b.inp] t)) w.heap.size t b := heap_alloc_new w _
theorem VarB.new0 (w : World) (t : TypeId) : VarB (w.alloc (.cells #[.int .i64 0, .int .i64 0, .int .i64 0, .int .i64 0] t)) w.heap.size t bk0 := heap_alloc_new w _
theorem below4 {w0 w : World} {B g : Nat} (h : Below B w0 w) (hg : B ≤ g) (i j k l : Nat) (u v x y : Value) : Below B w0 ((((w.setCell ⟨g, i, none⟩ u).setCell ⟨g, j, none⟩ v).setCell ⟨g, k, none⟩ x).setCell ⟨g, l, none⟩ y) :=
  (below3 h hg i j k u v x).setCell (p := ⟨g, l, none⟩) hg y
theorem is4 (w : World) (n : Nat) (t : TypeId) (a b c d : Int) (hn : w.heap.size = n) : Is (w.alloc (.cells #[.int .i64 a, .int .i64 b, .int .i64 c, .int .i64 d] t)) (some ⟨n, 0, none⟩) [a, b, c, d] := by
  subst hn
  intro i hi
  have hi' : i < 4 := hi
  refine ⟨w.heap.size, 0, rfl, ?_⟩
  rcases (show i = 0 ∨ i = 1 ∨ i = 2 ∨ i = 3 by omega) with rfl | rfl | rfl | rfl <;> simp [go_sem]
theorem b4_nums {x : Bk} (hd : bkB x = true) : ∀ j (hj : j < [x.ver, x.mbal, x.bal, x.inp].length), 0 ≤ [x.ver, x.mbal, x.bal, x.inp][j] ∧ [x.ver, x.mbal, x.bal, x.inp][j] ≤ 2147483647 := by
  obtain ⟨h1, h2, h3, h4, _⟩ := bkB_iff.1 hd
  intro j hj
  have hj' : j < 4 := hj
  rcases (show j = 0 ∨ j = 1 ∨ j = 2 ∨ j = 3 by omega) with rfl | rfl | rfl | rfl <;> simp <;> omega
theorem b4_ints {x : Bk} (hd : bkB x = true) : intsB [x.ver, x.mbal, x.bal, x.inp] = true := by
  obtain ⟨h1, h2, h3, h4, _⟩ := bkB_iff.1 hd
  rw [intsB_len]
  · rfl
  · intro j hj
    have hj' : j < 4 := hj
    rcases (show j = 0 ∨ j = 1 ∨ j = 2 ∨ j = 3 by omega) with rfl | rfl | rfl | rfl <;> simp [numB, inB] <;> omega
theorem b4_seal {x : Bk} (hd : bkB x = true) : sealC 5 [x.ver, x.mbal, x.bal, x.inp] = 0 ∧ sealT 5 [x.ver, x.mbal, x.bal, x.inp] = encB x := by
  have hc : sealC 5 [x.ver, x.mbal, x.bal, x.inp] = 0 := sealC_ok (listC_ok (by simp) (b4_ints hd)) rfl
  exact ⟨hc, sealT_ok hc⟩

end Go.Proofs.YtlhinknmbgijeabDoor

/- Contracts of spec's blocks: BlockOK, l05Encode, EncodeBlock, l05Decode, DecodeBlock, l05Of. -/
namespace Go.Proofs.YtlhinknmbgijeabDoor
open Go.RowKit
set_option linter.unusedVariables false
set_option maxRecDepth 100000

set_option maxHeartbeats 1600000 in
theorem blockOK_spec (x : Bk) (w : World) : Calls Tryd.prog 48 #[bV x] w fun e w' => e = .returned (.bool (bkB x)) ∧ Below w.heap.size w w' := by
  go_enter Tryd.func48, Tryd.ntmps48
  go_wp2_with fail
  refine (l01In_num x.ver 0 1000000 _).mono ?_
  rintro e w1 ⟨rfl, rfl⟩
  by_cases h1 : inB x.ver 0 1000000 = false
  · have hr := hide (bkB_1 h1)
    go_wp2
    go_ret
    rw [unhide hr]
    exact ⟨rfl, Joins.below_alloc1 _ _⟩
  rw [Bool.not_eq_false] at h1
  go_wp2_with fail
  refine (l01In_num x.mbal 0 1000000 _).mono ?_
  rintro e w1 ⟨rfl, rfl⟩
  by_cases h2 : inB x.mbal 0 1000000 = false
  · have hr := hide (bkB_2 h2)
    go_wp2
    go_ret
    rw [unhide hr]
    exact ⟨rfl, Joins.below_alloc1 _ _⟩
  rw [Bool.not_eq_false] at h2
  go_wp2_with fail
  refine (l01In_num x.bal 0 x.mbal _).mono ?_
  rintro e w1 ⟨rfl, rfl⟩
  by_cases h3 : inB x.bal 0 x.mbal = false
  · have hr := hide (bkB_3 h3)
    go_wp2
    go_ret
    rw [unhide hr]
    exact ⟨rfl, Joins.below_alloc1 _ _⟩
  rw [Bool.not_eq_false] at h3
  go_wp2_with fail
  refine (l01In_num x.inp 0 2147483647 _).mono ?_
  rintro e w1 ⟨rfl, rfl⟩
  by_cases h4 : inB x.inp 0 2147483647 = false
  · have hr := hide (bkB_4 h4)
    go_wp2
    go_ret
    rw [unhide hr]
    exact ⟨rfl, Joins.below_alloc1 _ _⟩
  rw [Bool.not_eq_false] at h4
  have hr := hide (bkB_5 h1 h2 h3 h4)
  clear h1 h2 h3
  by_cases h5 : 0 < x.bal
  · have hv : Hid (bkB x = true) := hide (by rw [unhide hr]; simp [h5])
    go_wp2
    go_ret
    rw [unhide hv]
    exact ⟨rfl, Joins.below_alloc1 _ _⟩
  · have hv : Hid (bkB x = decide (x.inp = 0)) := hide (by rw [unhide hr]; simp [h5])
    go_wp2
    go_ret
    rw [unhide hv]
    exact ⟨ret_bool (by rw [Bool.eq_iff_iff]; simp <;> omega), Joins.below_alloc1 _ _⟩

set_option maxHeartbeats 1600000 in
theorem l05Encode_bk (x : Bk) (w : World) (hd : bkB x = true) : Calls Tryd.prog 49 #[bV x] w fun e w' => e = .returned (.string (encB x)) ∧ Below w.heap.size w w' := by
  have HD := hide (b4_nums hd)
  clear hd
  go_enter Tryd.func49, Tryd.ntmps49
  go_wp2_with fail
  refine (l02Seal_any 5 _ 4 [x.ver, x.mbal, x.bal, x.inp] _ (by decide) (by simp) (unhide HD) (is4 _ _ _ _ _ _ _ (by simp))).mono ?_
  rintro e w1 ⟨rfl, hb⟩
  have HB := hide hb
  clear hb
  go_wp2
  go_ret
  exact ⟨rfl, fr (Joins.below_alloc2 _ _ _) (unhide HB)⟩

set_option maxHeartbeats 1600000 in
theorem encodeBlock_spec (x : Bk) (w : World) : Calls Tryd.prog 17 #[bV x] w fun e w' => e = .returned (.tuple #[.string (ebR x), .int .i64 (ebC x)]) ∧ Below w.heap.size w w' := by
  go_enter Tryd.func17, Tryd.ntmps17
  go_wp2_with fail
  refine (blockOK_spec x _).mono ?_
  rintro e w1 ⟨rfl, hb⟩
  have HB := hide hb
  obtain ⟨hc0, hc1, hc2, hc3⟩ := ((VarB.new w 42 x).below hb).cells
  clear hb
  by_cases hd : bkB x = true
  · have HE : Hid (ebR x = encB x ∧ ebC x = 0) := hide ⟨if_pos hd, if_pos hd⟩
    have HD := hide hd
    go_wp2_with fail
    refine (l05Encode_bk x _ (unhide HD)).mono ?_
    rintro e w2 ⟨rfl, hb⟩
    have HB2 := hide hb
    clear hb
    go_wp2
    go_ret2
    exact ⟨ret_se (unhide HE).1.symm (unhide HE).2.symm, fr (fr (Joins.below_alloc1 _ _) (unhide HB)) (unhide HB2)⟩
  · have HE : Hid (ebR x = ⟨#[]⟩ ∧ ebC x = 1) := hide ⟨if_neg hd, if_neg hd⟩
    rw [Bool.not_eq_true] at hd
    go_wp2
    go_ret2
    exact ⟨ret_se (unhide HE).1.symm (unhide HE).2.symm, fr (Joins.below_alloc1 _ _) (unhide HB)⟩

end Go.Proofs.YtlhinknmbgijeabDoor
