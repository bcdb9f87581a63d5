import Derived.Test.YtjjkppknojecjaaGreatRows
import Derived.Shelf.SlIterI.Nil
import Derived.Shelf.SortM.Plain
import Derived.Shelf.SortM.SortNone
import Derived.Test.YtjjkppknojecjaaGreatXPlainWorldPart1
import Derived.WalkKit
import Derived.KernelRfl
import Derived.Maps.Own
import Derived.Maps.OwnOps
import Derived.Maps.OwnSet
import Derived.Maps.Views
import Derived.Test.YtjjkppknojecjaaGreatXPlainWorldPart9
import Derived.Test.YtjjkppknojecjaaGreatXPlainWorldPart3
import Derived.Test.YtjjkppknojecjaaGreatXPlainWorldPart8
import Derived.Test.YtjjkppknojecjaaGreatXPlainWorldPart10
import Derived.WalkSpells
import Derived.LoopN
import Derived.Lib.ConvBytes
import Derived.Test.YtjjkppknojecjaaGreatXPlainWorldPart2
import Derived.Test.YtjjkppknojecjaaGreatXPlainWorldPart5
import Derived.Deep.CutRange
import Derived.Deep.MidRow

namespace Go.Proofs.YtjjkppknojecjaaGreat
open Go.RowKit Go.Shelf
set_option maxRecDepth 100000

def lay_keysA_ren : Go.Shelf.Ren := ⟨fun | 7 => 72 | 10 => 95 | n => n, fun | 23 => 73 | 26 => 3 | 3 => 104 | 28 => 101 | 0 => 0 | 27 => 100 | 33 => 98 | 4 => 4 | n => n, fun | n => n⟩

theorem lay_keysA : Go.Proofs.SlLaysZI.n7 Tryz.prog lay_keysA_ren := {
  mixed := by kernel_rfl
  f7 := ⟨Tryz.f72.name, by decide, Tryz.func72.trans (congrArg some (by kernel_rfl))⟩
  f10 := ⟨Tryz.f95.name, by decide, Tryz.func95.trans (congrArg some (by kernel_rfl))⟩
  t0 := Tryz.underlying0
  a0 := Tryz.isAgg0
  z0 := Tryz.sizeOf0
  v0 := Tryz.zeroValue0
  t4 := Tryz.underlying4
  a4 := Tryz.isAgg4
  z4 := Tryz.sizeOf4
  v4 := Tryz.zeroValue4
  t23 := Tryz.underlying73
  a23 := Tryz.isAgg73
  z23 := Tryz.sizeOf73
  v23 := Tryz.zeroValue73
  t26 := Tryz.underlying3
  a26 := Tryz.isAgg3
  z26 := Tryz.sizeOf3
  v26 := Tryz.zeroValue3
  t27 := Tryz.underlying100
  a27 := Tryz.isAgg100
  z27 := Tryz.sizeOf100
  v27 := Tryz.zeroValue100
  t28 := Tryz.underlying101
  a28 := Tryz.isAgg101
  z28 := Tryz.sizeOf101
  v28 := Tryz.zeroValue101
  t33 := Tryz.underlying98
  a33 := Tryz.isAgg98
  z33 := Tryz.sizeOf98
  v33 := Tryz.zeroValue98 }

def lay_sortedA_ren : Go.Shelf.Ren := ⟨fun | 6 => 71 | 8 => 93 | 9 => 94 | 11 => 105 | 13 => 107 | 12 => 106 | 23 => 123 | 24 => 124 | 14 => 114 | 15 => 115 | 16 => 116 | 17 => 117 | 18 => 118 | 19 => 119 | 20 => 120 | 21 => 121 | 22 => 122 | 25 => 126 | 26 => 127 | 27 => 128 | 28 => 129 | 29 => 130 | 30 => 131 | 31 => 133 | n => n, fun | 26 => 3 | 28 => 101 | 24 => 30 | 0 => 0 | 3 => 3 | 37 => 139 | 48 => 155 | 50 => 142 | 4 => 4 | 40 => 147 | 39 => 146 | 45 => 152 | 5 => 5 | 9 => 9 | 51 => 159 | 55 => 163 | 57 => 165 | 58 => 166 | 33 => 98 | n => n, fun | n => n⟩

theorem lay_sortedA : Go.Proofs.SlLaysZI.n6 Tryz.prog lay_sortedA_ren := {
  mixed := by kernel_rfl
  f6 := ⟨Tryz.f71.name, by decide, Tryz.func71.trans (congrArg some (by kernel_rfl))⟩
  f8 := ⟨Tryz.f93.name, by decide, Tryz.func93.trans (congrArg some (by kernel_rfl))⟩
  f11 := ⟨Tryz.f105.name, by decide, Tryz.func105.trans (congrArg some (by kernel_rfl))⟩
  t0 := Tryz.underlying0
  a0 := Tryz.isAgg0
  z0 := Tryz.sizeOf0
  v0 := Tryz.zeroValue0
  t24 := Tryz.underlying30
  a24 := Tryz.isAgg30
  z24 := Tryz.sizeOf30
  v24 := Tryz.zeroValue30
  t26 := Tryz.underlying3
  a26 := Tryz.isAgg3
  z26 := Tryz.sizeOf3
  v26 := Tryz.zeroValue3
  t28 := Tryz.underlying101
  a28 := Tryz.isAgg101
  z28 := Tryz.sizeOf101
  v28 := Tryz.zeroValue101
  i26 := by kernel_rfl }

def lay_sortA_ren : Go.Shelf.Ren := ⟨fun | 5 => 94 | 8 => 107 | 7 => 106 | 19 => 123 | 20 => 124 | 10 => 114 | 11 => 115 | 12 => 116 | 13 => 117 | 14 => 118 | 15 => 119 | 16 => 120 | 17 => 121 | 18 => 122 | 30 => 126 | 31 => 127 | 32 => 128 | 33 => 129 | 34 => 130 | 35 => 131 | 40 => 133 | n => n, fun | 23 => 30 | 25 => 3 | 3 => 3 | 32 => 139 | 22 => 30 | 0 => 0 | 44 => 155 | 46 => 142 | 4 => 4 | 36 => 147 | 35 => 146 | 41 => 152 | 5 => 5 | 9 => 9 | 53 => 159 | 57 => 163 | 63 => 165 | 64 => 166 | n => n, fun | n => n⟩

theorem lay_sortA : Go.Proofs.SlLaysM.n5 Tryz.prog lay_sortA_ren := {
  mixed := by kernel_rfl
  f5 := ⟨Tryz.f94.name, by decide, Tryz.func94.trans (congrArg some (by kernel_rfl))⟩
  f7 := ⟨Tryz.f106.name, by decide, Tryz.func106.trans (congrArg some (by kernel_rfl))⟩
  f8 := Tryz.func107.trans (congrArg some (by kernel_rfl))
  f10 := ⟨Tryz.f114.name, by decide, Tryz.func114.trans (congrArg some (by kernel_rfl))⟩
  f11 := ⟨Tryz.f115.name, by decide, Tryz.func115.trans (congrArg some (by kernel_rfl))⟩
  f12 := ⟨Tryz.f116.name, by decide, Tryz.func116.trans (congrArg some (by kernel_rfl))⟩
  f13 := ⟨Tryz.f117.name, by decide, Tryz.func117.trans (congrArg some (by kernel_rfl))⟩
  f14 := ⟨Tryz.f118.name, by decide, Tryz.func118.trans (congrArg some (by kernel_rfl))⟩
  f15 := ⟨Tryz.f119.name, by decide, Tryz.func119.trans (congrArg some (by kernel_rfl))⟩
  f16 := ⟨Tryz.f120.name, by decide, Tryz.func120.trans (congrArg some (by kernel_rfl))⟩
  f17 := ⟨Tryz.f121.name, by decide, Tryz.func121.trans (congrArg some (by kernel_rfl))⟩
  f18 := ⟨Tryz.f122.name, by decide, Tryz.func122.trans (congrArg some (by kernel_rfl))⟩
  f19 := Tryz.func123.trans (congrArg some (by kernel_rfl))
  f20 := Tryz.func124.trans (congrArg some (by kernel_rfl))
  f30 := ⟨Tryz.f126.name, by decide, Tryz.func126.trans (congrArg some (by kernel_rfl))⟩
  f31 := Tryz.func127.trans (congrArg some (by kernel_rfl))
  f32 := Tryz.func128.trans (congrArg some (by kernel_rfl))
  f33 := ⟨Tryz.f129.name, by decide, Tryz.func129.trans (congrArg some (by kernel_rfl))⟩
  f34 := ⟨Tryz.f130.name, by decide, Tryz.func130.trans (congrArg some (by kernel_rfl))⟩
  f35 := ⟨Tryz.f131.name, by decide, Tryz.func131.trans (congrArg some (by kernel_rfl))⟩
  f40 := ⟨Tryz.f133.name, by decide, Tryz.func133.trans (congrArg some (by kernel_rfl))⟩
  t0 := Tryz.underlying0
  a0 := Tryz.isAgg0
  z0 := Tryz.sizeOf0
  v0 := Tryz.zeroValue0
  t3 := Tryz.underlying3
  a3 := Tryz.isAgg3
  z3 := Tryz.sizeOf3
  v3 := Tryz.zeroValue3
  t4 := Tryz.underlying4
  a4 := Tryz.isAgg4
  z4 := Tryz.sizeOf4
  v4 := Tryz.zeroValue4
  t5 := Tryz.underlying5
  a5 := Tryz.isAgg5
  z5 := Tryz.sizeOf5
  v5 := Tryz.zeroValue5
  t9 := Tryz.underlying9
  a9 := Tryz.isAgg9
  z9 := Tryz.sizeOf9
  v9 := Tryz.zeroValue9
  t22 := Tryz.underlying30
  a22 := Tryz.isAgg30
  z22 := Tryz.sizeOf30
  v22 := Tryz.zeroValue30
  t23 := Tryz.underlying30
  a23 := Tryz.isAgg30
  z23 := Tryz.sizeOf30
  v23 := Tryz.zeroValue30
  t25 := Tryz.underlying3
  a25 := Tryz.isAgg3
  z25 := Tryz.sizeOf3
  v25 := Tryz.zeroValue3
  t32 := Tryz.underlying139
  a32 := Tryz.isAgg139
  z32 := Tryz.sizeOf139
  v32 := Tryz.zeroValue139
  t35 := Tryz.underlying146
  a35 := Tryz.isAgg146
  z35 := Tryz.sizeOf146
  v35 := Tryz.zeroValue146
  t36 := Tryz.underlying147
  a36 := Tryz.isAgg147
  z36 := Tryz.sizeOf147
  v36 := Tryz.zeroValue147
  t41 := Tryz.underlying152
  a41 := Tryz.isAgg152
  z41 := Tryz.sizeOf152
  v41 := Tryz.zeroValue152
  t44 := Tryz.underlying155
  a44 := Tryz.isAgg155
  z44 := Tryz.sizeOf155
  v44 := Tryz.zeroValue155
  t46 := Tryz.underlying142
  a46 := Tryz.isAgg142
  z46 := Tryz.sizeOf142
  v46 := Tryz.zeroValue142
  t53 := Tryz.underlying159
  a53 := Tryz.isAgg159
  z53 := Tryz.sizeOf159
  v53 := Tryz.zeroValue159
  t57 := Tryz.underlying163
  a57 := Tryz.isAgg163
  z57 := Tryz.sizeOf163
  v57 := Tryz.zeroValue163
  t63 := Tryz.underlying165
  a63 := Tryz.isAgg165
  z63 := Tryz.sizeOf165
  v63 := Tryz.zeroValue165
  t64 := Tryz.underlying166
  a64 := Tryz.isAgg166
  z64 := Tryz.sizeOf166
  v64 := Tryz.zeroValue166 }

end Go.Proofs.YtjjkppknojecjaaGreat

namespace Go.Proofs.YtjjkppknojecjaaGreat
open Go.RowKit Go.Maps Go.Sort Go.Shelf
set_option linter.unusedVariables false
set_option maxRecDepth 100000

abbrev Rc := Int × List Int
def recR (v : Value) : Option (DataW Value × List MemPlace) := some (.held v, [])
def rcV (r : Rc) (ao : Option Addr) (cap : Nat) : Value := .agg #[.int .i64 r.1, .slice ao r.2.length cap]
theorem lawK : Keyed Tryz.prog 3 := int_keyed Tryz.underlying3
theorem zeroR (w : World) : (zeroValue 104).run Tryz.prog w = .ok (.agg #[.int .i64 0, .slice none 0 0]) w := by kernel_rfl
theorem wfP {p : Nat} (h : p < 64) : (Lit.int .i64 (p : Int)).wf = true := WalkArith.wf_i64 (by omega)
theorem keyP {p : Nat} (h : p < 64) : keyOf Tryz.prog 3 (.int .i64 (p : Int)) = some (.int .i64 (p : Int)) := keyOf_int_mk Tryz.underlying3 (wfP h)
structure MpR (w : World) (B n : Nat) (D : DataW Value) (f : Nat → Option Rc) : Prop where
  own : w.ownsMap Tryz.prog 3 recR B n D
  no : ∀ p : Nat, p < 64 → f p = none → has D (.int .i64 (p : Int)) = false
  yes : ∀ p : Nat, p < 64 → ∀ r, f p = some r → has D (.int .i64 (p : Int)) = true ∧ ∃ ao cap, (∀ z, D.atKey (.int .i64 (p : Int)) z = .held (rcV r ao cap)) ∧ Is w ao r.2
  only : ∀ kl, has D kl = true → ∃ p : Nat, p < 64 ∧ kl = .int .i64 (p : Int)
def setF (f : Nat → Option Rc) (p : Nat) (r : Rc) : Nat → Option Rc := fun q => if q = p then some r else f q
theorem MpR.made (w : World) : MpR (w.alloc (.map #[] 0)) w.heap.size 0 (.map []) (fun _ => none) where
  own := World.ownsMap_made _ _ _ _
  no := fun p _ _ => rfl
  yes := fun p _ r h => by cases h
  only := fun kl h => by cases h
theorem MpR.lt {w : World} {B n : Nat} {D : DataW Value} {f : Nat → Option Rc} (h : MpR w B n D f) : B < w.heap.size := h.own.lt
theorem MpR.mono {w : World} {B n n' : Nat} {D : DataW Value} {f : Nat → Option Rc} (h : MpR w B n D f) (hn : n ≤ n') : MpR w B n' D f := ⟨h.own.mono hn, h.no, h.yes, h.only⟩
theorem MpR.below {w w' : World} {B n : Nat} {D : DataW Value} {f : Nat → Option Rc} (h : MpR w B n D f) (hb : Below w.heap.size w w') : MpR w' B n D f where
  own := by
    have hl := h.lt
    obtain ⟨es, clock, e, F, hn, hD⟩ := h.own
    exact ⟨es, clock, (hb.block B hl).trans e, F, hn, hD⟩
  no := h.no
  yes := fun p hp r hr => by
    obtain ⟨h1, ao, cap, h2, h3⟩ := h.yes p hp r hr
    exact ⟨h1, ao, cap, h2, h3.below hb⟩
  only := h.only
theorem own_noCell {w : World} {B n : Nat} {D : DataW Value} (h : w.ownsMap Tryz.prog 3 recR B n D) {p : Addr} {v : Value} (hc : w.cell? p = some v) : p.block ≠ B := by
  intro he
  obtain ⟨es, clock, hb, _⟩ := h
  rw [← he] at hb
  simp [World.cell?, hb] at hc
theorem cell_turned {w w' : World} {B : Nat} (hg : w.grownBy w' (some B)) {p : Addr} {v : Value} (hc : w.cell? p = some v) (hn : p.block ≠ B) : w'.cell? p = some v :=
  (World.cell?_of_block (hg.block p.block (World.block_lt_of_cell? _ _ hc) (fun e => hn (Option.some.inj e)))).trans hc
theorem is_turned {w w' : World} {B n : Nat} {D : DataW Value} (h : w.ownsMap Tryz.prog 3 recR B n D) (hg : w.grownBy w' (some B)) {ao : Option Addr} {xs : List Int} (hi : Is w ao xs) : Is w' ao xs := fun i hl => by
  obtain ⟨b, off, e, hc⟩ := hi i hl
  exact ⟨b, off, e, cell_turned hg hc (own_noCell h hc)⟩
theorem MpR.put {w w' : World} {B n p : Nat} {D : DataW Value} {f : Nat → Option Rc} {r : Rc} {ao : Option Addr} {cap : Nat} (h : MpR w B n D f) (hp : p < 64) (hi : Is w ao r.2) (ho : w'.ownsMap Tryz.prog 3 recR B (n + 1) (D.put (.int .i64 (p : Int)) (.held (rcV r ao cap)))) (hg : w.grownBy w' (some B)) :
    MpR w' B (n + 1) (D.put (.int .i64 (p : Int)) (.held (rcV r ao cap))) (setF f p r) := by
  have hM : IsMap D := h.own.isMap
  refine ⟨ho, fun q hq hf => ?_, fun q hq s hf => ?_, fun kl hk => ?_⟩
  · by_cases e : q = p
    · simp [setF, e] at hf
    · rw [has_put_other (by intro h2; simp only [Lit.int.injEq, true_and] at h2; omega)]
      exact h.no q hq (by simpa [setF, e] using hf)
  · by_cases e : q = p
    · subst e
      have : r = s := by simpa [setF] using hf
      subst this
      exact ⟨has_put_same (k := .int .i64 (q : Int)) hM trivial _, ao, cap, fun z => atKey_put_same (k := .int .i64 (q : Int)) hM trivial _ _, is_turned h.own hg hi⟩
    · obtain ⟨h1, a2, c2, h2, h3⟩ := h.yes q hq s (by simpa [setF, e] using hf)
      have hne : (Lit.int .i64 (q : Int)) ≠ .int .i64 (p : Int) := by intro h2; simp only [Lit.int.injEq, true_and] at h2; omega
      exact ⟨by rw [has_put_other hne]; exact h1, a2, c2, fun z => by rw [atKey_put_other hne]; exact h2 z, is_turned h.own hg h3⟩
  · by_cases e : kl = .int .i64 (p : Int)
    · exact ⟨p, hp, e⟩
    · rw [has_put_other e] at hk
      exact h.only kl hk
theorem MpR.update {w : World} {B n p : Nat} {D : DataW Value} {f : Nat → Option Rc} (h : MpR w B n D f) (hn : n < 1000000) (hp : p < 64) (r : Rc) (ao : Option Addr) (cap : Nat) (hi : Is w ao r.2) :
    ∃ w' D', (Instr.mapUpdate 73 (.map (some B)) (.int .i64 (p : Int)) (rcV r ao cap)).run Tryz.prog w = .ok () w' ∧ MpR w' B (n + 1) D' (setF f p r) ∧ w.grownBy w' (some B) := by
  obtain ⟨w', hrun, r1, r2⟩ := h.own.update lawK Tryz.underlying73 (by unfold maxLen; omega) (keyP hp) (d := .held (rcV r ao cap)) (ps := []) rfl
  exact ⟨w', _, hrun, h.put hp hi r1 r2, r2⟩
theorem MpR.look {w : World} {B n p : Nat} {D : DataW Value} {f : Nat → Option Rc} (h : MpR w B n D f) (hp : p < 64) {r : Rc} (hr : f p = some r) : ∃ ao cap, (Instr.lookup 73 (.map (some B)) (.int .i64 (p : Int)) false).run Tryz.prog w = .ok (rcV r ao cap) w ∧ Is w ao r.2 := by
  obtain ⟨h1, ao, cap, h2, h3⟩ := h.yes p hp r hr
  obtain ⟨v, ps, hrun, hat⟩ := h.own.lookup lawK Tryz.underlying73 (zeroR _) (zd := .held _) (zp := []) rfl (keyP hp)
  rw [h2] at hat
  simp only [recR, Option.some.injEq, Prod.mk.injEq, DataW.held.injEq] at hat
  rw [hat.1] at hrun
  exact ⟨ao, cap, hrun, h3⟩
theorem MpR.miss {w : World} {B n p : Nat} {D : DataW Value} {f : Nat → Option Rc} (h : MpR w B n D f) (hp : p < 64) (hr : f p = none) : (Instr.lookup 73 (.map (some B)) (.int .i64 (p : Int)) false).run Tryz.prog w = .ok (.agg #[.int .i64 0, .slice none 0 0]) w := by
  obtain ⟨v, ps, hrun, hat⟩ := h.own.lookup lawK Tryz.underlying73 (zeroR _) (zd := .held _) (zp := []) rfl (keyP hp)
  rw [atKey_of_not_has (h.no p hp hr)] at hat
  simp only [recR, Option.some.injEq, Prod.mk.injEq, DataW.held.injEq] at hat
  rw [hat.1] at hrun
  exact hrun
theorem miss_nil {p : Nat} (hp : p < 64) (w : World) : (Instr.lookup 73 (.map none) (.int .i64 (p : Int)) false).run Tryz.prog w = .ok (.agg #[.int .i64 0, .slice none 0 0]) w :=
  Maps.look_nil false lawK Tryz.underlying73 (zeroR _) (keyP hp)

def plcN (f : Nat → Option Rc) : List Nat := (List.range 64).filter (fun p => (f p).isSome)
def plcL (f : Nat → Option Rc) : List Int := (plcN f).map (fun p : Nat => (p : Int))
theorem plcN_lt {f : Nat → Option Rc} {p : Nat} (h : p ∈ plcN f) : p < 64 ∧ ∃ r, f p = some r := by
  simp only [plcN, List.mem_filter, List.mem_range] at h
  exact ⟨h.1, Option.isSome_iff_exists.1 h.2⟩
theorem plcL_rise (f : Nat → Option Rc) : (plcL f).Pairwise (· < ·) := by
  unfold plcL
  rw [List.pairwise_map]
  refine List.Pairwise.imp ?_ ((List.pairwise_lt_range (n := 64)).filter _)
  intro a b h; omega
theorem plcL_mem {w : World} {B n : Nat} {D : DataW Value} {f : Nat → Option Rc} (h : MpR w B n D f) (x : Int) : x ∈ plcL f ↔ has D (.int .i64 x) = true := by
  simp only [plcL, plcN, List.mem_map, List.mem_filter, List.mem_range]
  constructor
  · rintro ⟨p, ⟨hp, hs⟩, rfl⟩
    obtain ⟨r, hr⟩ := Option.isSome_iff_exists.1 hs
    exact (h.yes p hp r hr).1
  · intro hh
    obtain ⟨p, hp, e⟩ := h.only _ hh
    simp only [Lit.int.injEq, true_and] at e
    subst e
    refine ⟨p, ⟨hp, ?_⟩, rfl⟩
    cases hf : f p with
    | none => rw [h.no p hp hf] at hh; cases hh
    | some r => rfl
theorem MpR.perm {w : World} {B n : Nat} {D : DataW Value} {f : Nat → Option Rc} (h : MpR w B n D f) : (plcL f).Perm (intKeys D) := by
  obtain ⟨es, hD, hpw, _⟩ := h.own.entries lawK
  obtain ⟨es', hD', hko⟩ := h.own.keysOf
  obtain rfl : es = es' := by rw [hD] at hD'; simpa using hD'
  subst hD
  exact perm_intKeys hpw (fun p hp => by obtain ⟨v, hv⟩ := hko p hp; obtain ⟨x, _, hx, _⟩ := Maps.keyOf_i64 Tryz.underlying3 hv; exact ⟨x, hx⟩) ((plcL_rise f).imp (fun h => Int.ne_of_lt h)) (plcL_mem h)
theorem MpR.sorted {w : World} {B n : Nat} {D : DataW Value} {f : Nat → Option Rc} (h : MpR w B n D f) {ss : List Int} (hp : ss.Perm (intKeys D)) : ss.mergeSort (fun x y => decide (x ≤ y)) = plcL f := by
  have tr : ∀ a b c : Int, decide (a ≤ b) = true → decide (b ≤ c) = true → decide (a ≤ c) = true := fun a b c h1 h2 => by simp only [decide_eq_true_eq] at *; omega
  have tot : ∀ a b : Int, (decide (a ≤ b) || decide (b ≤ a)) = true := fun a b => by simp only [Bool.or_eq_true, decide_eq_true_eq]; omega
  refine List.Perm.eq_of_pairwise (le := fun a b => decide (a ≤ b) = true) (fun a b _ _ h1 h2 => by simp only [decide_eq_true_eq] at h1 h2; omega) (List.pairwise_mergeSort tr tot ss) ((plcL_rise f).imp fun {a b} h => by simp only [decide_eq_true_eq]; omega) (((List.mergeSort_perm ss _).trans hp).trans h.perm.symm)

theorem sorts_in (m : Nat) : AnyZI.SortsIn Tryz.prog lay_sortedA_ren Fence.wide m :=
  ⟨fun blk off cap ss W hH hblk hsz => callsIn_wide.2 (AnyM.slices_Sort_int lay_sortA blk off cap ss W hH hblk hsz),
   fun p cap W => callsIn_wide.2 (AnyM.slices_Sort_int_none lay_sortA p cap W)⟩
theorem mapsKeys_any (mb : Option Nat) (W : World) : Calls Tryz.prog 72 #[.map mb] W fun e w' => e = .returned (.func (.func 95) #[] #[.pointer (some ⟨W.heap.size, 0, none⟩)]) ∧ w' = W.alloc (.cells #[.map mb] 73) :=
  (callsIn_wide (n := 5)).1 (AnyZI.keys_in lay_keysA Fence.wide 5 trivial rfl mb W)
theorem sorted_any (B n : Nat) (D : DataW Value) (f : Nat → Option Rc) (w : World) (h : MpR w B n D f) (hn : n ≤ 1000000) :
    Calls Tryz.prog 71 #[.func (.func 95) #[] #[.pointer (some ⟨w.heap.size, 0, none⟩)]] (w.alloc (.cells #[.map (some B)] 73)) fun e w' => ∃ v, e = .returned v ∧ OwnN w' w.heap.size v (plcL f) ∧ Below w.heap.size w w' := by
  have hbl := h.lt
  have hsz := h.own.size_le
  have hseq : SeqGives Fence.wide 2 Tryz.prog 95 #[.pointer (some ⟨w.heap.size, 0, none⟩)] encZ (fun ss => ss.Perm (intKeys D)) (Maps.size D) (w.alloc (.cells #[.map (some B)] 73)) :=
    AnyZI.keys_gives (ρ := lay_keysA_ren) { lay_keysA with } Fence.wide _ trivial rfl (by omega) w.heap.size B n D _ (by simp) (by simp) (h.own.alloc _)
  have cS := AnyZI.sorted_in lay_sortedA Fence.wide 5 trivial trivial trivial trivial rfl (by omega) (sorts_in _) (enters_of Tryz.func94 (by kernel_rfl) rfl) 95 #[.pointer (some ⟨w.heap.size, 0, none⟩)] trivial (enters_of Tryz.func95 (by kernel_rfl) rfl) _ _ (by unfold maxLen; omega) (by omega) _ hseq
  change CallsIn _ _ Tryz.prog 71 _ _ _ at cS
  refine ((callsIn_wide (n := 5)).1 cS).mono ?_
  rintro e w' ⟨v, ss, rfl, hS, hrow, hnil, hb⟩
  have hs := h.sorted hS
  refine ⟨v, rfl, ?_, ((Below.refl _ w).alloc (Nat.le_refl _) _).trans (hb.mono (by simp))⟩
  have hlen : ss.length = (plcL f).length := by rw [← hs]; exact (List.mergeSort_perm ss _).length_eq.symm
  rw [hs, hlen] at hrow
  replace hrow := ownsRow_base_a hrow (base' := w.heap.size) (by simp)
  have hx : (plcL f).map encZ = intV (plcL f) := rfl
  rw [hx] at hrow
  rcases hrow.2 with ⟨hv, h0⟩ | ⟨g, cap, cur, hv, hrest⟩
  · have e0 : plcL f = [] := List.eq_nil_of_length_eq_zero h0
    rw [e0, hv]
    exact OwnN.nil _ _ _
  · have hr := hrow
    rw [hv] at hr ⊢
    exact ⟨_, _, rfl, OwnR.of hr (fun h0 => by
      have : v = .slice none 0 0 := hnil.2 (List.eq_nil_of_length_eq_zero (by omega))
      rw [this] at hv; cases hv)⟩

end Go.Proofs.YtjjkppknojecjaaGreat

namespace Go.Proofs.YtjjkppknojecjaaGreat
open Go.RowKit
set_option linter.unusedVariables false
set_option maxRecDepth 100000

def rcAt (m : Img) (p : Nat) : Option Rc :=
  if p = 9 then some (1, supL m) else if p = 10 then some (2, ctNs m.refs) else if 11 ≤ p ∧ p ≤ 14 then ((imTabs m)[p - 11]?).map (fun t => (3, t))
  else if 15 ≤ p ∧ p < 39 ∧ 0 < m.refs.getD (p - 15) 0 then some (4, [m.data.getD (p - 15) 0]) else none
def rcTo (m : Img) (K p : Nat) : Option Rc := if p < K then rcAt m p else none
theorem rcAt_tab {m : Img} {k : Nat} (hk : k < 4) : rcAt m (11 + k) = ((imTabs m)[k]?).map (fun t => (3, t)) := by
  unfold rcAt
  rw [if_neg (by omega), if_neg (by omega), if_pos (by omega), show 11 + k - 11 = k by omega]
theorem rcAt_dat {m : Img} {c : Nat} (hc : c < 24) : rcAt m (15 + c) = if 0 < m.refs.getD c 0 then some (4, [m.data.getD c 0]) else none := by
  unfold rcAt
  rw [if_neg (by omega), if_neg (by omega), if_neg (by omega), show 15 + c - 15 = c by omega]
  by_cases h : 0 < m.refs.getD c 0
  · rw [if_pos ⟨by omega, by omega, h⟩, if_pos h]
  · rw [if_neg (by intro h2; exact h h2.2.2), if_neg h]
theorem rcAt_none {m : Img} {p : Nat} (h : p < 9 ∨ 39 ≤ p) : rcAt m p = none := by
  unfold rcAt
  rw [if_neg (by omega), if_neg (by omega), if_neg (by omega), if_neg (by omega)]
theorem rcTo_two (m : Img) : setF (setF (fun _ => none) 9 (1, supL m)) 10 (2, ctNs m.refs) = rcTo m 11 := by
  funext p
  simp only [rcTo, setF]
  by_cases h1 : p = 9
  · subst h1; simp [rcAt]
  · by_cases h2 : p = 10
    · subst h2; simp [rcAt]
    · simp only [h1, h2, if_false]
      by_cases h3 : p < 11
      · rw [if_pos h3, rcAt_none (.inl (by omega))]
      · rw [if_neg h3]
theorem rcTo_tab {m : Img} {k : Nat} (hk : k < (imTabs m).length) (h4 : k < 4) : setF (rcTo m (11 + k)) (11 + k) (3, (imTabs m)[k]) = rcTo m (11 + (k + 1)) := by
  funext p
  simp only [rcTo, setF]
  by_cases h1 : p = 11 + k
  · subst h1
    rw [if_pos rfl, if_pos (by omega), rcAt_tab h4, List.getElem?_eq_getElem hk]; rfl
  · rw [if_neg h1]
    by_cases h2 : p < 11 + k
    · rw [if_pos h2, if_pos (by omega)]
    · rw [if_neg h2, if_neg (by omega)]
theorem rcTo_tabs {m : Img} (h4 : (imTabs m).length ≤ 4) : rcTo m (11 + (imTabs m).length) = rcTo m (15 + 0) := by
  funext p
  simp only [rcTo]
  by_cases h1 : p < 11 + (imTabs m).length
  · rw [if_pos h1, if_pos (by omega)]
  · rw [if_neg h1]
    by_cases h2 : p < 15 + 0
    · rw [if_pos h2]
      have hp : 11 ≤ p := by
        rcases Nat.lt_or_ge p 11 with h | h
        · exact absurd h (by omega)
        · exact h
      have := rcAt_tab (m := m) (k := p - 11) (by omega)
      rw [show 11 + (p - 11) = p by omega, List.getElem?_eq_none (by omega)] at this
      rw [this]; rfl
    · rw [if_neg h2]
theorem rcTo_dat {m : Img} {c : Nat} (hc : c < 24) (h : 0 < m.refs.getD c 0) : setF (rcTo m (15 + c)) (15 + c) (4, [m.data.getD c 0]) = rcTo m (15 + (c + 1)) := by
  funext p
  simp only [rcTo, setF]
  by_cases h1 : p = 15 + c
  · subst h1
    rw [if_pos rfl, if_pos (by omega), rcAt_dat hc, if_pos h]
  · rw [if_neg h1]
    by_cases h2 : p < 15 + c
    · rw [if_pos h2, if_pos (by omega)]
    · rw [if_neg h2, if_neg (by omega)]
theorem rcTo_no {m : Img} {c : Nat} (hc : c < 24) (h : ¬ 0 < m.refs.getD c 0) : rcTo m (15 + c) = rcTo m (15 + (c + 1)) := by
  funext p
  simp only [rcTo]
  by_cases h1 : p = 15 + c
  · subst h1
    rw [if_neg (by omega), if_pos (by omega), rcAt_dat hc, if_neg h]
  · by_cases h2 : p < 15 + c
    · rw [if_pos h2, if_pos (by omega)]
    · rw [if_neg h2, if_neg (by omega)]
theorem rcTo_all (m : Img) : rcTo m (15 + 24) = rcAt m := by
  funext p
  simp only [rcTo]
  by_cases h2 : p < 15 + 24
  · rw [if_pos h2]
  · rw [if_neg h2, rcAt_none (.inr (by omega))]

end Go.Proofs.YtjjkppknojecjaaGreat

namespace Go.Proofs.YtjjkppknojecjaaGreat
open Go.RowKit
set_option linter.unusedVariables false
set_option maxRecDepth 100000

theorem nm1_at {t : ByteArray} (h : t.data.toList.all nm1 = true) {k : Nat} (hk : k < t.size) : nm1 t[k] = true := by
  have e : t.data.toList[k]'(by simpa using hk) = t[k] := by have := snm_get hk; rw [List.getElem?_eq_getElem (by simpa using hk)] at this; exact Option.some.inj this
  rw [← e]
  exact List.all_eq_true.1 h _ (List.getElem_mem _)

set_option maxHeartbeats 1600000 in
theorem packLetters_any (t : ByteArray) (w : World) (hn : snmB t = true) :
    Calls Tryz.prog 98 #[.string t] w fun e w' => e = .returned (.int .i64 (nmN t)) ∧ Below w.heap.size w w' := by
  obtain ⟨hal, h1, h6⟩ := snm_parts hn
  have HAL := hide hal
  clear hn hal
  have hcv := fun (W : World) => Lib.run_convert_string_bytes (P := Tryz.prog) W 9 133 5 t Tryz.underlying9 Tryz.underlying133 Tryz.underlying5
  have HB := hide (below_bytes w 5 t)
  have HCL := hide (Lib.bytesWorld_cell w 5 t)
  go_enter Tryz.func98, Tryz.ntmps98
  go_wp2
  revert HB HCL
  generalize Lib.bytesWorld w 5 t = w1
  generalize grownCap w t.size 0 5 = gc
  intro HB HCL
  clear hcv
  go_loop [3, 9] (fun n i => ∃ k : Nat, k ≤ t.size ∧ i = .int .i64 k ∧ n = .int .i64 (nmK t k)) (fun _ i => t.size - (intOf i).toNat)
  case atStart => exact ⟨0, Nat.zero_le _, rfl, rfl⟩
  case round =>
    obtain ⟨k, hk, rfl, rfl⟩ := hrel
    by_cases hlt : k < t.size
    · have hlti : (k : Int) < (t.size : Int) := by omega
      have hck := unhide HCL k hlt
      have eck : (t.data.toList.getD k 0) = t[k] := by simp [List.getD, snm_get hlt]
      rw [eck] at hck
      clear eck
      have hnm := nm1_at (unhide HAL) hlt
      simp only [nm1, Bool.and_eq_true, decide_eq_true_eq] at hnm
      have HS : Hid (nmK t (k + 1) = nmK t k * 27 + ((t[k].toNat : Int) - 96)) := hide (by
        rw [nmK_succ hlt]
        have e : t.data.toList[k]'(by simpa using hlt) = t[k] := by have := snm_get hlt; rw [List.getElem?_eq_getElem (by simpa using hlt)] at this; exact Option.some.inj this
        rw [e]
        unfold ch1
        omega)
      obtain ⟨b0, b1⟩ := nmK_le t k hk
      obtain ⟨d0, d1⟩ := bd27_le k (by omega)
      obtain ⟨c0, c1⟩ := hnm
      have hu : IntKind.u8.wrap ((t[k].toNat : Int) - 96) = ((t[k].toNat : Int) - 96) := by simp [IntKind.wrap, IntKind.bits, IntKind.signed]; omega
      generalize nmK t k = X at *
      generalize hD : ((t[k].toNat : Int) - 96) = D at *
      have w1 : IntKind.i64.wrap (X * 27) = X * 27 := by rw [IntKind.wrap_i64]; omega
      have w2 : IntKind.i64.wrap D = D := by rw [IntKind.wrap_i64]; omega
      have w3 : IntKind.i64.wrap (X * 27 + D) = X * 27 + D := by rw [IntKind.wrap_i64]; omega
      have HD := hide hD
      rw [← hD] at hu w2 w3
      go_wp2
      go_round
      case rel => exact ⟨k + 1, by omega, by go_num, by rw [unhide HS]⟩
      case measure => simp [intOf]; omega
    · obtain rfl : k = t.size := by omega
      have HF := hide (nmK_all t)
      go_wp2
      go_ret
      exact ⟨ret_int (unhide HF), unhide HB⟩

end Go.Proofs.YtjjkppknojecjaaGreat

namespace Go.Proofs.YtjjkppknojecjaaGreat
open Go.RowKit
set_option linter.unusedVariables false
set_option maxRecDepth 100000

set_option maxHeartbeats 1600000 in
theorem packNames_any (so : Option Addr) (sc : Nat) (m : Img) (w : World) (hR : ImR m) (hc : Sns w so m.snaps) :
    Calls Tryz.prog 75 #[.slice so m.snaps.length sc] w fun e w' => ∃ qo qa, e = .returned (.slice qo (supL m).length qa) ∧ Is w' qo (supL m) ∧ Below w.heap.size w w' := by
  have HC := hide hc
  have HNS : Hid (∀ k (h : k < m.snaps.length), snmB m.snaps[k].name = true) := hide (fun k h => (hR.snaps _ (List.getElem_mem h)).1)
  have hs3 := hR.few
  have HSL : Hid ((supL m).length = m.snaps.length + 1) := hide (by simp [supL])
  clear hc hR
  obtain ⟨j0, hj, hy0, hy1, hy2⟩ := info_parts infoM
  go_enter Tryz.func75, Tryz.ntmps75
  go_upto_region 1 with fail
  have H0 : Hid (OwnR (w.alloc (.cells #[.int .i64 (m.snaps.length : Int)] 3)) w.heap.size 3 1 (.slice (some ⟨w.heap.size, 0, none⟩) 1 1) 1 (intV ((supL m).take 1)) ∧ Below w.heap.size w (w.alloc (.cells #[.int .i64 (m.snaps.length : Int)] 3))) := hide
    ⟨.inr ⟨by omega, by have := World.ownsRow_lit (base := w.heap.size) (e := 3) (size := 1) w #[.int .i64 (m.snaps.length : Int)] 1 (Nat.le_refl _) (by unfold maxLen; omega) rfl; simpa [supL, intV] using this⟩, Joins.below_alloc1 _ _⟩
  go_wp2
  go_loopw [3, 11] (fun o i wr => ∃ (k : Nat) (qo : Option Addr) (qa : Nat), k ≤ m.snaps.length ∧ i = .int .i64 k ∧ o = .slice qo (k + 1) qa ∧ Hid (OwnR wr w.heap.size 3 1 (.slice qo (k + 1) qa) (k + 1) (intV ((supL m).take (k + 1))) ∧ Below w.heap.size w wr)) (fun _ i _ => m.snaps.length - (intOf i).toNat)
  case atStart => exact ⟨0, _, _, Nat.zero_le _, rfl, rfl, H0⟩
  case round =>
    clear H0
    obtain ⟨k, qo, qa, hk, rfl, rfl, HO⟩ := hrel
    by_cases hlt : k < m.snaps.length
    · obtain ⟨b, off, tq, tc, eb, hn0, ht0, _, _, _⟩ := ((unhide HC).below (unhide HO).2) k hlt
      have hlti : (k : Int) < (m.snaps.length : Int) := by omega
      have HST : Hid (intV ((supL m).take (k + 1 + 1)) = intV ((supL m).take (k + 1)) ++ [.int .i64 (nmN m.snaps[k].name)]) := hide (by rw [supL_take hlt]; simp [intV])
      have HX := hide (VarN.new wr m.snaps[k].name (.slice tq m.snaps[k].table.length tc))
      have HBX := hide (Joins.below_alloc1 wr (.cells #[.string m.snaps[k].name, .slice tq m.snaps[k].table.length tc] 124))
      go_upto_region 5 with fail
      revert HX HBX
      generalize (wr.alloc _) = w2
      intro HX HBX
      obtain ⟨x0, x1⟩ := (unhide HX).cells
      have HO2 := hide ((unhide HO).1.below (unhide HBX))
      have HB2 := hide (fr (unhide HO).2 (unhide HBX))
      clear HX HBX hn0 ht0 eb HO
      go_wp2_with fail
      refine (packLetters_any m.snaps[k].name _ (unhide HNS k hlt)).mono ?_
      rintro e w3 ⟨rfl, hb3⟩
      generalize nmN m.snaps[k].name = NN at *
      have HO3 := hide ((unhide HO2).below hb3)
      have HB3 := hide (fr (unhide HB2) hb3)
      clear hb3 HO2 HB2 x0 x1
      have HOA := hide ((unhide HO3).below (Joins.below_alloc1 _ (.cells #[.int .i64 NN] 3)))
      have HBA := hide (fr (unhide HB3) (Joins.below_alloc1 _ (.cells #[.int .i64 NN] 3)))
      have HSZ := hide (unhide HB3).size
      go_wp2_with (at_builtin; refine wpList_append_one rfl _ _ 30 rfl w.heap.size 3 j0 (.int .i64 0) 1 8 Tryz.underlying30 hj hy0 hy1 hy2 rfl (by omega) qo (k + 1) qa (intV ((supL m).take (k + 1))) rfl (unhide HOA) (by have := unhide HSZ; simp; omega) ⟨w3.heap.size, 0, none⟩ _ [.int .i64 NN] rfl rfl (byte_news w3 _ _) (int_one _) (by unfold maxLen; omega) (by omega) ?_; intro g2 cap2 wA hoA hkA; have HSF := hide (And.intro hoA (keep_below (unhide HBA) (unhide HOA) (Nat.le_refl _) hkA)); clear hoA hkA)
      go_roundw
      case rel => exact ⟨k + 1, some ⟨g2, 0, none⟩, cap2, by omega, by go_num, rfl, hide ⟨.inr ⟨by omega, by rw [unhide HST]; exact (unhide HSF).1⟩, (unhide HSF).2⟩⟩
      case measure => simp [intOf]; omega
    · obtain rfl : k = m.snaps.length := by omega
      have HIS : Hid (Is wr qo (supL m)) := hide (by
        have h := (unhide HO).1
        rw [List.take_of_length_le (by rw [unhide HSL]; exact Nat.le_refl _), ← unhide HSL] at h
        exact ownRN h)
      go_wp2
      go_ret
      exact ⟨qo, qa, by rw [unhide HSL]; rfl, unhide HIS, (unhide HO).2⟩

theorem eqN_at {xs ys : List Int} {k : Nat} (h1 : k < xs.length) (h2 : k < ys.length) (h : xs[k] ≠ ys[k]) : eqNB xs ys = false := by
  simp only [eqNB, decide_eq_false_iff_not]
  intro e; subst e; exact h rfl
theorem eqN_len {xs ys : List Int} (h : xs.length ≠ ys.length) : eqNB xs ys = false := by
  simp only [eqNB, decide_eq_false_iff_not]
  intro e; subst e; exact h rfl
theorem eqN_all {xs ys : List Int} (hl : xs.length = ys.length) (h : ∀ j (h1 : j < xs.length) (h2 : j < ys.length), xs[j] = ys[j]) : eqNB xs ys = true := by
  simp only [eqNB, decide_eq_true_eq]
  exact List.ext_getElem hl (fun j h1 h2 => h j h1 h2)

set_option maxHeartbeats 1600000 in
theorem slicesEqual_any (ao bo : Option Addr) (ca cb : Nat) (xs ys : List Int) (w : World) (h1 : xs.length ≤ maxLen) (h2 : ys.length ≤ maxLen) (hx : Is w ao xs) (hy : Is w bo ys) :
    Calls Tryz.prog 96 #[.slice ao xs.length ca, .slice bo ys.length cb] w fun e w' => e = .returned (.bool (eqNB xs ys)) ∧ Below w.heap.size w w' := by
  have HX := hide hx
  have HY := hide hy
  clear hx hy
  unfold maxLen at h1 h2
  by_cases hl : xs.length = ys.length
  · have HL := hide hl
    have hlb : ((xs.length : Int) != (ys.length : Int)) = false := by simp [hl]
    clear hl
    go_enter Tryz.func96, Tryz.ntmps96
    go_wp2
    go_loopw [13] (fun i wr => ∃ k : Nat, k ≤ xs.length ∧ i = .int .i64 k ∧ Hid (∀ j (h1 : j < xs.length) (h2 : j < ys.length), j < k → xs[j] = ys[j]) ∧ Hid (Below w.heap.size w wr)) (fun i _ => xs.length - (intOf i).toNat)
    case atStart => exact ⟨0, Nat.zero_le _, rfl, hide (fun j _ _ h => by omega), hide (Below.refl _ _)⟩
    case round =>
      obtain ⟨k, hk, rfl, HA, HB⟩ := hrel
      by_cases hlt : k < xs.length
      · have hly : k < ys.length := by have := unhide HL; omega
        obtain ⟨b, off, rfl, hcx⟩ := ((unhide HX).below (unhide HB)) k hlt
        obtain ⟨b', off', rfl, hcy⟩ := ((unhide HY).below (unhide HB)) k hly
        have hi1 : (k : Int) < (xs.length : Int) := by omega
        have hi2 : (k : Int) < (ys.length : Int) := by omega
        have hi0 : (0 : Int) ≤ (k : Int) := by omega
        by_cases he : xs[k] = ys[k]
        · have HN : Hid (∀ j (h1 : j < xs.length) (h2 : j < ys.length), j < k + 1 → xs[j] = ys[j]) := hide (fun j h1 h2 hj => by
            by_cases e : j = k
            · subst e; exact he
            · exact unhide HA j h1 h2 (by omega))
          rw [← he] at hcy
          generalize xs[k] = X at *
          have hbe : (X != X) = false := by simp
          go_wp2
          go_region
          all_goals
            go_wp2
            go_roundw
            case rel => exact ⟨k + 1, by omega, by go_num, HN, hide (by exact (unhide HB).drew)⟩
            case measure => simp [intOf]; omega
        · have HF := hide (eqN_at hlt hly he)
          have hbe : (xs[k] != ys[k]) = true := by simp [he]
          generalize xs[k] = X at *
          generalize ys[k] = Y at *
          go_wp2
          go_region
          all_goals
            go_wp2
            go_ret
            exact ⟨ret_bool (unhide HF).symm, (by exact (unhide HB).drew)⟩
      · have HF := hide (eqN_all (unhide HL) (fun j h1 h2 => unhide HA j h1 h2 (by omega)))
        go_wp2
        go_ret
        exact ⟨ret_bool (unhide HF).symm, unhide HB⟩
  · have HF := hide (eqN_len hl)
    have hlb : ((xs.length : Int) != (ys.length : Int)) = true := by simp; omega
    clear hl
    go_enter Tryz.func96, Tryz.ntmps96
    go_wp2
    go_ret
    exact ⟨ret_bool (unhide HF).symm, Below.refl _ _⟩

def VarRk (w : World) (x : Nat) (r : Rc) (ao : Option Addr) (cap : Nat) : Prop := w.heap[x]? = some (.cells #[.int .i64 r.1, .slice ao r.2.length cap] 104 (0, 0))
theorem VarRk.cells {w : World} {x : Nat} {r : Rc} {ao : Option Addr} {cap : Nat} (k : VarRk w x r ao cap) : w.cell? ⟨x, 0, none⟩ = some (.int .i64 r.1) ∧ w.cell? ⟨x, 1, none⟩ = some (.slice ao r.2.length cap) := ⟨by rw [Joins.cell_of_block k]; rfl, by rw [Joins.cell_of_block k]; rfl⟩
theorem VarRk.new (w : World) (r : Rc) (ao : Option Addr) (cap : Nat) : VarRk (w.alloc (.cells #[.int .i64 r.1, .slice ao r.2.length cap] 104)) w.heap.size r ao cap := heap_alloc_new w _
theorem VarRk.below {w w' : World} {x : Nat} {r : Rc} {ao : Option Addr} {cap : Nat} (h : VarRk w x r ao cap) (hb : Below w.heap.size w w') : VarRk w' x r ao cap := block_of_below h hb
def rcEq (r s : Rc) : Bool := decide (r.1 = s.1) && eqNB r.2 s.2
theorem rcEq_iff {r s : Rc} : rcEq r s = true ↔ r = s := by
  simp only [rcEq, eqNB, Bool.and_eq_true, decide_eq_true_eq]
  exact ⟨fun h => Prod.ext h.1 h.2, fun h => by rw [h]; exact ⟨rfl, rfl⟩⟩

set_option maxHeartbeats 1600000 in
theorem like_any (r s : Rc) (ao bo : Option Addr) (ca cb : Nat) (w : World) (h1 : r.2.length ≤ maxLen) (h2 : s.2.length ≤ maxLen) (hx : Is w ao r.2) (hy : Is w bo s.2) :
    Calls Tryz.prog 73 #[rcV r ao ca, rcV s bo cb] w fun e w' => e = .returned (.bool (rcEq r s)) ∧ Below w.heap.size w w' := by
  have HV1 := hide ((VarRk.new w r ao ca).below (Joins.below_alloc1 _ (.cells #[.int .i64 s.1, .slice bo s.2.length cb] 104)))
  have HV2 : Hid (VarRk ((w.alloc (.cells #[.int .i64 r.1, .slice ao r.2.length ca] 104)).alloc (.cells #[.int .i64 s.1, .slice bo s.2.length cb] 104)) (w.heap.size + 1) s bo cb) := hide (by
    have := VarRk.new (w.alloc (.cells #[.int .i64 r.1, .slice ao r.2.length ca] 104)) s bo cb
    rwa [World.size_alloc] at this)
  have HB := hide (Joins.below_alloc2 w (.cells #[.int .i64 r.1, .slice ao r.2.length ca] 104) (.cells #[.int .i64 s.1, .slice bo s.2.length cb] 104))
  have H1 := hide h1
  have H2 := hide h2
  have HX := hide (hx.below (unhide HB))
  have HY := hide (hy.below (unhide HB))
  clear hx hy h1 h2
  unfold rcV
  go_enter Tryz.func73, Tryz.ntmps73
  go_upto_region 1 with fail
  revert HV1 HV2 HB HX HY
  generalize ((w.alloc _).alloc _) = W
  intro HV1 HV2 HB HX HY
  obtain ⟨c0, c1⟩ := (unhide HV1).cells
  obtain ⟨d0, d1⟩ := (unhide HV2).cells
  by_cases he : r.1 = s.1
  · have HF : Hid (rcEq r s = eqNB r.2 s.2) := hide (by simp [rcEq, he])
    have hbe : (r.1 == s.1) = true := by simp [he]
    go_wp2_with fail
    refine (slicesEqual_any ao bo ca cb r.2 s.2 _ (unhide H1) (unhide H2) (unhide HX) (unhide HY)).mono ?_
    rintro e w1 ⟨rfl, hb⟩
    have HB1 := hide (fr (unhide HB) hb)
    clear hb
    go_wp2
    go_ret
    exact ⟨ret_bool (unhide HF).symm, unhide HB1⟩
  · have HF : Hid (rcEq r s = false) := hide (by simp [rcEq, he])
    have hbe : (r.1 == s.1) = false := by simp [he]
    go_wp2
    go_ret
    exact ⟨ret_bool (unhide HF).symm, unhide HB⟩

def rcT (r : Rc) : ByteArray := sealT r.1 r.2

set_option maxHeartbeats 1600000 in
theorem textR_any (r : Rc) (ao : Option Addr) (ca : Nat) (w : World) (h1 : r.2.length ≤ 1048576) (hx : Is w ao r.2) :
    Calls Tryz.prog 74 #[rcV r ao ca] w fun e w' => e = .returned (.string (rcT r)) ∧ Below w.heap.size w w' := by
  have HV := hide (VarRk.new w r ao ca)
  have HB := hide (Joins.below_alloc1 w (.cells #[.int .i64 r.1, .slice ao r.2.length ca] 104))
  have HX := hide (hx.below (unhide HB))
  have H1 := hide h1
  have HT : Hid (rcT r = sealT r.1 r.2) := hide rfl
  clear hx h1
  unfold rcV
  go_enter Tryz.func74, Tryz.ntmps74
  go_upto_region 1 with fail
  revert HV HB HX
  generalize (w.alloc _) = W
  intro HV HB HX
  obtain ⟨c0, c1⟩ := (unhide HV).cells
  go_wp2_with fail
  refine (sealRecord_impl r.1 ao ca r.2 _ (unhide H1) (unhide HX)).mono ?_
  rintro e w1 ⟨rfl, hb⟩
  have HB1 := hide (fr (unhide HB) hb)
  clear hb
  go_wp2
  go_ret
  exact ⟨rfl, unhide HB1⟩

end Go.Proofs.YtjjkppknojecjaaGreat

namespace Go.Proofs.YtjjkppknojecjaaGreat
open Go.RowKit Go.Maps
set_option linter.unusedVariables false
set_option maxRecDepth 100000

theorem belowMap {W w w' : World} {B : Nat} (hb : Below W.heap.size W w) (hB : W.heap.size ≤ B) (hg : w.grownBy w' (some B)) : Below W.heap.size W w' :=
  ⟨hg.os.trans hb.os, hg.tape.trans hb.tape, hg.output.trans hb.output, Nat.le_trans hb.size hg.size, fun k hk => (hg.block k (Nat.lt_of_lt_of_le hk hb.size) (fun e => by have := Option.some.inj e; omega)).trans (hb.block k hk)⟩
def rc2 (m : Img) : Nat → Option Rc := setF (setF (fun _ => none) 9 (1, supL m)) 10 (2, ctNs m.refs)
theorem rc2_swap (m : Img) : setF (setF (fun _ => none) 10 (2, ctNs m.refs)) 9 (1, supL m) = rc2 m := by
  funext p
  simp only [rc2, setF]
  by_cases h1 : p = 9
  · subst h1; simp
  · by_cases h2 : p = 10
    · subst h2; simp
    · simp [h1, h2]
theorem mp_swap {w : World} {B n : Nat} {D : DataW Value} {m : Img} (h : MpR w B n D (setF (setF (fun _ => none) 10 (2, ctNs m.refs)) 9 (1, supL m))) : MpR w B n D (rc2 m) := rc2_swap m ▸ h
theorem exec_load {P : Program} {ρ : Operand → Value} {o : Oper} {ty : TypeId} {x : Operand} {p v : Value} {W : World} (ho : o.op = .load ty x) (hx : ρ x = p) (h : (Instr.loadAt ty p).run P W = .ok v W) : (execOp ρ o).run P W = .ok (.value v) W := by
  simp [execOp, ho, hx, h, Result.andThen]
theorem wpList_rec {w : World} {ops : Array Oper} {rest : List Oper} {o : Oper} {a : Act} {Q : Exit → Act → World → Prop} (hg : o.guard = none) (m x v : Operand) (hop : o.op = Op.mapUpdate 73 m x v)
    {B n p : Nat} {D : DataW Value} {f : Nat → Option Rc} {y : Int} (r : Rc) (ao : Option Addr) (cap : Nat) (hm : a.eval m = .map (some B)) (h : MpR w B n D f) (hn : n < 1000000) (hx : a.eval x = .int .i64 y) (hy : y = (p : Int)) (hp : p < 64) (hv : a.eval v = rcV r ao cap) (hi : Is w ao r.2)
    (hK : ∀ w' D', MpR w' B (n + 1) D' (setF f p r) → w.grownBy w' (some B) → wpList Tryz.prog ops Q rest (a.put o.dst undef) w') : wpList Tryz.prog ops Q (o :: rest) a w := by
  refine wpList_plain hg fun K' hK' => ?_
  subst hy
  obtain ⟨w', D', hrun, r1, r2⟩ := h.update hn hp r ao cap hi
  unfold Oper.wp
  simp [execOp, hop, hm, hx, hv, hrun, Result.andThen]
  exact hK' _ _ (hK w' D' r1 r2)
theorem rowT_turned {w w' : World} {B n : Nat} {D : DataW Value} (h : w.ownsMap Tryz.prog 3 recR B n D) (hg : w.grownBy w' (some B)) {qo : Option Addr} {ts : List (List Int)} (ht : RowT w qo ts) : RowT w' qo ts := fun j hj => by
  obtain ⟨b, off, tq, tc, e, h1, h2⟩ := ht j hj
  exact ⟨b, off, tq, tc, e, cell_turned hg h1 (own_noCell h h1), is_turned h hg h2⟩
set_option maxHeartbeats 6400000 in
theorem recordsOf_any (a : Im4) (m : Img) (w : World) (hR : ImR m) (hc : ImS w a m) :
    Calls Tryz.prog 44 #[imV a m] w fun e w' => ∃ B n D, e = .returned (.map (some B)) ∧ n ≤ 1000 ∧ w.heap.size ≤ B ∧ MpR w' B n D (rcAt m) ∧ Below w.heap.size w w' := by
  have HA := hide (Joins.below_alloc1 w (.cells #[.slice a.ro m.refs.length a.rc, .slice a.tq m.table.length a.tc, .slice a.so m.snaps.length a.sc, .slice a.dq m.data.length a.dc] 68))
  have HV := hide (VarM.new w 68 (.slice a.ro m.refs.length a.rc) (.slice a.tq m.table.length a.tc) (.slice a.so m.snaps.length a.sc) (.slice a.dq m.data.length a.dc))
  have HC := hide (hc.below (unhide HA))
  have HR := hide hR
  have hs3 := hR.few
  have HRL := hide hR.rl
  have HDL := hide hR.len
  obtain ⟨b0, off0, ero, hr0⟩ := (unhide HC).r.range (by rw [hR.rl]; omega)
  have HR0 := hide hr0
  have HRO := hide ero
  have har : ∀ W : World, (Instr.arrayAt 109 (.slice a.ro m.refs.length a.rc)).run Tryz.prog W = .ok (.pointer (some ⟨b0, off0, none⟩)) W := fun W => by rw [ero]; exact run_arrayAt (w := W) 109 3 24 _ _ _ und24 (by rw [hR.rl]; exact Nat.le_refl _)
  have HAR := hide har
  clear hc hR hr0 har ero
  have hmm := @run_makeMap Tryz.prog
  go_enter Tryz.func44, Tryz.ntmps44
  go_upto_region 1 with fail
  revert HA HV HC HR0
  generalize (w.alloc _) = W0
  intro HA HV HC HR0
  have HBD : Hid (Below W0.heap.size W0 W0.drew) := hide (Below.refl _ _).drew
  go_cut [3] from 8 to 20 (fun v wx => ∃ (B : Nat) (D : DataW Value), v = .map (some B) ∧ Hid (MpR wx B 2 D (rc2 m)) ∧ Hid (W0.heap.size ≤ B) ∧ Hid (Below W0.heap.size W0 wx))
  case first =>
    have hS0 := unhide HBD
    have hld : ∀ W : World, Below W0.heap.size W0 W → (Instr.loadAt 109 (.pointer (some ⟨b0, off0, none⟩))).run Tryz.prog W = .ok (ctV m.refs) W := fun W hW => by
      have hr : W.rangeAt b0 off0 (intV m.refs) := fun j v hv => (hW.cell (p := ⟨b0, off0 + j, none⟩) (World.block_lt_of_cell? _ _ (unhide HR0 j v hv))).trans (unhide HR0 j v hv)
      exact run_loadAt_mid W b0 off0 109 (intV m.refs) _ hr und24 rfl (sizeL (unhide HRL))
    have har := unhide HAR
    refine wp_region_tree (fun w' => Below W0.heap.size W0 w') [0, 1, 2, 3, 4, 5, 6, 7, 8, 9, 10, 11, 12, 13, 14] (by kernel_rfl) ?_
    refine tree_seg (n := 9) [(1, 0), (2, 0), (6, 0), (7, 0), (8, 0), (9, 0)] (by kernel_rfl) rfl (by kernel_rfl) ?_
    refine ord_read (.pointer (some ⟨w.heap.size, 2, none⟩)) rfl rfl hS0 (fun W hW => by go_simp) ?_
    refine ord_read (.slice a.so m.snaps.length a.sc) rfl rfl hS0 (fun W hW => by obtain ⟨k0, k1, k2, k3⟩ := ((unhide HV).below hW).cells; go_simp) ?_
    refine ord_read (.pointer (some ⟨w.heap.size, 0, none⟩)) rfl rfl hS0 (fun W hW => by go_simp) ?_
    refine ord_read (.slice a.ro m.refs.length a.rc) rfl rfl hS0 (fun W hW => by obtain ⟨k0, k1, k2, k3⟩ := ((unhide HV).below hW).cells; go_simp) ?_
    refine ord_read (.pointer (some ⟨b0, off0, none⟩)) rfl rfl hS0 (fun W hW => by have := har W; go_simp) ?_
    refine ord_read (ctV m.refs) rfl rfl hS0 (fun W hW => exec_load rfl rfl (hld W hW)) ?_
    refine ord_end ?_
    clear hS0 hld har
    revert HBD
    generalize W0.drew = WD
    intro HBD
    refine tree_two (fuel := 8) (i := 0) (j := 3) rfl rfl rfl rfl (by kernel_rfl) ?ta1 ?tb2
    case ta1 =>
      intro K hK
      unfold Oper.wp
      go_simp
      have HB3 := hide (fr (unhide HBD) (Joins.below_alloc1 (WD) (.map #[] 0)))
      have HM3 := hide (MpR.made (WD))
      have HG3 := hide (unhide HBD).size
      refine hK _ _ (fun _ => unhide HB3) ?_
      clear hK K
      revert HB3
      revert HM3
      revert HG3
      generalize (WD).heap.size = MB
      generalize ((WD).alloc _) = w3
      intro HG3
      intro HM3
      intro HB3
      refine tree_seg (n := 6) [(3, 2), (4, 0)] (by kernel_rfl) rfl (by kernel_rfl) ?_
      refine ord_held rfl rfl ?_
      intro K hK
      unfold Oper.wp
      go_simp
      refine (packNames_any a.so a.sc m _ (unhide HR) ((unhide HC).s.below (unhide HB3))).mono ?_
      rintro e w4 ⟨po, pa, rfl, hi, hb⟩
      have HB4 := hide (fr (unhide HB3) hb)
      have HM4 := hide ((unhide HM3).below hb)
      have HP4 := hide hi
      clear hi hb
      refine hK _ _ (unhide HB4) ?_
      clear hK K
      refine ord_read (rcV (1, supL m) po pa) rfl rfl (unhide HB4) (fun W hW => by go_simp; first | done | rfl) ?_
      refine ord_end ?_
      refine tree_two (fuel := 5) (i := 5) (j := 10) rfl rfl rfl rfl (by kernel_rfl) ?ta5 ?tb6
      case ta5 =>
        intro K hK
        unfold Oper.wp
        obtain ⟨w7, D7, hrun, hm2, hg2⟩ := (unhide HM4).update (by omega) (p := 9) (by omega) (1, supL m) po pa (unhide HP4)
        have hrun2 : (Instr.mapUpdate 73 (.map (some MB)) (.int .i64 9) (rcV (1, supL m) po pa)).run Tryz.prog w4 = .ok () w7 := hrun
        have HB7 := hide (belowMap (unhide HB4) (unhide HG3) hg2)
        have HP7 := hide (is_turned (unhide HM4).own hg2 (unhide HP4))
        have HM7 := hide hm2
        clear hm2 hg2 hrun
        go_simp
        refine hK _ _ (fun _ => unhide HB7) ?_
        clear hrun2
        clear hK K
        refine tree_seg (n := 0) [(10, 2), (11, 0), (12, 2), (13, 0), (14, 0)] (by kernel_rfl) rfl (by kernel_rfl) ?_
        refine ord_held rfl rfl ?_
        intro K hK
        unfold Oper.wp
        go_simp
        refine (numbersC_any m.refs _ (unhide HR).refs).mono ?_
        rintro e w8 ⟨qg, rfl, hge, hq, hb⟩
        have HB8 := hide (fr (unhide HB7) hb)
        have HM8 := hide ((unhide HM7).below hb)
        have HP8 := hide ((unhide HP7).below hb)
        have HQ8 := hide (Is.of_block hq)
        clear hq hb hge
        refine hK _ _ (unhide HB8) ?_
        clear hK K
        refine ord_read (rcV (2, ctNs m.refs) (some ⟨qg, 0, none⟩) 4) rfl rfl (unhide HB8) (fun W hW => by go_simp; first | done | rfl) ?_
        refine ord_held rfl rfl ?_
        intro K hK
        unfold Oper.wp
        obtain ⟨w9, D9, hrun, hm2, hg2⟩ := (unhide HM8).update (by omega) (p := 10) (by omega) (2, ctNs m.refs) (some ⟨qg, 0, none⟩) 4 (unhide HQ8)
        have hrun2 : (Instr.mapUpdate 73 (.map (some MB)) (.int .i64 10) (rcV (2, ctNs m.refs) (some ⟨qg, 0, none⟩) 4)).run Tryz.prog w8 = .ok () w9 := hrun
        have HB9 := hide (belowMap (unhide HB8) (unhide HG3) hg2)
        have HP9 := hide (is_turned (unhide HM8).own hg2 (unhide HP8))
        have HQ9 := hide (is_turned (unhide HM8).own hg2 (unhide HQ8))
        have HM9 := hide hm2
        clear hm2 hg2 hrun
        go_simp
        refine hK _ _ (unhide HB9) ?_
        clear hrun2
        clear hK K
        refine ord_read (.map (some MB)) rfl rfl (unhide HB9) (fun W hW => by go_simp; first | done | rfl) ?_
        refine ord_read (.map (some MB)) rfl rfl (unhide HB9) (fun W hW => by go_simp; first | done | rfl) ?_
        refine ord_end ?_
        refine tree_done (by kernel_rfl) ?_
        go_wp2_with fail
        go_meet
        exact ⟨MB, _, rfl, hide (by first | exact unhide HM9 | exact mp_swap (unhide HM9)), HG3, HB9⟩
      case tb6 =>
        intro K hK
        unfold Oper.wp
        go_simp
        refine (numbersC_any m.refs _ (unhide HR).refs).mono ?_
        rintro e w10 ⟨qg, rfl, hge, hq, hb⟩
        have HB10 := hide (fr (unhide HB4) hb)
        have HM10 := hide ((unhide HM4).below hb)
        have HP10 := hide ((unhide HP4).below hb)
        have HQ10 := hide (Is.of_block hq)
        clear hq hb hge
        refine hK _ _ (fun _ => unhide HB10) ?_
        clear hK K
        refine tree_seg (n := 4) [(11, 0)] (by kernel_rfl) rfl (by kernel_rfl) ?_
        refine ord_read (rcV (2, ctNs m.refs) (some ⟨qg, 0, none⟩) 4) rfl rfl (unhide HB10) (fun W hW => by go_simp; first | done | rfl) ?_
        refine ord_end ?_
        refine tree_two (fuel := 3) (i := 5) (j := 12) rfl rfl rfl rfl (by kernel_rfl) ?ta11 ?tb12
        case ta11 =>
          intro K hK
          unfold Oper.wp
          obtain ⟨w13, D13, hrun, hm2, hg2⟩ := (unhide HM10).update (by omega) (p := 9) (by omega) (1, supL m) po pa (unhide HP10)
          have hrun2 : (Instr.mapUpdate 73 (.map (some MB)) (.int .i64 9) (rcV (1, supL m) po pa)).run Tryz.prog w10 = .ok () w13 := hrun
          have HB13 := hide (belowMap (unhide HB10) (unhide HG3) hg2)
          have HP13 := hide (is_turned (unhide HM10).own hg2 (unhide HP10))
          have HQ13 := hide (is_turned (unhide HM10).own hg2 (unhide HQ10))
          have HM13 := hide hm2
          clear hm2 hg2 hrun
          go_simp
          refine hK _ _ (fun _ => unhide HB13) ?_
          clear hrun2
          clear hK K
          refine tree_seg (n := 0) [(12, 2), (13, 0), (14, 0)] (by kernel_rfl) rfl (by kernel_rfl) ?_
          refine ord_held rfl rfl ?_
          intro K hK
          unfold Oper.wp
          obtain ⟨w14, D14, hrun, hm2, hg2⟩ := (unhide HM13).update (by omega) (p := 10) (by omega) (2, ctNs m.refs) (some ⟨qg, 0, none⟩) 4 (unhide HQ13)
          have hrun2 : (Instr.mapUpdate 73 (.map (some MB)) (.int .i64 10) (rcV (2, ctNs m.refs) (some ⟨qg, 0, none⟩) 4)).run Tryz.prog w13 = .ok () w14 := hrun
          have HB14 := hide (belowMap (unhide HB13) (unhide HG3) hg2)
          have HP14 := hide (is_turned (unhide HM13).own hg2 (unhide HP13))
          have HQ14 := hide (is_turned (unhide HM13).own hg2 (unhide HQ13))
          have HM14 := hide hm2
          clear hm2 hg2 hrun
          go_simp
          refine hK _ _ (unhide HB14) ?_
          clear hrun2
          clear hK K
          refine ord_read (.map (some MB)) rfl rfl (unhide HB14) (fun W hW => by go_simp; first | done | rfl) ?_
          refine ord_read (.map (some MB)) rfl rfl (unhide HB14) (fun W hW => by go_simp; first | done | rfl) ?_
          refine ord_end ?_
          refine tree_done (by kernel_rfl) ?_
          go_wp2_with fail
          go_meet
          exact ⟨MB, _, rfl, hide (by first | exact unhide HM14 | exact mp_swap (unhide HM14)), HG3, HB14⟩
        case tb12 =>
          intro K hK
          unfold Oper.wp
          obtain ⟨w15, D15, hrun, hm2, hg2⟩ := (unhide HM10).update (by omega) (p := 10) (by omega) (2, ctNs m.refs) (some ⟨qg, 0, none⟩) 4 (unhide HQ10)
          have hrun2 : (Instr.mapUpdate 73 (.map (some MB)) (.int .i64 10) (rcV (2, ctNs m.refs) (some ⟨qg, 0, none⟩) 4)).run Tryz.prog w10 = .ok () w15 := hrun
          have HB15 := hide (belowMap (unhide HB10) (unhide HG3) hg2)
          have HP15 := hide (is_turned (unhide HM10).own hg2 (unhide HP10))
          have HQ15 := hide (is_turned (unhide HM10).own hg2 (unhide HQ10))
          have HM15 := hide hm2
          clear hm2 hg2 hrun
          go_simp
          refine hK _ _ (fun _ => unhide HB15) ?_
          clear hrun2
          clear hK K
          refine tree_seg (n := 0) [(5, 2), (13, 0), (14, 0)] (by kernel_rfl) rfl (by kernel_rfl) ?_
          refine ord_held rfl rfl ?_
          intro K hK
          unfold Oper.wp
          obtain ⟨w16, D16, hrun, hm2, hg2⟩ := (unhide HM15).update (by omega) (p := 9) (by omega) (1, supL m) po pa (unhide HP15)
          have hrun2 : (Instr.mapUpdate 73 (.map (some MB)) (.int .i64 9) (rcV (1, supL m) po pa)).run Tryz.prog w15 = .ok () w16 := hrun
          have HB16 := hide (belowMap (unhide HB15) (unhide HG3) hg2)
          have HP16 := hide (is_turned (unhide HM15).own hg2 (unhide HP15))
          have HQ16 := hide (is_turned (unhide HM15).own hg2 (unhide HQ15))
          have HM16 := hide hm2
          clear hm2 hg2 hrun
          go_simp
          refine hK _ _ (unhide HB16) ?_
          clear hrun2
          clear hK K
          refine ord_read (.map (some MB)) rfl rfl (unhide HB16) (fun W hW => by go_simp; first | done | rfl) ?_
          refine ord_read (.map (some MB)) rfl rfl (unhide HB16) (fun W hW => by go_simp; first | done | rfl) ?_
          refine ord_end ?_
          refine tree_done (by kernel_rfl) ?_
          go_wp2_with fail
          go_meet
          exact ⟨MB, _, rfl, hide (by first | exact unhide HM16 | exact mp_swap (unhide HM16)), HG3, HB16⟩
    case tb2 =>
      intro K hK
      unfold Oper.wp
      go_simp
      refine (packNames_any a.so a.sc m _ (unhide HR) ((unhide HC).s.below (unhide HBD))).mono ?_
      rintro e w17 ⟨po, pa, rfl, hi, hb⟩
      have HB17 := hide (fr (unhide HBD) hb)
      have HP17 := hide hi
      clear hi hb
      refine hK _ _ (fun _ => unhide HB17) ?_
      clear hK K
      refine tree_seg (n := 7) [(4, 0)] (by kernel_rfl) rfl (by kernel_rfl) ?_
      refine ord_read (rcV (1, supL m) po pa) rfl rfl (unhide HB17) (fun W hW => by go_simp; first | done | rfl) ?_
      refine ord_end ?_
      refine tree_two (fuel := 6) (i := 0) (j := 10) rfl rfl rfl rfl (by kernel_rfl) ?ta18 ?tb19
      case ta18 =>
        intro K hK
        unfold Oper.wp
        go_simp
        have HB20 := hide (fr (unhide HB17) (Joins.below_alloc1 (w17) (.map #[] 0)))
        have HP20 := hide ((unhide HP17).below (Joins.below_alloc1 (w17) (.map #[] 0)))
        have HM20 := hide (MpR.made (w17))
        have HG20 := hide (unhide HB17).size
        refine hK _ _ (fun _ => unhide HB20) ?_
        clear hK K
        revert HB20
        revert HM20
        revert HG20
        revert HP20
        generalize (w17).heap.size = MB
        generalize ((w17).alloc _) = w20
        intro HP20
        intro HG20
        intro HM20
        intro HB20
        refine tree_two (fuel := 5) (i := 5) (j := 10) rfl rfl rfl rfl (by kernel_rfl) ?ta21 ?tb22
        case ta21 =>
          intro K hK
          unfold Oper.wp
          obtain ⟨w23, D23, hrun, hm2, hg2⟩ := (unhide HM20).update (by omega) (p := 9) (by omega) (1, supL m) po pa (unhide HP20)
          have hrun2 : (Instr.mapUpdate 73 (.map (some MB)) (.int .i64 9) (rcV (1, supL m) po pa)).run Tryz.prog w20 = .ok () w23 := hrun
          have HB23 := hide (belowMap (unhide HB20) (unhide HG20) hg2)
          have HP23 := hide (is_turned (unhide HM20).own hg2 (unhide HP20))
          have HM23 := hide hm2
          clear hm2 hg2 hrun
          go_simp
          refine hK _ _ (fun _ => unhide HB23) ?_
          clear hrun2
          clear hK K
          refine tree_seg (n := 0) [(10, 2), (11, 0), (12, 2), (13, 0), (14, 0)] (by kernel_rfl) rfl (by kernel_rfl) ?_
          refine ord_held rfl rfl ?_
          intro K hK
          unfold Oper.wp
          go_simp
          refine (numbersC_any m.refs _ (unhide HR).refs).mono ?_
          rintro e w24 ⟨qg, rfl, hge, hq, hb⟩
          have HB24 := hide (fr (unhide HB23) hb)
          have HM24 := hide ((unhide HM23).below hb)
          have HP24 := hide ((unhide HP23).below hb)
          have HQ24 := hide (Is.of_block hq)
          clear hq hb hge
          refine hK _ _ (unhide HB24) ?_
          clear hK K
          refine ord_read (rcV (2, ctNs m.refs) (some ⟨qg, 0, none⟩) 4) rfl rfl (unhide HB24) (fun W hW => by go_simp; first | done | rfl) ?_
          refine ord_held rfl rfl ?_
          intro K hK
          unfold Oper.wp
          obtain ⟨w25, D25, hrun, hm2, hg2⟩ := (unhide HM24).update (by omega) (p := 10) (by omega) (2, ctNs m.refs) (some ⟨qg, 0, none⟩) 4 (unhide HQ24)
          have hrun2 : (Instr.mapUpdate 73 (.map (some MB)) (.int .i64 10) (rcV (2, ctNs m.refs) (some ⟨qg, 0, none⟩) 4)).run Tryz.prog w24 = .ok () w25 := hrun
          have HB25 := hide (belowMap (unhide HB24) (unhide HG20) hg2)
          have HP25 := hide (is_turned (unhide HM24).own hg2 (unhide HP24))
          have HQ25 := hide (is_turned (unhide HM24).own hg2 (unhide HQ24))
          have HM25 := hide hm2
          clear hm2 hg2 hrun
          go_simp
          refine hK _ _ (unhide HB25) ?_
          clear hrun2
          clear hK K
          refine ord_read (.map (some MB)) rfl rfl (unhide HB25) (fun W hW => by go_simp; first | done | rfl) ?_
          refine ord_read (.map (some MB)) rfl rfl (unhide HB25) (fun W hW => by go_simp; first | done | rfl) ?_
          refine ord_end ?_
          refine tree_done (by kernel_rfl) ?_
          go_wp2_with fail
          go_meet
          exact ⟨MB, _, rfl, hide (by first | exact unhide HM25 | exact mp_swap (unhide HM25)), HG20, HB25⟩
        case tb22 =>
          intro K hK
          unfold Oper.wp
          go_simp
          refine (numbersC_any m.refs _ (unhide HR).refs).mono ?_
          rintro e w26 ⟨qg, rfl, hge, hq, hb⟩
          have HB26 := hide (fr (unhide HB20) hb)
          have HM26 := hide ((unhide HM20).below hb)
          have HP26 := hide ((unhide HP20).below hb)
          have HQ26 := hide (Is.of_block hq)
          clear hq hb hge
          refine hK _ _ (fun _ => unhide HB26) ?_
          clear hK K
          refine tree_seg (n := 4) [(11, 0)] (by kernel_rfl) rfl (by kernel_rfl) ?_
          refine ord_read (rcV (2, ctNs m.refs) (some ⟨qg, 0, none⟩) 4) rfl rfl (unhide HB26) (fun W hW => by go_simp; first | done | rfl) ?_
          refine ord_end ?_
          refine tree_two (fuel := 3) (i := 5) (j := 12) rfl rfl rfl rfl (by kernel_rfl) ?ta27 ?tb28
          case ta27 =>
            intro K hK
            unfold Oper.wp
            obtain ⟨w29, D29, hrun, hm2, hg2⟩ := (unhide HM26).update (by omega) (p := 9) (by omega) (1, supL m) po pa (unhide HP26)
            have hrun2 : (Instr.mapUpdate 73 (.map (some MB)) (.int .i64 9) (rcV (1, supL m) po pa)).run Tryz.prog w26 = .ok () w29 := hrun
            have HB29 := hide (belowMap (unhide HB26) (unhide HG20) hg2)
            have HP29 := hide (is_turned (unhide HM26).own hg2 (unhide HP26))
            have HQ29 := hide (is_turned (unhide HM26).own hg2 (unhide HQ26))
            have HM29 := hide hm2
            clear hm2 hg2 hrun
            go_simp
            refine hK _ _ (fun _ => unhide HB29) ?_
            clear hrun2
            clear hK K
            refine tree_seg (n := 0) [(12, 2), (13, 0), (14, 0)] (by kernel_rfl) rfl (by kernel_rfl) ?_
            refine ord_held rfl rfl ?_
            intro K hK
            unfold Oper.wp
            obtain ⟨w30, D30, hrun, hm2, hg2⟩ := (unhide HM29).update (by omega) (p := 10) (by omega) (2, ctNs m.refs) (some ⟨qg, 0, none⟩) 4 (unhide HQ29)
            have hrun2 : (Instr.mapUpdate 73 (.map (some MB)) (.int .i64 10) (rcV (2, ctNs m.refs) (some ⟨qg, 0, none⟩) 4)).run Tryz.prog w29 = .ok () w30 := hrun
            have HB30 := hide (belowMap (unhide HB29) (unhide HG20) hg2)
            have HP30 := hide (is_turned (unhide HM29).own hg2 (unhide HP29))
            have HQ30 := hide (is_turned (unhide HM29).own hg2 (unhide HQ29))
            have HM30 := hide hm2
            clear hm2 hg2 hrun
            go_simp
            refine hK _ _ (unhide HB30) ?_
            clear hrun2
            clear hK K
            refine ord_read (.map (some MB)) rfl rfl (unhide HB30) (fun W hW => by go_simp; first | done | rfl) ?_
            refine ord_read (.map (some MB)) rfl rfl (unhide HB30) (fun W hW => by go_simp; first | done | rfl) ?_
            refine ord_end ?_
            refine tree_done (by kernel_rfl) ?_
            go_wp2_with fail
            go_meet
            exact ⟨MB, _, rfl, hide (by first | exact unhide HM30 | exact mp_swap (unhide HM30)), HG20, HB30⟩
          case tb28 =>
            intro K hK
            unfold Oper.wp
            obtain ⟨w31, D31, hrun, hm2, hg2⟩ := (unhide HM26).update (by omega) (p := 10) (by omega) (2, ctNs m.refs) (some ⟨qg, 0, none⟩) 4 (unhide HQ26)
            have hrun2 : (Instr.mapUpdate 73 (.map (some MB)) (.int .i64 10) (rcV (2, ctNs m.refs) (some ⟨qg, 0, none⟩) 4)).run Tryz.prog w26 = .ok () w31 := hrun
            have HB31 := hide (belowMap (unhide HB26) (unhide HG20) hg2)
            have HP31 := hide (is_turned (unhide HM26).own hg2 (unhide HP26))
            have HQ31 := hide (is_turned (unhide HM26).own hg2 (unhide HQ26))
            have HM31 := hide hm2
            clear hm2 hg2 hrun
            go_simp
            refine hK _ _ (fun _ => unhide HB31) ?_
            clear hrun2
            clear hK K
            refine tree_seg (n := 0) [(5, 2), (13, 0), (14, 0)] (by kernel_rfl) rfl (by kernel_rfl) ?_
            refine ord_held rfl rfl ?_
            intro K hK
            unfold Oper.wp
            obtain ⟨w32, D32, hrun, hm2, hg2⟩ := (unhide HM31).update (by omega) (p := 9) (by omega) (1, supL m) po pa (unhide HP31)
            have hrun2 : (Instr.mapUpdate 73 (.map (some MB)) (.int .i64 9) (rcV (1, supL m) po pa)).run Tryz.prog w31 = .ok () w32 := hrun
            have HB32 := hide (belowMap (unhide HB31) (unhide HG20) hg2)
            have HP32 := hide (is_turned (unhide HM31).own hg2 (unhide HP31))
            have HQ32 := hide (is_turned (unhide HM31).own hg2 (unhide HQ31))
            have HM32 := hide hm2
            clear hm2 hg2 hrun
            go_simp
            refine hK _ _ (unhide HB32) ?_
            clear hrun2
            clear hK K
            refine ord_read (.map (some MB)) rfl rfl (unhide HB32) (fun W hW => by go_simp; first | done | rfl) ?_
            refine ord_read (.map (some MB)) rfl rfl (unhide HB32) (fun W hW => by go_simp; first | done | rfl) ?_
            refine ord_end ?_
            refine tree_done (by kernel_rfl) ?_
            go_wp2_with fail
            go_meet
            exact ⟨MB, _, rfl, hide (by first | exact unhide HM32 | exact mp_swap (unhide HM32)), HG20, HB32⟩
      case tb19 =>
        intro K hK
        unfold Oper.wp
        go_simp
        refine (numbersC_any m.refs _ (unhide HR).refs).mono ?_
        rintro e w33 ⟨qg, rfl, hge, hq, hb⟩
        have HB33 := hide (fr (unhide HB17) hb)
        have HP33 := hide ((unhide HP17).below hb)
        have HQ33 := hide (Is.of_block hq)
        clear hq hb hge
        refine hK _ _ (fun _ => unhide HB33) ?_
        clear hK K
        refine tree_seg (n := 4) [(11, 0), (0, 2)] (by kernel_rfl) rfl (by kernel_rfl) ?_
        refine ord_read (rcV (2, ctNs m.refs) (some ⟨qg, 0, none⟩) 4) rfl rfl (unhide HB33) (fun W hW => by go_simp; first | done | rfl) ?_
        refine ord_held rfl rfl ?_
        intro K hK
        unfold Oper.wp
        go_simp
        have HB34 := hide (fr (unhide HB33) (Joins.below_alloc1 (w33) (.map #[] 0)))
        have HP34 := hide ((unhide HP33).below (Joins.below_alloc1 (w33) (.map #[] 0)))
        have HQ34 := hide ((unhide HQ33).below (Joins.below_alloc1 (w33) (.map #[] 0)))
        have HM34 := hide (MpR.made (w33))
        have HG34 := hide (unhide HB33).size
        refine hK _ _ (unhide HB34) ?_
        clear hK K
        revert HB34
        revert HM34
        revert HG34
        revert HP34
        revert HQ34
        generalize (w33).heap.size = MB
        generalize ((w33).alloc _) = w34
        intro HQ34
        intro HP34
        intro HG34
        intro HM34
        intro HB34
        refine ord_end ?_
        refine tree_two (fuel := 3) (i := 5) (j := 12) rfl rfl rfl rfl (by kernel_rfl) ?ta35 ?tb36
        case ta35 =>
          intro K hK
          unfold Oper.wp
          obtain ⟨w37, D37, hrun, hm2, hg2⟩ := (unhide HM34).update (by omega) (p := 9) (by omega) (1, supL m) po pa (unhide HP34)
          have hrun2 : (Instr.mapUpdate 73 (.map (some MB)) (.int .i64 9) (rcV (1, supL m) po pa)).run Tryz.prog w34 = .ok () w37 := hrun
          have HB37 := hide (belowMap (unhide HB34) (unhide HG34) hg2)
          have HP37 := hide (is_turned (unhide HM34).own hg2 (unhide HP34))
          have HQ37 := hide (is_turned (unhide HM34).own hg2 (unhide HQ34))
          have HM37 := hide hm2
          clear hm2 hg2 hrun
          go_simp
          refine hK _ _ (fun _ => unhide HB37) ?_
          clear hrun2
          clear hK K
          refine tree_seg (n := 0) [(12, 2), (13, 0), (14, 0)] (by kernel_rfl) rfl (by kernel_rfl) ?_
          refine ord_held rfl rfl ?_
          intro K hK
          unfold Oper.wp
          obtain ⟨w38, D38, hrun, hm2, hg2⟩ := (unhide HM37).update (by omega) (p := 10) (by omega) (2, ctNs m.refs) (some ⟨qg, 0, none⟩) 4 (unhide HQ37)
          have hrun2 : (Instr.mapUpdate 73 (.map (some MB)) (.int .i64 10) (rcV (2, ctNs m.refs) (some ⟨qg, 0, none⟩) 4)).run Tryz.prog w37 = .ok () w38 := hrun
          have HB38 := hide (belowMap (unhide HB37) (unhide HG34) hg2)
          have HP38 := hide (is_turned (unhide HM37).own hg2 (unhide HP37))
          have HQ38 := hide (is_turned (unhide HM37).own hg2 (unhide HQ37))
          have HM38 := hide hm2
          clear hm2 hg2 hrun
          go_simp
          refine hK _ _ (unhide HB38) ?_
          clear hrun2
          clear hK K
          refine ord_read (.map (some MB)) rfl rfl (unhide HB38) (fun W hW => by go_simp; first | done | rfl) ?_
          refine ord_read (.map (some MB)) rfl rfl (unhide HB38) (fun W hW => by go_simp; first | done | rfl) ?_
          refine ord_end ?_
          refine tree_done (by kernel_rfl) ?_
          go_wp2_with fail
          go_meet
          exact ⟨MB, _, rfl, hide (by first | exact unhide HM38 | exact mp_swap (unhide HM38)), HG34, HB38⟩
        case tb36 =>
          intro K hK
          unfold Oper.wp
          obtain ⟨w39, D39, hrun, hm2, hg2⟩ := (unhide HM34).update (by omega) (p := 10) (by omega) (2, ctNs m.refs) (some ⟨qg, 0, none⟩) 4 (unhide HQ34)
          have hrun2 : (Instr.mapUpdate 73 (.map (some MB)) (.int .i64 10) (rcV (2, ctNs m.refs) (some ⟨qg, 0, none⟩) 4)).run Tryz.prog w34 = .ok () w39 := hrun
          have HB39 := hide (belowMap (unhide HB34) (unhide HG34) hg2)
          have HP39 := hide (is_turned (unhide HM34).own hg2 (unhide HP34))
          have HQ39 := hide (is_turned (unhide HM34).own hg2 (unhide HQ34))
          have HM39 := hide hm2
          clear hm2 hg2 hrun
          go_simp
          refine hK _ _ (fun _ => unhide HB39) ?_
          clear hrun2
          clear hK K
          refine tree_seg (n := 0) [(5, 2), (13, 0), (14, 0)] (by kernel_rfl) rfl (by kernel_rfl) ?_
          refine ord_held rfl rfl ?_
          intro K hK
          unfold Oper.wp
          obtain ⟨w40, D40, hrun, hm2, hg2⟩ := (unhide HM39).update (by omega) (p := 9) (by omega) (1, supL m) po pa (unhide HP39)
          have hrun2 : (Instr.mapUpdate 73 (.map (some MB)) (.int .i64 9) (rcV (1, supL m) po pa)).run Tryz.prog w39 = .ok () w40 := hrun
          have HB40 := hide (belowMap (unhide HB39) (unhide HG34) hg2)
          have HP40 := hide (is_turned (unhide HM39).own hg2 (unhide HP39))
          have HQ40 := hide (is_turned (unhide HM39).own hg2 (unhide HQ39))
          have HM40 := hide hm2
          clear hm2 hg2 hrun
          go_simp
          refine hK _ _ (unhide HB40) ?_
          clear hrun2
          clear hK K
          refine ord_read (.map (some MB)) rfl rfl (unhide HB40) (fun W hW => by go_simp; first | done | rfl) ?_
          refine ord_read (.map (some MB)) rfl rfl (unhide HB40) (fun W hW => by go_simp; first | done | rfl) ?_
          refine ord_end ?_
          refine tree_done (by kernel_rfl) ?_
          go_wp2_with fail
          go_meet
          exact ⟨MB, _, rfl, hide (by first | exact unhide HM40 | exact mp_swap (unhide HM40)), HG34, HB40⟩
  case rest =>
    obtain ⟨B, D, rfl, HM, HG, HB⟩ := hcut
    rename World => W1
    clear HBD HAR HR0 hmm
    have HMT : Hid (MpR W1 B 2 D (rcTo m (11 + 0))) := hide (by rw [Nat.add_zero, ← rcTo_two]; exact unhide HM)
    clear HM
    obtain ⟨c0, c1, c2, c3⟩ := ((unhide HV).below (unhide HB)).cells
    go_wp2_with fail
    refine (tablesOf_any a m _ hs3 ((unhide HC).below (unhide HB))).mono ?_
    rintro e w2 ⟨qo, qa, rfl, hrt, hb2⟩
    have HRT := hide hrt
    have HM2 := hide ((unhide HMT).below hb2)
    have HB2 := hide (fr (unhide HB) hb2)
    have HTL := hide (imTabs_len m)
    clear hrt hb2 HMT HB c0 c1 c2 c3
    have hT4 : (imTabs m).length ≤ 4 := by rw [unhide HTL]; omega
    have HT4 := hide hT4
    have HTX : Hid (rcTo m (11 + (imTabs m).length) = rcTo m (15 + 0)) := hide (rcTo_tabs hT4)
    have HTS : Hid (∀ k (h : k < (imTabs m).length), setF (rcTo m (11 + k)) (11 + k) (3, (imTabs m)[k]) = rcTo m (11 + (k + 1))) := hide (fun k h => rcTo_tab h (by omega))
    generalize hTT : imTabs m = T at *
    clear hTT HTL
    go_wp2
    go_loopw [23] (fun i wr => ∃ (k : Nat) (D : DataW Value), k ≤ T.length ∧ i = .int .i64 k ∧ Hid (MpR wr B (2 + k) D (rcTo m (11 + k))) ∧ Hid (RowT wr qo T) ∧ Hid (Below W0.heap.size W0 wr)) (fun i _ => T.length - (intOf i).toNat)
    case atStart => exact ⟨0, D, Nat.zero_le _, rfl, HM2, HRT, HB2⟩
    case round =>
      clear HM2 HRT HB2
      obtain ⟨k, D1, hk, rfl, HM2, HRT, HB2⟩ := hrel
      by_cases hlt : k < T.length
      · obtain ⟨b, off, tq, tc, rfl, hck, hIs⟩ := unhide HRT k hlt
        have HIS := hide hIs
        have hlti : (k : Int) < (T.length : Int) := by omega
        have hw1 : IntKind.i64.wrap (11 + (k : Int)) = 11 + (k : Int) := by rw [IntKind.wrap_i64]; omega
        have HST := hide (unhide HTS k hlt)
        clear hIs
        go_wp2_with (at_mapUpdate; refine wpList_rec rfl _ _ _ rfl (p := 11 + k) (y := 11 + (k : Int)) (3, T[k]) tq tc rfl (unhide HM2) (by omega) (by first | rfl | (rw [hw1]; rfl)) (by omega) (by omega) rfl (unhide HIS) ?_; intro w5 D5 hm5 hg5; have HS5 := hide (And.intro hm5 hg5); clear hm5 hg5)
        go_roundw
        case rel => exact ⟨k + 1, D5, by omega, by go_num, hide (by rw [← unhide HST]; exact (unhide HS5).1), hide (rowT_turned (unhide HM2).own (unhide HS5).2 (unhide HRT)), hide (belowMap (unhide HB2) (unhide HG) (unhide HS5).2)⟩
        case measure => simp [intOf]; omega
      · obtain rfl : k = T.length := by omega
        have HM3 : Hid (MpR wr B (6 + 0) D1 (rcTo m (15 + 0))) := hide (by rw [← unhide HTX]; exact (unhide HM2).mono (by have := unhide HT4; omega))
        clear HTX HTS HM2 HRT
        obtain ⟨c0, c1, c2, c3⟩ := ((unhide HV).below (unhide HB2)).cells
        rw [unhide HRO] at c0
        go_wp2
        clear c0 c1 c2 c3
        go_loopw [37] (fun i wr => ∃ (c : Nat) (D : DataW Value), c ≤ m.refs.length ∧ i = .int .i64 c ∧ Hid (MpR wr B (6 + c) D (rcTo m (15 + c))) ∧ Hid (Below W0.heap.size W0 wr)) (fun i _ => m.refs.length - (intOf i).toNat)
        case atStart => exact ⟨0, D1, Nat.zero_le _, rfl, HM3, HB2⟩
        case round =>
          clear HM3 HB2
          rename World => wq
          obtain ⟨c, D2, hc, rfl, HM3, HB3⟩ := hrel
          by_cases hltc : c < m.refs.length
          · have hc24 : c < 24 := by have := unhide HRL; omega
            have hcd : c < m.data.length := by rw [unhide HDL]; omega
            obtain ⟨b, off, ero, hcr⟩ := ((unhide HC).r.below (unhide HB3)) c hltc
            rw [unhide HRO] at ero
            cases ero
            obtain ⟨b', off', edq, hcd'⟩ := ((unhide HC).d.below (unhide HB3)) c hcd
            have hlci : (c : Int) < (m.refs.length : Int) := by omega
            have hldi : (c : Int) < (m.data.length : Int) := by omega
            have hc0i : (0 : Int) ≤ (c : Int) := by omega
            have egr : m.refs.getD c 0 = m.refs[c] := by simp [List.getD, hltc]
            have egd : m.data.getD c 0 = m.data[c] := by simp [List.getD, hcd]
            obtain ⟨c0, c1, c2, c3⟩ := ((unhide HV).below (unhide HB3)).cells
            rw [edq] at c3
            clear edq
            by_cases hpos : 0 < m.refs[c]
            · have HST := hide (rcTo_dat (m := m) (c := c) hc24 (by rw [egr]; exact hpos))
              rw [egd] at HST
              have hw1 : IntKind.i64.wrap (15 + (c : Int)) = 15 + (c : Int) := by rw [IntKind.wrap_i64]; omega
              clear egr egd
              generalize m.data[c] = X at *
              generalize m.refs[c] = Y at *
              have HMA := hide ((unhide HM3).below (Joins.below_alloc1 wq (.cells #[.int .i64 X] 3)))
              have HBA := hide (fr (unhide HB3) (Joins.below_alloc1 wq (.cells #[.int .i64 X] 3)))
              have HIA : Hid (Is (wq.alloc (.cells #[.int .i64 X] 3)) (some ⟨wq.heap.size, 0, none⟩) [X]) := hide (Is.of_block (t := 3) (heap_alloc_new wq _))
              go_wp2_with (at_mapUpdate; refine wpList_rec rfl _ _ _ rfl (p := 15 + c) (y := 15 + (c : Int)) (4, [X]) (some ⟨wq.heap.size, 0, none⟩) 1 rfl (unhide HMA) (by omega) (by first | rfl | (rw [hw1]; rfl)) (by omega) (by omega) rfl (unhide HIA) ?_; intro w5 D5 hm5 hg5; have HS5 := hide (And.intro hm5 hg5); clear hm5 hg5)
              go_roundw
              case rel => exact ⟨c + 1, D5, by omega, by go_num, hide (by rw [← unhide HST]; exact (unhide HS5).1), hide (belowMap (unhide HBA) (unhide HG) (unhide HS5).2)⟩
              case measure => simp [intOf]; omega
            · have HST := hide (rcTo_no (m := m) (c := c) hc24 (by rw [egr]; exact hpos))
              clear egr egd
              generalize m.refs[c] = Y at *
              go_wp2
              go_roundw
              case rel => exact ⟨c + 1, D2, by omega, by go_num, hide (by rw [← unhide HST]; exact (unhide HM3).mono (by omega)), HB3⟩
              case measure => simp [intOf]; omega
          · have hc24 : c = 24 := by have := unhide HRL; omega
            subst hc24
            have HEND : Hid (MpR wq B (6 + 24) D2 (rcAt m)) := hide (by rw [← rcTo_all]; exact unhide HM3)
            go_wp2
            go_ret
            exact ⟨B, 6 + 24, D2, rfl, by omega, Nat.le_trans (unhide HA).size (unhide HG), unhide HEND, fr (unhide HA) (unhide HB3)⟩

end Go.Proofs.YtjjkppknojecjaaGreat
