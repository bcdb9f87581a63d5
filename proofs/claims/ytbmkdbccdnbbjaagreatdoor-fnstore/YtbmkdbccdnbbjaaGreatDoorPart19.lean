import Derived.Test.YtbmkdbccdnbbjaaGreatDoorRows
import Derived.Shelf.SlIterI.Nil
import Derived.Shelf.SortM.Plain
import Derived.Shelf.SortM.SortNone
import Derived.Test.YtbmkdbccdnbbjaaGreatDoorPart1
import Derived.Test.YtbmkdbccdnbbjaaGreatDoorPart2
import Derived.WalkKit
import Derived.KernelRfl
import Derived.Maps.Own
import Derived.Maps.OwnOps
import Derived.Maps.OwnSet
import Derived.Maps.Views
import Derived.Test.YtbmkdbccdnbbjaaGreatDoorPart16
import Derived.Test.YtbmkdbccdnbbjaaGreatDoorPart8
import Derived.Test.YtbmkdbccdnbbjaaGreatDoorPart13
import Derived.Test.YtbmkdbccdnbbjaaGreatDoorPart18
import Derived.WalkSpells
import Derived.LoopN
import Derived.Lib.ConvBytes
import Derived.Test.YtbmkdbccdnbbjaaGreatDoorPart4
import Derived.Test.YtbmkdbccdnbbjaaGreatDoorPart9
import Derived.Test.YtbmkdbccdnbbjaaGreatDoorPart17

namespace Go.Proofs.YtbmkdbccdnbbjaaGreatDoor
open Go.RowKit Go.Shelf
set_option maxRecDepth 100000

def lay_keysA_ren : Go.Shelf.Ren := ⟨fun | 7 => 76 | 10 => 141 | n => n, fun | 23 => 63 | 26 => 3 | 3 => 110 | 28 => 107 | 0 => 0 | 27 => 106 | 33 => 91 | 4 => 4 | n => n, fun | n => n⟩

theorem lay_keysA : Go.Proofs.SlLaysZI.n7 Tryz.prog lay_keysA_ren := {
  mixed := by kernel_rfl
  f7 := ⟨Tryz.f76.name, by decide, Tryz.func76.trans (congrArg some (by kernel_rfl))⟩
  f10 := ⟨Tryz.f141.name, by decide, Tryz.func141.trans (congrArg some (by kernel_rfl))⟩
  t0 := Tryz.underlying0
  a0 := Tryz.isAgg0
  z0 := Tryz.sizeOf0
  v0 := Tryz.zeroValue0
  t4 := Tryz.underlying4
  a4 := Tryz.isAgg4
  z4 := Tryz.sizeOf4
  v4 := Tryz.zeroValue4
  t23 := Tryz.underlying63
  a23 := Tryz.isAgg63
  z23 := Tryz.sizeOf63
  v23 := Tryz.zeroValue63
  t26 := Tryz.underlying3
  a26 := Tryz.isAgg3
  z26 := Tryz.sizeOf3
  v26 := Tryz.zeroValue3
  t27 := Tryz.underlying106
  a27 := Tryz.isAgg106
  z27 := Tryz.sizeOf106
  v27 := Tryz.zeroValue106
  t28 := Tryz.underlying107
  a28 := Tryz.isAgg107
  z28 := Tryz.sizeOf107
  v28 := Tryz.zeroValue107
  t33 := Tryz.underlying91
  a33 := Tryz.isAgg91
  z33 := Tryz.sizeOf91
  v33 := Tryz.zeroValue91 }

def lay_sortedA_ren : Go.Shelf.Ren := ⟨fun | 6 => 75 | 8 => 139 | 9 => 140 | 11 => 179 | 13 => 181 | 12 => 180 | 23 => 210 | 24 => 211 | 14 => 201 | 15 => 202 | 16 => 203 | 17 => 204 | 18 => 205 | 19 => 206 | 20 => 207 | 21 => 208 | 22 => 209 | 25 => 219 | 26 => 220 | 27 => 221 | 28 => 222 | 29 => 223 | 30 => 224 | 31 => 227 | n => n, fun | 26 => 3 | 28 => 107 | 24 => 23 | 0 => 0 | 3 => 3 | 37 => 173 | 48 => 228 | 50 => 210 | 4 => 4 | 40 => 220 | 39 => 219 | 45 => 225 | 5 => 5 | 9 => 9 | 51 => 236 | 55 => 240 | 57 => 242 | 58 => 140 | 33 => 91 | n => n, fun | n => n⟩

theorem lay_sortedA : Go.Proofs.SlLaysZI.n6 Tryz.prog lay_sortedA_ren := {
  mixed := by kernel_rfl
  f6 := ⟨Tryz.f75.name, by decide, Tryz.func75.trans (congrArg some (by kernel_rfl))⟩
  f8 := ⟨Tryz.f139.name, by decide, Tryz.func139.trans (congrArg some (by kernel_rfl))⟩
  f11 := ⟨Tryz.f179.name, by decide, Tryz.func179.trans (congrArg some (by kernel_rfl))⟩
  t0 := Tryz.underlying0
  a0 := Tryz.isAgg0
  z0 := Tryz.sizeOf0
  v0 := Tryz.zeroValue0
  t24 := Tryz.underlying23
  a24 := Tryz.isAgg23
  z24 := Tryz.sizeOf23
  v24 := Tryz.zeroValue23
  t26 := Tryz.underlying3
  a26 := Tryz.isAgg3
  z26 := Tryz.sizeOf3
  v26 := Tryz.zeroValue3
  t28 := Tryz.underlying107
  a28 := Tryz.isAgg107
  z28 := Tryz.sizeOf107
  v28 := Tryz.zeroValue107
  i26 := by kernel_rfl }

def lay_sortA_ren : Go.Shelf.Ren := ⟨fun | 5 => 140 | 8 => 181 | 7 => 180 | 19 => 210 | 20 => 211 | 10 => 201 | 11 => 202 | 12 => 203 | 13 => 204 | 14 => 205 | 15 => 206 | 16 => 207 | 17 => 208 | 18 => 209 | 30 => 219 | 31 => 220 | 32 => 221 | 33 => 222 | 34 => 223 | 35 => 224 | 40 => 227 | n => n, fun | 23 => 23 | 25 => 3 | 3 => 3 | 32 => 173 | 22 => 23 | 0 => 0 | 44 => 228 | 46 => 210 | 4 => 4 | 36 => 220 | 35 => 219 | 41 => 225 | 5 => 5 | 9 => 9 | 53 => 236 | 57 => 240 | 63 => 242 | 64 => 140 | n => n, fun | n => n⟩

theorem lay_sortA : Go.Proofs.SlLaysM.n5 Tryz.prog lay_sortA_ren := {
  mixed := by kernel_rfl
  f5 := ⟨Tryz.f140.name, by decide, Tryz.func140.trans (congrArg some (by kernel_rfl))⟩
  f7 := ⟨Tryz.f180.name, by decide, Tryz.func180.trans (congrArg some (by kernel_rfl))⟩
  f8 := Tryz.func181.trans (congrArg some (by kernel_rfl))
  f10 := ⟨Tryz.f201.name, by decide, Tryz.func201.trans (congrArg some (by kernel_rfl))⟩
  f11 := ⟨Tryz.f202.name, by decide, Tryz.func202.trans (congrArg some (by kernel_rfl))⟩
  f12 := ⟨Tryz.f203.name, by decide, Tryz.func203.trans (congrArg some (by kernel_rfl))⟩
  f13 := ⟨Tryz.f204.name, by decide, Tryz.func204.trans (congrArg some (by kernel_rfl))⟩
  f14 := ⟨Tryz.f205.name, by decide, Tryz.func205.trans (congrArg some (by kernel_rfl))⟩
  f15 := ⟨Tryz.f206.name, by decide, Tryz.func206.trans (congrArg some (by kernel_rfl))⟩
  f16 := ⟨Tryz.f207.name, by decide, Tryz.func207.trans (congrArg some (by kernel_rfl))⟩
  f17 := ⟨Tryz.f208.name, by decide, Tryz.func208.trans (congrArg some (by kernel_rfl))⟩
  f18 := ⟨Tryz.f209.name, by decide, Tryz.func209.trans (congrArg some (by kernel_rfl))⟩
  f19 := Tryz.func210.trans (congrArg some (by kernel_rfl))
  f20 := Tryz.func211.trans (congrArg some (by kernel_rfl))
  f30 := ⟨Tryz.f219.name, by decide, Tryz.func219.trans (congrArg some (by kernel_rfl))⟩
  f31 := Tryz.func220.trans (congrArg some (by kernel_rfl))
  f32 := Tryz.func221.trans (congrArg some (by kernel_rfl))
  f33 := ⟨Tryz.f222.name, by decide, Tryz.func222.trans (congrArg some (by kernel_rfl))⟩
  f34 := ⟨Tryz.f223.name, by decide, Tryz.func223.trans (congrArg some (by kernel_rfl))⟩
  f35 := ⟨Tryz.f224.name, by decide, Tryz.func224.trans (congrArg some (by kernel_rfl))⟩
  f40 := ⟨Tryz.f227.name, by decide, Tryz.func227.trans (congrArg some (by kernel_rfl))⟩
  t0 := Tryz.underlying0
  a0 := Tryz.isAgg0
  z0 := Tryz.sizeOf0
  v0 := Tryz.zeroValue0
  t3 := Tryz.underlying3
  a3 := Tryz.isAgg3
  z3 := Tryz.sizeOf3
  v3 := Tryz.zeroValue3
  t4 := Tryz.underlying4
  a4 := Tryz.isAgg4
  z4 := Tryz.sizeOf4
  v4 := Tryz.zeroValue4
  t5 := Tryz.underlying5
  a5 := Tryz.isAgg5
  z5 := Tryz.sizeOf5
  v5 := Tryz.zeroValue5
  t9 := Tryz.underlying9
  a9 := Tryz.isAgg9
  z9 := Tryz.sizeOf9
  v9 := Tryz.zeroValue9
  t22 := Tryz.underlying23
  a22 := Tryz.isAgg23
  z22 := Tryz.sizeOf23
  v22 := Tryz.zeroValue23
  t23 := Tryz.underlying23
  a23 := Tryz.isAgg23
  z23 := Tryz.sizeOf23
  v23 := Tryz.zeroValue23
  t25 := Tryz.underlying3
  a25 := Tryz.isAgg3
  z25 := Tryz.sizeOf3
  v25 := Tryz.zeroValue3
  t32 := Tryz.underlying173
  a32 := Tryz.isAgg173
  z32 := Tryz.sizeOf173
  v32 := Tryz.zeroValue173
  t35 := Tryz.underlying219
  a35 := Tryz.isAgg219
  z35 := Tryz.sizeOf219
  v35 := Tryz.zeroValue219
  t36 := Tryz.underlying220
  a36 := Tryz.isAgg220
  z36 := Tryz.sizeOf220
  v36 := Tryz.zeroValue220
  t41 := Tryz.underlying225
  a41 := Tryz.isAgg225
  z41 := Tryz.sizeOf225
  v41 := Tryz.zeroValue225
  t44 := Tryz.underlying228
  a44 := Tryz.isAgg228
  z44 := Tryz.sizeOf228
  v44 := Tryz.zeroValue228
  t46 := Tryz.underlying210
  a46 := Tryz.isAgg210
  z46 := Tryz.sizeOf210
  v46 := Tryz.zeroValue210
  t53 := Tryz.underlying236
  a53 := Tryz.isAgg236
  z53 := Tryz.sizeOf236
  v53 := Tryz.zeroValue236
  t57 := Tryz.underlying240
  a57 := Tryz.isAgg240
  z57 := Tryz.sizeOf240
  v57 := Tryz.zeroValue240
  t63 := Tryz.underlying242
  a63 := Tryz.isAgg242
  z63 := Tryz.sizeOf242
  v63 := Tryz.zeroValue242
  t64 := Tryz.underlying140
  a64 := Tryz.isAgg140
  z64 := Tryz.sizeOf140
  v64 := Tryz.zeroValue140 }

end Go.Proofs.YtbmkdbccdnbbjaaGreatDoor

namespace Go.Proofs.YtbmkdbccdnbbjaaGreatDoor
open Go.RowKit Go.Maps Go.Sort Go.Shelf
set_option linter.unusedVariables false
set_option maxRecDepth 100000

abbrev Rc := Int × List Int
def recR (v : Value) : Option (DataW Value × List MemPlace) := some (.held v, [])
def rcV (r : Rc) (ao : Option Addr) (cap : Nat) : Value := .agg #[.int .i64 r.1, .slice ao r.2.length cap]
theorem lawK : Keyed Tryz.prog 3 := int_keyed Tryz.underlying3
theorem zeroR (w : World) : (zeroValue 110).run Tryz.prog w = .ok (.agg #[.int .i64 0, .slice none 0 0]) w := by kernel_rfl
theorem wfP {p : Nat} (h : p < 64) : (Lit.int .i64 (p : Int)).wf = true := WalkArith.wf_i64 (by omega)
theorem keyP {p : Nat} (h : p < 64) : keyOf Tryz.prog 3 (.int .i64 (p : Int)) = some (.int .i64 (p : Int)) := keyOf_int_mk Tryz.underlying3 (wfP h)
structure MpR (w : World) (B n : Nat) (D : DataW Value) (f : Nat → Option Rc) : Prop where
  own : w.ownsMap Tryz.prog 3 recR B n D
  no : ∀ p : Nat, p < 64 → f p = none → has D (.int .i64 (p : Int)) = false
  yes : ∀ p : Nat, p < 64 → ∀ r, f p = some r → has D (.int .i64 (p : Int)) = true ∧ ∃ ao cap, (∀ z, D.atKey (.int .i64 (p : Int)) z = .held (rcV r ao cap)) ∧ Is w ao r.2
  only : ∀ kl, has D kl = true → ∃ p : Nat, p < 64 ∧ kl = .int .i64 (p : Int)
def setF (f : Nat → Option Rc) (p : Nat) (r : Rc) : Nat → Option Rc := fun q => if q = p then some r else f q
theorem MpR.made (w : World) : MpR (w.alloc (.map #[] 0)) w.heap.size 0 (.map []) (fun _ => none) where
  own := World.ownsMap_made _ _ _ _
  no := fun p _ _ => rfl
  yes := fun p _ r h => by cases h
  only := fun kl h => by cases h
theorem MpR.lt {w : World} {B n : Nat} {D : DataW Value} {f : Nat → Option Rc} (h : MpR w B n D f) : B < w.heap.size := h.own.lt
theorem MpR.mono {w : World} {B n n' : Nat} {D : DataW Value} {f : Nat → Option Rc} (h : MpR w B n D f) (hn : n ≤ n') : MpR w B n' D f := ⟨h.own.mono hn, h.no, h.yes, h.only⟩
theorem MpR.below {w w' : World} {B n : Nat} {D : DataW Value} {f : Nat → Option Rc} (h : MpR w B n D f) (hb : Below w.heap.size w w') : MpR w' B n D f where
  own := by
    have hl := h.lt
    obtain ⟨es, clock, e, F, hn, hD⟩ := h.own
    exact ⟨es, clock, (hb.block B hl).trans e, F, hn, hD⟩
  no := h.no
  yes := fun p hp r hr => by
    obtain ⟨h1, ao, cap, h2, h3⟩ := h.yes p hp r hr
    exact ⟨h1, ao, cap, h2, h3.below hb⟩
  only := h.only
theorem own_noCell {w : World} {B n : Nat} {D : DataW Value} (h : w.ownsMap Tryz.prog 3 recR B n D) {p : Addr} {v : Value} (hc : w.cell? p = some v) : p.block ≠ B := by
  intro he
  obtain ⟨es, clock, hb, _⟩ := h
  rw [← he] at hb
  simp [World.cell?, hb] at hc
theorem cell_turned {w w' : World} {B : Nat} (hg : w.grownBy w' (some B)) {p : Addr} {v : Value} (hc : w.cell? p = some v) (hn : p.block ≠ B) : w'.cell? p = some v :=
  (World.cell?_of_block (hg.block p.block (World.block_lt_of_cell? _ _ hc) (fun e => hn (Option.some.inj e)))).trans hc
theorem is_turned {w w' : World} {B n : Nat} {D : DataW Value} (h : w.ownsMap Tryz.prog 3 recR B n D) (hg : w.grownBy w' (some B)) {ao : Option Addr} {xs : List Int} (hi : Is w ao xs) : Is w' ao xs := fun i hl => by
  obtain ⟨b, off, e, hc⟩ := hi i hl
  exact ⟨b, off, e, cell_turned hg hc (own_noCell h hc)⟩
theorem MpR.put {w w' : World} {B n p : Nat} {D : DataW Value} {f : Nat → Option Rc} {r : Rc} {ao : Option Addr} {cap : Nat} (h : MpR w B n D f) (hp : p < 64) (hi : Is w ao r.2) (ho : w'.ownsMap Tryz.prog 3 recR B (n + 1) (D.put (.int .i64 (p : Int)) (.held (rcV r ao cap)))) (hg : w.grownBy w' (some B)) :
    MpR w' B (n + 1) (D.put (.int .i64 (p : Int)) (.held (rcV r ao cap))) (setF f p r) := by
  have hM : IsMap D := h.own.isMap
  refine ⟨ho, fun q hq hf => ?_, fun q hq s hf => ?_, fun kl hk => ?_⟩
  · by_cases e : q = p
    · simp [setF, e] at hf
    · rw [has_put_other (by intro h2; simp only [Lit.int.injEq, true_and] at h2; omega)]
      exact h.no q hq (by simpa [setF, e] using hf)
  · by_cases e : q = p
    · subst e
      have : r = s := by simpa [setF] using hf
      subst this
      exact ⟨has_put_same (k := .int .i64 (q : Int)) hM trivial _, ao, cap, fun z => atKey_put_same (k := .int .i64 (q : Int)) hM trivial _ _, is_turned h.own hg hi⟩
    · obtain ⟨h1, a2, c2, h2, h3⟩ := h.yes q hq s (by simpa [setF, e] using hf)
      have hne : (Lit.int .i64 (q : Int)) ≠ .int .i64 (p : Int) := by intro h2; simp only [Lit.int.injEq, true_and] at h2; omega
      exact ⟨by rw [has_put_other hne]; exact h1, a2, c2, fun z => by rw [atKey_put_other hne]; exact h2 z, is_turned h.own hg h3⟩
  · by_cases e : kl = .int .i64 (p : Int)
    · exact ⟨p, hp, e⟩
    · rw [has_put_other e] at hk
      exact h.only kl hk
theorem MpR.update {w : World} {B n p : Nat} {D : DataW Value} {f : Nat → Option Rc} (h : MpR w B n D f) (hn : n < 1000000) (hp : p < 64) (r : Rc) (ao : Option Addr) (cap : Nat) (hi : Is w ao r.2) :
    ∃ w' D', (Instr.mapUpdate 63 (.map (some B)) (.int .i64 (p : Int)) (rcV r ao cap)).run Tryz.prog w = .ok () w' ∧ MpR w' B (n + 1) D' (setF f p r) ∧ w.grownBy w' (some B) := by
  obtain ⟨w', hrun, r1, r2⟩ := h.own.update lawK Tryz.underlying63 (by unfold maxLen; omega) (keyP hp) (d := .held (rcV r ao cap)) (ps := []) rfl
  exact ⟨w', _, hrun, h.put hp hi r1 r2, r2⟩
theorem MpR.look {w : World} {B n p : Nat} {D : DataW Value} {f : Nat → Option Rc} (h : MpR w B n D f) (hp : p < 64) {r : Rc} (hr : f p = some r) : ∃ ao cap, (Instr.lookup 63 (.map (some B)) (.int .i64 (p : Int)) false).run Tryz.prog w = .ok (rcV r ao cap) w ∧ Is w ao r.2 := by
  obtain ⟨h1, ao, cap, h2, h3⟩ := h.yes p hp r hr
  obtain ⟨v, ps, hrun, hat⟩ := h.own.lookup lawK Tryz.underlying63 (zeroR _) (zd := .held _) (zp := []) rfl (keyP hp)
  rw [h2] at hat
  simp only [recR, Option.some.injEq, Prod.mk.injEq, DataW.held.injEq] at hat
  rw [hat.1] at hrun
  exact ⟨ao, cap, hrun, h3⟩
theorem MpR.miss {w : World} {B n p : Nat} {D : DataW Value} {f : Nat → Option Rc} (h : MpR w B n D f) (hp : p < 64) (hr : f p = none) : (Instr.lookup 63 (.map (some B)) (.int .i64 (p : Int)) false).run Tryz.prog w = .ok (.agg #[.int .i64 0, .slice none 0 0]) w := by
  obtain ⟨v, ps, hrun, hat⟩ := h.own.lookup lawK Tryz.underlying63 (zeroR _) (zd := .held _) (zp := []) rfl (keyP hp)
  rw [atKey_of_not_has (h.no p hp hr)] at hat
  simp only [recR, Option.some.injEq, Prod.mk.injEq, DataW.held.injEq] at hat
  rw [hat.1] at hrun
  exact hrun
theorem miss_nil {p : Nat} (hp : p < 64) (w : World) : (Instr.lookup 63 (.map none) (.int .i64 (p : Int)) false).run Tryz.prog w = .ok (.agg #[.int .i64 0, .slice none 0 0]) w :=
  Maps.look_nil false lawK Tryz.underlying63 (zeroR _) (keyP hp)

def plcN (f : Nat → Option Rc) : List Nat := (List.range 64).filter (fun p => (f p).isSome)
def plcL (f : Nat → Option Rc) : List Int := (plcN f).map (fun p : Nat => (p : Int))
theorem plcN_lt {f : Nat → Option Rc} {p : Nat} (h : p ∈ plcN f) : p < 64 ∧ ∃ r, f p = some r := by
  simp only [plcN, List.mem_filter, List.mem_range] at h
  exact ⟨h.1, Option.isSome_iff_exists.1 h.2⟩
theorem plcL_rise (f : Nat → Option Rc) : (plcL f).Pairwise (· < ·) := by
  unfold plcL
  rw [List.pairwise_map]
  refine List.Pairwise.imp ?_ ((List.pairwise_lt_range (n := 64)).filter _)
  intro a b h; omega
theorem plcL_mem {w : World} {B n : Nat} {D : DataW Value} {f : Nat → Option Rc} (h : MpR w B n D f) (x : Int) : x ∈ plcL f ↔ has D (.int .i64 x) = true := by
  simp only [plcL, plcN, List.mem_map, List.mem_filter, List.mem_range]
  constructor
  · rintro ⟨p, ⟨hp, hs⟩, rfl⟩
    obtain ⟨r, hr⟩ := Option.isSome_iff_exists.1 hs
    exact (h.yes p hp r hr).1
  · intro hh
    obtain ⟨p, hp, e⟩ := h.only _ hh
    simp only [Lit.int.injEq, true_and] at e
    subst e
    refine ⟨p, ⟨hp, ?_⟩, rfl⟩
    cases hf : f p with
    | none => rw [h.no p hp hf] at hh; cases hh
    | some r => rfl
theorem MpR.perm {w : World} {B n : Nat} {D : DataW Value} {f : Nat → Option Rc} (h : MpR w B n D f) : (plcL f).Perm (intKeys D) := by
  obtain ⟨es, hD, hpw, _⟩ := h.own.entries lawK
  obtain ⟨es', hD', hko⟩ := h.own.keysOf
  obtain rfl : es = es' := by rw [hD] at hD'; simpa using hD'
  subst hD
  exact perm_intKeys hpw (fun p hp => by obtain ⟨v, hv⟩ := hko p hp; obtain ⟨x, _, hx, _⟩ := Maps.keyOf_i64 Tryz.underlying3 hv; exact ⟨x, hx⟩) ((plcL_rise f).imp (fun h => Int.ne_of_lt h)) (plcL_mem h)
theorem MpR.sorted {w : World} {B n : Nat} {D : DataW Value} {f : Nat → Option Rc} (h : MpR w B n D f) {ss : List Int} (hp : ss.Perm (intKeys D)) : ss.mergeSort (fun x y => decide (x ≤ y)) = plcL f := by
  have tr : ∀ a b c : Int, decide (a ≤ b) = true → decide (b ≤ c) = true → decide (a ≤ c) = true := fun a b c h1 h2 => by simp only [decide_eq_true_eq] at *; omega
  have tot : ∀ a b : Int, (decide (a ≤ b) || decide (b ≤ a)) = true := fun a b => by simp only [Bool.or_eq_true, decide_eq_true_eq]; omega
  refine List.Perm.eq_of_pairwise (le := fun a b => decide (a ≤ b) = true) (fun a b _ _ h1 h2 => by simp only [decide_eq_true_eq] at h1 h2; omega) (List.pairwise_mergeSort tr tot ss) ((plcL_rise f).imp fun {a b} h => by simp only [decide_eq_true_eq]; omega) (((List.mergeSort_perm ss _).trans hp).trans h.perm.symm)

theorem sorts_in (m : Nat) : AnyZI.SortsIn Tryz.prog lay_sortedA_ren Fence.wide m :=
  ⟨fun blk off cap ss W hH hblk hsz => callsIn_wide.2 (AnyM.slices_Sort_int lay_sortA blk off cap ss W hH hblk hsz),
   fun p cap W => callsIn_wide.2 (AnyM.slices_Sort_int_none lay_sortA p cap W)⟩
theorem mapsKeys_any (mb : Option Nat) (W : World) : Calls Tryz.prog 76 #[.map mb] W fun e w' => e = .returned (.func (.func 141) #[] #[.pointer (some ⟨W.heap.size, 0, none⟩)]) ∧ w' = W.alloc (.cells #[.map mb] 63) :=
  (callsIn_wide (n := 5)).1 (AnyZI.keys_in lay_keysA Fence.wide 5 trivial rfl mb W)
theorem sorted_any (B n : Nat) (D : DataW Value) (f : Nat → Option Rc) (w : World) (h : MpR w B n D f) (hn : n ≤ 1000000) :
    Calls Tryz.prog 75 #[.func (.func 141) #[] #[.pointer (some ⟨w.heap.size, 0, none⟩)]] (w.alloc (.cells #[.map (some B)] 63)) fun e w' => ∃ v, e = .returned v ∧ OwnN w' w.heap.size v (plcL f) ∧ Below w.heap.size w w' := by
  have hbl := h.lt
  have hsz := h.own.size_le
  have hseq : SeqGives Fence.wide 2 Tryz.prog 141 #[.pointer (some ⟨w.heap.size, 0, none⟩)] encZ (fun ss => ss.Perm (intKeys D)) (Maps.size D) (w.alloc (.cells #[.map (some B)] 63)) :=
    AnyZI.keys_gives (ρ := lay_keysA_ren) { lay_keysA with } Fence.wide _ trivial rfl (by omega) w.heap.size B n D _ (by simp) (by simp) (h.own.alloc _)
  have cS := AnyZI.sorted_in lay_sortedA Fence.wide 5 trivial trivial trivial trivial rfl (by omega) (sorts_in _) (enters_of Tryz.func140 (by kernel_rfl) rfl) 141 #[.pointer (some ⟨w.heap.size, 0, none⟩)] trivial (enters_of Tryz.func141 (by kernel_rfl) rfl) _ _ (by unfold maxLen; omega) (by omega) _ hseq
  change CallsIn _ _ Tryz.prog 75 _ _ _ at cS
  refine ((callsIn_wide (n := 5)).1 cS).mono ?_
  rintro e w' ⟨v, ss, rfl, hS, hrow, hnil, hb⟩
  have hs := h.sorted hS
  refine ⟨v, rfl, ?_, ((Below.refl _ w).alloc (Nat.le_refl _) _).trans (hb.mono (by simp))⟩
  have hlen : ss.length = (plcL f).length := by rw [← hs]; exact (List.mergeSort_perm ss _).length_eq.symm
  rw [hs, hlen] at hrow
  replace hrow := ownsRow_base_a hrow (base' := w.heap.size) (by simp)
  have hx : (plcL f).map encZ = intV (plcL f) := rfl
  rw [hx] at hrow
  rcases hrow.2 with ⟨hv, h0⟩ | ⟨g, cap, cur, hv, hrest⟩
  · have e0 : plcL f = [] := List.eq_nil_of_length_eq_zero h0
    rw [e0, hv]
    exact OwnN.nil _ _ _
  · have hr := hrow
    rw [hv] at hr ⊢
    exact ⟨_, _, rfl, OwnR.of hr (fun h0 => by
      have : v = .slice none 0 0 := hnil.2 (List.eq_nil_of_length_eq_zero (by omega))
      rw [this] at hv; cases hv)⟩

end Go.Proofs.YtbmkdbccdnbbjaaGreatDoor

namespace Go.Proofs.YtbmkdbccdnbbjaaGreatDoor
open Go.RowKit
set_option linter.unusedVariables false
set_option maxRecDepth 100000

def rcAt (m : Img) (p : Nat) : Option Rc :=
  if p = 9 then some (1, supL m) else if p = 10 then some (2, ctNs m.refs) else if 11 ≤ p ∧ p ≤ 14 then ((imTabs m)[p - 11]?).map (fun t => (3, t))
  else if 15 ≤ p ∧ p < 39 ∧ 0 < m.refs.getD (p - 15) 0 then some (4, [m.data.getD (p - 15) 0]) else none
def rcTo (m : Img) (K p : Nat) : Option Rc := if p < K then rcAt m p else none
theorem rcAt_tab {m : Img} {k : Nat} (hk : k < 4) : rcAt m (11 + k) = ((imTabs m)[k]?).map (fun t => (3, t)) := by
  unfold rcAt
  rw [if_neg (by omega), if_neg (by omega), if_pos (by omega), show 11 + k - 11 = k by omega]
theorem rcAt_dat {m : Img} {c : Nat} (hc : c < 24) : rcAt m (15 + c) = if 0 < m.refs.getD c 0 then some (4, [m.data.getD c 0]) else none := by
  unfold rcAt
  rw [if_neg (by omega), if_neg (by omega), if_neg (by omega), show 15 + c - 15 = c by omega]
  by_cases h : 0 < m.refs.getD c 0
  · rw [if_pos ⟨by omega, by omega, h⟩, if_pos h]
  · rw [if_neg (by intro h2; exact h h2.2.2), if_neg h]
theorem rcAt_none {m : Img} {p : Nat} (h : p < 9 ∨ 39 ≤ p) : rcAt m p = none := by
  unfold rcAt
  rw [if_neg (by omega), if_neg (by omega), if_neg (by omega), if_neg (by omega)]
theorem rcTo_two (m : Img) : setF (setF (fun _ => none) 9 (1, supL m)) 10 (2, ctNs m.refs) = rcTo m 11 := by
  funext p
  simp only [rcTo, setF]
  by_cases h1 : p = 9
  · subst h1; simp [rcAt]
  · by_cases h2 : p = 10
    · subst h2; simp [rcAt]
    · simp only [h1, h2, if_false]
      by_cases h3 : p < 11
      · rw [if_pos h3, rcAt_none (.inl (by omega))]
      · rw [if_neg h3]
theorem rcTo_tab {m : Img} {k : Nat} (hk : k < (imTabs m).length) (h4 : k < 4) : setF (rcTo m (11 + k)) (11 + k) (3, (imTabs m)[k]) = rcTo m (11 + (k + 1)) := by
  funext p
  simp only [rcTo, setF]
  by_cases h1 : p = 11 + k
  · subst h1
    rw [if_pos rfl, if_pos (by omega), rcAt_tab h4, List.getElem?_eq_getElem hk]; rfl
  · rw [if_neg h1]
    by_cases h2 : p < 11 + k
    · rw [if_pos h2, if_pos (by omega)]
    · rw [if_neg h2, if_neg (by omega)]
theorem rcTo_tabs {m : Img} (h4 : (imTabs m).length ≤ 4) : rcTo m (11 + (imTabs m).length) = rcTo m (15 + 0) := by
  funext p
  simp only [rcTo]
  by_cases h1 : p < 11 + (imTabs m).length
  · rw [if_pos h1, if_pos (by omega)]
  · rw [if_neg h1]
    by_cases h2 : p < 15 + 0
    · rw [if_pos h2]
      have hp : 11 ≤ p := by
        rcases Nat.lt_or_ge p 11 with h | h
        · exact absurd h (by omega)
        · exact h
      have := rcAt_tab (m := m) (k := p - 11) (by omega)
      rw [show 11 + (p - 11) = p by omega, List.getElem?_eq_none (by omega)] at this
      rw [this]; rfl
    · rw [if_neg h2]
theorem rcTo_dat {m : Img} {c : Nat} (hc : c < 24) (h : 0 < m.refs.getD c 0) : setF (rcTo m (15 + c)) (15 + c) (4, [m.data.getD c 0]) = rcTo m (15 + (c + 1)) := by
  funext p
  simp only [rcTo, setF]
  by_cases h1 : p = 15 + c
  · subst h1
    rw [if_pos rfl, if_pos (by omega), rcAt_dat hc, if_pos h]
  · rw [if_neg h1]
    by_cases h2 : p < 15 + c
    · rw [if_pos h2, if_pos (by omega)]
    · rw [if_neg h2, if_neg (by omega)]
theorem rcTo_no {m : Img} {c : Nat} (hc : c < 24) (h : ¬ 0 < m.refs.getD c 0) : rcTo m (15 + c) = rcTo m (15 + (c + 1)) := by
  funext p
  simp only [rcTo]
  by_cases h1 : p = 15 + c
  · subst h1
    rw [if_neg (by omega), if_pos (by omega), rcAt_dat hc, if_neg h]
  · by_cases h2 : p < 15 + c
    · rw [if_pos h2, if_pos (by omega)]
    · rw [if_neg h2, if_neg (by omega)]
theorem rcTo_all (m : Img) : rcTo m (15 + 24) = rcAt m := by
  funext p
  simp only [rcTo]
  by_cases h2 : p < 15 + 24
  · rw [if_pos h2]
  · rw [if_neg h2, rcAt_none (.inr (by omega))]

end Go.Proofs.YtbmkdbccdnbbjaaGreatDoor

namespace Go.Proofs.YtbmkdbccdnbbjaaGreatDoor
open Go.RowKit
set_option linter.unusedVariables false
set_option maxRecDepth 100000

theorem nm1_at {t : ByteArray} (h : t.data.toList.all nm1 = true) {k : Nat} (hk : k < t.size) : nm1 t[k] = true := by
  have e : t.data.toList[k]'(by simpa using hk) = t[k] := by have := snm_get hk; rw [List.getElem?_eq_getElem (by simpa using hk)] at this; exact Option.some.inj this
  rw [← e]
  exact List.all_eq_true.1 h _ (List.getElem_mem _)

set_option maxHeartbeats 1600000 in
theorem packLetters_any (t : ByteArray) (w : World) (hn : snmB t = true) :
    Calls Tryz.prog 144 #[.string t] w fun e w' => e = .returned (.int .i64 (nmN t)) ∧ Below w.heap.size w w' := by
  obtain ⟨hal, h1, h6⟩ := snm_parts hn
  have HAL := hide hal
  clear hn hal
  have hcv := fun (W : World) => Lib.run_convert_string_bytes (P := Tryz.prog) W 9 22 5 t Tryz.underlying9 Tryz.underlying22 Tryz.underlying5
  have HB := hide (below_bytes w 5 t)
  have HCL := hide (Lib.bytesWorld_cell w 5 t)
  go_enter Tryz.func144, Tryz.ntmps144
  go_wp2
  revert HB HCL
  generalize Lib.bytesWorld w 5 t = w1
  generalize grownCap w t.size 0 5 = gc
  intro HB HCL
  clear hcv
  go_loop [3, 9] (fun n i => ∃ k : Nat, k ≤ t.size ∧ i = .int .i64 k ∧ n = .int .i64 (nmK t k)) (fun _ i => t.size - (intOf i).toNat)
  case atStart => exact ⟨0, Nat.zero_le _, rfl, rfl⟩
  case round =>
    obtain ⟨k, hk, rfl, rfl⟩ := hrel
    by_cases hlt : k < t.size
    · have hlti : (k : Int) < (t.size : Int) := by omega
      have hck := unhide HCL k hlt
      have eck : (t.data.toList.getD k 0) = t[k] := by simp [List.getD, snm_get hlt]
      rw [eck] at hck
      clear eck
      have hnm := nm1_at (unhide HAL) hlt
      simp only [nm1, Bool.and_eq_true, decide_eq_true_eq] at hnm
      have HS : Hid (nmK t (k + 1) = nmK t k * 27 + ((t[k].toNat : Int) - 96)) := hide (by
        rw [nmK_succ hlt]
        have e : t.data.toList[k]'(by simpa using hlt) = t[k] := by have := snm_get hlt; rw [List.getElem?_eq_getElem (by simpa using hlt)] at this; exact Option.some.inj this
        rw [e]
        unfold ch1
        omega)
      obtain ⟨b0, b1⟩ := nmK_le t k hk
      obtain ⟨d0, d1⟩ := bd27_le k (by omega)
      obtain ⟨c0, c1⟩ := hnm
      have hu : IntKind.u8.wrap ((t[k].toNat : Int) - 96) = ((t[k].toNat : Int) - 96) := by simp [IntKind.wrap, IntKind.bits, IntKind.signed]; omega
      generalize nmK t k = X at *
      generalize hD : ((t[k].toNat : Int) - 96) = D at *
      have w1 : IntKind.i64.wrap (X * 27) = X * 27 := by rw [IntKind.wrap_i64]; omega
      have w2 : IntKind.i64.wrap D = D := by rw [IntKind.wrap_i64]; omega
      have w3 : IntKind.i64.wrap (X * 27 + D) = X * 27 + D := by rw [IntKind.wrap_i64]; omega
      have HD := hide hD
      rw [← hD] at hu w2 w3
      go_wp2
      go_round
      case rel => exact ⟨k + 1, by omega, by go_num, by rw [unhide HS]⟩
      case measure => simp [intOf]; omega
    · obtain rfl : k = t.size := by omega
      have HF := hide (nmK_all t)
      go_wp2
      go_ret
      exact ⟨ret_int (unhide HF), unhide HB⟩

end Go.Proofs.YtbmkdbccdnbbjaaGreatDoor

namespace Go.Proofs.YtbmkdbccdnbbjaaGreatDoor
open Go.RowKit
set_option linter.unusedVariables false
set_option maxRecDepth 100000

set_option maxHeartbeats 1600000 in
theorem packNames_any (so : Option Addr) (sc : Nat) (m : Img) (w : World) (hR : ImR m) (hc : Sns w so m.snaps) :
    Calls Tryz.prog 79 #[.slice so m.snaps.length sc] w fun e w' => ∃ qo qa, e = .returned (.slice qo (supL m).length qa) ∧ Is w' qo (supL m) ∧ Below w.heap.size w w' := by
  have HC := hide hc
  have HNS : Hid (∀ k (h : k < m.snaps.length), snmB m.snaps[k].name = true) := hide (fun k h => (hR.snaps _ (List.getElem_mem h)).1)
  have hs3 := hR.few
  have HSL : Hid ((supL m).length = m.snaps.length + 1) := hide (by simp [supL])
  clear hc hR
  obtain ⟨j0, hj, hy0, hy1, hy2⟩ := info_parts infoM
  go_enter Tryz.func79, Tryz.ntmps79
  go_upto_region 1 with fail
  have H0 : Hid (OwnR (w.alloc (.cells #[.int .i64 (m.snaps.length : Int)] 3)) w.heap.size 3 1 (.slice (some ⟨w.heap.size, 0, none⟩) 1 1) 1 (intV ((supL m).take 1)) ∧ Below w.heap.size w (w.alloc (.cells #[.int .i64 (m.snaps.length : Int)] 3))) := hide
    ⟨.inr ⟨by omega, by have := World.ownsRow_lit (base := w.heap.size) (e := 3) (size := 1) w #[.int .i64 (m.snaps.length : Int)] 1 (Nat.le_refl _) (by unfold maxLen; omega) rfl; simpa [supL, intV] using this⟩, Joins.below_alloc1 _ _⟩
  go_wp2
  go_loopw [3, 11] (fun o i wr => ∃ (k : Nat) (qo : Option Addr) (qa : Nat), k ≤ m.snaps.length ∧ i = .int .i64 k ∧ o = .slice qo (k + 1) qa ∧ Hid (OwnR wr w.heap.size 3 1 (.slice qo (k + 1) qa) (k + 1) (intV ((supL m).take (k + 1))) ∧ Below w.heap.size w wr)) (fun _ i _ => m.snaps.length - (intOf i).toNat)
  case atStart => exact ⟨0, _, _, Nat.zero_le _, rfl, rfl, H0⟩
  case round =>
    clear H0
    obtain ⟨k, qo, qa, hk, rfl, rfl, HO⟩ := hrel
    by_cases hlt : k < m.snaps.length
    · obtain ⟨b, off, tq, tc, eb, hn0, ht0, _, _, _⟩ := ((unhide HC).below (unhide HO).2) k hlt
      have hlti : (k : Int) < (m.snaps.length : Int) := by omega
      have HST : Hid (intV ((supL m).take (k + 1 + 1)) = intV ((supL m).take (k + 1)) ++ [.int .i64 (nmN m.snaps[k].name)]) := hide (by rw [supL_take hlt]; simp [intV])
      have HX := hide (VarN.new wr m.snaps[k].name (.slice tq m.snaps[k].table.length tc))
      have HBX := hide (Joins.below_alloc1 wr (.cells #[.string m.snaps[k].name, .slice tq m.snaps[k].table.length tc] 79))
      go_upto_region 5 with fail
      revert HX HBX
      generalize (wr.alloc _) = w2
      intro HX HBX
      obtain ⟨x0, x1⟩ := (unhide HX).cells
      have HO2 := hide ((unhide HO).1.below (unhide HBX))
      have HB2 := hide (fr (unhide HO).2 (unhide HBX))
      clear HX HBX hn0 ht0 eb HO
      go_wp2_with fail
      refine (packLetters_any m.snaps[k].name _ (unhide HNS k hlt)).mono ?_
      rintro e w3 ⟨rfl, hb3⟩
      generalize nmN m.snaps[k].name = NN at *
      have HO3 := hide ((unhide HO2).below hb3)
      have HB3 := hide (fr (unhide HB2) hb3)
      clear hb3 HO2 HB2 x0 x1
      have HOA := hide ((unhide HO3).below (Joins.below_alloc1 _ (.cells #[.int .i64 NN] 3)))
      have HBA := hide (fr (unhide HB3) (Joins.below_alloc1 _ (.cells #[.int .i64 NN] 3)))
      have HSZ := hide (unhide HB3).size
      go_wp2_with (at_builtin; refine wpList_append_one rfl _ _ 23 rfl w.heap.size 3 j0 (.int .i64 0) 1 8 Tryz.underlying23 hj hy0 hy1 hy2 rfl (by omega) qo (k + 1) qa (intV ((supL m).take (k + 1))) rfl (unhide HOA) (by have := unhide HSZ; simp; omega) ⟨w3.heap.size, 0, none⟩ _ [.int .i64 NN] rfl rfl (byte_news w3 _ _) (int_one _) (by unfold maxLen; omega) (by omega) ?_; intro g2 cap2 wA hoA hkA; have HSF := hide (And.intro hoA (keep_below (unhide HBA) (unhide HOA) (Nat.le_refl _) hkA)); clear hoA hkA)
      go_roundw
      case rel => exact ⟨k + 1, some ⟨g2, 0, none⟩, cap2, by omega, by go_num, rfl, hide ⟨.inr ⟨by omega, by rw [unhide HST]; exact (unhide HSF).1⟩, (unhide HSF).2⟩⟩
      case measure => simp [intOf]; omega
    · obtain rfl : k = m.snaps.length := by omega
      have HIS : Hid (Is wr qo (supL m)) := hide (by
        have h := (unhide HO).1
        rw [List.take_of_length_le (by rw [unhide HSL]; exact Nat.le_refl _), ← unhide HSL] at h
        exact ownRN h)
      go_wp2
      go_ret
      exact ⟨qo, qa, by rw [unhide HSL]; rfl, unhide HIS, (unhide HO).2⟩

theorem eqN_at {xs ys : List Int} {k : Nat} (h1 : k < xs.length) (h2 : k < ys.length) (h : xs[k] ≠ ys[k]) : eqNB xs ys = false := by
  simp only [eqNB, decide_eq_false_iff_not]
  intro e; subst e; exact h rfl
theorem eqN_len {xs ys : List Int} (h : xs.length ≠ ys.length) : eqNB xs ys = false := by
  simp only [eqNB, decide_eq_false_iff_not]
  intro e; subst e; exact h rfl
theorem eqN_all {xs ys : List Int} (hl : xs.length = ys.length) (h : ∀ j (h1 : j < xs.length) (h2 : j < ys.length), xs[j] = ys[j]) : eqNB xs ys = true := by
  simp only [eqNB, decide_eq_true_eq]
  exact List.ext_getElem hl (fun j h1 h2 => h j h1 h2)

set_option maxHeartbeats 1600000 in
theorem slicesEqual_any (ao bo : Option Addr) (ca cb : Nat) (xs ys : List Int) (w : World) (h1 : xs.length ≤ maxLen) (h2 : ys.length ≤ maxLen) (hx : Is w ao xs) (hy : Is w bo ys) :
    Calls Tryz.prog 142 #[.slice ao xs.length ca, .slice bo ys.length cb] w fun e w' => e = .returned (.bool (eqNB xs ys)) ∧ Below w.heap.size w w' := by
  have HX := hide hx
  have HY := hide hy
  clear hx hy
  unfold maxLen at h1 h2
  by_cases hl : xs.length = ys.length
  · have HL := hide hl
    have hlb : ((xs.length : Int) != (ys.length : Int)) = false := by simp [hl]
    clear hl
    go_enter Tryz.func142, Tryz.ntmps142
    go_wp2
    go_loopw [13] (fun i wr => ∃ k : Nat, k ≤ xs.length ∧ i = .int .i64 k ∧ Hid (∀ j (h1 : j < xs.length) (h2 : j < ys.length), j < k → xs[j] = ys[j]) ∧ Hid (Below w.heap.size w wr)) (fun i _ => xs.length - (intOf i).toNat)
    case atStart => exact ⟨0, Nat.zero_le _, rfl, hide (fun j _ _ h => by omega), hide (Below.refl _ _)⟩
    case round =>
      obtain ⟨k, hk, rfl, HA, HB⟩ := hrel
      by_cases hlt : k < xs.length
      · have hly : k < ys.length := by have := unhide HL; omega
        obtain ⟨b, off, rfl, hcx⟩ := ((unhide HX).below (unhide HB)) k hlt
        obtain ⟨b', off', rfl, hcy⟩ := ((unhide HY).below (unhide HB)) k hly
        have hi1 : (k : Int) < (xs.length : Int) := by omega
        have hi2 : (k : Int) < (ys.length : Int) := by omega
        have hi0 : (0 : Int) ≤ (k : Int) := by omega
        by_cases he : xs[k] = ys[k]
        · have HN : Hid (∀ j (h1 : j < xs.length) (h2 : j < ys.length), j < k + 1 → xs[j] = ys[j]) := hide (fun j h1 h2 hj => by
            by_cases e : j = k
            · subst e; exact he
            · exact unhide HA j h1 h2 (by omega))
          rw [← he] at hcy
          generalize xs[k] = X at *
          have hbe : (X != X) = false := by simp
          go_wp2
          go_region
          all_goals
            go_wp2
            go_roundw
            case rel => exact ⟨k + 1, by omega, by go_num, HN, hide (by exact (unhide HB).drew)⟩
            case measure => simp [intOf]; omega
        · have HF := hide (eqN_at hlt hly he)
          have hbe : (xs[k] != ys[k]) = true := by simp [he]
          generalize xs[k] = X at *
          generalize ys[k] = Y at *
          go_wp2
          go_region
          all_goals
            go_wp2
            go_ret
            exact ⟨ret_bool (unhide HF).symm, (by exact (unhide HB).drew)⟩
      · have HF := hide (eqN_all (unhide HL) (fun j h1 h2 => unhide HA j h1 h2 (by omega)))
        go_wp2
        go_ret
        exact ⟨ret_bool (unhide HF).symm, unhide HB⟩
  · have HF := hide (eqN_len hl)
    have hlb : ((xs.length : Int) != (ys.length : Int)) = true := by simp; omega
    clear hl
    go_enter Tryz.func142, Tryz.ntmps142
    go_wp2
    go_ret
    exact ⟨ret_bool (unhide HF).symm, Below.refl _ _⟩

def VarRk (w : World) (x : Nat) (r : Rc) (ao : Option Addr) (cap : Nat) : Prop := w.heap[x]? = some (.cells #[.int .i64 r.1, .slice ao r.2.length cap] 110 (0, 0))
theorem VarRk.cells {w : World} {x : Nat} {r : Rc} {ao : Option Addr} {cap : Nat} (k : VarRk w x r ao cap) : w.cell? ⟨x, 0, none⟩ = some (.int .i64 r.1) ∧ w.cell? ⟨x, 1, none⟩ = some (.slice ao r.2.length cap) := ⟨by rw [Joins.cell_of_block k]; rfl, by rw [Joins.cell_of_block k]; rfl⟩
theorem VarRk.new (w : World) (r : Rc) (ao : Option Addr) (cap : Nat) : VarRk (w.alloc (.cells #[.int .i64 r.1, .slice ao r.2.length cap] 110)) w.heap.size r ao cap := heap_alloc_new w _
theorem VarRk.below {w w' : World} {x : Nat} {r : Rc} {ao : Option Addr} {cap : Nat} (h : VarRk w x r ao cap) (hb : Below w.heap.size w w') : VarRk w' x r ao cap := block_of_below h hb
def rcEq (r s : Rc) : Bool := decide (r.1 = s.1) && eqNB r.2 s.2
theorem rcEq_iff {r s : Rc} : rcEq r s = true ↔ r = s := by
  simp only [rcEq, eqNB, Bool.and_eq_true, decide_eq_true_eq]
  exact ⟨fun h => Prod.ext h.1 h.2, fun h => by rw [h]; exact ⟨rfl, rfl⟩⟩

set_option maxHeartbeats 1600000 in
theorem like_any (r s : Rc) (ao bo : Option Addr) (ca cb : Nat) (w : World) (h1 : r.2.length ≤ maxLen) (h2 : s.2.length ≤ maxLen) (hx : Is w ao r.2) (hy : Is w bo s.2) :
    Calls Tryz.prog 77 #[rcV r ao ca, rcV s bo cb] w fun e w' => e = .returned (.bool (rcEq r s)) ∧ Below w.heap.size w w' := by
  have HV1 := hide ((VarRk.new w r ao ca).below (Joins.below_alloc1 _ (.cells #[.int .i64 s.1, .slice bo s.2.length cb] 110)))
  have HV2 : Hid (VarRk ((w.alloc (.cells #[.int .i64 r.1, .slice ao r.2.length ca] 110)).alloc (.cells #[.int .i64 s.1, .slice bo s.2.length cb] 110)) (w.heap.size + 1) s bo cb) := hide (by
    have := VarRk.new (w.alloc (.cells #[.int .i64 r.1, .slice ao r.2.length ca] 110)) s bo cb
    rwa [World.size_alloc] at this)
  have HB := hide (Joins.below_alloc2 w (.cells #[.int .i64 r.1, .slice ao r.2.length ca] 110) (.cells #[.int .i64 s.1, .slice bo s.2.length cb] 110))
  have H1 := hide h1
  have H2 := hide h2
  have HX := hide (hx.below (unhide HB))
  have HY := hide (hy.below (unhide HB))
  clear hx hy h1 h2
  unfold rcV
  go_enter Tryz.func77, Tryz.ntmps77
  go_upto_region 1 with fail
  revert HV1 HV2 HB HX HY
  generalize ((w.alloc _).alloc _) = W
  intro HV1 HV2 HB HX HY
  obtain ⟨c0, c1⟩ := (unhide HV1).cells
  obtain ⟨d0, d1⟩ := (unhide HV2).cells
  by_cases he : r.1 = s.1
  · have HF : Hid (rcEq r s = eqNB r.2 s.2) := hide (by simp [rcEq, he])
    have hbe : (r.1 == s.1) = true := by simp [he]
    go_wp2_with fail
    refine (slicesEqual_any ao bo ca cb r.2 s.2 _ (unhide H1) (unhide H2) (unhide HX) (unhide HY)).mono ?_
    rintro e w1 ⟨rfl, hb⟩
    have HB1 := hide (fr (unhide HB) hb)
    clear hb
    go_wp2
    go_ret
    exact ⟨ret_bool (unhide HF).symm, unhide HB1⟩
  · have HF : Hid (rcEq r s = false) := hide (by simp [rcEq, he])
    have hbe : (r.1 == s.1) = false := by simp [he]
    go_wp2
    go_ret
    exact ⟨ret_bool (unhide HF).symm, unhide HB⟩

def rcT (r : Rc) : ByteArray := sealT r.1 r.2

set_option maxHeartbeats 1600000 in
theorem textR_any (r : Rc) (ao : Option Addr) (ca : Nat) (w : World) (h1 : r.2.length ≤ 1048576) (hx : Is w ao r.2) :
    Calls Tryz.prog 78 #[rcV r ao ca] w fun e w' => e = .returned (.string (rcT r)) ∧ Below w.heap.size w w' := by
  have HV := hide (VarRk.new w r ao ca)
  have HB := hide (Joins.below_alloc1 w (.cells #[.int .i64 r.1, .slice ao r.2.length ca] 110))
  have HX := hide (hx.below (unhide HB))
  have H1 := hide h1
  have HT : Hid (rcT r = sealT r.1 r.2) := hide rfl
  clear hx h1
  unfold rcV
  go_enter Tryz.func78, Tryz.ntmps78
  go_upto_region 1 with fail
  revert HV HB HX
  generalize (w.alloc _) = W
  intro HV HB HX
  obtain ⟨c0, c1⟩ := (unhide HV).cells
  go_wp2_with fail
  refine (sealRecord_impl r.1 ao ca r.2 _ (unhide H1) (unhide HX)).mono ?_
  rintro e w1 ⟨rfl, hb⟩
  have HB1 := hide (fr (unhide HB) hb)
  clear hb
  go_wp2
  go_ret
  exact ⟨rfl, unhide HB1⟩

end Go.Proofs.YtbmkdbccdnbbjaaGreatDoor
