import Derived.Test.YtjoafbkcnnhdiacRows
import Derived.Test.YtjoafbkcnnhdiacXRepairPart1
import Derived.Test.YtjoafbkcnnhdiacXRepairPart2
import Derived.Test.YtjoafbkcnnhdiacXRepairPart3
import Derived.Test.YtjoafbkcnnhdiacXRepairPart4
import Derived.Test.YtjoafbkcnnhdiacXRepairPart6
import Derived.WalkKit
import Derived.WalkSpells
import Derived.KernelRfl
import Derived.LoopN
import Derived.Deep.RegionWith
import Derived.Deep.RegionHeld3
import Derived.BigQuiet
import Derived.Deep.QuietTactic
import Derived.Deep.CutRange
import Derived.Laws.ResultCell
import Derived.Deep.MidRow
import Derived.Test.YtjoafbkcnnhdiacXRepairPart5
import Derived.Lib.ConvBytes

namespace Go.Proofs.Ytjoafbkcnnhdiac
open Go.RowKit
set_option linter.unusedVariables false
set_option maxRecDepth 100000

structure CpI (W0 : World) (x : Nat) (a : Im4) (m : Img) (d : Nat → Bool) (w : World) (s3 s6 s7 s8 s9 s10 s11 s12 s13 s14 s15 s16 s17 s18 : Value) : Prop where
  b : Below W0.heap.size W0 w
  f0 : d 0 = true → s6 = .pointer (some ⟨x, 0, none⟩)
  f1 : d 1 = true → s7 = .slice a.ro m.refs.length a.rc
  f3 : d 3 = true → s9 = .pointer (some ⟨x, 1, none⟩)
  f4 : d 4 = true → s10 = .slice a.tq m.table.length a.tc
  f6 : d 6 = true → s12 = .pointer (some ⟨x, 2, none⟩)
  f7 : d 7 = true → s13 = .slice a.so m.snaps.length a.sc
  f9 : d 9 = true → s15 = .pointer (some ⟨x, 3, none⟩)
  f10 : d 10 = true → s16 = .slice a.dq m.data.length a.dc
  f2 : d 2 = true → OwnN w W0.heap.size s8 m.refs
  f5 : d 5 = true → OwnN w W0.heap.size s11 m.table ∧ Apt s8 s11
  f8 : d 8 = true → SnO w W0.heap.size s14 m.snaps
  f11 : d 11 = true → OwnN w W0.heap.size s17 m.data ∧ Apt s8 s17 ∧ Apt s11 s17
  f12 : d 12 = true → s18 = .agg #[s8, s11, s14, s17]
  f13 : d 13 = true → d 14 = false → ∃ y, s3 = .pointer (some ⟨y, 0, none⟩) ∧ W0.heap.size ≤ y ∧ VarM w y 29 (.slice none 0 0) (.slice none 0 0) (.slice none 0 0) (.slice none 0 0)
  f14 : d 14 = true → ∃ y, s3 = .pointer (some ⟨y, 0, none⟩) ∧ W0.heap.size ≤ y ∧ VarM w y 29 s8 s11 s14 s17
  c5 : d 5 = true → d 2 = true
  c8 : d 8 = true → d 5 = true
  c11 : d 11 = true → d 8 = true
  c12 : d 12 = true → d 11 = true
  c14 : d 14 = true → d 12 = true ∧ d 13 = true

theorem CpI.s0 {W0 w : World} {x : Nat} {a : Im4} {m : Img} {d : Nat → Bool} {s3 s6 s7 s8 s9 s10 s11 s12 s13 s14 s15 s16 s17 s18 v : Value} (I : CpI W0 x a m d w s3 s6 s7 s8 s9 s10 s11 s12 s13 s14 s15 s16 s17 s18) (hd : d 0 = false) (hv : v = .pointer (some ⟨x, 0, none⟩)) : CpI W0 x a m (updD d 0) w s3 v s7 s8 s9 s10 s11 s12 s13 s14 s15 s16 s17 s18 where
  b := I.b
  f0 := fun _ => hv
  f1 := fun h => I.f1 (upd_ne (by decide) h)
  f2 := fun h => I.f2 (upd_ne (by decide) h)
  f3 := fun h => I.f3 (upd_ne (by decide) h)
  f4 := fun h => I.f4 (upd_ne (by decide) h)
  f5 := fun h => I.f5 (upd_ne (by decide) h)
  f6 := fun h => I.f6 (upd_ne (by decide) h)
  f7 := fun h => I.f7 (upd_ne (by decide) h)
  f8 := fun h => I.f8 (upd_ne (by decide) h)
  f9 := fun h => I.f9 (upd_ne (by decide) h)
  f10 := fun h => I.f10 (upd_ne (by decide) h)
  f11 := fun h => I.f11 (upd_ne (by decide) h)
  f12 := fun h => I.f12 (upd_ne (by decide) h)
  f13 := fun h h' => I.f13 (upd_ne (by decide) h) (upd_nf h')
  f14 := fun h => I.f14 (upd_ne (by decide) h)
  c5 := fun h => upd_up (I.c5 (upd_ne (by decide) h))
  c8 := fun h => upd_up (I.c8 (upd_ne (by decide) h))
  c11 := fun h => upd_up (I.c11 (upd_ne (by decide) h))
  c12 := fun h => upd_up (I.c12 (upd_ne (by decide) h))
  c14 := fun h => ⟨upd_up (I.c14 (upd_ne (by decide) h)).1, upd_up (I.c14 (upd_ne (by decide) h)).2⟩

theorem CpI.s1 {W0 w : World} {x : Nat} {a : Im4} {m : Img} {d : Nat → Bool} {s3 s6 s7 s8 s9 s10 s11 s12 s13 s14 s15 s16 s17 s18 v : Value} (I : CpI W0 x a m d w s3 s6 s7 s8 s9 s10 s11 s12 s13 s14 s15 s16 s17 s18) (hd : d 1 = false) (hv : v = .slice a.ro m.refs.length a.rc) : CpI W0 x a m (updD d 1) w s3 s6 v s8 s9 s10 s11 s12 s13 s14 s15 s16 s17 s18 where
  b := I.b
  f0 := fun h => I.f0 (upd_ne (by decide) h)
  f1 := fun _ => hv
  f2 := fun h => I.f2 (upd_ne (by decide) h)
  f3 := fun h => I.f3 (upd_ne (by decide) h)
  f4 := fun h => I.f4 (upd_ne (by decide) h)
  f5 := fun h => I.f5 (upd_ne (by decide) h)
  f6 := fun h => I.f6 (upd_ne (by decide) h)
  f7 := fun h => I.f7 (upd_ne (by decide) h)
  f8 := fun h => I.f8 (upd_ne (by decide) h)
  f9 := fun h => I.f9 (upd_ne (by decide) h)
  f10 := fun h => I.f10 (upd_ne (by decide) h)
  f11 := fun h => I.f11 (upd_ne (by decide) h)
  f12 := fun h => I.f12 (upd_ne (by decide) h)
  f13 := fun h h' => I.f13 (upd_ne (by decide) h) (upd_nf h')
  f14 := fun h => I.f14 (upd_ne (by decide) h)
  c5 := fun h => upd_up (I.c5 (upd_ne (by decide) h))
  c8 := fun h => upd_up (I.c8 (upd_ne (by decide) h))
  c11 := fun h => upd_up (I.c11 (upd_ne (by decide) h))
  c12 := fun h => upd_up (I.c12 (upd_ne (by decide) h))
  c14 := fun h => ⟨upd_up (I.c14 (upd_ne (by decide) h)).1, upd_up (I.c14 (upd_ne (by decide) h)).2⟩

theorem CpI.s3 {W0 w : World} {x : Nat} {a : Im4} {m : Img} {d : Nat → Bool} {s3 s6 s7 s8 s9 s10 s11 s12 s13 s14 s15 s16 s17 s18 v : Value} (I : CpI W0 x a m d w s3 s6 s7 s8 s9 s10 s11 s12 s13 s14 s15 s16 s17 s18) (hd : d 3 = false) (hv : v = .pointer (some ⟨x, 1, none⟩)) : CpI W0 x a m (updD d 3) w s3 s6 s7 s8 v s10 s11 s12 s13 s14 s15 s16 s17 s18 where
  b := I.b
  f0 := fun h => I.f0 (upd_ne (by decide) h)
  f1 := fun h => I.f1 (upd_ne (by decide) h)
  f2 := fun h => I.f2 (upd_ne (by decide) h)
  f3 := fun _ => hv
  f4 := fun h => I.f4 (upd_ne (by decide) h)
  f5 := fun h => I.f5 (upd_ne (by decide) h)
  f6 := fun h => I.f6 (upd_ne (by decide) h)
  f7 := fun h => I.f7 (upd_ne (by decide) h)
  f8 := fun h => I.f8 (upd_ne (by decide) h)
  f9 := fun h => I.f9 (upd_ne (by decide) h)
  f10 := fun h => I.f10 (upd_ne (by decide) h)
  f11 := fun h => I.f11 (upd_ne (by decide) h)
  f12 := fun h => I.f12 (upd_ne (by decide) h)
  f13 := fun h h' => I.f13 (upd_ne (by decide) h) (upd_nf h')
  f14 := fun h => I.f14 (upd_ne (by decide) h)
  c5 := fun h => upd_up (I.c5 (upd_ne (by decide) h))
  c8 := fun h => upd_up (I.c8 (upd_ne (by decide) h))
  c11 := fun h => upd_up (I.c11 (upd_ne (by decide) h))
  c12 := fun h => upd_up (I.c12 (upd_ne (by decide) h))
  c14 := fun h => ⟨upd_up (I.c14 (upd_ne (by decide) h)).1, upd_up (I.c14 (upd_ne (by decide) h)).2⟩

theorem CpI.s4 {W0 w : World} {x : Nat} {a : Im4} {m : Img} {d : Nat → Bool} {s3 s6 s7 s8 s9 s10 s11 s12 s13 s14 s15 s16 s17 s18 v : Value} (I : CpI W0 x a m d w s3 s6 s7 s8 s9 s10 s11 s12 s13 s14 s15 s16 s17 s18) (hd : d 4 = false) (hv : v = .slice a.tq m.table.length a.tc) : CpI W0 x a m (updD d 4) w s3 s6 s7 s8 s9 v s11 s12 s13 s14 s15 s16 s17 s18 where
  b := I.b
  f0 := fun h => I.f0 (upd_ne (by decide) h)
  f1 := fun h => I.f1 (upd_ne (by decide) h)
  f2 := fun h => I.f2 (upd_ne (by decide) h)
  f3 := fun h => I.f3 (upd_ne (by decide) h)
  f4 := fun _ => hv
  f5 := fun h => I.f5 (upd_ne (by decide) h)
  f6 := fun h => I.f6 (upd_ne (by decide) h)
  f7 := fun h => I.f7 (upd_ne (by decide) h)
  f8 := fun h => I.f8 (upd_ne (by decide) h)
  f9 := fun h => I.f9 (upd_ne (by decide) h)
  f10 := fun h => I.f10 (upd_ne (by decide) h)
  f11 := fun h => I.f11 (upd_ne (by decide) h)
  f12 := fun h => I.f12 (upd_ne (by decide) h)
  f13 := fun h h' => I.f13 (upd_ne (by decide) h) (upd_nf h')
  f14 := fun h => I.f14 (upd_ne (by decide) h)
  c5 := fun h => upd_up (I.c5 (upd_ne (by decide) h))
  c8 := fun h => upd_up (I.c8 (upd_ne (by decide) h))
  c11 := fun h => upd_up (I.c11 (upd_ne (by decide) h))
  c12 := fun h => upd_up (I.c12 (upd_ne (by decide) h))
  c14 := fun h => ⟨upd_up (I.c14 (upd_ne (by decide) h)).1, upd_up (I.c14 (upd_ne (by decide) h)).2⟩

theorem CpI.s6 {W0 w : World} {x : Nat} {a : Im4} {m : Img} {d : Nat → Bool} {s3 s6 s7 s8 s9 s10 s11 s12 s13 s14 s15 s16 s17 s18 v : Value} (I : CpI W0 x a m d w s3 s6 s7 s8 s9 s10 s11 s12 s13 s14 s15 s16 s17 s18) (hd : d 6 = false) (hv : v = .pointer (some ⟨x, 2, none⟩)) : CpI W0 x a m (updD d 6) w s3 s6 s7 s8 s9 s10 s11 v s13 s14 s15 s16 s17 s18 where
  b := I.b
  f0 := fun h => I.f0 (upd_ne (by decide) h)
  f1 := fun h => I.f1 (upd_ne (by decide) h)
  f2 := fun h => I.f2 (upd_ne (by decide) h)
  f3 := fun h => I.f3 (upd_ne (by decide) h)
  f4 := fun h => I.f4 (upd_ne (by decide) h)
  f5 := fun h => I.f5 (upd_ne (by decide) h)
  f6 := fun _ => hv
  f7 := fun h => I.f7 (upd_ne (by decide) h)
  f8 := fun h => I.f8 (upd_ne (by decide) h)
  f9 := fun h => I.f9 (upd_ne (by decide) h)
  f10 := fun h => I.f10 (upd_ne (by decide) h)
  f11 := fun h => I.f11 (upd_ne (by decide) h)
  f12 := fun h => I.f12 (upd_ne (by decide) h)
  f13 := fun h h' => I.f13 (upd_ne (by decide) h) (upd_nf h')
  f14 := fun h => I.f14 (upd_ne (by decide) h)
  c5 := fun h => upd_up (I.c5 (upd_ne (by decide) h))
  c8 := fun h => upd_up (I.c8 (upd_ne (by decide) h))
  c11 := fun h => upd_up (I.c11 (upd_ne (by decide) h))
  c12 := fun h => upd_up (I.c12 (upd_ne (by decide) h))
  c14 := fun h => ⟨upd_up (I.c14 (upd_ne (by decide) h)).1, upd_up (I.c14 (upd_ne (by decide) h)).2⟩

theorem CpI.s7 {W0 w : World} {x : Nat} {a : Im4} {m : Img} {d : Nat → Bool} {s3 s6 s7 s8 s9 s10 s11 s12 s13 s14 s15 s16 s17 s18 v : Value} (I : CpI W0 x a m d w s3 s6 s7 s8 s9 s10 s11 s12 s13 s14 s15 s16 s17 s18) (hd : d 7 = false) (hv : v = .slice a.so m.snaps.length a.sc) : CpI W0 x a m (updD d 7) w s3 s6 s7 s8 s9 s10 s11 s12 v s14 s15 s16 s17 s18 where
  b := I.b
  f0 := fun h => I.f0 (upd_ne (by decide) h)
  f1 := fun h => I.f1 (upd_ne (by decide) h)
  f2 := fun h => I.f2 (upd_ne (by decide) h)
  f3 := fun h => I.f3 (upd_ne (by decide) h)
  f4 := fun h => I.f4 (upd_ne (by decide) h)
  f5 := fun h => I.f5 (upd_ne (by decide) h)
  f6 := fun h => I.f6 (upd_ne (by decide) h)
  f7 := fun _ => hv
  f8 := fun h => I.f8 (upd_ne (by decide) h)
  f9 := fun h => I.f9 (upd_ne (by decide) h)
  f10 := fun h => I.f10 (upd_ne (by decide) h)
  f11 := fun h => I.f11 (upd_ne (by decide) h)
  f12 := fun h => I.f12 (upd_ne (by decide) h)
  f13 := fun h h' => I.f13 (upd_ne (by decide) h) (upd_nf h')
  f14 := fun h => I.f14 (upd_ne (by decide) h)
  c5 := fun h => upd_up (I.c5 (upd_ne (by decide) h))
  c8 := fun h => upd_up (I.c8 (upd_ne (by decide) h))
  c11 := fun h => upd_up (I.c11 (upd_ne (by decide) h))
  c12 := fun h => upd_up (I.c12 (upd_ne (by decide) h))
  c14 := fun h => ⟨upd_up (I.c14 (upd_ne (by decide) h)).1, upd_up (I.c14 (upd_ne (by decide) h)).2⟩

theorem CpI.s9 {W0 w : World} {x : Nat} {a : Im4} {m : Img} {d : Nat → Bool} {s3 s6 s7 s8 s9 s10 s11 s12 s13 s14 s15 s16 s17 s18 v : Value} (I : CpI W0 x a m d w s3 s6 s7 s8 s9 s10 s11 s12 s13 s14 s15 s16 s17 s18) (hd : d 9 = false) (hv : v = .pointer (some ⟨x, 3, none⟩)) : CpI W0 x a m (updD d 9) w s3 s6 s7 s8 s9 s10 s11 s12 s13 s14 v s16 s17 s18 where
  b := I.b
  f0 := fun h => I.f0 (upd_ne (by decide) h)
  f1 := fun h => I.f1 (upd_ne (by decide) h)
  f2 := fun h => I.f2 (upd_ne (by decide) h)
  f3 := fun h => I.f3 (upd_ne (by decide) h)
  f4 := fun h => I.f4 (upd_ne (by decide) h)
  f5 := fun h => I.f5 (upd_ne (by decide) h)
  f6 := fun h => I.f6 (upd_ne (by decide) h)
  f7 := fun h => I.f7 (upd_ne (by decide) h)
  f8 := fun h => I.f8 (upd_ne (by decide) h)
  f9 := fun _ => hv
  f10 := fun h => I.f10 (upd_ne (by decide) h)
  f11 := fun h => I.f11 (upd_ne (by decide) h)
  f12 := fun h => I.f12 (upd_ne (by decide) h)
  f13 := fun h h' => I.f13 (upd_ne (by decide) h) (upd_nf h')
  f14 := fun h => I.f14 (upd_ne (by decide) h)
  c5 := fun h => upd_up (I.c5 (upd_ne (by decide) h))
  c8 := fun h => upd_up (I.c8 (upd_ne (by decide) h))
  c11 := fun h => upd_up (I.c11 (upd_ne (by decide) h))
  c12 := fun h => upd_up (I.c12 (upd_ne (by decide) h))
  c14 := fun h => ⟨upd_up (I.c14 (upd_ne (by decide) h)).1, upd_up (I.c14 (upd_ne (by decide) h)).2⟩

theorem CpI.s10 {W0 w : World} {x : Nat} {a : Im4} {m : Img} {d : Nat → Bool} {s3 s6 s7 s8 s9 s10 s11 s12 s13 s14 s15 s16 s17 s18 v : Value} (I : CpI W0 x a m d w s3 s6 s7 s8 s9 s10 s11 s12 s13 s14 s15 s16 s17 s18) (hd : d 10 = false) (hv : v = .slice a.dq m.data.length a.dc) : CpI W0 x a m (updD d 10) w s3 s6 s7 s8 s9 s10 s11 s12 s13 s14 s15 v s17 s18 where
  b := I.b
  f0 := fun h => I.f0 (upd_ne (by decide) h)
  f1 := fun h => I.f1 (upd_ne (by decide) h)
  f2 := fun h => I.f2 (upd_ne (by decide) h)
  f3 := fun h => I.f3 (upd_ne (by decide) h)
  f4 := fun h => I.f4 (upd_ne (by decide) h)
  f5 := fun h => I.f5 (upd_ne (by decide) h)
  f6 := fun h => I.f6 (upd_ne (by decide) h)
  f7 := fun h => I.f7 (upd_ne (by decide) h)
  f8 := fun h => I.f8 (upd_ne (by decide) h)
  f9 := fun h => I.f9 (upd_ne (by decide) h)
  f10 := fun _ => hv
  f11 := fun h => I.f11 (upd_ne (by decide) h)
  f12 := fun h => I.f12 (upd_ne (by decide) h)
  f13 := fun h h' => I.f13 (upd_ne (by decide) h) (upd_nf h')
  f14 := fun h => I.f14 (upd_ne (by decide) h)
  c5 := fun h => upd_up (I.c5 (upd_ne (by decide) h))
  c8 := fun h => upd_up (I.c8 (upd_ne (by decide) h))
  c11 := fun h => upd_up (I.c11 (upd_ne (by decide) h))
  c12 := fun h => upd_up (I.c12 (upd_ne (by decide) h))
  c14 := fun h => ⟨upd_up (I.c14 (upd_ne (by decide) h)).1, upd_up (I.c14 (upd_ne (by decide) h)).2⟩

theorem CpI.s2 {W0 w w2 : World} {x : Nat} {a : Im4} {m : Img} {d : Nat → Bool} {s3 s6 s7 s8 s9 s10 s11 s12 s13 s14 s15 s16 s17 s18 v : Value} (I : CpI W0 x a m d w s3 s6 s7 s8 s9 s10 s11 s12 s13 s14 s15 s16 s17 s18) (hd : d 2 = false) (hb : Below w.heap.size w w2) (hv : OwnN w2 w.heap.size v m.refs) : CpI W0 x a m (updD d 2) w2 s3 s6 s7 v s9 s10 s11 s12 s13 s14 s15 s16 s17 s18 where
  b := fr I.b hb
  f0 := fun h => I.f0 (upd_ne (by decide) h)
  f1 := fun h => I.f1 (upd_ne (by decide) h)
  f2 := fun _ => hv.base I.b.size
  f3 := fun h => I.f3 (upd_ne (by decide) h)
  f4 := fun h => I.f4 (upd_ne (by decide) h)
  f5 := fun h => no_d (I.c5 (upd_ne (by decide) h)) hd
  f6 := fun h => I.f6 (upd_ne (by decide) h)
  f7 := fun h => I.f7 (upd_ne (by decide) h)
  f8 := fun h => (I.f8 (upd_ne (by decide) h)).below hb
  f9 := fun h => I.f9 (upd_ne (by decide) h)
  f10 := fun h => I.f10 (upd_ne (by decide) h)
  f11 := fun h => no_d (I.c5 (I.c8 (I.c11 (upd_ne (by decide) h)))) hd
  f12 := fun h => no_d (I.c5 (I.c8 (I.c11 (I.c12 (upd_ne (by decide) h))))) hd
  f13 := fun h h' => (I.f13 (upd_ne (by decide) h) (upd_nf h')).imp fun y hy => ⟨hy.1, hy.2.1, hy.2.2.below hb⟩
  f14 := fun h => no_d (I.c5 (I.c8 (I.c11 (I.c12 (I.c14 (upd_ne (by decide) h)).1)))) hd
  c5 := fun h => upd_at
  c8 := fun h => upd_up (I.c8 (upd_ne (by decide) h))
  c11 := fun h => upd_up (I.c11 (upd_ne (by decide) h))
  c12 := fun h => upd_up (I.c12 (upd_ne (by decide) h))
  c14 := fun h => ⟨upd_up (I.c14 (upd_ne (by decide) h)).1, upd_up (I.c14 (upd_ne (by decide) h)).2⟩

theorem CpI.s5 {W0 w w2 : World} {x : Nat} {a : Im4} {m : Img} {d : Nat → Bool} {s3 s6 s7 s8 s9 s10 s11 s12 s13 s14 s15 s16 s17 s18 v : Value} (I : CpI W0 x a m d w s3 s6 s7 s8 s9 s10 s11 s12 s13 s14 s15 s16 s17 s18) (hd : d 5 = false) (hb : Below w.heap.size w w2) (p2 : d 2 = true) (hv : OwnN w2 w.heap.size v m.table) : CpI W0 x a m (updD d 5) w2 s3 s6 s7 s8 s9 s10 v s12 s13 s14 s15 s16 s17 s18 where
  b := fr I.b hb
  f0 := fun h => I.f0 (upd_ne (by decide) h)
  f1 := fun h => I.f1 (upd_ne (by decide) h)
  f2 := fun h => (I.f2 (upd_ne (by decide) h)).below hb
  f3 := fun h => I.f3 (upd_ne (by decide) h)
  f4 := fun h => I.f4 (upd_ne (by decide) h)
  f5 := fun _ => ⟨hv.base I.b.size, fresh_apart (I.f2 p2) hv⟩
  f6 := fun h => I.f6 (upd_ne (by decide) h)
  f7 := fun h => I.f7 (upd_ne (by decide) h)
  f8 := fun h => (I.f8 (upd_ne (by decide) h)).below hb
  f9 := fun h => I.f9 (upd_ne (by decide) h)
  f10 := fun h => I.f10 (upd_ne (by decide) h)
  f11 := fun h => no_d (I.c8 (I.c11 (upd_ne (by decide) h))) hd
  f12 := fun h => no_d (I.c8 (I.c11 (I.c12 (upd_ne (by decide) h)))) hd
  f13 := fun h h' => (I.f13 (upd_ne (by decide) h) (upd_nf h')).imp fun y hy => ⟨hy.1, hy.2.1, hy.2.2.below hb⟩
  f14 := fun h => no_d (I.c8 (I.c11 (I.c12 (I.c14 (upd_ne (by decide) h)).1))) hd
  c5 := fun h => upd_up p2
  c8 := fun h => upd_at
  c11 := fun h => upd_up (I.c11 (upd_ne (by decide) h))
  c12 := fun h => upd_up (I.c12 (upd_ne (by decide) h))
  c14 := fun h => ⟨upd_up (I.c14 (upd_ne (by decide) h)).1, upd_up (I.c14 (upd_ne (by decide) h)).2⟩

theorem CpI.s8 {W0 w w2 : World} {x : Nat} {a : Im4} {m : Img} {d : Nat → Bool} {s3 s6 s7 s8 s9 s10 s11 s12 s13 s14 s15 s16 s17 s18 v : Value} (I : CpI W0 x a m d w s3 s6 s7 s8 s9 s10 s11 s12 s13 s14 s15 s16 s17 s18) (hd : d 8 = false) (hb : Below w.heap.size w w2) (p5 : d 5 = true) (hv : SnO w2 w.heap.size v m.snaps) : CpI W0 x a m (updD d 8) w2 s3 s6 s7 s8 s9 s10 s11 s12 s13 v s15 s16 s17 s18 where
  b := fr I.b hb
  f0 := fun h => I.f0 (upd_ne (by decide) h)
  f1 := fun h => I.f1 (upd_ne (by decide) h)
  f2 := fun h => (I.f2 (upd_ne (by decide) h)).below hb
  f3 := fun h => I.f3 (upd_ne (by decide) h)
  f4 := fun h => I.f4 (upd_ne (by decide) h)
  f5 := fun h => ⟨(I.f5 (upd_ne (by decide) h)).1.below hb, (I.f5 (upd_ne (by decide) h)).2⟩
  f6 := fun h => I.f6 (upd_ne (by decide) h)
  f7 := fun h => I.f7 (upd_ne (by decide) h)
  f8 := fun _ => hv.base I.b.size
  f9 := fun h => I.f9 (upd_ne (by decide) h)
  f10 := fun h => I.f10 (upd_ne (by decide) h)
  f11 := fun h => ⟨(I.f11 (upd_ne (by decide) h)).1.below hb, (I.f11 (upd_ne (by decide) h)).2⟩
  f12 := fun h => no_d (I.c11 (I.c12 (upd_ne (by decide) h))) hd
  f13 := fun h h' => (I.f13 (upd_ne (by decide) h) (upd_nf h')).imp fun y hy => ⟨hy.1, hy.2.1, hy.2.2.below hb⟩
  f14 := fun h => no_d (I.c11 (I.c12 (I.c14 (upd_ne (by decide) h)).1)) hd
  c5 := fun h => upd_up (I.c5 (upd_ne (by decide) h))
  c8 := fun h => upd_up p5
  c11 := fun h => upd_at
  c12 := fun h => upd_up (I.c12 (upd_ne (by decide) h))
  c14 := fun h => ⟨upd_up (I.c14 (upd_ne (by decide) h)).1, upd_up (I.c14 (upd_ne (by decide) h)).2⟩

theorem CpI.s11 {W0 w w2 : World} {x : Nat} {a : Im4} {m : Img} {d : Nat → Bool} {s3 s6 s7 s8 s9 s10 s11 s12 s13 s14 s15 s16 s17 s18 v : Value} (I : CpI W0 x a m d w s3 s6 s7 s8 s9 s10 s11 s12 s13 s14 s15 s16 s17 s18) (hd : d 11 = false) (hb : Below w.heap.size w w2) (p8 : d 8 = true) (hv : OwnN w2 w.heap.size v m.data) : CpI W0 x a m (updD d 11) w2 s3 s6 s7 s8 s9 s10 s11 s12 s13 s14 s15 s16 v s18 where
  b := fr I.b hb
  f0 := fun h => I.f0 (upd_ne (by decide) h)
  f1 := fun h => I.f1 (upd_ne (by decide) h)
  f2 := fun h => (I.f2 (upd_ne (by decide) h)).below hb
  f3 := fun h => I.f3 (upd_ne (by decide) h)
  f4 := fun h => I.f4 (upd_ne (by decide) h)
  f5 := fun h => ⟨(I.f5 (upd_ne (by decide) h)).1.below hb, (I.f5 (upd_ne (by decide) h)).2⟩
  f6 := fun h => I.f6 (upd_ne (by decide) h)
  f7 := fun h => I.f7 (upd_ne (by decide) h)
  f8 := fun h => (I.f8 (upd_ne (by decide) h)).below hb
  f9 := fun h => I.f9 (upd_ne (by decide) h)
  f10 := fun h => I.f10 (upd_ne (by decide) h)
  f11 := fun _ => ⟨hv.base I.b.size, fresh_apart (I.f2 (I.c5 (I.c8 p8))) hv, fresh_apart (I.f5 (I.c8 p8)).1 hv⟩
  f12 := fun h => no_d (I.c12 (upd_ne (by decide) h)) hd
  f13 := fun h h' => (I.f13 (upd_ne (by decide) h) (upd_nf h')).imp fun y hy => ⟨hy.1, hy.2.1, hy.2.2.below hb⟩
  f14 := fun h => no_d (I.c12 (I.c14 (upd_ne (by decide) h)).1) hd
  c5 := fun h => upd_up (I.c5 (upd_ne (by decide) h))
  c8 := fun h => upd_up (I.c8 (upd_ne (by decide) h))
  c11 := fun h => upd_up p8
  c12 := fun h => upd_at
  c14 := fun h => ⟨upd_up (I.c14 (upd_ne (by decide) h)).1, upd_up (I.c14 (upd_ne (by decide) h)).2⟩

theorem CpI.s12 {W0 w : World} {x : Nat} {a : Im4} {m : Img} {d : Nat → Bool} {s3 s6 s7 s8 s9 s10 s11 s12 s13 s14 s15 s16 s17 s18 v : Value} (I : CpI W0 x a m d w s3 s6 s7 s8 s9 s10 s11 s12 s13 s14 s15 s16 s17 s18) (hd : d 12 = false) (p11 : d 11 = true) (hv : v = .agg #[s8, s11, s14, s17]) : CpI W0 x a m (updD d 12) w s3 s6 s7 s8 s9 s10 s11 s12 s13 s14 s15 s16 s17 v where
  b := I.b
  f0 := fun h => I.f0 (upd_ne (by decide) h)
  f1 := fun h => I.f1 (upd_ne (by decide) h)
  f2 := fun h => I.f2 (upd_ne (by decide) h)
  f3 := fun h => I.f3 (upd_ne (by decide) h)
  f4 := fun h => I.f4 (upd_ne (by decide) h)
  f5 := fun h => I.f5 (upd_ne (by decide) h)
  f6 := fun h => I.f6 (upd_ne (by decide) h)
  f7 := fun h => I.f7 (upd_ne (by decide) h)
  f8 := fun h => I.f8 (upd_ne (by decide) h)
  f9 := fun h => I.f9 (upd_ne (by decide) h)
  f10 := fun h => I.f10 (upd_ne (by decide) h)
  f11 := fun h => I.f11 (upd_ne (by decide) h)
  f12 := fun _ => hv
  f13 := fun h h' => I.f13 (upd_ne (by decide) h) (upd_nf h')
  f14 := fun h => no_d ((I.c14 (upd_ne (by decide) h)).1) hd
  c5 := fun h => upd_up (I.c5 (upd_ne (by decide) h))
  c8 := fun h => upd_up (I.c8 (upd_ne (by decide) h))
  c11 := fun h => upd_up (I.c11 (upd_ne (by decide) h))
  c12 := fun h => upd_up p11
  c14 := fun h => ⟨upd_at, upd_up (I.c14 (upd_ne (by decide) h)).2⟩

theorem CpI.s13 {W0 w w2 : World} {x : Nat} {a : Im4} {m : Img} {d : Nat → Bool} {s3 s6 s7 s8 s9 s10 s11 s12 s13 s14 s15 s16 s17 s18 v : Value} (I : CpI W0 x a m d w s3 s6 s7 s8 s9 s10 s11 s12 s13 s14 s15 s16 s17 s18) (hd : d 13 = false) (hb : Below w.heap.size w w2) {y : Nat} (hv : v = .pointer (some ⟨y, 0, none⟩)) (hy : W0.heap.size ≤ y) (hn : VarM w2 y 29 (.slice none 0 0) (.slice none 0 0) (.slice none 0 0) (.slice none 0 0)) : CpI W0 x a m (updD d 13) w2 v s6 s7 s8 s9 s10 s11 s12 s13 s14 s15 s16 s17 s18 where
  b := fr I.b hb
  f0 := fun h => I.f0 (upd_ne (by decide) h)
  f1 := fun h => I.f1 (upd_ne (by decide) h)
  f2 := fun h => (I.f2 (upd_ne (by decide) h)).below hb
  f3 := fun h => I.f3 (upd_ne (by decide) h)
  f4 := fun h => I.f4 (upd_ne (by decide) h)
  f5 := fun h => ⟨(I.f5 (upd_ne (by decide) h)).1.below hb, (I.f5 (upd_ne (by decide) h)).2⟩
  f6 := fun h => I.f6 (upd_ne (by decide) h)
  f7 := fun h => I.f7 (upd_ne (by decide) h)
  f8 := fun h => (I.f8 (upd_ne (by decide) h)).below hb
  f9 := fun h => I.f9 (upd_ne (by decide) h)
  f10 := fun h => I.f10 (upd_ne (by decide) h)
  f11 := fun h => ⟨(I.f11 (upd_ne (by decide) h)).1.below hb, (I.f11 (upd_ne (by decide) h)).2⟩
  f12 := fun h => I.f12 (upd_ne (by decide) h)
  f13 := fun _ _ => ⟨y, hv, hy, hn⟩
  f14 := fun h => no_d ((I.c14 (upd_ne (by decide) h)).2) hd
  c5 := fun h => upd_up (I.c5 (upd_ne (by decide) h))
  c8 := fun h => upd_up (I.c8 (upd_ne (by decide) h))
  c11 := fun h => upd_up (I.c11 (upd_ne (by decide) h))
  c12 := fun h => upd_up (I.c12 (upd_ne (by decide) h))
  c14 := fun h => ⟨upd_up (I.c14 (upd_ne (by decide) h)).1, upd_at⟩

theorem SnO.slice {w : World} {B : Nat} {v : Value} {ss : List Snp} (h : SnO w B v ss) : ∃ qo qa, v = .slice qo ss.length qa := by obtain ⟨qo, qa, _, e, _⟩ := h; exact ⟨qo, qa, e⟩
theorem SnO.keep {S : Nat → Prop} {w w' : World} {B x t : Nat} {c : Array Value} {v : Value} {ss : List Snp} (h : SnO w B v ss) (hk : Keep S w w') (hs : ∀ k, S k → k = x) (hx : w.heap[x]? = some (.cells c t (0, 0))) (he : t ≠ 66) : SnO w' B v ss := by
  obtain ⟨qo, qa, ts, e, l, o⟩ := h
  exact ⟨qo, qa, ts, e, l, o.keep hk (fun g hg hS => o.other hx he (hs g hS ▸ hg))⟩
theorem CpI.s14 {W0 w w2 : World} {x y : Nat} {a : Im4} {m : Img} {d : Nat → Bool} {s3 s6 s7 s8 s9 s10 s11 s12 s13 s14 s15 s16 s17 s18 : Value} (I : CpI W0 x a m d w s3 s6 s7 s8 s9 s10 s11 s12 s13 s14 s15 s16 s17 s18) (hd : d 14 = false) (p12 : d 12 = true) (p13 : d 13 = true) (hy : s3 = .pointer (some ⟨y, 0, none⟩)) (hB : W0.heap.size ≤ y) (hv : w.heap[y]? = some (.cells #[.slice none 0 0, .slice none 0 0, .slice none 0 0, .slice none 0 0] 29 (0, 0))) (hk : Keep (fun k => k = y) w w2) (hn : VarM w2 y 29 s8 s11 s14 s17) : CpI W0 x a m (updD d 14) w2 s3 s6 s7 s8 s9 s10 s11 s12 s13 s14 s15 s16 s17 s18 where
  b := I.b.trans (hk.below I.b.size (fun k e => by omega))
  f0 := fun h => I.f0 (upd_ne (by decide) h)
  f1 := fun h => I.f1 (upd_ne (by decide) h)
  f2 := fun h => (I.f2 (upd_ne (by decide) h)).keep hk (fun g hg e => (I.f2 (upd_ne (by decide) h)).other hv (by decide) (e ▸ hg))
  f3 := fun h => I.f3 (upd_ne (by decide) h)
  f4 := fun h => I.f4 (upd_ne (by decide) h)
  f5 := fun h => ⟨(I.f5 (upd_ne (by decide) h)).1.keep hk (fun g hg e => (I.f5 (upd_ne (by decide) h)).1.other hv (by decide) (e ▸ hg)), (I.f5 (upd_ne (by decide) h)).2⟩
  f6 := fun h => I.f6 (upd_ne (by decide) h)
  f7 := fun h => I.f7 (upd_ne (by decide) h)
  f8 := fun h => (I.f8 (upd_ne (by decide) h)).keep hk (fun k e => e) hv (by decide)
  f9 := fun h => I.f9 (upd_ne (by decide) h)
  f10 := fun h => I.f10 (upd_ne (by decide) h)
  f11 := fun h => ⟨(I.f11 (upd_ne (by decide) h)).1.keep hk (fun g hg e => (I.f11 (upd_ne (by decide) h)).1.other hv (by decide) (e ▸ hg)), (I.f11 (upd_ne (by decide) h)).2⟩
  f12 := fun h => I.f12 (upd_ne (by decide) h)
  f13 := fun h h' => no_d (k := 14) upd_at h'
  f14 := fun h => ⟨y, hy, hB, hn⟩
  c5 := fun h => upd_up (I.c5 (upd_ne (by decide) h))
  c8 := fun h => upd_up (I.c8 (upd_ne (by decide) h))
  c11 := fun h => upd_up (I.c11 (upd_ne (by decide) h))
  c12 := fun h => upd_up (I.c12 (upd_ne (by decide) h))
  c14 := fun h => ⟨upd_up p12, upd_up p13⟩

abbrev cpyF (v0 : Value) (x r : Nat) (s3 s6 s7 s8 s9 s10 s11 s12 s13 s14 s15 s16 s17 s18 : Value) : Act := ⟨#[v0, .pointer (some ⟨x, 0, none⟩), .pointer (some ⟨r, 0, none⟩), s3, undef, undef, s6, s7, s8, s9, s10, s11, s12, s13, s14, s15, s16, s17, s18, undef, undef, undef, undef, undef, undef, undef, undef, undef, undef, undef, undef, undef, undef, undef, undef, undef, undef], []⟩
def CpInv (W0 : World) (x r : Nat) (a : Im4) (m : Img) (d : Nat → Bool) (f : Act) (w : World) : Prop := ∃ s3 s6 s7 s8 s9 s10 s11 s12 s13 s14 s15 s16 s17 s18, f = cpyF (imV a m) x r s3 s6 s7 s8 s9 s10 s11 s12 s13 s14 s15 s16 s17 s18 ∧ CpI W0 x a m d w s3 s6 s7 s8 s9 s10 s11 s12 s13 s14 s15 s16 s17 s18
theorem CpInv.start (W0 : World) (x r : Nat) (a : Im4) (m : Img) (w : World) (hb : Below W0.heap.size W0 w) : CpInv W0 x r a m (fun _ => false) (cpyF (imV a m) x r undef undef undef undef undef undef undef undef undef undef undef undef undef undef) w :=
  ⟨undef, undef, undef, undef, undef, undef, undef, undef, undef, undef, undef, undef, undef, undef, rfl, ⟨hb, fun h => (by cases h), fun h => (by cases h), fun h => (by cases h), fun h => (by cases h), fun h => (by cases h), fun h => (by cases h), fun h => (by cases h), fun h => (by cases h), fun h => (by cases h), fun h => (by cases h), fun h => (by cases h), fun h => (by cases h), fun h => (by cases h), fun h => (by cases h), fun h => (by cases h), fun h => (by cases h), fun h => (by cases h), fun h => (by cases h), fun h => (by cases h), fun h => (by cases h)⟩⟩

theorem snC_put : ∀ (ss : List Snp) (ts : List Value) (k : Nat) (v : Value), ss.length = ts.length → (snC ss ts).set (k * 2 + 1) v = snC ss (ts.set k v)
  | [], [], _, _, _ => rfl
  | s :: ss, t :: ts, 0, v, h => rfl
  | s :: ss, t :: ts, k + 1, v, h => by
    have := snC_put ss ts k v (by simpa using h)
    rw [show (k + 1) * 2 + 1 = k * 2 + 1 + 1 + 1 by omega]
    simp only [snC, List.set_cons_succ, this]
structure CpL (W0 : World) (y : Nat) (m : Img) (q8 : Option Addr) (c8 : Nat) (q11 : Option Addr) (c11 : Nat) (q17 : Option Addr) (c17 : Nat) (qo : Option Addr) (qa : Nat) (w : World) (k : Nat) (ts : List Value) : Prop where
  b : Below W0.heap.size W0 w
  v : VarM w y 29 (.slice q8 m.refs.length c8) (.slice q11 m.table.length c11) (.slice qo m.snaps.length qa) (.slice q17 m.data.length c17)
  l : m.snaps.length = ts.length
  s : OwnR w W0.heap.size 66 2 (.slice qo m.snaps.length qa) m.snaps.length (snC m.snaps ts)
  r : OwnA w W0.heap.size ((.slice q8 m.refs.length c8, m.refs) :: (.slice q11 m.table.length c11, m.table) :: (.slice q17 m.data.length c17, m.data) :: (ts.take k).zip ((m.snaps.map (·.table)).take k))
theorem CpL.below {W0 w w' : World} {y : Nat} {m : Img} {q8 q11 q17 qo : Option Addr} {c8 c11 c17 qa k : Nat} {ts : List Value} (h : CpL W0 y m q8 c8 q11 c11 q17 c17 qo qa w k ts) (hb : Below w.heap.size w w') : CpL W0 y m q8 c8 q11 c11 q17 c17 qo qa w' k ts := ⟨fr h.b hb, h.v.below hb, h.l, h.s.below hb, h.r.below hb⟩
theorem CpL.next {W0 w w1 : World} {y g : Nat} {m : Img} {q8 q11 q17 : Option Addr} {c8 c11 c17 qa k : Nat} {ts : List Value} {v : Value} (h : CpL W0 y m q8 c8 q11 c11 q17 c17 (some ⟨g, 0, none⟩) qa w k ts) (hk : k < m.snaps.length) (hb : Below w.heap.size w w1) (hv : OwnN w1 w.heap.size v m.snaps[k].table) :
    CpL W0 y m q8 c8 q11 c11 q17 c17 (some ⟨g, 0, none⟩) qa (w1.setCell ⟨g, k * 2 + 1, none⟩ v) (k + 1) (ts.set k v) := by
  have h1 := h.below hb
  have hp : 0 < m.snaps.length := by omega
  have hg : Own (.slice (some ⟨g, 0, none⟩) m.snaps.length qa) g := own_of hp rfl
  have hK : Keep (Own (.slice (some ⟨g, 0, none⟩) m.snaps.length qa)) w1 (w1.setCell ⟨g, k * 2 + 1, none⟩ v) := (Keep.refl _ w1).setCell (p := ⟨g, k * 2 + 1, none⟩) hg _
  have hkt : k < ts.length := by rw [← h.l]; exact hk
  refine ⟨h1.b.trans (hK.below h1.b.size (fun x hx => (h1.s.ge x hx).1)), ?_, by rw [List.length_set]; exact h.l, .inr ⟨hp, ?_⟩, ?_⟩
  · exact (hK.block y h1.v.lt (h1.s.other h1.v (by decide))).trans h1.v
  · have := ((h1.s.row hp).stored (k * 2 + 1) v).1
    rwa [snC_put _ _ _ _ h.l] at this
  · have hr : OwnA w1 W0.heap.size (((.slice q8 m.refs.length c8, m.refs) :: (.slice q11 m.table.length c11, m.table) :: (.slice q17 m.data.length c17, m.data) :: (ts.take k).zip ((m.snaps.map (·.table)).take k)) ++ [(v, m.snaps[k].table)]) := h.r.snoc hb hv h.b.size
    have e : (ts.set k v).take (k + 1) = ts.take k ++ [v] := by
      rw [List.take_succ_eq_append_getElem (by rw [List.length_set]; exact hkt), List.getElem_set_self, List.take_set_of_le (Nat.le_refl _)]
    have e2 : (m.snaps.map (·.table)).take (k + 1) = (m.snaps.map (·.table)).take k ++ [m.snaps[k].table] := by
      rw [List.take_succ_eq_append_getElem (by simpa using hk)]; simp
    rw [e, e2, List.zip_append (by simp; omega)]
    have hr2 := hr.keep hK (fun r hr' x hx hS => by
      have := hr.own r hr'
      exact own_apart this.row h1.s (by decide) x hx hS)
    simpa using hr2

set_option maxHeartbeats 6400000 in
theorem copyImage_full (a : Im4) (m : Img) (w : World) (hL : m.refs.length ≤ 1048576 ∧ m.table.length ≤ 1048576 ∧ m.data.length ≤ 1048576) (hst : ∀ s ∈ m.snaps, s.table.length ≤ 1048576) (hs1 : m.snaps.length ≤ 1048576) (hc : ImS w a m) :
    Calls Try.prog 29 #[imV a m] w fun e w' => ∃ a' ts, e = .returned (imV a' m) ∧ OwnF w' w.heap.size a' m ts ∧ Below w.heap.size w w' := by
  have HA := hide (Joins.below_alloc2 w (.cells #[.slice a.ro m.refs.length a.rc, .slice a.tq m.table.length a.tc, .slice a.so m.snaps.length a.sc, .slice a.dq m.data.length a.dc] 29) (.cells #[.slice none 0 0, .slice none 0 0, .slice none 0 0, .slice none 0 0] 29))
  have HC := hide (hc.below (unhide HA))
  have HV := hide ((VarM.new w 29 (.slice a.ro m.refs.length a.rc) (.slice a.tq m.table.length a.tc) (.slice a.so m.snaps.length a.sc) (.slice a.dq m.data.length a.dc)).below (Joins.below_alloc1 _ (.cells #[.slice none 0 0, .slice none 0 0, .slice none 0 0, .slice none 0 0] 29)))
  have HR := hide ((VarM.new (w.alloc (.cells #[.slice a.ro m.refs.length a.rc, .slice a.tq m.table.length a.tc, .slice a.so m.snaps.length a.sc, .slice a.dq m.data.length a.dc] 29)) 29 (.slice none 0 0) (.slice none 0 0) (.slice none 0 0) (.slice none 0 0)).at (y := w.heap.size + 1) (by simp))
  have HLL := hide hL
  have HST := hide hst
  clear hc hL hst
  go_enter Try.func29, Try.ntmps29
  go_upto_region 1 with fail
  revert HA HC HV HR
  generalize ((w.alloc _).alloc _) = W0
  intro HA HC HV HR
  refine wp_region_inv (CpInv W0 w.heap.size (w.heap.size + 1) a m) (by kernel_rfl) (by kernel_rfl) (noG_spec (by kernel_rfl)) (CpInv.start _ _ _ _ _ _ (Below.refl _ W0).drew) ?hs ?he
  case hs =>
    intro d f wq i o hI ho hd hp K hK
    obtain ⟨s3, s6, s7, s8, s9, s10, s11, s12, s13, s14, s15, s16, s17, s18, rfl, I⟩ := hI
    obtain ⟨cv0, cv1, cv2, cv3⟩ := ((unhide HV).below I.b).cells
    have hi : i < 15 := (List.getElem?_eq_some_iff.1 ho).1
    rcases (show i = 0 ∨ i = 1 ∨ i = 2 ∨ i = 3 ∨ i = 4 ∨ i = 5 ∨ i = 6 ∨ i = 7 ∨ i = 8 ∨ i = 9 ∨ i = 10 ∨ i = 11 ∨ i = 12 ∨ i = 13 ∨ i = 14 by omega) with rfl | rfl | rfl | rfl | rfl | rfl | rfl | rfl | rfl | rfl | rfl | rfl | rfl | rfl | rfl
    · cases ho
      unfold Oper.wp
      go_simp
      exact hK _ _ ⟨_, _, _, _, _, _, _, _, _, _, _, _, _, _, rfl, I.s0 hd rfl⟩
    · cases ho
      have p := hp ⟨0, .data⟩ (by simp) rfl
      have e1 := I.f0 p
      subst e1
      unfold Oper.wp
      go_simp
      exact hK _ _ ⟨_, _, _, _, _, _, _, _, _, _, _, _, _, _, rfl, I.s1 hd rfl⟩
    · cases ho
      have p := hp ⟨1, .data⟩ (by simp) rfl
      have e1 := I.f1 p
      subst e1
      unfold Oper.wp
      go_simp
      refine (copyN_any a.ro a.rc m.refs _ (by have := unhide HLL; omega) ((unhide HC).r.below I.b)).mono ?_
      rintro e w2 ⟨v, rfl, ho2, hb2⟩
      exact hK _ _ ⟨_, _, _, _, _, _, _, _, _, _, _, _, _, _, rfl, I.s2 hd hb2 ho2⟩
    · cases ho
      unfold Oper.wp
      go_simp
      exact hK _ _ ⟨_, _, _, _, _, _, _, _, _, _, _, _, _, _, rfl, I.s3 hd rfl⟩
    · cases ho
      have p := hp ⟨3, .data⟩ (by simp) rfl
      have e1 := I.f3 p
      subst e1
      unfold Oper.wp
      go_simp
      exact hK _ _ ⟨_, _, _, _, _, _, _, _, _, _, _, _, _, _, rfl, I.s4 hd rfl⟩
    · cases ho
      have p := hp ⟨4, .data⟩ (by simp) rfl
      have e1 := I.f4 p
      subst e1
      have pc := hp ⟨2, .chain⟩ (by simp) rfl
      unfold Oper.wp
      go_simp
      refine (copyN_any a.tq a.tc m.table _ (by have := unhide HLL; omega) ((unhide HC).t.below I.b)).mono ?_
      rintro e w2 ⟨v, rfl, ho2, hb2⟩
      exact hK _ _ ⟨_, _, _, _, _, _, _, _, _, _, _, _, _, _, rfl, I.s5 hd hb2 pc ho2⟩
    · cases ho
      unfold Oper.wp
      go_simp
      exact hK _ _ ⟨_, _, _, _, _, _, _, _, _, _, _, _, _, _, rfl, I.s6 hd rfl⟩
    · cases ho
      have p := hp ⟨6, .data⟩ (by simp) rfl
      have e1 := I.f6 p
      subst e1
      unfold Oper.wp
      go_simp
      exact hK _ _ ⟨_, _, _, _, _, _, _, _, _, _, _, _, _, _, rfl, I.s7 hd rfl⟩
    · cases ho
      have p := hp ⟨7, .data⟩ (by simp) rfl
      have e1 := I.f7 p
      subst e1
      have pc := hp ⟨5, .chain⟩ (by simp) rfl
      unfold Oper.wp
      go_simp
      refine (copySn_any a.so a.sc m.snaps _ hs1 ((unhide HC).s.below I.b)).mono ?_
      rintro e w2 ⟨v, rfl, ho2, hb2⟩
      exact hK _ _ ⟨_, _, _, _, _, _, _, _, _, _, _, _, _, _, rfl, I.s8 hd hb2 pc ho2⟩
    · cases ho
      unfold Oper.wp
      go_simp
      exact hK _ _ ⟨_, _, _, _, _, _, _, _, _, _, _, _, _, _, rfl, I.s9 hd rfl⟩
    · cases ho
      have p := hp ⟨9, .data⟩ (by simp) rfl
      have e1 := I.f9 p
      subst e1
      unfold Oper.wp
      go_simp
      exact hK _ _ ⟨_, _, _, _, _, _, _, _, _, _, _, _, _, _, rfl, I.s10 hd rfl⟩
    · cases ho
      have p := hp ⟨10, .data⟩ (by simp) rfl
      have e1 := I.f10 p
      subst e1
      have pc := hp ⟨8, .chain⟩ (by simp) rfl
      unfold Oper.wp
      go_simp
      refine (copyN_any a.dq a.dc m.data _ (by have := unhide HLL; omega) ((unhide HC).d.below I.b)).mono ?_
      rintro e w2 ⟨v, rfl, ho2, hb2⟩
      exact hK _ _ ⟨_, _, _, _, _, _, _, _, _, _, _, _, _, _, rfl, I.s11 hd hb2 pc ho2⟩
    · cases ho
      have p11 := hp ⟨11, .data⟩ (by simp) rfl
      obtain ⟨q8, c8, rfl, _⟩ := I.f2 (I.c5 (I.c8 (I.c11 p11)))
      obtain ⟨⟨q11, c11, rfl, _⟩, _⟩ := I.f5 (I.c8 (I.c11 p11))
      obtain ⟨qo, qa, rfl⟩ := (I.f8 (I.c11 p11)).slice
      obtain ⟨⟨q17, c17, rfl, _⟩, _⟩ := I.f11 p11
      unfold Oper.wp
      go_simp
      exact hK _ _ ⟨_, _, _, _, _, _, _, _, _, _, _, _, _, _, rfl, I.s12 hd p11 rfl⟩
    · cases ho
      unfold Oper.wp
      go_simp
      exact hK _ _ ⟨_, _, _, _, _, _, _, _, _, _, _, _, _, _, rfl, I.s13 hd (Joins.below_alloc1 _ _) rfl I.b.size (VarM.new _ _ _ _ _ _)⟩
    · cases ho
      have p12 := hp ⟨12, .data⟩ (by simp) rfl
      have p13 := hp ⟨13, .data⟩ (by simp) rfl
      have p11 := I.c12 p12
      obtain ⟨q8, c8, rfl, _⟩ := I.f2 (I.c5 (I.c8 (I.c11 p11)))
      obtain ⟨⟨q11, c11, rfl, _⟩, _⟩ := I.f5 (I.c8 (I.c11 p11))
      obtain ⟨qo, qa, rfl⟩ := (I.f8 (I.c11 p11)).slice
      obtain ⟨⟨q17, c17, rfl, _⟩, _⟩ := I.f11 p11
      have e18 := I.f12 p12
      subst e18
      obtain ⟨y, rfl, hy, hv⟩ := I.f13 p13 hd
      obtain ⟨y0, y1, y2, y3⟩ := hv.cells
      obtain ⟨z0, z1, z2, z3⟩ := hv.free
      unfold Oper.wp
      go_simp
      exact hK _ _ ⟨_, _, _, _, _, _, _, _, _, _, _, _, _, _, rfl, I.s14 hd p12 p13 rfl hy hv (((((Keep.refl (fun k => k = y) wq).setCell (p := ⟨y, 0, none⟩) rfl _).setCell (p := ⟨y, 1, none⟩) rfl _).setCell (p := ⟨y, 2, none⟩) rfl _).setCell (p := ⟨y, 3, none⟩) rfl _) ((((hv.set0 _).set1 _).set2 _).set3 _)⟩
  case he =>
    intro d f wq hI hall
    obtain ⟨s3, s6, s7, s8, s9, s10, s11, s12, s13, s14, s15, s16, s17, s18, rfl, I⟩ := hI
    obtain ⟨q8, c8, e8, o8⟩ := I.f2 (hall 2 (by decide))
    obtain ⟨⟨q11, c11, e11, o11⟩, a11⟩ := I.f5 (hall 5 (by decide))
    obtain ⟨qo, qa, ts0, e14, lt0, o14⟩ := I.f8 (hall 8 (by decide))
    obtain ⟨⟨q17, c17, e17, o17⟩, a17, b17⟩ := I.f11 (hall 11 (by decide))
    obtain ⟨y, e3, hy, hv⟩ := I.f14 (hall 14 (by decide))
    subst e8 e11 e14 e17 e3
    have HL0 : Hid (CpL W0 y m q8 c8 q11 c11 q17 c17 qo qa wq 0 ts0) := hide ⟨I.b, hv, lt0, o14, by
      refine ⟨fun r hr => ?_, ?_⟩
      · simp only [List.take_zero, List.zip_nil_left, List.mem_cons, List.not_mem_nil, or_false] at hr
        rcases hr with rfl | rfl | rfl
        · exact ⟨_, _, rfl, o8⟩
        · exact ⟨_, _, rfl, o11⟩
        · exact ⟨_, _, rfl, o17⟩
      · simp only [List.take_zero, List.zip_nil_left, List.pairwise_cons, List.mem_cons, List.not_mem_nil, or_false, forall_eq_or_imp, forall_eq, List.Pairwise.nil, and_true]
        exact ⟨⟨a11, a17⟩, b17, fun _ h => h.elim⟩⟩
    have HY := hide hy
    obtain ⟨c0, c1, c2, c3⟩ := (VarM.below (unhide HV) I.b).cells
    clear o8 o11 a11 o14 o17 a17 b17 hv hy I hall lt0
    go_wp2
    clear c0 c1 c2 c3
    go_loopw [22] (fun i wr => ∃ (k : Nat) (ts : List Value), k ≤ m.snaps.length ∧ i = .int .i64 k ∧ Hid (CpL W0 y m q8 c8 q11 c11 q17 c17 qo qa wr k ts)) (fun i _ => m.snaps.length - (intOf i).toNat)
    case atStart => exact ⟨0, _, Nat.zero_le _, rfl, HL0⟩
    case round =>
      clear HL0
      obtain ⟨k, ts, hk, rfl, HL⟩ := hrel
      by_cases hlt : k < m.snaps.length
      · obtain ⟨b, off, tq, tc, eb, hn0, ht0, hIs, hz, htl⟩ := ((unhide HC).s.below (unhide HL).b) k hlt
        have hlti : (k : Int) < (m.snaps.length : Int) := by omega
        have HX := hide (VarN.new wr m.snaps[k].name (.slice tq m.snaps[k].table.length tc))
        have HBX := hide (Joins.below_alloc1 wr (.cells #[.string m.snaps[k].name, .slice tq m.snaps[k].table.length tc] 66))
        have HIS := hide hIs
        have HTL := hide (unhide HST _ (List.getElem_mem hlt))
        clear hIs hz htl
        go_upto_region 5 with fail
        revert HX HBX
        generalize (wr.alloc _) = w2
        intro HX HBX
        obtain ⟨x0, x1⟩ := (unhide HX).cells
        have hx1l := World.block_lt_of_cell? _ _ x1
        have HL2 := hide ((unhide HL).below (unhide HBX))
        have HIS2 := hide ((unhide HIS).below (unhide HBX))
        obtain ⟨g, cap, cur, eg, _, hgb⟩ := own_form (by omega) ((unhide HL2).s.row (by omega))
        simp only [Value.slice.injEq, true_and] at eg
        obtain ⟨rfl, rfl⟩ := eg
        obtain ⟨d0, d1, d2, d3⟩ := (unhide HL2).v.cells
        have hyl := (unhide HL2).v.lt
        have hgl := (Array.getElem?_eq_some_iff.1 hgb).1
        have hne1 : wr.heap.size ≠ g := fun e => by
          have h1 := (unhide HX)
          unfold VarN at h1
          rw [e, hgb] at h1
          have h2 := ((unhide HL).s.ge g (own_of (by omega) rfl)).2
          omega
        have hne2 : y ≠ g := fun e => by
          have h1 := (unhide HL2).v
          unfold VarM at h1
          rw [e, hgb] at h1
          simp at h1
        have HCAL : Hid (∀ W, Below w2.heap.size w2 W → Calls Try.prog 58 #[.slice tq m.snaps[k].table.length tc] W fun e w' => ∃ vo vc, e = .returned (.slice vo m.snaps[k].table.length vc) ∧ OwnN w' w2.heap.size (.slice vo m.snaps[k].table.length vc) m.snaps[k].table ∧ Below w2.heap.size w2 w') := hide (fun W hW => (copyN_any tq tc m.snaps[k].table W (unhide HTL) ((unhide HIS2).below hW)).mono fun e w' ⟨v, h1, h2, h3⟩ => by obtain ⟨vo, vc, rfl, _⟩ := id h2; exact ⟨vo, vc, h1, h2.base hW.size, fr hW h3⟩)
        have HNXT : Hid (∀ (w3 : World) (v : Value), Below w2.heap.size w2 w3 → OwnN w3 w2.heap.size v m.snaps[k].table → CpL W0 y m q8 c8 q11 c11 q17 c17 (some ⟨g, 0, none⟩) qa (w3.setCell ⟨g, k * 2 + 1, none⟩ v) (k + 1) (ts.set k v)) := hide (fun w3 v h1 h2 => (unhide HL2).next hlt h1 h2)
        have HROW : Hid (∀ w3, Below w2.heap.size w2 w3 → ∃ u, w3.cell? ⟨g, k * 2 + 1, none⟩ = some u ∧ w3.frozen? ⟨g, k * 2 + 1, none⟩ = false) := hide (fun w3 h1 => by
          have hr := ((unhide HL2).s.below h1).row (by omega)
          have hlen := hr.1
          have hi : k * 2 + 1 < (snC m.snaps ts).length := by rw [hlen]; omega
          exact ⟨_, (hr.cellAt (k * 2 + 1) (by omega)).trans (List.getElem?_eq_getElem hi), hr.frozenAt _⟩)
        have hne3 := Ne.symm hne1
        have hne4 := Ne.symm hne2
        clear hn0 ht0 x0 d0 d1 d3 hgb eb HX HBX HL
        go_region_held3 (fun w' => w'.cell? ⟨y, 2, none⟩ = some (.slice (some ⟨g, 0, none⟩) m.snaps.length qa) ∧ w'.cell? ⟨wr.heap.size, 1, none⟩ = some (.slice tq m.snaps[k].table.length tc)) (first | go_keep | (refine ⟨?_, ?_⟩ <;> simp [go_sem, *])) ((go_at_call 58; refine (unhide HCAL _ (Below.refl _ _).drew).mono ?_; rintro e w3 ⟨vo, vc, rfl, ho3, hb3⟩; obtain ⟨u, hu, hf⟩ := unhide HROW w3 hb3; have k1 := (hb3.cell (p := ⟨y, 2, none⟩) hyl).trans d2; have k2 := (hb3.cell (p := ⟨wr.heap.size, 1, none⟩) hx1l).trans x1; have HN3 := hide (And.intro hb3 ho3); clear hb3 ho3))
        have HN := hide (unhide HNXT w3 _ (unhide HN3).1 (unhide HN3).2)
        clear hu hf k1 k2 HN3
        go_wp2
        go_roundw
        case rel => exact ⟨k + 1, _, by omega, by go_num, HN⟩
        case measure => simp [intOf]; omega
      · have hkl : k = m.snaps.length := by omega
        subst hkl
        have HOI : Hid (OwnIm wr W0.heap.size ⟨q8, c8, q11, c11, qo, qa, q17, c17⟩ m ts) := hide ⟨(unhide HL).l, (unhide HL).s.toS, by have h := (unhide HL).r; rw [List.take_of_length_le (by rw [← (unhide HL).l]; exact Nat.le_refl _), List.take_of_length_le (by simp)] at h; exact h⟩
        have HRR := hide (VarM.below (unhide HR) (unhide HL).b)
        have HC0 : Hid (m.snaps.length = 0 → qa = 0) := hide (fun h => (unhide HL).s.cap0 h)
        have HPT := hide (ImSt.put (unhide HRR) (unhide HOI) (fr (unhide HA) (unhide HL).b) (Nat.le_succ _) (unhide HR).lt ⟨q8, c8, q11, c11, qo, qa, q17, c17⟩ m)
        obtain ⟨d0, d1, d2, d3⟩ := (unhide HL).v.cells
        obtain ⟨r0, r1, r2, r3⟩ := (unhide HRR).cells
        obtain ⟨z0, z1, z2, z3⟩ := (unhide HRR).free
        go_wp2
        exact bodyPost_ret (res_im Try.results29 rfl (unhide HPT).1) rfl ⟨⟨q8, c8, q11, c11, qo, qa, q17, c17⟩, rfl, ⟨ts, ⟨(unhide HPT).2.1.base (unhide HA).size, unhide HC0⟩⟩, (unhide HPT).2.2⟩
end Go.Proofs.Ytjoafbkcnnhdiac

namespace Go.Proofs.Ytjoafbkcnnhdiac
open Go.RowKit
set_option linter.unusedVariables false
set_option maxRecDepth 100000

end Go.Proofs.Ytjoafbkcnnhdiac

namespace Go.Proofs.Ytjoafbkcnnhdiac
open Go.RowKit
set_option linter.unusedVariables false
set_option maxRecDepth 100000

def fdI (m : Img) (name : ByteArray) : Int := if imFind m name < m.snaps.length then (imFind m name : Int) else -1
theorem find_here {m : Img} {name : ByteArray} {k : Nat} (hk : k < m.snaps.length) (h0 : m.snaps[k].name = name) (h : ∀ j (hj : j < m.snaps.length), j < k → m.snaps[j].name ≠ name) : imFind m name = k := by
  unfold imFind
  rw [List.findIdx_eq hk]
  refine ⟨by simp [h0], fun j hj => ?_⟩
  have := h j (by omega) hj
  simp [this]
theorem find_none {m : Img} {name : ByteArray} (h : ∀ j (hj : j < m.snaps.length), m.snaps[j].name ≠ name) : ¬ imFind m name < m.snaps.length := by
  unfold imFind
  rw [List.findIdx_lt_length]
  rintro ⟨x, hx, h0⟩
  obtain ⟨j, hj, rfl⟩ := List.getElem_of_mem hx
  have := h j hj
  simp at h0
  exact this h0

end Go.Proofs.Ytjoafbkcnnhdiac

namespace Go.Proofs.Ytjoafbkcnnhdiac
open Go.RowKit
set_option linter.unusedVariables false
set_option maxRecDepth 100000

def datB (xs : List Int) : Bool := decide (xs.length = 24) && xs.all numB
theorem dat_len {xs : List Int} (h : ¬ xs.length = 24) : datB xs = false := by rw [datB, decide_eq_false h]; rfl
set_option maxHeartbeats 800000 in
theorem dataOK_any (ao : Option Addr) (cap : Nat) (xs : List Int) (w : World) (hl : xs.length ≤ maxLen) (hc : Is w ao xs) :
    Calls Try.prog 78 #[.slice ao xs.length cap] w fun e w' => e = .returned (.bool (datB xs)) ∧ w' = w := by
  have HC := hide hc
  have HL := hide hl
  clear hc
  unfold maxLen at hl
  by_cases h24 : xs.length = 24
  · have HF : Hid (datB xs = xs.all numB) := hide (by rw [datB, decide_eq_true h24]; rfl)
    have hb24 : ((xs.length : Int) == 24) = true := by simp [h24]
    clear h24
    go_enter Try.func78, Try.ntmps78
    go_wp2_with (go_at_call 94; refine (areNumbers_any _ _ xs _ (unhide HL) (unhide HC)).mono ?_; rintro e w' ⟨rfl, hw⟩; replace hw := hw.symm; subst hw)
    go_ret
    exact ⟨ret_bool (unhide HF).symm, rfl⟩
  · have HF := hide (dat_len h24)
    have hb24 : ((xs.length : Int) == 24) = false := by simp; omega
    clear h24
    go_enter Try.func78, Try.ntmps78
    go_wp2
    go_ret
    exact ⟨ret_bool (unhide HF).symm, rfl⟩

theorem below_bytes (w : World) (e : TypeId) (s : ByteArray) : Below w.heap.size w (Lib.bytesWorld w e s) :=
  ⟨rfl, rfl, rfl, by rw [Lib.bytesWorld_size]; omega, fun i hi => Lib.bytesWorld_at_old w e s i hi⟩

set_option maxHeartbeats 1600000 in
theorem snapNameOK_any (t : ByteArray) (w : World) (hz : t.size ≤ maxLen) :
    Calls Try.prog 95 #[.string t] w fun e w' => e = .returned (.bool (snmB t)) ∧ Below w.heap.size w w' := by
  unfold maxLen at hz
  cases hb : betw (t.size : Int) 1 6
  · have HF : Hid (snmB t = false) := hide (by rw [snmB, hb]; simp)
    go_enter Try.func95, Try.ntmps95
    go_wp2_with (go_at_call 49; refine (within_any _ _ _ _).mono ?_; rintro e w' ⟨rfl, hw⟩; replace hw := hw.symm; subst hw; rw [hb])
    go_ret
    exact ⟨ret_bool (unhide HF).symm, Below.refl _ _⟩
  have HBT := hide hb
  have h6 : t.size ≤ 6 := by have := betw_iff.1 hb; omega
  have hcv := fun (W : World) => Lib.run_convert_string_bytes (P := Try.prog) W 9 36 5 t Try.underlying9 Try.underlying36 Try.underlying5
  have HB := hide (below_bytes w 5 t)
  have HCL := hide (Lib.bytesWorld_cell w 5 t)
  go_enter Try.func95, Try.ntmps95
  go_wp2_with (go_at_call 49; refine (within_any _ _ _ _).mono ?_; rintro e w' ⟨rfl, hw⟩; replace hw := hw.symm; subst hw; rw [hb])
  revert HB HCL
  generalize Lib.bytesWorld w 5 t = w1
  generalize grownCap w t.size 0 5 = gc
  intro HB HCL
  clear hcv
  go_loop [12] (fun i => ∃ k : Nat, k ≤ t.size ∧ i = .int .i64 k ∧ Hid (∀ j (h : j < t.size), j < k → nm1 t[j] = true)) (fun i => t.size - (intOf i).toNat)
  case atStart => exact ⟨0, Nat.zero_le _, rfl, hide (fun j _ h => by omega)⟩
  case round =>
    obtain ⟨k, hk, rfl, HA⟩ := hrel
    by_cases hlt : k < t.size
    · have hck := unhide HCL k hlt
      have eck : (t.data.toList.getD k 0) = t[k] := by simp [List.getD, snm_get hlt]
      rw [eck] at hck
      clear eck
      by_cases hlo : 97 ≤ t[k].toNat
      · by_cases hhi : t[k].toNat ≤ 122
        · have HN : Hid (∀ j (h : j < t.size), j < k + 1 → nm1 t[j] = true) := hide (fun j h hj => by
            by_cases e : j = k
            · subst e; simp [nm1, hlo, hhi]
            · exact unhide HA j h (by omega))
          have h1 : ¬ ((t[k].toNat : Int) < 97) := by omega
          have h2 : ¬ (122 < (t[k].toNat : Int)) := by omega
          go_wp2
          go_round
          case rel => exact ⟨k + 1, by omega, by go_num, HN⟩
          case measure => simp [intOf]; omega
        · have HF := hide (snm_bad hlt (by simp [nm1]; omega))
          have h1 : ¬ ((t[k].toNat : Int) < 97) := by omega
          have h2 : (122 < (t[k].toNat : Int)) := by omega
          go_wp2
          go_ret
          exact ⟨ret_bool (unhide HF).symm, unhide HB⟩
      · have HF := hide (snm_bad hlt (by simp [nm1]; omega))
        have h1 : ((t[k].toNat : Int) < 97) := by omega
        go_wp2
        go_ret
        exact ⟨ret_bool (unhide HF).symm, unhide HB⟩
    · have HF := hide ((snm_all (fun j h => unhide HA j h (by omega))).trans (unhide HBT))
      go_wp2
      go_ret
      exact ⟨ret_bool (unhide HF).symm, unhide HB⟩

def VarT1 (w : World) (x : Nat) (s : ByteArray) : Prop := w.cell? ⟨x, 0, none⟩ = some (.string s)
set_option maxHeartbeats 800000 in
theorem findSnapC_any (s : Snp) (tq : Option Addr) (tc x : Nat) (name : ByteArray) (w : World) (hx : VarT1 w x name) :
    Calls Try.prog 100 #[snV s tq tc, .pointer (some ⟨x, 0, none⟩)] w fun e w' => e = .returned (.bool (decide (s.name = name))) ∧ Below w.heap.size w w' := by
  have hxl := World.block_lt_of_cell? _ _ hx
  have hx' : w.cell? ⟨x, 0, none⟩ = some (.string name) := hx
  clear hx
  by_cases he : s.name = name
  · have be : (s.name.toList == name.toList) = true := by simp [he]
    have HE : Hid (decide (s.name = name) = true) := hide (decide_eq_true he)
    clear he
    go_enter Try.func100, Try.ntmps100
    go_wp2
    go_ret
    exact ⟨ret_bool (unhide HE).symm, Joins.below_alloc1 _ _⟩
  · have be : (s.name.toList == name.toList) = false := str_beq_false he
    have HE : Hid (decide (s.name = name) = false) := hide (decide_eq_false he)
    clear he
    go_enter Try.func100, Try.ntmps100
    go_wp2
    go_ret
    exact ⟨ret_bool (unhide HE).symm, Joins.below_alloc1 _ _⟩

abbrev fdL (ss : List Snp) (name : ByteArray) : Int := fdI ⟨[], [], ss, []⟩ name
theorem fdL_here {ss : List Snp} {name : ByteArray} {k : Nat} (hk : k < ss.length) (h0 : ss[k].name = name) (h : ∀ j (hj : j < ss.length), j < k → ss[j].name ≠ name) : fdL ss name = (k : Int) := by
  have e := find_here (m := ⟨[], [], ss, []⟩) hk h0 h
  show fdI _ _ = _
  rw [fdI, if_pos (by rw [e]; exact hk), e]
theorem fdL_none {ss : List Snp} {name : ByteArray} (h : ∀ j (hj : j < ss.length), ss[j].name ≠ name) : fdL ss name = -1 := if_neg (find_none (m := ⟨[], [], ss, []⟩) h)

set_option maxHeartbeats 1600000 in
theorem indexFunc_any (so : Option Addr) (sc : Nat) (ss : List Snp) (x : Nat) (name : ByteArray) (w : World) (hs : ss.length ≤ maxLen) (hc : Sns w so ss) (hx : VarT1 w x name) :
    Calls Try.prog 99 #[.slice so ss.length sc, .func (.func 100) #[] #[.pointer (some ⟨x, 0, none⟩)]] w fun e w' => e = .returned (.int .i64 (fdL ss name)) ∧ Below w.heap.size w w' := by
  unfold maxLen at hs
  have HC := hide hc
  have HX := hide hx
  clear hc hx
  go_enter Try.func99, Try.ntmps99
  go_wp2
  go_loopw [8] (fun i wr => ∃ k : Nat, k ≤ ss.length ∧ i = .int .i64 k ∧ Hid (∀ j (hj : j < ss.length), j < k → ss[j].name ≠ name) ∧ Hid (Below w.heap.size w wr)) (fun i _ => ss.length - (intOf i).toNat)
  case atStart => exact ⟨0, Nat.zero_le _, rfl, hide (fun j _ h => by omega), hide (Below.refl _ _)⟩
  case round =>
    obtain ⟨k, hk, rfl, HN, HB⟩ := hrel
    by_cases hlt : k < ss.length
    · obtain ⟨b, off, tq, tc, rfl, hn0, ht0, _, _, _⟩ := ((unhide HC).below (unhide HB)) k hlt
      have HXR : Hid (VarT1 wr x name) := hide (((unhide HB).cell (World.block_lt_of_cell? _ _ (unhide HX))).trans (unhide HX))
      go_wp2_with fail
      refine (findSnapC_any ss[k] tq tc x name _ (unhide HXR)).mono ?_
      rintro e w2 ⟨rfl, hb⟩
      have HB2 := hide (fr (unhide HB) hb)
      clear hb hn0 ht0
      by_cases he : ss[k].name = name
      · have HF := hide (fdL_here hlt he (unhide HN))
        have be : decide (ss[k].name = name) = true := decide_eq_true he
        rw [be]
        clear he be
        go_wp2
        go_ret
        exact ⟨ret_int (unhide HF).symm, unhide HB2⟩
      · have HN' : Hid (∀ j (hj : j < ss.length), j < k + 1 → ss[j].name ≠ name) := hide (fun j hj h => by
          by_cases e : j = k
          · subst e; exact he
          · exact unhide HN j hj (by omega))
        have be : decide (ss[k].name = name) = false := decide_eq_false he
        rw [be]
        clear he be
        go_wp2
        go_roundw
        case rel => exact ⟨k + 1, by omega, by go_num, HN', HB2⟩
        case measure => simp [intOf]; omega
    · have HF := hide (fdL_none (fun j hj => unhide HN j hj (by omega)))
      go_wp2
      go_ret
      exact ⟨ret_int (unhide HF).symm, unhide HB⟩

set_option maxHeartbeats 1600000 in
theorem findSnap_any (so : Option Addr) (sc : Nat) (ss : List Snp) (name : ByteArray) (w : World) (hs : ss.length ≤ maxLen) (hc : Sns w so ss) :
    Calls Try.prog 96 #[.slice so ss.length sc, .string name] w fun e w' => e = .returned (.int .i64 (fdL ss name)) ∧ Below w.heap.size w w' := by
  have hmf : ∀ (fn : Fn) (first cap : Array Value) (w : World), (Instr.makeFunc fn first cap).run Try.prog w = .ok (.func fn first cap) w := fun _ _ _ _ => rfl
  have HA := hide (Joins.below_alloc1 w (.cells #[.string name] 9))
  have HC := hide (hc.below (unhide HA))
  have HX : Hid (VarT1 (w.alloc (.cells #[.string name] 9)) w.heap.size name) := hide (by unfold VarT1; rw [Joins.cell_of_block (heap_alloc_new w _)]; rfl)
  have HS := hide hs
  clear hc hs
  go_enter Try.func96, Try.ntmps96
  go_upto_region 1 with fail
  revert HA HC HX
  generalize (w.alloc _) = W0
  intro HA HC HX
  go_wp2_with fail
  refine (indexFunc_any so sc ss w.heap.size name _ (unhide HS) (unhide HC) (unhide HX)).mono ?_
  rintro e w2 ⟨rfl, hb⟩
  have HB := hide (fr (unhide HA) hb)
  clear hb
  go_wp2
  go_ret
  exact ⟨rfl, unhide HB⟩

def snpsB (ss : List Snp) : Bool := decide (ss.length ≤ 3) && ss.all (fun s => snmB s.name) && namesB ss
theorem snps_many {ss : List Snp} (h : ¬ ss.length ≤ 3) : snpsB ss = false := by rw [snpsB, decide_eq_false h]; rfl
theorem snps_bad {ss : List Snp} {k : Nat} (hk : k < ss.length) (h : snmB ss[k].name = false) : snpsB ss = false := by
  rw [snpsB, all_not (p := fun s : Snp => snmB s.name) hk h]; simp
theorem snps_twice {ss : List Snp} {i k : Nat} (hi : i < ss.length) (hk : k < i) (h : ss[i].name = ss[k].name) : snpsB ss = false := by
  have e : namesB ss = false := decide_eq_false (not_nodup (xs := ss.map (·.name)) (i := i) (k := k) (by simpa using hi) hk (by simpa using h))
  rw [snpsB, e]; simp
theorem snps_yes {ss : List Snp} (h3 : ss.length ≤ 3) (h : ∀ j (hj : j < ss.length), snmB ss[j].name = true) (hn : (ss.map (·.name)).Nodup) : snpsB ss = true := by
  rw [snpsB, decide_eq_true h3, all_of (p := fun s : Snp => snmB s.name) (fun i hi _ => h i hi), namesB, decide_eq_true hn]; rfl
theorem fdL_at {ss : List Snp} {k : Nat} (hk : k < ss.length) : (fdL ss ss[k].name = (k : Int) ∧ ∀ j (hj : j < ss.length), j < k → ss[j].name ≠ ss[k].name) ∨ ((fdL ss ss[k].name != (k : Int)) = true ∧ ∃ j, ∃ hj : j < ss.length, j < k ∧ ss[k].name = ss[j].name) := by
  by_cases h : ∃ j, ∃ hj : j < ss.length, j < k ∧ ss[j].name = ss[k].name
  · right
    have hf : imFind ⟨[], [], ss, []⟩ ss[k].name < k := by
      obtain ⟨j, hj, hjk, e⟩ := h
      unfold imFind
      refine Nat.lt_of_le_of_lt (m := j) ?_ hjk
      refine Nat.le_of_not_lt fun h2 => ?_
      have := List.not_of_lt_findIdx h2
      simp [e] at this
    refine ⟨?_, ?_⟩
    · have e : fdL ss ss[k].name = (imFind ⟨[], [], ss, []⟩ ss[k].name : Int) := if_pos (show imFind ⟨[], [], ss, []⟩ ss[k].name < ss.length by omega)
      rw [e]; simp; omega
    · obtain ⟨j, hj, hjk, e⟩ := h
      exact ⟨j, hj, hjk, e.symm⟩
  · left
    have hn : ∀ j (hj : j < ss.length), j < k → ss[j].name ≠ ss[k].name := fun j hj hjk e => h ⟨j, hj, hjk, e⟩
    exact ⟨fdL_here hk rfl hn, hn⟩

set_option maxHeartbeats 1600000 in
theorem snapNamesOK_any (so : Option Addr) (sc : Nat) (ss : List Snp) (w : World) (hs : ss.length ≤ maxLen) (hc : Sns w so ss) :
    Calls Try.prog 79 #[.slice so ss.length sc] w fun e w' => e = .returned (.bool (snpsB ss)) ∧ Below w.heap.size w w' := by
  have HS := hide hs
  unfold maxLen at hs
  have HC := hide hc
  clear hc
  by_cases h3 : ss.length ≤ 3
  · have h3i : ¬ (3 : Int) < (ss.length : Int) := by omega
    go_enter Try.func79, Try.ntmps79
    go_wp2
    go_loopw [10] (fun i wr => ∃ k : Nat, k ≤ ss.length ∧ i = .int .i64 k ∧ Hid (∀ j (hj : j < ss.length), j < k → snmB ss[j].name = true) ∧ Hid (((ss.map (·.name)).take k).Nodup) ∧ Hid (Below w.heap.size w wr)) (fun i _ => ss.length - (intOf i).toNat)
    case atStart => exact ⟨0, Nat.zero_le _, rfl, hide (fun j _ h => by omega), hide (by simp), hide (Below.refl _ _)⟩
    case round =>
      obtain ⟨k, hk, rfl, HN, HD, HB⟩ := hrel
      by_cases hlt : k < ss.length
      · obtain ⟨b, off, tq, tc, rfl, hn0, ht0, _, hz, htl⟩ := ((unhide HC).below (unhide HB)) k hlt
        have HZ := hide hz
        have HX := hide (VarN.new wr ss[k].name (.slice tq ss[k].table.length tc))
        have HBX := hide (Joins.below_alloc1 wr (.cells #[.string ss[k].name, .slice tq ss[k].table.length tc] 66))
        clear hz htl
        go_upto_region 6 with fail
        revert HX HBX
        generalize (wr.alloc _) = w2
        intro HX HBX
        obtain ⟨x0, x1⟩ := (unhide HX).cells
        have HB2 := hide (fr (unhide HB) (unhide HBX))
        clear HBX hn0 ht0
        go_wp2_with fail
        refine (snapNameOK_any ss[k].name _ (unhide HZ)).mono ?_
        rintro e w3 ⟨rfl, hb⟩
        have HB3 := hide (fr (unhide HB2) hb)
        have x0' := (hb.cell (p := ⟨wr.heap.size, 0, none⟩) (World.block_lt_of_cell? _ _ x0)).trans x0
        clear hb x0 x1 HX
        cases hnm : snmB ss[k].name
        · have HF := hide (snps_bad hlt hnm)
          go_wp2
          go_ret
          exact ⟨ret_bool (unhide HF).symm, unhide HB3⟩
        have HN' := hide (all_succ (p := fun s : Snp => snmB s.name) hlt (unhide HN) hnm)
        have HC3 := hide ((unhide HC).below (unhide HB3))
        go_wp2_with fail
        refine (findSnap_any _ sc ss ss[k].name _ (unhide HS) (unhide HC3)).mono ?_
        rintro e w4 ⟨rfl, hb⟩
        have HB4 := hide (fr (unhide HB3) hb)
        clear hb x0'
        rcases fdL_at hlt with ⟨hf, hne⟩ | ⟨hf, j, hj, hjk, he⟩
        · have hb1 : (fdL ss ss[k].name != (k : Int)) = false := by rw [hf]; simp
          have HD' := hide (nodup_snoc (xs := ss.map (·.name)) (by simpa using hlt) (unhide HD) (fun j hj hjk => by
            have := hne j (by simpa using hj) hjk
            simpa using this))
          clear hf hne
          generalize fdL ss ss[k].name = F at *
          go_wp2
          go_roundw
          case rel => exact ⟨k + 1, by omega, by go_num, HN', HD', HB4⟩
          case measure => simp [intOf]; omega
        · have HF := hide (snps_twice hlt hjk he)
          clear he
          generalize fdL ss ss[k].name = F at *
          go_wp2
          go_ret
          exact ⟨ret_bool (unhide HF).symm, unhide HB4⟩
      · have HF := hide (snps_yes h3 (fun j hj => unhide HN j hj (by omega)) (by
          have := unhide HD
          rwa [List.take_of_length_le (by simp; omega)] at this))
        go_wp2
        go_ret
        exact ⟨ret_bool (unhide HF).symm, unhide HB⟩
  · have HF := hide (snps_many h3)
    have h3i : (3 : Int) < (ss.length : Int) := by omega
    go_enter Try.func79, Try.ntmps79
    go_wp2
    go_ret
    exact ⟨ret_bool (unhide HF).symm, Below.refl _ _⟩

end Go.Proofs.Ytjoafbkcnnhdiac

namespace Go.Proofs.Ytjoafbkcnnhdiac
open Go.RowKit
set_option linter.unusedVariables false
set_option maxRecDepth 100000

def partsB (m : Img) : Bool := ctB m.refs && datB m.data && snpsB m.snaps && tabsB (imTabs m)
def fitB (m : Img) : Bool := decide (imCnt m = m.refs) && clearB m
theorem tabs_all {ts : List (List Int)} : tabsB ts = (ts.all tbB && ts.all onceB) := by
  unfold tabsB
  induction ts with
  | nil => rfl
  | cons t ts ih =>
    simp only [List.all_cons, ih]
    cases tbB t <;> cases onceB t <;> simp
theorem parts_of {m : Img} (h : partsB m = true) : m.refs.length = 24 ∧ m.data.length = 24 ∧ m.snaps.length ≤ 3 ∧ ∀ t ∈ imTabs m, tbB t = true := by
  unfold partsB datB snpsB at h
  rw [tabs_all] at h
  simp only [Bool.and_eq_true, decide_eq_true_eq, List.all_eq_true] at h
  obtain ⟨⟨⟨h1, h2, _⟩, ⟨h3, _⟩, _⟩, h4, _⟩ := h
  exact ⟨ctB_len h1, h2, h3, h4⟩
theorem fit_cnt {m : Img} {i : Nat} (hl : m.refs.length = 24) (hi : i < 24) (h : ¬ m.refs.getD i 0 = (imCnt m).getD i 0) : fitB m = false := by
  have e : decide (imCnt m = m.refs) = false := decide_eq_false (fun e => h (by rw [e]))
  rw [fitB, e]; rfl
theorem fit_clear {m : Img} {i : Nat} (hi : i < 24) (he : m.refs.getD i 0 = (imCnt m).getD i 0) (hz : (imCnt m).getD i 0 = 0) (hd : ¬ m.data.getD i 0 = 0) : fitB m = false := by
  have e : clearB m = false := by
    unfold clearB
    cases hh : (List.range 24).all _ with
    | false => rfl
    | true =>
      rw [List.all_eq_true] at hh
      have := hh i (List.mem_range.2 hi)
      simp only [decide_eq_true_eq] at this
      exact absurd (this (he.trans hz)) hd
  rw [fitB, e]; simp
theorem fit_yes {m : Img} (hl : m.refs.length = 24) (h1 : ∀ i, i < 24 → m.refs.getD i 0 = (imCnt m).getD i 0) (h2 : ∀ i, i < 24 → (imCnt m).getD i 0 = 0 → m.data.getD i 0 = 0) : fitB m = true := by
  have e : imCnt m = m.refs := List.ext_getElem (by rw [imCnt_len, hl]) (fun i ha hb => by
    have := h1 i (by omega)
    simpa [List.getD, ha, hb] using this.symm)
  have e2 : clearB m = true := by
    unfold clearB
    rw [List.all_eq_true]
    intro i hi
    have hi' := List.mem_range.1 hi
    exact decide_eq_true (fun h => h2 i hi' (by rw [← h1 i hi']; exact h))
  rw [fitB, decide_eq_true e, e2]; rfl

set_option maxHeartbeats 3200000 in
theorem countsFit_any (a : Im4) (m : Img) (w : World) (hr : m.refs.length = 24) (hd : m.data.length = 24) (hs : m.snaps.length ≤ 3) (ht : ∀ t ∈ imTabs m, tbB t = true) (hc : ImS w a m) :
    Calls Try.prog 46 #[imV a m] w fun e w' => e = .returned (.bool (fitB m)) ∧ Below w.heap.size w w' := by
  have HA := hide (Joins.below_alloc1 w (.cells #[.slice a.ro m.refs.length a.rc, .slice a.tq m.table.length a.tc, .slice a.so m.snaps.length a.sc, .slice a.dq m.data.length a.dc] 29))
  have HV := hide (VarM.new w 29 (.slice a.ro m.refs.length a.rc) (.slice a.tq m.table.length a.tc) (.slice a.so m.snaps.length a.sc) (.slice a.dq m.data.length a.dc))
  have HC := hide (hc.below (unhide HA))
  have HR24 := hide hr
  have HD24 := hide hd
  have HTB := hide ht
  have HLT := hide (imTabs_len m)
  clear hc hr hd ht
  go_enter Try.func46, Try.ntmps46
  go_upto_region 1 with fail
  revert HA HV HC
  generalize (w.alloc _) = W0
  intro HA HV HC
  obtain ⟨c0, c1, c2, c3⟩ := (unhide HV).cells
  go_wp2_with fail
  refine (tablesOf_any a m _ hs (unhide HC)).mono ?_
  rintro e w1 ⟨qo, qa, rfl, hrow, hb⟩
  have HROW := hide hrow
  have HB1 := hide (fr (unhide HA) hb)
  have HC1 := hide ((unhide HC).below hb)
  have HV1 := hide ((unhide HV).below hb)
  clear hb hrow c0 c1 c2 c3 HA HV HC
  go_wp2_with fail
  refine (usesOf_any qo qa (imTabs m) _ (by rw [unhide HLT]; omega) (unhide HTB) (unhide HROW)).mono ?_
  rintro e w2 ⟨B, D, rfl, hBge, hmp, hct, hb⟩
  have HB2 := hide (fr (unhide HB1) hb)
  have HC2 := hide ((unhide HC1).below hb)
  have HV2 := hide ((unhide HV1).below hb)
  have HM : Hid (MpC w2 B 1000 D (imCnt m)) := hide hmp
  clear hb hmp hct hBge HB1 HC1 HV1 HROW
  go_wp2
  go_loopw [8] (fun i wr => ∃ k : Nat, k ≤ 24 ∧ i = .int .i64 k ∧ Hid (∀ j, j < k → m.refs.getD j 0 = (imCnt m).getD j 0) ∧ Hid (∀ j, j < k → (imCnt m).getD j 0 = 0 → m.data.getD j 0 = 0) ∧ Hid (Below w2.heap.size w2 wr)) (fun i _ => 24 - (intOf i).toNat)
  case atStart => exact ⟨0, by omega, rfl, hide (fun j h => by omega), hide (fun j h => by omega), hide (Below.refl _ _)⟩
  case round =>
    obtain ⟨k, hk, rfl, HE, HZ, HB⟩ := hrel
    by_cases hlt : k < 24
    · have hlti : (k : Int) < 24 := by omega
      have kr : k < m.refs.length := by rw [unhide HR24]; exact hlt
      have kd : k < m.data.length := by rw [unhide HD24]; exact hlt
      have kri : (k : Int) < (m.refs.length : Int) := by omega
      have kdi : (k : Int) < (m.data.length : Int) := by omega
      obtain ⟨c0, c1, c2, c3⟩ := ((unhide HV2).below (unhide HB)).cells
      have hlk : ∀ W : World, Below wr.heap.size wr W → (Instr.lookup 98 (.map (some B)) (.int .i64 (k : Int)) false).run Try.prog W = .ok (.int .i64 ((imCnt m).getD k 0)) W := fun W hW => ((unhide HM).below (fr (unhide HB) hW)).look hlt
      obtain ⟨b2, o2, e2, hx2⟩ := ((unhide HC2).r.below (unhide HB)) k kr
      obtain ⟨b3, o3, e3, hx3⟩ := ((unhide HC2).d.below (unhide HB)) k kd
      rw [e2] at c0
      rw [e3] at c3
      clear e2 e3 c1 c2
      have er : m.refs.getD k 0 = m.refs[k] := by simp [List.getD, kr]
      have ed : m.data.getD k 0 = m.data[k] := by simp [List.getD, kd]
      have HER : Hid (m.refs[k] = (imCnt m).getD k 0 → ∀ j, j < k + 1 → m.refs.getD j 0 = (imCnt m).getD j 0) := hide (fun h j hj => by
        by_cases e : j = k
        · subst e; rw [er]; exact h
        · exact unhide HE j (by omega))
      have HZR : Hid (((imCnt m).getD k 0 = 0 → m.data[k] = 0) → ∀ j, j < k + 1 → (imCnt m).getD j 0 = 0 → m.data.getD j 0 = 0) := hide (fun h j hj => by
        by_cases e : j = k
        · subst e; rw [ed]; exact h
        · exact unhide HZ j (by omega))
      have HF1 : Hid (¬ m.refs[k] = (imCnt m).getD k 0 → fitB m = false) := hide (fun h => fit_cnt (unhide HR24) hlt (by rw [er]; exact h))
      have HF2 : Hid (m.refs[k] = (imCnt m).getD k 0 → (imCnt m).getD k 0 = 0 → ¬ m.data[k] = 0 → fitB m = false) := hide (fun h0 h1 h2 => fit_clear hlt (by rw [er]; exact h0) h1 (by rw [ed]; exact h2))
      clear er ed
      generalize (imCnt m).getD k 0 = X at *
      generalize m.refs[k] = R at *
      generalize m.data[k] = DD at *
      have hl0 := fun (n : Nat) => hlk (wr.drewN n) (Joins.below_draws _ _ _)
      by_cases hne : R = X
      · by_cases hz : X = 0
        · by_cases hd : DD = 0
          · have HE' := hide (unhide HER hne)
            have HZ' := hide (unhide HZR (fun _ => hd))
            have b1' : (R != X) = false := by simp [hne]
            have b2' : (X == 0) = true := by simp [hz]
            have b3' : (DD != 0) = false := by simp [hd]
            clear hne hz hd
            go_wp2
            go_quiet (fail)
            go_wp2
            go_roundw
            case rel => exact ⟨k + 1, by omega, by go_num, HE', HZ', hide ((unhide HB).trans (Joins.below_draws _ _ _))⟩
            case measure => simp [intOf]; omega
          · have HF := hide (unhide HF2 hne hz hd)
            have b1' : (R != X) = false := by simp [hne]
            have b2' : (X == 0) = true := by simp [hz]
            have b3' : (DD != 0) = true := by simp [hd]
            clear hne hz hd
            go_wp2
            go_quiet (fail)
            go_wp2
            go_ret
            exact ⟨ret_bool (unhide HF).symm, fr (unhide HB2) ((unhide HB).trans (Joins.below_draws _ _ _))⟩
        · have HE' := hide (unhide HER hne)
          have HZ' := hide (unhide HZR (fun h => absurd h hz))
          have b1' : (R != X) = false := by simp [hne]
          have b2' : (X == 0) = false := by simp [hz]
          clear hne hz
          go_wp2
          go_quiet (fail)
          go_wp2
          go_roundw
          case rel => exact ⟨k + 1, by omega, by go_num, HE', HZ', hide ((unhide HB).trans (Joins.below_draws _ _ _))⟩
          case measure => simp [intOf]; omega
      · have HF := hide (unhide HF1 hne)
        have b1' : (R != X) = true := by simp [hne]
        clear hne
        go_wp2
        go_quiet (fail)
        go_wp2
        go_ret
        exact ⟨ret_bool (unhide HF).symm, fr (unhide HB2) ((unhide HB).trans (Joins.below_draws _ _ _))⟩
    · have HF := hide (fit_yes (unhide HR24) (fun i h => unhide HE i (by omega)) (fun i h => unhide HZ i (by omega)))
      go_wp2
      go_ret
      exact ⟨ret_bool (unhide HF).symm, fr (unhide HB2) (unhide HB)⟩

set_option maxHeartbeats 3200000 in
theorem imagePartsOK_any (a : Im4) (m : Img) (w : World) (hL : ImL m) (hc : ImS w a m) :
    Calls Try.prog 45 #[imV a m] w fun e w' => e = .returned (.bool (partsB m)) ∧ Below w.heap.size w w' := by
  have HA := hide (Joins.below_alloc1 w (.cells #[.slice a.ro m.refs.length a.rc, .slice a.tq m.table.length a.tc, .slice a.so m.snaps.length a.sc, .slice a.dq m.data.length a.dc] 29))
  have HV := hide (VarM.new w 29 (.slice a.ro m.refs.length a.rc) (.slice a.tq m.table.length a.tc) (.slice a.so m.snaps.length a.sc) (.slice a.dq m.data.length a.dc))
  have HC := hide (hc.below (unhide HA))
  have HL := hide hL
  have HLT := hide (imTabs_len m)
  have HZT : Hid (∀ t ∈ imTabs m, t.length ≤ maxLen) := hide (fun t ht => by
    unfold imTabs at ht
    rw [List.mem_cons, List.mem_map] at ht
    rcases ht with rfl | ⟨s, hs, rfl⟩
    · exact hL.t
    · obtain ⟨j, hj, rfl⟩ := List.mem_iff_getElem.1 hs
      obtain ⟨_, _, _, _, _, _, _, _, _, h⟩ := hc.s j hj
      exact h)
  clear hc hL
  go_enter Try.func45, Try.ntmps45
  go_upto_region 1 with fail
  revert HA HV HC
  generalize (w.alloc _) = W0
  intro HA HV HC
  obtain ⟨c0, c1, c2, c3⟩ := (unhide HV).cells
  go_wp2_with fail
  refine (refsOK_impl _ _ m.refs _ (unhide HL).r (unhide HC).r).mono ?_
  rintro e w1 ⟨rfl, hw⟩
  replace hw := hw.symm
  subst hw
  cases h1 : ctB m.refs
  · have HF : Hid (partsB m = false) := hide (by rw [partsB, h1]; rfl)
    go_wp2
    go_ret
    exact ⟨ret_bool (unhide HF).symm, unhide HA⟩
  go_wp2_with fail
  refine (dataOK_any _ _ m.data _ (unhide HL).d (unhide HC).d).mono ?_
  rintro e w1 ⟨rfl, hw⟩
  replace hw := hw.symm
  subst hw
  cases h2 : datB m.data
  · have HF : Hid (partsB m = false) := hide (by rw [partsB, h1, h2]; rfl)
    go_wp2
    go_ret
    exact ⟨ret_bool (unhide HF).symm, unhide HA⟩
  go_wp2_with fail
  refine (snapNamesOK_any _ _ m.snaps _ (unhide HL).s (unhide HC).s).mono ?_
  rintro e w2 ⟨rfl, hb⟩
  have HB2 := hide (fr (unhide HA) hb)
  have HC2 := hide ((unhide HC).below hb)
  have HV2 := hide ((unhide HV).below hb)
  clear hb c0 c1 c2 c3 HA HV HC
  cases h3 : snpsB m.snaps
  · have HF : Hid (partsB m = false) := hide (by rw [partsB, h1, h2, h3]; rfl)
    go_wp2
    go_ret
    exact ⟨ret_bool (unhide HF).symm, unhide HB2⟩
  have HF : Hid (partsB m = tabsB (imTabs m)) := hide (by rw [partsB, h1, h2, h3]; rfl)
  have hs3 : m.snaps.length ≤ 3 := by
    unfold snpsB at h3
    simp only [Bool.and_eq_true, decide_eq_true_eq] at h3
    exact h3.1.1
  clear h1 h2 h3
  obtain ⟨c0, c1, c2, c3⟩ := (unhide HV2).cells
  go_wp2_with fail
  refine (tablesOf_any a m _ hs3 (unhide HC2)).mono ?_
  rintro e w3 ⟨qo, qa, rfl, hrow, hb⟩
  have HROW := hide hrow
  have HB3 := hide (fr (unhide HB2) hb)
  clear hb hrow c0 c1 c2 c3
  go_wp2_with fail
  refine (tablesOK_any qo qa (imTabs m) _ (by rw [unhide HLT]; omega) (unhide HZT) (unhide HROW)).mono ?_
  rintro e w4 ⟨rfl, hb⟩
  have HB4 := hide (fr (unhide HB3) hb)
  clear hb
  generalize tabsB (imTabs m) = T at *
  go_wp2
  go_ret
  exact ⟨ret_bool (by rw [unhide HF]), unhide HB4⟩

end Go.Proofs.Ytjoafbkcnnhdiac

namespace Go.Proofs.Ytjoafbkcnnhdiac
open Go.RowKit
set_option linter.unusedVariables false
set_option maxRecDepth 100000

end Go.Proofs.Ytjoafbkcnnhdiac

namespace Go.Proofs.Ytjoafbkcnnhdiac
open Go.RowKit
set_option linter.unusedVariables false
set_option maxRecDepth 100000

def cN (t : List Int) (i : Nat) : Int := (t.count ((i : Int) + 2) : Int)
theorem clA_count (t : List Int) (i : Nat) : ((clA t).count (i : Int) : Int) = cN t i := by
  unfold clA clTo cN
  rw [List.take_length]
  induction t with
  | nil => rfl
  | cons e t ih =>
    rw [List.filterMap_cons, List.count_cons]
    by_cases h : 2 ≤ e
    · rw [if_pos h]
      simp only [List.count_cons]
      by_cases h2 : e = (i : Int) + 2
      · have h3 : e - 2 = (i : Int) := by omega
        simp [h2]; omega
      · have h3 : ¬ (e - 2 = (i : Int)) := by omega
        simp [h2, h3]; omega
    · rw [if_neg h]
      have h2 : ¬ (e = (i : Int) + 2) := by omega
      simp [h2]; omega
def sN (ts : List (List Int)) (i : Nat) : Int := (ts.map fun t => cN t i).sum
theorem fold_cnt (i : Nat) (hi : i < 24) : ∀ (ts : List (List Int)), (∀ t ∈ ts, tbB t = true) → ∀ ns : List Int, ns.length = 24 → (ts.foldl cnt1T ns).getD i 0 = ns.getD i 0 + sN ts i := by
  intro ts
  induction ts with
  | nil => intro _ ns _; simp [sN]
  | cons t ts ih =>
    intro ht ns hl
    rw [List.foldl_cons, ih (fun x hx => ht x (by simp [hx])) _ (by rw [cnt1T_len]; exact hl), cnt1T_get (ht t (by simp)) hl hi, clA_count]
    simp only [sN, List.map_cons, List.sum_cons]
    omega
theorem cnt_get {m : Img} (ht : ∀ t ∈ imTabs m, tbB t = true) {i : Nat} (hi : i < 24) : (imCnt m).getD i 0 = sN (imTabs m) i := by
  unfold imCnt
  rw [fold_cnt i hi _ ht _ rfl, zero24_get hi]; omega
end Go.Proofs.Ytjoafbkcnnhdiac
