import Derived.Test.YtpdpnepnfhbonaaGreatRows
import Derived.Test.YtpdpnepnfhbonaaGreatXReqDoPart1
import Derived.Test.YtpdpnepnfhbonaaGreatXReqDoPart2
import Derived.Test.YtpdpnepnfhbonaaGreatXReqDoPart3
import Derived.Test.YtpdpnepnfhbonaaGreatXReqDoPart4
import Derived.Test.YtpdpnepnfhbonaaGreatXReqDoPart5
import Derived.Test.YtpdpnepnfhbonaaGreatXReqDoPart8
import Derived.Test.YtpdpnepnfhbonaaGreatXReqDoPart9
import Derived.WalkKit
import Derived.WalkSpells
import Derived.KernelRfl
import Derived.LoopN
import Derived.Deep.RegionWith
import Derived.Deep.RegionHeld3
import Derived.Test.YtpdpnepnfhbonaaGreatXReqDoPart6

namespace Go.Proofs.YtpdpnepnfhbonaaGreat
open Go.RowKit
set_option linter.unusedVariables false
set_option maxRecDepth 100000

structure CpI (W0 : World) (x : Nat) (a : Im4) (m : Img) (d : Nat → Bool) (w : World) (s3 s6 s7 s8 s9 s10 s11 s12 s13 s14 s15 s16 s17 s18 : Value) : Prop where
  b : Below W0.heap.size W0 w
  f0 : d 0 = true → s6 = .pointer (some ⟨x, 0, none⟩)
  f1 : d 1 = true → s7 = .slice a.ro m.refs.length a.rc
  f3 : d 3 = true → s9 = .pointer (some ⟨x, 1, none⟩)
  f4 : d 4 = true → s10 = .slice a.tq m.table.length a.tc
  f6 : d 6 = true → s12 = .pointer (some ⟨x, 2, none⟩)
  f7 : d 7 = true → s13 = .slice a.so m.snaps.length a.sc
  f9 : d 9 = true → s15 = .pointer (some ⟨x, 3, none⟩)
  f10 : d 10 = true → s16 = .slice a.dq m.data.length a.dc
  f2 : d 2 = true → OwnN w W0.heap.size s8 m.refs
  f5 : d 5 = true → OwnN w W0.heap.size s11 m.table ∧ Apt s8 s11
  f8 : d 8 = true → SnO w W0.heap.size s14 m.snaps
  f11 : d 11 = true → OwnN w W0.heap.size s17 m.data ∧ Apt s8 s17 ∧ Apt s11 s17
  f12 : d 12 = true → s18 = .agg #[s8, s11, s14, s17]
  f13 : d 13 = true → d 14 = false → ∃ y, s3 = .pointer (some ⟨y, 0, none⟩) ∧ W0.heap.size ≤ y ∧ VarM w y 32 (.slice none 0 0) (.slice none 0 0) (.slice none 0 0) (.slice none 0 0)
  f14 : d 14 = true → ∃ y, s3 = .pointer (some ⟨y, 0, none⟩) ∧ W0.heap.size ≤ y ∧ VarM w y 32 s8 s11 s14 s17
  c5 : d 5 = true → d 2 = true
  c8 : d 8 = true → d 5 = true
  c11 : d 11 = true → d 8 = true
  c12 : d 12 = true → d 11 = true
  c14 : d 14 = true → d 12 = true ∧ d 13 = true

theorem CpI.s0 {W0 w : World} {x : Nat} {a : Im4} {m : Img} {d : Nat → Bool} {s3 s6 s7 s8 s9 s10 s11 s12 s13 s14 s15 s16 s17 s18 v : Value} (I : CpI W0 x a m d w s3 s6 s7 s8 s9 s10 s11 s12 s13 s14 s15 s16 s17 s18) (hd : d 0 = false) (hv : v = .pointer (some ⟨x, 0, none⟩)) : CpI W0 x a m (updD d 0) w s3 v s7 s8 s9 s10 s11 s12 s13 s14 s15 s16 s17 s18 where
  b := I.b
  f0 := fun _ => hv
  f1 := fun h => I.f1 (upd_ne (by decide) h)
  f2 := fun h => I.f2 (upd_ne (by decide) h)
  f3 := fun h => I.f3 (upd_ne (by decide) h)
  f4 := fun h => I.f4 (upd_ne (by decide) h)
  f5 := fun h => I.f5 (upd_ne (by decide) h)
  f6 := fun h => I.f6 (upd_ne (by decide) h)
  f7 := fun h => I.f7 (upd_ne (by decide) h)
  f8 := fun h => I.f8 (upd_ne (by decide) h)
  f9 := fun h => I.f9 (upd_ne (by decide) h)
  f10 := fun h => I.f10 (upd_ne (by decide) h)
  f11 := fun h => I.f11 (upd_ne (by decide) h)
  f12 := fun h => I.f12 (upd_ne (by decide) h)
  f13 := fun h h' => I.f13 (upd_ne (by decide) h) (upd_nf h')
  f14 := fun h => I.f14 (upd_ne (by decide) h)
  c5 := fun h => upd_up (I.c5 (upd_ne (by decide) h))
  c8 := fun h => upd_up (I.c8 (upd_ne (by decide) h))
  c11 := fun h => upd_up (I.c11 (upd_ne (by decide) h))
  c12 := fun h => upd_up (I.c12 (upd_ne (by decide) h))
  c14 := fun h => ⟨upd_up (I.c14 (upd_ne (by decide) h)).1, upd_up (I.c14 (upd_ne (by decide) h)).2⟩

theorem CpI.s1 {W0 w : World} {x : Nat} {a : Im4} {m : Img} {d : Nat → Bool} {s3 s6 s7 s8 s9 s10 s11 s12 s13 s14 s15 s16 s17 s18 v : Value} (I : CpI W0 x a m d w s3 s6 s7 s8 s9 s10 s11 s12 s13 s14 s15 s16 s17 s18) (hd : d 1 = false) (hv : v = .slice a.ro m.refs.length a.rc) : CpI W0 x a m (updD d 1) w s3 s6 v s8 s9 s10 s11 s12 s13 s14 s15 s16 s17 s18 where
  b := I.b
  f0 := fun h => I.f0 (upd_ne (by decide) h)
  f1 := fun _ => hv
  f2 := fun h => I.f2 (upd_ne (by decide) h)
  f3 := fun h => I.f3 (upd_ne (by decide) h)
  f4 := fun h => I.f4 (upd_ne (by decide) h)
  f5 := fun h => I.f5 (upd_ne (by decide) h)
  f6 := fun h => I.f6 (upd_ne (by decide) h)
  f7 := fun h => I.f7 (upd_ne (by decide) h)
  f8 := fun h => I.f8 (upd_ne (by decide) h)
  f9 := fun h => I.f9 (upd_ne (by decide) h)
  f10 := fun h => I.f10 (upd_ne (by decide) h)
  f11 := fun h => I.f11 (upd_ne (by decide) h)
  f12 := fun h => I.f12 (upd_ne (by decide) h)
  f13 := fun h h' => I.f13 (upd_ne (by decide) h) (upd_nf h')
  f14 := fun h => I.f14 (upd_ne (by decide) h)
  c5 := fun h => upd_up (I.c5 (upd_ne (by decide) h))
  c8 := fun h => upd_up (I.c8 (upd_ne (by decide) h))
  c11 := fun h => upd_up (I.c11 (upd_ne (by decide) h))
  c12 := fun h => upd_up (I.c12 (upd_ne (by decide) h))
  c14 := fun h => ⟨upd_up (I.c14 (upd_ne (by decide) h)).1, upd_up (I.c14 (upd_ne (by decide) h)).2⟩

theorem CpI.s3 {W0 w : World} {x : Nat} {a : Im4} {m : Img} {d : Nat → Bool} {s3 s6 s7 s8 s9 s10 s11 s12 s13 s14 s15 s16 s17 s18 v : Value} (I : CpI W0 x a m d w s3 s6 s7 s8 s9 s10 s11 s12 s13 s14 s15 s16 s17 s18) (hd : d 3 = false) (hv : v = .pointer (some ⟨x, 1, none⟩)) : CpI W0 x a m (updD d 3) w s3 s6 s7 s8 v s10 s11 s12 s13 s14 s15 s16 s17 s18 where
  b := I.b
  f0 := fun h => I.f0 (upd_ne (by decide) h)
  f1 := fun h => I.f1 (upd_ne (by decide) h)
  f2 := fun h => I.f2 (upd_ne (by decide) h)
  f3 := fun _ => hv
  f4 := fun h => I.f4 (upd_ne (by decide) h)
  f5 := fun h => I.f5 (upd_ne (by decide) h)
  f6 := fun h => I.f6 (upd_ne (by decide) h)
  f7 := fun h => I.f7 (upd_ne (by decide) h)
  f8 := fun h => I.f8 (upd_ne (by decide) h)
  f9 := fun h => I.f9 (upd_ne (by decide) h)
  f10 := fun h => I.f10 (upd_ne (by decide) h)
  f11 := fun h => I.f11 (upd_ne (by decide) h)
  f12 := fun h => I.f12 (upd_ne (by decide) h)
  f13 := fun h h' => I.f13 (upd_ne (by decide) h) (upd_nf h')
  f14 := fun h => I.f14 (upd_ne (by decide) h)
  c5 := fun h => upd_up (I.c5 (upd_ne (by decide) h))
  c8 := fun h => upd_up (I.c8 (upd_ne (by decide) h))
  c11 := fun h => upd_up (I.c11 (upd_ne (by decide) h))
  c12 := fun h => upd_up (I.c12 (upd_ne (by decide) h))
  c14 := fun h => ⟨upd_up (I.c14 (upd_ne (by decide) h)).1, upd_up (I.c14 (upd_ne (by decide) h)).2⟩

theorem CpI.s4 {W0 w : World} {x : Nat} {a : Im4} {m : Img} {d : Nat → Bool} {s3 s6 s7 s8 s9 s10 s11 s12 s13 s14 s15 s16 s17 s18 v : Value} (I : CpI W0 x a m d w s3 s6 s7 s8 s9 s10 s11 s12 s13 s14 s15 s16 s17 s18) (hd : d 4 = false) (hv : v = .slice a.tq m.table.length a.tc) : CpI W0 x a m (updD d 4) w s3 s6 s7 s8 s9 v s11 s12 s13 s14 s15 s16 s17 s18 where
  b := I.b
  f0 := fun h => I.f0 (upd_ne (by decide) h)
  f1 := fun h => I.f1 (upd_ne (by decide) h)
  f2 := fun h => I.f2 (upd_ne (by decide) h)
  f3 := fun h => I.f3 (upd_ne (by decide) h)
  f4 := fun _ => hv
  f5 := fun h => I.f5 (upd_ne (by decide) h)
  f6 := fun h => I.f6 (upd_ne (by decide) h)
  f7 := fun h => I.f7 (upd_ne (by decide) h)
  f8 := fun h => I.f8 (upd_ne (by decide) h)
  f9 := fun h => I.f9 (upd_ne (by decide) h)
  f10 := fun h => I.f10 (upd_ne (by decide) h)
  f11 := fun h => I.f11 (upd_ne (by decide) h)
  f12 := fun h => I.f12 (upd_ne (by decide) h)
  f13 := fun h h' => I.f13 (upd_ne (by decide) h) (upd_nf h')
  f14 := fun h => I.f14 (upd_ne (by decide) h)
  c5 := fun h => upd_up (I.c5 (upd_ne (by decide) h))
  c8 := fun h => upd_up (I.c8 (upd_ne (by decide) h))
  c11 := fun h => upd_up (I.c11 (upd_ne (by decide) h))
  c12 := fun h => upd_up (I.c12 (upd_ne (by decide) h))
  c14 := fun h => ⟨upd_up (I.c14 (upd_ne (by decide) h)).1, upd_up (I.c14 (upd_ne (by decide) h)).2⟩

theorem CpI.s6 {W0 w : World} {x : Nat} {a : Im4} {m : Img} {d : Nat → Bool} {s3 s6 s7 s8 s9 s10 s11 s12 s13 s14 s15 s16 s17 s18 v : Value} (I : CpI W0 x a m d w s3 s6 s7 s8 s9 s10 s11 s12 s13 s14 s15 s16 s17 s18) (hd : d 6 = false) (hv : v = .pointer (some ⟨x, 2, none⟩)) : CpI W0 x a m (updD d 6) w s3 s6 s7 s8 s9 s10 s11 v s13 s14 s15 s16 s17 s18 where
  b := I.b
  f0 := fun h => I.f0 (upd_ne (by decide) h)
  f1 := fun h => I.f1 (upd_ne (by decide) h)
  f2 := fun h => I.f2 (upd_ne (by decide) h)
  f3 := fun h => I.f3 (upd_ne (by decide) h)
  f4 := fun h => I.f4 (upd_ne (by decide) h)
  f5 := fun h => I.f5 (upd_ne (by decide) h)
  f6 := fun _ => hv
  f7 := fun h => I.f7 (upd_ne (by decide) h)
  f8 := fun h => I.f8 (upd_ne (by decide) h)
  f9 := fun h => I.f9 (upd_ne (by decide) h)
  f10 := fun h => I.f10 (upd_ne (by decide) h)
  f11 := fun h => I.f11 (upd_ne (by decide) h)
  f12 := fun h => I.f12 (upd_ne (by decide) h)
  f13 := fun h h' => I.f13 (upd_ne (by decide) h) (upd_nf h')
  f14 := fun h => I.f14 (upd_ne (by decide) h)
  c5 := fun h => upd_up (I.c5 (upd_ne (by decide) h))
  c8 := fun h => upd_up (I.c8 (upd_ne (by decide) h))
  c11 := fun h => upd_up (I.c11 (upd_ne (by decide) h))
  c12 := fun h => upd_up (I.c12 (upd_ne (by decide) h))
  c14 := fun h => ⟨upd_up (I.c14 (upd_ne (by decide) h)).1, upd_up (I.c14 (upd_ne (by decide) h)).2⟩

theorem CpI.s7 {W0 w : World} {x : Nat} {a : Im4} {m : Img} {d : Nat → Bool} {s3 s6 s7 s8 s9 s10 s11 s12 s13 s14 s15 s16 s17 s18 v : Value} (I : CpI W0 x a m d w s3 s6 s7 s8 s9 s10 s11 s12 s13 s14 s15 s16 s17 s18) (hd : d 7 = false) (hv : v = .slice a.so m.snaps.length a.sc) : CpI W0 x a m (updD d 7) w s3 s6 s7 s8 s9 s10 s11 s12 v s14 s15 s16 s17 s18 where
  b := I.b
  f0 := fun h => I.f0 (upd_ne (by decide) h)
  f1 := fun h => I.f1 (upd_ne (by decide) h)
  f2 := fun h => I.f2 (upd_ne (by decide) h)
  f3 := fun h => I.f3 (upd_ne (by decide) h)
  f4 := fun h => I.f4 (upd_ne (by decide) h)
  f5 := fun h => I.f5 (upd_ne (by decide) h)
  f6 := fun h => I.f6 (upd_ne (by decide) h)
  f7 := fun _ => hv
  f8 := fun h => I.f8 (upd_ne (by decide) h)
  f9 := fun h => I.f9 (upd_ne (by decide) h)
  f10 := fun h => I.f10 (upd_ne (by decide) h)
  f11 := fun h => I.f11 (upd_ne (by decide) h)
  f12 := fun h => I.f12 (upd_ne (by decide) h)
  f13 := fun h h' => I.f13 (upd_ne (by decide) h) (upd_nf h')
  f14 := fun h => I.f14 (upd_ne (by decide) h)
  c5 := fun h => upd_up (I.c5 (upd_ne (by decide) h))
  c8 := fun h => upd_up (I.c8 (upd_ne (by decide) h))
  c11 := fun h => upd_up (I.c11 (upd_ne (by decide) h))
  c12 := fun h => upd_up (I.c12 (upd_ne (by decide) h))
  c14 := fun h => ⟨upd_up (I.c14 (upd_ne (by decide) h)).1, upd_up (I.c14 (upd_ne (by decide) h)).2⟩

theorem CpI.s9 {W0 w : World} {x : Nat} {a : Im4} {m : Img} {d : Nat → Bool} {s3 s6 s7 s8 s9 s10 s11 s12 s13 s14 s15 s16 s17 s18 v : Value} (I : CpI W0 x a m d w s3 s6 s7 s8 s9 s10 s11 s12 s13 s14 s15 s16 s17 s18) (hd : d 9 = false) (hv : v = .pointer (some ⟨x, 3, none⟩)) : CpI W0 x a m (updD d 9) w s3 s6 s7 s8 s9 s10 s11 s12 s13 s14 v s16 s17 s18 where
  b := I.b
  f0 := fun h => I.f0 (upd_ne (by decide) h)
  f1 := fun h => I.f1 (upd_ne (by decide) h)
  f2 := fun h => I.f2 (upd_ne (by decide) h)
  f3 := fun h => I.f3 (upd_ne (by decide) h)
  f4 := fun h => I.f4 (upd_ne (by decide) h)
  f5 := fun h => I.f5 (upd_ne (by decide) h)
  f6 := fun h => I.f6 (upd_ne (by decide) h)
  f7 := fun h => I.f7 (upd_ne (by decide) h)
  f8 := fun h => I.f8 (upd_ne (by decide) h)
  f9 := fun _ => hv
  f10 := fun h => I.f10 (upd_ne (by decide) h)
  f11 := fun h => I.f11 (upd_ne (by decide) h)
  f12 := fun h => I.f12 (upd_ne (by decide) h)
  f13 := fun h h' => I.f13 (upd_ne (by decide) h) (upd_nf h')
  f14 := fun h => I.f14 (upd_ne (by decide) h)
  c5 := fun h => upd_up (I.c5 (upd_ne (by decide) h))
  c8 := fun h => upd_up (I.c8 (upd_ne (by decide) h))
  c11 := fun h => upd_up (I.c11 (upd_ne (by decide) h))
  c12 := fun h => upd_up (I.c12 (upd_ne (by decide) h))
  c14 := fun h => ⟨upd_up (I.c14 (upd_ne (by decide) h)).1, upd_up (I.c14 (upd_ne (by decide) h)).2⟩

theorem CpI.s10 {W0 w : World} {x : Nat} {a : Im4} {m : Img} {d : Nat → Bool} {s3 s6 s7 s8 s9 s10 s11 s12 s13 s14 s15 s16 s17 s18 v : Value} (I : CpI W0 x a m d w s3 s6 s7 s8 s9 s10 s11 s12 s13 s14 s15 s16 s17 s18) (hd : d 10 = false) (hv : v = .slice a.dq m.data.length a.dc) : CpI W0 x a m (updD d 10) w s3 s6 s7 s8 s9 s10 s11 s12 s13 s14 s15 v s17 s18 where
  b := I.b
  f0 := fun h => I.f0 (upd_ne (by decide) h)
  f1 := fun h => I.f1 (upd_ne (by decide) h)
  f2 := fun h => I.f2 (upd_ne (by decide) h)
  f3 := fun h => I.f3 (upd_ne (by decide) h)
  f4 := fun h => I.f4 (upd_ne (by decide) h)
  f5 := fun h => I.f5 (upd_ne (by decide) h)
  f6 := fun h => I.f6 (upd_ne (by decide) h)
  f7 := fun h => I.f7 (upd_ne (by decide) h)
  f8 := fun h => I.f8 (upd_ne (by decide) h)
  f9 := fun h => I.f9 (upd_ne (by decide) h)
  f10 := fun _ => hv
  f11 := fun h => I.f11 (upd_ne (by decide) h)
  f12 := fun h => I.f12 (upd_ne (by decide) h)
  f13 := fun h h' => I.f13 (upd_ne (by decide) h) (upd_nf h')
  f14 := fun h => I.f14 (upd_ne (by decide) h)
  c5 := fun h => upd_up (I.c5 (upd_ne (by decide) h))
  c8 := fun h => upd_up (I.c8 (upd_ne (by decide) h))
  c11 := fun h => upd_up (I.c11 (upd_ne (by decide) h))
  c12 := fun h => upd_up (I.c12 (upd_ne (by decide) h))
  c14 := fun h => ⟨upd_up (I.c14 (upd_ne (by decide) h)).1, upd_up (I.c14 (upd_ne (by decide) h)).2⟩

theorem CpI.s2 {W0 w w2 : World} {x : Nat} {a : Im4} {m : Img} {d : Nat → Bool} {s3 s6 s7 s8 s9 s10 s11 s12 s13 s14 s15 s16 s17 s18 v : Value} (I : CpI W0 x a m d w s3 s6 s7 s8 s9 s10 s11 s12 s13 s14 s15 s16 s17 s18) (hd : d 2 = false) (hb : Below w.heap.size w w2) (hv : OwnN w2 w.heap.size v m.refs) : CpI W0 x a m (updD d 2) w2 s3 s6 s7 v s9 s10 s11 s12 s13 s14 s15 s16 s17 s18 where
  b := fr I.b hb
  f0 := fun h => I.f0 (upd_ne (by decide) h)
  f1 := fun h => I.f1 (upd_ne (by decide) h)
  f2 := fun _ => hv.base I.b.size
  f3 := fun h => I.f3 (upd_ne (by decide) h)
  f4 := fun h => I.f4 (upd_ne (by decide) h)
  f5 := fun h => no_d (I.c5 (upd_ne (by decide) h)) hd
  f6 := fun h => I.f6 (upd_ne (by decide) h)
  f7 := fun h => I.f7 (upd_ne (by decide) h)
  f8 := fun h => (I.f8 (upd_ne (by decide) h)).below hb
  f9 := fun h => I.f9 (upd_ne (by decide) h)
  f10 := fun h => I.f10 (upd_ne (by decide) h)
  f11 := fun h => no_d (I.c5 (I.c8 (I.c11 (upd_ne (by decide) h)))) hd
  f12 := fun h => no_d (I.c5 (I.c8 (I.c11 (I.c12 (upd_ne (by decide) h))))) hd
  f13 := fun h h' => (I.f13 (upd_ne (by decide) h) (upd_nf h')).imp fun y hy => ⟨hy.1, hy.2.1, hy.2.2.below hb⟩
  f14 := fun h => no_d (I.c5 (I.c8 (I.c11 (I.c12 (I.c14 (upd_ne (by decide) h)).1)))) hd
  c5 := fun h => upd_at
  c8 := fun h => upd_up (I.c8 (upd_ne (by decide) h))
  c11 := fun h => upd_up (I.c11 (upd_ne (by decide) h))
  c12 := fun h => upd_up (I.c12 (upd_ne (by decide) h))
  c14 := fun h => ⟨upd_up (I.c14 (upd_ne (by decide) h)).1, upd_up (I.c14 (upd_ne (by decide) h)).2⟩

theorem CpI.s5 {W0 w w2 : World} {x : Nat} {a : Im4} {m : Img} {d : Nat → Bool} {s3 s6 s7 s8 s9 s10 s11 s12 s13 s14 s15 s16 s17 s18 v : Value} (I : CpI W0 x a m d w s3 s6 s7 s8 s9 s10 s11 s12 s13 s14 s15 s16 s17 s18) (hd : d 5 = false) (hb : Below w.heap.size w w2) (p2 : d 2 = true) (hv : OwnN w2 w.heap.size v m.table) : CpI W0 x a m (updD d 5) w2 s3 s6 s7 s8 s9 s10 v s12 s13 s14 s15 s16 s17 s18 where
  b := fr I.b hb
  f0 := fun h => I.f0 (upd_ne (by decide) h)
  f1 := fun h => I.f1 (upd_ne (by decide) h)
  f2 := fun h => (I.f2 (upd_ne (by decide) h)).below hb
  f3 := fun h => I.f3 (upd_ne (by decide) h)
  f4 := fun h => I.f4 (upd_ne (by decide) h)
  f5 := fun _ => ⟨hv.base I.b.size, fresh_apart (I.f2 p2) hv⟩
  f6 := fun h => I.f6 (upd_ne (by decide) h)
  f7 := fun h => I.f7 (upd_ne (by decide) h)
  f8 := fun h => (I.f8 (upd_ne (by decide) h)).below hb
  f9 := fun h => I.f9 (upd_ne (by decide) h)
  f10 := fun h => I.f10 (upd_ne (by decide) h)
  f11 := fun h => no_d (I.c8 (I.c11 (upd_ne (by decide) h))) hd
  f12 := fun h => no_d (I.c8 (I.c11 (I.c12 (upd_ne (by decide) h)))) hd
  f13 := fun h h' => (I.f13 (upd_ne (by decide) h) (upd_nf h')).imp fun y hy => ⟨hy.1, hy.2.1, hy.2.2.below hb⟩
  f14 := fun h => no_d (I.c8 (I.c11 (I.c12 (I.c14 (upd_ne (by decide) h)).1))) hd
  c5 := fun h => upd_up p2
  c8 := fun h => upd_at
  c11 := fun h => upd_up (I.c11 (upd_ne (by decide) h))
  c12 := fun h => upd_up (I.c12 (upd_ne (by decide) h))
  c14 := fun h => ⟨upd_up (I.c14 (upd_ne (by decide) h)).1, upd_up (I.c14 (upd_ne (by decide) h)).2⟩

theorem CpI.s8 {W0 w w2 : World} {x : Nat} {a : Im4} {m : Img} {d : Nat → Bool} {s3 s6 s7 s8 s9 s10 s11 s12 s13 s14 s15 s16 s17 s18 v : Value} (I : CpI W0 x a m d w s3 s6 s7 s8 s9 s10 s11 s12 s13 s14 s15 s16 s17 s18) (hd : d 8 = false) (hb : Below w.heap.size w w2) (p5 : d 5 = true) (hv : SnO w2 w.heap.size v m.snaps) : CpI W0 x a m (updD d 8) w2 s3 s6 s7 s8 s9 s10 s11 s12 s13 v s15 s16 s17 s18 where
  b := fr I.b hb
  f0 := fun h => I.f0 (upd_ne (by decide) h)
  f1 := fun h => I.f1 (upd_ne (by decide) h)
  f2 := fun h => (I.f2 (upd_ne (by decide) h)).below hb
  f3 := fun h => I.f3 (upd_ne (by decide) h)
  f4 := fun h => I.f4 (upd_ne (by decide) h)
  f5 := fun h => ⟨(I.f5 (upd_ne (by decide) h)).1.below hb, (I.f5 (upd_ne (by decide) h)).2⟩
  f6 := fun h => I.f6 (upd_ne (by decide) h)
  f7 := fun h => I.f7 (upd_ne (by decide) h)
  f8 := fun _ => hv.base I.b.size
  f9 := fun h => I.f9 (upd_ne (by decide) h)
  f10 := fun h => I.f10 (upd_ne (by decide) h)
  f11 := fun h => ⟨(I.f11 (upd_ne (by decide) h)).1.below hb, (I.f11 (upd_ne (by decide) h)).2⟩
  f12 := fun h => no_d (I.c11 (I.c12 (upd_ne (by decide) h))) hd
  f13 := fun h h' => (I.f13 (upd_ne (by decide) h) (upd_nf h')).imp fun y hy => ⟨hy.1, hy.2.1, hy.2.2.below hb⟩
  f14 := fun h => no_d (I.c11 (I.c12 (I.c14 (upd_ne (by decide) h)).1)) hd
  c5 := fun h => upd_up (I.c5 (upd_ne (by decide) h))
  c8 := fun h => upd_up p5
  c11 := fun h => upd_at
  c12 := fun h => upd_up (I.c12 (upd_ne (by decide) h))
  c14 := fun h => ⟨upd_up (I.c14 (upd_ne (by decide) h)).1, upd_up (I.c14 (upd_ne (by decide) h)).2⟩

theorem CpI.s11 {W0 w w2 : World} {x : Nat} {a : Im4} {m : Img} {d : Nat → Bool} {s3 s6 s7 s8 s9 s10 s11 s12 s13 s14 s15 s16 s17 s18 v : Value} (I : CpI W0 x a m d w s3 s6 s7 s8 s9 s10 s11 s12 s13 s14 s15 s16 s17 s18) (hd : d 11 = false) (hb : Below w.heap.size w w2) (p8 : d 8 = true) (hv : OwnN w2 w.heap.size v m.data) : CpI W0 x a m (updD d 11) w2 s3 s6 s7 s8 s9 s10 s11 s12 s13 s14 s15 s16 v s18 where
  b := fr I.b hb
  f0 := fun h => I.f0 (upd_ne (by decide) h)
  f1 := fun h => I.f1 (upd_ne (by decide) h)
  f2 := fun h => (I.f2 (upd_ne (by decide) h)).below hb
  f3 := fun h => I.f3 (upd_ne (by decide) h)
  f4 := fun h => I.f4 (upd_ne (by decide) h)
  f5 := fun h => ⟨(I.f5 (upd_ne (by decide) h)).1.below hb, (I.f5 (upd_ne (by decide) h)).2⟩
  f6 := fun h => I.f6 (upd_ne (by decide) h)
  f7 := fun h => I.f7 (upd_ne (by decide) h)
  f8 := fun h => (I.f8 (upd_ne (by decide) h)).below hb
  f9 := fun h => I.f9 (upd_ne (by decide) h)
  f10 := fun h => I.f10 (upd_ne (by decide) h)
  f11 := fun _ => ⟨hv.base I.b.size, fresh_apart (I.f2 (I.c5 (I.c8 p8))) hv, fresh_apart (I.f5 (I.c8 p8)).1 hv⟩
  f12 := fun h => no_d (I.c12 (upd_ne (by decide) h)) hd
  f13 := fun h h' => (I.f13 (upd_ne (by decide) h) (upd_nf h')).imp fun y hy => ⟨hy.1, hy.2.1, hy.2.2.below hb⟩
  f14 := fun h => no_d (I.c12 (I.c14 (upd_ne (by decide) h)).1) hd
  c5 := fun h => upd_up (I.c5 (upd_ne (by decide) h))
  c8 := fun h => upd_up (I.c8 (upd_ne (by decide) h))
  c11 := fun h => upd_up p8
  c12 := fun h => upd_at
  c14 := fun h => ⟨upd_up (I.c14 (upd_ne (by decide) h)).1, upd_up (I.c14 (upd_ne (by decide) h)).2⟩

theorem CpI.s12 {W0 w : World} {x : Nat} {a : Im4} {m : Img} {d : Nat → Bool} {s3 s6 s7 s8 s9 s10 s11 s12 s13 s14 s15 s16 s17 s18 v : Value} (I : CpI W0 x a m d w s3 s6 s7 s8 s9 s10 s11 s12 s13 s14 s15 s16 s17 s18) (hd : d 12 = false) (p11 : d 11 = true) (hv : v = .agg #[s8, s11, s14, s17]) : CpI W0 x a m (updD d 12) w s3 s6 s7 s8 s9 s10 s11 s12 s13 s14 s15 s16 s17 v where
  b := I.b
  f0 := fun h => I.f0 (upd_ne (by decide) h)
  f1 := fun h => I.f1 (upd_ne (by decide) h)
  f2 := fun h => I.f2 (upd_ne (by decide) h)
  f3 := fun h => I.f3 (upd_ne (by decide) h)
  f4 := fun h => I.f4 (upd_ne (by decide) h)
  f5 := fun h => I.f5 (upd_ne (by decide) h)
  f6 := fun h => I.f6 (upd_ne (by decide) h)
  f7 := fun h => I.f7 (upd_ne (by decide) h)
  f8 := fun h => I.f8 (upd_ne (by decide) h)
  f9 := fun h => I.f9 (upd_ne (by decide) h)
  f10 := fun h => I.f10 (upd_ne (by decide) h)
  f11 := fun h => I.f11 (upd_ne (by decide) h)
  f12 := fun _ => hv
  f13 := fun h h' => I.f13 (upd_ne (by decide) h) (upd_nf h')
  f14 := fun h => no_d ((I.c14 (upd_ne (by decide) h)).1) hd
  c5 := fun h => upd_up (I.c5 (upd_ne (by decide) h))
  c8 := fun h => upd_up (I.c8 (upd_ne (by decide) h))
  c11 := fun h => upd_up (I.c11 (upd_ne (by decide) h))
  c12 := fun h => upd_up p11
  c14 := fun h => ⟨upd_at, upd_up (I.c14 (upd_ne (by decide) h)).2⟩

theorem CpI.s13 {W0 w w2 : World} {x : Nat} {a : Im4} {m : Img} {d : Nat → Bool} {s3 s6 s7 s8 s9 s10 s11 s12 s13 s14 s15 s16 s17 s18 v : Value} (I : CpI W0 x a m d w s3 s6 s7 s8 s9 s10 s11 s12 s13 s14 s15 s16 s17 s18) (hd : d 13 = false) (hb : Below w.heap.size w w2) {y : Nat} (hv : v = .pointer (some ⟨y, 0, none⟩)) (hy : W0.heap.size ≤ y) (hn : VarM w2 y 32 (.slice none 0 0) (.slice none 0 0) (.slice none 0 0) (.slice none 0 0)) : CpI W0 x a m (updD d 13) w2 v s6 s7 s8 s9 s10 s11 s12 s13 s14 s15 s16 s17 s18 where
  b := fr I.b hb
  f0 := fun h => I.f0 (upd_ne (by decide) h)
  f1 := fun h => I.f1 (upd_ne (by decide) h)
  f2 := fun h => (I.f2 (upd_ne (by decide) h)).below hb
  f3 := fun h => I.f3 (upd_ne (by decide) h)
  f4 := fun h => I.f4 (upd_ne (by decide) h)
  f5 := fun h => ⟨(I.f5 (upd_ne (by decide) h)).1.below hb, (I.f5 (upd_ne (by decide) h)).2⟩
  f6 := fun h => I.f6 (upd_ne (by decide) h)
  f7 := fun h => I.f7 (upd_ne (by decide) h)
  f8 := fun h => (I.f8 (upd_ne (by decide) h)).below hb
  f9 := fun h => I.f9 (upd_ne (by decide) h)
  f10 := fun h => I.f10 (upd_ne (by decide) h)
  f11 := fun h => ⟨(I.f11 (upd_ne (by decide) h)).1.below hb, (I.f11 (upd_ne (by decide) h)).2⟩
  f12 := fun h => I.f12 (upd_ne (by decide) h)
  f13 := fun _ _ => ⟨y, hv, hy, hn⟩
  f14 := fun h => no_d ((I.c14 (upd_ne (by decide) h)).2) hd
  c5 := fun h => upd_up (I.c5 (upd_ne (by decide) h))
  c8 := fun h => upd_up (I.c8 (upd_ne (by decide) h))
  c11 := fun h => upd_up (I.c11 (upd_ne (by decide) h))
  c12 := fun h => upd_up (I.c12 (upd_ne (by decide) h))
  c14 := fun h => ⟨upd_up (I.c14 (upd_ne (by decide) h)).1, upd_at⟩

theorem SnO.slice {w : World} {B : Nat} {v : Value} {ss : List Snp} (h : SnO w B v ss) : ∃ qo qa, v = .slice qo ss.length qa := by obtain ⟨qo, qa, _, e, _⟩ := h; exact ⟨qo, qa, e⟩
theorem SnO.keep {S : Nat → Prop} {w w' : World} {B x t : Nat} {c : Array Value} {v : Value} {ss : List Snp} (h : SnO w B v ss) (hk : Keep S w w') (hs : ∀ k, S k → k = x) (hx : w.heap[x]? = some (.cells c t (0, 0))) (he : t ≠ 83) : SnO w' B v ss := by
  obtain ⟨qo, qa, ts, e, l, o⟩ := h
  exact ⟨qo, qa, ts, e, l, o.keep hk (fun g hg hS => o.other hx he (hs g hS ▸ hg))⟩
theorem CpI.s14 {W0 w w2 : World} {x y : Nat} {a : Im4} {m : Img} {d : Nat → Bool} {s3 s6 s7 s8 s9 s10 s11 s12 s13 s14 s15 s16 s17 s18 : Value} (I : CpI W0 x a m d w s3 s6 s7 s8 s9 s10 s11 s12 s13 s14 s15 s16 s17 s18) (hd : d 14 = false) (p12 : d 12 = true) (p13 : d 13 = true) (hy : s3 = .pointer (some ⟨y, 0, none⟩)) (hB : W0.heap.size ≤ y) (hv : w.heap[y]? = some (.cells #[.slice none 0 0, .slice none 0 0, .slice none 0 0, .slice none 0 0] 32 (0, 0))) (hk : Keep (fun k => k = y) w w2) (hn : VarM w2 y 32 s8 s11 s14 s17) : CpI W0 x a m (updD d 14) w2 s3 s6 s7 s8 s9 s10 s11 s12 s13 s14 s15 s16 s17 s18 where
  b := I.b.trans (hk.below I.b.size (fun k e => by omega))
  f0 := fun h => I.f0 (upd_ne (by decide) h)
  f1 := fun h => I.f1 (upd_ne (by decide) h)
  f2 := fun h => (I.f2 (upd_ne (by decide) h)).keep hk (fun g hg e => (I.f2 (upd_ne (by decide) h)).other hv (by decide) (e ▸ hg))
  f3 := fun h => I.f3 (upd_ne (by decide) h)
  f4 := fun h => I.f4 (upd_ne (by decide) h)
  f5 := fun h => ⟨(I.f5 (upd_ne (by decide) h)).1.keep hk (fun g hg e => (I.f5 (upd_ne (by decide) h)).1.other hv (by decide) (e ▸ hg)), (I.f5 (upd_ne (by decide) h)).2⟩
  f6 := fun h => I.f6 (upd_ne (by decide) h)
  f7 := fun h => I.f7 (upd_ne (by decide) h)
  f8 := fun h => (I.f8 (upd_ne (by decide) h)).keep hk (fun k e => e) hv (by decide)
  f9 := fun h => I.f9 (upd_ne (by decide) h)
  f10 := fun h => I.f10 (upd_ne (by decide) h)
  f11 := fun h => ⟨(I.f11 (upd_ne (by decide) h)).1.keep hk (fun g hg e => (I.f11 (upd_ne (by decide) h)).1.other hv (by decide) (e ▸ hg)), (I.f11 (upd_ne (by decide) h)).2⟩
  f12 := fun h => I.f12 (upd_ne (by decide) h)
  f13 := fun h h' => no_d (k := 14) upd_at h'
  f14 := fun h => ⟨y, hy, hB, hn⟩
  c5 := fun h => upd_up (I.c5 (upd_ne (by decide) h))
  c8 := fun h => upd_up (I.c8 (upd_ne (by decide) h))
  c11 := fun h => upd_up (I.c11 (upd_ne (by decide) h))
  c12 := fun h => upd_up (I.c12 (upd_ne (by decide) h))
  c14 := fun h => ⟨upd_up p12, upd_up p13⟩

abbrev cpyF (v0 : Value) (x r : Nat) (s3 s6 s7 s8 s9 s10 s11 s12 s13 s14 s15 s16 s17 s18 : Value) : Act := ⟨#[v0, .pointer (some ⟨x, 0, none⟩), .pointer (some ⟨r, 0, none⟩), s3, undef, undef, s6, s7, s8, s9, s10, s11, s12, s13, s14, s15, s16, s17, s18, undef, undef, undef, undef, undef, undef, undef, undef, undef, undef, undef, undef, undef, undef, undef, undef, undef, undef], []⟩
def CpInv (W0 : World) (x r : Nat) (a : Im4) (m : Img) (d : Nat → Bool) (f : Act) (w : World) : Prop := ∃ s3 s6 s7 s8 s9 s10 s11 s12 s13 s14 s15 s16 s17 s18, f = cpyF (imV a m) x r s3 s6 s7 s8 s9 s10 s11 s12 s13 s14 s15 s16 s17 s18 ∧ CpI W0 x a m d w s3 s6 s7 s8 s9 s10 s11 s12 s13 s14 s15 s16 s17 s18
theorem CpInv.start (W0 : World) (x r : Nat) (a : Im4) (m : Img) (w : World) (hb : Below W0.heap.size W0 w) : CpInv W0 x r a m (fun _ => false) (cpyF (imV a m) x r undef undef undef undef undef undef undef undef undef undef undef undef undef undef) w :=
  ⟨undef, undef, undef, undef, undef, undef, undef, undef, undef, undef, undef, undef, undef, undef, rfl, ⟨hb, fun h => (by cases h), fun h => (by cases h), fun h => (by cases h), fun h => (by cases h), fun h => (by cases h), fun h => (by cases h), fun h => (by cases h), fun h => (by cases h), fun h => (by cases h), fun h => (by cases h), fun h => (by cases h), fun h => (by cases h), fun h => (by cases h), fun h => (by cases h), fun h => (by cases h), fun h => (by cases h), fun h => (by cases h), fun h => (by cases h), fun h => (by cases h), fun h => (by cases h)⟩⟩

theorem snC_put : ∀ (ss : List Snp) (ts : List Value) (k : Nat) (v : Value), ss.length = ts.length → (snC ss ts).set (k * 2 + 1) v = snC ss (ts.set k v)
  | [], [], _, _, _ => rfl
  | s :: ss, t :: ts, 0, v, h => rfl
  | s :: ss, t :: ts, k + 1, v, h => by
    have := snC_put ss ts k v (by simpa using h)
    rw [show (k + 1) * 2 + 1 = k * 2 + 1 + 1 + 1 by omega]
    simp only [snC, List.set_cons_succ, this]
structure CpL (W0 : World) (y : Nat) (m : Img) (q8 : Option Addr) (c8 : Nat) (q11 : Option Addr) (c11 : Nat) (q17 : Option Addr) (c17 : Nat) (qo : Option Addr) (qa : Nat) (w : World) (k : Nat) (ts : List Value) : Prop where
  b : Below W0.heap.size W0 w
  v : VarM w y 32 (.slice q8 m.refs.length c8) (.slice q11 m.table.length c11) (.slice qo m.snaps.length qa) (.slice q17 m.data.length c17)
  l : m.snaps.length = ts.length
  s : OwnR w W0.heap.size 83 2 (.slice qo m.snaps.length qa) m.snaps.length (snC m.snaps ts)
  r : OwnA w W0.heap.size ((.slice q8 m.refs.length c8, m.refs) :: (.slice q11 m.table.length c11, m.table) :: (.slice q17 m.data.length c17, m.data) :: (ts.take k).zip ((m.snaps.map (·.table)).take k))
theorem CpL.below {W0 w w' : World} {y : Nat} {m : Img} {q8 q11 q17 qo : Option Addr} {c8 c11 c17 qa k : Nat} {ts : List Value} (h : CpL W0 y m q8 c8 q11 c11 q17 c17 qo qa w k ts) (hb : Below w.heap.size w w') : CpL W0 y m q8 c8 q11 c11 q17 c17 qo qa w' k ts := ⟨fr h.b hb, h.v.below hb, h.l, h.s.below hb, h.r.below hb⟩
theorem CpL.next {W0 w w1 : World} {y g : Nat} {m : Img} {q8 q11 q17 : Option Addr} {c8 c11 c17 qa k : Nat} {ts : List Value} {v : Value} (h : CpL W0 y m q8 c8 q11 c11 q17 c17 (some ⟨g, 0, none⟩) qa w k ts) (hk : k < m.snaps.length) (hb : Below w.heap.size w w1) (hv : OwnN w1 w.heap.size v m.snaps[k].table) :
    CpL W0 y m q8 c8 q11 c11 q17 c17 (some ⟨g, 0, none⟩) qa (w1.setCell ⟨g, k * 2 + 1, none⟩ v) (k + 1) (ts.set k v) := by
  have h1 := h.below hb
  have hp : 0 < m.snaps.length := by omega
  have hg : Own (.slice (some ⟨g, 0, none⟩) m.snaps.length qa) g := own_of hp rfl
  have hK : Keep (Own (.slice (some ⟨g, 0, none⟩) m.snaps.length qa)) w1 (w1.setCell ⟨g, k * 2 + 1, none⟩ v) := (Keep.refl _ w1).setCell (p := ⟨g, k * 2 + 1, none⟩) hg _
  have hkt : k < ts.length := by rw [← h.l]; exact hk
  refine ⟨h1.b.trans (hK.below h1.b.size (fun x hx => (h1.s.ge x hx).1)), ?_, by rw [List.length_set]; exact h.l, .inr ⟨hp, ?_⟩, ?_⟩
  · exact (hK.block y h1.v.lt (h1.s.other h1.v (by decide))).trans h1.v
  · have := ((h1.s.row hp).stored (k * 2 + 1) v).1
    rwa [snC_put _ _ _ _ h.l] at this
  · have hr : OwnA w1 W0.heap.size (((.slice q8 m.refs.length c8, m.refs) :: (.slice q11 m.table.length c11, m.table) :: (.slice q17 m.data.length c17, m.data) :: (ts.take k).zip ((m.snaps.map (·.table)).take k)) ++ [(v, m.snaps[k].table)]) := h.r.snoc hb hv h.b.size
    have e : (ts.set k v).take (k + 1) = ts.take k ++ [v] := by
      rw [List.take_succ_eq_append_getElem (by rw [List.length_set]; exact hkt), List.getElem_set_self, List.take_set_of_le (Nat.le_refl _)]
    have e2 : (m.snaps.map (·.table)).take (k + 1) = (m.snaps.map (·.table)).take k ++ [m.snaps[k].table] := by
      rw [List.take_succ_eq_append_getElem (by simpa using hk)]; simp
    rw [e, e2, List.zip_append (by simp; omega)]
    have hr2 := hr.keep hK (fun r hr' x hx hS => by
      have := hr.own r hr'
      exact own_apart this.row h1.s (by decide) x hx hS)
    simpa using hr2

set_option maxHeartbeats 6400000 in
theorem copyImage_full (a : Im4) (m : Img) (w : World) (hL : m.refs.length ≤ 1048576 ∧ m.table.length ≤ 1048576 ∧ m.data.length ≤ 1048576) (hst : ∀ s ∈ m.snaps, s.table.length ≤ 1048576) (hs1 : m.snaps.length ≤ 1048576) (hc : ImS w a m) :
    Calls Tryz.prog 82 #[imV a m] w fun e w' => ∃ a' ts, e = .returned (imV a' m) ∧ OwnF w' w.heap.size a' m ts ∧ Below w.heap.size w w' := by
  have HA := hide (Joins.below_alloc2 w (.cells #[.slice a.ro m.refs.length a.rc, .slice a.tq m.table.length a.tc, .slice a.so m.snaps.length a.sc, .slice a.dq m.data.length a.dc] 32) (.cells #[.slice none 0 0, .slice none 0 0, .slice none 0 0, .slice none 0 0] 32))
  have HC := hide (hc.below (unhide HA))
  have HV := hide ((VarM.new w 32 (.slice a.ro m.refs.length a.rc) (.slice a.tq m.table.length a.tc) (.slice a.so m.snaps.length a.sc) (.slice a.dq m.data.length a.dc)).below (Joins.below_alloc1 _ (.cells #[.slice none 0 0, .slice none 0 0, .slice none 0 0, .slice none 0 0] 32)))
  have HR := hide ((VarM.new (w.alloc (.cells #[.slice a.ro m.refs.length a.rc, .slice a.tq m.table.length a.tc, .slice a.so m.snaps.length a.sc, .slice a.dq m.data.length a.dc] 32)) 32 (.slice none 0 0) (.slice none 0 0) (.slice none 0 0) (.slice none 0 0)).at (y := w.heap.size + 1) (by simp))
  have HLL := hide hL
  have HST := hide hst
  clear hc hL hst
  go_enter Tryz.func82, Tryz.ntmps82
  go_upto_region 1 with fail
  revert HA HC HV HR
  generalize ((w.alloc _).alloc _) = W0
  intro HA HC HV HR
  refine wp_region_inv (CpInv W0 w.heap.size (w.heap.size + 1) a m) (by kernel_rfl) (by kernel_rfl) (noG_spec (by kernel_rfl)) (CpInv.start _ _ _ _ _ _ (Below.refl _ W0).drew) ?hs ?he
  case hs =>
    intro d f wq i o hI ho hd hp K hK
    obtain ⟨s3, s6, s7, s8, s9, s10, s11, s12, s13, s14, s15, s16, s17, s18, rfl, I⟩ := hI
    obtain ⟨cv0, cv1, cv2, cv3⟩ := ((unhide HV).below I.b).cells
    have hi : i < 15 := (List.getElem?_eq_some_iff.1 ho).1
    rcases (show i = 0 ∨ i = 1 ∨ i = 2 ∨ i = 3 ∨ i = 4 ∨ i = 5 ∨ i = 6 ∨ i = 7 ∨ i = 8 ∨ i = 9 ∨ i = 10 ∨ i = 11 ∨ i = 12 ∨ i = 13 ∨ i = 14 by omega) with rfl | rfl | rfl | rfl | rfl | rfl | rfl | rfl | rfl | rfl | rfl | rfl | rfl | rfl | rfl
    · cases ho
      unfold Oper.wp
      go_simp
      exact hK _ _ ⟨_, _, _, _, _, _, _, _, _, _, _, _, _, _, rfl, I.s0 hd rfl⟩
    · cases ho
      have p := hp ⟨0, .data⟩ (by simp) rfl
      have e1 := I.f0 p
      subst e1
      unfold Oper.wp
      go_simp
      exact hK _ _ ⟨_, _, _, _, _, _, _, _, _, _, _, _, _, _, rfl, I.s1 hd rfl⟩
    · cases ho
      have p := hp ⟨1, .data⟩ (by simp) rfl
      have e1 := I.f1 p
      subst e1
      unfold Oper.wp
      go_simp
      refine (copyN_any a.ro a.rc m.refs _ (by have := unhide HLL; omega) ((unhide HC).r.below I.b)).mono ?_
      rintro e w2 ⟨v, rfl, ho2, hb2⟩
      exact hK _ _ ⟨_, _, _, _, _, _, _, _, _, _, _, _, _, _, rfl, I.s2 hd hb2 ho2⟩
    · cases ho
      unfold Oper.wp
      go_simp
      exact hK _ _ ⟨_, _, _, _, _, _, _, _, _, _, _, _, _, _, rfl, I.s3 hd rfl⟩
    · cases ho
      have p := hp ⟨3, .data⟩ (by simp) rfl
      have e1 := I.f3 p
      subst e1
      unfold Oper.wp
      go_simp
      exact hK _ _ ⟨_, _, _, _, _, _, _, _, _, _, _, _, _, _, rfl, I.s4 hd rfl⟩
    · cases ho
      have p := hp ⟨4, .data⟩ (by simp) rfl
      have e1 := I.f4 p
      subst e1
      have pc := hp ⟨2, .chain⟩ (by simp) rfl
      unfold Oper.wp
      go_simp
      refine (copyN_any a.tq a.tc m.table _ (by have := unhide HLL; omega) ((unhide HC).t.below I.b)).mono ?_
      rintro e w2 ⟨v, rfl, ho2, hb2⟩
      exact hK _ _ ⟨_, _, _, _, _, _, _, _, _, _, _, _, _, _, rfl, I.s5 hd hb2 pc ho2⟩
    · cases ho
      unfold Oper.wp
      go_simp
      exact hK _ _ ⟨_, _, _, _, _, _, _, _, _, _, _, _, _, _, rfl, I.s6 hd rfl⟩
    · cases ho
      have p := hp ⟨6, .data⟩ (by simp) rfl
      have e1 := I.f6 p
      subst e1
      unfold Oper.wp
      go_simp
      exact hK _ _ ⟨_, _, _, _, _, _, _, _, _, _, _, _, _, _, rfl, I.s7 hd rfl⟩
    · cases ho
      have p := hp ⟨7, .data⟩ (by simp) rfl
      have e1 := I.f7 p
      subst e1
      have pc := hp ⟨5, .chain⟩ (by simp) rfl
      unfold Oper.wp
      go_simp
      refine (copySn_any a.so a.sc m.snaps _ hs1 ((unhide HC).s.below I.b)).mono ?_
      rintro e w2 ⟨v, rfl, ho2, hb2⟩
      exact hK _ _ ⟨_, _, _, _, _, _, _, _, _, _, _, _, _, _, rfl, I.s8 hd hb2 pc ho2⟩
    · cases ho
      unfold Oper.wp
      go_simp
      exact hK _ _ ⟨_, _, _, _, _, _, _, _, _, _, _, _, _, _, rfl, I.s9 hd rfl⟩
    · cases ho
      have p := hp ⟨9, .data⟩ (by simp) rfl
      have e1 := I.f9 p
      subst e1
      unfold Oper.wp
      go_simp
      exact hK _ _ ⟨_, _, _, _, _, _, _, _, _, _, _, _, _, _, rfl, I.s10 hd rfl⟩
    · cases ho
      have p := hp ⟨10, .data⟩ (by simp) rfl
      have e1 := I.f10 p
      subst e1
      have pc := hp ⟨8, .chain⟩ (by simp) rfl
      unfold Oper.wp
      go_simp
      refine (copyN_any a.dq a.dc m.data _ (by have := unhide HLL; omega) ((unhide HC).d.below I.b)).mono ?_
      rintro e w2 ⟨v, rfl, ho2, hb2⟩
      exact hK _ _ ⟨_, _, _, _, _, _, _, _, _, _, _, _, _, _, rfl, I.s11 hd hb2 pc ho2⟩
    · cases ho
      have p11 := hp ⟨11, .data⟩ (by simp) rfl
      obtain ⟨q8, c8, rfl, _⟩ := I.f2 (I.c5 (I.c8 (I.c11 p11)))
      obtain ⟨⟨q11, c11, rfl, _⟩, _⟩ := I.f5 (I.c8 (I.c11 p11))
      obtain ⟨qo, qa, rfl⟩ := (I.f8 (I.c11 p11)).slice
      obtain ⟨⟨q17, c17, rfl, _⟩, _⟩ := I.f11 p11
      unfold Oper.wp
      go_simp
      exact hK _ _ ⟨_, _, _, _, _, _, _, _, _, _, _, _, _, _, rfl, I.s12 hd p11 rfl⟩
    · cases ho
      unfold Oper.wp
      go_simp
      exact hK _ _ ⟨_, _, _, _, _, _, _, _, _, _, _, _, _, _, rfl, I.s13 hd (Joins.below_alloc1 _ _) rfl I.b.size (VarM.new _ _ _ _ _ _)⟩
    · cases ho
      have p12 := hp ⟨12, .data⟩ (by simp) rfl
      have p13 := hp ⟨13, .data⟩ (by simp) rfl
      have p11 := I.c12 p12
      obtain ⟨q8, c8, rfl, _⟩ := I.f2 (I.c5 (I.c8 (I.c11 p11)))
      obtain ⟨⟨q11, c11, rfl, _⟩, _⟩ := I.f5 (I.c8 (I.c11 p11))
      obtain ⟨qo, qa, rfl⟩ := (I.f8 (I.c11 p11)).slice
      obtain ⟨⟨q17, c17, rfl, _⟩, _⟩ := I.f11 p11
      have e18 := I.f12 p12
      subst e18
      obtain ⟨y, rfl, hy, hv⟩ := I.f13 p13 hd
      obtain ⟨y0, y1, y2, y3⟩ := hv.cells
      obtain ⟨z0, z1, z2, z3⟩ := hv.free
      unfold Oper.wp
      go_simp
      exact hK _ _ ⟨_, _, _, _, _, _, _, _, _, _, _, _, _, _, rfl, I.s14 hd p12 p13 rfl hy hv (((((Keep.refl (fun k => k = y) wq).setCell (p := ⟨y, 0, none⟩) rfl _).setCell (p := ⟨y, 1, none⟩) rfl _).setCell (p := ⟨y, 2, none⟩) rfl _).setCell (p := ⟨y, 3, none⟩) rfl _) ((((hv.set0 _).set1 _).set2 _).set3 _)⟩
  case he =>
    intro d f wq hI hall
    obtain ⟨s3, s6, s7, s8, s9, s10, s11, s12, s13, s14, s15, s16, s17, s18, rfl, I⟩ := hI
    obtain ⟨q8, c8, e8, o8⟩ := I.f2 (hall 2 (by decide))
    obtain ⟨⟨q11, c11, e11, o11⟩, a11⟩ := I.f5 (hall 5 (by decide))
    obtain ⟨qo, qa, ts0, e14, lt0, o14⟩ := I.f8 (hall 8 (by decide))
    obtain ⟨⟨q17, c17, e17, o17⟩, a17, b17⟩ := I.f11 (hall 11 (by decide))
    obtain ⟨y, e3, hy, hv⟩ := I.f14 (hall 14 (by decide))
    subst e8 e11 e14 e17 e3
    have HL0 : Hid (CpL W0 y m q8 c8 q11 c11 q17 c17 qo qa wq 0 ts0) := hide ⟨I.b, hv, lt0, o14, by
      refine ⟨fun r hr => ?_, ?_⟩
      · simp only [List.take_zero, List.zip_nil_left, List.mem_cons, List.not_mem_nil, or_false] at hr
        rcases hr with rfl | rfl | rfl
        · exact ⟨_, _, rfl, o8⟩
        · exact ⟨_, _, rfl, o11⟩
        · exact ⟨_, _, rfl, o17⟩
      · simp only [List.take_zero, List.zip_nil_left, List.pairwise_cons, List.mem_cons, List.not_mem_nil, or_false, forall_eq_or_imp, forall_eq, List.Pairwise.nil, and_true]
        exact ⟨⟨a11, a17⟩, b17, fun _ h => h.elim⟩⟩
    have HY := hide hy
    obtain ⟨c0, c1, c2, c3⟩ := (VarM.below (unhide HV) I.b).cells
    clear o8 o11 a11 o14 o17 a17 b17 hv hy I hall lt0
    go_wp2
    clear c0 c1 c2 c3
    go_loopw [22] (fun i wr => ∃ (k : Nat) (ts : List Value), k ≤ m.snaps.length ∧ i = .int .i64 k ∧ Hid (CpL W0 y m q8 c8 q11 c11 q17 c17 qo qa wr k ts)) (fun i _ => m.snaps.length - (intOf i).toNat)
    case atStart => exact ⟨0, _, Nat.zero_le _, rfl, HL0⟩
    case round =>
      clear HL0
      obtain ⟨k, ts, hk, rfl, HL⟩ := hrel
      by_cases hlt : k < m.snaps.length
      · obtain ⟨b, off, tq, tc, eb, hn0, ht0, hIs, hz, htl⟩ := ((unhide HC).s.below (unhide HL).b) k hlt
        have hlti : (k : Int) < (m.snaps.length : Int) := by omega
        have HX := hide (VarN.new wr m.snaps[k].name (.slice tq m.snaps[k].table.length tc))
        have HBX := hide (Joins.below_alloc1 wr (.cells #[.string m.snaps[k].name, .slice tq m.snaps[k].table.length tc] 83))
        have HIS := hide hIs
        have HTL := hide (unhide HST _ (List.getElem_mem hlt))
        clear hIs hz htl
        go_upto_region 5 with fail
        revert HX HBX
        generalize (wr.alloc _) = w2
        intro HX HBX
        obtain ⟨x0, x1⟩ := (unhide HX).cells
        have hx1l := World.block_lt_of_cell? _ _ x1
        have HL2 := hide ((unhide HL).below (unhide HBX))
        have HIS2 := hide ((unhide HIS).below (unhide HBX))
        obtain ⟨g, cap, cur, eg, _, hgb⟩ := own_form (by omega) ((unhide HL2).s.row (by omega))
        simp only [Value.slice.injEq, true_and] at eg
        obtain ⟨rfl, rfl⟩ := eg
        obtain ⟨d0, d1, d2, d3⟩ := (unhide HL2).v.cells
        have hyl := (unhide HL2).v.lt
        have hgl := (Array.getElem?_eq_some_iff.1 hgb).1
        have hne1 : wr.heap.size ≠ g := fun e => by
          have h1 := (unhide HX)
          unfold VarN at h1
          rw [e, hgb] at h1
          have h2 := ((unhide HL).s.ge g (own_of (by omega) rfl)).2
          omega
        have hne2 : y ≠ g := fun e => by
          have h1 := (unhide HL2).v
          unfold VarM at h1
          rw [e, hgb] at h1
          simp at h1
        have HCAL : Hid (∀ W, Below w2.heap.size w2 W → Calls Tryz.prog 117 #[.slice tq m.snaps[k].table.length tc] W fun e w' => ∃ vo vc, e = .returned (.slice vo m.snaps[k].table.length vc) ∧ OwnN w' w2.heap.size (.slice vo m.snaps[k].table.length vc) m.snaps[k].table ∧ Below w2.heap.size w2 w') := hide (fun W hW => (copyN_any tq tc m.snaps[k].table W (unhide HTL) ((unhide HIS2).below hW)).mono fun e w' ⟨v, h1, h2, h3⟩ => by obtain ⟨vo, vc, rfl, _⟩ := id h2; exact ⟨vo, vc, h1, h2.base hW.size, fr hW h3⟩)
        have HNXT : Hid (∀ (w3 : World) (v : Value), Below w2.heap.size w2 w3 → OwnN w3 w2.heap.size v m.snaps[k].table → CpL W0 y m q8 c8 q11 c11 q17 c17 (some ⟨g, 0, none⟩) qa (w3.setCell ⟨g, k * 2 + 1, none⟩ v) (k + 1) (ts.set k v)) := hide (fun w3 v h1 h2 => (unhide HL2).next hlt h1 h2)
        have HROW : Hid (∀ w3, Below w2.heap.size w2 w3 → ∃ u, w3.cell? ⟨g, k * 2 + 1, none⟩ = some u ∧ w3.frozen? ⟨g, k * 2 + 1, none⟩ = false) := hide (fun w3 h1 => by
          have hr := ((unhide HL2).s.below h1).row (by omega)
          have hlen := hr.1
          have hi : k * 2 + 1 < (snC m.snaps ts).length := by rw [hlen]; omega
          exact ⟨_, (hr.cellAt (k * 2 + 1) (by omega)).trans (List.getElem?_eq_getElem hi), hr.frozenAt _⟩)
        have hne3 := Ne.symm hne1
        have hne4 := Ne.symm hne2
        clear hn0 ht0 x0 d0 d1 d3 hgb eb HX HBX HL
        go_region_held3 (fun w' => w'.cell? ⟨y, 2, none⟩ = some (.slice (some ⟨g, 0, none⟩) m.snaps.length qa) ∧ w'.cell? ⟨wr.heap.size, 1, none⟩ = some (.slice tq m.snaps[k].table.length tc)) (first | go_keep | (refine ⟨?_, ?_⟩ <;> simp [go_sem, *])) ((go_at_call 117; refine (unhide HCAL _ (Below.refl _ _).drew).mono ?_; rintro e w3 ⟨vo, vc, rfl, ho3, hb3⟩; obtain ⟨u, hu, hf⟩ := unhide HROW w3 hb3; have k1 := (hb3.cell (p := ⟨y, 2, none⟩) hyl).trans d2; have k2 := (hb3.cell (p := ⟨wr.heap.size, 1, none⟩) hx1l).trans x1; have HN3 := hide (And.intro hb3 ho3); clear hb3 ho3))
        have HN := hide (unhide HNXT w3 _ (unhide HN3).1 (unhide HN3).2)
        clear hu hf k1 k2 HN3
        go_wp2
        go_roundw
        case rel => exact ⟨k + 1, _, by omega, by go_num, HN⟩
        case measure => simp [intOf]; omega
      · have hkl : k = m.snaps.length := by omega
        subst hkl
        have HOI : Hid (OwnIm wr W0.heap.size ⟨q8, c8, q11, c11, qo, qa, q17, c17⟩ m ts) := hide ⟨(unhide HL).l, (unhide HL).s.toS, by have h := (unhide HL).r; rw [List.take_of_length_le (by rw [← (unhide HL).l]; exact Nat.le_refl _), List.take_of_length_le (by simp)] at h; exact h⟩
        have HRR := hide (VarM.below (unhide HR) (unhide HL).b)
        have HC0 : Hid (m.snaps.length = 0 → qa = 0) := hide (fun h => (unhide HL).s.cap0 h)
        have HPT := hide (ImSt.put (unhide HRR) (unhide HOI) (fr (unhide HA) (unhide HL).b) (Nat.le_succ _) (unhide HR).lt ⟨q8, c8, q11, c11, qo, qa, q17, c17⟩ m)
        obtain ⟨d0, d1, d2, d3⟩ := (unhide HL).v.cells
        obtain ⟨r0, r1, r2, r3⟩ := (unhide HRR).cells
        obtain ⟨z0, z1, z2, z3⟩ := (unhide HRR).free
        go_wp2
        exact bodyPost_ret (res_im Tryz.results82 rfl (unhide HPT).1) rfl ⟨⟨q8, c8, q11, c11, qo, qa, q17, c17⟩, rfl, ⟨ts, ⟨(unhide HPT).2.1.base (unhide HA).size, unhide HC0⟩⟩, (unhide HPT).2.2⟩
end Go.Proofs.YtpdpnepnfhbonaaGreat

namespace Go.Proofs.YtpdpnepnfhbonaaGreat
open Go.RowKit
set_option linter.unusedVariables false
set_option maxRecDepth 100000

structure Hld (W : World) (p B : Nat) (a : Im4) (m : Img) (ts : List Value) : Prop where
  v : VarM W p 32 (.slice a.ro m.refs.length a.rc) (.slice a.tq m.table.length a.tc) (.slice a.so m.snaps.length a.sc) (.slice a.dq m.data.length a.dc)
  o : OwnIm W B a m ts
  p : B ≤ p
theorem Hld.below {W W' : World} {p B : Nat} {a : Im4} {m : Img} {ts : List Value} (h : Hld W p B a m ts) (hb : Below W.heap.size W W') : Hld W' p B a m ts := ⟨h.v.below hb, h.o.below hb, h.p⟩
def Chg (W W' : World) (p B : Nat) (e : Ending) (c : Int) (m1 : Img) : Prop := e = .returned (.int .i64 c) ∧ ∃ a2 ts2, Hld W' p B a2 m1 ts2 ∧ Below B W W'
structure FitR (m : Img) : Prop where
  r : m.refs.length = 24
  d : m.data.length = 24
  s : m.snaps.length ≤ 3
  t : ∀ t ∈ imTabs m, tbB t = true
  z : ∀ s ∈ m.snaps, s.name.size ≤ maxLen ∧ s.table.length ≤ maxLen

set_option maxHeartbeats 3200000 in
theorem changeImage_any (a : Im4) (m : Img) (F : FuncId) (caps : Array Value) (m1 : Img) (c : Int) (w : World) (hL : ImL m) (hc : ImS w a m)
    (hcf : ∀ (args : Array Value) (W : World), (callFunc F args).run Tryz.prog W = .ok (.enter F args) W)
    (hch : imB m = true → FitR m1 ∧ ∀ (W : World) (p B : Nat) (a1 : Im4) (ts1 : List Value), Below w.heap.size w W → w.heap.size ≤ B → B ≤ W.heap.size → Hld W p B a1 m ts1 → (m.snaps.length = 0 → a1.sc = 0) → Calls Tryz.prog F (#[.pointer (some ⟨p, 0, none⟩)] ++ caps) W fun e W' => Chg W W' p B e c m1) :
    Calls Tryz.prog 119 #[imV a m, .func (.func F) #[] caps] w fun e w' => AnsI w w' e (if imB m = true then (imFit m1, c) else (im0, 1)) := by
  have HE := hide (ImE.new w a m hc)
  have HL := hide hL
  have HCH := hide hch
  obtain ⟨R, HR⟩ : ∃ R, Hid (R = if imB m = true then (imFit m1, c) else (im0, 1)) := ⟨_, rfl⟩
  rw [← unhide HR]
  clear hc hL hch
  go_enter Tryz.func119, Tryz.ntmps119
  go_upto_region 1 with fail
  revert HE
  generalize ((w.alloc _).alloc _) = W0
  intro HE
  obtain ⟨c0, c1, c2, c3⟩ := (unhide HE).v.cells
  go_wp2_with fail
  refine (imageOK_impl a m _ (unhide HL) (unhide HE).s).mono ?_
  rintro e w1 ⟨rfl, hb⟩
  have HE1 := hide ((unhide HE).below hb)
  clear hb c0 c1 c2 c3 HE
  obtain ⟨c0, c1, c2, c3⟩ := (unhide HE1).v.cells
  obtain ⟨r0, r1, r2, r3⟩ := (unhide HE1).r.cells
  obtain ⟨z0, z1, z2, z3⟩ := (unhide HE1).r.free
  cases him : imB m
  · have HX : Hid (R = (im0, 1)) := hide (by rw [unhide HR, him]; rfl)
    have HZ := hide (unhide HE1).zero
    go_wp2
    refine bodyPost_ret (res_ic Tryz.results119 rfl rfl (unhide HZ).1) rfl ?_
    rw [unhide HX]
    exact AnsI.bad 1 (unhide HZ).2
  have HM := hide (imB_iff.1 him).M
  have HX : Hid (R = (imFit m1, c)) := hide (by rw [unhide HR, him]; rfl)
  have HCC := hide (unhide HCH him)
  clear him HR HCH r0 r1 r2 r3 z0 z1 z2 z3
  go_wp2_with fail
  refine (copyImage_full a m _ ⟨by rw [(unhide HM).r]; omega, by have := (unhide HM).t; omega, by rw [(unhide HM).d]; omega⟩ (fun s hs => by have := ((unhide HM).st s hs).1; omega) (by have := (unhide HM).s; omega) (unhide HE1).s).mono ?_
  rintro e w2 ⟨a1, ts1, rfl, ⟨ho, hc0⟩, hb⟩
  have HC0 := hide hc0
  clear hc0
  have HB2 := hide (fr (unhide HE1).b hb)
  have HR2 := hide ((unhide HE1).r.below hb)
  have HSZ := hide (And.intro (unhide HE1).r.lt hb.size)
  have HA2 := hide (Joins.below_alloc1 w2 (.cells #[.slice a1.ro m.refs.length a1.rc, .slice a1.tq m.table.length a1.tc, .slice a1.so m.snaps.length a1.sc, .slice a1.dq m.data.length a1.dc] 32))
  have HH2 : Hid (Hld (w2.alloc (.cells #[.slice a1.ro m.refs.length a1.rc, .slice a1.tq m.table.length a1.tc, .slice a1.so m.snaps.length a1.sc, .slice a1.dq m.data.length a1.dc] 32)) w2.heap.size w1.heap.size a1 m ts1) := hide ⟨VarM.new w2 _ _ _ _ _, ho.below (unhide HA2), hb.size⟩
  clear ho hb c0 c1 c2 c3
  go_upto_region 4 with fail
  revert HA2 HH2
  generalize (w2.alloc _) = w3
  intro HA2 HH2
  go_wp2_with fail
  refine ((unhide HCC).2 w3 w2.heap.size w1.heap.size a1 ts1 (fr (unhide HB2) (unhide HA2)) (unhide HE1).b.size (Nat.le_trans (unhide HSZ).2 (unhide HA2).size) (unhide HH2) (unhide HC0)).mono ?_
  rintro e w4 ⟨rfl, a2, ts2, hh4, hb4⟩
  have HH4 := hide hh4
  have HB4 : Hid (Below w.heap.size w w4) := hide ((fr (unhide HB2) (unhide HA2)).trans (hb4.mono (unhide HE1).b.size))
  have HR4 : Hid (VarM w4 (w.heap.size + 1) 32 (.slice none 0 0) (.slice none 0 0) (.slice none 0 0) (.slice none 0 0)) := hide ((hb4.block _ (unhide HSZ).1).trans ((unhide HR2).below (unhide HA2)))
  clear hh4 hb4 HB2 HR2 HA2 HH2
  have HFR := hide (unhide HCC).1
  clear HCC
  go_wp2_with fail
  refine (fitToTables_any a2 m1 ts2 _ _ _ (unhide HFR).r (unhide HFR).d (unhide HFR).s (unhide HFR).t (unhide HFR).z (unhide HH4).v (unhide HH4).o).mono ?_
  rintro e w5 ⟨rfl, ho5, hk5⟩
  have HV5 := hide ((unhide HH4).v.keepIm (unhide HH4).o hk5)
  have HR5 := hide ((unhide HR4).keepIm (unhide HH4).o hk5)
  have HB5 : Hid (Below w.heap.size w w5) := hide ((unhide HB4).trans (hk5.below (unhide HB4).size (fun g hg => Nat.le_trans (unhide HE1).b.size ((unhide HH4).o.ge g hg).1)))
  have HPT := hide (ImSt.put (unhide HR5) ho5 (unhide HB5) (Nat.le_succ _) (unhide HSZ).1 a2 m1)
  have HLE : Hid (imV a2 m1 = imV a2 (imFit m1)) := hide (by
    have e1 : (imFit m1).refs.length = m1.refs.length := by rw [(unhide HFR).r]; exact imCnt_len m1
    have e2 : (imFit m1).data.length = m1.data.length := by rw [(unhide HFR).d]; simp [imFit]
    rw [imV, imV, e1, e2]; rfl)
  clear ho5 hk5 HB4 HR4 HH4
  obtain ⟨c0, c1, c2, c3⟩ := (unhide HV5).cells
  obtain ⟨r0, r1, r2, r3⟩ := (unhide HR5).cells
  obtain ⟨z0, z1, z2, z3⟩ := (unhide HR5).free
  go_wp2
  refine bodyPost_ret (res_ic Tryz.results119 rfl rfl (unhide HPT).1) rfl ?_
  rw [unhide HX]
  exact AnsI.of (R := (imFit m1, c)) (unhide HLE) rfl ((unhide HPT).2.1.base (unhide HE1).b.size) (unhide HPT).2.2

end Go.Proofs.YtpdpnepnfhbonaaGreat

namespace Go.Proofs.YtpdpnepnfhbonaaGreat
open Go.RowKit
set_option linter.unusedVariables false
set_option maxRecDepth 100000

def cN (t : List Int) (i : Nat) : Int := (t.count ((i : Int) + 2) : Int)
theorem cN_nn (t : List Int) (i : Nat) : 0 ≤ cN t i := by unfold cN; omega
theorem clA_count (t : List Int) (i : Nat) : ((clA t).count (i : Int) : Int) = cN t i := by
  unfold clA clTo cN
  rw [List.take_length]
  induction t with
  | nil => rfl
  | cons e t ih =>
    rw [List.filterMap_cons, List.count_cons]
    by_cases h : 2 ≤ e
    · rw [if_pos h]
      simp only [List.count_cons]
      by_cases h2 : e = (i : Int) + 2
      · have h3 : e - 2 = (i : Int) := by omega
        simp [h2]; omega
      · have h3 : ¬ (e - 2 = (i : Int)) := by omega
        simp [h2, h3]; omega
    · rw [if_neg h]
      have h2 : ¬ (e = (i : Int) + 2) := by omega
      simp [h2]; omega
def sN (ts : List (List Int)) (i : Nat) : Int := (ts.map fun t => cN t i).sum
theorem sN_nn (ts : List (List Int)) (i : Nat) : 0 ≤ sN ts i := by
  unfold sN
  induction ts with
  | nil => exact Int.le_refl _
  | cons t ts ih => rw [List.map_cons, List.sum_cons]; have := cN_nn t i; omega
theorem fold_cnt (i : Nat) (hi : i < 24) : ∀ (ts : List (List Int)), (∀ t ∈ ts, tbB t = true) → ∀ ns : List Int, ns.length = 24 → (ts.foldl cnt1T ns).getD i 0 = ns.getD i 0 + sN ts i := by
  intro ts
  induction ts with
  | nil => intro _ ns _; simp [sN]
  | cons t ts ih =>
    intro ht ns hl
    rw [List.foldl_cons, ih (fun x hx => ht x (by simp [hx])) _ (by rw [cnt1T_len]; exact hl), cnt1T_get (ht t (by simp)) hl hi, clA_count]
    simp only [sN, List.map_cons, List.sum_cons]
    omega
theorem cnt_get {m : Img} (ht : ∀ t ∈ imTabs m, tbB t = true) {i : Nat} (hi : i < 24) : (imCnt m).getD i 0 = sN (imTabs m) i := by
  unfold imCnt
  rw [fold_cnt i hi _ ht _ rfl, zero24_get hi]; omega
theorem ImR.tabs {m : Img} (h : ImR m) : ∀ t ∈ imTabs m, tbB t = true := fun t ht => by
  unfold imTabs at ht
  rw [List.mem_cons, List.mem_map] at ht
  rcases ht with rfl | ⟨s, hs, rfl⟩
  · exact h.table
  · exact (h.snaps s hs).2
theorem ImR.cntA {m : Img} (h : ImR m) {i : Nat} (hi : i < 24) : m.refs.getD i 0 = sN (imTabs m) i := by rw [← h.cnt]; exact cnt_get h.tabs hi
theorem ImR.rl {m : Img} (h : ImR m) : m.refs.length = 24 := ctB_len h.refs
theorem sN_cons (t : List Int) (ts : List (List Int)) (i : Nat) : sN (t :: ts) i = cN t i + sN ts i := rfl
theorem sN_tabs (m : Img) (i : Nat) : sN (imTabs m) i = cN m.table i + sN (m.snaps.map (·.table)) i := rfl
theorem fit_self {m : Img} (h : ImR m) : imFit m = m := by
  have e2 : ((List.range 24).map fun i => if (imCnt m).getD i 0 = 0 then 0 else m.data.getD i 0) = m.data := getD_ext (by simp) h.len (fun i hi => by
    rw [range_getD hi, h.cnt]
    split
    · rename_i hz; exact (h.clear i hi hz).symm
    · rfl)
  unfold imFit
  rw [e2, h.cnt]
theorem img_eq {m n : Img} (h1 : m.refs = n.refs) (h2 : m.table = n.table) (h3 : m.snaps = n.snaps) (h4 : m.data = n.data) : m = n := by
  cases m; cases n; simp only at h1 h2 h3 h4; subst h1 h2 h3 h4; rfl
theorem fit_eq {m1 n : Img} (ht : ∀ t ∈ imTabs m1, tbB t = true) (hr : n.refs.length = 24) (hd : n.data.length = 24) (h2 : m1.table = n.table) (h3 : m1.snaps = n.snaps) (hR : ∀ i, i < 24 → n.refs.getD i 0 = sN (imTabs m1) i) (hD : ∀ i, i < 24 → n.data.getD i 0 = if sN (imTabs m1) i = 0 then 0 else m1.data.getD i 0) : imFit m1 = n := by
  refine img_eq ?_ h2 h3 ?_
  · exact getD_ext (imCnt_len m1) hr (fun i hi => by rw [hR i hi]; exact cnt_get ht hi)
  · refine getD_ext (by simp [imFit]) hd (fun i hi => ?_)
    rw [hD i hi]
    unfold imFit
    simp only
    rw [range_getD hi, cnt_get ht hi]
theorem drop_get {m : Img} (hr : m.refs.length = 24) (hd : m.data.length = 24) (e : Int) {i : Nat} (hi : i < 24) : (imDrop m e).refs.getD i 0 = m.refs.getD i 0 - (if e = (i : Int) + 2 then 1 else 0) ∧ (imDrop m e).data.getD i 0 = if e = (i : Int) + 2 ∧ m.refs.getD i 0 = 1 then 0 else m.data.getD i 0 := by
  by_cases h : e < 2
  · have e1 : imDrop m e = m := if_pos h
    rw [e1, if_neg (by omega), if_neg (by omega)]
    exact ⟨by omega, rfl⟩
  · unfold imDrop
    rw [if_neg h]
    simp only
    by_cases h2 : e = (i : Int) + 2
    · have h3 : (e - 2).toNat = i := by omega
      rw [h3]
      constructor
      · simp [List.getD, hr, hi, h2]
      · by_cases h4 : m.refs.getD i 0 = 1
        · rw [if_pos (by omega), if_pos ⟨h2, h4⟩]
          simp [List.getD, hd, hi]
        · rw [if_neg (by omega), if_neg (fun h => h4 h.2)]
    · have h3 : (e - 2).toNat ≠ i := by omega
      constructor
      · simp [List.getD, h3, h2]
      · have hR : (if e = (i : Int) + 2 ∧ m.refs.getD i 0 = 1 then 0 else m.data.getD i 0) = m.data.getD i 0 := if_neg (fun h => h2 h.1)
        rw [hR]
        split
        · simp [List.getD, h3]
        · rfl
theorem drops_lens (m : Img) : ∀ es : List Int, (imDrops m es).refs.length = m.refs.length ∧ (imDrops m es).data.length = m.data.length ∧ (imDrops m es).table = m.table ∧ (imDrops m es).snaps = m.snaps := by
  intro es
  unfold imDrops
  induction es generalizing m with
  | nil => exact ⟨rfl, rfl, rfl, rfl⟩
  | cons e es ih =>
    obtain ⟨h1, h2, h3, h4⟩ := ih (imDrop m e)
    rw [List.foldl_cons]
    exact ⟨h1.trans (imDrop_refs m e), h2.trans (imDrop_data m e), h3.trans (imDrop_table m e).1, h4.trans (imDrop_table m e).2⟩
theorem drops_get {i : Nat} (hi : i < 24) : ∀ (es : List Int) (m : Img), m.refs.length = 24 → m.data.length = 24 → (imDrops m es).refs.getD i 0 = m.refs.getD i 0 - cN es i ∧ (imDrops m es).data.getD i 0 = if 1 ≤ m.refs.getD i 0 ∧ m.refs.getD i 0 ≤ cN es i then 0 else m.data.getD i 0 := by
  intro es
  induction es with
  | nil =>
    intro m _ _
    refine ⟨by simp [imDrops, cN], ?_⟩
    rw [if_neg (by simp only [cN, List.count_nil]; omega)]; rfl
  | cons e es ih =>
    intro m hr hd
    obtain ⟨h1, h2⟩ := drop_get hr hd e hi
    obtain ⟨h3, h4⟩ := ih (imDrop m e) (by rw [imDrop_refs]; exact hr) (by rw [imDrop_data]; exact hd)
    have hf : imDrops m (e :: es) = imDrops (imDrop m e) es := rfl
    have hc : cN (e :: es) i = cN es i + (if e = (i : Int) + 2 then 1 else 0) := by
      unfold cN
      rw [List.count_cons]
      by_cases h : e = (i : Int) + 2
      · simp [h]
      · simp [h]
    have hn := cN_nn es i
    rw [hf, h3, h4, h1, h2, hc]
    by_cases h : e = (i : Int) + 2
    · simp only [h, if_true, true_and]
      refine ⟨by omega, ?_⟩
      by_cases hx : 1 ≤ m.refs.getD i 0 ∧ m.refs.getD i 0 ≤ cN es i + 1
      · rw [if_pos hx]
        split
        · rfl
        · rw [if_pos (by omega)]
      · rw [if_neg hx, if_neg (by omega), if_neg (by omega)]
    · simp only [h, if_false, false_and]
      exact ⟨by omega, by simp⟩
theorem cN_set {t : List Int} {g : Nat} (hg : g < t.length) (e : Int) (i : Nat) : cN (t.set g e) i = cN t i - (if t[g] = (i : Int) + 2 then 1 else 0) + (if e = (i : Int) + 2 then 1 else 0) := by
  unfold cN
  rw [List.count_set hg]
  have hp : t[g] = (i : Int) + 2 → 0 < t.count ((i : Int) + 2) := fun h => List.count_pos_iff.2 (h ▸ List.getElem_mem hg)
  by_cases h : t[g] = (i : Int) + 2
  · have := hp h
    by_cases h2 : e = (i : Int) + 2
    · simp [h, h2]; omega
    · simp [h, h2]; omega
  · by_cases h2 : e = (i : Int) + 2
    · simp [h, h2]
    · simp [h, h2]
theorem cN_pos {t : List Int} {g i : Nat} (hg : g < t.length) (h : t[g] = (i : Int) + 2) : 1 ≤ cN t i := by
  unfold cN
  have : 0 < t.count ((i : Int) + 2) := List.count_pos_iff.2 (h ▸ List.getElem_mem hg)
  omega
theorem tbB_set {t : List Int} (h : tbB t = true) (g : Nat) {e : Int} (h0 : 0 ≤ e) (h1 : e ≤ 25) : tbB (t.set g e) = true := by
  refine tbB_of (by rw [List.length_set]; exact tbB_len h) (fun i hi => ?_)
  rw [List.getElem_set]
  split
  · exact betw_iff.2 ⟨h0, h1⟩
  · exact betw_iff.2 (tbB_at h i (by simpa using hi))
theorem tabs_with {m : Img} (h : ImR m) {t : List Int} (ht : tbB t = true) (d : List Int) : ∀ x ∈ imTabs { m with table := t, data := d }, tbB x = true := fun x hx => by
  have hx' : x ∈ t :: m.snaps.map (·.table) := hx
  rw [List.mem_cons] at hx'
  rcases hx' with rfl | hx'
  · exact ht
  · exact h.tabs x (by unfold imTabs; exact List.mem_cons_of_mem _ hx')
theorem fit_zero {m : Img} (h : ImR m) {g : Nat} (hg : g < m.table.length) : imFit { m with table := m.table.set g 1 } = imZero m g := by
  have ht := tbB_set h.table g (e := 1) (by omega) (by omega)
  have hgd : m.table.getD g 0 = m.table[g] := by simp [List.getD, hg]
  have hcs : ∀ i, sN (imTabs { m with table := m.table.set g 1 }) i = sN (imTabs m) i - (if m.table[g] = (i : Int) + 2 then 1 else 0) := fun i => by
    have e : sN (imTabs { m with table := m.table.set g 1 }) i = cN (m.table.set g 1) i + sN (m.snaps.map (·.table)) i := rfl
    rw [e, cN_set hg, sN_tabs, if_neg (show ¬ (1 : Int) = (i : Int) + 2 by omega)]
    omega
  refine fit_eq (tabs_with h ht m.data) ?_ ?_ ?_ ?_ (fun i hi => ?_) (fun i hi => ?_)
  · show (imDrop m _).refs.length = 24; rw [imDrop_refs]; exact h.rl
  · show (imDrop m _).data.length = 24; rw [imDrop_data]; exact h.len
  · show m.table.set g 1 = (imDrop m _).table.set g 1; rw [(imDrop_table m _).1]
  · show m.snaps = (imDrop m _).snaps; rw [(imDrop_table m _).2]
  · show (imDrop m _).refs.getD i 0 = _
    rw [(drop_get h.rl h.len _ hi).1, hcs, h.cntA hi, hgd]
  · show (imDrop m _).data.getD i 0 = _
    rw [(drop_get h.rl h.len _ hi).2, hcs, ← h.cntA hi, hgd]
    by_cases h1 : m.table[g] = (i : Int) + 2
    · simp only [h1, true_and, if_true]
      by_cases h2 : m.refs.getD i 0 = 1
      · rw [if_pos h2, if_pos (by omega)]
      · rw [if_neg h2, if_neg (by omega)]
    · simp only [h1, false_and, if_false]
      by_cases h2 : m.refs.getD i 0 = 0
      · rw [if_pos (by omega), h.clear i hi h2]
      · rw [if_neg (by omega)]

theorem fit_in {m : Img} (h : ImR m) {g c : Nat} (v : Int) (hg : g < m.table.length) (hc : m.table[g] = (c : Int) + 2) (h1 : m.refs.getD c 0 = 1) : imFit { m with table := m.table.set g (2 + (c : Int)), data := m.data.set c v } = { m with data := m.data.set c v } := by
  have hset : m.table.set g (2 + (c : Int)) = m.table := by
    rw [show (2 : Int) + (c : Int) = m.table[g] by omega]
    exact List.set_getElem_self hg
  have hb := tbB_at h.table g hg
  rw [hset]
  refine fit_eq (n := { m with data := m.data.set c v }) (tabs_with h h.table _) h.rl (by simp [h.len]) rfl rfl (fun i hi => h.cntA hi) (fun i hi => ?_)
  have e : sN (imTabs { m with data := m.data.set c v }) i = sN (imTabs m) i := rfl
  rw [e, ← h.cntA hi]
  by_cases hz : m.refs.getD i 0 = 0
  · rw [if_pos hz]
    have hne : c ≠ i := fun e => by rw [e, hz] at h1; cases h1
    have e2 : (m.data.set c v).getD i 0 = m.data.getD i 0 := by simp [List.getD, hne]
    exact e2.trans (h.clear i hi hz)
  · rw [if_neg hz]
theorem free_spec {xs : List Int} (h : frN xs < xs.length) : xs.getD (frN xs) 0 = 0 := by
  unfold frN at h ⊢
  have := List.findIdx_getElem (w := h)
  simpa [List.getD, h] using this
theorem fit_out {m : Img} (h : ImR m) {g c : Nat} (v : Int) (hg : g < m.table.length) (hc : c < 24) (h0 : m.refs.getD c 0 = 0) : imFit { m with table := m.table.set g (2 + (c : Int)), data := m.data.set c v } = { imDrop m m.table[g] with refs := (imDrop m m.table[g]).refs.set c 1, data := (imDrop m m.table[g]).data.set c v, table := (imDrop m m.table[g]).table.set g (2 + (c : Int)) } := by
  have ht := tbB_set h.table g (e := 2 + (c : Int)) (by omega) (by omega)
  have hcs : ∀ i, sN (imTabs { m with table := m.table.set g (2 + (c : Int)), data := m.data.set c v }) i = sN (imTabs m) i - (if m.table[g] = (i : Int) + 2 then 1 else 0) + (if c = i then 1 else 0) := fun i => by
    have e : sN (imTabs { m with table := m.table.set g (2 + (c : Int)), data := m.data.set c v }) i = cN (m.table.set g (2 + (c : Int))) i + sN (m.snaps.map (·.table)) i := rfl
    rw [e, cN_set hg, sN_tabs]
    by_cases hci : c = i
    · rw [if_pos hci, if_pos (show (2 : Int) + (c : Int) = (i : Int) + 2 by omega)]; omega
    · rw [if_neg hci, if_neg (show ¬ (2 : Int) + (c : Int) = (i : Int) + 2 by omega)]; omega
  have hne : ¬ m.table[g] = (c : Int) + 2 := fun e => by
    have h1 := cN_pos hg e
    have h2 := h.cntA hc
    have h3 := sN_nn (m.snaps.map (·.table)) c
    rw [sN_tabs] at h2
    omega
  refine fit_eq (tabs_with h ht _) ?_ ?_ ?_ ?_ (fun i hi => ?_) (fun i hi => ?_)
  · show ((imDrop m _).refs.set c 1).length = 24; rw [List.length_set, imDrop_refs]; exact h.rl
  · show ((imDrop m _).data.set c v).length = 24; rw [List.length_set, imDrop_data]; exact h.len
  · show m.table.set g _ = (imDrop m _).table.set g _; rw [(imDrop_table m _).1]
  · show m.snaps = (imDrop m _).snaps; rw [(imDrop_table m _).2]
  · show ((imDrop m m.table[g]).refs.set c 1).getD i 0 = _
    rw [hcs]
    by_cases hci : c = i
    · subst hci
      rw [if_pos rfl, if_neg hne, ← h.cntA hc, h0]
      simp [List.getD, imDrop_refs, h.rl, hc]
    · have e : ((imDrop m m.table[g]).refs.set c 1).getD i 0 = (imDrop m m.table[g]).refs.getD i 0 := by simp [List.getD, hci]
      rw [e, (drop_get h.rl h.len _ hi).1, h.cntA hi, if_neg hci]; omega
  · show ((imDrop m m.table[g]).data.set c v).getD i 0 = if _ then 0 else (m.data.set c v).getD i 0
    rw [hcs]
    by_cases hci : c = i
    · subst hci
      rw [if_neg (show ¬ (sN (imTabs m) c - (if m.table[g] = (c : Int) + 2 then 1 else 0) + (if c = c then 1 else 0) = 0) by rw [if_pos rfl, if_neg hne, ← h.cntA hc, h0]; omega)]
      simp [List.getD, imDrop_data, h.len, hc]
    · have e : ((imDrop m m.table[g]).data.set c v).getD i 0 = (imDrop m m.table[g]).data.getD i 0 := by simp [List.getD, hci]
      have e2 : (m.data.set c v).getD i 0 = m.data.getD i 0 := by simp [List.getD, hci]
      rw [e, e2, (drop_get h.rl h.len _ hi).2, ← h.cntA hi, if_neg hci]
      by_cases h1 : m.table[g] = (i : Int) + 2
      · simp only [h1, true_and, if_true]
        by_cases h2 : m.refs.getD i 0 = 1
        · rw [if_pos h2, if_pos (by omega)]
        · rw [if_neg h2, if_neg (by omega)]
      · simp only [h1, false_and, if_false]
        by_cases h2 : m.refs.getD i 0 = 0
        · rw [if_pos (by omega), h.clear i hi h2]
        · rw [if_neg (by omega)]
theorem cN_append (s t : List Int) (i : Nat) : cN (s ++ t) i = cN s i + cN t i := by unfold cN; rw [List.count_append]; omega
theorem cN_rz (t : List Int) (i : Nat) : ∀ n, cN (rzTo t n) i = cN (t.take n) i := by
  intro n
  induction n with
  | zero => simp [rzTo]
  | succ n ih =>
    rw [rzTo_succ, cN_append, ih]
    by_cases hn : n < t.length
    · rw [List.take_succ_eq_append_getElem hn, cN_append]
      have : t.getD n 0 = t[n] := by simp [List.getD, hn]
      rw [this]
    · have h1 : t.getD n 0 = 0 := by simp [List.getD, hn]
      have h2 : t.take (n + 1) = t.take n := by rw [List.take_of_length_le (by omega), List.take_of_length_le (by omega)]
      rw [h1, h2]
      have : cN [0] i = 0 := by
        unfold cN
        rw [List.count_cons]
        simp; omega
      omega
theorem tbB_rz {t : List Int} (h : tbB t = true) {n : Nat} (hn : n ≤ 12) : tbB (rzTo t n) = true := by
  refine tbB_of (by rw [rzTo_len]; exact hn) (fun i hi => ?_)
  rw [rzTo_len] at hi
  have e : (rzTo t n)[i]'(by rw [rzTo_len]; exact hi) = t.getD i 0 := by simp [rzTo]
  rw [e]
  by_cases hit : i < t.length
  · have := tbB_at h i hit
    rw [show t.getD i 0 = t[i] by simp [List.getD, hit]]
    exact betw_iff.2 this
  · rw [show t.getD i 0 = 0 by simp [List.getD, hit]]
    exact betw_iff.2 ⟨by omega, by omega⟩
theorem drops_fit {m : Img} (h : ImR m) (es : List Int) {i : Nat} (hi : i < 24) (hle : cN es i ≤ m.refs.getD i 0) : (imDrops m es).data.getD i 0 = if m.refs.getD i 0 - cN es i = 0 then 0 else m.data.getD i 0 := by
  rw [(drops_get hi es m h.rl h.len).2]
  have hn := cN_nn es i
  by_cases h1 : m.refs.getD i 0 - cN es i = 0
  · rw [if_pos h1]
    by_cases h2 : 1 ≤ m.refs.getD i 0
    · rw [if_pos ⟨h2, by omega⟩]
    · rw [if_neg (fun h => h2 h.1), h.clear i hi (by omega)]
  · rw [if_neg h1, if_neg (by omega)]
theorem fit_resize {m : Img} (h : ImR m) {n : Nat} (hn : n ≤ 12) : imFit { m with table := rzTo m.table n } = imResize m n := by
  have hcs : ∀ i, sN (imTabs { m with table := rzTo m.table n }) i = sN (imTabs m) i - cN (m.table.drop n) i := fun i => by
    have e : sN (imTabs { m with table := rzTo m.table n }) i = cN (rzTo m.table n) i + sN (m.snaps.map (·.table)) i := rfl
    have e2 : cN m.table i = cN (m.table.take n) i + cN (m.table.drop n) i := by rw [← cN_append, List.take_append_drop]
    rw [e, cN_rz, sN_tabs, e2]; omega
  obtain ⟨l1, l2, l3, l4⟩ := drops_lens m (m.table.drop n)
  have hle : ∀ i, i < 24 → cN (m.table.drop n) i ≤ m.refs.getD i 0 := fun i hi => by
    have e2 : cN m.table i = cN (m.table.take n) i + cN (m.table.drop n) i := by rw [← cN_append, List.take_append_drop]
    have := cN_nn (m.table.take n) i
    have := sN_nn (m.snaps.map (·.table)) i
    rw [h.cntA hi, sN_tabs]; omega
  refine fit_eq (tabs_with h (tbB_rz h.table hn) m.data) (l1.trans h.rl) (l2.trans h.len) rfl l4.symm (fun i hi => ?_) (fun i hi => ?_)
  · show (imDrops m _).refs.getD i 0 = _
    rw [(drops_get hi _ m h.rl h.len).1, hcs, h.cntA hi]
  · show (imDrops m _).data.getD i 0 = _
    rw [drops_fit h _ hi (hle i hi), hcs, h.cntA hi]

end Go.Proofs.YtpdpnepnfhbonaaGreat
