import Derived.Test.YtjoafbkcnnhdiacRows
import Derived.Test.YtjoafbkcnnhdiacLResizePart3
import Derived.Test.YtjoafbkcnnhdiacLResizePart1
import Derived.WalkKit
import Derived.WalkSpells
import Derived.LoopN
import Derived.Deep.RegionWith

namespace Go.Proofs.Ytjoafbkcnnhdiac
open Go.RowKit
set_option linter.unusedVariables false
set_option maxRecDepth 100000

structure OwJ (wr : World) (B x y k b off n sc0 : Nat) (so : Option Addr) (sc : Nat) (cs : List Value) (name : ByteArray) (tq : Option Addr) (tc : Nat) (tbl : List Int) (v0 v1 v3 : Value) (d : Nat → Bool) (w : World) (s26 s27 s28 s29 s30 s31 s32 s33 s34 s35 s36 s37 s38 s39 s40 s41 s42 s43 s44 s45 : Value) : Prop where
  b0 : d 18 = false → Below wr.heap.size wr w
  b1 : d 20 = false → Keep (Own (.slice so k sc)) wr w
  b2 : d 20 = true → Keep (fun g => Own (.slice so k sc) g ∨ g = y) wr w ∧ VarM w y 29 v0 v1 s44 v3
  f0 : d 0 = true → s26 = .pointer (some ⟨y, 2, none⟩)
  f1 : d 1 = true → s27 = .slice so k sc
  f2 : d 2 = true → s28 = .pointer (some ⟨x, 2, none⟩)
  f3 : d 3 = true → s29 = .slice (some ⟨b, off, none⟩) n sc0
  f4 : d 4 = true → s30 = .int .i64 k
  f5 : d 5 = true → s31 = .pointer (some ⟨b, off + k * 2, none⟩)
  f6 : d 6 = true → s32 = .pointer (some ⟨b, off + k * 2, none⟩)
  f7 : d 7 = true → s33 = .string name
  f8 : d 8 = true → Emp s34
  f9 : d 9 = true → s35 = .pointer (some ⟨x, 2, none⟩)
  f10 : d 10 = true → s36 = .slice (some ⟨b, off, none⟩) n sc0
  f11 : d 11 = true → s37 = .int .i64 k
  f12 : d 12 = true → s38 = .pointer (some ⟨b, off + k * 2, none⟩)
  f13 : d 13 = true → s39 = .pointer (some ⟨b, off + k * 2 + 1, none⟩)
  f14 : d 14 = true → s40 = .slice tq tbl.length tc
  f15 : d 15 = true → OwnN w wr.heap.size s41 tbl
  f16 : d 16 = true → s42 = .agg #[.string name, s41]
  f17 : d 17 = true → ∃ g, s43 = .slice (some ⟨g, 0, none⟩) 1 1 ∧ (d 18 = false → w.heap[g]? = some (.cells #[.string name, s41] 66 (0, 0)))
  f18 : d 18 = true → ∃ g2 cap2, s44 = .slice (some ⟨g2, 0, none⟩) (k + 1) cap2 ∧ w.ownsRow B 66 2 (.slice (some ⟨g2, 0, none⟩) (k + 1) cap2) (k + 1) (cs ++ [.string name, s41])
  f19 : d 19 = true → s45 = .pointer (some ⟨y, 2, none⟩)

theorem OwJ.s0 {wr : World} {B x y k b off n sc0 : Nat} {so : Option Addr} {sc : Nat} {cs : List Value} {name : ByteArray} {tq : Option Addr} {tc : Nat} {tbl : List Int} {v0 v1 v3 : Value} {d : Nat → Bool} {w : World} {s26 s27 s28 s29 s30 s31 s32 s33 s34 s35 s36 s37 s38 s39 s40 s41 s42 s43 s44 s45 v : Value} (I : OwJ wr B x y k b off n sc0 so sc cs name tq tc tbl v0 v1 v3 d w s26 s27 s28 s29 s30 s31 s32 s33 s34 s35 s36 s37 s38 s39 s40 s41 s42 s43 s44 s45) (hd : d 0 = false) (hv : v = .pointer (some ⟨y, 2, none⟩)) : OwJ wr B x y k b off n sc0 so sc cs name tq tc tbl v0 v1 v3 (updD d 0) w v s27 s28 s29 s30 s31 s32 s33 s34 s35 s36 s37 s38 s39 s40 s41 s42 s43 s44 s45 where
  b0 := fun h => I.b0 (upd_nf h)
  b1 := fun h => I.b1 (upd_nf h)
  b2 := fun h => I.b2 (upd_ne (by decide) h)
  f0 := fun _ => hv
  f1 := fun h => I.f1 (upd_ne (by decide) h)
  f2 := fun h => I.f2 (upd_ne (by decide) h)
  f3 := fun h => I.f3 (upd_ne (by decide) h)
  f4 := fun h => I.f4 (upd_ne (by decide) h)
  f5 := fun h => I.f5 (upd_ne (by decide) h)
  f6 := fun h => I.f6 (upd_ne (by decide) h)
  f7 := fun h => I.f7 (upd_ne (by decide) h)
  f8 := fun h => I.f8 (upd_ne (by decide) h)
  f9 := fun h => I.f9 (upd_ne (by decide) h)
  f10 := fun h => I.f10 (upd_ne (by decide) h)
  f11 := fun h => I.f11 (upd_ne (by decide) h)
  f12 := fun h => I.f12 (upd_ne (by decide) h)
  f13 := fun h => I.f13 (upd_ne (by decide) h)
  f14 := fun h => I.f14 (upd_ne (by decide) h)
  f15 := fun h => I.f15 (upd_ne (by decide) h)
  f16 := fun h => I.f16 (upd_ne (by decide) h)
  f17 := fun h => (I.f17 (upd_ne (by decide) h)).imp fun g hg => ⟨hg.1, fun h' => hg.2 (upd_nf h')⟩
  f18 := fun h => I.f18 (upd_ne (by decide) h)
  f19 := fun h => I.f19 (upd_ne (by decide) h)

theorem OwJ.s1 {wr : World} {B x y k b off n sc0 : Nat} {so : Option Addr} {sc : Nat} {cs : List Value} {name : ByteArray} {tq : Option Addr} {tc : Nat} {tbl : List Int} {v0 v1 v3 : Value} {d : Nat → Bool} {w : World} {s26 s27 s28 s29 s30 s31 s32 s33 s34 s35 s36 s37 s38 s39 s40 s41 s42 s43 s44 s45 v : Value} (I : OwJ wr B x y k b off n sc0 so sc cs name tq tc tbl v0 v1 v3 d w s26 s27 s28 s29 s30 s31 s32 s33 s34 s35 s36 s37 s38 s39 s40 s41 s42 s43 s44 s45) (hd : d 1 = false) (hv : v = .slice so k sc) : OwJ wr B x y k b off n sc0 so sc cs name tq tc tbl v0 v1 v3 (updD d 1) w s26 v s28 s29 s30 s31 s32 s33 s34 s35 s36 s37 s38 s39 s40 s41 s42 s43 s44 s45 where
  b0 := fun h => I.b0 (upd_nf h)
  b1 := fun h => I.b1 (upd_nf h)
  b2 := fun h => I.b2 (upd_ne (by decide) h)
  f0 := fun h => I.f0 (upd_ne (by decide) h)
  f1 := fun _ => hv
  f2 := fun h => I.f2 (upd_ne (by decide) h)
  f3 := fun h => I.f3 (upd_ne (by decide) h)
  f4 := fun h => I.f4 (upd_ne (by decide) h)
  f5 := fun h => I.f5 (upd_ne (by decide) h)
  f6 := fun h => I.f6 (upd_ne (by decide) h)
  f7 := fun h => I.f7 (upd_ne (by decide) h)
  f8 := fun h => I.f8 (upd_ne (by decide) h)
  f9 := fun h => I.f9 (upd_ne (by decide) h)
  f10 := fun h => I.f10 (upd_ne (by decide) h)
  f11 := fun h => I.f11 (upd_ne (by decide) h)
  f12 := fun h => I.f12 (upd_ne (by decide) h)
  f13 := fun h => I.f13 (upd_ne (by decide) h)
  f14 := fun h => I.f14 (upd_ne (by decide) h)
  f15 := fun h => I.f15 (upd_ne (by decide) h)
  f16 := fun h => I.f16 (upd_ne (by decide) h)
  f17 := fun h => (I.f17 (upd_ne (by decide) h)).imp fun g hg => ⟨hg.1, fun h' => hg.2 (upd_nf h')⟩
  f18 := fun h => I.f18 (upd_ne (by decide) h)
  f19 := fun h => I.f19 (upd_ne (by decide) h)

theorem OwJ.s2 {wr : World} {B x y k b off n sc0 : Nat} {so : Option Addr} {sc : Nat} {cs : List Value} {name : ByteArray} {tq : Option Addr} {tc : Nat} {tbl : List Int} {v0 v1 v3 : Value} {d : Nat → Bool} {w : World} {s26 s27 s28 s29 s30 s31 s32 s33 s34 s35 s36 s37 s38 s39 s40 s41 s42 s43 s44 s45 v : Value} (I : OwJ wr B x y k b off n sc0 so sc cs name tq tc tbl v0 v1 v3 d w s26 s27 s28 s29 s30 s31 s32 s33 s34 s35 s36 s37 s38 s39 s40 s41 s42 s43 s44 s45) (hd : d 2 = false) (hv : v = .pointer (some ⟨x, 2, none⟩)) : OwJ wr B x y k b off n sc0 so sc cs name tq tc tbl v0 v1 v3 (updD d 2) w s26 s27 v s29 s30 s31 s32 s33 s34 s35 s36 s37 s38 s39 s40 s41 s42 s43 s44 s45 where
  b0 := fun h => I.b0 (upd_nf h)
  b1 := fun h => I.b1 (upd_nf h)
  b2 := fun h => I.b2 (upd_ne (by decide) h)
  f0 := fun h => I.f0 (upd_ne (by decide) h)
  f1 := fun h => I.f1 (upd_ne (by decide) h)
  f2 := fun _ => hv
  f3 := fun h => I.f3 (upd_ne (by decide) h)
  f4 := fun h => I.f4 (upd_ne (by decide) h)
  f5 := fun h => I.f5 (upd_ne (by decide) h)
  f6 := fun h => I.f6 (upd_ne (by decide) h)
  f7 := fun h => I.f7 (upd_ne (by decide) h)
  f8 := fun h => I.f8 (upd_ne (by decide) h)
  f9 := fun h => I.f9 (upd_ne (by decide) h)
  f10 := fun h => I.f10 (upd_ne (by decide) h)
  f11 := fun h => I.f11 (upd_ne (by decide) h)
  f12 := fun h => I.f12 (upd_ne (by decide) h)
  f13 := fun h => I.f13 (upd_ne (by decide) h)
  f14 := fun h => I.f14 (upd_ne (by decide) h)
  f15 := fun h => I.f15 (upd_ne (by decide) h)
  f16 := fun h => I.f16 (upd_ne (by decide) h)
  f17 := fun h => (I.f17 (upd_ne (by decide) h)).imp fun g hg => ⟨hg.1, fun h' => hg.2 (upd_nf h')⟩
  f18 := fun h => I.f18 (upd_ne (by decide) h)
  f19 := fun h => I.f19 (upd_ne (by decide) h)

theorem OwJ.s3 {wr : World} {B x y k b off n sc0 : Nat} {so : Option Addr} {sc : Nat} {cs : List Value} {name : ByteArray} {tq : Option Addr} {tc : Nat} {tbl : List Int} {v0 v1 v3 : Value} {d : Nat → Bool} {w : World} {s26 s27 s28 s29 s30 s31 s32 s33 s34 s35 s36 s37 s38 s39 s40 s41 s42 s43 s44 s45 v : Value} (I : OwJ wr B x y k b off n sc0 so sc cs name tq tc tbl v0 v1 v3 d w s26 s27 s28 s29 s30 s31 s32 s33 s34 s35 s36 s37 s38 s39 s40 s41 s42 s43 s44 s45) (hd : d 3 = false) (hv : v = .slice (some ⟨b, off, none⟩) n sc0) : OwJ wr B x y k b off n sc0 so sc cs name tq tc tbl v0 v1 v3 (updD d 3) w s26 s27 s28 v s30 s31 s32 s33 s34 s35 s36 s37 s38 s39 s40 s41 s42 s43 s44 s45 where
  b0 := fun h => I.b0 (upd_nf h)
  b1 := fun h => I.b1 (upd_nf h)
  b2 := fun h => I.b2 (upd_ne (by decide) h)
  f0 := fun h => I.f0 (upd_ne (by decide) h)
  f1 := fun h => I.f1 (upd_ne (by decide) h)
  f2 := fun h => I.f2 (upd_ne (by decide) h)
  f3 := fun _ => hv
  f4 := fun h => I.f4 (upd_ne (by decide) h)
  f5 := fun h => I.f5 (upd_ne (by decide) h)
  f6 := fun h => I.f6 (upd_ne (by decide) h)
  f7 := fun h => I.f7 (upd_ne (by decide) h)
  f8 := fun h => I.f8 (upd_ne (by decide) h)
  f9 := fun h => I.f9 (upd_ne (by decide) h)
  f10 := fun h => I.f10 (upd_ne (by decide) h)
  f11 := fun h => I.f11 (upd_ne (by decide) h)
  f12 := fun h => I.f12 (upd_ne (by decide) h)
  f13 := fun h => I.f13 (upd_ne (by decide) h)
  f14 := fun h => I.f14 (upd_ne (by decide) h)
  f15 := fun h => I.f15 (upd_ne (by decide) h)
  f16 := fun h => I.f16 (upd_ne (by decide) h)
  f17 := fun h => (I.f17 (upd_ne (by decide) h)).imp fun g hg => ⟨hg.1, fun h' => hg.2 (upd_nf h')⟩
  f18 := fun h => I.f18 (upd_ne (by decide) h)
  f19 := fun h => I.f19 (upd_ne (by decide) h)

theorem OwJ.s4 {wr : World} {B x y k b off n sc0 : Nat} {so : Option Addr} {sc : Nat} {cs : List Value} {name : ByteArray} {tq : Option Addr} {tc : Nat} {tbl : List Int} {v0 v1 v3 : Value} {d : Nat → Bool} {w : World} {s26 s27 s28 s29 s30 s31 s32 s33 s34 s35 s36 s37 s38 s39 s40 s41 s42 s43 s44 s45 v : Value} (I : OwJ wr B x y k b off n sc0 so sc cs name tq tc tbl v0 v1 v3 d w s26 s27 s28 s29 s30 s31 s32 s33 s34 s35 s36 s37 s38 s39 s40 s41 s42 s43 s44 s45) (hd : d 4 = false) (hv : v = .int .i64 k) : OwJ wr B x y k b off n sc0 so sc cs name tq tc tbl v0 v1 v3 (updD d 4) w s26 s27 s28 s29 v s31 s32 s33 s34 s35 s36 s37 s38 s39 s40 s41 s42 s43 s44 s45 where
  b0 := fun h => I.b0 (upd_nf h)
  b1 := fun h => I.b1 (upd_nf h)
  b2 := fun h => I.b2 (upd_ne (by decide) h)
  f0 := fun h => I.f0 (upd_ne (by decide) h)
  f1 := fun h => I.f1 (upd_ne (by decide) h)
  f2 := fun h => I.f2 (upd_ne (by decide) h)
  f3 := fun h => I.f3 (upd_ne (by decide) h)
  f4 := fun _ => hv
  f5 := fun h => I.f5 (upd_ne (by decide) h)
  f6 := fun h => I.f6 (upd_ne (by decide) h)
  f7 := fun h => I.f7 (upd_ne (by decide) h)
  f8 := fun h => I.f8 (upd_ne (by decide) h)
  f9 := fun h => I.f9 (upd_ne (by decide) h)
  f10 := fun h => I.f10 (upd_ne (by decide) h)
  f11 := fun h => I.f11 (upd_ne (by decide) h)
  f12 := fun h => I.f12 (upd_ne (by decide) h)
  f13 := fun h => I.f13 (upd_ne (by decide) h)
  f14 := fun h => I.f14 (upd_ne (by decide) h)
  f15 := fun h => I.f15 (upd_ne (by decide) h)
  f16 := fun h => I.f16 (upd_ne (by decide) h)
  f17 := fun h => (I.f17 (upd_ne (by decide) h)).imp fun g hg => ⟨hg.1, fun h' => hg.2 (upd_nf h')⟩
  f18 := fun h => I.f18 (upd_ne (by decide) h)
  f19 := fun h => I.f19 (upd_ne (by decide) h)

theorem OwJ.s5 {wr : World} {B x y k b off n sc0 : Nat} {so : Option Addr} {sc : Nat} {cs : List Value} {name : ByteArray} {tq : Option Addr} {tc : Nat} {tbl : List Int} {v0 v1 v3 : Value} {d : Nat → Bool} {w : World} {s26 s27 s28 s29 s30 s31 s32 s33 s34 s35 s36 s37 s38 s39 s40 s41 s42 s43 s44 s45 v : Value} (I : OwJ wr B x y k b off n sc0 so sc cs name tq tc tbl v0 v1 v3 d w s26 s27 s28 s29 s30 s31 s32 s33 s34 s35 s36 s37 s38 s39 s40 s41 s42 s43 s44 s45) (hd : d 5 = false) (hv : v = .pointer (some ⟨b, off + k * 2, none⟩)) : OwJ wr B x y k b off n sc0 so sc cs name tq tc tbl v0 v1 v3 (updD d 5) w s26 s27 s28 s29 s30 v s32 s33 s34 s35 s36 s37 s38 s39 s40 s41 s42 s43 s44 s45 where
  b0 := fun h => I.b0 (upd_nf h)
  b1 := fun h => I.b1 (upd_nf h)
  b2 := fun h => I.b2 (upd_ne (by decide) h)
  f0 := fun h => I.f0 (upd_ne (by decide) h)
  f1 := fun h => I.f1 (upd_ne (by decide) h)
  f2 := fun h => I.f2 (upd_ne (by decide) h)
  f3 := fun h => I.f3 (upd_ne (by decide) h)
  f4 := fun h => I.f4 (upd_ne (by decide) h)
  f5 := fun _ => hv
  f6 := fun h => I.f6 (upd_ne (by decide) h)
  f7 := fun h => I.f7 (upd_ne (by decide) h)
  f8 := fun h => I.f8 (upd_ne (by decide) h)
  f9 := fun h => I.f9 (upd_ne (by decide) h)
  f10 := fun h => I.f10 (upd_ne (by decide) h)
  f11 := fun h => I.f11 (upd_ne (by decide) h)
  f12 := fun h => I.f12 (upd_ne (by decide) h)
  f13 := fun h => I.f13 (upd_ne (by decide) h)
  f14 := fun h => I.f14 (upd_ne (by decide) h)
  f15 := fun h => I.f15 (upd_ne (by decide) h)
  f16 := fun h => I.f16 (upd_ne (by decide) h)
  f17 := fun h => (I.f17 (upd_ne (by decide) h)).imp fun g hg => ⟨hg.1, fun h' => hg.2 (upd_nf h')⟩
  f18 := fun h => I.f18 (upd_ne (by decide) h)
  f19 := fun h => I.f19 (upd_ne (by decide) h)

theorem OwJ.s6 {wr : World} {B x y k b off n sc0 : Nat} {so : Option Addr} {sc : Nat} {cs : List Value} {name : ByteArray} {tq : Option Addr} {tc : Nat} {tbl : List Int} {v0 v1 v3 : Value} {d : Nat → Bool} {w : World} {s26 s27 s28 s29 s30 s31 s32 s33 s34 s35 s36 s37 s38 s39 s40 s41 s42 s43 s44 s45 v : Value} (I : OwJ wr B x y k b off n sc0 so sc cs name tq tc tbl v0 v1 v3 d w s26 s27 s28 s29 s30 s31 s32 s33 s34 s35 s36 s37 s38 s39 s40 s41 s42 s43 s44 s45) (hd : d 6 = false) (hv : v = .pointer (some ⟨b, off + k * 2, none⟩)) : OwJ wr B x y k b off n sc0 so sc cs name tq tc tbl v0 v1 v3 (updD d 6) w s26 s27 s28 s29 s30 s31 v s33 s34 s35 s36 s37 s38 s39 s40 s41 s42 s43 s44 s45 where
  b0 := fun h => I.b0 (upd_nf h)
  b1 := fun h => I.b1 (upd_nf h)
  b2 := fun h => I.b2 (upd_ne (by decide) h)
  f0 := fun h => I.f0 (upd_ne (by decide) h)
  f1 := fun h => I.f1 (upd_ne (by decide) h)
  f2 := fun h => I.f2 (upd_ne (by decide) h)
  f3 := fun h => I.f3 (upd_ne (by decide) h)
  f4 := fun h => I.f4 (upd_ne (by decide) h)
  f5 := fun h => I.f5 (upd_ne (by decide) h)
  f6 := fun _ => hv
  f7 := fun h => I.f7 (upd_ne (by decide) h)
  f8 := fun h => I.f8 (upd_ne (by decide) h)
  f9 := fun h => I.f9 (upd_ne (by decide) h)
  f10 := fun h => I.f10 (upd_ne (by decide) h)
  f11 := fun h => I.f11 (upd_ne (by decide) h)
  f12 := fun h => I.f12 (upd_ne (by decide) h)
  f13 := fun h => I.f13 (upd_ne (by decide) h)
  f14 := fun h => I.f14 (upd_ne (by decide) h)
  f15 := fun h => I.f15 (upd_ne (by decide) h)
  f16 := fun h => I.f16 (upd_ne (by decide) h)
  f17 := fun h => (I.f17 (upd_ne (by decide) h)).imp fun g hg => ⟨hg.1, fun h' => hg.2 (upd_nf h')⟩
  f18 := fun h => I.f18 (upd_ne (by decide) h)
  f19 := fun h => I.f19 (upd_ne (by decide) h)

theorem OwJ.s7 {wr : World} {B x y k b off n sc0 : Nat} {so : Option Addr} {sc : Nat} {cs : List Value} {name : ByteArray} {tq : Option Addr} {tc : Nat} {tbl : List Int} {v0 v1 v3 : Value} {d : Nat → Bool} {w : World} {s26 s27 s28 s29 s30 s31 s32 s33 s34 s35 s36 s37 s38 s39 s40 s41 s42 s43 s44 s45 v : Value} (I : OwJ wr B x y k b off n sc0 so sc cs name tq tc tbl v0 v1 v3 d w s26 s27 s28 s29 s30 s31 s32 s33 s34 s35 s36 s37 s38 s39 s40 s41 s42 s43 s44 s45) (hd : d 7 = false) (hv : v = .string name) : OwJ wr B x y k b off n sc0 so sc cs name tq tc tbl v0 v1 v3 (updD d 7) w s26 s27 s28 s29 s30 s31 s32 v s34 s35 s36 s37 s38 s39 s40 s41 s42 s43 s44 s45 where
  b0 := fun h => I.b0 (upd_nf h)
  b1 := fun h => I.b1 (upd_nf h)
  b2 := fun h => I.b2 (upd_ne (by decide) h)
  f0 := fun h => I.f0 (upd_ne (by decide) h)
  f1 := fun h => I.f1 (upd_ne (by decide) h)
  f2 := fun h => I.f2 (upd_ne (by decide) h)
  f3 := fun h => I.f3 (upd_ne (by decide) h)
  f4 := fun h => I.f4 (upd_ne (by decide) h)
  f5 := fun h => I.f5 (upd_ne (by decide) h)
  f6 := fun h => I.f6 (upd_ne (by decide) h)
  f7 := fun _ => hv
  f8 := fun h => I.f8 (upd_ne (by decide) h)
  f9 := fun h => I.f9 (upd_ne (by decide) h)
  f10 := fun h => I.f10 (upd_ne (by decide) h)
  f11 := fun h => I.f11 (upd_ne (by decide) h)
  f12 := fun h => I.f12 (upd_ne (by decide) h)
  f13 := fun h => I.f13 (upd_ne (by decide) h)
  f14 := fun h => I.f14 (upd_ne (by decide) h)
  f15 := fun h => I.f15 (upd_ne (by decide) h)
  f16 := fun h => I.f16 (upd_ne (by decide) h)
  f17 := fun h => (I.f17 (upd_ne (by decide) h)).imp fun g hg => ⟨hg.1, fun h' => hg.2 (upd_nf h')⟩
  f18 := fun h => I.f18 (upd_ne (by decide) h)
  f19 := fun h => I.f19 (upd_ne (by decide) h)

theorem OwJ.s8 {wr : World} {B x y k b off n sc0 : Nat} {so : Option Addr} {sc : Nat} {cs : List Value} {name : ByteArray} {tq : Option Addr} {tc : Nat} {tbl : List Int} {v0 v1 v3 : Value} {d : Nat → Bool} {w w2 : World} {s26 s27 s28 s29 s30 s31 s32 s33 s34 s35 s36 s37 s38 s39 s40 s41 s42 s43 s44 s45 v : Value} (I : OwJ wr B x y k b off n sc0 so sc cs name tq tc tbl v0 v1 v3 d w s26 s27 s28 s29 s30 s31 s32 s33 s34 s35 s36 s37 s38 s39 s40 s41 s42 s43 s44 s45) (hd : d 8 = false) (h18 : d 18 = false) (h20 : d 20 = false) (hb : Below w.heap.size w w2) (hv : Emp v) : OwJ wr B x y k b off n sc0 so sc cs name tq tc tbl v0 v1 v3 (updD d 8) w2 s26 s27 s28 s29 s30 s31 s32 s33 v s35 s36 s37 s38 s39 s40 s41 s42 s43 s44 s45 where
  b0 := fun h => fr (I.b0 h18) hb
  b1 := fun h => (I.b1 h20).trans (Keep.of_below hb)
  b2 := fun h => no_d (upd_ne (by decide) h) h20
  f0 := fun h => I.f0 (upd_ne (by decide) h)
  f1 := fun h => I.f1 (upd_ne (by decide) h)
  f2 := fun h => I.f2 (upd_ne (by decide) h)
  f3 := fun h => I.f3 (upd_ne (by decide) h)
  f4 := fun h => I.f4 (upd_ne (by decide) h)
  f5 := fun h => I.f5 (upd_ne (by decide) h)
  f6 := fun h => I.f6 (upd_ne (by decide) h)
  f7 := fun h => I.f7 (upd_ne (by decide) h)
  f8 := fun _ => hv
  f9 := fun h => I.f9 (upd_ne (by decide) h)
  f10 := fun h => I.f10 (upd_ne (by decide) h)
  f11 := fun h => I.f11 (upd_ne (by decide) h)
  f12 := fun h => I.f12 (upd_ne (by decide) h)
  f13 := fun h => I.f13 (upd_ne (by decide) h)
  f14 := fun h => I.f14 (upd_ne (by decide) h)
  f15 := fun h => (I.f15 (upd_ne (by decide) h)).below hb
  f16 := fun h => I.f16 (upd_ne (by decide) h)
  f17 := fun h => (I.f17 (upd_ne (by decide) h)).imp fun g hg => ⟨hg.1, fun h' => blk_belowI (hg.2 (upd_nf h')) hb⟩
  f18 := fun h => no_d (upd_ne (by decide) h) h18
  f19 := fun h => I.f19 (upd_ne (by decide) h)

theorem OwJ.s9 {wr : World} {B x y k b off n sc0 : Nat} {so : Option Addr} {sc : Nat} {cs : List Value} {name : ByteArray} {tq : Option Addr} {tc : Nat} {tbl : List Int} {v0 v1 v3 : Value} {d : Nat → Bool} {w : World} {s26 s27 s28 s29 s30 s31 s32 s33 s34 s35 s36 s37 s38 s39 s40 s41 s42 s43 s44 s45 v : Value} (I : OwJ wr B x y k b off n sc0 so sc cs name tq tc tbl v0 v1 v3 d w s26 s27 s28 s29 s30 s31 s32 s33 s34 s35 s36 s37 s38 s39 s40 s41 s42 s43 s44 s45) (hd : d 9 = false) (hv : v = .pointer (some ⟨x, 2, none⟩)) : OwJ wr B x y k b off n sc0 so sc cs name tq tc tbl v0 v1 v3 (updD d 9) w s26 s27 s28 s29 s30 s31 s32 s33 s34 v s36 s37 s38 s39 s40 s41 s42 s43 s44 s45 where
  b0 := fun h => I.b0 (upd_nf h)
  b1 := fun h => I.b1 (upd_nf h)
  b2 := fun h => I.b2 (upd_ne (by decide) h)
  f0 := fun h => I.f0 (upd_ne (by decide) h)
  f1 := fun h => I.f1 (upd_ne (by decide) h)
  f2 := fun h => I.f2 (upd_ne (by decide) h)
  f3 := fun h => I.f3 (upd_ne (by decide) h)
  f4 := fun h => I.f4 (upd_ne (by decide) h)
  f5 := fun h => I.f5 (upd_ne (by decide) h)
  f6 := fun h => I.f6 (upd_ne (by decide) h)
  f7 := fun h => I.f7 (upd_ne (by decide) h)
  f8 := fun h => I.f8 (upd_ne (by decide) h)
  f9 := fun _ => hv
  f10 := fun h => I.f10 (upd_ne (by decide) h)
  f11 := fun h => I.f11 (upd_ne (by decide) h)
  f12 := fun h => I.f12 (upd_ne (by decide) h)
  f13 := fun h => I.f13 (upd_ne (by decide) h)
  f14 := fun h => I.f14 (upd_ne (by decide) h)
  f15 := fun h => I.f15 (upd_ne (by decide) h)
  f16 := fun h => I.f16 (upd_ne (by decide) h)
  f17 := fun h => (I.f17 (upd_ne (by decide) h)).imp fun g hg => ⟨hg.1, fun h' => hg.2 (upd_nf h')⟩
  f18 := fun h => I.f18 (upd_ne (by decide) h)
  f19 := fun h => I.f19 (upd_ne (by decide) h)

theorem OwJ.s10 {wr : World} {B x y k b off n sc0 : Nat} {so : Option Addr} {sc : Nat} {cs : List Value} {name : ByteArray} {tq : Option Addr} {tc : Nat} {tbl : List Int} {v0 v1 v3 : Value} {d : Nat → Bool} {w : World} {s26 s27 s28 s29 s30 s31 s32 s33 s34 s35 s36 s37 s38 s39 s40 s41 s42 s43 s44 s45 v : Value} (I : OwJ wr B x y k b off n sc0 so sc cs name tq tc tbl v0 v1 v3 d w s26 s27 s28 s29 s30 s31 s32 s33 s34 s35 s36 s37 s38 s39 s40 s41 s42 s43 s44 s45) (hd : d 10 = false) (hv : v = .slice (some ⟨b, off, none⟩) n sc0) : OwJ wr B x y k b off n sc0 so sc cs name tq tc tbl v0 v1 v3 (updD d 10) w s26 s27 s28 s29 s30 s31 s32 s33 s34 s35 v s37 s38 s39 s40 s41 s42 s43 s44 s45 where
  b0 := fun h => I.b0 (upd_nf h)
  b1 := fun h => I.b1 (upd_nf h)
  b2 := fun h => I.b2 (upd_ne (by decide) h)
  f0 := fun h => I.f0 (upd_ne (by decide) h)
  f1 := fun h => I.f1 (upd_ne (by decide) h)
  f2 := fun h => I.f2 (upd_ne (by decide) h)
  f3 := fun h => I.f3 (upd_ne (by decide) h)
  f4 := fun h => I.f4 (upd_ne (by decide) h)
  f5 := fun h => I.f5 (upd_ne (by decide) h)
  f6 := fun h => I.f6 (upd_ne (by decide) h)
  f7 := fun h => I.f7 (upd_ne (by decide) h)
  f8 := fun h => I.f8 (upd_ne (by decide) h)
  f9 := fun h => I.f9 (upd_ne (by decide) h)
  f10 := fun _ => hv
  f11 := fun h => I.f11 (upd_ne (by decide) h)
  f12 := fun h => I.f12 (upd_ne (by decide) h)
  f13 := fun h => I.f13 (upd_ne (by decide) h)
  f14 := fun h => I.f14 (upd_ne (by decide) h)
  f15 := fun h => I.f15 (upd_ne (by decide) h)
  f16 := fun h => I.f16 (upd_ne (by decide) h)
  f17 := fun h => (I.f17 (upd_ne (by decide) h)).imp fun g hg => ⟨hg.1, fun h' => hg.2 (upd_nf h')⟩
  f18 := fun h => I.f18 (upd_ne (by decide) h)
  f19 := fun h => I.f19 (upd_ne (by decide) h)

theorem OwJ.s11 {wr : World} {B x y k b off n sc0 : Nat} {so : Option Addr} {sc : Nat} {cs : List Value} {name : ByteArray} {tq : Option Addr} {tc : Nat} {tbl : List Int} {v0 v1 v3 : Value} {d : Nat → Bool} {w : World} {s26 s27 s28 s29 s30 s31 s32 s33 s34 s35 s36 s37 s38 s39 s40 s41 s42 s43 s44 s45 v : Value} (I : OwJ wr B x y k b off n sc0 so sc cs name tq tc tbl v0 v1 v3 d w s26 s27 s28 s29 s30 s31 s32 s33 s34 s35 s36 s37 s38 s39 s40 s41 s42 s43 s44 s45) (hd : d 11 = false) (hv : v = .int .i64 k) : OwJ wr B x y k b off n sc0 so sc cs name tq tc tbl v0 v1 v3 (updD d 11) w s26 s27 s28 s29 s30 s31 s32 s33 s34 s35 s36 v s38 s39 s40 s41 s42 s43 s44 s45 where
  b0 := fun h => I.b0 (upd_nf h)
  b1 := fun h => I.b1 (upd_nf h)
  b2 := fun h => I.b2 (upd_ne (by decide) h)
  f0 := fun h => I.f0 (upd_ne (by decide) h)
  f1 := fun h => I.f1 (upd_ne (by decide) h)
  f2 := fun h => I.f2 (upd_ne (by decide) h)
  f3 := fun h => I.f3 (upd_ne (by decide) h)
  f4 := fun h => I.f4 (upd_ne (by decide) h)
  f5 := fun h => I.f5 (upd_ne (by decide) h)
  f6 := fun h => I.f6 (upd_ne (by decide) h)
  f7 := fun h => I.f7 (upd_ne (by decide) h)
  f8 := fun h => I.f8 (upd_ne (by decide) h)
  f9 := fun h => I.f9 (upd_ne (by decide) h)
  f10 := fun h => I.f10 (upd_ne (by decide) h)
  f11 := fun _ => hv
  f12 := fun h => I.f12 (upd_ne (by decide) h)
  f13 := fun h => I.f13 (upd_ne (by decide) h)
  f14 := fun h => I.f14 (upd_ne (by decide) h)
  f15 := fun h => I.f15 (upd_ne (by decide) h)
  f16 := fun h => I.f16 (upd_ne (by decide) h)
  f17 := fun h => (I.f17 (upd_ne (by decide) h)).imp fun g hg => ⟨hg.1, fun h' => hg.2 (upd_nf h')⟩
  f18 := fun h => I.f18 (upd_ne (by decide) h)
  f19 := fun h => I.f19 (upd_ne (by decide) h)

theorem OwJ.s12 {wr : World} {B x y k b off n sc0 : Nat} {so : Option Addr} {sc : Nat} {cs : List Value} {name : ByteArray} {tq : Option Addr} {tc : Nat} {tbl : List Int} {v0 v1 v3 : Value} {d : Nat → Bool} {w : World} {s26 s27 s28 s29 s30 s31 s32 s33 s34 s35 s36 s37 s38 s39 s40 s41 s42 s43 s44 s45 v : Value} (I : OwJ wr B x y k b off n sc0 so sc cs name tq tc tbl v0 v1 v3 d w s26 s27 s28 s29 s30 s31 s32 s33 s34 s35 s36 s37 s38 s39 s40 s41 s42 s43 s44 s45) (hd : d 12 = false) (hv : v = .pointer (some ⟨b, off + k * 2, none⟩)) : OwJ wr B x y k b off n sc0 so sc cs name tq tc tbl v0 v1 v3 (updD d 12) w s26 s27 s28 s29 s30 s31 s32 s33 s34 s35 s36 s37 v s39 s40 s41 s42 s43 s44 s45 where
  b0 := fun h => I.b0 (upd_nf h)
  b1 := fun h => I.b1 (upd_nf h)
  b2 := fun h => I.b2 (upd_ne (by decide) h)
  f0 := fun h => I.f0 (upd_ne (by decide) h)
  f1 := fun h => I.f1 (upd_ne (by decide) h)
  f2 := fun h => I.f2 (upd_ne (by decide) h)
  f3 := fun h => I.f3 (upd_ne (by decide) h)
  f4 := fun h => I.f4 (upd_ne (by decide) h)
  f5 := fun h => I.f5 (upd_ne (by decide) h)
  f6 := fun h => I.f6 (upd_ne (by decide) h)
  f7 := fun h => I.f7 (upd_ne (by decide) h)
  f8 := fun h => I.f8 (upd_ne (by decide) h)
  f9 := fun h => I.f9 (upd_ne (by decide) h)
  f10 := fun h => I.f10 (upd_ne (by decide) h)
  f11 := fun h => I.f11 (upd_ne (by decide) h)
  f12 := fun _ => hv
  f13 := fun h => I.f13 (upd_ne (by decide) h)
  f14 := fun h => I.f14 (upd_ne (by decide) h)
  f15 := fun h => I.f15 (upd_ne (by decide) h)
  f16 := fun h => I.f16 (upd_ne (by decide) h)
  f17 := fun h => (I.f17 (upd_ne (by decide) h)).imp fun g hg => ⟨hg.1, fun h' => hg.2 (upd_nf h')⟩
  f18 := fun h => I.f18 (upd_ne (by decide) h)
  f19 := fun h => I.f19 (upd_ne (by decide) h)

theorem OwJ.s13 {wr : World} {B x y k b off n sc0 : Nat} {so : Option Addr} {sc : Nat} {cs : List Value} {name : ByteArray} {tq : Option Addr} {tc : Nat} {tbl : List Int} {v0 v1 v3 : Value} {d : Nat → Bool} {w : World} {s26 s27 s28 s29 s30 s31 s32 s33 s34 s35 s36 s37 s38 s39 s40 s41 s42 s43 s44 s45 v : Value} (I : OwJ wr B x y k b off n sc0 so sc cs name tq tc tbl v0 v1 v3 d w s26 s27 s28 s29 s30 s31 s32 s33 s34 s35 s36 s37 s38 s39 s40 s41 s42 s43 s44 s45) (hd : d 13 = false) (hv : v = .pointer (some ⟨b, off + k * 2 + 1, none⟩)) : OwJ wr B x y k b off n sc0 so sc cs name tq tc tbl v0 v1 v3 (updD d 13) w s26 s27 s28 s29 s30 s31 s32 s33 s34 s35 s36 s37 s38 v s40 s41 s42 s43 s44 s45 where
  b0 := fun h => I.b0 (upd_nf h)
  b1 := fun h => I.b1 (upd_nf h)
  b2 := fun h => I.b2 (upd_ne (by decide) h)
  f0 := fun h => I.f0 (upd_ne (by decide) h)
  f1 := fun h => I.f1 (upd_ne (by decide) h)
  f2 := fun h => I.f2 (upd_ne (by decide) h)
  f3 := fun h => I.f3 (upd_ne (by decide) h)
  f4 := fun h => I.f4 (upd_ne (by decide) h)
  f5 := fun h => I.f5 (upd_ne (by decide) h)
  f6 := fun h => I.f6 (upd_ne (by decide) h)
  f7 := fun h => I.f7 (upd_ne (by decide) h)
  f8 := fun h => I.f8 (upd_ne (by decide) h)
  f9 := fun h => I.f9 (upd_ne (by decide) h)
  f10 := fun h => I.f10 (upd_ne (by decide) h)
  f11 := fun h => I.f11 (upd_ne (by decide) h)
  f12 := fun h => I.f12 (upd_ne (by decide) h)
  f13 := fun _ => hv
  f14 := fun h => I.f14 (upd_ne (by decide) h)
  f15 := fun h => I.f15 (upd_ne (by decide) h)
  f16 := fun h => I.f16 (upd_ne (by decide) h)
  f17 := fun h => (I.f17 (upd_ne (by decide) h)).imp fun g hg => ⟨hg.1, fun h' => hg.2 (upd_nf h')⟩
  f18 := fun h => I.f18 (upd_ne (by decide) h)
  f19 := fun h => I.f19 (upd_ne (by decide) h)

theorem OwJ.s14 {wr : World} {B x y k b off n sc0 : Nat} {so : Option Addr} {sc : Nat} {cs : List Value} {name : ByteArray} {tq : Option Addr} {tc : Nat} {tbl : List Int} {v0 v1 v3 : Value} {d : Nat → Bool} {w : World} {s26 s27 s28 s29 s30 s31 s32 s33 s34 s35 s36 s37 s38 s39 s40 s41 s42 s43 s44 s45 v : Value} (I : OwJ wr B x y k b off n sc0 so sc cs name tq tc tbl v0 v1 v3 d w s26 s27 s28 s29 s30 s31 s32 s33 s34 s35 s36 s37 s38 s39 s40 s41 s42 s43 s44 s45) (hd : d 14 = false) (hv : v = .slice tq tbl.length tc) : OwJ wr B x y k b off n sc0 so sc cs name tq tc tbl v0 v1 v3 (updD d 14) w s26 s27 s28 s29 s30 s31 s32 s33 s34 s35 s36 s37 s38 s39 v s41 s42 s43 s44 s45 where
  b0 := fun h => I.b0 (upd_nf h)
  b1 := fun h => I.b1 (upd_nf h)
  b2 := fun h => I.b2 (upd_ne (by decide) h)
  f0 := fun h => I.f0 (upd_ne (by decide) h)
  f1 := fun h => I.f1 (upd_ne (by decide) h)
  f2 := fun h => I.f2 (upd_ne (by decide) h)
  f3 := fun h => I.f3 (upd_ne (by decide) h)
  f4 := fun h => I.f4 (upd_ne (by decide) h)
  f5 := fun h => I.f5 (upd_ne (by decide) h)
  f6 := fun h => I.f6 (upd_ne (by decide) h)
  f7 := fun h => I.f7 (upd_ne (by decide) h)
  f8 := fun h => I.f8 (upd_ne (by decide) h)
  f9 := fun h => I.f9 (upd_ne (by decide) h)
  f10 := fun h => I.f10 (upd_ne (by decide) h)
  f11 := fun h => I.f11 (upd_ne (by decide) h)
  f12 := fun h => I.f12 (upd_ne (by decide) h)
  f13 := fun h => I.f13 (upd_ne (by decide) h)
  f14 := fun _ => hv
  f15 := fun h => I.f15 (upd_ne (by decide) h)
  f16 := fun h => I.f16 (upd_ne (by decide) h)
  f17 := fun h => (I.f17 (upd_ne (by decide) h)).imp fun g hg => ⟨hg.1, fun h' => hg.2 (upd_nf h')⟩
  f18 := fun h => I.f18 (upd_ne (by decide) h)
  f19 := fun h => I.f19 (upd_ne (by decide) h)

theorem OwJ.s19 {wr : World} {B x y k b off n sc0 : Nat} {so : Option Addr} {sc : Nat} {cs : List Value} {name : ByteArray} {tq : Option Addr} {tc : Nat} {tbl : List Int} {v0 v1 v3 : Value} {d : Nat → Bool} {w : World} {s26 s27 s28 s29 s30 s31 s32 s33 s34 s35 s36 s37 s38 s39 s40 s41 s42 s43 s44 s45 v : Value} (I : OwJ wr B x y k b off n sc0 so sc cs name tq tc tbl v0 v1 v3 d w s26 s27 s28 s29 s30 s31 s32 s33 s34 s35 s36 s37 s38 s39 s40 s41 s42 s43 s44 s45) (hd : d 19 = false) (hv : v = .pointer (some ⟨y, 2, none⟩)) : OwJ wr B x y k b off n sc0 so sc cs name tq tc tbl v0 v1 v3 (updD d 19) w s26 s27 s28 s29 s30 s31 s32 s33 s34 s35 s36 s37 s38 s39 s40 s41 s42 s43 s44 v where
  b0 := fun h => I.b0 (upd_nf h)
  b1 := fun h => I.b1 (upd_nf h)
  b2 := fun h => I.b2 (upd_ne (by decide) h)
  f0 := fun h => I.f0 (upd_ne (by decide) h)
  f1 := fun h => I.f1 (upd_ne (by decide) h)
  f2 := fun h => I.f2 (upd_ne (by decide) h)
  f3 := fun h => I.f3 (upd_ne (by decide) h)
  f4 := fun h => I.f4 (upd_ne (by decide) h)
  f5 := fun h => I.f5 (upd_ne (by decide) h)
  f6 := fun h => I.f6 (upd_ne (by decide) h)
  f7 := fun h => I.f7 (upd_ne (by decide) h)
  f8 := fun h => I.f8 (upd_ne (by decide) h)
  f9 := fun h => I.f9 (upd_ne (by decide) h)
  f10 := fun h => I.f10 (upd_ne (by decide) h)
  f11 := fun h => I.f11 (upd_ne (by decide) h)
  f12 := fun h => I.f12 (upd_ne (by decide) h)
  f13 := fun h => I.f13 (upd_ne (by decide) h)
  f14 := fun h => I.f14 (upd_ne (by decide) h)
  f15 := fun h => I.f15 (upd_ne (by decide) h)
  f16 := fun h => I.f16 (upd_ne (by decide) h)
  f17 := fun h => (I.f17 (upd_ne (by decide) h)).imp fun g hg => ⟨hg.1, fun h' => hg.2 (upd_nf h')⟩
  f18 := fun h => I.f18 (upd_ne (by decide) h)
  f19 := fun _ => hv

theorem OwJ.s15 {wr : World} {B x y k b off n sc0 : Nat} {so : Option Addr} {sc : Nat} {cs : List Value} {name : ByteArray} {tq : Option Addr} {tc : Nat} {tbl : List Int} {v0 v1 v3 : Value} {d : Nat → Bool} {w w2 : World} {s26 s27 s28 s29 s30 s31 s32 s33 s34 s35 s36 s37 s38 s39 s40 s41 s42 s43 s44 s45 v : Value} (I : OwJ wr B x y k b off n sc0 so sc cs name tq tc tbl v0 v1 v3 d w s26 s27 s28 s29 s30 s31 s32 s33 s34 s35 s36 s37 s38 s39 s40 s41 s42 s43 s44 s45) (hd : d 15 = false) (h18 : d 18 = false) (h20 : d 20 = false) (hb : Below w.heap.size w w2) (h16 : d 16 = false) (h17 : d 17 = false) (hv : OwnN w2 w.heap.size v tbl) : OwJ wr B x y k b off n sc0 so sc cs name tq tc tbl v0 v1 v3 (updD d 15) w2 s26 s27 s28 s29 s30 s31 s32 s33 s34 s35 s36 s37 s38 s39 s40 v s42 s43 s44 s45 where
  b0 := fun h => fr (I.b0 h18) hb
  b1 := fun h => (I.b1 h20).trans (Keep.of_below hb)
  b2 := fun h => no_d (upd_ne (by decide) h) h20
  f0 := fun h => I.f0 (upd_ne (by decide) h)
  f1 := fun h => I.f1 (upd_ne (by decide) h)
  f2 := fun h => I.f2 (upd_ne (by decide) h)
  f3 := fun h => I.f3 (upd_ne (by decide) h)
  f4 := fun h => I.f4 (upd_ne (by decide) h)
  f5 := fun h => I.f5 (upd_ne (by decide) h)
  f6 := fun h => I.f6 (upd_ne (by decide) h)
  f7 := fun h => I.f7 (upd_ne (by decide) h)
  f8 := fun h => I.f8 (upd_ne (by decide) h)
  f9 := fun h => I.f9 (upd_ne (by decide) h)
  f10 := fun h => I.f10 (upd_ne (by decide) h)
  f11 := fun h => I.f11 (upd_ne (by decide) h)
  f12 := fun h => I.f12 (upd_ne (by decide) h)
  f13 := fun h => I.f13 (upd_ne (by decide) h)
  f14 := fun h => I.f14 (upd_ne (by decide) h)
  f15 := fun _ => hv.base (I.b0 h18).size
  f16 := fun h => no_d (upd_ne (by decide) h) h16
  f17 := fun h => no_d (upd_ne (by decide) h) h17
  f18 := fun h => no_d (upd_ne (by decide) h) h18
  f19 := fun h => I.f19 (upd_ne (by decide) h)

theorem OwJ.s16 {wr : World} {B x y k b off n sc0 : Nat} {so : Option Addr} {sc : Nat} {cs : List Value} {name : ByteArray} {tq : Option Addr} {tc : Nat} {tbl : List Int} {v0 v1 v3 : Value} {d : Nat → Bool} {w : World} {s26 s27 s28 s29 s30 s31 s32 s33 s34 s35 s36 s37 s38 s39 s40 s41 s42 s43 s44 s45 v : Value} (I : OwJ wr B x y k b off n sc0 so sc cs name tq tc tbl v0 v1 v3 d w s26 s27 s28 s29 s30 s31 s32 s33 s34 s35 s36 s37 s38 s39 s40 s41 s42 s43 s44 s45) (hd : d 16 = false) (hv : v = .agg #[.string name, s41]) : OwJ wr B x y k b off n sc0 so sc cs name tq tc tbl v0 v1 v3 (updD d 16) w s26 s27 s28 s29 s30 s31 s32 s33 s34 s35 s36 s37 s38 s39 s40 s41 v s43 s44 s45 where
  b0 := fun h => I.b0 (upd_nf h)
  b1 := fun h => I.b1 (upd_nf h)
  b2 := fun h => I.b2 (upd_ne (by decide) h)
  f0 := fun h => I.f0 (upd_ne (by decide) h)
  f1 := fun h => I.f1 (upd_ne (by decide) h)
  f2 := fun h => I.f2 (upd_ne (by decide) h)
  f3 := fun h => I.f3 (upd_ne (by decide) h)
  f4 := fun h => I.f4 (upd_ne (by decide) h)
  f5 := fun h => I.f5 (upd_ne (by decide) h)
  f6 := fun h => I.f6 (upd_ne (by decide) h)
  f7 := fun h => I.f7 (upd_ne (by decide) h)
  f8 := fun h => I.f8 (upd_ne (by decide) h)
  f9 := fun h => I.f9 (upd_ne (by decide) h)
  f10 := fun h => I.f10 (upd_ne (by decide) h)
  f11 := fun h => I.f11 (upd_ne (by decide) h)
  f12 := fun h => I.f12 (upd_ne (by decide) h)
  f13 := fun h => I.f13 (upd_ne (by decide) h)
  f14 := fun h => I.f14 (upd_ne (by decide) h)
  f15 := fun h => I.f15 (upd_ne (by decide) h)
  f16 := fun _ => hv
  f17 := fun h => (I.f17 (upd_ne (by decide) h)).imp fun g hg => ⟨hg.1, fun h' => hg.2 (upd_nf h')⟩
  f18 := fun h => I.f18 (upd_ne (by decide) h)
  f19 := fun h => I.f19 (upd_ne (by decide) h)

theorem OwJ.s17 {wr : World} {B x y k b off n sc0 : Nat} {so : Option Addr} {sc : Nat} {cs : List Value} {name : ByteArray} {tq : Option Addr} {tc : Nat} {tbl : List Int} {v0 v1 v3 : Value} {d : Nat → Bool} {w w2 : World} {s26 s27 s28 s29 s30 s31 s32 s33 s34 s35 s36 s37 s38 s39 s40 s41 s42 s43 s44 s45 v : Value} (I : OwJ wr B x y k b off n sc0 so sc cs name tq tc tbl v0 v1 v3 d w s26 s27 s28 s29 s30 s31 s32 s33 s34 s35 s36 s37 s38 s39 s40 s41 s42 s43 s44 s45) (hd : d 17 = false) (h18 : d 18 = false) (h20 : d 20 = false) (hb : Below w.heap.size w w2) {g : Nat} (hv : v = .slice (some ⟨g, 0, none⟩) 1 1) (hn : w2.heap[g]? = some (.cells #[.string name, s41] 66 (0, 0))) : OwJ wr B x y k b off n sc0 so sc cs name tq tc tbl v0 v1 v3 (updD d 17) w2 s26 s27 s28 s29 s30 s31 s32 s33 s34 s35 s36 s37 s38 s39 s40 s41 s42 v s44 s45 where
  b0 := fun h => fr (I.b0 h18) hb
  b1 := fun h => (I.b1 h20).trans (Keep.of_below hb)
  b2 := fun h => no_d (upd_ne (by decide) h) h20
  f0 := fun h => I.f0 (upd_ne (by decide) h)
  f1 := fun h => I.f1 (upd_ne (by decide) h)
  f2 := fun h => I.f2 (upd_ne (by decide) h)
  f3 := fun h => I.f3 (upd_ne (by decide) h)
  f4 := fun h => I.f4 (upd_ne (by decide) h)
  f5 := fun h => I.f5 (upd_ne (by decide) h)
  f6 := fun h => I.f6 (upd_ne (by decide) h)
  f7 := fun h => I.f7 (upd_ne (by decide) h)
  f8 := fun h => I.f8 (upd_ne (by decide) h)
  f9 := fun h => I.f9 (upd_ne (by decide) h)
  f10 := fun h => I.f10 (upd_ne (by decide) h)
  f11 := fun h => I.f11 (upd_ne (by decide) h)
  f12 := fun h => I.f12 (upd_ne (by decide) h)
  f13 := fun h => I.f13 (upd_ne (by decide) h)
  f14 := fun h => I.f14 (upd_ne (by decide) h)
  f15 := fun h => (I.f15 (upd_ne (by decide) h)).below hb
  f16 := fun h => I.f16 (upd_ne (by decide) h)
  f17 := fun _ => ⟨g, hv, fun _ => hn⟩
  f18 := fun h => no_d (upd_ne (by decide) h) h18
  f19 := fun h => I.f19 (upd_ne (by decide) h)

theorem OwJ.s18 {wr : World} {B x y k b off n sc0 : Nat} {so : Option Addr} {sc : Nat} {cs : List Value} {name : ByteArray} {tq : Option Addr} {tc : Nat} {tbl : List Int} {v0 v1 v3 : Value} {d : Nat → Bool} {w w2 : World} {s26 s27 s28 s29 s30 s31 s32 s33 s34 s35 s36 s37 s38 s39 s40 s41 s42 s43 s44 s45 v : Value} (I : OwJ wr B x y k b off n sc0 so sc cs name tq tc tbl v0 v1 v3 d w s26 s27 s28 s29 s30 s31 s32 s33 s34 s35 s36 s37 s38 s39 s40 s41 s42 s43 s44 s45) (hd : d 18 = false) (h20 : d 20 = false) (hk : Keep (Own (.slice so k sc)) w w2) {g2 cap2 : Nat} (hv : v = .slice (some ⟨g2, 0, none⟩) (k + 1) cap2) (ho : w2.ownsRow B 66 2 (.slice (some ⟨g2, 0, none⟩) (k + 1) cap2) (k + 1) (cs ++ [.string name, s41])) (ha : OwnN w wr.heap.size s41 tbl → ∀ g, Own s41 g → ¬ Own (.slice so k sc) g) : OwJ wr B x y k b off n sc0 so sc cs name tq tc tbl v0 v1 v3 (updD d 18) w2 s26 s27 s28 s29 s30 s31 s32 s33 s34 s35 s36 s37 s38 s39 s40 s41 s42 s43 v s45 where
  b0 := fun h => no_d (k := 18) upd_at h
  b1 := fun h => (I.b1 h20).trans hk
  b2 := fun h => no_d (upd_ne (by decide) h) h20
  f0 := fun h => I.f0 (upd_ne (by decide) h)
  f1 := fun h => I.f1 (upd_ne (by decide) h)
  f2 := fun h => I.f2 (upd_ne (by decide) h)
  f3 := fun h => I.f3 (upd_ne (by decide) h)
  f4 := fun h => I.f4 (upd_ne (by decide) h)
  f5 := fun h => I.f5 (upd_ne (by decide) h)
  f6 := fun h => I.f6 (upd_ne (by decide) h)
  f7 := fun h => I.f7 (upd_ne (by decide) h)
  f8 := fun h => I.f8 (upd_ne (by decide) h)
  f9 := fun h => I.f9 (upd_ne (by decide) h)
  f10 := fun h => I.f10 (upd_ne (by decide) h)
  f11 := fun h => I.f11 (upd_ne (by decide) h)
  f12 := fun h => I.f12 (upd_ne (by decide) h)
  f13 := fun h => I.f13 (upd_ne (by decide) h)
  f14 := fun h => I.f14 (upd_ne (by decide) h)
  f15 := fun h => (I.f15 (upd_ne (by decide) h)).keep hk (ha (I.f15 (upd_ne (by decide) h)))
  f16 := fun h => I.f16 (upd_ne (by decide) h)
  f17 := fun h => (I.f17 (upd_ne (by decide) h)).imp fun g hg => ⟨hg.1, fun h' => no_d (k := 18) upd_at h'⟩
  f18 := fun _ => ⟨g2, cap2, hv, ho⟩
  f19 := fun h => I.f19 (upd_ne (by decide) h)

theorem OwJ.s20 {wr : World} {B x y k b off n sc0 : Nat} {so : Option Addr} {sc : Nat} {cs : List Value} {name : ByteArray} {tq : Option Addr} {tc : Nat} {tbl : List Int} {v0 v1 v3 : Value} {d : Nat → Bool} {w w2 : World} {s26 s27 s28 s29 s30 s31 s32 s33 s34 s35 s36 s37 s38 s39 s40 s41 s42 s43 s44 s45 : Value} (I : OwJ wr B x y k b off n sc0 so sc cs name tq tc tbl v0 v1 v3 d w s26 s27 s28 s29 s30 s31 s32 s33 s34 s35 s36 s37 s38 s39 s40 s41 s42 s43 s44 s45) (hd : d 20 = false) (p18 : d 18 = true) (hk : Keep (fun g => g = y) w w2) (hn : VarM w2 y 29 v0 v1 s44 v3) (hx : ∃ c, w.heap[y]? = some (.cells c 29 (0, 0))) : OwJ wr B x y k b off n sc0 so sc cs name tq tc tbl v0 v1 v3 (updD d 20) w2 s26 s27 s28 s29 s30 s31 s32 s33 s34 s35 s36 s37 s38 s39 s40 s41 s42 s43 s44 s45 where
  b0 := fun h => no_d p18 (upd_nf h)
  b1 := fun h => no_d (k := 20) upd_at h
  b2 := fun h => ⟨((I.b1 hd).mono (fun g h => .inl h)).trans (hk.mono (fun g h => .inr h)), hn⟩
  f0 := fun h => I.f0 (upd_ne (by decide) h)
  f1 := fun h => I.f1 (upd_ne (by decide) h)
  f2 := fun h => I.f2 (upd_ne (by decide) h)
  f3 := fun h => I.f3 (upd_ne (by decide) h)
  f4 := fun h => I.f4 (upd_ne (by decide) h)
  f5 := fun h => I.f5 (upd_ne (by decide) h)
  f6 := fun h => I.f6 (upd_ne (by decide) h)
  f7 := fun h => I.f7 (upd_ne (by decide) h)
  f8 := fun h => I.f8 (upd_ne (by decide) h)
  f9 := fun h => I.f9 (upd_ne (by decide) h)
  f10 := fun h => I.f10 (upd_ne (by decide) h)
  f11 := fun h => I.f11 (upd_ne (by decide) h)
  f12 := fun h => I.f12 (upd_ne (by decide) h)
  f13 := fun h => I.f13 (upd_ne (by decide) h)
  f14 := fun h => I.f14 (upd_ne (by decide) h)
  f15 := fun h => (I.f15 (upd_ne (by decide) h)).keep hk (fun g hg e => (I.f15 (upd_ne (by decide) h)).other hx.choose_spec (by decide) (e ▸ hg))
  f16 := fun h => I.f16 (upd_ne (by decide) h)
  f17 := fun h => (I.f17 (upd_ne (by decide) h)).imp fun g hg => ⟨hg.1, fun h' => no_d p18 (upd_nf h')⟩
  f18 := fun h => by
    obtain ⟨g2, cap2, hv, ho⟩ := I.f18 p18
    obtain ⟨c, hc⟩ := hx
    have h1 : OwnR w B 66 2 (.slice (some ⟨g2, 0, none⟩) (k + 1) cap2) (k + 1) (cs ++ [.string name, s41]) := .inr ⟨by omega, ho⟩
    refine ⟨g2, cap2, hv, (h1.keep hk (fun g hg e => h1.other hc (by decide) (e ▸ hg))).row (by omega)⟩
  f19 := fun h => I.f19 (upd_ne (by decide) h)

abbrev ownG (t0 t1 t2 t3 t4 t5 t6 t7 t8 t9 t10 t11 t12 t13 t14 t15 t16 t17 t18 t19 t20 t21 t22 t23 t24 t25 s26 s27 s28 s29 s30 s31 s32 s33 s34 s35 s36 s37 s38 s39 s40 s41 s42 s43 s44 s45 t46 : Value) : Act := ⟨#[t0, t1, t2, t3, t4, t5, t6, t7, t8, t9, t10, t11, t12, t13, t14, t15, t16, t17, t18, t19, t20, t21, t22, t23, t24, t25, s26, s27, s28, s29, s30, s31, s32, s33, s34, s35, s36, s37, s38, s39, s40, s41, s42, s43, s44, s45, t46], []⟩

theorem ownG_region {P : Program} {id : Nat} {Q : Exit → Act → World → Prop} {l : List Oper} {t0 t1 t2 t3 t4 t5 t6 t7 t8 t9 t10 t11 t12 t13 t14 t15 t16 t17 t18 t19 t20 t21 t22 t23 t24 t25 t46 s26 s27 s28 s29 s30 s31 s32 s33 s34 s35 s36 s37 s38 s39 s40 s41 s42 s43 s44 s45 : Value} {W : World} (J : (Nat → Bool) → World → Value → Value → Value → Value → Value → Value → Value → Value → Value → Value → Value → Value → Value → Value → Value → Value → Value → Value → Value → Value →  Prop) (hm : P.follows .mixedOrders = true) (hl : linB l = true)
    (hg : ∀ (i : Nat) (o : Oper), l[i]? = some o → o.guard = none) (h0 : J (fun _ => false) { W with drawn := W.drawn + 1 } s26 s27 s28 s29 s30 s31 s32 s33 s34 s35 s36 s37 s38 s39 s40 s41 s42 s43 s44 s45)
    (hs : ∀ (d : Nat → Bool) (w : World) (i : Nat) (o : Oper) (r26 r27 r28 r29 r30 r31 r32 r33 r34 r35 r36 r37 r38 r39 r40 r41 r42 r43 r44 r45 : Value), Closed l d → J d w r26 r27 r28 r29 r30 r31 r32 r33 r34 r35 r36 r37 r38 r39 r40 r41 r42 r43 r44 r45 → l[i]? = some o → d i = false → (∀ e ∈ o.after, Region.binds .any e = true → d e.on = true) → ∀ K : Act → World → Prop, (∀ (w' : World) (q26 q27 q28 q29 q30 q31 q32 q33 q34 q35 q36 q37 q38 q39 q40 q41 q42 q43 q44 q45 : Value), J (updD d i) w' q26 q27 q28 q29 q30 q31 q32 q33 q34 q35 q36 q37 q38 q39 q40 q41 q42 q43 q44 q45 → K (ownG t0 t1 t2 t3 t4 t5 t6 t7 t8 t9 t10 t11 t12 t13 t14 t15 t16 t17 t18 t19 t20 t21 t22 t23 t24 t25 q26 q27 q28 q29 q30 q31 q32 q33 q34 q35 q36 q37 q38 q39 q40 q41 q42 q43 q44 q45 t46) w') → o.wp P (ownG t0 t1 t2 t3 t4 t5 t6 t7 t8 t9 t10 t11 t12 t13 t14 t15 t16 t17 t18 t19 t20 t21 t22 t23 t24 t25 r26 r27 r28 r29 r30 r31 r32 r33 r34 r35 r36 r37 r38 r39 r40 r41 r42 r43 r44 r45 t46) w K Q)
    (he : ∀ (d : Nat → Bool) (w : World) (r26 r27 r28 r29 r30 r31 r32 r33 r34 r35 r36 r37 r38 r39 r40 r41 r42 r43 r44 r45 : Value), J d w r26 r27 r28 r29 r30 r31 r32 r33 r34 r35 r36 r37 r38 r39 r40 r41 r42 r43 r44 r45 → (∀ i, i < l.length → d i = true) → Q .normal (ownG t0 t1 t2 t3 t4 t5 t6 t7 t8 t9 t10 t11 t12 t13 t14 t15 t16 t17 t18 t19 t20 t21 t22 t23 t24 t25 r26 r27 r28 r29 r30 r31 r32 r33 r34 r35 r36 r37 r38 r39 r40 r41 r42 r43 r44 r45 t46) w) : (Code.region id l.toArray true).wp P Q (ownG t0 t1 t2 t3 t4 t5 t6 t7 t8 t9 t10 t11 t12 t13 t14 t15 t16 t17 t18 t19 t20 t21 t22 t23 t24 t25 s26 s27 s28 s29 s30 s31 s32 s33 s34 s35 s36 s37 s38 s39 s40 s41 s42 s43 s44 s45 t46) W := by
  refine wp_region_inv2 (fun d f w => ∃ r26 r27 r28 r29 r30 r31 r32 r33 r34 r35 r36 r37 r38 r39 r40 r41 r42 r43 r44 r45, f = ownG t0 t1 t2 t3 t4 t5 t6 t7 t8 t9 t10 t11 t12 t13 t14 t15 t16 t17 t18 t19 t20 t21 t22 t23 t24 t25 r26 r27 r28 r29 r30 r31 r32 r33 r34 r35 r36 r37 r38 r39 r40 r41 r42 r43 r44 r45 t46 ∧ J d w r26 r27 r28 r29 r30 r31 r32 r33 r34 r35 r36 r37 r38 r39 r40 r41 r42 r43 r44 r45) hm hl hg ⟨s26, s27, s28, s29, s30, s31, s32, s33, s34, s35, s36, s37, s38, s39, s40, s41, s42, s43, s44, s45, rfl, h0⟩ ?_ ?_
  · intro d f w i o hc hI ho hd hp K hK
    obtain ⟨r26, r27, r28, r29, r30, r31, r32, r33, r34, r35, r36, r37, r38, r39, r40, r41, r42, r43, r44, r45, rfl, hJ⟩ := hI
    exact hs d w i o r26 r27 r28 r29 r30 r31 r32 r33 r34 r35 r36 r37 r38 r39 r40 r41 r42 r43 r44 r45 hc hJ ho hd hp K (fun w' q26 q27 q28 q29 q30 q31 q32 q33 q34 q35 q36 q37 q38 q39 q40 q41 q42 q43 q44 q45 hJ' => hK _ _ ⟨q26, q27, q28, q29, q30, q31, q32, q33, q34, q35, q36, q37, q38, q39, q40, q41, q42, q43, q44, q45, rfl, hJ'⟩)
  · intro d f w hI hall
    obtain ⟨r26, r27, r28, r29, r30, r31, r32, r33, r34, r35, r36, r37, r38, r39, r40, r41, r42, r43, r44, r45, rfl, hJ⟩ := hI
    exact he d w r26 r27 r28 r29 r30 r31 r32 r33 r34 r35 r36 r37 r38 r39 r40 r41 r42 r43 r44 r45 hJ hall

structure OwL (W0 : World) (y : Nat) (m : Img) (q8 : Option Addr) (c8 : Nat) (q12 : Option Addr) (c12 : Nat) (q17 : Option Addr) (c17 : Nat) (w : World) (k : Nat) (so : Option Addr) (sc : Nat) (ts : List Value) : Prop where
  b : Below W0.heap.size W0 w
  v : VarM w y 29 (.slice q8 m.refs.length c8) (.slice q12 m.table.length c12) (.slice so k sc) (.slice q17 m.data.length c17)
  l : ts.length = k
  s : OwnR w W0.heap.size 66 2 (.slice so k sc) k (snC (m.snaps.take k) ts)
  r : OwnA w W0.heap.size ((.slice q8 m.refs.length c8, m.refs) :: (.slice q12 m.table.length c12, m.table) :: (.slice q17 m.data.length c17, m.data) :: ts.zip ((m.snaps.take k).map (·.table)))
theorem OwnA.add {w : World} {B n : Nat} {rs : List (Value × List Int)} {v : Value} {xs : List Int} (h : OwnA w B rs) (hlt : ∀ r ∈ rs, ∀ g, Own r.1 g → g < n) (hv : OwnN w n v xs) (hB : B ≤ n) : OwnA w B (rs ++ [(v, xs)]) := by
  refine ⟨fun r hr => ?_, ?_⟩
  · rcases List.mem_append.1 hr with h1 | h1
    · exact h.own r h1
    · rw [List.mem_singleton] at h1
      subst h1
      exact hv.base hB
  · rw [List.pairwise_append]
    refine ⟨h.apart, List.pairwise_singleton _ _, fun a ha b hb' g hg hg' => ?_⟩
    rw [List.mem_singleton] at hb'
    subst hb'
    have h1 := hlt a ha g hg
    have h2 := (hv.ge g hg').1
    omega
theorem OwL.next {W0 wr w : World} {y k : Nat} {m : Img} {q8 q12 q17 so : Option Addr} {c8 c12 c17 sc g2 cap2 : Nat} {ts : List Value} {t : Value} (h : OwL W0 y m q8 c8 q12 c12 q17 c17 wr k so sc ts) (hy : W0.heap.size ≤ y) (hk : k < m.snaps.length) (hK : Keep (fun g => Own (.slice so k sc) g ∨ g = y) wr w)
    (hv : VarM w y 29 (.slice q8 m.refs.length c8) (.slice q12 m.table.length c12) (.slice (some ⟨g2, 0, none⟩) (k + 1) cap2) (.slice q17 m.data.length c17)) (ho : w.ownsRow W0.heap.size 66 2 (.slice (some ⟨g2, 0, none⟩) (k + 1) cap2) (k + 1) (snC (m.snaps.take k) ts ++ [.string m.snaps[k].name, t])) (ht : OwnN w wr.heap.size t m.snaps[k].table) :
    OwL W0 y m q8 c8 q12 c12 q17 c17 w (k + 1) (some ⟨g2, 0, none⟩) cap2 (ts ++ [t]) where
  b := h.b.trans (hK.below h.b.size (fun g hg => by
    rcases hg with hg | rfl
    · exact (h.s.ge g hg).1
    · exact hy))
  v := hv
  l := by rw [List.length_append, h.l]; rfl
  s := by
    rw [List.take_succ_eq_append_getElem hk, snC_snoc _ _ _ _ (by rw [List.length_take, h.l]; omega)]
    exact .inr ⟨by omega, ho⟩
  r := by
    have e : (ts ++ [t]).zip ((m.snaps.take (k + 1)).map (·.table)) = ts.zip ((m.snaps.take k).map (·.table)) ++ [(t, m.snaps[k].table)] := by
      rw [List.take_succ_eq_append_getElem hk, List.map_append, List.zip_append (by rw [List.length_map, List.length_take, h.l]; omega)]
      rfl
    rw [e]
    have h1 := h.r.keep hK (fun r hr g hg hS => by
      rcases hS with hS | rfl
      · exact own_apart (h.r.own r hr).row h.s (by decide) g hg hS
      · exact (h.r.own r hr).other h.v (by decide) hg)
    exact h1.add (fun r hr g hg => ((h.r.own r hr).ge g hg).2) ht h.b.size

end Go.Proofs.Ytjoafbkcnnhdiac

namespace Go.Proofs.Ytjoafbkcnnhdiac
open Go.RowKit
set_option linter.unusedVariables false
set_option maxRecDepth 100000

theorem wp_append_fresh {P : Program} {o : Oper} {a : Act} {w : World} {K : Act → World → Prop} {Q : Exit → Act → World → Prop}
    (hg : o.guard = none) (s x : Operand) (t : TypeId) (hop : o.op = Op.call { callee := Callee.builtin Builtin.append, args := #[s, x], argTypes := #[t, t] })
    (e : TypeId) (i : TypeInfo) (z : Value) (size bytes : Nat) (h1 : P.underlying t = some (.slice e)) (h2 : P.info? e = some i) (h3 : i.zero = some z) (h4 : i.size = size) (h5 : i.bytes = bytes) (h6 : z.cells.size = size) (h7 : 0 < size)
    (hs0 : isFresh (a.eval s) = true) (so : Option Addr) (m c : Nat) (news : List Value) (hx : a.eval x = .slice so m c) (hn : news.length = m * size)
    (hc : 0 < m → ∃ ad, so = some ad ∧ ∀ j u, news[j]? = some u → w.cell? (ad.add j) = some u) (b1 : m ≤ maxLen) (b2 : m * bytes ≤ 140737488355328)
    (hK : ∀ ao cap w', OwnR w' w.heap.size e size (.slice ao m cap) m news → w.grownBy w' none → K (a.put o.dst (.slice ao m cap)) w') : o.wp P a w K Q := by
  have := step_append_fresh (P := P) (ops := #[]) (o := o) (a := a) (w := w) (K := K) (Q := Q) (E := True) hg s x t hop e i z size bytes h1 h2 h3 h4 h5 h6 h7 hs0 so m c news hx hn hc b1 b2 hK
  rwa [if_pos (by simp [Region.wanted, hg])] at this

theorem snap_news {w : World} {g : Nat} {n : ByteArray} {v : Value} {t : TypeId} (h : w.heap[g]? = some (.cells #[.string n, v] t (0, 0))) : ∀ j u, [Value.string n, v][j]? = some u → w.cell? ((⟨g, 0, none⟩ : Addr).add j) = some u := by
  intro j u hu
  have hj : j < 2 := (List.getElem?_eq_some_iff.1 hu).1
  rcases (show j = 0 ∨ j = 1 by omega) with rfl | rfl
  · simp at hu
    subst hu
    rw [show (⟨g, 0, none⟩ : Addr).add 0 = ⟨g, 0, none⟩ from rfl, Joins.cell_of_block h]; rfl
  · simp at hu
    subst hu
    rw [show (⟨g, 0, none⟩ : Addr).add 1 = ⟨g, 1, none⟩ from rfl, Joins.cell_of_block h]; rfl
theorem snap_one (n : ByteArray) (q : Option Addr) (l c : Nat) : ∀ u ∈ [Value.string n, .slice q l c], u.oneCell' = true := by
  intro u hu
  simp at hu
  rcases hu with rfl | rfl <;> rfl
theorem wp_append_one {P : Program} {w : World} {o : Oper} {a : Act} {K : Act → World → Prop} {Q : Exit → Act → World → Prop} (hgd : o.guard = none) (s x : Operand) (t : TypeId)
    (ho : o.op = .call { callee := .builtin .append, args := #[s, x], argTypes := #[t, t] })
    (B : Nat) (e : TypeId) (i : TypeInfo) (z : Value) (size bytes : Nat) (ht : P.underlying t = some (.slice e)) (hi : P.info? e = some i) (hz : i.zero = some z)
    (hsize : i.size = size) (hby : i.bytes = bytes) (hzs : z.cells.size = size) (hsz : 0 < size)
    (qo : Option Addr) (n cap : Nat) (xs : List Value) (hs : a.eval s = .slice qo n cap) (h : OwnR w B e size (.slice qo n cap) n xs) (hB : B ≤ w.heap.size)
    (ad : Addr) (c : Nat) (news : List Value) (hx : a.eval x = .slice (some ad) 1 c) (hl : news.length = size) (hnews : ∀ j u, news[j]? = some u → w.cell? (ad.add j) = some u) (h1 : ∀ u ∈ news, u.oneCell' = true)
    (b1 : n + 1 ≤ maxLen) (b2 : (n + 1) * bytes ≤ 140737488355328)
    (hK : ∀ g cap' w', w'.ownsRow B e size (.slice (some ⟨g, 0, none⟩) (n + 1) cap') (n + 1) (xs ++ news) → Keep (Own (.slice qo n cap)) w w' → K (a.put o.dst (.slice (some ⟨g, 0, none⟩) (n + 1) cap')) w') : o.wp P a w K Q := by
  have := step_append_one (P := P) (ops := #[]) (o := o) (a := a) (w := w) (K := K) (Q := Q) (E := True) hgd s x t ho B e i z size bytes ht hi hz hsize hby hzs hsz qo n cap xs hs h hB ad c news hx hl hnews h1 b1 b2 hK
  rwa [if_pos (by simp [Region.wanted, hgd])] at this

set_option maxHeartbeats 6400000 in
theorem l10Own_full (a : Im4) (m : Img) (w : World) (hL : m.refs.length ≤ 1048576 ∧ m.table.length ≤ 1048576 ∧ m.data.length ≤ 1048576) (hst : ∀ s ∈ m.snaps, s.table.length ≤ 1048576) (hs1 : m.snaps.length ≤ 1048576) (hc : ImS w a m) :
    Calls Try.prog 24 #[imV a m] w fun e w' => ∃ a' ts, e = .returned (imV a' m) ∧ OwnF w' w.heap.size a' m ts ∧ Below w.heap.size w w' := by
  have HA := hide (Joins.below_alloc2 w (.cells #[.slice a.ro m.refs.length a.rc, .slice a.tq m.table.length a.tc, .slice a.so m.snaps.length a.sc, .slice a.dq m.data.length a.dc] 29) (.cells #[.slice none 0 0, .slice none 0 0, .slice none 0 0, .slice none 0 0] 29))
  have HC := hide (hc.below (unhide HA))
  have HV := hide ((VarM.new w 29 (.slice a.ro m.refs.length a.rc) (.slice a.tq m.table.length a.tc) (.slice a.so m.snaps.length a.sc) (.slice a.dq m.data.length a.dc)).below (Joins.below_alloc1 _ (.cells #[.slice none 0 0, .slice none 0 0, .slice none 0 0, .slice none 0 0] 29)))
  have HR := hide ((VarM.new (w.alloc (.cells #[.slice a.ro m.refs.length a.rc, .slice a.tq m.table.length a.tc, .slice a.so m.snaps.length a.sc, .slice a.dq m.data.length a.dc] 29)) 29 (.slice none 0 0) (.slice none 0 0) (.slice none 0 0) (.slice none 0 0)).at (y := w.heap.size + 1) (by simp))
  have HLL := hide hL
  have HST := hide hst
  clear hc hL hst
  obtain ⟨j0, hj0, hy0, hy1, hy2⟩ := info_parts infoSn
  obtain ⟨i0, hi0, hz0, hz1, hz2⟩ := info_parts infoIn
  go_enter Try.func24, Try.ntmps24
  go_upto_region 1 with fail
  revert HA HC HV HR
  generalize ((w.alloc _).alloc _) = W0
  intro HA HC HV HR
  refine wp_region_inv (OwInv W0 w.heap.size (w.heap.size + 1) a m) (by kernel_rfl) (by kernel_rfl) (noG_spec (by kernel_rfl)) (OwInv.start _ _ _ _ _ _ (Below.refl _ W0).drew) ?hs ?he
  case hs =>
    intro d f wq i o hI ho hd hp K hK
    obtain ⟨s3, s5, s6, s7, s8, s9, s10, s11, s12, s13, s14, s15, s16, s17, s18, rfl, I⟩ := hI
    obtain ⟨cv0, cv1, cv2, cv3⟩ := ((unhide HV).below I.b).cells
    have hi : i < 16 := (List.getElem?_eq_some_iff.1 ho).1
    rcases (show i = 0 ∨ i = 1 ∨ i = 2 ∨ i = 3 ∨ i = 4 ∨ i = 5 ∨ i = 6 ∨ i = 7 ∨ i = 8 ∨ i = 9 ∨ i = 10 ∨ i = 11 ∨ i = 12 ∨ i = 13 ∨ i = 14 ∨ i = 15 by omega) with rfl | rfl | rfl | rfl | rfl | rfl | rfl | rfl | rfl | rfl | rfl | rfl | rfl | rfl | rfl | rfl
    · cases ho
      unfold Oper.wp
      go_simp
      exact hK _ _ ⟨_, _, _, _, _, _, _, _, _, _, _, _, _, _, _, rfl, I.s0 hd (Joins.below_alloc1 _ _) ⟨_, rfl⟩⟩
    · cases ho
      unfold Oper.wp
      go_simp
      exact hK _ _ ⟨_, _, _, _, _, _, _, _, _, _, _, _, _, _, _, rfl, I.s1 hd rfl⟩
    · cases ho
      have p := hp ⟨1, .data⟩ (by simp) rfl
      have e1 := I.f1 p
      subst e1
      unfold Oper.wp
      go_simp
      exact hK _ _ ⟨_, _, _, _, _, _, _, _, _, _, _, _, _, _, _, rfl, I.s2 hd rfl⟩
    · cases ho
      have pa := hp ⟨0, .data⟩ (by simp) rfl
      have pb := hp ⟨2, .data⟩ (by simp) rfl
      obtain ⟨g, rfl⟩ := I.f0 pa
      have e1 := I.f2 pb
      subst e1
      refine wp_append_fresh rfl (.tmp 5) (.tmp 7) 22 rfl 3 i0 (.int .i64 0) 1 8 Try.underlying22 hi0 hz0 hz1 hz2 rfl (by omega) rfl a.ro m.refs.length a.rc (intV m.refs) rfl (by rw [intV_length]; omega) (Is.srcI ((unhide HC).r.below I.b)) (by have := unhide HLL; unfold maxLen; omega) (by have := unhide HLL; omega) ?_
      intro ao cap w2 ho2 hg2
      exact hK _ _ ⟨_, _, _, _, _, _, _, _, _, _, _, _, _, _, _, rfl, I.s3 hd (belowGr (Below.refl _ _) hg2) ⟨ao, cap, rfl, ho2⟩⟩
    · cases ho
      unfold Oper.wp
      go_simp
      exact hK _ _ ⟨_, _, _, _, _, _, _, _, _, _, _, _, _, _, _, rfl, I.s4 hd (Joins.below_alloc1 _ _) ⟨_, rfl⟩⟩
    · cases ho
      unfold Oper.wp
      go_simp
      exact hK _ _ ⟨_, _, _, _, _, _, _, _, _, _, _, _, _, _, _, rfl, I.s5 hd rfl⟩
    · cases ho
      have p := hp ⟨5, .data⟩ (by simp) rfl
      have e1 := I.f5 p
      subst e1
      unfold Oper.wp
      go_simp
      exact hK _ _ ⟨_, _, _, _, _, _, _, _, _, _, _, _, _, _, _, rfl, I.s6 hd rfl⟩
    · cases ho
      have pa := hp ⟨4, .data⟩ (by simp) rfl
      have pb := hp ⟨6, .data⟩ (by simp) rfl
      have pc := hp ⟨3, .chain⟩ (by simp) rfl
      obtain ⟨g, rfl⟩ := I.f4 pa
      have e1 := I.f6 pb
      subst e1
      refine wp_append_fresh rfl (.tmp 9) (.tmp 11) 22 rfl 3 i0 (.int .i64 0) 1 8 Try.underlying22 hi0 hz0 hz1 hz2 rfl (by omega) rfl a.tq m.table.length a.tc (intV m.table) rfl (by rw [intV_length]; omega) (Is.srcI ((unhide HC).t.below I.b)) (by have := unhide HLL; unfold maxLen; omega) (by have := unhide HLL; omega) ?_
      intro ao cap w2 ho2 hg2
      exact hK _ _ ⟨_, _, _, _, _, _, _, _, _, _, _, _, _, _, _, rfl, I.s7 hd (belowGr (Below.refl _ _) hg2) pc ⟨ao, cap, rfl, ho2⟩⟩
    · cases ho
      unfold Oper.wp
      go_simp
      exact hK _ _ ⟨_, _, _, _, _, _, _, _, _, _, _, _, _, _, _, rfl, I.s8 hd (Joins.below_alloc1 _ _) ⟨_, rfl⟩⟩
    · cases ho
      unfold Oper.wp
      go_simp
      exact hK _ _ ⟨_, _, _, _, _, _, _, _, _, _, _, _, _, _, _, rfl, I.s9 hd (Joins.below_alloc1 _ _) ⟨_, rfl⟩⟩
    · cases ho
      unfold Oper.wp
      go_simp
      exact hK _ _ ⟨_, _, _, _, _, _, _, _, _, _, _, _, _, _, _, rfl, I.s10 hd rfl⟩
    · cases ho
      have p := hp ⟨10, .data⟩ (by simp) rfl
      have e1 := I.f10 p
      subst e1
      unfold Oper.wp
      go_simp
      exact hK _ _ ⟨_, _, _, _, _, _, _, _, _, _, _, _, _, _, _, rfl, I.s11 hd rfl⟩
    · cases ho
      have pa := hp ⟨9, .data⟩ (by simp) rfl
      have pb := hp ⟨11, .data⟩ (by simp) rfl
      have pc := hp ⟨7, .chain⟩ (by simp) rfl
      obtain ⟨g, rfl⟩ := I.f9 pa
      have e1 := I.f11 pb
      subst e1
      refine wp_append_fresh rfl (.tmp 14) (.tmp 16) 22 rfl 3 i0 (.int .i64 0) 1 8 Try.underlying22 hi0 hz0 hz1 hz2 rfl (by omega) rfl a.dq m.data.length a.dc (intV m.data) rfl (by rw [intV_length]; omega) (Is.srcI ((unhide HC).d.below I.b)) (by have := unhide HLL; unfold maxLen; omega) (by have := unhide HLL; omega) ?_
      intro ao cap w2 ho2 hg2
      exact hK _ _ ⟨_, _, _, _, _, _, _, _, _, _, _, _, _, _, _, rfl, I.s12 hd (belowGr (Below.refl _ _) hg2) pc ⟨ao, cap, rfl, ho2⟩⟩
    · cases ho
      have p3 := hp ⟨3, .data⟩ (by simp) rfl
      have p7 := hp ⟨7, .data⟩ (by simp) rfl
      have p8 := hp ⟨8, .data⟩ (by simp) rfl
      have p12 := hp ⟨12, .data⟩ (by simp) rfl
      obtain ⟨q8, c8, rfl, _⟩ := I.f3 p3
      obtain ⟨⟨q12, c12, rfl, _⟩, _⟩ := I.f7 p7
      obtain ⟨g13, rfl⟩ := I.f8 p8
      obtain ⟨⟨q17, c17, rfl, _⟩, _⟩ := I.f12 p12
      unfold Oper.wp
      go_simp
      exact hK _ _ ⟨_, _, _, _, _, _, _, _, _, _, _, _, _, _, _, rfl, I.s13 hd p8 p12 rfl⟩
    · cases ho
      unfold Oper.wp
      go_simp
      exact hK _ _ ⟨_, _, _, _, _, _, _, _, _, _, _, _, _, _, _, rfl, I.s14 hd (Joins.below_alloc1 _ _) rfl I.b.size (VarM.new _ _ _ _ _ _)⟩
    · cases ho
      have p13 := hp ⟨13, .data⟩ (by simp) rfl
      have p14 := hp ⟨14, .data⟩ (by simp) rfl
      obtain ⟨p8, p12⟩ := I.c13 p13
      obtain ⟨q8, c8, rfl, _⟩ := I.f3 (I.c7 (I.c12 p12))
      obtain ⟨⟨q12, c12, rfl, _⟩, _⟩ := I.f7 (I.c12 p12)
      obtain ⟨g13, rfl⟩ := I.f8 p8
      obtain ⟨⟨q17, c17, rfl, _⟩, _⟩ := I.f12 p12
      have e18 := I.f13 p13
      subst e18
      obtain ⟨y, rfl, hy, hv⟩ := I.f14 p14 hd
      obtain ⟨y0, y1, y2, y3⟩ := hv.cells
      obtain ⟨z0, z1, z2, z3⟩ := hv.free
      unfold Oper.wp
      go_simp
      exact hK _ _ ⟨_, _, _, _, _, _, _, _, _, _, _, _, _, _, _, rfl, I.s15 hd p13 p14 rfl hy hv (((((Keep.refl (fun k => k = y) wq).setCell (p := ⟨y, 0, none⟩) rfl _).setCell (p := ⟨y, 1, none⟩) rfl _).setCell (p := ⟨y, 2, none⟩) rfl _).setCell (p := ⟨y, 3, none⟩) rfl _) ((((hv.set0 _).set1 _).set2 _).set3 _)⟩
  case he =>
    intro d f wq hI hall
    obtain ⟨s3, s5, s6, s7, s8, s9, s10, s11, s12, s13, s14, s15, s16, s17, s18, rfl, I⟩ := hI
    obtain ⟨q8, c8, e8, o8⟩ := I.f3 (hall 3 (by decide))
    obtain ⟨⟨q12, c12, e12, o12⟩, a12⟩ := I.f7 (hall 7 (by decide))
    obtain ⟨g13, e13⟩ := I.f8 (hall 8 (by decide))
    obtain ⟨⟨q17, c17, e17, o17⟩, a17, b17⟩ := I.f12 (hall 12 (by decide))
    obtain ⟨y, e3, hy, hv⟩ := I.f15 (hall 15 (by decide))
    subst e8 e12 e13 e17 e3
    have HL0 : Hid (OwL W0 y m q8 c8 q12 c12 q17 c17 wq 0 (some ⟨g13, 0, none⟩) 0 []) := hide ⟨I.b, hv, rfl, .inl ⟨rfl, by simp [snC], _, rfl⟩, by
      refine ⟨fun r hr => ?_, ?_⟩
      · simp only [List.zip_nil_left, List.mem_cons, List.not_mem_nil, or_false] at hr
        rcases hr with rfl | rfl | rfl
        · exact ⟨_, _, rfl, o8⟩
        · exact ⟨_, _, rfl, o12⟩
        · exact ⟨_, _, rfl, o17⟩
      · simp only [List.zip_nil_left, List.pairwise_cons, List.mem_cons, List.not_mem_nil, or_false, forall_eq_or_imp, forall_eq, List.Pairwise.nil, and_true]
        exact ⟨⟨a12, a17⟩, b17, fun _ h => h.elim⟩⟩
    have HY := hide hy
    clear o8 o12 a12 o17 a17 b17 hv hy I hall
    go_wp2
    go_loopw [4] (fun i wr => ∃ (k : Nat) (so : Option Addr) (sc : Nat) (ts : List Value), k ≤ m.snaps.length ∧ i = .int .i64 k ∧ Hid (OwL W0 y m q8 c8 q12 c12 q17 c17 wr k so sc ts)) (fun i _ => m.snaps.length - (intOf i).toNat)
    case atStart => exact ⟨0, _, _, _, Nat.zero_le _, rfl, HL0⟩
    case round =>
      clear HL0
      obtain ⟨k, so, sc, ts, hk, rfl, HL⟩ := hrel
      obtain ⟨c0, c1, c2, c3⟩ := (VarM.below (unhide HV) (unhide HL).b).cells
      by_cases hlt : k < m.snaps.length
      · obtain ⟨b, off, tq, tc, eb, hn0, ht0, hIs, hz, htl⟩ := ((unhide HC).s.below (unhide HL).b) k hlt
        have hlti : (k : Int) < (m.snaps.length : Int) := by omega
        have HIS := hide hIs
        have HTL := hide (unhide HST _ (List.getElem_mem hlt))
        have hbl : b < wr.heap.size := World.block_lt_of_cell? _ _ hn0
        clear hIs hz htl
        go_upto_region 5 with fail
        clear c0 c1 c2 c3
        refine ownG_region (fun d wz s26 s27 s28 s29 s30 s31 s32 s33 s34 s35 s36 s37 s38 s39 s40 s41 s42 s43 s44 s45 => OwJ wr W0.heap.size w.heap.size y k b off m.snaps.length a.sc so sc (snC (m.snaps.take k) ts) m.snaps[k].name tq tc m.snaps[k].table (.slice q8 m.refs.length c8) (.slice q12 m.table.length c12) (.slice q17 m.data.length c17) d wz s26 s27 s28 s29 s30 s31 s32 s33 s34 s35 s36 s37 s38 s39 s40 s41 s42 s43 s44 s45) (by kernel_rfl) (by kernel_rfl) (noG_spec (by kernel_rfl)) ?h0 ?hs ?he
        case h0 => exact ⟨fun _ => (Below.refl _ wr).drew, fun _ => Keep.of_below (Below.refl _ wr).drew, fun h => (by cases h), fun h => (by cases h), fun h => (by cases h), fun h => (by cases h), fun h => (by cases h), fun h => (by cases h), fun h => (by cases h), fun h => (by cases h), fun h => (by cases h), fun h => (by cases h), fun h => (by cases h), fun h => (by cases h), fun h => (by cases h), fun h => (by cases h), fun h => (by cases h), fun h => (by cases h), fun h => (by cases h), fun h => (by cases h), fun h => (by cases h), fun h => (by cases h), fun h => (by cases h)⟩
        case hs =>
          intro d wz i o r26 r27 r28 r29 r30 r31 r32 r33 r34 r35 r36 r37 r38 r39 r40 r41 r42 r43 r44 r45 hc I ho hd hp K hK
          have hi : i < 21 := (List.getElem?_eq_some_iff.1 ho).1
          rcases (show i = 0 ∨ i = 1 ∨ i = 2 ∨ i = 3 ∨ i = 4 ∨ i = 5 ∨ i = 6 ∨ i = 7 ∨ i = 8 ∨ i = 9 ∨ i = 10 ∨ i = 11 ∨ i = 12 ∨ i = 13 ∨ i = 14 ∨ i = 15 ∨ i = 16 ∨ i = 17 ∨ i = 18 ∨ i = 19 ∨ i = 20 by omega) with rfl | rfl | rfl | rfl | rfl | rfl | rfl | rfl | rfl | rfl | rfl | rfl | rfl | rfl | rfl | rfl | rfl | rfl | rfl | rfl | rfl
          · cases ho
            unfold Oper.wp
            go_simp
            exact hK _ _ _ _ _ _ _ _ _ _ _ _ _ _ _ _ _ _ _ _ _ (I.s0 hd rfl)
          · cases ho
            have p := hp ⟨0, .data⟩ (by simp) rfl
            have e1 := I.f0 p
            subst e1
            have h18 := not_yet hc 9 (j := 18) (i := 1) (by kernel_rfl) hd
            have cy := (((unhide HL).v.below (I.b0 h18)).cells).2.2.1
            unfold Oper.wp
            go_simp
            exact hK _ _ _ _ _ _ _ _ _ _ _ _ _ _ _ _ _ _ _ _ _ (I.s1 hd rfl)
          · cases ho
            unfold Oper.wp
            go_simp
            exact hK _ _ _ _ _ _ _ _ _ _ _ _ _ _ _ _ _ _ _ _ _ (I.s2 hd rfl)
          · cases ho
            have p := hp ⟨2, .data⟩ (by simp) rfl
            have e1 := I.f2 p
            subst e1
            have h18 := not_yet hc 9 (j := 18) (i := 3) (by kernel_rfl) hd
            have cx := ((VarM.below (VarM.below (unhide HV) (unhide HL).b) (I.b0 h18)).cells).2.2.1
            rw [eb] at cx
            unfold Oper.wp
            go_simp
            exact hK _ _ _ _ _ _ _ _ _ _ _ _ _ _ _ _ _ _ _ _ _ (I.s3 hd rfl)
          · cases ho
            unfold Oper.wp
            go_simp
            exact hK _ _ _ _ _ _ _ _ _ _ _ _ _ _ _ _ _ _ _ _ _ (I.s4 hd rfl)
          · cases ho
            have p := hp ⟨3, .data⟩ (by simp) rfl
            have e1 := I.f3 p
            subst e1
            have p2 := hp ⟨4, .data⟩ (by simp) rfl
            have e2 := I.f4 p2
            subst e2
            unfold Oper.wp
            go_simp
            exact hK _ _ _ _ _ _ _ _ _ _ _ _ _ _ _ _ _ _ _ _ _ (I.s5 hd (by first | rfl | simp))
          · cases ho
            have p := hp ⟨5, .data⟩ (by simp) rfl
            have e1 := I.f5 p
            subst e1
            unfold Oper.wp
            go_simp
            exact hK _ _ _ _ _ _ _ _ _ _ _ _ _ _ _ _ _ _ _ _ _ (I.s6 hd (by first | rfl | simp))
          · cases ho
            have p := hp ⟨6, .data⟩ (by simp) rfl
            have e1 := I.f6 p
            subst e1
            have h18 := not_yet hc 9 (j := 18) (i := 7) (by kernel_rfl) hd
            have cn := ((I.b0 h18).cell (p := ⟨b, off + k * 2, none⟩) hbl).trans hn0
            unfold Oper.wp
            go_simp
            exact hK _ _ _ _ _ _ _ _ _ _ _ _ _ _ _ _ _ _ _ _ _ (I.s7 hd rfl)
          · cases ho
            have h18 := not_yet hc 9 (j := 18) (i := 8) (by kernel_rfl) hd
            have h20 := not_yet hc 9 (j := 20) (i := 8) (by kernel_rfl) hd
            unfold Oper.wp
            go_simp
            exact hK _ _ _ _ _ _ _ _ _ _ _ _ _ _ _ _ _ _ _ _ _ (I.s8 hd h18 h20 (Joins.below_alloc1 _ _) ⟨_, rfl⟩)
          · cases ho
            unfold Oper.wp
            go_simp
            exact hK _ _ _ _ _ _ _ _ _ _ _ _ _ _ _ _ _ _ _ _ _ (I.s9 hd rfl)
          · cases ho
            have p := hp ⟨9, .data⟩ (by simp) rfl
            have e1 := I.f9 p
            subst e1
            have h18 := not_yet hc 9 (j := 18) (i := 10) (by kernel_rfl) hd
            have cx := ((VarM.below (VarM.below (unhide HV) (unhide HL).b) (I.b0 h18)).cells).2.2.1
            rw [eb] at cx
            unfold Oper.wp
            go_simp
            exact hK _ _ _ _ _ _ _ _ _ _ _ _ _ _ _ _ _ _ _ _ _ (I.s10 hd rfl)
          · cases ho
            unfold Oper.wp
            go_simp
            exact hK _ _ _ _ _ _ _ _ _ _ _ _ _ _ _ _ _ _ _ _ _ (I.s11 hd rfl)
          · cases ho
            have p := hp ⟨10, .data⟩ (by simp) rfl
            have e1 := I.f10 p
            subst e1
            have p2 := hp ⟨11, .data⟩ (by simp) rfl
            have e2 := I.f11 p2
            subst e2
            unfold Oper.wp
            go_simp
            exact hK _ _ _ _ _ _ _ _ _ _ _ _ _ _ _ _ _ _ _ _ _ (I.s12 hd (by first | rfl | simp))
          · cases ho
            have p := hp ⟨12, .data⟩ (by simp) rfl
            have e1 := I.f12 p
            subst e1
            unfold Oper.wp
            go_simp
            exact hK _ _ _ _ _ _ _ _ _ _ _ _ _ _ _ _ _ _ _ _ _ (I.s13 hd (by first | rfl | simp))
          · cases ho
            have p := hp ⟨13, .data⟩ (by simp) rfl
            have e1 := I.f13 p
            subst e1
            have h18 := not_yet hc 9 (j := 18) (i := 14) (by kernel_rfl) hd
            have cn := ((I.b0 h18).cell (p := ⟨b, off + k * 2 + 1, none⟩) hbl).trans ht0
            unfold Oper.wp
            go_simp
            exact hK _ _ _ _ _ _ _ _ _ _ _ _ _ _ _ _ _ _ _ _ _ (I.s14 hd rfl)
          · cases ho
            have h18 := not_yet hc 9 (j := 18) (i := 15) (by kernel_rfl) hd
            have h20 := not_yet hc 9 (j := 20) (i := 15) (by kernel_rfl) hd
            have h16 := not_yet hc 9 (j := 16) (i := 15) (by kernel_rfl) hd
            have h17 := not_yet hc 9 (j := 17) (i := 15) (by kernel_rfl) hd
            have pa := hp ⟨8, .data⟩ (by simp) rfl
            have pb := hp ⟨14, .data⟩ (by simp) rfl
            obtain ⟨g, rfl⟩ := I.f8 pa
            have e1 := I.f14 pb
            subst e1
            refine wp_append_fresh rfl (.tmp 34) (.tmp 40) 22 rfl 3 i0 (.int .i64 0) 1 8 Try.underlying22 hi0 hz0 hz1 hz2 rfl (by omega) rfl tq m.snaps[k].table.length tc (intV m.snaps[k].table) rfl (by rw [intV_length]; omega) (Is.srcI ((unhide HIS).below (I.b0 h18))) (by have := unhide HTL; unfold maxLen; omega) (by have := unhide HTL; omega) ?_
            intro ao cap w2 ho2 hg2
            exact hK _ _ _ _ _ _ _ _ _ _ _ _ _ _ _ _ _ _ _ _ _ (I.s15 hd h18 h20 (belowGr (Below.refl _ _) hg2) h16 h17 ⟨ao, cap, rfl, ho2⟩)
          · cases ho
            have p7 := hp ⟨7, .data⟩ (by simp) rfl
            have p15 := hp ⟨15, .data⟩ (by simp) rfl
            have e1 := I.f7 p7
            subst e1
            obtain ⟨q41, c41, e41, _⟩ := I.f15 p15
            subst e41
            unfold Oper.wp
            go_simp
            exact hK _ _ _ _ _ _ _ _ _ _ _ _ _ _ _ _ _ _ _ _ _ (I.s16 hd rfl)
          · cases ho
            have h18 := not_yet hc 9 (j := 18) (i := 17) (by kernel_rfl) hd
            have h20 := not_yet hc 9 (j := 20) (i := 17) (by kernel_rfl) hd
            have p16 := hp ⟨16, .data⟩ (by simp) rfl
            have p15 := reach_done hc (f := 9) (j := 16) (i := 15) (by kernel_rfl) p16
            obtain ⟨q41, c41, e41, _⟩ := I.f15 p15
            subst e41
            have e1 := I.f16 p16
            subst e1
            unfold Oper.wp
            go_simp
            exact hK _ _ _ _ _ _ _ _ _ _ _ _ _ _ _ _ _ _ _ _ _ (I.s17 hd h18 h20 (Joins.below_alloc1 _ _) rfl (heap_alloc_new _ _))
          · cases ho
            have h20 := not_yet hc 9 (j := 20) (i := 18) (by kernel_rfl) hd
            have pa := hp ⟨1, .data⟩ (by simp) rfl
            have pb := hp ⟨17, .data⟩ (by simp) rfl
            have p15 := reach_done hc (f := 9) (j := 17) (i := 15) (by kernel_rfl) pb
            have e1 := I.f1 pa
            subst e1
            obtain ⟨g, rfl, hcell⟩ := I.f17 pb
            have hcl := hcell hd
            have HSR := hide ((unhide HL).s.below (I.b0 hd))
            refine wp_append_one rfl (.tmp 27) (.tmp 43) 27 rfl W0.heap.size 66 j0 (.agg #[.string ⟨#[]⟩, .slice none 0 0]) 2 40 Try.underlying27 hj0 hy0 hy1 hy2 rfl (by omega) so k sc (snC (m.snaps.take k) ts) rfl (unhide HSR) (by have h1 := (unhide HL).b.size; have h2 := (I.b0 hd).size; omega) ⟨g, 0, none⟩ 1 [.string m.snaps[k].name, r41] rfl rfl (snap_news hcl) (by obtain ⟨q41, c41, e41, _⟩ := I.f15 p15; subst e41; exact snap_one _ _ _ _) (by unfold maxLen; omega) (by omega) ?_
            intro g2 cap2 w2 ho2 hk2
            exact hK _ _ _ _ _ _ _ _ _ _ _ _ _ _ _ _ _ _ _ _ _ (I.s18 hd h20 hk2 rfl ho2 (fun h => own_apart h.row (unhide HSR) (by decide)))
          · cases ho
            unfold Oper.wp
            go_simp
            exact hK _ _ _ _ _ _ _ _ _ _ _ _ _ _ _ _ _ _ _ _ _ (I.s19 hd rfl)
          · cases ho
            have p18 := hp ⟨18, .data⟩ (by simp) rfl
            have p19 := hp ⟨19, .data⟩ (by simp) rfl
            obtain ⟨g2, cap2, e44, ho2⟩ := I.f18 p18
            subst e44
            have e1 := I.f19 p19
            subst e1
            have hvy : VarM wz y 29 (.slice q8 m.refs.length c8) (.slice q12 m.table.length c12) (.slice so k sc) (.slice q17 m.data.length c17) := ((I.b1 hd).block y (unhide HL).v.lt ((unhide HL).s.other (unhide HL).v (by decide))).trans (unhide HL).v
            have cy := hvy.cells.2.2.1
            have fy := hvy.free.2.2.1
            unfold Oper.wp
            go_simp
            exact hK _ _ _ _ _ _ _ _ _ _ _ _ _ _ _ _ _ _ _ _ _ (I.s20 (w2 := wz.setCell ⟨y, 2, none⟩ (.slice (some ⟨g2, 0, none⟩) (k + 1) cap2)) hd p18 ((Keep.refl (fun g => g = y) wz).setCell (p := ⟨y, 2, none⟩) rfl _) (hvy.set2 _) ⟨_, hvy⟩)
        case he =>
          intro d wz r26 r27 r28 r29 r30 r31 r32 r33 r34 r35 r36 r37 r38 r39 r40 r41 r42 r43 r44 r45 I hall
          obtain ⟨g2, cap2, e44, ho2⟩ := I.f18 (hall 18 (by decide))
          subst e44
          have HN := hide (OwL.next (unhide HL) (unhide HY) hlt (I.b2 (hall 20 (by decide))).1 (I.b2 (hall 20 (by decide))).2 ho2 (I.f15 (hall 15 (by decide))))
          clear I hall ho2
          go_wp2
          go_roundw
          case rel => exact ⟨k + 1, _, _, _, by omega, by go_num, HN⟩
          case measure => simp [intOf]; omega
      · have hkl : k = m.snaps.length := by omega
        subst hkl
        have HOI : Hid (OwnIm wr W0.heap.size ⟨q8, c8, q12, c12, so, sc, q17, c17⟩ m ts) := hide ⟨(unhide HL).l.symm, by have := (unhide HL).s; rw [List.take_length] at this; exact this.toS, by have := (unhide HL).r; rwa [List.take_length] at this⟩
        have HC0 : Hid (m.snaps.length = 0 → sc = 0) := hide (fun h => (unhide HL).s.cap0 h)
        have HRR := hide (VarM.below (unhide HR) (unhide HL).b)
        have HPT := hide (ImSt.put (unhide HRR) (unhide HOI) (fr (unhide HA) (unhide HL).b) (Nat.le_succ _) (unhide HR).lt ⟨q8, c8, q12, c12, so, sc, q17, c17⟩ m)
        obtain ⟨d0, d1, d2, d3⟩ := (unhide HL).v.cells
        obtain ⟨r0, r1, r2, r3⟩ := (unhide HRR).cells
        obtain ⟨z0, z1, z2, z3⟩ := (unhide HRR).free
        go_wp2
        exact bodyPost_ret (res_im Try.results24 rfl (unhide HPT).1) rfl ⟨⟨q8, c8, q12, c12, so, sc, q17, c17⟩, rfl, ⟨ts, ⟨(unhide HPT).2.1.base (unhide HA).size, unhide HC0⟩⟩, (unhide HPT).2.2⟩
theorem l10Own_any (a : Im4) (m : Img) (w : World) (hL : m.refs.length ≤ 1048576 ∧ m.table.length ≤ 1048576 ∧ m.data.length ≤ 1048576) (hst : ∀ s ∈ m.snaps, s.table.length ≤ 1048576) (hs1 : m.snaps.length ≤ 1048576) (hc : ImS w a m) :
    Calls Try.prog 24 #[imV a m] w fun e w' => ∃ a' ts, e = .returned (imV a' m) ∧ OwnIm w' w.heap.size a' m ts ∧ Below w.heap.size w w' := (l10Own_full a m w hL hst hs1 hc).mono fun e w' ⟨a', ts, h1, h2, h3⟩ => ⟨a', ts, h1, h2.1, h3⟩

end Go.Proofs.Ytjoafbkcnnhdiac
