import Derived.Test.YtpdpnepnfhbonaaRows
import Derived.Test.YtpdpnepnfhbonaaXFormatPart5
import Derived.Test.YtpdpnepnfhbonaaXFormatPart3
import Derived.Test.YtpdpnepnfhbonaaXFormatPart4
import Derived.WalkKit
import Derived.WalkSpells
import Derived.LoopN
import Derived.Deep.RegionWith
import Derived.Test.YtpdpnepnfhbonaaXFormatPart1
import Derived.BigQuiet
import Derived.Deep.QuietTactic
import Derived.Deep.RegionHeld3
import Derived.KernelRfl
import Derived.Maps.Own
import Derived.Maps.OwnOps
import Derived.Maps.OwnSet
import Derived.Maps.RangeWalk
import Derived.Maps.Views

namespace Go.Proofs.Ytpdpnepnfhbonaa
open Go.RowKit
set_option linter.unusedVariables false
set_option maxRecDepth 100000

structure OwJ (wr : World) (B x y k b off n sc0 : Nat) (so : Option Addr) (sc : Nat) (cs : List Value) (name : ByteArray) (tq : Option Addr) (tc : Nat) (tbl : List Int) (v0 v1 v3 : Value) (d : Nat → Bool) (w : World) (s26 s27 s28 s29 s30 s31 s32 s33 s34 s35 s36 s37 s38 s39 s40 s41 s42 s43 s44 s45 : Value) : Prop where
  b0 : d 18 = false → Below wr.heap.size wr w
  b1 : d 20 = false → Keep (Own (.slice so k sc)) wr w
  b2 : d 20 = true → Keep (fun g => Own (.slice so k sc) g ∨ g = y) wr w ∧ VarM w y 26 v0 v1 s44 v3
  f0 : d 0 = true → s26 = .pointer (some ⟨y, 2, none⟩)
  f1 : d 1 = true → s27 = .slice so k sc
  f2 : d 2 = true → s28 = .pointer (some ⟨x, 2, none⟩)
  f3 : d 3 = true → s29 = .slice (some ⟨b, off, none⟩) n sc0
  f4 : d 4 = true → s30 = .int .i64 k
  f5 : d 5 = true → s31 = .pointer (some ⟨b, off + k * 2, none⟩)
  f6 : d 6 = true → s32 = .pointer (some ⟨b, off + k * 2, none⟩)
  f7 : d 7 = true → s33 = .string name
  f8 : d 8 = true → Emp s34
  f9 : d 9 = true → s35 = .pointer (some ⟨x, 2, none⟩)
  f10 : d 10 = true → s36 = .slice (some ⟨b, off, none⟩) n sc0
  f11 : d 11 = true → s37 = .int .i64 k
  f12 : d 12 = true → s38 = .pointer (some ⟨b, off + k * 2, none⟩)
  f13 : d 13 = true → s39 = .pointer (some ⟨b, off + k * 2 + 1, none⟩)
  f14 : d 14 = true → s40 = .slice tq tbl.length tc
  f15 : d 15 = true → OwnN w wr.heap.size s41 tbl
  f16 : d 16 = true → s42 = .agg #[.string name, s41]
  f17 : d 17 = true → ∃ g, s43 = .slice (some ⟨g, 0, none⟩) 1 1 ∧ (d 18 = false → w.heap[g]? = some (.cells #[.string name, s41] 60 (0, 0)))
  f18 : d 18 = true → ∃ g2 cap2, s44 = .slice (some ⟨g2, 0, none⟩) (k + 1) cap2 ∧ w.ownsRow B 60 2 (.slice (some ⟨g2, 0, none⟩) (k + 1) cap2) (k + 1) (cs ++ [.string name, s41])
  f19 : d 19 = true → s45 = .pointer (some ⟨y, 2, none⟩)

theorem OwJ.s1 {wr : World} {B x y k b off n sc0 : Nat} {so : Option Addr} {sc : Nat} {cs : List Value} {name : ByteArray} {tq : Option Addr} {tc : Nat} {tbl : List Int} {v0 v1 v3 : Value} {d : Nat → Bool} {w : World} {s26 s27 s28 s29 s30 s31 s32 s33 s34 s35 s36 s37 s38 s39 s40 s41 s42 s43 s44 s45 v : Value} (I : OwJ wr B x y k b off n sc0 so sc cs name tq tc tbl v0 v1 v3 d w s26 s27 s28 s29 s30 s31 s32 s33 s34 s35 s36 s37 s38 s39 s40 s41 s42 s43 s44 s45) (hd : d 1 = false) (hv : v = .slice so k sc) : OwJ wr B x y k b off n sc0 so sc cs name tq tc tbl v0 v1 v3 (updD d 1) w s26 v s28 s29 s30 s31 s32 s33 s34 s35 s36 s37 s38 s39 s40 s41 s42 s43 s44 s45 where
  b0 := fun h => I.b0 (upd_nf h)
  b1 := fun h => I.b1 (upd_nf h)
  b2 := fun h => I.b2 (upd_ne (by decide) h)
  f0 := fun h => I.f0 (upd_ne (by decide) h)
  f1 := fun _ => hv
  f2 := fun h => I.f2 (upd_ne (by decide) h)
  f3 := fun h => I.f3 (upd_ne (by decide) h)
  f4 := fun h => I.f4 (upd_ne (by decide) h)
  f5 := fun h => I.f5 (upd_ne (by decide) h)
  f6 := fun h => I.f6 (upd_ne (by decide) h)
  f7 := fun h => I.f7 (upd_ne (by decide) h)
  f8 := fun h => I.f8 (upd_ne (by decide) h)
  f9 := fun h => I.f9 (upd_ne (by decide) h)
  f10 := fun h => I.f10 (upd_ne (by decide) h)
  f11 := fun h => I.f11 (upd_ne (by decide) h)
  f12 := fun h => I.f12 (upd_ne (by decide) h)
  f13 := fun h => I.f13 (upd_ne (by decide) h)
  f14 := fun h => I.f14 (upd_ne (by decide) h)
  f15 := fun h => I.f15 (upd_ne (by decide) h)
  f16 := fun h => I.f16 (upd_ne (by decide) h)
  f17 := fun h => (I.f17 (upd_ne (by decide) h)).imp fun g hg => ⟨hg.1, fun h' => hg.2 (upd_nf h')⟩
  f18 := fun h => I.f18 (upd_ne (by decide) h)
  f19 := fun h => I.f19 (upd_ne (by decide) h)

theorem OwJ.s2 {wr : World} {B x y k b off n sc0 : Nat} {so : Option Addr} {sc : Nat} {cs : List Value} {name : ByteArray} {tq : Option Addr} {tc : Nat} {tbl : List Int} {v0 v1 v3 : Value} {d : Nat → Bool} {w : World} {s26 s27 s28 s29 s30 s31 s32 s33 s34 s35 s36 s37 s38 s39 s40 s41 s42 s43 s44 s45 v : Value} (I : OwJ wr B x y k b off n sc0 so sc cs name tq tc tbl v0 v1 v3 d w s26 s27 s28 s29 s30 s31 s32 s33 s34 s35 s36 s37 s38 s39 s40 s41 s42 s43 s44 s45) (hd : d 2 = false) (hv : v = .pointer (some ⟨x, 2, none⟩)) : OwJ wr B x y k b off n sc0 so sc cs name tq tc tbl v0 v1 v3 (updD d 2) w s26 s27 v s29 s30 s31 s32 s33 s34 s35 s36 s37 s38 s39 s40 s41 s42 s43 s44 s45 where
  b0 := fun h => I.b0 (upd_nf h)
  b1 := fun h => I.b1 (upd_nf h)
  b2 := fun h => I.b2 (upd_ne (by decide) h)
  f0 := fun h => I.f0 (upd_ne (by decide) h)
  f1 := fun h => I.f1 (upd_ne (by decide) h)
  f2 := fun _ => hv
  f3 := fun h => I.f3 (upd_ne (by decide) h)
  f4 := fun h => I.f4 (upd_ne (by decide) h)
  f5 := fun h => I.f5 (upd_ne (by decide) h)
  f6 := fun h => I.f6 (upd_ne (by decide) h)
  f7 := fun h => I.f7 (upd_ne (by decide) h)
  f8 := fun h => I.f8 (upd_ne (by decide) h)
  f9 := fun h => I.f9 (upd_ne (by decide) h)
  f10 := fun h => I.f10 (upd_ne (by decide) h)
  f11 := fun h => I.f11 (upd_ne (by decide) h)
  f12 := fun h => I.f12 (upd_ne (by decide) h)
  f13 := fun h => I.f13 (upd_ne (by decide) h)
  f14 := fun h => I.f14 (upd_ne (by decide) h)
  f15 := fun h => I.f15 (upd_ne (by decide) h)
  f16 := fun h => I.f16 (upd_ne (by decide) h)
  f17 := fun h => (I.f17 (upd_ne (by decide) h)).imp fun g hg => ⟨hg.1, fun h' => hg.2 (upd_nf h')⟩
  f18 := fun h => I.f18 (upd_ne (by decide) h)
  f19 := fun h => I.f19 (upd_ne (by decide) h)

theorem OwJ.s3 {wr : World} {B x y k b off n sc0 : Nat} {so : Option Addr} {sc : Nat} {cs : List Value} {name : ByteArray} {tq : Option Addr} {tc : Nat} {tbl : List Int} {v0 v1 v3 : Value} {d : Nat → Bool} {w : World} {s26 s27 s28 s29 s30 s31 s32 s33 s34 s35 s36 s37 s38 s39 s40 s41 s42 s43 s44 s45 v : Value} (I : OwJ wr B x y k b off n sc0 so sc cs name tq tc tbl v0 v1 v3 d w s26 s27 s28 s29 s30 s31 s32 s33 s34 s35 s36 s37 s38 s39 s40 s41 s42 s43 s44 s45) (hd : d 3 = false) (hv : v = .slice (some ⟨b, off, none⟩) n sc0) : OwJ wr B x y k b off n sc0 so sc cs name tq tc tbl v0 v1 v3 (updD d 3) w s26 s27 s28 v s30 s31 s32 s33 s34 s35 s36 s37 s38 s39 s40 s41 s42 s43 s44 s45 where
  b0 := fun h => I.b0 (upd_nf h)
  b1 := fun h => I.b1 (upd_nf h)
  b2 := fun h => I.b2 (upd_ne (by decide) h)
  f0 := fun h => I.f0 (upd_ne (by decide) h)
  f1 := fun h => I.f1 (upd_ne (by decide) h)
  f2 := fun h => I.f2 (upd_ne (by decide) h)
  f3 := fun _ => hv
  f4 := fun h => I.f4 (upd_ne (by decide) h)
  f5 := fun h => I.f5 (upd_ne (by decide) h)
  f6 := fun h => I.f6 (upd_ne (by decide) h)
  f7 := fun h => I.f7 (upd_ne (by decide) h)
  f8 := fun h => I.f8 (upd_ne (by decide) h)
  f9 := fun h => I.f9 (upd_ne (by decide) h)
  f10 := fun h => I.f10 (upd_ne (by decide) h)
  f11 := fun h => I.f11 (upd_ne (by decide) h)
  f12 := fun h => I.f12 (upd_ne (by decide) h)
  f13 := fun h => I.f13 (upd_ne (by decide) h)
  f14 := fun h => I.f14 (upd_ne (by decide) h)
  f15 := fun h => I.f15 (upd_ne (by decide) h)
  f16 := fun h => I.f16 (upd_ne (by decide) h)
  f17 := fun h => (I.f17 (upd_ne (by decide) h)).imp fun g hg => ⟨hg.1, fun h' => hg.2 (upd_nf h')⟩
  f18 := fun h => I.f18 (upd_ne (by decide) h)
  f19 := fun h => I.f19 (upd_ne (by decide) h)

theorem OwJ.s4 {wr : World} {B x y k b off n sc0 : Nat} {so : Option Addr} {sc : Nat} {cs : List Value} {name : ByteArray} {tq : Option Addr} {tc : Nat} {tbl : List Int} {v0 v1 v3 : Value} {d : Nat → Bool} {w : World} {s26 s27 s28 s29 s30 s31 s32 s33 s34 s35 s36 s37 s38 s39 s40 s41 s42 s43 s44 s45 v : Value} (I : OwJ wr B x y k b off n sc0 so sc cs name tq tc tbl v0 v1 v3 d w s26 s27 s28 s29 s30 s31 s32 s33 s34 s35 s36 s37 s38 s39 s40 s41 s42 s43 s44 s45) (hd : d 4 = false) (hv : v = .int .i64 k) : OwJ wr B x y k b off n sc0 so sc cs name tq tc tbl v0 v1 v3 (updD d 4) w s26 s27 s28 s29 v s31 s32 s33 s34 s35 s36 s37 s38 s39 s40 s41 s42 s43 s44 s45 where
  b0 := fun h => I.b0 (upd_nf h)
  b1 := fun h => I.b1 (upd_nf h)
  b2 := fun h => I.b2 (upd_ne (by decide) h)
  f0 := fun h => I.f0 (upd_ne (by decide) h)
  f1 := fun h => I.f1 (upd_ne (by decide) h)
  f2 := fun h => I.f2 (upd_ne (by decide) h)
  f3 := fun h => I.f3 (upd_ne (by decide) h)
  f4 := fun _ => hv
  f5 := fun h => I.f5 (upd_ne (by decide) h)
  f6 := fun h => I.f6 (upd_ne (by decide) h)
  f7 := fun h => I.f7 (upd_ne (by decide) h)
  f8 := fun h => I.f8 (upd_ne (by decide) h)
  f9 := fun h => I.f9 (upd_ne (by decide) h)
  f10 := fun h => I.f10 (upd_ne (by decide) h)
  f11 := fun h => I.f11 (upd_ne (by decide) h)
  f12 := fun h => I.f12 (upd_ne (by decide) h)
  f13 := fun h => I.f13 (upd_ne (by decide) h)
  f14 := fun h => I.f14 (upd_ne (by decide) h)
  f15 := fun h => I.f15 (upd_ne (by decide) h)
  f16 := fun h => I.f16 (upd_ne (by decide) h)
  f17 := fun h => (I.f17 (upd_ne (by decide) h)).imp fun g hg => ⟨hg.1, fun h' => hg.2 (upd_nf h')⟩
  f18 := fun h => I.f18 (upd_ne (by decide) h)
  f19 := fun h => I.f19 (upd_ne (by decide) h)

theorem OwJ.s5 {wr : World} {B x y k b off n sc0 : Nat} {so : Option Addr} {sc : Nat} {cs : List Value} {name : ByteArray} {tq : Option Addr} {tc : Nat} {tbl : List Int} {v0 v1 v3 : Value} {d : Nat → Bool} {w : World} {s26 s27 s28 s29 s30 s31 s32 s33 s34 s35 s36 s37 s38 s39 s40 s41 s42 s43 s44 s45 v : Value} (I : OwJ wr B x y k b off n sc0 so sc cs name tq tc tbl v0 v1 v3 d w s26 s27 s28 s29 s30 s31 s32 s33 s34 s35 s36 s37 s38 s39 s40 s41 s42 s43 s44 s45) (hd : d 5 = false) (hv : v = .pointer (some ⟨b, off + k * 2, none⟩)) : OwJ wr B x y k b off n sc0 so sc cs name tq tc tbl v0 v1 v3 (updD d 5) w s26 s27 s28 s29 s30 v s32 s33 s34 s35 s36 s37 s38 s39 s40 s41 s42 s43 s44 s45 where
  b0 := fun h => I.b0 (upd_nf h)
  b1 := fun h => I.b1 (upd_nf h)
  b2 := fun h => I.b2 (upd_ne (by decide) h)
  f0 := fun h => I.f0 (upd_ne (by decide) h)
  f1 := fun h => I.f1 (upd_ne (by decide) h)
  f2 := fun h => I.f2 (upd_ne (by decide) h)
  f3 := fun h => I.f3 (upd_ne (by decide) h)
  f4 := fun h => I.f4 (upd_ne (by decide) h)
  f5 := fun _ => hv
  f6 := fun h => I.f6 (upd_ne (by decide) h)
  f7 := fun h => I.f7 (upd_ne (by decide) h)
  f8 := fun h => I.f8 (upd_ne (by decide) h)
  f9 := fun h => I.f9 (upd_ne (by decide) h)
  f10 := fun h => I.f10 (upd_ne (by decide) h)
  f11 := fun h => I.f11 (upd_ne (by decide) h)
  f12 := fun h => I.f12 (upd_ne (by decide) h)
  f13 := fun h => I.f13 (upd_ne (by decide) h)
  f14 := fun h => I.f14 (upd_ne (by decide) h)
  f15 := fun h => I.f15 (upd_ne (by decide) h)
  f16 := fun h => I.f16 (upd_ne (by decide) h)
  f17 := fun h => (I.f17 (upd_ne (by decide) h)).imp fun g hg => ⟨hg.1, fun h' => hg.2 (upd_nf h')⟩
  f18 := fun h => I.f18 (upd_ne (by decide) h)
  f19 := fun h => I.f19 (upd_ne (by decide) h)

theorem OwJ.s6 {wr : World} {B x y k b off n sc0 : Nat} {so : Option Addr} {sc : Nat} {cs : List Value} {name : ByteArray} {tq : Option Addr} {tc : Nat} {tbl : List Int} {v0 v1 v3 : Value} {d : Nat → Bool} {w : World} {s26 s27 s28 s29 s30 s31 s32 s33 s34 s35 s36 s37 s38 s39 s40 s41 s42 s43 s44 s45 v : Value} (I : OwJ wr B x y k b off n sc0 so sc cs name tq tc tbl v0 v1 v3 d w s26 s27 s28 s29 s30 s31 s32 s33 s34 s35 s36 s37 s38 s39 s40 s41 s42 s43 s44 s45) (hd : d 6 = false) (hv : v = .pointer (some ⟨b, off + k * 2, none⟩)) : OwJ wr B x y k b off n sc0 so sc cs name tq tc tbl v0 v1 v3 (updD d 6) w s26 s27 s28 s29 s30 s31 v s33 s34 s35 s36 s37 s38 s39 s40 s41 s42 s43 s44 s45 where
  b0 := fun h => I.b0 (upd_nf h)
  b1 := fun h => I.b1 (upd_nf h)
  b2 := fun h => I.b2 (upd_ne (by decide) h)
  f0 := fun h => I.f0 (upd_ne (by decide) h)
  f1 := fun h => I.f1 (upd_ne (by decide) h)
  f2 := fun h => I.f2 (upd_ne (by decide) h)
  f3 := fun h => I.f3 (upd_ne (by decide) h)
  f4 := fun h => I.f4 (upd_ne (by decide) h)
  f5 := fun h => I.f5 (upd_ne (by decide) h)
  f6 := fun _ => hv
  f7 := fun h => I.f7 (upd_ne (by decide) h)
  f8 := fun h => I.f8 (upd_ne (by decide) h)
  f9 := fun h => I.f9 (upd_ne (by decide) h)
  f10 := fun h => I.f10 (upd_ne (by decide) h)
  f11 := fun h => I.f11 (upd_ne (by decide) h)
  f12 := fun h => I.f12 (upd_ne (by decide) h)
  f13 := fun h => I.f13 (upd_ne (by decide) h)
  f14 := fun h => I.f14 (upd_ne (by decide) h)
  f15 := fun h => I.f15 (upd_ne (by decide) h)
  f16 := fun h => I.f16 (upd_ne (by decide) h)
  f17 := fun h => (I.f17 (upd_ne (by decide) h)).imp fun g hg => ⟨hg.1, fun h' => hg.2 (upd_nf h')⟩
  f18 := fun h => I.f18 (upd_ne (by decide) h)
  f19 := fun h => I.f19 (upd_ne (by decide) h)

theorem OwJ.s7 {wr : World} {B x y k b off n sc0 : Nat} {so : Option Addr} {sc : Nat} {cs : List Value} {name : ByteArray} {tq : Option Addr} {tc : Nat} {tbl : List Int} {v0 v1 v3 : Value} {d : Nat → Bool} {w : World} {s26 s27 s28 s29 s30 s31 s32 s33 s34 s35 s36 s37 s38 s39 s40 s41 s42 s43 s44 s45 v : Value} (I : OwJ wr B x y k b off n sc0 so sc cs name tq tc tbl v0 v1 v3 d w s26 s27 s28 s29 s30 s31 s32 s33 s34 s35 s36 s37 s38 s39 s40 s41 s42 s43 s44 s45) (hd : d 7 = false) (hv : v = .string name) : OwJ wr B x y k b off n sc0 so sc cs name tq tc tbl v0 v1 v3 (updD d 7) w s26 s27 s28 s29 s30 s31 s32 v s34 s35 s36 s37 s38 s39 s40 s41 s42 s43 s44 s45 where
  b0 := fun h => I.b0 (upd_nf h)
  b1 := fun h => I.b1 (upd_nf h)
  b2 := fun h => I.b2 (upd_ne (by decide) h)
  f0 := fun h => I.f0 (upd_ne (by decide) h)
  f1 := fun h => I.f1 (upd_ne (by decide) h)
  f2 := fun h => I.f2 (upd_ne (by decide) h)
  f3 := fun h => I.f3 (upd_ne (by decide) h)
  f4 := fun h => I.f4 (upd_ne (by decide) h)
  f5 := fun h => I.f5 (upd_ne (by decide) h)
  f6 := fun h => I.f6 (upd_ne (by decide) h)
  f7 := fun _ => hv
  f8 := fun h => I.f8 (upd_ne (by decide) h)
  f9 := fun h => I.f9 (upd_ne (by decide) h)
  f10 := fun h => I.f10 (upd_ne (by decide) h)
  f11 := fun h => I.f11 (upd_ne (by decide) h)
  f12 := fun h => I.f12 (upd_ne (by decide) h)
  f13 := fun h => I.f13 (upd_ne (by decide) h)
  f14 := fun h => I.f14 (upd_ne (by decide) h)
  f15 := fun h => I.f15 (upd_ne (by decide) h)
  f16 := fun h => I.f16 (upd_ne (by decide) h)
  f17 := fun h => (I.f17 (upd_ne (by decide) h)).imp fun g hg => ⟨hg.1, fun h' => hg.2 (upd_nf h')⟩
  f18 := fun h => I.f18 (upd_ne (by decide) h)
  f19 := fun h => I.f19 (upd_ne (by decide) h)

theorem OwJ.s8 {wr : World} {B x y k b off n sc0 : Nat} {so : Option Addr} {sc : Nat} {cs : List Value} {name : ByteArray} {tq : Option Addr} {tc : Nat} {tbl : List Int} {v0 v1 v3 : Value} {d : Nat → Bool} {w w2 : World} {s26 s27 s28 s29 s30 s31 s32 s33 s34 s35 s36 s37 s38 s39 s40 s41 s42 s43 s44 s45 v : Value} (I : OwJ wr B x y k b off n sc0 so sc cs name tq tc tbl v0 v1 v3 d w s26 s27 s28 s29 s30 s31 s32 s33 s34 s35 s36 s37 s38 s39 s40 s41 s42 s43 s44 s45) (hd : d 8 = false) (h18 : d 18 = false) (h20 : d 20 = false) (hb : Below w.heap.size w w2) (hv : Emp v) : OwJ wr B x y k b off n sc0 so sc cs name tq tc tbl v0 v1 v3 (updD d 8) w2 s26 s27 s28 s29 s30 s31 s32 s33 v s35 s36 s37 s38 s39 s40 s41 s42 s43 s44 s45 where
  b0 := fun h => fr (I.b0 h18) hb
  b1 := fun h => (I.b1 h20).trans (Keep.of_below hb)
  b2 := fun h => no_d (upd_ne (by decide) h) h20
  f0 := fun h => I.f0 (upd_ne (by decide) h)
  f1 := fun h => I.f1 (upd_ne (by decide) h)
  f2 := fun h => I.f2 (upd_ne (by decide) h)
  f3 := fun h => I.f3 (upd_ne (by decide) h)
  f4 := fun h => I.f4 (upd_ne (by decide) h)
  f5 := fun h => I.f5 (upd_ne (by decide) h)
  f6 := fun h => I.f6 (upd_ne (by decide) h)
  f7 := fun h => I.f7 (upd_ne (by decide) h)
  f8 := fun _ => hv
  f9 := fun h => I.f9 (upd_ne (by decide) h)
  f10 := fun h => I.f10 (upd_ne (by decide) h)
  f11 := fun h => I.f11 (upd_ne (by decide) h)
  f12 := fun h => I.f12 (upd_ne (by decide) h)
  f13 := fun h => I.f13 (upd_ne (by decide) h)
  f14 := fun h => I.f14 (upd_ne (by decide) h)
  f15 := fun h => (I.f15 (upd_ne (by decide) h)).below hb
  f16 := fun h => I.f16 (upd_ne (by decide) h)
  f17 := fun h => (I.f17 (upd_ne (by decide) h)).imp fun g hg => ⟨hg.1, fun h' => blk_belowI (hg.2 (upd_nf h')) hb⟩
  f18 := fun h => no_d (upd_ne (by decide) h) h18
  f19 := fun h => I.f19 (upd_ne (by decide) h)

theorem OwJ.s9 {wr : World} {B x y k b off n sc0 : Nat} {so : Option Addr} {sc : Nat} {cs : List Value} {name : ByteArray} {tq : Option Addr} {tc : Nat} {tbl : List Int} {v0 v1 v3 : Value} {d : Nat → Bool} {w : World} {s26 s27 s28 s29 s30 s31 s32 s33 s34 s35 s36 s37 s38 s39 s40 s41 s42 s43 s44 s45 v : Value} (I : OwJ wr B x y k b off n sc0 so sc cs name tq tc tbl v0 v1 v3 d w s26 s27 s28 s29 s30 s31 s32 s33 s34 s35 s36 s37 s38 s39 s40 s41 s42 s43 s44 s45) (hd : d 9 = false) (hv : v = .pointer (some ⟨x, 2, none⟩)) : OwJ wr B x y k b off n sc0 so sc cs name tq tc tbl v0 v1 v3 (updD d 9) w s26 s27 s28 s29 s30 s31 s32 s33 s34 v s36 s37 s38 s39 s40 s41 s42 s43 s44 s45 where
  b0 := fun h => I.b0 (upd_nf h)
  b1 := fun h => I.b1 (upd_nf h)
  b2 := fun h => I.b2 (upd_ne (by decide) h)
  f0 := fun h => I.f0 (upd_ne (by decide) h)
  f1 := fun h => I.f1 (upd_ne (by decide) h)
  f2 := fun h => I.f2 (upd_ne (by decide) h)
  f3 := fun h => I.f3 (upd_ne (by decide) h)
  f4 := fun h => I.f4 (upd_ne (by decide) h)
  f5 := fun h => I.f5 (upd_ne (by decide) h)
  f6 := fun h => I.f6 (upd_ne (by decide) h)
  f7 := fun h => I.f7 (upd_ne (by decide) h)
  f8 := fun h => I.f8 (upd_ne (by decide) h)
  f9 := fun _ => hv
  f10 := fun h => I.f10 (upd_ne (by decide) h)
  f11 := fun h => I.f11 (upd_ne (by decide) h)
  f12 := fun h => I.f12 (upd_ne (by decide) h)
  f13 := fun h => I.f13 (upd_ne (by decide) h)
  f14 := fun h => I.f14 (upd_ne (by decide) h)
  f15 := fun h => I.f15 (upd_ne (by decide) h)
  f16 := fun h => I.f16 (upd_ne (by decide) h)
  f17 := fun h => (I.f17 (upd_ne (by decide) h)).imp fun g hg => ⟨hg.1, fun h' => hg.2 (upd_nf h')⟩
  f18 := fun h => I.f18 (upd_ne (by decide) h)
  f19 := fun h => I.f19 (upd_ne (by decide) h)

theorem OwJ.s10 {wr : World} {B x y k b off n sc0 : Nat} {so : Option Addr} {sc : Nat} {cs : List Value} {name : ByteArray} {tq : Option Addr} {tc : Nat} {tbl : List Int} {v0 v1 v3 : Value} {d : Nat → Bool} {w : World} {s26 s27 s28 s29 s30 s31 s32 s33 s34 s35 s36 s37 s38 s39 s40 s41 s42 s43 s44 s45 v : Value} (I : OwJ wr B x y k b off n sc0 so sc cs name tq tc tbl v0 v1 v3 d w s26 s27 s28 s29 s30 s31 s32 s33 s34 s35 s36 s37 s38 s39 s40 s41 s42 s43 s44 s45) (hd : d 10 = false) (hv : v = .slice (some ⟨b, off, none⟩) n sc0) : OwJ wr B x y k b off n sc0 so sc cs name tq tc tbl v0 v1 v3 (updD d 10) w s26 s27 s28 s29 s30 s31 s32 s33 s34 s35 v s37 s38 s39 s40 s41 s42 s43 s44 s45 where
  b0 := fun h => I.b0 (upd_nf h)
  b1 := fun h => I.b1 (upd_nf h)
  b2 := fun h => I.b2 (upd_ne (by decide) h)
  f0 := fun h => I.f0 (upd_ne (by decide) h)
  f1 := fun h => I.f1 (upd_ne (by decide) h)
  f2 := fun h => I.f2 (upd_ne (by decide) h)
  f3 := fun h => I.f3 (upd_ne (by decide) h)
  f4 := fun h => I.f4 (upd_ne (by decide) h)
  f5 := fun h => I.f5 (upd_ne (by decide) h)
  f6 := fun h => I.f6 (upd_ne (by decide) h)
  f7 := fun h => I.f7 (upd_ne (by decide) h)
  f8 := fun h => I.f8 (upd_ne (by decide) h)
  f9 := fun h => I.f9 (upd_ne (by decide) h)
  f10 := fun _ => hv
  f11 := fun h => I.f11 (upd_ne (by decide) h)
  f12 := fun h => I.f12 (upd_ne (by decide) h)
  f13 := fun h => I.f13 (upd_ne (by decide) h)
  f14 := fun h => I.f14 (upd_ne (by decide) h)
  f15 := fun h => I.f15 (upd_ne (by decide) h)
  f16 := fun h => I.f16 (upd_ne (by decide) h)
  f17 := fun h => (I.f17 (upd_ne (by decide) h)).imp fun g hg => ⟨hg.1, fun h' => hg.2 (upd_nf h')⟩
  f18 := fun h => I.f18 (upd_ne (by decide) h)
  f19 := fun h => I.f19 (upd_ne (by decide) h)

theorem OwJ.s11 {wr : World} {B x y k b off n sc0 : Nat} {so : Option Addr} {sc : Nat} {cs : List Value} {name : ByteArray} {tq : Option Addr} {tc : Nat} {tbl : List Int} {v0 v1 v3 : Value} {d : Nat → Bool} {w : World} {s26 s27 s28 s29 s30 s31 s32 s33 s34 s35 s36 s37 s38 s39 s40 s41 s42 s43 s44 s45 v : Value} (I : OwJ wr B x y k b off n sc0 so sc cs name tq tc tbl v0 v1 v3 d w s26 s27 s28 s29 s30 s31 s32 s33 s34 s35 s36 s37 s38 s39 s40 s41 s42 s43 s44 s45) (hd : d 11 = false) (hv : v = .int .i64 k) : OwJ wr B x y k b off n sc0 so sc cs name tq tc tbl v0 v1 v3 (updD d 11) w s26 s27 s28 s29 s30 s31 s32 s33 s34 s35 s36 v s38 s39 s40 s41 s42 s43 s44 s45 where
  b0 := fun h => I.b0 (upd_nf h)
  b1 := fun h => I.b1 (upd_nf h)
  b2 := fun h => I.b2 (upd_ne (by decide) h)
  f0 := fun h => I.f0 (upd_ne (by decide) h)
  f1 := fun h => I.f1 (upd_ne (by decide) h)
  f2 := fun h => I.f2 (upd_ne (by decide) h)
  f3 := fun h => I.f3 (upd_ne (by decide) h)
  f4 := fun h => I.f4 (upd_ne (by decide) h)
  f5 := fun h => I.f5 (upd_ne (by decide) h)
  f6 := fun h => I.f6 (upd_ne (by decide) h)
  f7 := fun h => I.f7 (upd_ne (by decide) h)
  f8 := fun h => I.f8 (upd_ne (by decide) h)
  f9 := fun h => I.f9 (upd_ne (by decide) h)
  f10 := fun h => I.f10 (upd_ne (by decide) h)
  f11 := fun _ => hv
  f12 := fun h => I.f12 (upd_ne (by decide) h)
  f13 := fun h => I.f13 (upd_ne (by decide) h)
  f14 := fun h => I.f14 (upd_ne (by decide) h)
  f15 := fun h => I.f15 (upd_ne (by decide) h)
  f16 := fun h => I.f16 (upd_ne (by decide) h)
  f17 := fun h => (I.f17 (upd_ne (by decide) h)).imp fun g hg => ⟨hg.1, fun h' => hg.2 (upd_nf h')⟩
  f18 := fun h => I.f18 (upd_ne (by decide) h)
  f19 := fun h => I.f19 (upd_ne (by decide) h)

theorem OwJ.s12 {wr : World} {B x y k b off n sc0 : Nat} {so : Option Addr} {sc : Nat} {cs : List Value} {name : ByteArray} {tq : Option Addr} {tc : Nat} {tbl : List Int} {v0 v1 v3 : Value} {d : Nat → Bool} {w : World} {s26 s27 s28 s29 s30 s31 s32 s33 s34 s35 s36 s37 s38 s39 s40 s41 s42 s43 s44 s45 v : Value} (I : OwJ wr B x y k b off n sc0 so sc cs name tq tc tbl v0 v1 v3 d w s26 s27 s28 s29 s30 s31 s32 s33 s34 s35 s36 s37 s38 s39 s40 s41 s42 s43 s44 s45) (hd : d 12 = false) (hv : v = .pointer (some ⟨b, off + k * 2, none⟩)) : OwJ wr B x y k b off n sc0 so sc cs name tq tc tbl v0 v1 v3 (updD d 12) w s26 s27 s28 s29 s30 s31 s32 s33 s34 s35 s36 s37 v s39 s40 s41 s42 s43 s44 s45 where
  b0 := fun h => I.b0 (upd_nf h)
  b1 := fun h => I.b1 (upd_nf h)
  b2 := fun h => I.b2 (upd_ne (by decide) h)
  f0 := fun h => I.f0 (upd_ne (by decide) h)
  f1 := fun h => I.f1 (upd_ne (by decide) h)
  f2 := fun h => I.f2 (upd_ne (by decide) h)
  f3 := fun h => I.f3 (upd_ne (by decide) h)
  f4 := fun h => I.f4 (upd_ne (by decide) h)
  f5 := fun h => I.f5 (upd_ne (by decide) h)
  f6 := fun h => I.f6 (upd_ne (by decide) h)
  f7 := fun h => I.f7 (upd_ne (by decide) h)
  f8 := fun h => I.f8 (upd_ne (by decide) h)
  f9 := fun h => I.f9 (upd_ne (by decide) h)
  f10 := fun h => I.f10 (upd_ne (by decide) h)
  f11 := fun h => I.f11 (upd_ne (by decide) h)
  f12 := fun _ => hv
  f13 := fun h => I.f13 (upd_ne (by decide) h)
  f14 := fun h => I.f14 (upd_ne (by decide) h)
  f15 := fun h => I.f15 (upd_ne (by decide) h)
  f16 := fun h => I.f16 (upd_ne (by decide) h)
  f17 := fun h => (I.f17 (upd_ne (by decide) h)).imp fun g hg => ⟨hg.1, fun h' => hg.2 (upd_nf h')⟩
  f18 := fun h => I.f18 (upd_ne (by decide) h)
  f19 := fun h => I.f19 (upd_ne (by decide) h)

theorem OwJ.s13 {wr : World} {B x y k b off n sc0 : Nat} {so : Option Addr} {sc : Nat} {cs : List Value} {name : ByteArray} {tq : Option Addr} {tc : Nat} {tbl : List Int} {v0 v1 v3 : Value} {d : Nat → Bool} {w : World} {s26 s27 s28 s29 s30 s31 s32 s33 s34 s35 s36 s37 s38 s39 s40 s41 s42 s43 s44 s45 v : Value} (I : OwJ wr B x y k b off n sc0 so sc cs name tq tc tbl v0 v1 v3 d w s26 s27 s28 s29 s30 s31 s32 s33 s34 s35 s36 s37 s38 s39 s40 s41 s42 s43 s44 s45) (hd : d 13 = false) (hv : v = .pointer (some ⟨b, off + k * 2 + 1, none⟩)) : OwJ wr B x y k b off n sc0 so sc cs name tq tc tbl v0 v1 v3 (updD d 13) w s26 s27 s28 s29 s30 s31 s32 s33 s34 s35 s36 s37 s38 v s40 s41 s42 s43 s44 s45 where
  b0 := fun h => I.b0 (upd_nf h)
  b1 := fun h => I.b1 (upd_nf h)
  b2 := fun h => I.b2 (upd_ne (by decide) h)
  f0 := fun h => I.f0 (upd_ne (by decide) h)
  f1 := fun h => I.f1 (upd_ne (by decide) h)
  f2 := fun h => I.f2 (upd_ne (by decide) h)
  f3 := fun h => I.f3 (upd_ne (by decide) h)
  f4 := fun h => I.f4 (upd_ne (by decide) h)
  f5 := fun h => I.f5 (upd_ne (by decide) h)
  f6 := fun h => I.f6 (upd_ne (by decide) h)
  f7 := fun h => I.f7 (upd_ne (by decide) h)
  f8 := fun h => I.f8 (upd_ne (by decide) h)
  f9 := fun h => I.f9 (upd_ne (by decide) h)
  f10 := fun h => I.f10 (upd_ne (by decide) h)
  f11 := fun h => I.f11 (upd_ne (by decide) h)
  f12 := fun h => I.f12 (upd_ne (by decide) h)
  f13 := fun _ => hv
  f14 := fun h => I.f14 (upd_ne (by decide) h)
  f15 := fun h => I.f15 (upd_ne (by decide) h)
  f16 := fun h => I.f16 (upd_ne (by decide) h)
  f17 := fun h => (I.f17 (upd_ne (by decide) h)).imp fun g hg => ⟨hg.1, fun h' => hg.2 (upd_nf h')⟩
  f18 := fun h => I.f18 (upd_ne (by decide) h)
  f19 := fun h => I.f19 (upd_ne (by decide) h)

theorem OwJ.s14 {wr : World} {B x y k b off n sc0 : Nat} {so : Option Addr} {sc : Nat} {cs : List Value} {name : ByteArray} {tq : Option Addr} {tc : Nat} {tbl : List Int} {v0 v1 v3 : Value} {d : Nat → Bool} {w : World} {s26 s27 s28 s29 s30 s31 s32 s33 s34 s35 s36 s37 s38 s39 s40 s41 s42 s43 s44 s45 v : Value} (I : OwJ wr B x y k b off n sc0 so sc cs name tq tc tbl v0 v1 v3 d w s26 s27 s28 s29 s30 s31 s32 s33 s34 s35 s36 s37 s38 s39 s40 s41 s42 s43 s44 s45) (hd : d 14 = false) (hv : v = .slice tq tbl.length tc) : OwJ wr B x y k b off n sc0 so sc cs name tq tc tbl v0 v1 v3 (updD d 14) w s26 s27 s28 s29 s30 s31 s32 s33 s34 s35 s36 s37 s38 s39 v s41 s42 s43 s44 s45 where
  b0 := fun h => I.b0 (upd_nf h)
  b1 := fun h => I.b1 (upd_nf h)
  b2 := fun h => I.b2 (upd_ne (by decide) h)
  f0 := fun h => I.f0 (upd_ne (by decide) h)
  f1 := fun h => I.f1 (upd_ne (by decide) h)
  f2 := fun h => I.f2 (upd_ne (by decide) h)
  f3 := fun h => I.f3 (upd_ne (by decide) h)
  f4 := fun h => I.f4 (upd_ne (by decide) h)
  f5 := fun h => I.f5 (upd_ne (by decide) h)
  f6 := fun h => I.f6 (upd_ne (by decide) h)
  f7 := fun h => I.f7 (upd_ne (by decide) h)
  f8 := fun h => I.f8 (upd_ne (by decide) h)
  f9 := fun h => I.f9 (upd_ne (by decide) h)
  f10 := fun h => I.f10 (upd_ne (by decide) h)
  f11 := fun h => I.f11 (upd_ne (by decide) h)
  f12 := fun h => I.f12 (upd_ne (by decide) h)
  f13 := fun h => I.f13 (upd_ne (by decide) h)
  f14 := fun _ => hv
  f15 := fun h => I.f15 (upd_ne (by decide) h)
  f16 := fun h => I.f16 (upd_ne (by decide) h)
  f17 := fun h => (I.f17 (upd_ne (by decide) h)).imp fun g hg => ⟨hg.1, fun h' => hg.2 (upd_nf h')⟩
  f18 := fun h => I.f18 (upd_ne (by decide) h)
  f19 := fun h => I.f19 (upd_ne (by decide) h)

theorem OwJ.s15 {wr : World} {B x y k b off n sc0 : Nat} {so : Option Addr} {sc : Nat} {cs : List Value} {name : ByteArray} {tq : Option Addr} {tc : Nat} {tbl : List Int} {v0 v1 v3 : Value} {d : Nat → Bool} {w w2 : World} {s26 s27 s28 s29 s30 s31 s32 s33 s34 s35 s36 s37 s38 s39 s40 s41 s42 s43 s44 s45 v : Value} (I : OwJ wr B x y k b off n sc0 so sc cs name tq tc tbl v0 v1 v3 d w s26 s27 s28 s29 s30 s31 s32 s33 s34 s35 s36 s37 s38 s39 s40 s41 s42 s43 s44 s45) (hd : d 15 = false) (h18 : d 18 = false) (h20 : d 20 = false) (hb : Below w.heap.size w w2) (h16 : d 16 = false) (h17 : d 17 = false) (hv : OwnN w2 w.heap.size v tbl) : OwJ wr B x y k b off n sc0 so sc cs name tq tc tbl v0 v1 v3 (updD d 15) w2 s26 s27 s28 s29 s30 s31 s32 s33 s34 s35 s36 s37 s38 s39 s40 v s42 s43 s44 s45 where
  b0 := fun h => fr (I.b0 h18) hb
  b1 := fun h => (I.b1 h20).trans (Keep.of_below hb)
  b2 := fun h => no_d (upd_ne (by decide) h) h20
  f0 := fun h => I.f0 (upd_ne (by decide) h)
  f1 := fun h => I.f1 (upd_ne (by decide) h)
  f2 := fun h => I.f2 (upd_ne (by decide) h)
  f3 := fun h => I.f3 (upd_ne (by decide) h)
  f4 := fun h => I.f4 (upd_ne (by decide) h)
  f5 := fun h => I.f5 (upd_ne (by decide) h)
  f6 := fun h => I.f6 (upd_ne (by decide) h)
  f7 := fun h => I.f7 (upd_ne (by decide) h)
  f8 := fun h => I.f8 (upd_ne (by decide) h)
  f9 := fun h => I.f9 (upd_ne (by decide) h)
  f10 := fun h => I.f10 (upd_ne (by decide) h)
  f11 := fun h => I.f11 (upd_ne (by decide) h)
  f12 := fun h => I.f12 (upd_ne (by decide) h)
  f13 := fun h => I.f13 (upd_ne (by decide) h)
  f14 := fun h => I.f14 (upd_ne (by decide) h)
  f15 := fun _ => hv.base (I.b0 h18).size
  f16 := fun h => no_d (upd_ne (by decide) h) h16
  f17 := fun h => no_d (upd_ne (by decide) h) h17
  f18 := fun h => no_d (upd_ne (by decide) h) h18
  f19 := fun h => I.f19 (upd_ne (by decide) h)

theorem OwJ.s16 {wr : World} {B x y k b off n sc0 : Nat} {so : Option Addr} {sc : Nat} {cs : List Value} {name : ByteArray} {tq : Option Addr} {tc : Nat} {tbl : List Int} {v0 v1 v3 : Value} {d : Nat → Bool} {w : World} {s26 s27 s28 s29 s30 s31 s32 s33 s34 s35 s36 s37 s38 s39 s40 s41 s42 s43 s44 s45 v : Value} (I : OwJ wr B x y k b off n sc0 so sc cs name tq tc tbl v0 v1 v3 d w s26 s27 s28 s29 s30 s31 s32 s33 s34 s35 s36 s37 s38 s39 s40 s41 s42 s43 s44 s45) (hd : d 16 = false) (hv : v = .agg #[.string name, s41]) : OwJ wr B x y k b off n sc0 so sc cs name tq tc tbl v0 v1 v3 (updD d 16) w s26 s27 s28 s29 s30 s31 s32 s33 s34 s35 s36 s37 s38 s39 s40 s41 v s43 s44 s45 where
  b0 := fun h => I.b0 (upd_nf h)
  b1 := fun h => I.b1 (upd_nf h)
  b2 := fun h => I.b2 (upd_ne (by decide) h)
  f0 := fun h => I.f0 (upd_ne (by decide) h)
  f1 := fun h => I.f1 (upd_ne (by decide) h)
  f2 := fun h => I.f2 (upd_ne (by decide) h)
  f3 := fun h => I.f3 (upd_ne (by decide) h)
  f4 := fun h => I.f4 (upd_ne (by decide) h)
  f5 := fun h => I.f5 (upd_ne (by decide) h)
  f6 := fun h => I.f6 (upd_ne (by decide) h)
  f7 := fun h => I.f7 (upd_ne (by decide) h)
  f8 := fun h => I.f8 (upd_ne (by decide) h)
  f9 := fun h => I.f9 (upd_ne (by decide) h)
  f10 := fun h => I.f10 (upd_ne (by decide) h)
  f11 := fun h => I.f11 (upd_ne (by decide) h)
  f12 := fun h => I.f12 (upd_ne (by decide) h)
  f13 := fun h => I.f13 (upd_ne (by decide) h)
  f14 := fun h => I.f14 (upd_ne (by decide) h)
  f15 := fun h => I.f15 (upd_ne (by decide) h)
  f16 := fun _ => hv
  f17 := fun h => (I.f17 (upd_ne (by decide) h)).imp fun g hg => ⟨hg.1, fun h' => hg.2 (upd_nf h')⟩
  f18 := fun h => I.f18 (upd_ne (by decide) h)
  f19 := fun h => I.f19 (upd_ne (by decide) h)

theorem OwJ.s17 {wr : World} {B x y k b off n sc0 : Nat} {so : Option Addr} {sc : Nat} {cs : List Value} {name : ByteArray} {tq : Option Addr} {tc : Nat} {tbl : List Int} {v0 v1 v3 : Value} {d : Nat → Bool} {w w2 : World} {s26 s27 s28 s29 s30 s31 s32 s33 s34 s35 s36 s37 s38 s39 s40 s41 s42 s43 s44 s45 v : Value} (I : OwJ wr B x y k b off n sc0 so sc cs name tq tc tbl v0 v1 v3 d w s26 s27 s28 s29 s30 s31 s32 s33 s34 s35 s36 s37 s38 s39 s40 s41 s42 s43 s44 s45) (hd : d 17 = false) (h18 : d 18 = false) (h20 : d 20 = false) (hb : Below w.heap.size w w2) {g : Nat} (hv : v = .slice (some ⟨g, 0, none⟩) 1 1) (hn : w2.heap[g]? = some (.cells #[.string name, s41] 60 (0, 0))) : OwJ wr B x y k b off n sc0 so sc cs name tq tc tbl v0 v1 v3 (updD d 17) w2 s26 s27 s28 s29 s30 s31 s32 s33 s34 s35 s36 s37 s38 s39 s40 s41 s42 v s44 s45 where
  b0 := fun h => fr (I.b0 h18) hb
  b1 := fun h => (I.b1 h20).trans (Keep.of_below hb)
  b2 := fun h => no_d (upd_ne (by decide) h) h20
  f0 := fun h => I.f0 (upd_ne (by decide) h)
  f1 := fun h => I.f1 (upd_ne (by decide) h)
  f2 := fun h => I.f2 (upd_ne (by decide) h)
  f3 := fun h => I.f3 (upd_ne (by decide) h)
  f4 := fun h => I.f4 (upd_ne (by decide) h)
  f5 := fun h => I.f5 (upd_ne (by decide) h)
  f6 := fun h => I.f6 (upd_ne (by decide) h)
  f7 := fun h => I.f7 (upd_ne (by decide) h)
  f8 := fun h => I.f8 (upd_ne (by decide) h)
  f9 := fun h => I.f9 (upd_ne (by decide) h)
  f10 := fun h => I.f10 (upd_ne (by decide) h)
  f11 := fun h => I.f11 (upd_ne (by decide) h)
  f12 := fun h => I.f12 (upd_ne (by decide) h)
  f13 := fun h => I.f13 (upd_ne (by decide) h)
  f14 := fun h => I.f14 (upd_ne (by decide) h)
  f15 := fun h => (I.f15 (upd_ne (by decide) h)).below hb
  f16 := fun h => I.f16 (upd_ne (by decide) h)
  f17 := fun _ => ⟨g, hv, fun _ => hn⟩
  f18 := fun h => no_d (upd_ne (by decide) h) h18
  f19 := fun h => I.f19 (upd_ne (by decide) h)

theorem OwJ.s18 {wr : World} {B x y k b off n sc0 : Nat} {so : Option Addr} {sc : Nat} {cs : List Value} {name : ByteArray} {tq : Option Addr} {tc : Nat} {tbl : List Int} {v0 v1 v3 : Value} {d : Nat → Bool} {w w2 : World} {s26 s27 s28 s29 s30 s31 s32 s33 s34 s35 s36 s37 s38 s39 s40 s41 s42 s43 s44 s45 v : Value} (I : OwJ wr B x y k b off n sc0 so sc cs name tq tc tbl v0 v1 v3 d w s26 s27 s28 s29 s30 s31 s32 s33 s34 s35 s36 s37 s38 s39 s40 s41 s42 s43 s44 s45) (hd : d 18 = false) (h20 : d 20 = false) (hk : Keep (Own (.slice so k sc)) w w2) {g2 cap2 : Nat} (hv : v = .slice (some ⟨g2, 0, none⟩) (k + 1) cap2) (ho : w2.ownsRow B 60 2 (.slice (some ⟨g2, 0, none⟩) (k + 1) cap2) (k + 1) (cs ++ [.string name, s41])) (ha : OwnN w wr.heap.size s41 tbl → ∀ g, Own s41 g → ¬ Own (.slice so k sc) g) : OwJ wr B x y k b off n sc0 so sc cs name tq tc tbl v0 v1 v3 (updD d 18) w2 s26 s27 s28 s29 s30 s31 s32 s33 s34 s35 s36 s37 s38 s39 s40 s41 s42 s43 v s45 where
  b0 := fun h => no_d (k := 18) upd_at h
  b1 := fun h => (I.b1 h20).trans hk
  b2 := fun h => no_d (upd_ne (by decide) h) h20
  f0 := fun h => I.f0 (upd_ne (by decide) h)
  f1 := fun h => I.f1 (upd_ne (by decide) h)
  f2 := fun h => I.f2 (upd_ne (by decide) h)
  f3 := fun h => I.f3 (upd_ne (by decide) h)
  f4 := fun h => I.f4 (upd_ne (by decide) h)
  f5 := fun h => I.f5 (upd_ne (by decide) h)
  f6 := fun h => I.f6 (upd_ne (by decide) h)
  f7 := fun h => I.f7 (upd_ne (by decide) h)
  f8 := fun h => I.f8 (upd_ne (by decide) h)
  f9 := fun h => I.f9 (upd_ne (by decide) h)
  f10 := fun h => I.f10 (upd_ne (by decide) h)
  f11 := fun h => I.f11 (upd_ne (by decide) h)
  f12 := fun h => I.f12 (upd_ne (by decide) h)
  f13 := fun h => I.f13 (upd_ne (by decide) h)
  f14 := fun h => I.f14 (upd_ne (by decide) h)
  f15 := fun h => (I.f15 (upd_ne (by decide) h)).keep hk (ha (I.f15 (upd_ne (by decide) h)))
  f16 := fun h => I.f16 (upd_ne (by decide) h)
  f17 := fun h => (I.f17 (upd_ne (by decide) h)).imp fun g hg => ⟨hg.1, fun h' => no_d (k := 18) upd_at h'⟩
  f18 := fun _ => ⟨g2, cap2, hv, ho⟩
  f19 := fun h => I.f19 (upd_ne (by decide) h)

structure OwL (W0 : World) (y : Nat) (m : Img) (q8 : Option Addr) (c8 : Nat) (q12 : Option Addr) (c12 : Nat) (q17 : Option Addr) (c17 : Nat) (w : World) (k : Nat) (so : Option Addr) (sc : Nat) (ts : List Value) : Prop where
  b : Below W0.heap.size W0 w
  v : VarM w y 26 (.slice q8 m.refs.length c8) (.slice q12 m.table.length c12) (.slice so k sc) (.slice q17 m.data.length c17)
  l : ts.length = k
  s : OwnR w W0.heap.size 60 2 (.slice so k sc) k (snC (m.snaps.take k) ts)
  r : OwnA w W0.heap.size ((.slice q8 m.refs.length c8, m.refs) :: (.slice q12 m.table.length c12, m.table) :: (.slice q17 m.data.length c17, m.data) :: ts.zip ((m.snaps.take k).map (·.table)))
theorem OwnA.add {w : World} {B n : Nat} {rs : List (Value × List Int)} {v : Value} {xs : List Int} (h : OwnA w B rs) (hlt : ∀ r ∈ rs, ∀ g, Own r.1 g → g < n) (hv : OwnN w n v xs) (hB : B ≤ n) : OwnA w B (rs ++ [(v, xs)]) := by
  refine ⟨fun r hr => ?_, ?_⟩
  · rcases List.mem_append.1 hr with h1 | h1
    · exact h.own r h1
    · rw [List.mem_singleton] at h1
      subst h1
      exact hv.base hB
  · rw [List.pairwise_append]
    refine ⟨h.apart, List.pairwise_singleton _ _, fun a ha b hb' g hg hg' => ?_⟩
    rw [List.mem_singleton] at hb'
    subst hb'
    have h1 := hlt a ha g hg
    have h2 := (hv.ge g hg').1
    omega
theorem OwL.next {W0 wr w : World} {y k : Nat} {m : Img} {q8 q12 q17 so : Option Addr} {c8 c12 c17 sc g2 cap2 : Nat} {ts : List Value} {t : Value} (h : OwL W0 y m q8 c8 q12 c12 q17 c17 wr k so sc ts) (hy : W0.heap.size ≤ y) (hk : k < m.snaps.length) (hK : Keep (fun g => Own (.slice so k sc) g ∨ g = y) wr w)
    (hv : VarM w y 26 (.slice q8 m.refs.length c8) (.slice q12 m.table.length c12) (.slice (some ⟨g2, 0, none⟩) (k + 1) cap2) (.slice q17 m.data.length c17)) (ho : w.ownsRow W0.heap.size 60 2 (.slice (some ⟨g2, 0, none⟩) (k + 1) cap2) (k + 1) (snC (m.snaps.take k) ts ++ [.string m.snaps[k].name, t])) (ht : OwnN w wr.heap.size t m.snaps[k].table) :
    OwL W0 y m q8 c8 q12 c12 q17 c17 w (k + 1) (some ⟨g2, 0, none⟩) cap2 (ts ++ [t]) where
  b := h.b.trans (hK.below h.b.size (fun g hg => by
    rcases hg with hg | rfl
    · exact (h.s.ge g hg).1
    · exact hy))
  v := hv
  l := by rw [List.length_append, h.l]; rfl
  s := by
    rw [List.take_succ_eq_append_getElem hk, snC_snoc _ _ _ _ (by rw [List.length_take, h.l]; omega)]
    exact .inr ⟨by omega, ho⟩
  r := by
    have e : (ts ++ [t]).zip ((m.snaps.take (k + 1)).map (·.table)) = ts.zip ((m.snaps.take k).map (·.table)) ++ [(t, m.snaps[k].table)] := by
      rw [List.take_succ_eq_append_getElem hk, List.map_append, List.zip_append (by rw [List.length_map, List.length_take, h.l]; omega)]
      rfl
    rw [e]
    have h1 := h.r.keep hK (fun r hr g hg hS => by
      rcases hS with hS | rfl
      · exact own_apart (h.r.own r hr).row h.s (by decide) g hg hS
      · exact (h.r.own r hr).other h.v (by decide) hg)
    exact h1.add (fun r hr g hg => ((h.r.own r hr).ge g hg).2) ht h.b.size

end Go.Proofs.Ytpdpnepnfhbonaa

namespace Go.Proofs.Ytpdpnepnfhbonaa
open Go.RowKit
set_option linter.unusedVariables false
set_option maxRecDepth 100000

end Go.Proofs.Ytpdpnepnfhbonaa

namespace Go.Proofs.Ytpdpnepnfhbonaa
open Go.RowKit
set_option linter.unusedVariables false
set_option maxRecDepth 100000

structure ImL (m : Img) : Prop where
  r : m.refs.length ≤ maxLen
  t : m.table.length ≤ maxLen
  s : m.snaps.length ≤ maxLen
  d : m.data.length ≤ maxLen
end Go.Proofs.Ytpdpnepnfhbonaa

namespace Go.Proofs.Ytpdpnepnfhbonaa
open Go.RowKit
set_option linter.unusedVariables false
set_option maxRecDepth 100000

end Go.Proofs.Ytpdpnepnfhbonaa

namespace Go.Proofs.Ytpdpnepnfhbonaa
open Go.RowKit
set_option linter.unusedVariables false
set_option maxRecDepth 100000

theorem OwnN.spot {w : World} {B c n k : Nat} {ao : Option Addr} {xs : List Int} (h : OwnN w B (.slice ao n k) xs) (hn : n = xs.length) (hc : c < xs.length) : ∃ g, ao = some ⟨g, 0, none⟩ ∧ w.cell? ⟨g, c, none⟩ = some (.int .i64 xs[c]) ∧ w.frozen? ⟨g, c, none⟩ = false ∧ Own (.slice ao n k) g ∧ ∀ y, OwnN (w.setCell ⟨g, c, none⟩ (.int .i64 y)) B (.slice ao n k) (xs.set c y) := by
  subst hn
  have hr := h.row
  have hp : 0 < xs.length := by omega
  obtain ⟨g, cap, cur, e, _, _⟩ := own_form hp (hr.row hp)
  simp only [Value.slice.injEq, true_and] at e
  obtain ⟨rfl, rfl⟩ := e
  refine ⟨g, rfl, ?_, (hr.row hp).frozenAt c, own_of hp rfl, fun y => ?_⟩
  · have := (hr.row hp).cellAt c (by omega)
    rwa [intV_get hc] at this
  · exact OwnN.mk' (own_setI hr hp y) (by simp)
theorem OwnIm.other {w : World} {B x : Nat} {a : Im4} {m : Img} {ts : List Value} {v0 v1 v2 v3 : Value} (h : OwnIm w B a m ts) (hv : VarM w x 26 v0 v1 v2 v3) : ¬ ImB a m ts x := by
  intro hx
  rcases hx with h1 | h1 | h1 | h1 | ⟨t, ht, h1⟩
  · exact (h.rows.own (.slice a.ro m.refs.length a.rc, m.refs) (by simp [imRows])).row.other hv (by decide) h1
  · exact (h.rows.own (.slice a.tq m.table.length a.tc, m.table) (by simp [imRows])).row.other hv (by decide) h1
  · exact (h.rows.own (.slice a.dq m.data.length a.dc, m.data) (by simp [imRows])).row.other hv (by decide) h1
  · exact h.s.other hv (by decide) h1
  · have hm : t ∈ (ts.zip (m.snaps.map (·.table))).map Prod.fst := by rw [zip_fst _ _ (by rw [List.length_map, h.len])]; exact ht
    obtain ⟨p, hp, rfl⟩ := List.mem_map.1 hm
    exact (h.rows.own p (by simp [imRows, hp])).row.other hv (by decide) h1
theorem OwnIm.shows {w : World} {B : Nat} {a : Im4} {m : Img} {ts : List Value} (h : OwnIm w B a m ts) (hz : ∀ s ∈ m.snaps, s.name.size ≤ maxLen ∧ s.table.length ≤ maxLen) : ImS w a m := by
  refine ⟨ownRN (h.rows.own (.slice a.ro m.refs.length a.rc, m.refs) (by simp [imRows])).row, ownRN (h.rows.own (.slice a.tq m.table.length a.tc, m.table) (by simp [imRows])).row, fun i hi => ?_, ownRN (h.rows.own (.slice a.dq m.data.length a.dc, m.data) (by simp [imRows])).row⟩
  have hp : 0 < m.snaps.length := by omega
  have hit : i < ts.length := by rw [← h.len]; exact hi
  have hs := h.s.row hp
  obtain ⟨g, cap, cur, e, _, _⟩ := own_form hp hs
  rw [e] at hs
  simp only [Value.slice.injEq, true_and] at e
  obtain ⟨e1, e2⟩ := e
  have hgs := snC_get (List.getElem?_eq_getElem hi) (List.getElem?_eq_getElem hit)
  have hm : (ts[i], m.snaps[i].table) ∈ imRows a m ts := by
    have : (ts.zip (m.snaps.map (·.table)))[i]? = some (ts[i], m.snaps[i].table) := by
      rw [List.getElem?_zip_eq_some]
      exact ⟨List.getElem?_eq_getElem hit, by simp [hi]⟩
    simp [imRows, List.mem_of_getElem? this]
  obtain ⟨tq, tc, et, ho⟩ := h.rows.own _ hm
  simp only at et ho
  refine ⟨g, 0, tq, tc, e1, ?_, ?_, ownRN ho, (hz _ (List.getElem_mem hi)).1, (hz _ (List.getElem_mem hi)).2⟩
  · rw [Nat.zero_add]; exact (hs.cellAt (i * 2) (by omega)).trans hgs.1
  · rw [Nat.zero_add]; exact (hs.cellAt (i * 2 + 1) (by omega)).trans (by rw [hgs.2, et])

end Go.Proofs.Ytpdpnepnfhbonaa

namespace Go.Proofs.Ytpdpnepnfhbonaa
open Go.RowKit
set_option linter.unusedVariables false
set_option maxRecDepth 100000

structure ImQ (w W : World) (B : Nat) (a : Im4) (m0 m : Img) (ts : List Value) : Prop where
  v : VarM W w.heap.size 26 (.slice a.ro m0.refs.length a.rc) (.slice a.tq m0.table.length a.tc) (.slice a.so m0.snaps.length a.sc) (.slice a.dq m0.data.length a.dc)
  r : VarM W (w.heap.size + 1) 26 (.slice none 0 0) (.slice none 0 0) (.slice none 0 0) (.slice none 0 0)
  o : OwnIm W B a m ts
  b : Below w.heap.size w W
  hB : w.heap.size + 2 ≤ B
  e1 : m.refs.length = m0.refs.length
  e2 : m.table.length = m0.table.length
  e3 : m.snaps.length = m0.snaps.length
  e4 : m.data.length = m0.data.length
abbrev putI (W : World) (x : Nat) (a : Im4) (m : Img) : World := (((W.setCell ⟨x, 0, none⟩ (.slice a.ro m.refs.length a.rc)).setCell ⟨x, 1, none⟩ (.slice a.tq m.table.length a.tc)).setCell ⟨x, 2, none⟩ (.slice a.so m.snaps.length a.sc)).setCell ⟨x, 3, none⟩ (.slice a.dq m.data.length a.dc)
theorem ImQ.put {w W : World} {B : Nat} {v0 v1 v2 v3 : Value} {a : Im4} {m0 m : Img} {ts : List Value} (hv : VarM W w.heap.size 26 v0 v1 v2 v3) (hr : VarM W (w.heap.size + 1) 26 (.slice none 0 0) (.slice none 0 0) (.slice none 0 0) (.slice none 0 0)) (ho : OwnIm W B a m ts) (hb : Below w.heap.size w W) (hB : w.heap.size + 2 ≤ B) (e1 : m.refs.length = m0.refs.length) (e2 : m.table.length = m0.table.length) (e3 : m.snaps.length = m0.snaps.length) (e4 : m.data.length = m0.data.length) : ImQ w (putI W w.heap.size a m0) B a m0 m ts := by
  obtain ⟨h1, h2, h3⟩ := ImSt.put hv ho hb (Nat.le_refl _) (by omega) a m0
  exact ⟨h1, (((hr.other (p := ⟨w.heap.size, 0, none⟩) (by simp) _).other (p := ⟨w.heap.size, 1, none⟩) (by simp) _).other (p := ⟨w.heap.size, 2, none⟩) (by simp) _).other (p := ⟨w.heap.size, 3, none⟩) (by simp) _, h2, h3, hB, e1, e2, e3, e4⟩
structure ImM (m : Img) : Prop where
  r : m.refs.length = 24
  d : m.data.length = 24
  t : m.table.length ≤ 12
  s : m.snaps.length ≤ 3
  st : ∀ s ∈ m.snaps, s.table.length ≤ 12 ∧ s.name.size ≤ 6
  tv : ∀ i (h : i < m.table.length), 0 ≤ m.table[i] ∧ m.table[i] ≤ 25
  sv : ∀ s ∈ m.snaps, ∀ i (h : i < s.table.length), 0 ≤ s.table[i] ∧ s.table[i] ≤ 25
  rv : ∀ c (h : c < m.refs.length), 0 ≤ m.refs[c] ∧ m.refs[c] ≤ 15
theorem ImM.L {m : Img} (h : ImM m) : ImL m := ⟨by rw [h.r]; unfold maxLen; omega, by have := h.t; unfold maxLen; omega, by have := h.s; unfold maxLen; omega, by rw [h.d]; unfold maxLen; omega⟩
theorem imWrite_in {m : Img} {g c : Nat} {v : Int} (hg : g < m.table.length) (hc : m.table[g] = (c : Int) + 2) (hr : c < m.refs.length) (h1 : m.refs[c] = 1) : imWrite m g v = ({ m with data := m.data.set c v }, 0) := by
  have e : m.table.getD g 0 = (c : Int) + 2 := by simp [List.getD, hg, hc]
  have e2 : ((c : Int) + 2 - 2).toNat = c := by omega
  have e3 : m.refs.getD c 0 = 1 := by simp [List.getD, hr, h1]
  unfold imWrite
  simp only [e, e2, e3]
  rw [if_pos ⟨by omega, trivial⟩]
theorem imWrite_out {m : Img} {g : Nat} {v : Int} (hg : g < m.table.length) (hn : ¬ (2 ≤ m.table[g] ∧ m.refs.getD (m.table[g] - 2).toNat 0 = 1)) : imWrite m g v = if frN m.refs < m.refs.length then ({ imDrop m m.table[g] with refs := (imDrop m m.table[g]).refs.set (frN m.refs) 1, data := (imDrop m m.table[g]).data.set (frN m.refs) v, table := (imDrop m m.table[g]).table.set g (2 + (frN m.refs : Int)) }, 0) else (m, 7) := by
  have e : m.table.getD g 0 = m.table[g] := by simp [List.getD, hg]
  unfold imWrite
  simp only [e]
  rw [if_neg hn]

end Go.Proofs.Ytpdpnepnfhbonaa

namespace Go.Proofs.Ytpdpnepnfhbonaa
open Go.RowKit Go.Maps
set_option linter.unusedVariables false
set_option maxRecDepth 100000

theorem lawI : Keyed Try.prog 3 := int_keyed Try.underlying3
theorem zeroI (w : World) : (zeroValue 3).run Try.prog w = .ok (.int .i64 0) w := by kernel_rfl
theorem wfI {n : Int} (h0 : -1000000 ≤ n) (h1 : n ≤ 1000000) : (Lit.int .i64 n).wf = true := WalkArith.wf_i64 (by omega)
theorem keyI {i : Nat} (h : i < 24) : keyOf Try.prog 3 (.int .i64 (i : Int)) = some (.int .i64 (i : Int)) := keyOf_int_mk Try.underlying3 (wfI (by omega) (by omega))
def MpC (w : World) (B n : Nat) (D : DataW Unit) (ns : List Int) : Prop := w.ownsMap Try.prog 3 (plainElem Try.prog 3) B n D ∧ ns.length = 24 ∧ (∀ i : Nat, i < 24 → D.atKey (.int .i64 (i : Int)) (.lit (.int .i64 0)) = .lit (.int .i64 (ns.getD i 0))) ∧ (∀ kl, has D kl = true → ∃ i : Nat, i < 24 ∧ kl = .int .i64 (i : Int))
theorem MpC.made (w : World) : MpC (w.alloc (.map #[] 0)) w.heap.size 0 (.map []) zero24 := ⟨World.ownsMap_made _ _ _ _, rfl, fun i hi => by
    have e : zero24.getD i 0 = 0 := by
      have h2 : ∀ i : Fin 24, zero24.getD i 0 = 0 := by decide
      exact h2 ⟨i, hi⟩
    rw [e]; rfl, fun kl h => by cases h⟩
theorem MpC.lt {w : World} {B n : Nat} {D : DataW Unit} {ns : List Int} (h : MpC w B n D ns) : B < w.heap.size := h.1.lt
theorem MpC.keep {S : Nat → Prop} {w w' : World} {B n : Nat} {D : DataW Unit} {ns : List Int} (h : MpC w B n D ns) (hk : Keep S w w') (hs : ¬ S B) : MpC w' B n D ns := by
  have hl := h.lt
  obtain ⟨⟨es, clock, hb, F, hn, hD⟩, h2⟩ := h
  exact ⟨⟨es, clock, (hk.block B hl hs).trans hb, F, hn, hD⟩, h2⟩
theorem MpC.below {w w' : World} {B n : Nat} {D : DataW Unit} {ns : List Int} (h : MpC w B n D ns) (hb : Below w.heap.size w w') : MpC w' B n D ns := h.keep (S := fun _ => False) (Keep.of_below hb) (fun h => h)
theorem MpC.mono {w : World} {B n n' : Nat} {D : DataW Unit} {ns : List Int} (h : MpC w B n D ns) (hn : n ≤ n') : MpC w B n' D ns := ⟨h.1.mono hn, h.2⟩
theorem MpC.put {w w' : World} {B n i : Nat} {D : DataW Unit} {ns : List Int} {c : Int} (h : MpC w B n D ns) (hi : i < 24) (ho : w'.ownsMap Try.prog 3 (plainElem Try.prog 3) B (n + 1) (D.put (.int .i64 (i : Int)) (.lit (.int .i64 c)))) : MpC w' B (n + 1) (D.put (.int .i64 (i : Int)) (.lit (.int .i64 c))) (ns.set i c) := by
  have hM : IsMap D := by obtain ⟨es, e, _⟩ := h.1.entries lawI; exact ⟨es, e⟩
  refine ⟨ho, by rw [List.length_set]; exact h.2.1, fun j hj => ?_, fun kl hk => ?_⟩
  · by_cases e : j = i
    · subst e
      rw [atKey_put_same (k := .int .i64 (j : Int)) hM trivial]
      simp [List.getD, h.2.1, hi]
    · rw [atKey_put_other (by intro h2; simp only [Lit.int.injEq, true_and] at h2; omega), h.2.2.1 j hj]
      simp [List.getD, Ne.symm e]
  · by_cases e : kl = .int .i64 (i : Int)
    · exact ⟨i, hi, e⟩
    · rw [has_put_other e] at hk
      exact h.2.2.2 kl hk
theorem MpC.look {w : World} {B n i : Nat} {D : DataW Unit} {ns : List Int} (h : MpC w B n D ns) (hi : i < 24) : (Instr.lookup 105 (.map (some B)) (.int .i64 (i : Int)) false).run Try.prog w = .ok (.int .i64 (ns.getD i 0)) w := by
  obtain ⟨c, hrun, hat, hwf⟩ := h.1.lookup_int lawI Try.underlying105 Try.underlying3 (zeroI _) (keyI hi)
  rw [h.2.2.1 i hi] at hat
  simp only [DataW.lit.injEq, Lit.int.injEq, true_and] at hat
  rw [hat]
  exact hrun
theorem fit_none : ∀ {clock : Nat}, Go.WideElems.Fit (H := Unit) Try.prog 3 (plainElem Try.prog 3) #[] clock := fun {clock} => ⟨by simp, MapKept.stamped_empty clock, by simp⟩
theorem MpC.clear {w : World} {B n : Nat} {D : DataW Unit} {ns : List Int} (h : MpC w B n D ns) (ty : TypeId) : ∃ w', (Builtin.clear_ #[105] ty #[.map (some B)]).run Try.prog w = .ok (.tuple #[]) w' ∧ MpC w' B 0 (.map []) zero24 ∧ Keep (fun g => g = B) w w' := by
  obtain ⟨⟨es, clock, hb, F, hn, hD⟩, h2⟩ := h
  refine ⟨ChangeMaps.setBlock w B (.map #[] clock), ?_, ⟨⟨#[], clock, ChangeMaps.heap_setBlock_same hb _, fit_none, Nat.le_refl _, rfl⟩, (MpC.made w).2⟩, ⟨rfl, rfl, rfl, by simp [ChangeMaps.setBlock], fun k _ hk => ChangeMaps.heap_setBlock_other hb _ hk⟩⟩
  simp [Builtin.clear_, run_underlying Try.underlying105, MapKept.run_getObj_map hb, MapKept.run_setObj_map _ hb, Result.andThen, ChangeMaps.setBlock]
theorem incr_get (ns : List Int) (hl : ns.length = 24) (c i : Nat) (hc : c < 24) (hi : i < 24) : (incr ns (c : Int)).getD i 0 = ns.getD i 0 + (if i = c then 1 else 0) := by
  rw [incr_set]
  simp only [List.getD, List.getElem?_set]
  by_cases e : i = c
  · subst e; simp [hl, hi]
  · simp [e, Ne.symm e]
theorem fold_incr_get (i : Nat) (hi : i < 24) : ∀ (L : List Int), (∀ c ∈ L, 0 ≤ c ∧ c ≤ 23) → ∀ ns : List Int, ns.length = 24 → (L.foldl incr ns).getD i 0 = ns.getD i 0 + (L.count (i : Int) : Int) := by
  intro L
  induction L with
  | nil => intro _ ns _; simp
  | cons c L ih =>
    intro hL ns hl
    obtain ⟨c0, c1⟩ := hL c (by simp)
    obtain ⟨q, rfl⟩ := Int.eq_ofNat_of_zero_le c0
    rw [List.foldl_cons, ih (fun d hd => hL d (by simp [hd])) _ (by rw [incr_len]; exact hl), incr_get ns hl q i (by omega) hi, List.count_cons]
    by_cases e : i = q
    · subst e; simp; omega
    · have e2 : ¬ ((q : Int) = (i : Int)) := by omega
      simp [e, e2]
theorem nodup_count : ∀ (L : List Int), L.Nodup ↔ ∀ x ∈ L, L.count x ≤ 1 := by
  intro L
  induction L with
  | nil => simp
  | cons c L ih =>
    rw [List.nodup_cons, ih]
    constructor
    · rintro ⟨h1, h2⟩ x hx
      rw [List.count_cons]
      by_cases e : c = x
      · subst e
        rw [List.count_eq_zero_of_not_mem h1]; simp
      · have : x ∈ L := by simpa [Ne.symm e] using hx
        have := h2 x this
        simp [e]; omega
    · intro h
      refine ⟨fun hm => ?_, fun x hx => ?_⟩
      · have h1 := h c (by simp)
        rw [List.count_cons] at h1
        have := List.count_pos_iff.2 hm
        simp at h1; omega
      · have h1 := h x (by simp [hx])
        rw [List.count_cons] at h1
        omega
theorem cl_mem {t : List Int} (h : tbB t = true) : ∀ c ∈ clA t, 0 ≤ c ∧ c ≤ 23 := fun c hc => by
  obtain ⟨j, hj, rfl⟩ := List.mem_iff_getElem.1 hc
  exact clA_in h j hj
theorem cnt1T_get {t : List Int} (h : tbB t = true) {ns : List Int} (hl : ns.length = 24) {i : Nat} (hi : i < 24) : (cnt1T ns t).getD i 0 = ns.getD i 0 + ((clA t).count (i : Int) : Int) := fold_incr_get i hi _ (cl_mem h) ns hl
theorem zero24_get {i : Nat} (hi : i < 24) : zero24.getD i 0 = 0 := by
  have h2 : ∀ i : Fin 24, zero24.getD i 0 = 0 := by decide
  exact h2 ⟨i, hi⟩
end Go.Proofs.Ytpdpnepnfhbonaa

namespace Go.Proofs.Ytpdpnepnfhbonaa
open Go.RowKit
set_option linter.unusedVariables false
set_option maxRecDepth 100000

end Go.Proofs.Ytpdpnepnfhbonaa

namespace Go.Proofs.Ytpdpnepnfhbonaa
open Go.RowKit
set_option linter.unusedVariables false
set_option maxRecDepth 100000

end Go.Proofs.Ytpdpnepnfhbonaa

namespace Go.Proofs.Ytpdpnepnfhbonaa
open Go.RowKit Go.Maps
set_option linter.unusedVariables false
set_option maxRecDepth 100000

def VarN (w : World) (x : Nat) (n : ByteArray) (v : Value) : Prop := w.heap[x]? = some (.cells #[.string n, v] 60 (0, 0))
theorem VarN.cells {w : World} {x : Nat} {n : ByteArray} {v : Value} (k : VarN w x n v) : w.cell? ⟨x, 0, none⟩ = some (.string n) ∧ w.cell? ⟨x, 1, none⟩ = some v := ⟨by rw [Joins.cell_of_block k]; rfl, by rw [Joins.cell_of_block k]; rfl⟩
theorem VarN.new (w : World) (n : ByteArray) (v : Value) : VarN (w.alloc (.cells #[.string n, v] 60)) w.heap.size n v := heap_alloc_new w _

def RowT (w : World) (qo : Option Addr) (ts : List (List Int)) : Prop := ∀ j (h : j < ts.length), ∃ b off tq tc, qo = some ⟨b, off, none⟩ ∧ w.cell? ⟨b, off + j, none⟩ = some (.slice tq ts[j].length tc) ∧ Is w tq ts[j]
theorem RowT.below {w w' : World} {qo : Option Addr} {ts : List (List Int)} (h : RowT w qo ts) (hb : Below w.heap.size w w') : RowT w' qo ts := fun j hj => by
  obtain ⟨b, off, tq, tc, e, h1, h2⟩ := h j hj
  exact ⟨b, off, tq, tc, e, (hb.cell (p := ⟨b, off + j, none⟩) (World.block_lt_of_cell? _ _ h1)).trans h1, h2.below hb⟩
set_option maxHeartbeats 3200000 in
theorem tablesOf_any (a : Im4) (m : Img) (w : World) (hs : m.snaps.length ≤ 3) (hc : ImS w a m) :
    Calls Try.prog 89 #[imV a m] w fun e w' => ∃ qo qa, e = .returned (.slice qo (imTabs m).length qa) ∧ RowT w' qo (imTabs m) ∧ Below w.heap.size w w' := by
  have HA := hide (Joins.below_alloc1 w (.cells #[.slice a.ro m.refs.length a.rc, .slice a.tq m.table.length a.tc, .slice a.so m.snaps.length a.sc, .slice a.dq m.data.length a.dc] 26))
  have HV := hide (VarM.new w 26 (.slice a.ro m.refs.length a.rc) (.slice a.tq m.table.length a.tc) (.slice a.so m.snaps.length a.sc) (.slice a.dq m.data.length a.dc))
  have HC := hide hc
  clear hc
  obtain ⟨j0, hj, hy0, hy1, hy2⟩ := info_parts infoTb
  go_enter Try.func89, Try.ntmps89
  go_upto_region 1 with fail
  revert HA HV
  generalize (w.alloc _) = w1
  intro HB1 HV1
  have HSZ0 : Hid (w.heap.size < w1.heap.size) := hide (unhide HV1).lt
  obtain ⟨c0, c1, c2, c3⟩ := (unhide HV1).cells
  have HOT : Hid (OwnR (w1.alloc (.cells #[.slice a.tq m.table.length a.tc] 23)) w1.heap.size 23 1 (.slice (some ⟨w1.heap.size, 0, none⟩) 1 1) 1 [.slice a.tq m.table.length a.tc]) := hide (.inr ⟨by omega, rfl, .inr ⟨w1.heap.size, 1, #[.slice a.tq m.table.length a.tc], rfl, Nat.le_refl _, heap_alloc_new w1 _, Nat.le_refl _, by unfold maxLen; omega, rfl, rfl⟩⟩)
  have HBA := hide (Joins.below_alloc1 w1 (.cells #[.slice a.tq m.table.length a.tc] 23))
  go_upto_region 2 with fail
  revert HOT HBA
  generalize (w1.alloc _) = W1
  intro HOT HBA
  clear c0 c1 c2 c3
  obtain ⟨c0, c1, c2, c3⟩ := ((unhide HV1).below (unhide HBA)).cells
  go_wp2
  clear c0 c1 c2 c3
  go_loopw [3, 12] (fun o i wr => ∃ (k : Nat) (qo : Option Addr) (qa : Nat) (vs : List Value), k ≤ m.snaps.length ∧ i = .int .i64 k ∧ o = .slice qo (k + 1) qa ∧ Hid (OwnR wr w1.heap.size 23 1 (.slice qo (k + 1) qa) (k + 1) vs) ∧ Hid (TabV w vs ((imTabs m).take (k + 1))) ∧ Hid (Below w1.heap.size w1 wr)) (fun _ i _ => m.snaps.length - (intOf i).toNat)
  case atStart => exact ⟨0, _, _, [.slice a.tq m.table.length a.tc], Nat.zero_le _, rfl, rfl, HOT, hide (by
    have h0 : TabV w [] [] := ⟨rfl, fun j h => by simp at h⟩
    have := h0.snoc (tc := a.tc) (unhide HC).t
    simpa [imTabs] using this), HBA⟩
  case round =>
    clear HOT HBA
    obtain ⟨k, qo, qa, vs, hk, rfl, rfl, HO, HT, HB⟩ := hrel
    by_cases hlt : k < m.snaps.length
    · obtain ⟨b, off, tq, tc, eb, hn0, ht0, hIs, hz, htl⟩ := ((unhide HC).s.below (fr (unhide HB1) (unhide HB))) k hlt
      obtain ⟨b', off', tq', tc', eb', _, ht0', hIs', _, _⟩ := (unhide HC).s k hlt
      rw [eb] at eb'
      cases eb'
      have ett : Value.slice tq' m.snaps[k].table.length tc' = .slice tq m.snaps[k].table.length tc := by
        have h1 := ((fr (unhide HB1) (unhide HB)).cell (p := ⟨b, off + k * 2 + 1, none⟩) (World.block_lt_of_cell? _ _ ht0')).trans ht0'
        rw [ht0] at h1
        exact (Option.some.inj h1).symm
      have hso := eb
      clear eb
      have hlti : (k : Int) < (m.snaps.length : Int) := by omega
      have HT' : Hid (TabV w (vs ++ [.slice tq m.snaps[k].table.length tc]) ((imTabs m).take (k + 1 + 1))) := hide (by
        rw [imTabs_take hlt, ← ett]
        exact (unhide HT).snoc hIs')
      have HX := hide (VarN.new wr m.snaps[k].name (.slice tq m.snaps[k].table.length tc))
      have HBX := hide (Joins.below_alloc1 wr (.cells #[.string m.snaps[k].name, .slice tq m.snaps[k].table.length tc] 60))
      have HSZ := hide (unhide HB).size
      clear hIs hIs' ht0' ett hz htl
      go_upto_region 5 with fail
      revert HX HBX
      generalize (wr.alloc _) = w2
      intro HX HBX
      obtain ⟨x0, x1⟩ := (unhide HX).cells
      have HO2 := hide ((unhide HO).below (unhide HBX))
      have HB2 := hide (fr (unhide HB) (unhide HBX))
      clear HX HBX hn0 ht0 hso
      have HOA := hide ((unhide HO2).below (Joins.below_alloc1 _ (.cells #[.slice tq m.snaps[k].table.length tc] 23)))
      have HBA := hide (fr (unhide HB2) (Joins.below_alloc1 _ (.cells #[.slice tq m.snaps[k].table.length tc] 23)))
      have HSZ2 := hide (unhide HB2).size
      go_wp2_with (at_builtin; refine wpList_append_one rfl _ _ 103 rfl w1.heap.size 23 j0 (.slice none 0 0) 1 24 Try.underlying103 hj hy0 hy1 hy2 rfl (by omega) qo (k + 1) qa vs rfl (unhide HOA) (by have := unhide HSZ2; simp; omega) ⟨w2.heap.size, 0, none⟩ _ [.slice tq m.snaps[k].table.length tc] rfl rfl (byte_news w2 _ _) (slice_one _ _ _) (by unfold maxLen; omega) (by omega) ?_; intro g2 cap2 wA hoA hkA; have HSF := hide (And.intro hoA (keep_below (unhide HBA) (unhide HOA) (Nat.le_refl _) hkA)); clear hoA hkA)
      go_roundw
      case rel => exact ⟨k + 1, some ⟨g2, 0, none⟩, cap2, vs ++ [.slice tq m.snaps[k].table.length tc], by omega, by go_num, rfl, hide (.inr ⟨by omega, (unhide HSF).1⟩), HT', hide (unhide HSF).2⟩
      case measure => simp [intOf]; omega
    · obtain rfl : k = m.snaps.length := by omega
      have HTT : Hid (TabV w vs (imTabs m)) := hide (by
        have := unhide HT
        rwa [List.take_of_length_le (by rw [imTabs_len]; exact Nat.le_refl _)] at this)
      have HLT := hide (imTabs_len m)
      have HB2 := hide (fr (unhide HB1) (unhide HB))
      have HR : Hid (RowT wr qo (imTabs m)) := hide (fun j hj => by
        have hjn : j < m.snaps.length + 1 := by rw [← unhide HLT]; exact hj
        obtain ⟨tq, tc, hvk, hIs⟩ := (unhide HTT).2 j hj
        obtain ⟨q2, cap2, cur2, eq2, _, _⟩ := own_form (by omega) ((unhide HO).row (by omega))
        have hcell := ((unhide HO).row (by omega))
        rw [eq2] at hcell
        have hck := (hcell.cellAt j (by omega)).trans hvk
        cases eq2
        exact ⟨q2, 0, tq, tc, rfl, by rw [Nat.zero_add]; exact hck, hIs.below (unhide HB2)⟩)
      go_wp2
      go_ret
      exact ⟨qo, qa, by rw [unhide HLT]; rfl, unhide HR, unhide HB2⟩

end Go.Proofs.Ytpdpnepnfhbonaa

namespace Go.Proofs.Ytpdpnepnfhbonaa
open Go.RowKit
set_option linter.unusedVariables false
set_option maxRecDepth 100000

def imFit (m : Img) : Img := { m with refs := imCnt m, data := (List.range 24).map fun i => if (imCnt m).getD i 0 = 0 then 0 else m.data.getD i 0 }
theorem getD_ext {xs ys : List Int} (h1 : xs.length = 24) (h2 : ys.length = 24) (h : ∀ i, i < 24 → xs.getD i 0 = ys.getD i 0) : xs = ys :=
  List.ext_getElem (by rw [h1, h2]) (fun i ha hb => by
    have := h i (by omega)
    simpa [List.getD, ha, hb] using this)
theorem range_getD {f : Nat → Int} {i : Nat} (hi : i < 24) : ((List.range 24).map f).getD i 0 = f i := by simp [List.getD, hi]
theorem MpC.setCell {w : World} {B n : Nat} {D : DataW Unit} {ns : List Int} (h : MpC w B n D ns) {p : Addr} {u : Value} (hc : w.cell? p = some u) (v : Value) : MpC (w.setCell p v) B n D ns := by
  have hk : Keep (fun g => g = p.block) w (w.setCell p v) := (Keep.refl (fun g => g = p.block) w).setCell (p := p) rfl v
  refine h.keep hk (fun e => ?_)
  obtain ⟨⟨es, clock, hb, _⟩, _⟩ := h
  have e' : B = p.block := e
  rw [e'] at hb
  simp [World.cell?, hb] at hc
end Go.Proofs.Ytpdpnepnfhbonaa
