import Derived.Test.YtjjkppknojecjaaGreatRows
import Derived.Test.YtjjkppknojecjaaGreatXPlainWorldPart4
import Derived.Test.YtjjkppknojecjaaGreatXPlainWorldPart1
import Derived.Test.YtjjkppknojecjaaGreatXPlainWorldPart2
import Derived.WalkKit
import Derived.WalkSpells
import Derived.Test.YtjjkppknojecjaaGreatXPlainWorldPart3
import Derived.LoopN
import Derived.Deep.RegionWith
import Derived.BigQuiet
import Derived.Deep.QuietTactic

namespace Go.Proofs.YtjjkppknojecjaaGreat
open Go.RowKit
set_option linter.unusedVariables false
set_option maxRecDepth 100000

structure OwJ (wr : World) (B x y k b off n sc0 : Nat) (so : Option Addr) (sc : Nat) (cs : List Value) (name : ByteArray) (tq : Option Addr) (tc : Nat) (tbl : List Int) (v0 v1 v3 : Value) (d : Nat → Bool) (w : World) (s26 s27 s28 s29 s30 s31 s32 s33 s34 s35 s36 s37 s38 s39 s40 s41 s42 s43 s44 s45 : Value) : Prop where
  b0 : d 18 = false → Below wr.heap.size wr w
  b1 : d 20 = false → Keep (Own (.slice so k sc)) wr w
  b2 : d 20 = true → Keep (fun g => Own (.slice so k sc) g ∨ g = y) wr w ∧ VarM w y 68 v0 v1 s44 v3
  f0 : d 0 = true → s26 = .pointer (some ⟨y, 2, none⟩)
  f1 : d 1 = true → s27 = .slice so k sc
  f2 : d 2 = true → s28 = .pointer (some ⟨x, 2, none⟩)
  f3 : d 3 = true → s29 = .slice (some ⟨b, off, none⟩) n sc0
  f4 : d 4 = true → s30 = .int .i64 k
  f5 : d 5 = true → s31 = .pointer (some ⟨b, off + k * 2, none⟩)
  f6 : d 6 = true → s32 = .pointer (some ⟨b, off + k * 2, none⟩)
  f7 : d 7 = true → s33 = .string name
  f8 : d 8 = true → Emp s34
  f9 : d 9 = true → s35 = .pointer (some ⟨x, 2, none⟩)
  f10 : d 10 = true → s36 = .slice (some ⟨b, off, none⟩) n sc0
  f11 : d 11 = true → s37 = .int .i64 k
  f12 : d 12 = true → s38 = .pointer (some ⟨b, off + k * 2, none⟩)
  f13 : d 13 = true → s39 = .pointer (some ⟨b, off + k * 2 + 1, none⟩)
  f14 : d 14 = true → s40 = .slice tq tbl.length tc
  f15 : d 15 = true → OwnN w wr.heap.size s41 tbl
  f16 : d 16 = true → s42 = .agg #[.string name, s41]
  f17 : d 17 = true → ∃ g, s43 = .slice (some ⟨g, 0, none⟩) 1 1 ∧ (d 18 = false → w.heap[g]? = some (.cells #[.string name, s41] 124 (0, 0)))
  f18 : d 18 = true → ∃ g2 cap2, s44 = .slice (some ⟨g2, 0, none⟩) (k + 1) cap2 ∧ w.ownsRow B 124 2 (.slice (some ⟨g2, 0, none⟩) (k + 1) cap2) (k + 1) (cs ++ [.string name, s41])
  f19 : d 19 = true → s45 = .pointer (some ⟨y, 2, none⟩)

theorem OwJ.s0 {wr : World} {B x y k b off n sc0 : Nat} {so : Option Addr} {sc : Nat} {cs : List Value} {name : ByteArray} {tq : Option Addr} {tc : Nat} {tbl : List Int} {v0 v1 v3 : Value} {d : Nat → Bool} {w : World} {s26 s27 s28 s29 s30 s31 s32 s33 s34 s35 s36 s37 s38 s39 s40 s41 s42 s43 s44 s45 v : Value} (I : OwJ wr B x y k b off n sc0 so sc cs name tq tc tbl v0 v1 v3 d w s26 s27 s28 s29 s30 s31 s32 s33 s34 s35 s36 s37 s38 s39 s40 s41 s42 s43 s44 s45) (hd : d 0 = false) (hv : v = .pointer (some ⟨y, 2, none⟩)) : OwJ wr B x y k b off n sc0 so sc cs name tq tc tbl v0 v1 v3 (updD d 0) w v s27 s28 s29 s30 s31 s32 s33 s34 s35 s36 s37 s38 s39 s40 s41 s42 s43 s44 s45 where
  b0 := fun h => I.b0 (upd_nf h)
  b1 := fun h => I.b1 (upd_nf h)
  b2 := fun h => I.b2 (upd_ne (by decide) h)
  f0 := fun _ => hv
  f1 := fun h => I.f1 (upd_ne (by decide) h)
  f2 := fun h => I.f2 (upd_ne (by decide) h)
  f3 := fun h => I.f3 (upd_ne (by decide) h)
  f4 := fun h => I.f4 (upd_ne (by decide) h)
  f5 := fun h => I.f5 (upd_ne (by decide) h)
  f6 := fun h => I.f6 (upd_ne (by decide) h)
  f7 := fun h => I.f7 (upd_ne (by decide) h)
  f8 := fun h => I.f8 (upd_ne (by decide) h)
  f9 := fun h => I.f9 (upd_ne (by decide) h)
  f10 := fun h => I.f10 (upd_ne (by decide) h)
  f11 := fun h => I.f11 (upd_ne (by decide) h)
  f12 := fun h => I.f12 (upd_ne (by decide) h)
  f13 := fun h => I.f13 (upd_ne (by decide) h)
  f14 := fun h => I.f14 (upd_ne (by decide) h)
  f15 := fun h => I.f15 (upd_ne (by decide) h)
  f16 := fun h => I.f16 (upd_ne (by decide) h)
  f17 := fun h => (I.f17 (upd_ne (by decide) h)).imp fun g hg => ⟨hg.1, fun h' => hg.2 (upd_nf h')⟩
  f18 := fun h => I.f18 (upd_ne (by decide) h)
  f19 := fun h => I.f19 (upd_ne (by decide) h)

theorem OwJ.s1 {wr : World} {B x y k b off n sc0 : Nat} {so : Option Addr} {sc : Nat} {cs : List Value} {name : ByteArray} {tq : Option Addr} {tc : Nat} {tbl : List Int} {v0 v1 v3 : Value} {d : Nat → Bool} {w : World} {s26 s27 s28 s29 s30 s31 s32 s33 s34 s35 s36 s37 s38 s39 s40 s41 s42 s43 s44 s45 v : Value} (I : OwJ wr B x y k b off n sc0 so sc cs name tq tc tbl v0 v1 v3 d w s26 s27 s28 s29 s30 s31 s32 s33 s34 s35 s36 s37 s38 s39 s40 s41 s42 s43 s44 s45) (hd : d 1 = false) (hv : v = .slice so k sc) : OwJ wr B x y k b off n sc0 so sc cs name tq tc tbl v0 v1 v3 (updD d 1) w s26 v s28 s29 s30 s31 s32 s33 s34 s35 s36 s37 s38 s39 s40 s41 s42 s43 s44 s45 where
  b0 := fun h => I.b0 (upd_nf h)
  b1 := fun h => I.b1 (upd_nf h)
  b2 := fun h => I.b2 (upd_ne (by decide) h)
  f0 := fun h => I.f0 (upd_ne (by decide) h)
  f1 := fun _ => hv
  f2 := fun h => I.f2 (upd_ne (by decide) h)
  f3 := fun h => I.f3 (upd_ne (by decide) h)
  f4 := fun h => I.f4 (upd_ne (by decide) h)
  f5 := fun h => I.f5 (upd_ne (by decide) h)
  f6 := fun h => I.f6 (upd_ne (by decide) h)
  f7 := fun h => I.f7 (upd_ne (by decide) h)
  f8 := fun h => I.f8 (upd_ne (by decide) h)
  f9 := fun h => I.f9 (upd_ne (by decide) h)
  f10 := fun h => I.f10 (upd_ne (by decide) h)
  f11 := fun h => I.f11 (upd_ne (by decide) h)
  f12 := fun h => I.f12 (upd_ne (by decide) h)
  f13 := fun h => I.f13 (upd_ne (by decide) h)
  f14 := fun h => I.f14 (upd_ne (by decide) h)
  f15 := fun h => I.f15 (upd_ne (by decide) h)
  f16 := fun h => I.f16 (upd_ne (by decide) h)
  f17 := fun h => (I.f17 (upd_ne (by decide) h)).imp fun g hg => ⟨hg.1, fun h' => hg.2 (upd_nf h')⟩
  f18 := fun h => I.f18 (upd_ne (by decide) h)
  f19 := fun h => I.f19 (upd_ne (by decide) h)

theorem OwJ.s2 {wr : World} {B x y k b off n sc0 : Nat} {so : Option Addr} {sc : Nat} {cs : List Value} {name : ByteArray} {tq : Option Addr} {tc : Nat} {tbl : List Int} {v0 v1 v3 : Value} {d : Nat → Bool} {w : World} {s26 s27 s28 s29 s30 s31 s32 s33 s34 s35 s36 s37 s38 s39 s40 s41 s42 s43 s44 s45 v : Value} (I : OwJ wr B x y k b off n sc0 so sc cs name tq tc tbl v0 v1 v3 d w s26 s27 s28 s29 s30 s31 s32 s33 s34 s35 s36 s37 s38 s39 s40 s41 s42 s43 s44 s45) (hd : d 2 = false) (hv : v = .pointer (some ⟨x, 2, none⟩)) : OwJ wr B x y k b off n sc0 so sc cs name tq tc tbl v0 v1 v3 (updD d 2) w s26 s27 v s29 s30 s31 s32 s33 s34 s35 s36 s37 s38 s39 s40 s41 s42 s43 s44 s45 where
  b0 := fun h => I.b0 (upd_nf h)
  b1 := fun h => I.b1 (upd_nf h)
  b2 := fun h => I.b2 (upd_ne (by decide) h)
  f0 := fun h => I.f0 (upd_ne (by decide) h)
  f1 := fun h => I.f1 (upd_ne (by decide) h)
  f2 := fun _ => hv
  f3 := fun h => I.f3 (upd_ne (by decide) h)
  f4 := fun h => I.f4 (upd_ne (by decide) h)
  f5 := fun h => I.f5 (upd_ne (by decide) h)
  f6 := fun h => I.f6 (upd_ne (by decide) h)
  f7 := fun h => I.f7 (upd_ne (by decide) h)
  f8 := fun h => I.f8 (upd_ne (by decide) h)
  f9 := fun h => I.f9 (upd_ne (by decide) h)
  f10 := fun h => I.f10 (upd_ne (by decide) h)
  f11 := fun h => I.f11 (upd_ne (by decide) h)
  f12 := fun h => I.f12 (upd_ne (by decide) h)
  f13 := fun h => I.f13 (upd_ne (by decide) h)
  f14 := fun h => I.f14 (upd_ne (by decide) h)
  f15 := fun h => I.f15 (upd_ne (by decide) h)
  f16 := fun h => I.f16 (upd_ne (by decide) h)
  f17 := fun h => (I.f17 (upd_ne (by decide) h)).imp fun g hg => ⟨hg.1, fun h' => hg.2 (upd_nf h')⟩
  f18 := fun h => I.f18 (upd_ne (by decide) h)
  f19 := fun h => I.f19 (upd_ne (by decide) h)

theorem OwJ.s3 {wr : World} {B x y k b off n sc0 : Nat} {so : Option Addr} {sc : Nat} {cs : List Value} {name : ByteArray} {tq : Option Addr} {tc : Nat} {tbl : List Int} {v0 v1 v3 : Value} {d : Nat → Bool} {w : World} {s26 s27 s28 s29 s30 s31 s32 s33 s34 s35 s36 s37 s38 s39 s40 s41 s42 s43 s44 s45 v : Value} (I : OwJ wr B x y k b off n sc0 so sc cs name tq tc tbl v0 v1 v3 d w s26 s27 s28 s29 s30 s31 s32 s33 s34 s35 s36 s37 s38 s39 s40 s41 s42 s43 s44 s45) (hd : d 3 = false) (hv : v = .slice (some ⟨b, off, none⟩) n sc0) : OwJ wr B x y k b off n sc0 so sc cs name tq tc tbl v0 v1 v3 (updD d 3) w s26 s27 s28 v s30 s31 s32 s33 s34 s35 s36 s37 s38 s39 s40 s41 s42 s43 s44 s45 where
  b0 := fun h => I.b0 (upd_nf h)
  b1 := fun h => I.b1 (upd_nf h)
  b2 := fun h => I.b2 (upd_ne (by decide) h)
  f0 := fun h => I.f0 (upd_ne (by decide) h)
  f1 := fun h => I.f1 (upd_ne (by decide) h)
  f2 := fun h => I.f2 (upd_ne (by decide) h)
  f3 := fun _ => hv
  f4 := fun h => I.f4 (upd_ne (by decide) h)
  f5 := fun h => I.f5 (upd_ne (by decide) h)
  f6 := fun h => I.f6 (upd_ne (by decide) h)
  f7 := fun h => I.f7 (upd_ne (by decide) h)
  f8 := fun h => I.f8 (upd_ne (by decide) h)
  f9 := fun h => I.f9 (upd_ne (by decide) h)
  f10 := fun h => I.f10 (upd_ne (by decide) h)
  f11 := fun h => I.f11 (upd_ne (by decide) h)
  f12 := fun h => I.f12 (upd_ne (by decide) h)
  f13 := fun h => I.f13 (upd_ne (by decide) h)
  f14 := fun h => I.f14 (upd_ne (by decide) h)
  f15 := fun h => I.f15 (upd_ne (by decide) h)
  f16 := fun h => I.f16 (upd_ne (by decide) h)
  f17 := fun h => (I.f17 (upd_ne (by decide) h)).imp fun g hg => ⟨hg.1, fun h' => hg.2 (upd_nf h')⟩
  f18 := fun h => I.f18 (upd_ne (by decide) h)
  f19 := fun h => I.f19 (upd_ne (by decide) h)

theorem OwJ.s4 {wr : World} {B x y k b off n sc0 : Nat} {so : Option Addr} {sc : Nat} {cs : List Value} {name : ByteArray} {tq : Option Addr} {tc : Nat} {tbl : List Int} {v0 v1 v3 : Value} {d : Nat → Bool} {w : World} {s26 s27 s28 s29 s30 s31 s32 s33 s34 s35 s36 s37 s38 s39 s40 s41 s42 s43 s44 s45 v : Value} (I : OwJ wr B x y k b off n sc0 so sc cs name tq tc tbl v0 v1 v3 d w s26 s27 s28 s29 s30 s31 s32 s33 s34 s35 s36 s37 s38 s39 s40 s41 s42 s43 s44 s45) (hd : d 4 = false) (hv : v = .int .i64 k) : OwJ wr B x y k b off n sc0 so sc cs name tq tc tbl v0 v1 v3 (updD d 4) w s26 s27 s28 s29 v s31 s32 s33 s34 s35 s36 s37 s38 s39 s40 s41 s42 s43 s44 s45 where
  b0 := fun h => I.b0 (upd_nf h)
  b1 := fun h => I.b1 (upd_nf h)
  b2 := fun h => I.b2 (upd_ne (by decide) h)
  f0 := fun h => I.f0 (upd_ne (by decide) h)
  f1 := fun h => I.f1 (upd_ne (by decide) h)
  f2 := fun h => I.f2 (upd_ne (by decide) h)
  f3 := fun h => I.f3 (upd_ne (by decide) h)
  f4 := fun _ => hv
  f5 := fun h => I.f5 (upd_ne (by decide) h)
  f6 := fun h => I.f6 (upd_ne (by decide) h)
  f7 := fun h => I.f7 (upd_ne (by decide) h)
  f8 := fun h => I.f8 (upd_ne (by decide) h)
  f9 := fun h => I.f9 (upd_ne (by decide) h)
  f10 := fun h => I.f10 (upd_ne (by decide) h)
  f11 := fun h => I.f11 (upd_ne (by decide) h)
  f12 := fun h => I.f12 (upd_ne (by decide) h)
  f13 := fun h => I.f13 (upd_ne (by decide) h)
  f14 := fun h => I.f14 (upd_ne (by decide) h)
  f15 := fun h => I.f15 (upd_ne (by decide) h)
  f16 := fun h => I.f16 (upd_ne (by decide) h)
  f17 := fun h => (I.f17 (upd_ne (by decide) h)).imp fun g hg => ⟨hg.1, fun h' => hg.2 (upd_nf h')⟩
  f18 := fun h => I.f18 (upd_ne (by decide) h)
  f19 := fun h => I.f19 (upd_ne (by decide) h)

theorem OwJ.s5 {wr : World} {B x y k b off n sc0 : Nat} {so : Option Addr} {sc : Nat} {cs : List Value} {name : ByteArray} {tq : Option Addr} {tc : Nat} {tbl : List Int} {v0 v1 v3 : Value} {d : Nat → Bool} {w : World} {s26 s27 s28 s29 s30 s31 s32 s33 s34 s35 s36 s37 s38 s39 s40 s41 s42 s43 s44 s45 v : Value} (I : OwJ wr B x y k b off n sc0 so sc cs name tq tc tbl v0 v1 v3 d w s26 s27 s28 s29 s30 s31 s32 s33 s34 s35 s36 s37 s38 s39 s40 s41 s42 s43 s44 s45) (hd : d 5 = false) (hv : v = .pointer (some ⟨b, off + k * 2, none⟩)) : OwJ wr B x y k b off n sc0 so sc cs name tq tc tbl v0 v1 v3 (updD d 5) w s26 s27 s28 s29 s30 v s32 s33 s34 s35 s36 s37 s38 s39 s40 s41 s42 s43 s44 s45 where
  b0 := fun h => I.b0 (upd_nf h)
  b1 := fun h => I.b1 (upd_nf h)
  b2 := fun h => I.b2 (upd_ne (by decide) h)
  f0 := fun h => I.f0 (upd_ne (by decide) h)
  f1 := fun h => I.f1 (upd_ne (by decide) h)
  f2 := fun h => I.f2 (upd_ne (by decide) h)
  f3 := fun h => I.f3 (upd_ne (by decide) h)
  f4 := fun h => I.f4 (upd_ne (by decide) h)
  f5 := fun _ => hv
  f6 := fun h => I.f6 (upd_ne (by decide) h)
  f7 := fun h => I.f7 (upd_ne (by decide) h)
  f8 := fun h => I.f8 (upd_ne (by decide) h)
  f9 := fun h => I.f9 (upd_ne (by decide) h)
  f10 := fun h => I.f10 (upd_ne (by decide) h)
  f11 := fun h => I.f11 (upd_ne (by decide) h)
  f12 := fun h => I.f12 (upd_ne (by decide) h)
  f13 := fun h => I.f13 (upd_ne (by decide) h)
  f14 := fun h => I.f14 (upd_ne (by decide) h)
  f15 := fun h => I.f15 (upd_ne (by decide) h)
  f16 := fun h => I.f16 (upd_ne (by decide) h)
  f17 := fun h => (I.f17 (upd_ne (by decide) h)).imp fun g hg => ⟨hg.1, fun h' => hg.2 (upd_nf h')⟩
  f18 := fun h => I.f18 (upd_ne (by decide) h)
  f19 := fun h => I.f19 (upd_ne (by decide) h)

theorem OwJ.s6 {wr : World} {B x y k b off n sc0 : Nat} {so : Option Addr} {sc : Nat} {cs : List Value} {name : ByteArray} {tq : Option Addr} {tc : Nat} {tbl : List Int} {v0 v1 v3 : Value} {d : Nat → Bool} {w : World} {s26 s27 s28 s29 s30 s31 s32 s33 s34 s35 s36 s37 s38 s39 s40 s41 s42 s43 s44 s45 v : Value} (I : OwJ wr B x y k b off n sc0 so sc cs name tq tc tbl v0 v1 v3 d w s26 s27 s28 s29 s30 s31 s32 s33 s34 s35 s36 s37 s38 s39 s40 s41 s42 s43 s44 s45) (hd : d 6 = false) (hv : v = .pointer (some ⟨b, off + k * 2, none⟩)) : OwJ wr B x y k b off n sc0 so sc cs name tq tc tbl v0 v1 v3 (updD d 6) w s26 s27 s28 s29 s30 s31 v s33 s34 s35 s36 s37 s38 s39 s40 s41 s42 s43 s44 s45 where
  b0 := fun h => I.b0 (upd_nf h)
  b1 := fun h => I.b1 (upd_nf h)
  b2 := fun h => I.b2 (upd_ne (by decide) h)
  f0 := fun h => I.f0 (upd_ne (by decide) h)
  f1 := fun h => I.f1 (upd_ne (by decide) h)
  f2 := fun h => I.f2 (upd_ne (by decide) h)
  f3 := fun h => I.f3 (upd_ne (by decide) h)
  f4 := fun h => I.f4 (upd_ne (by decide) h)
  f5 := fun h => I.f5 (upd_ne (by decide) h)
  f6 := fun _ => hv
  f7 := fun h => I.f7 (upd_ne (by decide) h)
  f8 := fun h => I.f8 (upd_ne (by decide) h)
  f9 := fun h => I.f9 (upd_ne (by decide) h)
  f10 := fun h => I.f10 (upd_ne (by decide) h)
  f11 := fun h => I.f11 (upd_ne (by decide) h)
  f12 := fun h => I.f12 (upd_ne (by decide) h)
  f13 := fun h => I.f13 (upd_ne (by decide) h)
  f14 := fun h => I.f14 (upd_ne (by decide) h)
  f15 := fun h => I.f15 (upd_ne (by decide) h)
  f16 := fun h => I.f16 (upd_ne (by decide) h)
  f17 := fun h => (I.f17 (upd_ne (by decide) h)).imp fun g hg => ⟨hg.1, fun h' => hg.2 (upd_nf h')⟩
  f18 := fun h => I.f18 (upd_ne (by decide) h)
  f19 := fun h => I.f19 (upd_ne (by decide) h)

theorem OwJ.s7 {wr : World} {B x y k b off n sc0 : Nat} {so : Option Addr} {sc : Nat} {cs : List Value} {name : ByteArray} {tq : Option Addr} {tc : Nat} {tbl : List Int} {v0 v1 v3 : Value} {d : Nat → Bool} {w : World} {s26 s27 s28 s29 s30 s31 s32 s33 s34 s35 s36 s37 s38 s39 s40 s41 s42 s43 s44 s45 v : Value} (I : OwJ wr B x y k b off n sc0 so sc cs name tq tc tbl v0 v1 v3 d w s26 s27 s28 s29 s30 s31 s32 s33 s34 s35 s36 s37 s38 s39 s40 s41 s42 s43 s44 s45) (hd : d 7 = false) (hv : v = .string name) : OwJ wr B x y k b off n sc0 so sc cs name tq tc tbl v0 v1 v3 (updD d 7) w s26 s27 s28 s29 s30 s31 s32 v s34 s35 s36 s37 s38 s39 s40 s41 s42 s43 s44 s45 where
  b0 := fun h => I.b0 (upd_nf h)
  b1 := fun h => I.b1 (upd_nf h)
  b2 := fun h => I.b2 (upd_ne (by decide) h)
  f0 := fun h => I.f0 (upd_ne (by decide) h)
  f1 := fun h => I.f1 (upd_ne (by decide) h)
  f2 := fun h => I.f2 (upd_ne (by decide) h)
  f3 := fun h => I.f3 (upd_ne (by decide) h)
  f4 := fun h => I.f4 (upd_ne (by decide) h)
  f5 := fun h => I.f5 (upd_ne (by decide) h)
  f6 := fun h => I.f6 (upd_ne (by decide) h)
  f7 := fun _ => hv
  f8 := fun h => I.f8 (upd_ne (by decide) h)
  f9 := fun h => I.f9 (upd_ne (by decide) h)
  f10 := fun h => I.f10 (upd_ne (by decide) h)
  f11 := fun h => I.f11 (upd_ne (by decide) h)
  f12 := fun h => I.f12 (upd_ne (by decide) h)
  f13 := fun h => I.f13 (upd_ne (by decide) h)
  f14 := fun h => I.f14 (upd_ne (by decide) h)
  f15 := fun h => I.f15 (upd_ne (by decide) h)
  f16 := fun h => I.f16 (upd_ne (by decide) h)
  f17 := fun h => (I.f17 (upd_ne (by decide) h)).imp fun g hg => ⟨hg.1, fun h' => hg.2 (upd_nf h')⟩
  f18 := fun h => I.f18 (upd_ne (by decide) h)
  f19 := fun h => I.f19 (upd_ne (by decide) h)

theorem OwJ.s8 {wr : World} {B x y k b off n sc0 : Nat} {so : Option Addr} {sc : Nat} {cs : List Value} {name : ByteArray} {tq : Option Addr} {tc : Nat} {tbl : List Int} {v0 v1 v3 : Value} {d : Nat → Bool} {w w2 : World} {s26 s27 s28 s29 s30 s31 s32 s33 s34 s35 s36 s37 s38 s39 s40 s41 s42 s43 s44 s45 v : Value} (I : OwJ wr B x y k b off n sc0 so sc cs name tq tc tbl v0 v1 v3 d w s26 s27 s28 s29 s30 s31 s32 s33 s34 s35 s36 s37 s38 s39 s40 s41 s42 s43 s44 s45) (hd : d 8 = false) (h18 : d 18 = false) (h20 : d 20 = false) (hb : Below w.heap.size w w2) (hv : Emp v) : OwJ wr B x y k b off n sc0 so sc cs name tq tc tbl v0 v1 v3 (updD d 8) w2 s26 s27 s28 s29 s30 s31 s32 s33 v s35 s36 s37 s38 s39 s40 s41 s42 s43 s44 s45 where
  b0 := fun h => fr (I.b0 h18) hb
  b1 := fun h => (I.b1 h20).trans (Keep.of_below hb)
  b2 := fun h => no_d (upd_ne (by decide) h) h20
  f0 := fun h => I.f0 (upd_ne (by decide) h)
  f1 := fun h => I.f1 (upd_ne (by decide) h)
  f2 := fun h => I.f2 (upd_ne (by decide) h)
  f3 := fun h => I.f3 (upd_ne (by decide) h)
  f4 := fun h => I.f4 (upd_ne (by decide) h)
  f5 := fun h => I.f5 (upd_ne (by decide) h)
  f6 := fun h => I.f6 (upd_ne (by decide) h)
  f7 := fun h => I.f7 (upd_ne (by decide) h)
  f8 := fun _ => hv
  f9 := fun h => I.f9 (upd_ne (by decide) h)
  f10 := fun h => I.f10 (upd_ne (by decide) h)
  f11 := fun h => I.f11 (upd_ne (by decide) h)
  f12 := fun h => I.f12 (upd_ne (by decide) h)
  f13 := fun h => I.f13 (upd_ne (by decide) h)
  f14 := fun h => I.f14 (upd_ne (by decide) h)
  f15 := fun h => (I.f15 (upd_ne (by decide) h)).below hb
  f16 := fun h => I.f16 (upd_ne (by decide) h)
  f17 := fun h => (I.f17 (upd_ne (by decide) h)).imp fun g hg => ⟨hg.1, fun h' => blk_belowI (hg.2 (upd_nf h')) hb⟩
  f18 := fun h => no_d (upd_ne (by decide) h) h18
  f19 := fun h => I.f19 (upd_ne (by decide) h)

theorem OwJ.s9 {wr : World} {B x y k b off n sc0 : Nat} {so : Option Addr} {sc : Nat} {cs : List Value} {name : ByteArray} {tq : Option Addr} {tc : Nat} {tbl : List Int} {v0 v1 v3 : Value} {d : Nat → Bool} {w : World} {s26 s27 s28 s29 s30 s31 s32 s33 s34 s35 s36 s37 s38 s39 s40 s41 s42 s43 s44 s45 v : Value} (I : OwJ wr B x y k b off n sc0 so sc cs name tq tc tbl v0 v1 v3 d w s26 s27 s28 s29 s30 s31 s32 s33 s34 s35 s36 s37 s38 s39 s40 s41 s42 s43 s44 s45) (hd : d 9 = false) (hv : v = .pointer (some ⟨x, 2, none⟩)) : OwJ wr B x y k b off n sc0 so sc cs name tq tc tbl v0 v1 v3 (updD d 9) w s26 s27 s28 s29 s30 s31 s32 s33 s34 v s36 s37 s38 s39 s40 s41 s42 s43 s44 s45 where
  b0 := fun h => I.b0 (upd_nf h)
  b1 := fun h => I.b1 (upd_nf h)
  b2 := fun h => I.b2 (upd_ne (by decide) h)
  f0 := fun h => I.f0 (upd_ne (by decide) h)
  f1 := fun h => I.f1 (upd_ne (by decide) h)
  f2 := fun h => I.f2 (upd_ne (by decide) h)
  f3 := fun h => I.f3 (upd_ne (by decide) h)
  f4 := fun h => I.f4 (upd_ne (by decide) h)
  f5 := fun h => I.f5 (upd_ne (by decide) h)
  f6 := fun h => I.f6 (upd_ne (by decide) h)
  f7 := fun h => I.f7 (upd_ne (by decide) h)
  f8 := fun h => I.f8 (upd_ne (by decide) h)
  f9 := fun _ => hv
  f10 := fun h => I.f10 (upd_ne (by decide) h)
  f11 := fun h => I.f11 (upd_ne (by decide) h)
  f12 := fun h => I.f12 (upd_ne (by decide) h)
  f13 := fun h => I.f13 (upd_ne (by decide) h)
  f14 := fun h => I.f14 (upd_ne (by decide) h)
  f15 := fun h => I.f15 (upd_ne (by decide) h)
  f16 := fun h => I.f16 (upd_ne (by decide) h)
  f17 := fun h => (I.f17 (upd_ne (by decide) h)).imp fun g hg => ⟨hg.1, fun h' => hg.2 (upd_nf h')⟩
  f18 := fun h => I.f18 (upd_ne (by decide) h)
  f19 := fun h => I.f19 (upd_ne (by decide) h)

theorem OwJ.s10 {wr : World} {B x y k b off n sc0 : Nat} {so : Option Addr} {sc : Nat} {cs : List Value} {name : ByteArray} {tq : Option Addr} {tc : Nat} {tbl : List Int} {v0 v1 v3 : Value} {d : Nat → Bool} {w : World} {s26 s27 s28 s29 s30 s31 s32 s33 s34 s35 s36 s37 s38 s39 s40 s41 s42 s43 s44 s45 v : Value} (I : OwJ wr B x y k b off n sc0 so sc cs name tq tc tbl v0 v1 v3 d w s26 s27 s28 s29 s30 s31 s32 s33 s34 s35 s36 s37 s38 s39 s40 s41 s42 s43 s44 s45) (hd : d 10 = false) (hv : v = .slice (some ⟨b, off, none⟩) n sc0) : OwJ wr B x y k b off n sc0 so sc cs name tq tc tbl v0 v1 v3 (updD d 10) w s26 s27 s28 s29 s30 s31 s32 s33 s34 s35 v s37 s38 s39 s40 s41 s42 s43 s44 s45 where
  b0 := fun h => I.b0 (upd_nf h)
  b1 := fun h => I.b1 (upd_nf h)
  b2 := fun h => I.b2 (upd_ne (by decide) h)
  f0 := fun h => I.f0 (upd_ne (by decide) h)
  f1 := fun h => I.f1 (upd_ne (by decide) h)
  f2 := fun h => I.f2 (upd_ne (by decide) h)
  f3 := fun h => I.f3 (upd_ne (by decide) h)
  f4 := fun h => I.f4 (upd_ne (by decide) h)
  f5 := fun h => I.f5 (upd_ne (by decide) h)
  f6 := fun h => I.f6 (upd_ne (by decide) h)
  f7 := fun h => I.f7 (upd_ne (by decide) h)
  f8 := fun h => I.f8 (upd_ne (by decide) h)
  f9 := fun h => I.f9 (upd_ne (by decide) h)
  f10 := fun _ => hv
  f11 := fun h => I.f11 (upd_ne (by decide) h)
  f12 := fun h => I.f12 (upd_ne (by decide) h)
  f13 := fun h => I.f13 (upd_ne (by decide) h)
  f14 := fun h => I.f14 (upd_ne (by decide) h)
  f15 := fun h => I.f15 (upd_ne (by decide) h)
  f16 := fun h => I.f16 (upd_ne (by decide) h)
  f17 := fun h => (I.f17 (upd_ne (by decide) h)).imp fun g hg => ⟨hg.1, fun h' => hg.2 (upd_nf h')⟩
  f18 := fun h => I.f18 (upd_ne (by decide) h)
  f19 := fun h => I.f19 (upd_ne (by decide) h)

theorem OwJ.s11 {wr : World} {B x y k b off n sc0 : Nat} {so : Option Addr} {sc : Nat} {cs : List Value} {name : ByteArray} {tq : Option Addr} {tc : Nat} {tbl : List Int} {v0 v1 v3 : Value} {d : Nat → Bool} {w : World} {s26 s27 s28 s29 s30 s31 s32 s33 s34 s35 s36 s37 s38 s39 s40 s41 s42 s43 s44 s45 v : Value} (I : OwJ wr B x y k b off n sc0 so sc cs name tq tc tbl v0 v1 v3 d w s26 s27 s28 s29 s30 s31 s32 s33 s34 s35 s36 s37 s38 s39 s40 s41 s42 s43 s44 s45) (hd : d 11 = false) (hv : v = .int .i64 k) : OwJ wr B x y k b off n sc0 so sc cs name tq tc tbl v0 v1 v3 (updD d 11) w s26 s27 s28 s29 s30 s31 s32 s33 s34 s35 s36 v s38 s39 s40 s41 s42 s43 s44 s45 where
  b0 := fun h => I.b0 (upd_nf h)
  b1 := fun h => I.b1 (upd_nf h)
  b2 := fun h => I.b2 (upd_ne (by decide) h)
  f0 := fun h => I.f0 (upd_ne (by decide) h)
  f1 := fun h => I.f1 (upd_ne (by decide) h)
  f2 := fun h => I.f2 (upd_ne (by decide) h)
  f3 := fun h => I.f3 (upd_ne (by decide) h)
  f4 := fun h => I.f4 (upd_ne (by decide) h)
  f5 := fun h => I.f5 (upd_ne (by decide) h)
  f6 := fun h => I.f6 (upd_ne (by decide) h)
  f7 := fun h => I.f7 (upd_ne (by decide) h)
  f8 := fun h => I.f8 (upd_ne (by decide) h)
  f9 := fun h => I.f9 (upd_ne (by decide) h)
  f10 := fun h => I.f10 (upd_ne (by decide) h)
  f11 := fun _ => hv
  f12 := fun h => I.f12 (upd_ne (by decide) h)
  f13 := fun h => I.f13 (upd_ne (by decide) h)
  f14 := fun h => I.f14 (upd_ne (by decide) h)
  f15 := fun h => I.f15 (upd_ne (by decide) h)
  f16 := fun h => I.f16 (upd_ne (by decide) h)
  f17 := fun h => (I.f17 (upd_ne (by decide) h)).imp fun g hg => ⟨hg.1, fun h' => hg.2 (upd_nf h')⟩
  f18 := fun h => I.f18 (upd_ne (by decide) h)
  f19 := fun h => I.f19 (upd_ne (by decide) h)

theorem OwJ.s12 {wr : World} {B x y k b off n sc0 : Nat} {so : Option Addr} {sc : Nat} {cs : List Value} {name : ByteArray} {tq : Option Addr} {tc : Nat} {tbl : List Int} {v0 v1 v3 : Value} {d : Nat → Bool} {w : World} {s26 s27 s28 s29 s30 s31 s32 s33 s34 s35 s36 s37 s38 s39 s40 s41 s42 s43 s44 s45 v : Value} (I : OwJ wr B x y k b off n sc0 so sc cs name tq tc tbl v0 v1 v3 d w s26 s27 s28 s29 s30 s31 s32 s33 s34 s35 s36 s37 s38 s39 s40 s41 s42 s43 s44 s45) (hd : d 12 = false) (hv : v = .pointer (some ⟨b, off + k * 2, none⟩)) : OwJ wr B x y k b off n sc0 so sc cs name tq tc tbl v0 v1 v3 (updD d 12) w s26 s27 s28 s29 s30 s31 s32 s33 s34 s35 s36 s37 v s39 s40 s41 s42 s43 s44 s45 where
  b0 := fun h => I.b0 (upd_nf h)
  b1 := fun h => I.b1 (upd_nf h)
  b2 := fun h => I.b2 (upd_ne (by decide) h)
  f0 := fun h => I.f0 (upd_ne (by decide) h)
  f1 := fun h => I.f1 (upd_ne (by decide) h)
  f2 := fun h => I.f2 (upd_ne (by decide) h)
  f3 := fun h => I.f3 (upd_ne (by decide) h)
  f4 := fun h => I.f4 (upd_ne (by decide) h)
  f5 := fun h => I.f5 (upd_ne (by decide) h)
  f6 := fun h => I.f6 (upd_ne (by decide) h)
  f7 := fun h => I.f7 (upd_ne (by decide) h)
  f8 := fun h => I.f8 (upd_ne (by decide) h)
  f9 := fun h => I.f9 (upd_ne (by decide) h)
  f10 := fun h => I.f10 (upd_ne (by decide) h)
  f11 := fun h => I.f11 (upd_ne (by decide) h)
  f12 := fun _ => hv
  f13 := fun h => I.f13 (upd_ne (by decide) h)
  f14 := fun h => I.f14 (upd_ne (by decide) h)
  f15 := fun h => I.f15 (upd_ne (by decide) h)
  f16 := fun h => I.f16 (upd_ne (by decide) h)
  f17 := fun h => (I.f17 (upd_ne (by decide) h)).imp fun g hg => ⟨hg.1, fun h' => hg.2 (upd_nf h')⟩
  f18 := fun h => I.f18 (upd_ne (by decide) h)
  f19 := fun h => I.f19 (upd_ne (by decide) h)

theorem OwJ.s13 {wr : World} {B x y k b off n sc0 : Nat} {so : Option Addr} {sc : Nat} {cs : List Value} {name : ByteArray} {tq : Option Addr} {tc : Nat} {tbl : List Int} {v0 v1 v3 : Value} {d : Nat → Bool} {w : World} {s26 s27 s28 s29 s30 s31 s32 s33 s34 s35 s36 s37 s38 s39 s40 s41 s42 s43 s44 s45 v : Value} (I : OwJ wr B x y k b off n sc0 so sc cs name tq tc tbl v0 v1 v3 d w s26 s27 s28 s29 s30 s31 s32 s33 s34 s35 s36 s37 s38 s39 s40 s41 s42 s43 s44 s45) (hd : d 13 = false) (hv : v = .pointer (some ⟨b, off + k * 2 + 1, none⟩)) : OwJ wr B x y k b off n sc0 so sc cs name tq tc tbl v0 v1 v3 (updD d 13) w s26 s27 s28 s29 s30 s31 s32 s33 s34 s35 s36 s37 s38 v s40 s41 s42 s43 s44 s45 where
  b0 := fun h => I.b0 (upd_nf h)
  b1 := fun h => I.b1 (upd_nf h)
  b2 := fun h => I.b2 (upd_ne (by decide) h)
  f0 := fun h => I.f0 (upd_ne (by decide) h)
  f1 := fun h => I.f1 (upd_ne (by decide) h)
  f2 := fun h => I.f2 (upd_ne (by decide) h)
  f3 := fun h => I.f3 (upd_ne (by decide) h)
  f4 := fun h => I.f4 (upd_ne (by decide) h)
  f5 := fun h => I.f5 (upd_ne (by decide) h)
  f6 := fun h => I.f6 (upd_ne (by decide) h)
  f7 := fun h => I.f7 (upd_ne (by decide) h)
  f8 := fun h => I.f8 (upd_ne (by decide) h)
  f9 := fun h => I.f9 (upd_ne (by decide) h)
  f10 := fun h => I.f10 (upd_ne (by decide) h)
  f11 := fun h => I.f11 (upd_ne (by decide) h)
  f12 := fun h => I.f12 (upd_ne (by decide) h)
  f13 := fun _ => hv
  f14 := fun h => I.f14 (upd_ne (by decide) h)
  f15 := fun h => I.f15 (upd_ne (by decide) h)
  f16 := fun h => I.f16 (upd_ne (by decide) h)
  f17 := fun h => (I.f17 (upd_ne (by decide) h)).imp fun g hg => ⟨hg.1, fun h' => hg.2 (upd_nf h')⟩
  f18 := fun h => I.f18 (upd_ne (by decide) h)
  f19 := fun h => I.f19 (upd_ne (by decide) h)

theorem OwJ.s14 {wr : World} {B x y k b off n sc0 : Nat} {so : Option Addr} {sc : Nat} {cs : List Value} {name : ByteArray} {tq : Option Addr} {tc : Nat} {tbl : List Int} {v0 v1 v3 : Value} {d : Nat → Bool} {w : World} {s26 s27 s28 s29 s30 s31 s32 s33 s34 s35 s36 s37 s38 s39 s40 s41 s42 s43 s44 s45 v : Value} (I : OwJ wr B x y k b off n sc0 so sc cs name tq tc tbl v0 v1 v3 d w s26 s27 s28 s29 s30 s31 s32 s33 s34 s35 s36 s37 s38 s39 s40 s41 s42 s43 s44 s45) (hd : d 14 = false) (hv : v = .slice tq tbl.length tc) : OwJ wr B x y k b off n sc0 so sc cs name tq tc tbl v0 v1 v3 (updD d 14) w s26 s27 s28 s29 s30 s31 s32 s33 s34 s35 s36 s37 s38 s39 v s41 s42 s43 s44 s45 where
  b0 := fun h => I.b0 (upd_nf h)
  b1 := fun h => I.b1 (upd_nf h)
  b2 := fun h => I.b2 (upd_ne (by decide) h)
  f0 := fun h => I.f0 (upd_ne (by decide) h)
  f1 := fun h => I.f1 (upd_ne (by decide) h)
  f2 := fun h => I.f2 (upd_ne (by decide) h)
  f3 := fun h => I.f3 (upd_ne (by decide) h)
  f4 := fun h => I.f4 (upd_ne (by decide) h)
  f5 := fun h => I.f5 (upd_ne (by decide) h)
  f6 := fun h => I.f6 (upd_ne (by decide) h)
  f7 := fun h => I.f7 (upd_ne (by decide) h)
  f8 := fun h => I.f8 (upd_ne (by decide) h)
  f9 := fun h => I.f9 (upd_ne (by decide) h)
  f10 := fun h => I.f10 (upd_ne (by decide) h)
  f11 := fun h => I.f11 (upd_ne (by decide) h)
  f12 := fun h => I.f12 (upd_ne (by decide) h)
  f13 := fun h => I.f13 (upd_ne (by decide) h)
  f14 := fun _ => hv
  f15 := fun h => I.f15 (upd_ne (by decide) h)
  f16 := fun h => I.f16 (upd_ne (by decide) h)
  f17 := fun h => (I.f17 (upd_ne (by decide) h)).imp fun g hg => ⟨hg.1, fun h' => hg.2 (upd_nf h')⟩
  f18 := fun h => I.f18 (upd_ne (by decide) h)
  f19 := fun h => I.f19 (upd_ne (by decide) h)

theorem OwJ.s15 {wr : World} {B x y k b off n sc0 : Nat} {so : Option Addr} {sc : Nat} {cs : List Value} {name : ByteArray} {tq : Option Addr} {tc : Nat} {tbl : List Int} {v0 v1 v3 : Value} {d : Nat → Bool} {w w2 : World} {s26 s27 s28 s29 s30 s31 s32 s33 s34 s35 s36 s37 s38 s39 s40 s41 s42 s43 s44 s45 v : Value} (I : OwJ wr B x y k b off n sc0 so sc cs name tq tc tbl v0 v1 v3 d w s26 s27 s28 s29 s30 s31 s32 s33 s34 s35 s36 s37 s38 s39 s40 s41 s42 s43 s44 s45) (hd : d 15 = false) (h18 : d 18 = false) (h20 : d 20 = false) (hb : Below w.heap.size w w2) (h16 : d 16 = false) (h17 : d 17 = false) (hv : OwnN w2 w.heap.size v tbl) : OwJ wr B x y k b off n sc0 so sc cs name tq tc tbl v0 v1 v3 (updD d 15) w2 s26 s27 s28 s29 s30 s31 s32 s33 s34 s35 s36 s37 s38 s39 s40 v s42 s43 s44 s45 where
  b0 := fun h => fr (I.b0 h18) hb
  b1 := fun h => (I.b1 h20).trans (Keep.of_below hb)
  b2 := fun h => no_d (upd_ne (by decide) h) h20
  f0 := fun h => I.f0 (upd_ne (by decide) h)
  f1 := fun h => I.f1 (upd_ne (by decide) h)
  f2 := fun h => I.f2 (upd_ne (by decide) h)
  f3 := fun h => I.f3 (upd_ne (by decide) h)
  f4 := fun h => I.f4 (upd_ne (by decide) h)
  f5 := fun h => I.f5 (upd_ne (by decide) h)
  f6 := fun h => I.f6 (upd_ne (by decide) h)
  f7 := fun h => I.f7 (upd_ne (by decide) h)
  f8 := fun h => I.f8 (upd_ne (by decide) h)
  f9 := fun h => I.f9 (upd_ne (by decide) h)
  f10 := fun h => I.f10 (upd_ne (by decide) h)
  f11 := fun h => I.f11 (upd_ne (by decide) h)
  f12 := fun h => I.f12 (upd_ne (by decide) h)
  f13 := fun h => I.f13 (upd_ne (by decide) h)
  f14 := fun h => I.f14 (upd_ne (by decide) h)
  f15 := fun _ => hv.base (I.b0 h18).size
  f16 := fun h => no_d (upd_ne (by decide) h) h16
  f17 := fun h => no_d (upd_ne (by decide) h) h17
  f18 := fun h => no_d (upd_ne (by decide) h) h18
  f19 := fun h => I.f19 (upd_ne (by decide) h)

theorem OwJ.s16 {wr : World} {B x y k b off n sc0 : Nat} {so : Option Addr} {sc : Nat} {cs : List Value} {name : ByteArray} {tq : Option Addr} {tc : Nat} {tbl : List Int} {v0 v1 v3 : Value} {d : Nat → Bool} {w : World} {s26 s27 s28 s29 s30 s31 s32 s33 s34 s35 s36 s37 s38 s39 s40 s41 s42 s43 s44 s45 v : Value} (I : OwJ wr B x y k b off n sc0 so sc cs name tq tc tbl v0 v1 v3 d w s26 s27 s28 s29 s30 s31 s32 s33 s34 s35 s36 s37 s38 s39 s40 s41 s42 s43 s44 s45) (hd : d 16 = false) (hv : v = .agg #[.string name, s41]) : OwJ wr B x y k b off n sc0 so sc cs name tq tc tbl v0 v1 v3 (updD d 16) w s26 s27 s28 s29 s30 s31 s32 s33 s34 s35 s36 s37 s38 s39 s40 s41 v s43 s44 s45 where
  b0 := fun h => I.b0 (upd_nf h)
  b1 := fun h => I.b1 (upd_nf h)
  b2 := fun h => I.b2 (upd_ne (by decide) h)
  f0 := fun h => I.f0 (upd_ne (by decide) h)
  f1 := fun h => I.f1 (upd_ne (by decide) h)
  f2 := fun h => I.f2 (upd_ne (by decide) h)
  f3 := fun h => I.f3 (upd_ne (by decide) h)
  f4 := fun h => I.f4 (upd_ne (by decide) h)
  f5 := fun h => I.f5 (upd_ne (by decide) h)
  f6 := fun h => I.f6 (upd_ne (by decide) h)
  f7 := fun h => I.f7 (upd_ne (by decide) h)
  f8 := fun h => I.f8 (upd_ne (by decide) h)
  f9 := fun h => I.f9 (upd_ne (by decide) h)
  f10 := fun h => I.f10 (upd_ne (by decide) h)
  f11 := fun h => I.f11 (upd_ne (by decide) h)
  f12 := fun h => I.f12 (upd_ne (by decide) h)
  f13 := fun h => I.f13 (upd_ne (by decide) h)
  f14 := fun h => I.f14 (upd_ne (by decide) h)
  f15 := fun h => I.f15 (upd_ne (by decide) h)
  f16 := fun _ => hv
  f17 := fun h => (I.f17 (upd_ne (by decide) h)).imp fun g hg => ⟨hg.1, fun h' => hg.2 (upd_nf h')⟩
  f18 := fun h => I.f18 (upd_ne (by decide) h)
  f19 := fun h => I.f19 (upd_ne (by decide) h)

theorem OwJ.s17 {wr : World} {B x y k b off n sc0 : Nat} {so : Option Addr} {sc : Nat} {cs : List Value} {name : ByteArray} {tq : Option Addr} {tc : Nat} {tbl : List Int} {v0 v1 v3 : Value} {d : Nat → Bool} {w w2 : World} {s26 s27 s28 s29 s30 s31 s32 s33 s34 s35 s36 s37 s38 s39 s40 s41 s42 s43 s44 s45 v : Value} (I : OwJ wr B x y k b off n sc0 so sc cs name tq tc tbl v0 v1 v3 d w s26 s27 s28 s29 s30 s31 s32 s33 s34 s35 s36 s37 s38 s39 s40 s41 s42 s43 s44 s45) (hd : d 17 = false) (h18 : d 18 = false) (h20 : d 20 = false) (hb : Below w.heap.size w w2) {g : Nat} (hv : v = .slice (some ⟨g, 0, none⟩) 1 1) (hn : w2.heap[g]? = some (.cells #[.string name, s41] 124 (0, 0))) : OwJ wr B x y k b off n sc0 so sc cs name tq tc tbl v0 v1 v3 (updD d 17) w2 s26 s27 s28 s29 s30 s31 s32 s33 s34 s35 s36 s37 s38 s39 s40 s41 s42 v s44 s45 where
  b0 := fun h => fr (I.b0 h18) hb
  b1 := fun h => (I.b1 h20).trans (Keep.of_below hb)
  b2 := fun h => no_d (upd_ne (by decide) h) h20
  f0 := fun h => I.f0 (upd_ne (by decide) h)
  f1 := fun h => I.f1 (upd_ne (by decide) h)
  f2 := fun h => I.f2 (upd_ne (by decide) h)
  f3 := fun h => I.f3 (upd_ne (by decide) h)
  f4 := fun h => I.f4 (upd_ne (by decide) h)
  f5 := fun h => I.f5 (upd_ne (by decide) h)
  f6 := fun h => I.f6 (upd_ne (by decide) h)
  f7 := fun h => I.f7 (upd_ne (by decide) h)
  f8 := fun h => I.f8 (upd_ne (by decide) h)
  f9 := fun h => I.f9 (upd_ne (by decide) h)
  f10 := fun h => I.f10 (upd_ne (by decide) h)
  f11 := fun h => I.f11 (upd_ne (by decide) h)
  f12 := fun h => I.f12 (upd_ne (by decide) h)
  f13 := fun h => I.f13 (upd_ne (by decide) h)
  f14 := fun h => I.f14 (upd_ne (by decide) h)
  f15 := fun h => (I.f15 (upd_ne (by decide) h)).below hb
  f16 := fun h => I.f16 (upd_ne (by decide) h)
  f17 := fun _ => ⟨g, hv, fun _ => hn⟩
  f18 := fun h => no_d (upd_ne (by decide) h) h18
  f19 := fun h => I.f19 (upd_ne (by decide) h)

theorem OwJ.s18 {wr : World} {B x y k b off n sc0 : Nat} {so : Option Addr} {sc : Nat} {cs : List Value} {name : ByteArray} {tq : Option Addr} {tc : Nat} {tbl : List Int} {v0 v1 v3 : Value} {d : Nat → Bool} {w w2 : World} {s26 s27 s28 s29 s30 s31 s32 s33 s34 s35 s36 s37 s38 s39 s40 s41 s42 s43 s44 s45 v : Value} (I : OwJ wr B x y k b off n sc0 so sc cs name tq tc tbl v0 v1 v3 d w s26 s27 s28 s29 s30 s31 s32 s33 s34 s35 s36 s37 s38 s39 s40 s41 s42 s43 s44 s45) (hd : d 18 = false) (h20 : d 20 = false) (hk : Keep (Own (.slice so k sc)) w w2) {g2 cap2 : Nat} (hv : v = .slice (some ⟨g2, 0, none⟩) (k + 1) cap2) (ho : w2.ownsRow B 124 2 (.slice (some ⟨g2, 0, none⟩) (k + 1) cap2) (k + 1) (cs ++ [.string name, s41])) (ha : OwnN w wr.heap.size s41 tbl → ∀ g, Own s41 g → ¬ Own (.slice so k sc) g) : OwJ wr B x y k b off n sc0 so sc cs name tq tc tbl v0 v1 v3 (updD d 18) w2 s26 s27 s28 s29 s30 s31 s32 s33 s34 s35 s36 s37 s38 s39 s40 s41 s42 s43 v s45 where
  b0 := fun h => no_d (k := 18) upd_at h
  b1 := fun h => (I.b1 h20).trans hk
  b2 := fun h => no_d (upd_ne (by decide) h) h20
  f0 := fun h => I.f0 (upd_ne (by decide) h)
  f1 := fun h => I.f1 (upd_ne (by decide) h)
  f2 := fun h => I.f2 (upd_ne (by decide) h)
  f3 := fun h => I.f3 (upd_ne (by decide) h)
  f4 := fun h => I.f4 (upd_ne (by decide) h)
  f5 := fun h => I.f5 (upd_ne (by decide) h)
  f6 := fun h => I.f6 (upd_ne (by decide) h)
  f7 := fun h => I.f7 (upd_ne (by decide) h)
  f8 := fun h => I.f8 (upd_ne (by decide) h)
  f9 := fun h => I.f9 (upd_ne (by decide) h)
  f10 := fun h => I.f10 (upd_ne (by decide) h)
  f11 := fun h => I.f11 (upd_ne (by decide) h)
  f12 := fun h => I.f12 (upd_ne (by decide) h)
  f13 := fun h => I.f13 (upd_ne (by decide) h)
  f14 := fun h => I.f14 (upd_ne (by decide) h)
  f15 := fun h => (I.f15 (upd_ne (by decide) h)).keep hk (ha (I.f15 (upd_ne (by decide) h)))
  f16 := fun h => I.f16 (upd_ne (by decide) h)
  f17 := fun h => (I.f17 (upd_ne (by decide) h)).imp fun g hg => ⟨hg.1, fun h' => no_d (k := 18) upd_at h'⟩
  f18 := fun _ => ⟨g2, cap2, hv, ho⟩
  f19 := fun h => I.f19 (upd_ne (by decide) h)

structure OwL (W0 : World) (y : Nat) (m : Img) (q8 : Option Addr) (c8 : Nat) (q12 : Option Addr) (c12 : Nat) (q17 : Option Addr) (c17 : Nat) (w : World) (k : Nat) (so : Option Addr) (sc : Nat) (ts : List Value) : Prop where
  b : Below W0.heap.size W0 w
  v : VarM w y 68 (.slice q8 m.refs.length c8) (.slice q12 m.table.length c12) (.slice so k sc) (.slice q17 m.data.length c17)
  l : ts.length = k
  s : OwnR w W0.heap.size 124 2 (.slice so k sc) k (snC (m.snaps.take k) ts)
  r : OwnA w W0.heap.size ((.slice q8 m.refs.length c8, m.refs) :: (.slice q12 m.table.length c12, m.table) :: (.slice q17 m.data.length c17, m.data) :: ts.zip ((m.snaps.take k).map (·.table)))
theorem OwnA.add {w : World} {B n : Nat} {rs : List (Value × List Int)} {v : Value} {xs : List Int} (h : OwnA w B rs) (hlt : ∀ r ∈ rs, ∀ g, Own r.1 g → g < n) (hv : OwnN w n v xs) (hB : B ≤ n) : OwnA w B (rs ++ [(v, xs)]) := by
  refine ⟨fun r hr => ?_, ?_⟩
  · rcases List.mem_append.1 hr with h1 | h1
    · exact h.own r h1
    · rw [List.mem_singleton] at h1
      subst h1
      exact hv.base hB
  · rw [List.pairwise_append]
    refine ⟨h.apart, List.pairwise_singleton _ _, fun a ha b hb' g hg hg' => ?_⟩
    rw [List.mem_singleton] at hb'
    subst hb'
    have h1 := hlt a ha g hg
    have h2 := (hv.ge g hg').1
    omega
theorem OwL.next {W0 wr w : World} {y k : Nat} {m : Img} {q8 q12 q17 so : Option Addr} {c8 c12 c17 sc g2 cap2 : Nat} {ts : List Value} {t : Value} (h : OwL W0 y m q8 c8 q12 c12 q17 c17 wr k so sc ts) (hy : W0.heap.size ≤ y) (hk : k < m.snaps.length) (hK : Keep (fun g => Own (.slice so k sc) g ∨ g = y) wr w)
    (hv : VarM w y 68 (.slice q8 m.refs.length c8) (.slice q12 m.table.length c12) (.slice (some ⟨g2, 0, none⟩) (k + 1) cap2) (.slice q17 m.data.length c17)) (ho : w.ownsRow W0.heap.size 124 2 (.slice (some ⟨g2, 0, none⟩) (k + 1) cap2) (k + 1) (snC (m.snaps.take k) ts ++ [.string m.snaps[k].name, t])) (ht : OwnN w wr.heap.size t m.snaps[k].table) :
    OwL W0 y m q8 c8 q12 c12 q17 c17 w (k + 1) (some ⟨g2, 0, none⟩) cap2 (ts ++ [t]) where
  b := h.b.trans (hK.below h.b.size (fun g hg => by
    rcases hg with hg | rfl
    · exact (h.s.ge g hg).1
    · exact hy))
  v := hv
  l := by rw [List.length_append, h.l]; rfl
  s := by
    rw [List.take_succ_eq_append_getElem hk, snC_snoc _ _ _ _ (by rw [List.length_take, h.l]; omega)]
    exact .inr ⟨by omega, ho⟩
  r := by
    have e : (ts ++ [t]).zip ((m.snaps.take (k + 1)).map (·.table)) = ts.zip ((m.snaps.take k).map (·.table)) ++ [(t, m.snaps[k].table)] := by
      rw [List.take_succ_eq_append_getElem hk, List.map_append, List.zip_append (by rw [List.length_map, List.length_take, h.l]; omega)]
      rfl
    rw [e]
    have h1 := h.r.keep hK (fun r hr g hg hS => by
      rcases hS with hS | rfl
      · exact own_apart (h.r.own r hr).row h.s (by decide) g hg hS
      · exact (h.r.own r hr).other h.v (by decide) hg)
    exact h1.add (fun r hr g hg => ((h.r.own r hr).ge g hg).2) ht h.b.size

end Go.Proofs.YtjjkppknojecjaaGreat

namespace Go.Proofs.YtjjkppknojecjaaGreat
open Go.RowKit
set_option linter.unusedVariables false
set_option maxRecDepth 100000

end Go.Proofs.YtjjkppknojecjaaGreat

namespace Go.Proofs.YtjjkppknojecjaaGreat
open Go.RowKit
set_option linter.unusedVariables false
set_option maxRecDepth 100000

structure ImQ (w W : World) (B : Nat) (a : Im4) (m0 m : Img) (ts : List Value) : Prop where
  v : VarM W w.heap.size 68 (.slice a.ro m0.refs.length a.rc) (.slice a.tq m0.table.length a.tc) (.slice a.so m0.snaps.length a.sc) (.slice a.dq m0.data.length a.dc)
  r : VarM W (w.heap.size + 1) 68 (.slice none 0 0) (.slice none 0 0) (.slice none 0 0) (.slice none 0 0)
  o : OwnIm W B a m ts
  b : Below w.heap.size w W
  hB : w.heap.size + 2 ≤ B
  e1 : m.refs.length = m0.refs.length
  e2 : m.table.length = m0.table.length
  e3 : m.snaps.length = m0.snaps.length
  e4 : m.data.length = m0.data.length
abbrev putI (W : World) (x : Nat) (a : Im4) (m : Img) : World := (((W.setCell ⟨x, 0, none⟩ (.slice a.ro m.refs.length a.rc)).setCell ⟨x, 1, none⟩ (.slice a.tq m.table.length a.tc)).setCell ⟨x, 2, none⟩ (.slice a.so m.snaps.length a.sc)).setCell ⟨x, 3, none⟩ (.slice a.dq m.data.length a.dc)
theorem ImQ.put {w W : World} {B : Nat} {v0 v1 v2 v3 : Value} {a : Im4} {m0 m : Img} {ts : List Value} (hv : VarM W w.heap.size 68 v0 v1 v2 v3) (hr : VarM W (w.heap.size + 1) 68 (.slice none 0 0) (.slice none 0 0) (.slice none 0 0) (.slice none 0 0)) (ho : OwnIm W B a m ts) (hb : Below w.heap.size w W) (hB : w.heap.size + 2 ≤ B) (e1 : m.refs.length = m0.refs.length) (e2 : m.table.length = m0.table.length) (e3 : m.snaps.length = m0.snaps.length) (e4 : m.data.length = m0.data.length) : ImQ w (putI W w.heap.size a m0) B a m0 m ts := by
  obtain ⟨h1, h2, h3⟩ := ImSt.put hv ho hb (Nat.le_refl _) (by omega) a m0
  exact ⟨h1, (((hr.other (p := ⟨w.heap.size, 0, none⟩) (by simp) _).other (p := ⟨w.heap.size, 1, none⟩) (by simp) _).other (p := ⟨w.heap.size, 2, none⟩) (by simp) _).other (p := ⟨w.heap.size, 3, none⟩) (by simp) _, h2, h3, hB, e1, e2, e3, e4⟩
theorem ImQ.turn {w W W' : World} {B : Nat} {a : Im4} {m0 m m' : Img} {ts : List Value} (h : ImQ w W B a m0 m ts) (hk : Keep (ImB a m ts) W W') (ho : OwnIm W' B a m' ts) (e1 : m'.refs.length = m.refs.length) (e2 : m'.table.length = m.table.length) (e3 : m'.snaps.length = m.snaps.length) (e4 : m'.data.length = m.data.length) : ImQ w W' B a m0 m' ts :=
  ⟨h.v.keepIm h.o hk, h.r.keepIm h.o hk, ho, h.b.trans (hk.below h.b.size (fun g hg => by have := (h.o.ge g hg).1; have := h.hB; omega)), h.hB, e1.trans h.e1, e2.trans h.e2, e3.trans h.e3, e4.trans h.e4⟩
structure ImM (m : Img) : Prop where
  r : m.refs.length = 24
  d : m.data.length = 24
  t : m.table.length ≤ 12
  s : m.snaps.length ≤ 3
  st : ∀ s ∈ m.snaps, s.table.length ≤ 12 ∧ s.name.size ≤ 6
  tv : ∀ i (h : i < m.table.length), 0 ≤ m.table[i] ∧ m.table[i] ≤ 25
  sv : ∀ s ∈ m.snaps, ∀ i (h : i < s.table.length), 0 ≤ s.table[i] ∧ s.table[i] ≤ 25
  rv : ∀ c (h : c < m.refs.length), 0 ≤ m.refs[c] ∧ m.refs[c] ≤ 15
theorem ImR.M {m : Img} (h : ImR m) : ImM m := by
  refine ⟨ctB_len h.refs, h.len, tbB_len h.table, h.few, fun s hs => ⟨tbB_len (h.snaps s hs).2, ?_⟩, tbB_at h.table, fun s hs => tbB_at (h.snaps s hs).2, ctB_at h.refs⟩
  have := (h.snaps s hs).1
  simp only [snmB, Bool.and_eq_true] at this
  have := betw_iff.1 this.2
  omega
theorem ImM.L {m : Img} (h : ImM m) : ImL m := ⟨by rw [h.r]; unfold maxLen; omega, by have := h.t; unfold maxLen; omega, by have := h.s; unfold maxLen; omega, by rw [h.d]; unfold maxLen; omega⟩
theorem ImM.zs {m : Img} (h : ImM m) : ∀ s ∈ m.snaps, s.name.size ≤ maxLen ∧ s.table.length ≤ maxLen := fun s hs => by have := h.st s hs; unfold maxLen; omega
theorem imWrite_in {m : Img} {g c : Nat} {v : Int} (hg : g < m.table.length) (hc : m.table[g] = (c : Int) + 2) (hr : c < m.refs.length) (h1 : m.refs[c] = 1) : imWrite m g v = ({ m with data := m.data.set c v }, 0) := by
  have e : m.table.getD g 0 = (c : Int) + 2 := by simp [List.getD, hg, hc]
  have e2 : ((c : Int) + 2 - 2).toNat = c := by omega
  have e3 : m.refs.getD c 0 = 1 := by simp [List.getD, hr, h1]
  unfold imWrite
  simp only [e, e2, e3]
  rw [if_pos ⟨by omega, trivial⟩]
theorem imWrite_out {m : Img} {g : Nat} {v : Int} (hg : g < m.table.length) (hn : ¬ (2 ≤ m.table[g] ∧ m.refs.getD (m.table[g] - 2).toNat 0 = 1)) : imWrite m g v = if frN m.refs < m.refs.length then ({ imDrop m m.table[g] with refs := (imDrop m m.table[g]).refs.set (frN m.refs) 1, data := (imDrop m m.table[g]).data.set (frN m.refs) v, table := (imDrop m m.table[g]).table.set g (2 + (frN m.refs : Int)) }, 0) else (m, 7) := by
  have e : m.table.getD g 0 = m.table[g] := by simp [List.getD, hg]
  unfold imWrite
  simp only [e]
  rw [if_neg hn]

end Go.Proofs.YtjjkppknojecjaaGreat

namespace Go.Proofs.YtjjkppknojecjaaGreat
open Go.RowKit
set_option linter.unusedVariables false
set_option maxRecDepth 100000

structure ImBd (m : Img) : Prop where
  r : m.refs.length ≤ 1048576
  t : m.table.length ≤ 1048576
  s : m.snaps.length ≤ 1048576
  d : m.data.length ≤ 1048576
  st : ∀ s ∈ m.snaps, s.table.length ≤ 1048576 ∧ s.name.size ≤ 1048576
  k : snK m.snaps ≤ 4194304
theorem snK_sz (ss : List Snp) : snK ss ≤ ss.length + snSz ss := by
  induction ss with
  | nil => exact Nat.le_refl _
  | cons s ss ih =>
    simp only [snK, snSz, List.map_cons, List.sum_cons, List.length_cons] at ih ⊢
    have e : sn1 s = s.name.size + s.table.length := rfl
    omega
theorem ImBd.of {m : Img} (h : imSz m ≤ 1048576) : ImBd m := by
  unfold imSz at h
  refine ⟨by omega, by omega, by omega, by omega, fun s hs => ?_, ?_⟩
  · obtain ⟨i, hi, rfl⟩ := List.mem_iff_getElem.1 hs
    have := sn_le hi
    unfold sn1 at this
    omega
  · have := snK_sz m.snaps
    omega
theorem ImBd.zs {m : Img} (h : ImBd m) : ∀ s ∈ m.snaps, s.name.size ≤ maxLen ∧ s.table.length ≤ maxLen := fun s hs => by have := h.st s hs; unfold maxLen; omega
theorem ImBd.M {m : Img} (h : ImM m) : ImBd m := by
  refine ⟨by rw [h.r]; omega, by have := h.t; omega, by have := h.s; omega, by rw [h.d]; omega, fun s hs => by have := h.st s hs; omega, ?_⟩
  have hs := h.s
  have hst := h.st
  have : ∀ ss : List Snp, (∀ s ∈ ss, s.table.length ≤ 12 ∧ s.name.size ≤ 6) → snK ss ≤ 13 * ss.length := by
    intro ss
    induction ss with
    | nil => intro _; exact Nat.le_refl _
    | cons s ss ih =>
      intro hh
      have h1 := hh s (by simp)
      have h2 := ih (fun s hs => hh s (by simp [hs]))
      simp only [snK, List.map_cons, List.sum_cons, List.length_cons] at h2 ⊢
      omega
  have := this m.snaps hst
  omega
theorem ImBd.zero : ImBd im0 := ⟨by simp [im0], by simp [im0], by simp [im0], by simp [im0], fun s hs => by simp [im0] at hs, by simp [im0, snK]⟩
structure LwV (W : World) (p n : Nat) (a : Im4) (m : Img) (ts : List Value) : Prop where
  v : VarM W p 68 (.slice a.ro m.refs.length a.rc) (.slice a.tq m.table.length a.tc) (.slice a.so m.snaps.length a.sc) (.slice a.dq m.data.length a.dc)
  o : OwnIm W n a m ts
  n : n ≤ W.heap.size
theorem LwV.new (W : World) (a : Im4) (m : Img) {n : Nat} {ts : List Value} (h : OwnIm W n a m ts) (hn : n ≤ W.heap.size) : LwV (W.alloc (.cells #[.slice a.ro m.refs.length a.rc, .slice a.tq m.table.length a.tc, .slice a.so m.snaps.length a.sc, .slice a.dq m.data.length a.dc] 68)) W.heap.size n a m ts :=
  ⟨VarM.new W _ _ _ _ _, h.below (Joins.below_alloc1 _ _), by simp; omega⟩
theorem LwV.below {W W' : World} {p n : Nat} {a : Im4} {m : Img} {ts : List Value} (h : LwV W p n a m ts) (hb : Below W.heap.size W W') : LwV W' p n a m ts := ⟨h.v.below hb, h.o.below hb, Nat.le_trans h.n hb.size⟩
theorem LwV.keep {W W' : World} {p n q n' : Nat} {a b : Im4} {m m' : Img} {ts us : List Value} (h : LwV W p n a m ts) (h2 : LwV W q n' b m' us) (hk : Keep (ImB b m' us) W W') (hs : ∀ g, ImB a m ts g → ¬ ImB b m' us g) : LwV W' p n a m ts :=
  ⟨h.v.keepIm h2.o hk, h.o.keep hk hs, Nat.le_trans h.n hk.size⟩
end Go.Proofs.YtjjkppknojecjaaGreat

namespace Go.Proofs.YtjjkppknojecjaaGreat
open Go.RowKit
set_option linter.unusedVariables false
set_option maxRecDepth 100000

structure GsBd (g : Gst) : Prop where
  v : g.vals.length ≤ 1048576
  s : g.shots.length ≤ 1048576
  st : ∀ s ∈ g.shots, s.table.length ≤ 1048576 ∧ s.name.size ≤ 1048576
  k : snK g.shots ≤ 4194304
theorem GsBd.of {g : Gst} (h : gsSz g ≤ 1048576) : GsBd g := by
  unfold gsSz at h
  refine ⟨by omega, by omega, fun s hs => ?_, ?_⟩
  · obtain ⟨i, hi, rfl⟩ := List.mem_iff_getElem.1 hs
    have := sn_le hi
    unfold sn1 at this
    omega
  · have := snK_sz g.shots
    omega
theorem GsBd.zs {g : Gst} (h : GsBd g) : ∀ s ∈ g.shots, s.name.size ≤ maxLen ∧ s.table.length ≤ maxLen := fun s hs => by have := h.st s hs; unfold maxLen; omega
theorem GsBd.L {g : Gst} (h : GsBd g) : GsL g := ⟨by have := h.v; unfold maxLen; omega, by have := h.s; unfold maxLen; omega⟩
theorem snm_size {t : ByteArray} (h : snmB t = true) : t.size ≤ 6 := by
  simp only [snmB, Bool.and_eq_true] at h
  have := betw_iff.1 h.2
  omega
theorem GsBd.R {g : Gst} (h : GsR g) : GsBd g := by
  have hst : ∀ s ∈ g.shots, s.table.length ≤ 12 ∧ s.name.size ≤ 6 := fun s hs => ⟨(h.s s hs).2.1, snm_size (h.s s hs).1⟩
  refine ⟨by have := h.v; omega, by have := h.few; omega, fun s hs => by have := hst s hs; omega, ?_⟩
  have : ∀ ss : List Snp, (∀ s ∈ ss, s.table.length ≤ 12 ∧ s.name.size ≤ 6) → snK ss ≤ 13 * ss.length := by
    intro ss
    induction ss with
    | nil => intro _; exact Nat.le_refl _
    | cons s ss ih =>
      intro hh
      have h1 := hh s (by simp)
      have h2 := ih (fun s hs => hh s (by simp [hs]))
      simp only [snK, List.map_cons, List.sum_cons, List.length_cons] at h2 ⊢
      omega
  have := this g.shots hst
  have := h.few
  omega
theorem GsBd.zero : GsBd gs0 := ⟨by simp [gs0], by simp [gs0], fun s hs => by simp [gs0] at hs, by simp [gs0, snK]⟩
structure LwG (W : World) (p n : Nat) (a : Gs4) (g : Gst) (ts : List Value) : Prop where
  v : VarG W p 33 (.slice a.vo g.vals.length a.vc) (.slice a.so g.shots.length a.sc)
  o : OwnGs W n a g ts
  n : n ≤ W.heap.size
theorem LwG.new (W : World) (a : Gs4) (g : Gst) {n : Nat} {ts : List Value} (h : OwnGs W n a g ts) (hn : n ≤ W.heap.size) : LwG (W.alloc (.cells #[.slice a.vo g.vals.length a.vc, .slice a.so g.shots.length a.sc] 33)) W.heap.size n a g ts :=
  ⟨VarG.new W _ _ _, h.below (Joins.below_alloc1 _ _), by simp; omega⟩
theorem LwG.below {W W' : World} {p n : Nat} {a : Gs4} {g : Gst} {ts : List Value} (h : LwG W p n a g ts) (hb : Below W.heap.size W W') : LwG W' p n a g ts := ⟨h.v.below hb, h.o.below hb, Nat.le_trans h.n hb.size⟩
theorem VarG.keepGsI {w w' : World} {B x : Nat} {a : Gs4} {g : Gst} {ts : List Value} {v0 v1 : Value} (hv : VarG w x 33 v0 v1) (h : OwnGs w B a g ts) (hk : Keep (GsB a g ts) w w') : VarG w' x 33 v0 v1 := hv.keepGs h (by decide) (by decide) hk
theorem LwG.keep {W W' : World} {p n q n' : Nat} {a b : Gs4} {g g' : Gst} {ts us : List Value} (h : LwG W p n a g ts) (h2 : LwG W q n' b g' us) (hk : Keep (GsB b g' us) W W') (hs : ∀ x, GsB a g ts x → ¬ GsB b g' us x) : LwG W' p n a g ts :=
  ⟨h.v.keepGsI h2.o hk, h.o.keep hk hs, Nat.le_trans h.n hk.size⟩
def AnsG (w w' : World) (e : Ending) (R : Gst × Int) : Prop := ∃ a ts, e = .returned (.tuple #[gsV a R.1, .int .i64 R.2]) ∧ OwnGs w' w.heap.size a R.1 ts ∧ Below w.heap.size w w'
theorem AnsG.of {w w' : World} {v : Value} {c : Int} {R : Gst × Int} {a : Gs4} {ts : List Value} (hv : v = gsV a R.1) (hc : c = R.2) (ho : OwnGs w' w.heap.size a R.1 ts) (hb : Below w.heap.size w w') : AnsG w w' (.returned (.tuple #[v, .int .i64 c])) R := ⟨a, ts, by rw [hv, hc], ho, hb⟩
theorem AnsG.bad {w w' : World} (c : Int) (hb : Below w.heap.size w w') : AnsG w w' (.returned (.tuple #[.agg #[.slice none 0 0, .slice none 0 0], .int .i64 c])) (gs0, c) := ⟨⟨none, 0, none, 0⟩, [], rfl, OwnGs.zero _ _, hb⟩

end Go.Proofs.YtjjkppknojecjaaGreat

namespace Go.Proofs.YtjjkppknojecjaaGreat
open Go.RowKit
set_option linter.unusedVariables false
set_option maxRecDepth 100000

set_option maxHeartbeats 1600000 in
theorem eqCfg_same (f d l r : Int) (w : World) : Calls Tryz.prog 21 #[cfgV f d l r, cfgV f d l r] w fun e w' => e = .returned (.bool true) ∧ Below w.heap.size w w' := by
  go_enter Tryz.func21, Tryz.ntmps21
  go_wp2
  go_ret
  exact ⟨rfl, Joins.below_alloc2 _ _ _⟩

structure WlBd (m : Wld) : Prop where
  s : m.ss.length ≤ 1048576
  i : m.xs.length ≤ 1048576
  h : m.hs.length ≤ 1048576
  g : GsBd m.g
  q : m.q.n.size ≤ 1048576

set_option maxHeartbeats 6400000 in
theorem eqWorld_same (a b : Wl4) (m : Wld) (w : World) (hL : WlBd m) (h1 : WlS w a m) (h2 : WlS w b m) :
    Calls Tryz.prog 8 #[wlV a m, wlV b m] w fun e w' => e = .returned (.bool true) ∧ Below w.heap.size w w' := by
  have HB0 := hide (Joins.below_alloc2 w (.cells (wlC a m) 37) (.cells (wlC b m) 37))
  have HV0 := hide ((VarW.new w 37 a m).below (Joins.below_alloc1 _ (.cells (wlC b m) 37)))
  have HU0 := hide ((VarW.new (w.alloc (.cells (wlC a m) 37)) 37 b m).at (show _ = w.heap.size + 1 by simp))
  have HX0 := hide (h1.below (unhide HB0))
  have HY0 := hide (h2.below (unhide HB0))
  have HL := hide hL
  clear h1 h2 hL
  have hag : (m.ag != m.ag) = false := by simp
  have htt : (m.t != m.t) = false := by simp
  go_enter Tryz.func8, Tryz.ntmps8
  go_upto_region 1 with fail
  revert HB0 HV0 HU0 HX0 HY0
  generalize ((w.alloc _).alloc _) = W0
  intro HB0 HV0 HU0 HX0 HY0
  obtain ⟨c0, c1, _, _, _, _, _, _, _, _, _, _, _, _, _⟩ := (unhide HV0).cells
  obtain ⟨d0, d1, _, _, _, _, _, _, _, _, _, _, _, _, _⟩ := (unhide HU0).cells
  go_wp2_with fail
  refine (eqDisk_any a.ao a.bo b.ao b.bo a.ca a.cb b.ca b.cb m.ss m.ss m.xs m.xs _ (by have := (unhide HL).s; unfold maxLen; omega) (by have := (unhide HL).i; unfold maxLen; omega) (unhide HX0).s (unhide HX0).i (unhide HY0).s (unhide HY0).i).mono ?_
  rintro e w1 ⟨rfl, hb⟩
  rw [show (eqSB m.ss m.ss && eqWB m.xs m.xs) = true by rw [eqSB_true rfl (fun _ _ _ => rfl), eqWB_true rfl (fun _ _ _ => rfl)]; rfl]
  have HV1 := hide ((unhide HV0).below hb)
  have HU1 := hide ((unhide HU0).below hb)
  have HX1 := hide ((unhide HX0).below hb)
  have HY1 := hide ((unhide HY0).below hb)
  have HB1 := hide (fr (unhide HB0) hb)
  clear hb HV0 HU0 HX0 HY0 HB0 c0 c1 d0 d1
  obtain ⟨_, _, c2, c3, c4, c5, _, _, _, _, _, _, _, _, _⟩ := (unhide HV1).cells
  obtain ⟨_, _, d2, d3, d4, d5, _, _, _, _, _, _, _, _, _⟩ := (unhide HU1).cells
  go_wp2_with fail
  refine (eqCfg_same m.cf m.cd m.cl m.cr _).mono ?_
  rintro e w2 ⟨rfl, hb⟩
  have HV2 := hide ((unhide HV1).below hb)
  have HU2 := hide ((unhide HU1).below hb)
  have HX2 := hide ((unhide HX1).below hb)
  have HY2 := hide ((unhide HY1).below hb)
  have HB2 := hide (fr (unhide HB1) hb)
  clear hb HV1 HU1 HX1 HY1 HB1 c2 c3 c4 c5 d2 d3 d4 d5
  obtain ⟨_, _, _, _, _, _, c6, _, _, _, _, _, _, _, _⟩ := (unhide HV2).cells
  obtain ⟨_, _, _, _, _, _, d6, _, _, _, _, _, _, _, _⟩ := (unhide HU2).cells
  go_wp2_with fail
  refine (eqHostS_same a.ho b.ho a.hc b.hc m.hs _ (unhide HL).h (unhide HX2).h (unhide HY2).h).mono ?_
  rintro e w3 ⟨rfl, hb⟩
  have HV3 := hide ((unhide HV2).below hb)
  have HU3 := hide ((unhide HU2).below hb)
  have HX3 := hide ((unhide HX2).below hb)
  have HY3 := hide ((unhide HY2).below hb)
  have HB3 := hide (fr (unhide HB2) hb)
  clear hb HV2 HU2 HX2 HY2 HB2 c6 d6
  obtain ⟨_, _, _, _, _, _, _, c7, c8, c9, _, _, _, _, _⟩ := (unhide HV3).cells
  obtain ⟨_, _, _, _, _, _, _, d7, d8, d9, _, _, _, _, _⟩ := (unhide HU3).cells
  go_wp2_with fail
  refine (eqGuest_same a.ga b.ga m.g _ (unhide HL).g.L.v (unhide HL).g.L.s (unhide HX3).g (unhide HY3).g).mono ?_
  rintro e w4 ⟨rfl, hb⟩
  have HV4 := hide ((unhide HV3).below hb)
  have HU4 := hide ((unhide HU3).below hb)
  have HX4 := hide ((unhide HX3).below hb)
  have HY4 := hide ((unhide HY3).below hb)
  have HB4 := hide (fr (unhide HB3) hb)
  clear hb HV3 HU3 HX3 HY3 HB3 c7 c8 c9 d7 d8 d9
  obtain ⟨_, _, _, _, _, _, _, _, _, _, c10, c11, c12, c13, _⟩ := (unhide HV4).cells
  obtain ⟨_, _, _, _, _, _, _, _, _, _, d10, d11, d12, d13, _⟩ := (unhide HU4).cells
  go_wp2_with fail
  refine (eqReq_same m.q _).mono ?_
  rintro e w5 ⟨rfl, hb⟩
  have HV5 := hide ((unhide HV4).below hb)
  have HU5 := hide ((unhide HU4).below hb)
  have HX5 := hide ((unhide HX4).below hb)
  have HY5 := hide ((unhide HY4).below hb)
  have HB5 := hide (fr (unhide HB4) hb)
  clear hb HV4 HU4 HX4 HY4 HB4 c10 c11 c12 c13 d10 d11 d12 d13
  obtain ⟨_, _, _, _, _, _, _, _, _, _, _, _, _, _, c14⟩ := (unhide HV5).cells
  obtain ⟨_, _, _, _, _, _, _, _, _, _, _, _, _, _, d14⟩ := (unhide HU5).cells
  go_wp2
  go_ret
  exact ⟨rfl, unhide HB5⟩

end Go.Proofs.YtjjkppknojecjaaGreat
