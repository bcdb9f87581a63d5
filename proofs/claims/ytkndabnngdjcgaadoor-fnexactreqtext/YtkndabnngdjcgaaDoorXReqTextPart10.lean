/- The drawn region of l10Own's loop: a snapshot more at the end of the copies. (Made ahead of stage 10; written by gens/ownim3.py.) -/
import Derived.Test.YtkndabnngdjcgaaDoorRows
import Derived.Test.YtkndabnngdjcgaaDoorXReqTextPart9
import Derived.Test.YtkndabnngdjcgaaDoorXReqTextPart1
import Derived.Test.YtkndabnngdjcgaaDoorXReqTextPart2
import Derived.Test.YtkndabnngdjcgaaDoorXReqTextPart4
import Derived.WalkKit
import Derived.WalkSpells

namespace Go.Proofs.YtkndabnngdjcgaaDoor
open Go.RowKit
set_option linter.unusedVariables false
set_option maxRecDepth 100000

structure OwJ (wr : World) (B x y k b off n sc0 : Nat) (so : Option Addr) (sc : Nat) (cs : List Value) (name : ByteArray) (tq : Option Addr) (tc : Nat) (tbl : List Int) (v0 v1 v3 : Value) (d : Nat → Bool) (w : World) (s26 s27 s28 s29 s30 s31 s32 s33 s34 s35 s36 s37 s38 s39 s40 s41 s42 s43 s44 s45 : Value) : Prop where
  b0 : d 18 = false → Below wr.heap.size wr w
  b1 : d 20 = false → Keep (Own (.slice so k sc)) wr w
  b2 : d 20 = true → Keep (fun g => Own (.slice so k sc) g ∨ g = y) wr w ∧ VarM w y 66 v0 v1 s44 v3
  f0 : d 0 = true → s26 = .pointer (some ⟨y, 2, none⟩)
  f1 : d 1 = true → s27 = .slice so k sc
  f2 : d 2 = true → s28 = .pointer (some ⟨x, 2, none⟩)
  f3 : d 3 = true → s29 = .slice (some ⟨b, off, none⟩) n sc0
  f4 : d 4 = true → s30 = .int .i64 k
  f5 : d 5 = true → s31 = .pointer (some ⟨b, off + k * 2, none⟩)
  f6 : d 6 = true → s32 = .pointer (some ⟨b, off + k * 2, none⟩)
  f7 : d 7 = true → s33 = .string name
  f8 : d 8 = true → Emp s34
  f9 : d 9 = true → s35 = .pointer (some ⟨x, 2, none⟩)
  f10 : d 10 = true → s36 = .slice (some ⟨b, off, none⟩) n sc0
  f11 : d 11 = true → s37 = .int .i64 k
  f12 : d 12 = true → s38 = .pointer (some ⟨b, off + k * 2, none⟩)
  f13 : d 13 = true → s39 = .pointer (some ⟨b, off + k * 2 + 1, none⟩)
  f14 : d 14 = true → s40 = .slice tq tbl.length tc
  f15 : d 15 = true → OwnN w wr.heap.size s41 tbl
  f16 : d 16 = true → s42 = .agg #[.string name, s41]
  f17 : d 17 = true → ∃ g, s43 = .slice (some ⟨g, 0, none⟩) 1 1 ∧ (d 18 = false → w.heap[g]? = some (.cells #[.string name, s41] 107 (0, 0)))
  f18 : d 18 = true → ∃ g2 cap2, s44 = .slice (some ⟨g2, 0, none⟩) (k + 1) cap2 ∧ w.ownsRow B 107 2 (.slice (some ⟨g2, 0, none⟩) (k + 1) cap2) (k + 1) (cs ++ [.string name, s41])
  f19 : d 19 = true → s45 = .pointer (some ⟨y, 2, none⟩)

theorem OwJ.s0 {wr : World} {B x y k b off n sc0 : Nat} {so : Option Addr} {sc : Nat} {cs : List Value} {name : ByteArray} {tq : Option Addr} {tc : Nat} {tbl : List Int} {v0 v1 v3 : Value} {d : Nat → Bool} {w : World} {s26 s27 s28 s29 s30 s31 s32 s33 s34 s35 s36 s37 s38 s39 s40 s41 s42 s43 s44 s45 v : Value} (I : OwJ wr B x y k b off n sc0 so sc cs name tq tc tbl v0 v1 v3 d w s26 s27 s28 s29 s30 s31 s32 s33 s34 s35 s36 s37 s38 s39 s40 s41 s42 s43 s44 s45) (hd : d 0 = false) (hv : v = .pointer (some ⟨y, 2, none⟩)) : OwJ wr B x y k b off n sc0 so sc cs name tq tc tbl v0 v1 v3 (updD d 0) w v s27 s28 s29 s30 s31 s32 s33 s34 s35 s36 s37 s38 s39 s40 s41 s42 s43 s44 s45 where
  b0 := fun h => I.b0 (upd_nf h)
  b1 := fun h => I.b1 (upd_nf h)
  b2 := fun h => I.b2 (upd_ne (by decide) h)
  f0 := fun _ => hv
  f1 := fun h => I.f1 (upd_ne (by decide) h)
  f2 := fun h => I.f2 (upd_ne (by decide) h)
  f3 := fun h => I.f3 (upd_ne (by decide) h)
  f4 := fun h => I.f4 (upd_ne (by decide) h)
  f5 := fun h => I.f5 (upd_ne (by decide) h)
  f6 := fun h => I.f6 (upd_ne (by decide) h)
  f7 := fun h => I.f7 (upd_ne (by decide) h)
  f8 := fun h => I.f8 (upd_ne (by decide) h)
  f9 := fun h => I.f9 (upd_ne (by decide) h)
  f10 := fun h => I.f10 (upd_ne (by decide) h)
  f11 := fun h => I.f11 (upd_ne (by decide) h)
  f12 := fun h => I.f12 (upd_ne (by decide) h)
  f13 := fun h => I.f13 (upd_ne (by decide) h)
  f14 := fun h => I.f14 (upd_ne (by decide) h)
  f15 := fun h => I.f15 (upd_ne (by decide) h)
  f16 := fun h => I.f16 (upd_ne (by decide) h)
  f17 := fun h => (I.f17 (upd_ne (by decide) h)).imp fun g hg => ⟨hg.1, fun h' => hg.2 (upd_nf h')⟩
  f18 := fun h => I.f18 (upd_ne (by decide) h)
  f19 := fun h => I.f19 (upd_ne (by decide) h)

theorem OwJ.s1 {wr : World} {B x y k b off n sc0 : Nat} {so : Option Addr} {sc : Nat} {cs : List Value} {name : ByteArray} {tq : Option Addr} {tc : Nat} {tbl : List Int} {v0 v1 v3 : Value} {d : Nat → Bool} {w : World} {s26 s27 s28 s29 s30 s31 s32 s33 s34 s35 s36 s37 s38 s39 s40 s41 s42 s43 s44 s45 v : Value} (I : OwJ wr B x y k b off n sc0 so sc cs name tq tc tbl v0 v1 v3 d w s26 s27 s28 s29 s30 s31 s32 s33 s34 s35 s36 s37 s38 s39 s40 s41 s42 s43 s44 s45) (hd : d 1 = false) (hv : v = .slice so k sc) : OwJ wr B x y k b off n sc0 so sc cs name tq tc tbl v0 v1 v3 (updD d 1) w s26 v s28 s29 s30 s31 s32 s33 s34 s35 s36 s37 s38 s39 s40 s41 s42 s43 s44 s45 where
  b0 := fun h => I.b0 (upd_nf h)
  b1 := fun h => I.b1 (upd_nf h)
  b2 := fun h => I.b2 (upd_ne (by decide) h)
  f0 := fun h => I.f0 (upd_ne (by decide) h)
  f1 := fun _ => hv
  f2 := fun h => I.f2 (upd_ne (by decide) h)
  f3 := fun h => I.f3 (upd_ne (by decide) h)
  f4 := fun h => I.f4 (upd_ne (by decide) h)
  f5 := fun h => I.f5 (upd_ne (by decide) h)
  f6 := fun h => I.f6 (upd_ne (by decide) h)
  f7 := fun h => I.f7 (upd_ne (by decide) h)
  f8 := fun h => I.f8 (upd_ne (by decide) h)
  f9 := fun h => I.f9 (upd_ne (by decide) h)
  f10 := fun h => I.f10 (upd_ne (by decide) h)
  f11 := fun h => I.f11 (upd_ne (by decide) h)
  f12 := fun h => I.f12 (upd_ne (by decide) h)
  f13 := fun h => I.f13 (upd_ne (by decide) h)
  f14 := fun h => I.f14 (upd_ne (by decide) h)
  f15 := fun h => I.f15 (upd_ne (by decide) h)
  f16 := fun h => I.f16 (upd_ne (by decide) h)
  f17 := fun h => (I.f17 (upd_ne (by decide) h)).imp fun g hg => ⟨hg.1, fun h' => hg.2 (upd_nf h')⟩
  f18 := fun h => I.f18 (upd_ne (by decide) h)
  f19 := fun h => I.f19 (upd_ne (by decide) h)

theorem OwJ.s2 {wr : World} {B x y k b off n sc0 : Nat} {so : Option Addr} {sc : Nat} {cs : List Value} {name : ByteArray} {tq : Option Addr} {tc : Nat} {tbl : List Int} {v0 v1 v3 : Value} {d : Nat → Bool} {w : World} {s26 s27 s28 s29 s30 s31 s32 s33 s34 s35 s36 s37 s38 s39 s40 s41 s42 s43 s44 s45 v : Value} (I : OwJ wr B x y k b off n sc0 so sc cs name tq tc tbl v0 v1 v3 d w s26 s27 s28 s29 s30 s31 s32 s33 s34 s35 s36 s37 s38 s39 s40 s41 s42 s43 s44 s45) (hd : d 2 = false) (hv : v = .pointer (some ⟨x, 2, none⟩)) : OwJ wr B x y k b off n sc0 so sc cs name tq tc tbl v0 v1 v3 (updD d 2) w s26 s27 v s29 s30 s31 s32 s33 s34 s35 s36 s37 s38 s39 s40 s41 s42 s43 s44 s45 where
  b0 := fun h => I.b0 (upd_nf h)
  b1 := fun h => I.b1 (upd_nf h)
  b2 := fun h => I.b2 (upd_ne (by decide) h)
  f0 := fun h => I.f0 (upd_ne (by decide) h)
  f1 := fun h => I.f1 (upd_ne (by decide) h)
  f2 := fun _ => hv
  f3 := fun h => I.f3 (upd_ne (by decide) h)
  f4 := fun h => I.f4 (upd_ne (by decide) h)
  f5 := fun h => I.f5 (upd_ne (by decide) h)
  f6 := fun h => I.f6 (upd_ne (by decide) h)
  f7 := fun h => I.f7 (upd_ne (by decide) h)
  f8 := fun h => I.f8 (upd_ne (by decide) h)
  f9 := fun h => I.f9 (upd_ne (by decide) h)
  f10 := fun h => I.f10 (upd_ne (by decide) h)
  f11 := fun h => I.f11 (upd_ne (by decide) h)
  f12 := fun h => I.f12 (upd_ne (by decide) h)
  f13 := fun h => I.f13 (upd_ne (by decide) h)
  f14 := fun h => I.f14 (upd_ne (by decide) h)
  f15 := fun h => I.f15 (upd_ne (by decide) h)
  f16 := fun h => I.f16 (upd_ne (by decide) h)
  f17 := fun h => (I.f17 (upd_ne (by decide) h)).imp fun g hg => ⟨hg.1, fun h' => hg.2 (upd_nf h')⟩
  f18 := fun h => I.f18 (upd_ne (by decide) h)
  f19 := fun h => I.f19 (upd_ne (by decide) h)

theorem OwJ.s3 {wr : World} {B x y k b off n sc0 : Nat} {so : Option Addr} {sc : Nat} {cs : List Value} {name : ByteArray} {tq : Option Addr} {tc : Nat} {tbl : List Int} {v0 v1 v3 : Value} {d : Nat → Bool} {w : World} {s26 s27 s28 s29 s30 s31 s32 s33 s34 s35 s36 s37 s38 s39 s40 s41 s42 s43 s44 s45 v : Value} (I : OwJ wr B x y k b off n sc0 so sc cs name tq tc tbl v0 v1 v3 d w s26 s27 s28 s29 s30 s31 s32 s33 s34 s35 s36 s37 s38 s39 s40 s41 s42 s43 s44 s45) (hd : d 3 = false) (hv : v = .slice (some ⟨b, off, none⟩) n sc0) : OwJ wr B x y k b off n sc0 so sc cs name tq tc tbl v0 v1 v3 (updD d 3) w s26 s27 s28 v s30 s31 s32 s33 s34 s35 s36 s37 s38 s39 s40 s41 s42 s43 s44 s45 where
  b0 := fun h => I.b0 (upd_nf h)
  b1 := fun h => I.b1 (upd_nf h)
  b2 := fun h => I.b2 (upd_ne (by decide) h)
  f0 := fun h => I.f0 (upd_ne (by decide) h)
  f1 := fun h => I.f1 (upd_ne (by decide) h)
  f2 := fun h => I.f2 (upd_ne (by decide) h)
  f3 := fun _ => hv
  f4 := fun h => I.f4 (upd_ne (by decide) h)
  f5 := fun h => I.f5 (upd_ne (by decide) h)
  f6 := fun h => I.f6 (upd_ne (by decide) h)
  f7 := fun h => I.f7 (upd_ne (by decide) h)
  f8 := fun h => I.f8 (upd_ne (by decide) h)
  f9 := fun h => I.f9 (upd_ne (by decide) h)
  f10 := fun h => I.f10 (upd_ne (by decide) h)
  f11 := fun h => I.f11 (upd_ne (by decide) h)
  f12 := fun h => I.f12 (upd_ne (by decide) h)
  f13 := fun h => I.f13 (upd_ne (by decide) h)
  f14 := fun h => I.f14 (upd_ne (by decide) h)
  f15 := fun h => I.f15 (upd_ne (by decide) h)
  f16 := fun h => I.f16 (upd_ne (by decide) h)
  f17 := fun h => (I.f17 (upd_ne (by decide) h)).imp fun g hg => ⟨hg.1, fun h' => hg.2 (upd_nf h')⟩
  f18 := fun h => I.f18 (upd_ne (by decide) h)
  f19 := fun h => I.f19 (upd_ne (by decide) h)

theorem OwJ.s4 {wr : World} {B x y k b off n sc0 : Nat} {so : Option Addr} {sc : Nat} {cs : List Value} {name : ByteArray} {tq : Option Addr} {tc : Nat} {tbl : List Int} {v0 v1 v3 : Value} {d : Nat → Bool} {w : World} {s26 s27 s28 s29 s30 s31 s32 s33 s34 s35 s36 s37 s38 s39 s40 s41 s42 s43 s44 s45 v : Value} (I : OwJ wr B x y k b off n sc0 so sc cs name tq tc tbl v0 v1 v3 d w s26 s27 s28 s29 s30 s31 s32 s33 s34 s35 s36 s37 s38 s39 s40 s41 s42 s43 s44 s45) (hd : d 4 = false) (hv : v = .int .i64 k) : OwJ wr B x y k b off n sc0 so sc cs name tq tc tbl v0 v1 v3 (updD d 4) w s26 s27 s28 s29 v s31 s32 s33 s34 s35 s36 s37 s38 s39 s40 s41 s42 s43 s44 s45 where
  b0 := fun h => I.b0 (upd_nf h)
  b1 := fun h => I.b1 (upd_nf h)
  b2 := fun h => I.b2 (upd_ne (by decide) h)
  f0 := fun h => I.f0 (upd_ne (by decide) h)
  f1 := fun h => I.f1 (upd_ne (by decide) h)
  f2 := fun h => I.f2 (upd_ne (by decide) h)
  f3 := fun h => I.f3 (upd_ne (by decide) h)
  f4 := fun _ => hv
  f5 := fun h => I.f5 (upd_ne (by decide) h)
  f6 := fun h => I.f6 (upd_ne (by decide) h)
  f7 := fun h => I.f7 (upd_ne (by decide) h)
  f8 := fun h => I.f8 (upd_ne (by decide) h)
  f9 := fun h => I.f9 (upd_ne (by decide) h)
  f10 := fun h => I.f10 (upd_ne (by decide) h)
  f11 := fun h => I.f11 (upd_ne (by decide) h)
  f12 := fun h => I.f12 (upd_ne (by decide) h)
  f13 := fun h => I.f13 (upd_ne (by decide) h)
  f14 := fun h => I.f14 (upd_ne (by decide) h)
  f15 := fun h => I.f15 (upd_ne (by decide) h)
  f16 := fun h => I.f16 (upd_ne (by decide) h)
  f17 := fun h => (I.f17 (upd_ne (by decide) h)).imp fun g hg => ⟨hg.1, fun h' => hg.2 (upd_nf h')⟩
  f18 := fun h => I.f18 (upd_ne (by decide) h)
  f19 := fun h => I.f19 (upd_ne (by decide) h)

theorem OwJ.s5 {wr : World} {B x y k b off n sc0 : Nat} {so : Option Addr} {sc : Nat} {cs : List Value} {name : ByteArray} {tq : Option Addr} {tc : Nat} {tbl : List Int} {v0 v1 v3 : Value} {d : Nat → Bool} {w : World} {s26 s27 s28 s29 s30 s31 s32 s33 s34 s35 s36 s37 s38 s39 s40 s41 s42 s43 s44 s45 v : Value} (I : OwJ wr B x y k b off n sc0 so sc cs name tq tc tbl v0 v1 v3 d w s26 s27 s28 s29 s30 s31 s32 s33 s34 s35 s36 s37 s38 s39 s40 s41 s42 s43 s44 s45) (hd : d 5 = false) (hv : v = .pointer (some ⟨b, off + k * 2, none⟩)) : OwJ wr B x y k b off n sc0 so sc cs name tq tc tbl v0 v1 v3 (updD d 5) w s26 s27 s28 s29 s30 v s32 s33 s34 s35 s36 s37 s38 s39 s40 s41 s42 s43 s44 s45 where
  b0 := fun h => I.b0 (upd_nf h)
  b1 := fun h => I.b1 (upd_nf h)
  b2 := fun h => I.b2 (upd_ne (by decide) h)
  f0 := fun h => I.f0 (upd_ne (by decide) h)
  f1 := fun h => I.f1 (upd_ne (by decide) h)
  f2 := fun h => I.f2 (upd_ne (by decide) h)
  f3 := fun h => I.f3 (upd_ne (by decide) h)
  f4 := fun h => I.f4 (upd_ne (by decide) h)
  f5 := fun _ => hv
  f6 := fun h => I.f6 (upd_ne (by decide) h)
  f7 := fun h => I.f7 (upd_ne (by decide) h)
  f8 := fun h => I.f8 (upd_ne (by decide) h)
  f9 := fun h => I.f9 (upd_ne (by decide) h)
  f10 := fun h => I.f10 (upd_ne (by decide) h)
  f11 := fun h => I.f11 (upd_ne (by decide) h)
  f12 := fun h => I.f12 (upd_ne (by decide) h)
  f13 := fun h => I.f13 (upd_ne (by decide) h)
  f14 := fun h => I.f14 (upd_ne (by decide) h)
  f15 := fun h => I.f15 (upd_ne (by decide) h)
  f16 := fun h => I.f16 (upd_ne (by decide) h)
  f17 := fun h => (I.f17 (upd_ne (by decide) h)).imp fun g hg => ⟨hg.1, fun h' => hg.2 (upd_nf h')⟩
  f18 := fun h => I.f18 (upd_ne (by decide) h)
  f19 := fun h => I.f19 (upd_ne (by decide) h)

theorem OwJ.s6 {wr : World} {B x y k b off n sc0 : Nat} {so : Option Addr} {sc : Nat} {cs : List Value} {name : ByteArray} {tq : Option Addr} {tc : Nat} {tbl : List Int} {v0 v1 v3 : Value} {d : Nat → Bool} {w : World} {s26 s27 s28 s29 s30 s31 s32 s33 s34 s35 s36 s37 s38 s39 s40 s41 s42 s43 s44 s45 v : Value} (I : OwJ wr B x y k b off n sc0 so sc cs name tq tc tbl v0 v1 v3 d w s26 s27 s28 s29 s30 s31 s32 s33 s34 s35 s36 s37 s38 s39 s40 s41 s42 s43 s44 s45) (hd : d 6 = false) (hv : v = .pointer (some ⟨b, off + k * 2, none⟩)) : OwJ wr B x y k b off n sc0 so sc cs name tq tc tbl v0 v1 v3 (updD d 6) w s26 s27 s28 s29 s30 s31 v s33 s34 s35 s36 s37 s38 s39 s40 s41 s42 s43 s44 s45 where
  b0 := fun h => I.b0 (upd_nf h)
  b1 := fun h => I.b1 (upd_nf h)
  b2 := fun h => I.b2 (upd_ne (by decide) h)
  f0 := fun h => I.f0 (upd_ne (by decide) h)
  f1 := fun h => I.f1 (upd_ne (by decide) h)
  f2 := fun h => I.f2 (upd_ne (by decide) h)
  f3 := fun h => I.f3 (upd_ne (by decide) h)
  f4 := fun h => I.f4 (upd_ne (by decide) h)
  f5 := fun h => I.f5 (upd_ne (by decide) h)
  f6 := fun _ => hv
  f7 := fun h => I.f7 (upd_ne (by decide) h)
  f8 := fun h => I.f8 (upd_ne (by decide) h)
  f9 := fun h => I.f9 (upd_ne (by decide) h)
  f10 := fun h => I.f10 (upd_ne (by decide) h)
  f11 := fun h => I.f11 (upd_ne (by decide) h)
  f12 := fun h => I.f12 (upd_ne (by decide) h)
  f13 := fun h => I.f13 (upd_ne (by decide) h)
  f14 := fun h => I.f14 (upd_ne (by decide) h)
  f15 := fun h => I.f15 (upd_ne (by decide) h)
  f16 := fun h => I.f16 (upd_ne (by decide) h)
  f17 := fun h => (I.f17 (upd_ne (by decide) h)).imp fun g hg => ⟨hg.1, fun h' => hg.2 (upd_nf h')⟩
  f18 := fun h => I.f18 (upd_ne (by decide) h)
  f19 := fun h => I.f19 (upd_ne (by decide) h)

theorem OwJ.s7 {wr : World} {B x y k b off n sc0 : Nat} {so : Option Addr} {sc : Nat} {cs : List Value} {name : ByteArray} {tq : Option Addr} {tc : Nat} {tbl : List Int} {v0 v1 v3 : Value} {d : Nat → Bool} {w : World} {s26 s27 s28 s29 s30 s31 s32 s33 s34 s35 s36 s37 s38 s39 s40 s41 s42 s43 s44 s45 v : Value} (I : OwJ wr B x y k b off n sc0 so sc cs name tq tc tbl v0 v1 v3 d w s26 s27 s28 s29 s30 s31 s32 s33 s34 s35 s36 s37 s38 s39 s40 s41 s42 s43 s44 s45) (hd : d 7 = false) (hv : v = .string name) : OwJ wr B x y k b off n sc0 so sc cs name tq tc tbl v0 v1 v3 (updD d 7) w s26 s27 s28 s29 s30 s31 s32 v s34 s35 s36 s37 s38 s39 s40 s41 s42 s43 s44 s45 where
  b0 := fun h => I.b0 (upd_nf h)
  b1 := fun h => I.b1 (upd_nf h)
  b2 := fun h => I.b2 (upd_ne (by decide) h)
  f0 := fun h => I.f0 (upd_ne (by decide) h)
  f1 := fun h => I.f1 (upd_ne (by decide) h)
  f2 := fun h => I.f2 (upd_ne (by decide) h)
  f3 := fun h => I.f3 (upd_ne (by decide) h)
  f4 := fun h => I.f4 (upd_ne (by decide) h)
  f5 := fun h => I.f5 (upd_ne (by decide) h)
  f6 := fun h => I.f6 (upd_ne (by decide) h)
  f7 := fun _ => hv
  f8 := fun h => I.f8 (upd_ne (by decide) h)
  f9 := fun h => I.f9 (upd_ne (by decide) h)
  f10 := fun h => I.f10 (upd_ne (by decide) h)
  f11 := fun h => I.f11 (upd_ne (by decide) h)
  f12 := fun h => I.f12 (upd_ne (by decide) h)
  f13 := fun h => I.f13 (upd_ne (by decide) h)
  f14 := fun h => I.f14 (upd_ne (by decide) h)
  f15 := fun h => I.f15 (upd_ne (by decide) h)
  f16 := fun h => I.f16 (upd_ne (by decide) h)
  f17 := fun h => (I.f17 (upd_ne (by decide) h)).imp fun g hg => ⟨hg.1, fun h' => hg.2 (upd_nf h')⟩
  f18 := fun h => I.f18 (upd_ne (by decide) h)
  f19 := fun h => I.f19 (upd_ne (by decide) h)

theorem OwJ.s8 {wr : World} {B x y k b off n sc0 : Nat} {so : Option Addr} {sc : Nat} {cs : List Value} {name : ByteArray} {tq : Option Addr} {tc : Nat} {tbl : List Int} {v0 v1 v3 : Value} {d : Nat → Bool} {w w2 : World} {s26 s27 s28 s29 s30 s31 s32 s33 s34 s35 s36 s37 s38 s39 s40 s41 s42 s43 s44 s45 v : Value} (I : OwJ wr B x y k b off n sc0 so sc cs name tq tc tbl v0 v1 v3 d w s26 s27 s28 s29 s30 s31 s32 s33 s34 s35 s36 s37 s38 s39 s40 s41 s42 s43 s44 s45) (hd : d 8 = false) (h18 : d 18 = false) (h20 : d 20 = false) (hb : Below w.heap.size w w2) (hv : Emp v) : OwJ wr B x y k b off n sc0 so sc cs name tq tc tbl v0 v1 v3 (updD d 8) w2 s26 s27 s28 s29 s30 s31 s32 s33 v s35 s36 s37 s38 s39 s40 s41 s42 s43 s44 s45 where
  b0 := fun h => fr (I.b0 h18) hb
  b1 := fun h => (I.b1 h20).trans (Keep.of_below hb)
  b2 := fun h => no_d (upd_ne (by decide) h) h20
  f0 := fun h => I.f0 (upd_ne (by decide) h)
  f1 := fun h => I.f1 (upd_ne (by decide) h)
  f2 := fun h => I.f2 (upd_ne (by decide) h)
  f3 := fun h => I.f3 (upd_ne (by decide) h)
  f4 := fun h => I.f4 (upd_ne (by decide) h)
  f5 := fun h => I.f5 (upd_ne (by decide) h)
  f6 := fun h => I.f6 (upd_ne (by decide) h)
  f7 := fun h => I.f7 (upd_ne (by decide) h)
  f8 := fun _ => hv
  f9 := fun h => I.f9 (upd_ne (by decide) h)
  f10 := fun h => I.f10 (upd_ne (by decide) h)
  f11 := fun h => I.f11 (upd_ne (by decide) h)
  f12 := fun h => I.f12 (upd_ne (by decide) h)
  f13 := fun h => I.f13 (upd_ne (by decide) h)
  f14 := fun h => I.f14 (upd_ne (by decide) h)
  f15 := fun h => (I.f15 (upd_ne (by decide) h)).below hb
  f16 := fun h => I.f16 (upd_ne (by decide) h)
  f17 := fun h => (I.f17 (upd_ne (by decide) h)).imp fun g hg => ⟨hg.1, fun h' => blk_belowI (hg.2 (upd_nf h')) hb⟩
  f18 := fun h => no_d (upd_ne (by decide) h) h18
  f19 := fun h => I.f19 (upd_ne (by decide) h)

theorem OwJ.s9 {wr : World} {B x y k b off n sc0 : Nat} {so : Option Addr} {sc : Nat} {cs : List Value} {name : ByteArray} {tq : Option Addr} {tc : Nat} {tbl : List Int} {v0 v1 v3 : Value} {d : Nat → Bool} {w : World} {s26 s27 s28 s29 s30 s31 s32 s33 s34 s35 s36 s37 s38 s39 s40 s41 s42 s43 s44 s45 v : Value} (I : OwJ wr B x y k b off n sc0 so sc cs name tq tc tbl v0 v1 v3 d w s26 s27 s28 s29 s30 s31 s32 s33 s34 s35 s36 s37 s38 s39 s40 s41 s42 s43 s44 s45) (hd : d 9 = false) (hv : v = .pointer (some ⟨x, 2, none⟩)) : OwJ wr B x y k b off n sc0 so sc cs name tq tc tbl v0 v1 v3 (updD d 9) w s26 s27 s28 s29 s30 s31 s32 s33 s34 v s36 s37 s38 s39 s40 s41 s42 s43 s44 s45 where
  b0 := fun h => I.b0 (upd_nf h)
  b1 := fun h => I.b1 (upd_nf h)
  b2 := fun h => I.b2 (upd_ne (by decide) h)
  f0 := fun h => I.f0 (upd_ne (by decide) h)
  f1 := fun h => I.f1 (upd_ne (by decide) h)
  f2 := fun h => I.f2 (upd_ne (by decide) h)
  f3 := fun h => I.f3 (upd_ne (by decide) h)
  f4 := fun h => I.f4 (upd_ne (by decide) h)
  f5 := fun h => I.f5 (upd_ne (by decide) h)
  f6 := fun h => I.f6 (upd_ne (by decide) h)
  f7 := fun h => I.f7 (upd_ne (by decide) h)
  f8 := fun h => I.f8 (upd_ne (by decide) h)
  f9 := fun _ => hv
  f10 := fun h => I.f10 (upd_ne (by decide) h)
  f11 := fun h => I.f11 (upd_ne (by decide) h)
  f12 := fun h => I.f12 (upd_ne (by decide) h)
  f13 := fun h => I.f13 (upd_ne (by decide) h)
  f14 := fun h => I.f14 (upd_ne (by decide) h)
  f15 := fun h => I.f15 (upd_ne (by decide) h)
  f16 := fun h => I.f16 (upd_ne (by decide) h)
  f17 := fun h => (I.f17 (upd_ne (by decide) h)).imp fun g hg => ⟨hg.1, fun h' => hg.2 (upd_nf h')⟩
  f18 := fun h => I.f18 (upd_ne (by decide) h)
  f19 := fun h => I.f19 (upd_ne (by decide) h)

theorem OwJ.s10 {wr : World} {B x y k b off n sc0 : Nat} {so : Option Addr} {sc : Nat} {cs : List Value} {name : ByteArray} {tq : Option Addr} {tc : Nat} {tbl : List Int} {v0 v1 v3 : Value} {d : Nat → Bool} {w : World} {s26 s27 s28 s29 s30 s31 s32 s33 s34 s35 s36 s37 s38 s39 s40 s41 s42 s43 s44 s45 v : Value} (I : OwJ wr B x y k b off n sc0 so sc cs name tq tc tbl v0 v1 v3 d w s26 s27 s28 s29 s30 s31 s32 s33 s34 s35 s36 s37 s38 s39 s40 s41 s42 s43 s44 s45) (hd : d 10 = false) (hv : v = .slice (some ⟨b, off, none⟩) n sc0) : OwJ wr B x y k b off n sc0 so sc cs name tq tc tbl v0 v1 v3 (updD d 10) w s26 s27 s28 s29 s30 s31 s32 s33 s34 s35 v s37 s38 s39 s40 s41 s42 s43 s44 s45 where
  b0 := fun h => I.b0 (upd_nf h)
  b1 := fun h => I.b1 (upd_nf h)
  b2 := fun h => I.b2 (upd_ne (by decide) h)
  f0 := fun h => I.f0 (upd_ne (by decide) h)
  f1 := fun h => I.f1 (upd_ne (by decide) h)
  f2 := fun h => I.f2 (upd_ne (by decide) h)
  f3 := fun h => I.f3 (upd_ne (by decide) h)
  f4 := fun h => I.f4 (upd_ne (by decide) h)
  f5 := fun h => I.f5 (upd_ne (by decide) h)
  f6 := fun h => I.f6 (upd_ne (by decide) h)
  f7 := fun h => I.f7 (upd_ne (by decide) h)
  f8 := fun h => I.f8 (upd_ne (by decide) h)
  f9 := fun h => I.f9 (upd_ne (by decide) h)
  f10 := fun _ => hv
  f11 := fun h => I.f11 (upd_ne (by decide) h)
  f12 := fun h => I.f12 (upd_ne (by decide) h)
  f13 := fun h => I.f13 (upd_ne (by decide) h)
  f14 := fun h => I.f14 (upd_ne (by decide) h)
  f15 := fun h => I.f15 (upd_ne (by decide) h)
  f16 := fun h => I.f16 (upd_ne (by decide) h)
  f17 := fun h => (I.f17 (upd_ne (by decide) h)).imp fun g hg => ⟨hg.1, fun h' => hg.2 (upd_nf h')⟩
  f18 := fun h => I.f18 (upd_ne (by decide) h)
  f19 := fun h => I.f19 (upd_ne (by decide) h)

theorem OwJ.s11 {wr : World} {B x y k b off n sc0 : Nat} {so : Option Addr} {sc : Nat} {cs : List Value} {name : ByteArray} {tq : Option Addr} {tc : Nat} {tbl : List Int} {v0 v1 v3 : Value} {d : Nat → Bool} {w : World} {s26 s27 s28 s29 s30 s31 s32 s33 s34 s35 s36 s37 s38 s39 s40 s41 s42 s43 s44 s45 v : Value} (I : OwJ wr B x y k b off n sc0 so sc cs name tq tc tbl v0 v1 v3 d w s26 s27 s28 s29 s30 s31 s32 s33 s34 s35 s36 s37 s38 s39 s40 s41 s42 s43 s44 s45) (hd : d 11 = false) (hv : v = .int .i64 k) : OwJ wr B x y k b off n sc0 so sc cs name tq tc tbl v0 v1 v3 (updD d 11) w s26 s27 s28 s29 s30 s31 s32 s33 s34 s35 s36 v s38 s39 s40 s41 s42 s43 s44 s45 where
  b0 := fun h => I.b0 (upd_nf h)
  b1 := fun h => I.b1 (upd_nf h)
  b2 := fun h => I.b2 (upd_ne (by decide) h)
  f0 := fun h => I.f0 (upd_ne (by decide) h)
  f1 := fun h => I.f1 (upd_ne (by decide) h)
  f2 := fun h => I.f2 (upd_ne (by decide) h)
  f3 := fun h => I.f3 (upd_ne (by decide) h)
  f4 := fun h => I.f4 (upd_ne (by decide) h)
  f5 := fun h => I.f5 (upd_ne (by decide) h)
  f6 := fun h => I.f6 (upd_ne (by decide) h)
  f7 := fun h => I.f7 (upd_ne (by decide) h)
  f8 := fun h => I.f8 (upd_ne (by decide) h)
  f9 := fun h => I.f9 (upd_ne (by decide) h)
  f10 := fun h => I.f10 (upd_ne (by decide) h)
  f11 := fun _ => hv
  f12 := fun h => I.f12 (upd_ne (by decide) h)
  f13 := fun h => I.f13 (upd_ne (by decide) h)
  f14 := fun h => I.f14 (upd_ne (by decide) h)
  f15 := fun h => I.f15 (upd_ne (by decide) h)
  f16 := fun h => I.f16 (upd_ne (by decide) h)
  f17 := fun h => (I.f17 (upd_ne (by decide) h)).imp fun g hg => ⟨hg.1, fun h' => hg.2 (upd_nf h')⟩
  f18 := fun h => I.f18 (upd_ne (by decide) h)
  f19 := fun h => I.f19 (upd_ne (by decide) h)

theorem OwJ.s12 {wr : World} {B x y k b off n sc0 : Nat} {so : Option Addr} {sc : Nat} {cs : List Value} {name : ByteArray} {tq : Option Addr} {tc : Nat} {tbl : List Int} {v0 v1 v3 : Value} {d : Nat → Bool} {w : World} {s26 s27 s28 s29 s30 s31 s32 s33 s34 s35 s36 s37 s38 s39 s40 s41 s42 s43 s44 s45 v : Value} (I : OwJ wr B x y k b off n sc0 so sc cs name tq tc tbl v0 v1 v3 d w s26 s27 s28 s29 s30 s31 s32 s33 s34 s35 s36 s37 s38 s39 s40 s41 s42 s43 s44 s45) (hd : d 12 = false) (hv : v = .pointer (some ⟨b, off + k * 2, none⟩)) : OwJ wr B x y k b off n sc0 so sc cs name tq tc tbl v0 v1 v3 (updD d 12) w s26 s27 s28 s29 s30 s31 s32 s33 s34 s35 s36 s37 v s39 s40 s41 s42 s43 s44 s45 where
  b0 := fun h => I.b0 (upd_nf h)
  b1 := fun h => I.b1 (upd_nf h)
  b2 := fun h => I.b2 (upd_ne (by decide) h)
  f0 := fun h => I.f0 (upd_ne (by decide) h)
  f1 := fun h => I.f1 (upd_ne (by decide) h)
  f2 := fun h => I.f2 (upd_ne (by decide) h)
  f3 := fun h => I.f3 (upd_ne (by decide) h)
  f4 := fun h => I.f4 (upd_ne (by decide) h)
  f5 := fun h => I.f5 (upd_ne (by decide) h)
  f6 := fun h => I.f6 (upd_ne (by decide) h)
  f7 := fun h => I.f7 (upd_ne (by decide) h)
  f8 := fun h => I.f8 (upd_ne (by decide) h)
  f9 := fun h => I.f9 (upd_ne (by decide) h)
  f10 := fun h => I.f10 (upd_ne (by decide) h)
  f11 := fun h => I.f11 (upd_ne (by decide) h)
  f12 := fun _ => hv
  f13 := fun h => I.f13 (upd_ne (by decide) h)
  f14 := fun h => I.f14 (upd_ne (by decide) h)
  f15 := fun h => I.f15 (upd_ne (by decide) h)
  f16 := fun h => I.f16 (upd_ne (by decide) h)
  f17 := fun h => (I.f17 (upd_ne (by decide) h)).imp fun g hg => ⟨hg.1, fun h' => hg.2 (upd_nf h')⟩
  f18 := fun h => I.f18 (upd_ne (by decide) h)
  f19 := fun h => I.f19 (upd_ne (by decide) h)

theorem OwJ.s13 {wr : World} {B x y k b off n sc0 : Nat} {so : Option Addr} {sc : Nat} {cs : List Value} {name : ByteArray} {tq : Option Addr} {tc : Nat} {tbl : List Int} {v0 v1 v3 : Value} {d : Nat → Bool} {w : World} {s26 s27 s28 s29 s30 s31 s32 s33 s34 s35 s36 s37 s38 s39 s40 s41 s42 s43 s44 s45 v : Value} (I : OwJ wr B x y k b off n sc0 so sc cs name tq tc tbl v0 v1 v3 d w s26 s27 s28 s29 s30 s31 s32 s33 s34 s35 s36 s37 s38 s39 s40 s41 s42 s43 s44 s45) (hd : d 13 = false) (hv : v = .pointer (some ⟨b, off + k * 2 + 1, none⟩)) : OwJ wr B x y k b off n sc0 so sc cs name tq tc tbl v0 v1 v3 (updD d 13) w s26 s27 s28 s29 s30 s31 s32 s33 s34 s35 s36 s37 s38 v s40 s41 s42 s43 s44 s45 where
  b0 := fun h => I.b0 (upd_nf h)
  b1 := fun h => I.b1 (upd_nf h)
  b2 := fun h => I.b2 (upd_ne (by decide) h)
  f0 := fun h => I.f0 (upd_ne (by decide) h)
  f1 := fun h => I.f1 (upd_ne (by decide) h)
  f2 := fun h => I.f2 (upd_ne (by decide) h)
  f3 := fun h => I.f3 (upd_ne (by decide) h)
  f4 := fun h => I.f4 (upd_ne (by decide) h)
  f5 := fun h => I.f5 (upd_ne (by decide) h)
  f6 := fun h => I.f6 (upd_ne (by decide) h)
  f7 := fun h => I.f7 (upd_ne (by decide) h)
  f8 := fun h => I.f8 (upd_ne (by decide) h)
  f9 := fun h => I.f9 (upd_ne (by decide) h)
  f10 := fun h => I.f10 (upd_ne (by decide) h)
  f11 := fun h => I.f11 (upd_ne (by decide) h)
  f12 := fun h => I.f12 (upd_ne (by decide) h)
  f13 := fun _ => hv
  f14 := fun h => I.f14 (upd_ne (by decide) h)
  f15 := fun h => I.f15 (upd_ne (by decide) h)
  f16 := fun h => I.f16 (upd_ne (by decide) h)
  f17 := fun h => (I.f17 (upd_ne (by decide) h)).imp fun g hg => ⟨hg.1, fun h' => hg.2 (upd_nf h')⟩
  f18 := fun h => I.f18 (upd_ne (by decide) h)
  f19 := fun h => I.f19 (upd_ne (by decide) h)

theorem OwJ.s14 {wr : World} {B x y k b off n sc0 : Nat} {so : Option Addr} {sc : Nat} {cs : List Value} {name : ByteArray} {tq : Option Addr} {tc : Nat} {tbl : List Int} {v0 v1 v3 : Value} {d : Nat → Bool} {w : World} {s26 s27 s28 s29 s30 s31 s32 s33 s34 s35 s36 s37 s38 s39 s40 s41 s42 s43 s44 s45 v : Value} (I : OwJ wr B x y k b off n sc0 so sc cs name tq tc tbl v0 v1 v3 d w s26 s27 s28 s29 s30 s31 s32 s33 s34 s35 s36 s37 s38 s39 s40 s41 s42 s43 s44 s45) (hd : d 14 = false) (hv : v = .slice tq tbl.length tc) : OwJ wr B x y k b off n sc0 so sc cs name tq tc tbl v0 v1 v3 (updD d 14) w s26 s27 s28 s29 s30 s31 s32 s33 s34 s35 s36 s37 s38 s39 v s41 s42 s43 s44 s45 where
  b0 := fun h => I.b0 (upd_nf h)
  b1 := fun h => I.b1 (upd_nf h)
  b2 := fun h => I.b2 (upd_ne (by decide) h)
  f0 := fun h => I.f0 (upd_ne (by decide) h)
  f1 := fun h => I.f1 (upd_ne (by decide) h)
  f2 := fun h => I.f2 (upd_ne (by decide) h)
  f3 := fun h => I.f3 (upd_ne (by decide) h)
  f4 := fun h => I.f4 (upd_ne (by decide) h)
  f5 := fun h => I.f5 (upd_ne (by decide) h)
  f6 := fun h => I.f6 (upd_ne (by decide) h)
  f7 := fun h => I.f7 (upd_ne (by decide) h)
  f8 := fun h => I.f8 (upd_ne (by decide) h)
  f9 := fun h => I.f9 (upd_ne (by decide) h)
  f10 := fun h => I.f10 (upd_ne (by decide) h)
  f11 := fun h => I.f11 (upd_ne (by decide) h)
  f12 := fun h => I.f12 (upd_ne (by decide) h)
  f13 := fun h => I.f13 (upd_ne (by decide) h)
  f14 := fun _ => hv
  f15 := fun h => I.f15 (upd_ne (by decide) h)
  f16 := fun h => I.f16 (upd_ne (by decide) h)
  f17 := fun h => (I.f17 (upd_ne (by decide) h)).imp fun g hg => ⟨hg.1, fun h' => hg.2 (upd_nf h')⟩
  f18 := fun h => I.f18 (upd_ne (by decide) h)
  f19 := fun h => I.f19 (upd_ne (by decide) h)

theorem OwJ.s19 {wr : World} {B x y k b off n sc0 : Nat} {so : Option Addr} {sc : Nat} {cs : List Value} {name : ByteArray} {tq : Option Addr} {tc : Nat} {tbl : List Int} {v0 v1 v3 : Value} {d : Nat → Bool} {w : World} {s26 s27 s28 s29 s30 s31 s32 s33 s34 s35 s36 s37 s38 s39 s40 s41 s42 s43 s44 s45 v : Value} (I : OwJ wr B x y k b off n sc0 so sc cs name tq tc tbl v0 v1 v3 d w s26 s27 s28 s29 s30 s31 s32 s33 s34 s35 s36 s37 s38 s39 s40 s41 s42 s43 s44 s45) (hd : d 19 = false) (hv : v = .pointer (some ⟨y, 2, none⟩)) : OwJ wr B x y k b off n sc0 so sc cs name tq tc tbl v0 v1 v3 (updD d 19) w s26 s27 s28 s29 s30 s31 s32 s33 s34 s35 s36 s37 s38 s39 s40 s41 s42 s43 s44 v where
  b0 := fun h => I.b0 (upd_nf h)
  b1 := fun h => I.b1 (upd_nf h)
  b2 := fun h => I.b2 (upd_ne (by decide) h)
  f0 := fun h => I.f0 (upd_ne (by decide) h)
  f1 := fun h => I.f1 (upd_ne (by decide) h)
  f2 := fun h => I.f2 (upd_ne (by decide) h)
  f3 := fun h => I.f3 (upd_ne (by decide) h)
  f4 := fun h => I.f4 (upd_ne (by decide) h)
  f5 := fun h => I.f5 (upd_ne (by decide) h)
  f6 := fun h => I.f6 (upd_ne (by decide) h)
  f7 := fun h => I.f7 (upd_ne (by decide) h)
  f8 := fun h => I.f8 (upd_ne (by decide) h)
  f9 := fun h => I.f9 (upd_ne (by decide) h)
  f10 := fun h => I.f10 (upd_ne (by decide) h)
  f11 := fun h => I.f11 (upd_ne (by decide) h)
  f12 := fun h => I.f12 (upd_ne (by decide) h)
  f13 := fun h => I.f13 (upd_ne (by decide) h)
  f14 := fun h => I.f14 (upd_ne (by decide) h)
  f15 := fun h => I.f15 (upd_ne (by decide) h)
  f16 := fun h => I.f16 (upd_ne (by decide) h)
  f17 := fun h => (I.f17 (upd_ne (by decide) h)).imp fun g hg => ⟨hg.1, fun h' => hg.2 (upd_nf h')⟩
  f18 := fun h => I.f18 (upd_ne (by decide) h)
  f19 := fun _ => hv

theorem OwJ.s15 {wr : World} {B x y k b off n sc0 : Nat} {so : Option Addr} {sc : Nat} {cs : List Value} {name : ByteArray} {tq : Option Addr} {tc : Nat} {tbl : List Int} {v0 v1 v3 : Value} {d : Nat → Bool} {w w2 : World} {s26 s27 s28 s29 s30 s31 s32 s33 s34 s35 s36 s37 s38 s39 s40 s41 s42 s43 s44 s45 v : Value} (I : OwJ wr B x y k b off n sc0 so sc cs name tq tc tbl v0 v1 v3 d w s26 s27 s28 s29 s30 s31 s32 s33 s34 s35 s36 s37 s38 s39 s40 s41 s42 s43 s44 s45) (hd : d 15 = false) (h18 : d 18 = false) (h20 : d 20 = false) (hb : Below w.heap.size w w2) (h16 : d 16 = false) (h17 : d 17 = false) (hv : OwnN w2 w.heap.size v tbl) : OwJ wr B x y k b off n sc0 so sc cs name tq tc tbl v0 v1 v3 (updD d 15) w2 s26 s27 s28 s29 s30 s31 s32 s33 s34 s35 s36 s37 s38 s39 s40 v s42 s43 s44 s45 where
  b0 := fun h => fr (I.b0 h18) hb
  b1 := fun h => (I.b1 h20).trans (Keep.of_below hb)
  b2 := fun h => no_d (upd_ne (by decide) h) h20
  f0 := fun h => I.f0 (upd_ne (by decide) h)
  f1 := fun h => I.f1 (upd_ne (by decide) h)
  f2 := fun h => I.f2 (upd_ne (by decide) h)
  f3 := fun h => I.f3 (upd_ne (by decide) h)
  f4 := fun h => I.f4 (upd_ne (by decide) h)
  f5 := fun h => I.f5 (upd_ne (by decide) h)
  f6 := fun h => I.f6 (upd_ne (by decide) h)
  f7 := fun h => I.f7 (upd_ne (by decide) h)
  f8 := fun h => I.f8 (upd_ne (by decide) h)
  f9 := fun h => I.f9 (upd_ne (by decide) h)
  f10 := fun h => I.f10 (upd_ne (by decide) h)
  f11 := fun h => I.f11 (upd_ne (by decide) h)
  f12 := fun h => I.f12 (upd_ne (by decide) h)
  f13 := fun h => I.f13 (upd_ne (by decide) h)
  f14 := fun h => I.f14 (upd_ne (by decide) h)
  f15 := fun _ => hv.base (I.b0 h18).size
  f16 := fun h => no_d (upd_ne (by decide) h) h16
  f17 := fun h => no_d (upd_ne (by decide) h) h17
  f18 := fun h => no_d (upd_ne (by decide) h) h18
  f19 := fun h => I.f19 (upd_ne (by decide) h)

theorem OwJ.s16 {wr : World} {B x y k b off n sc0 : Nat} {so : Option Addr} {sc : Nat} {cs : List Value} {name : ByteArray} {tq : Option Addr} {tc : Nat} {tbl : List Int} {v0 v1 v3 : Value} {d : Nat → Bool} {w : World} {s26 s27 s28 s29 s30 s31 s32 s33 s34 s35 s36 s37 s38 s39 s40 s41 s42 s43 s44 s45 v : Value} (I : OwJ wr B x y k b off n sc0 so sc cs name tq tc tbl v0 v1 v3 d w s26 s27 s28 s29 s30 s31 s32 s33 s34 s35 s36 s37 s38 s39 s40 s41 s42 s43 s44 s45) (hd : d 16 = false) (hv : v = .agg #[.string name, s41]) : OwJ wr B x y k b off n sc0 so sc cs name tq tc tbl v0 v1 v3 (updD d 16) w s26 s27 s28 s29 s30 s31 s32 s33 s34 s35 s36 s37 s38 s39 s40 s41 v s43 s44 s45 where
  b0 := fun h => I.b0 (upd_nf h)
  b1 := fun h => I.b1 (upd_nf h)
  b2 := fun h => I.b2 (upd_ne (by decide) h)
  f0 := fun h => I.f0 (upd_ne (by decide) h)
  f1 := fun h => I.f1 (upd_ne (by decide) h)
  f2 := fun h => I.f2 (upd_ne (by decide) h)
  f3 := fun h => I.f3 (upd_ne (by decide) h)
  f4 := fun h => I.f4 (upd_ne (by decide) h)
  f5 := fun h => I.f5 (upd_ne (by decide) h)
  f6 := fun h => I.f6 (upd_ne (by decide) h)
  f7 := fun h => I.f7 (upd_ne (by decide) h)
  f8 := fun h => I.f8 (upd_ne (by decide) h)
  f9 := fun h => I.f9 (upd_ne (by decide) h)
  f10 := fun h => I.f10 (upd_ne (by decide) h)
  f11 := fun h => I.f11 (upd_ne (by decide) h)
  f12 := fun h => I.f12 (upd_ne (by decide) h)
  f13 := fun h => I.f13 (upd_ne (by decide) h)
  f14 := fun h => I.f14 (upd_ne (by decide) h)
  f15 := fun h => I.f15 (upd_ne (by decide) h)
  f16 := fun _ => hv
  f17 := fun h => (I.f17 (upd_ne (by decide) h)).imp fun g hg => ⟨hg.1, fun h' => hg.2 (upd_nf h')⟩
  f18 := fun h => I.f18 (upd_ne (by decide) h)
  f19 := fun h => I.f19 (upd_ne (by decide) h)

theorem OwJ.s17 {wr : World} {B x y k b off n sc0 : Nat} {so : Option Addr} {sc : Nat} {cs : List Value} {name : ByteArray} {tq : Option Addr} {tc : Nat} {tbl : List Int} {v0 v1 v3 : Value} {d : Nat → Bool} {w w2 : World} {s26 s27 s28 s29 s30 s31 s32 s33 s34 s35 s36 s37 s38 s39 s40 s41 s42 s43 s44 s45 v : Value} (I : OwJ wr B x y k b off n sc0 so sc cs name tq tc tbl v0 v1 v3 d w s26 s27 s28 s29 s30 s31 s32 s33 s34 s35 s36 s37 s38 s39 s40 s41 s42 s43 s44 s45) (hd : d 17 = false) (h18 : d 18 = false) (h20 : d 20 = false) (hb : Below w.heap.size w w2) {g : Nat} (hv : v = .slice (some ⟨g, 0, none⟩) 1 1) (hn : w2.heap[g]? = some (.cells #[.string name, s41] 107 (0, 0))) : OwJ wr B x y k b off n sc0 so sc cs name tq tc tbl v0 v1 v3 (updD d 17) w2 s26 s27 s28 s29 s30 s31 s32 s33 s34 s35 s36 s37 s38 s39 s40 s41 s42 v s44 s45 where
  b0 := fun h => fr (I.b0 h18) hb
  b1 := fun h => (I.b1 h20).trans (Keep.of_below hb)
  b2 := fun h => no_d (upd_ne (by decide) h) h20
  f0 := fun h => I.f0 (upd_ne (by decide) h)
  f1 := fun h => I.f1 (upd_ne (by decide) h)
  f2 := fun h => I.f2 (upd_ne (by decide) h)
  f3 := fun h => I.f3 (upd_ne (by decide) h)
  f4 := fun h => I.f4 (upd_ne (by decide) h)
  f5 := fun h => I.f5 (upd_ne (by decide) h)
  f6 := fun h => I.f6 (upd_ne (by decide) h)
  f7 := fun h => I.f7 (upd_ne (by decide) h)
  f8 := fun h => I.f8 (upd_ne (by decide) h)
  f9 := fun h => I.f9 (upd_ne (by decide) h)
  f10 := fun h => I.f10 (upd_ne (by decide) h)
  f11 := fun h => I.f11 (upd_ne (by decide) h)
  f12 := fun h => I.f12 (upd_ne (by decide) h)
  f13 := fun h => I.f13 (upd_ne (by decide) h)
  f14 := fun h => I.f14 (upd_ne (by decide) h)
  f15 := fun h => (I.f15 (upd_ne (by decide) h)).below hb
  f16 := fun h => I.f16 (upd_ne (by decide) h)
  f17 := fun _ => ⟨g, hv, fun _ => hn⟩
  f18 := fun h => no_d (upd_ne (by decide) h) h18
  f19 := fun h => I.f19 (upd_ne (by decide) h)

theorem OwJ.s18 {wr : World} {B x y k b off n sc0 : Nat} {so : Option Addr} {sc : Nat} {cs : List Value} {name : ByteArray} {tq : Option Addr} {tc : Nat} {tbl : List Int} {v0 v1 v3 : Value} {d : Nat → Bool} {w w2 : World} {s26 s27 s28 s29 s30 s31 s32 s33 s34 s35 s36 s37 s38 s39 s40 s41 s42 s43 s44 s45 v : Value} (I : OwJ wr B x y k b off n sc0 so sc cs name tq tc tbl v0 v1 v3 d w s26 s27 s28 s29 s30 s31 s32 s33 s34 s35 s36 s37 s38 s39 s40 s41 s42 s43 s44 s45) (hd : d 18 = false) (h20 : d 20 = false) (hk : Keep (Own (.slice so k sc)) w w2) {g2 cap2 : Nat} (hv : v = .slice (some ⟨g2, 0, none⟩) (k + 1) cap2) (ho : w2.ownsRow B 107 2 (.slice (some ⟨g2, 0, none⟩) (k + 1) cap2) (k + 1) (cs ++ [.string name, s41])) (ha : OwnN w wr.heap.size s41 tbl → ∀ g, Own s41 g → ¬ Own (.slice so k sc) g) : OwJ wr B x y k b off n sc0 so sc cs name tq tc tbl v0 v1 v3 (updD d 18) w2 s26 s27 s28 s29 s30 s31 s32 s33 s34 s35 s36 s37 s38 s39 s40 s41 s42 s43 v s45 where
  b0 := fun h => no_d (k := 18) upd_at h
  b1 := fun h => (I.b1 h20).trans hk
  b2 := fun h => no_d (upd_ne (by decide) h) h20
  f0 := fun h => I.f0 (upd_ne (by decide) h)
  f1 := fun h => I.f1 (upd_ne (by decide) h)
  f2 := fun h => I.f2 (upd_ne (by decide) h)
  f3 := fun h => I.f3 (upd_ne (by decide) h)
  f4 := fun h => I.f4 (upd_ne (by decide) h)
  f5 := fun h => I.f5 (upd_ne (by decide) h)
  f6 := fun h => I.f6 (upd_ne (by decide) h)
  f7 := fun h => I.f7 (upd_ne (by decide) h)
  f8 := fun h => I.f8 (upd_ne (by decide) h)
  f9 := fun h => I.f9 (upd_ne (by decide) h)
  f10 := fun h => I.f10 (upd_ne (by decide) h)
  f11 := fun h => I.f11 (upd_ne (by decide) h)
  f12 := fun h => I.f12 (upd_ne (by decide) h)
  f13 := fun h => I.f13 (upd_ne (by decide) h)
  f14 := fun h => I.f14 (upd_ne (by decide) h)
  f15 := fun h => (I.f15 (upd_ne (by decide) h)).keep hk (ha (I.f15 (upd_ne (by decide) h)))
  f16 := fun h => I.f16 (upd_ne (by decide) h)
  f17 := fun h => (I.f17 (upd_ne (by decide) h)).imp fun g hg => ⟨hg.1, fun h' => no_d (k := 18) upd_at h'⟩
  f18 := fun _ => ⟨g2, cap2, hv, ho⟩
  f19 := fun h => I.f19 (upd_ne (by decide) h)

theorem OwJ.s20 {wr : World} {B x y k b off n sc0 : Nat} {so : Option Addr} {sc : Nat} {cs : List Value} {name : ByteArray} {tq : Option Addr} {tc : Nat} {tbl : List Int} {v0 v1 v3 : Value} {d : Nat → Bool} {w w2 : World} {s26 s27 s28 s29 s30 s31 s32 s33 s34 s35 s36 s37 s38 s39 s40 s41 s42 s43 s44 s45 : Value} (I : OwJ wr B x y k b off n sc0 so sc cs name tq tc tbl v0 v1 v3 d w s26 s27 s28 s29 s30 s31 s32 s33 s34 s35 s36 s37 s38 s39 s40 s41 s42 s43 s44 s45) (hd : d 20 = false) (p18 : d 18 = true) (hk : Keep (fun g => g = y) w w2) (hn : VarM w2 y 66 v0 v1 s44 v3) (hx : ∃ c, w.heap[y]? = some (.cells c 66 (0, 0))) : OwJ wr B x y k b off n sc0 so sc cs name tq tc tbl v0 v1 v3 (updD d 20) w2 s26 s27 s28 s29 s30 s31 s32 s33 s34 s35 s36 s37 s38 s39 s40 s41 s42 s43 s44 s45 where
  b0 := fun h => no_d p18 (upd_nf h)
  b1 := fun h => no_d (k := 20) upd_at h
  b2 := fun h => ⟨((I.b1 hd).mono (fun g h => .inl h)).trans (hk.mono (fun g h => .inr h)), hn⟩
  f0 := fun h => I.f0 (upd_ne (by decide) h)
  f1 := fun h => I.f1 (upd_ne (by decide) h)
  f2 := fun h => I.f2 (upd_ne (by decide) h)
  f3 := fun h => I.f3 (upd_ne (by decide) h)
  f4 := fun h => I.f4 (upd_ne (by decide) h)
  f5 := fun h => I.f5 (upd_ne (by decide) h)
  f6 := fun h => I.f6 (upd_ne (by decide) h)
  f7 := fun h => I.f7 (upd_ne (by decide) h)
  f8 := fun h => I.f8 (upd_ne (by decide) h)
  f9 := fun h => I.f9 (upd_ne (by decide) h)
  f10 := fun h => I.f10 (upd_ne (by decide) h)
  f11 := fun h => I.f11 (upd_ne (by decide) h)
  f12 := fun h => I.f12 (upd_ne (by decide) h)
  f13 := fun h => I.f13 (upd_ne (by decide) h)
  f14 := fun h => I.f14 (upd_ne (by decide) h)
  f15 := fun h => (I.f15 (upd_ne (by decide) h)).keep hk (fun g hg e => (I.f15 (upd_ne (by decide) h)).other hx.choose_spec (by decide) (e ▸ hg))
  f16 := fun h => I.f16 (upd_ne (by decide) h)
  f17 := fun h => (I.f17 (upd_ne (by decide) h)).imp fun g hg => ⟨hg.1, fun h' => no_d p18 (upd_nf h')⟩
  f18 := fun h => by
    obtain ⟨g2, cap2, hv, ho⟩ := I.f18 p18
    obtain ⟨c, hc⟩ := hx
    have h1 : OwnR w B 107 2 (.slice (some ⟨g2, 0, none⟩) (k + 1) cap2) (k + 1) (cs ++ [.string name, s41]) := .inr ⟨by omega, ho⟩
    refine ⟨g2, cap2, hv, (h1.keep hk (fun g hg e => h1.other hc (by decide) (e ▸ hg))).row (by omega)⟩
  f19 := fun h => I.f19 (upd_ne (by decide) h)

/-- The frame of l10Own within a round of its loop. -/
abbrev ownG (t0 t1 t2 t3 t4 t5 t6 t7 t8 t9 t10 t11 t12 t13 t14 t15 t16 t17 t18 t19 t20 t21 t22 t23 t24 t25 s26 s27 s28 s29 s30 s31 s32 s33 s34 s35 s36 s37 s38 s39 s40 s41 s42 s43 s44 s45 t46 : Value) : Act := ⟨#[t0, t1, t2, t3, t4, t5, t6, t7, t8, t9, t10, t11, t12, t13, t14, t15, t16, t17, t18, t19, t20, t21, t22, t23, t24, t25, s26, s27, s28, s29, s30, s31, s32, s33, s34, s35, s36, s37, s38, s39, s40, s41, s42, s43, s44, s45, t46], []⟩

theorem ownG_region {P : Program} {id : Nat} {Q : Exit → Act → World → Prop} {l : List Oper} {t0 t1 t2 t3 t4 t5 t6 t7 t8 t9 t10 t11 t12 t13 t14 t15 t16 t17 t18 t19 t20 t21 t22 t23 t24 t25 t46 s26 s27 s28 s29 s30 s31 s32 s33 s34 s35 s36 s37 s38 s39 s40 s41 s42 s43 s44 s45 : Value} {W : World} (J : (Nat → Bool) → World → Value → Value → Value → Value → Value → Value → Value → Value → Value → Value → Value → Value → Value → Value → Value → Value → Value → Value → Value → Value →  Prop) (hm : P.follows .mixedOrders = true) (hl : linB l = true)
    (hg : ∀ (i : Nat) (o : Oper), l[i]? = some o → o.guard = none) (h0 : J (fun _ => false) { W with drawn := W.drawn + 1 } s26 s27 s28 s29 s30 s31 s32 s33 s34 s35 s36 s37 s38 s39 s40 s41 s42 s43 s44 s45)
    (hs : ∀ (d : Nat → Bool) (w : World) (i : Nat) (o : Oper) (r26 r27 r28 r29 r30 r31 r32 r33 r34 r35 r36 r37 r38 r39 r40 r41 r42 r43 r44 r45 : Value), Closed l d → J d w r26 r27 r28 r29 r30 r31 r32 r33 r34 r35 r36 r37 r38 r39 r40 r41 r42 r43 r44 r45 → l[i]? = some o → d i = false → (∀ e ∈ o.after, Region.binds .any e = true → d e.on = true) → ∀ K : Act → World → Prop, (∀ (w' : World) (q26 q27 q28 q29 q30 q31 q32 q33 q34 q35 q36 q37 q38 q39 q40 q41 q42 q43 q44 q45 : Value), J (updD d i) w' q26 q27 q28 q29 q30 q31 q32 q33 q34 q35 q36 q37 q38 q39 q40 q41 q42 q43 q44 q45 → K (ownG t0 t1 t2 t3 t4 t5 t6 t7 t8 t9 t10 t11 t12 t13 t14 t15 t16 t17 t18 t19 t20 t21 t22 t23 t24 t25 q26 q27 q28 q29 q30 q31 q32 q33 q34 q35 q36 q37 q38 q39 q40 q41 q42 q43 q44 q45 t46) w') → o.wp P (ownG t0 t1 t2 t3 t4 t5 t6 t7 t8 t9 t10 t11 t12 t13 t14 t15 t16 t17 t18 t19 t20 t21 t22 t23 t24 t25 r26 r27 r28 r29 r30 r31 r32 r33 r34 r35 r36 r37 r38 r39 r40 r41 r42 r43 r44 r45 t46) w K Q)
    (he : ∀ (d : Nat → Bool) (w : World) (r26 r27 r28 r29 r30 r31 r32 r33 r34 r35 r36 r37 r38 r39 r40 r41 r42 r43 r44 r45 : Value), J d w r26 r27 r28 r29 r30 r31 r32 r33 r34 r35 r36 r37 r38 r39 r40 r41 r42 r43 r44 r45 → (∀ i, i < l.length → d i = true) → Q .normal (ownG t0 t1 t2 t3 t4 t5 t6 t7 t8 t9 t10 t11 t12 t13 t14 t15 t16 t17 t18 t19 t20 t21 t22 t23 t24 t25 r26 r27 r28 r29 r30 r31 r32 r33 r34 r35 r36 r37 r38 r39 r40 r41 r42 r43 r44 r45 t46) w) : (Code.region id l.toArray true).wp P Q (ownG t0 t1 t2 t3 t4 t5 t6 t7 t8 t9 t10 t11 t12 t13 t14 t15 t16 t17 t18 t19 t20 t21 t22 t23 t24 t25 s26 s27 s28 s29 s30 s31 s32 s33 s34 s35 s36 s37 s38 s39 s40 s41 s42 s43 s44 s45 t46) W := by
  refine wp_region_inv2 (fun d f w => ∃ r26 r27 r28 r29 r30 r31 r32 r33 r34 r35 r36 r37 r38 r39 r40 r41 r42 r43 r44 r45, f = ownG t0 t1 t2 t3 t4 t5 t6 t7 t8 t9 t10 t11 t12 t13 t14 t15 t16 t17 t18 t19 t20 t21 t22 t23 t24 t25 r26 r27 r28 r29 r30 r31 r32 r33 r34 r35 r36 r37 r38 r39 r40 r41 r42 r43 r44 r45 t46 ∧ J d w r26 r27 r28 r29 r30 r31 r32 r33 r34 r35 r36 r37 r38 r39 r40 r41 r42 r43 r44 r45) hm hl hg ⟨s26, s27, s28, s29, s30, s31, s32, s33, s34, s35, s36, s37, s38, s39, s40, s41, s42, s43, s44, s45, rfl, h0⟩ ?_ ?_
  · intro d f w i o hc hI ho hd hp K hK
    obtain ⟨r26, r27, r28, r29, r30, r31, r32, r33, r34, r35, r36, r37, r38, r39, r40, r41, r42, r43, r44, r45, rfl, hJ⟩ := hI
    exact hs d w i o r26 r27 r28 r29 r30 r31 r32 r33 r34 r35 r36 r37 r38 r39 r40 r41 r42 r43 r44 r45 hc hJ ho hd hp K (fun w' q26 q27 q28 q29 q30 q31 q32 q33 q34 q35 q36 q37 q38 q39 q40 q41 q42 q43 q44 q45 hJ' => hK _ _ ⟨q26, q27, q28, q29, q30, q31, q32, q33, q34, q35, q36, q37, q38, q39, q40, q41, q42, q43, q44, q45, rfl, hJ'⟩)
  · intro d f w hI hall
    obtain ⟨r26, r27, r28, r29, r30, r31, r32, r33, r34, r35, r36, r37, r38, r39, r40, r41, r42, r43, r44, r45, rfl, hJ⟩ := hI
    exact he d w r26 r27 r28 r29 r30 r31 r32 r33 r34 r35 r36 r37 r38 r39 r40 r41 r42 r43 r44 r45 hJ hall

/-- How far snapshots have been copied. -/
structure OwL (W0 : World) (y : Nat) (m : Img) (q8 : Option Addr) (c8 : Nat) (q12 : Option Addr) (c12 : Nat) (q17 : Option Addr) (c17 : Nat) (w : World) (k : Nat) (so : Option Addr) (sc : Nat) (ts : List Value) : Prop where
  b : Below W0.heap.size W0 w
  v : VarM w y 66 (.slice q8 m.refs.length c8) (.slice q12 m.table.length c12) (.slice so k sc) (.slice q17 m.data.length c17)
  l : ts.length = k
  s : OwnR w W0.heap.size 107 2 (.slice so k sc) k (snC (m.snaps.take k) ts)
  r : OwnA w W0.heap.size ((.slice q8 m.refs.length c8, m.refs) :: (.slice q12 m.table.length c12, m.table) :: (.slice q17 m.data.length c17, m.data) :: ts.zip ((m.snaps.take k).map (·.table)))
theorem OwnA.add {w : World} {B n : Nat} {rs : List (Value × List Int)} {v : Value} {xs : List Int} (h : OwnA w B rs) (hlt : ∀ r ∈ rs, ∀ g, Own r.1 g → g < n) (hv : OwnN w n v xs) (hB : B ≤ n) : OwnA w B (rs ++ [(v, xs)]) := by
  refine ⟨fun r hr => ?_, ?_⟩
  · rcases List.mem_append.1 hr with h1 | h1
    · exact h.own r h1
    · rw [List.mem_singleton] at h1
      subst h1
      exact hv.base hB
  · rw [List.pairwise_append]
    refine ⟨h.apart, List.pairwise_singleton _ _, fun a ha b hb' g hg hg' => ?_⟩
    rw [List.mem_singleton] at hb'
    subst hb'
    have h1 := hlt a ha g hg
    have h2 := (hv.ge g hg').1
    omega
theorem OwL.next {W0 wr w : World} {y k : Nat} {m : Img} {q8 q12 q17 so : Option Addr} {c8 c12 c17 sc g2 cap2 : Nat} {ts : List Value} {t : Value} (h : OwL W0 y m q8 c8 q12 c12 q17 c17 wr k so sc ts) (hy : W0.heap.size ≤ y) (hk : k < m.snaps.length) (hK : Keep (fun g => Own (.slice so k sc) g ∨ g = y) wr w)
    (hv : VarM w y 66 (.slice q8 m.refs.length c8) (.slice q12 m.table.length c12) (.slice (some ⟨g2, 0, none⟩) (k + 1) cap2) (.slice q17 m.data.length c17)) (ho : w.ownsRow W0.heap.size 107 2 (.slice (some ⟨g2, 0, none⟩) (k + 1) cap2) (k + 1) (snC (m.snaps.take k) ts ++ [.string m.snaps[k].name, t])) (ht : OwnN w wr.heap.size t m.snaps[k].table) :
    OwL W0 y m q8 c8 q12 c12 q17 c17 w (k + 1) (some ⟨g2, 0, none⟩) cap2 (ts ++ [t]) where
  b := h.b.trans (hK.below h.b.size (fun g hg => by
    rcases hg with hg | rfl
    · exact (h.s.ge g hg).1
    · exact hy))
  v := hv
  l := by rw [List.length_append, h.l]; rfl
  s := by
    rw [List.take_succ_eq_append_getElem hk, snC_snoc _ _ _ _ (by rw [List.length_take, h.l]; omega)]
    exact .inr ⟨by omega, ho⟩
  r := by
    have e : (ts ++ [t]).zip ((m.snaps.take (k + 1)).map (·.table)) = ts.zip ((m.snaps.take k).map (·.table)) ++ [(t, m.snaps[k].table)] := by
      rw [List.take_succ_eq_append_getElem hk, List.map_append, List.zip_append (by rw [List.length_map, List.length_take, h.l]; omega)]
      rfl
    rw [e]
    have h1 := h.r.keep hK (fun r hr g hg hS => by
      rcases hS with hS | rfl
      · exact own_apart (h.r.own r hr).row h.s (by decide) g hg hS
      · exact (h.r.own r hr).other h.v (by decide) hg)
    exact h1.add (fun r hr g hg => ((h.r.own r hr).ge g hg).2) ht h.b.size

end Go.Proofs.YtkndabnngdjcgaaDoor
