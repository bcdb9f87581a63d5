import Derived.Test.YtpdpnepnfhbonaaGreatXReqDoPart7
import Derived.Test.YtpdpnepnfhbonaaGreatXReqDoPart2
import Derived.Test.YtpdpnepnfhbonaaGreatXReqDoPart6
import Derived.Test.YtpdpnepnfhbonaaGreatXReqDoPart4
import Derived.Test.YtpdpnepnfhbonaaGreatXReqDoPart15

namespace Go.Proofs.YtpdpnepnfhbonaaGreat
open Go.RowKit
set_option linter.unusedVariables false
set_option maxRecDepth 100000

structure LvP (W : World) (p y : Nat) (a : Im4) (M : Img) (no : Option Addr) (nc : Nat) (r : Rp) : Prop where
  v : FlM W p a M
  u : FlY W y r no nc
structure LoP (W : World) (n : Nat) (a : Im4) (M : Img) (ts : List Value) (no : Option Addr) (nc : Nat) (ns : List ByteArray) : Prop where
  o : OwnIm W n a M ts
  s : OwnNs W n no nc ns
  n : n ≤ W.heap.size
section
variable {W W' : World} {p y n n' nc : Nat} {a b : Im4} {M m' : Img} {ts us : List Value} {no : Option Addr} {r : Rp} {ns : List ByteArray}
theorem LvP.below (h : LvP W p y a M no nc r) (hb : Below W.heap.size W W') : LvP W' p y a M no nc r := ⟨h.v.below hb, h.u.below hb⟩
theorem LoP.below (h : LoP W n a M ts no nc ns) (hb : Below W.heap.size W W') : LoP W' n a M ts no nc ns := ⟨h.o.below hb, OwnR.below h.s hb, Nat.le_trans h.n hb.size⟩
theorem LvP.keepIm (h : LvP W p y a M no nc r) (h2 : OwnIm W n' b m' us) (hk : Keep (ImB b m' us) W W') : LvP W' p y a M no nc r := ⟨h.v.keepIm h2 hk, (hk.block y h.u.lt (h2.otherY h.u)).trans h.u⟩
theorem LoP.keepIm (h : LoP W n a M ts no nc ns) (h2 : OwnIm W n' b m' us) (hk : Keep (ImB b m' us) W W') (ht : ∀ g, ImB a M ts g → ¬ ImB b m' us g) (hx : ∀ g, Own (.slice no ns.length nc) g → ¬ ImB b m' us g) : LoP W' n a M ts no nc ns := ⟨h.o.keep hk ht, OwnR.keep h.s hk hx, Nat.le_trans h.n hk.size⟩
end

theorem own_txR {w : World} {B pa : Nat} {po : Option Addr} {ss : List ByteArray} (h : OwnNs w B po pa ss) (hz : ∀ s ∈ ss, s.size ≤ maxLen) : Ss w po ss := by
  rcases h with ⟨h0, _⟩ | ⟨_, h⟩
  · intro i hi; omega
  · exact ownS h hz
theorem noTx {w : World} {B B' n : Nat} {a : Im4} {m : Img} {ts : List Value} {v : Value} {xs : List Value} (h : OwnIm w B a m ts) (ht : OwnR w B' 9 1 v n xs) : ∀ g, Own v g → ¬ ImB a m ts g := by
  intro g hg hx
  rcases hx with h1 | h1 | h1 | h1 | ⟨t, ht', h1⟩
  · exact own_apart ht (h.rows.own (.slice a.ro m.refs.length a.rc, m.refs) (by simp [imRows])).row (by decide) g hg h1
  · exact own_apart ht (h.rows.own (.slice a.tq m.table.length a.tc, m.table) (by simp [imRows])).row (by decide) g hg h1
  · exact own_apart ht (h.rows.own (.slice a.dq m.data.length a.dc, m.data) (by simp [imRows])).row (by decide) g hg h1
  · exact own_apartS ht h.s (by decide) g hg h1
  · have hm : t ∈ (ts.zip (m.snaps.map (·.table))).map Prod.fst := by rw [zip_fst _ _ (by rw [List.length_map, h.len])]; exact ht'
    obtain ⟨p, hp, rfl⟩ := List.mem_map.1 hm
    exact own_apart ht (h.rows.own p (by simp [imRows, hp])).row (by decide) g hg h1

section
variable {W W' : World} {p y n n' nc k : Nat} {a b : Im4} {M m' : Img} {ts us : List Value} {no : Option Addr} {r : Rp} {ns : List ByteArray} {v : Value} {xs : List Value}
theorem LvP.keepTx (h : LvP W p y a M no nc r) (h2 : OwnR W n' 9 1 v k xs) (hk : Keep (Own v) W W') : LvP W' p y a M no nc r := ⟨(hk.block p h.v.lt (h2.other h.v (by decide))).trans h.v, (hk.block y h.u.lt (h2.other h.u (by decide))).trans h.u⟩
theorem LoP.keepTx (h : LoP W n a M ts no nc ns) (h2 : OwnR W n' 9 1 v k xs) (hk : Keep (Own v) W W') (hx : ∀ g, Own (.slice no ns.length nc) g → ¬ Own v g) : LoP W' n a M ts no nc ns := ⟨h.o.keep hk (fun g hg ho => noTx h.o h2 g ho hg), OwnR.keep h.s hk hx, Nat.le_trans h.n hk.size⟩
end

structure LrJ (W0 : World) (M : Img) (r : Rp) (C : Int) (m : Img) (AA AQ : Value) (d : Nat → Bool) (w : World) (s6 s7 s8 s29 s30 s31 s32 s33 s34 s35 s36 s37 : Value) (a : Im4) (ts : List Value) (no : Option Addr) (nc x y : Nat) (b : Im4) (us : List Value) : Prop where
  bw : Below W0.heap.size W0 w
  f0 : d 0 = true → s30 = AA
  f2 : d 2 = true → s32 = AQ
  f3 : d 3 = true → s33 = AQ
  f5 : d 5 = true → s29 = .tuple #[imV a M, rpV r no nc, .int .i64 C]
  f6 : d 6 = true → s35 = imV a M
  f7 : d 7 = true → s36 = rpV r no nc
  f8 : d 8 = true → s37 = .int .i64 C
  f13 : d 13 = true → s8 = .int .i64 C
  tv : d 1 = true → s31 = imV b m
  tw : d 1 = true → OwnIm w W0.heap.size b m us
  c : d 4 = true → s34 = .tuple #[imV a M, rpV r no nc, .int .i64 C]
  o : d 4 = true → OwnIm w W0.heap.size a M ts
  n : d 4 = true → OwnNs w W0.heap.size no nc r.ns
  px : d 9 = true → s6 = .pointer (some ⟨x, 0, none⟩)
  x0 : d 9 = true → W0.heap.size ≤ x
  zx : d 9 = true → d 11 = false → ZrM w x
  vx : d 11 = true → FlM w x a M
  py : d 10 = true → s7 = .pointer (some ⟨y, 0, none⟩)
  y0 : d 10 = true → W0.heap.size ≤ y
  zy : d 10 = true → d 12 = false → ZrY w y
  vy : d 12 = true → FlY w y r no nc

theorem LrJ.s0 {W0 : World} {M : Img} {r : Rp} {C : Int} {m : Img} {AA AQ : Value} {d : Nat → Bool} {w : World} {s6 s7 s8 s29 s30 s31 s32 s33 s34 s35 s36 s37 v : Value} {a : Im4} {ts : List Value} {no : Option Addr} {nc x y : Nat} {b : Im4} {us : List Value} (I : LrJ W0 M r C m AA AQ d w s6 s7 s8 s29 s30 s31 s32 s33 s34 s35 s36 s37 a ts no nc x y b us) (hd : d 0 = false) (hv : v = AA) : LrJ W0 M r C m AA AQ (updD d 0) w s6 s7 s8 s29 v s31 s32 s33 s34 s35 s36 s37 a ts no nc x y b us where
  bw := I.bw
  f0 := fun _ => hv
  f2 := fun h => (I.f2 (upd_ne (by decide) h))
  f3 := fun h => (I.f3 (upd_ne (by decide) h))
  f5 := fun h => (I.f5 (upd_ne (by decide) h))
  f6 := fun h => (I.f6 (upd_ne (by decide) h))
  f7 := fun h => (I.f7 (upd_ne (by decide) h))
  f8 := fun h => (I.f8 (upd_ne (by decide) h))
  f13 := fun h => (I.f13 (upd_ne (by decide) h))
  tv := fun h => (I.tv (upd_ne (by decide) h))
  tw := fun h => (I.tw (upd_ne (by decide) h))
  c := fun h => (I.c (upd_ne (by decide) h))
  o := fun h => (I.o (upd_ne (by decide) h))
  n := fun h => (I.n (upd_ne (by decide) h))
  px := fun h => (I.px (upd_ne (by decide) h))
  x0 := fun h => (I.x0 (upd_ne (by decide) h))
  zx := fun h h2 => (I.zx (upd_ne (by decide) h) (upd_nf h2))
  vx := fun h => (I.vx (upd_ne (by decide) h))
  py := fun h => (I.py (upd_ne (by decide) h))
  y0 := fun h => (I.y0 (upd_ne (by decide) h))
  zy := fun h h2 => (I.zy (upd_ne (by decide) h) (upd_nf h2))
  vy := fun h => (I.vy (upd_ne (by decide) h))

theorem LrJ.s1 {W0 : World} {M : Img} {r : Rp} {C : Int} {m : Img} {AA AQ : Value} {d : Nat → Bool} {w w2 : World} {s6 s7 s8 s29 s30 s31 s32 s33 s34 s35 s36 s37 v : Value} {a : Im4} {ts : List Value} {no : Option Addr} {nc x y : Nat} {b : Im4} {us : List Value} (I : LrJ W0 M r C m AA AQ d w s6 s7 s8 s29 s30 s31 s32 s33 s34 s35 s36 s37 a ts no nc x y b us) (hd : d 1 = false) (hb : Below w.heap.size w w2) {b1 : Im4} {us1 : List Value} (hv : v = imV b1 m) (ho : OwnIm w2 w.heap.size b1 m us1) (n1 : d 4 = false) : LrJ W0 M r C m AA AQ (updD d 1) w2 s6 s7 s8 s29 s30 v s32 s33 s34 s35 s36 s37 a ts no nc x y b1 us1 where
  bw := fr I.bw hb
  f0 := fun h => (I.f0 (upd_ne (by decide) h))
  f2 := fun h => (I.f2 (upd_ne (by decide) h))
  f3 := fun h => (I.f3 (upd_ne (by decide) h))
  f5 := fun h => (I.f5 (upd_ne (by decide) h))
  f6 := fun h => (I.f6 (upd_ne (by decide) h))
  f7 := fun h => (I.f7 (upd_ne (by decide) h))
  f8 := fun h => (I.f8 (upd_ne (by decide) h))
  f13 := fun h => (I.f13 (upd_ne (by decide) h))
  tv := fun _ => hv
  tw := fun _ => ho.base I.bw.size
  c := fun h => (I.c (upd_ne (by decide) h))
  o := fun h => (I.o (upd_ne (by decide) h)).below hb
  n := fun h => (I.n (upd_ne (by decide) h)).below hb
  px := fun h => (I.px (upd_ne (by decide) h))
  x0 := fun h => (I.x0 (upd_ne (by decide) h))
  zx := fun h h2 => (I.zx (upd_ne (by decide) h) (upd_nf h2)).below hb
  vx := fun h => (I.vx (upd_ne (by decide) h)).below hb
  py := fun h => (I.py (upd_ne (by decide) h))
  y0 := fun h => (I.y0 (upd_ne (by decide) h))
  zy := fun h h2 => (I.zy (upd_ne (by decide) h) (upd_nf h2)).below hb
  vy := fun h => (I.vy (upd_ne (by decide) h)).below hb

theorem LrJ.s2 {W0 : World} {M : Img} {r : Rp} {C : Int} {m : Img} {AA AQ : Value} {d : Nat → Bool} {w : World} {s6 s7 s8 s29 s30 s31 s32 s33 s34 s35 s36 s37 v : Value} {a : Im4} {ts : List Value} {no : Option Addr} {nc x y : Nat} {b : Im4} {us : List Value} (I : LrJ W0 M r C m AA AQ d w s6 s7 s8 s29 s30 s31 s32 s33 s34 s35 s36 s37 a ts no nc x y b us) (hd : d 2 = false) (hv : v = AQ) : LrJ W0 M r C m AA AQ (updD d 2) w s6 s7 s8 s29 s30 s31 v s33 s34 s35 s36 s37 a ts no nc x y b us where
  bw := I.bw
  f0 := fun h => (I.f0 (upd_ne (by decide) h))
  f2 := fun _ => hv
  f3 := fun h => (I.f3 (upd_ne (by decide) h))
  f5 := fun h => (I.f5 (upd_ne (by decide) h))
  f6 := fun h => (I.f6 (upd_ne (by decide) h))
  f7 := fun h => (I.f7 (upd_ne (by decide) h))
  f8 := fun h => (I.f8 (upd_ne (by decide) h))
  f13 := fun h => (I.f13 (upd_ne (by decide) h))
  tv := fun h => (I.tv (upd_ne (by decide) h))
  tw := fun h => (I.tw (upd_ne (by decide) h))
  c := fun h => (I.c (upd_ne (by decide) h))
  o := fun h => (I.o (upd_ne (by decide) h))
  n := fun h => (I.n (upd_ne (by decide) h))
  px := fun h => (I.px (upd_ne (by decide) h))
  x0 := fun h => (I.x0 (upd_ne (by decide) h))
  zx := fun h h2 => (I.zx (upd_ne (by decide) h) (upd_nf h2))
  vx := fun h => (I.vx (upd_ne (by decide) h))
  py := fun h => (I.py (upd_ne (by decide) h))
  y0 := fun h => (I.y0 (upd_ne (by decide) h))
  zy := fun h h2 => (I.zy (upd_ne (by decide) h) (upd_nf h2))
  vy := fun h => (I.vy (upd_ne (by decide) h))

theorem LrJ.s3 {W0 : World} {M : Img} {r : Rp} {C : Int} {m : Img} {AA AQ : Value} {d : Nat → Bool} {w : World} {s6 s7 s8 s29 s30 s31 s32 s33 s34 s35 s36 s37 v : Value} {a : Im4} {ts : List Value} {no : Option Addr} {nc x y : Nat} {b : Im4} {us : List Value} (I : LrJ W0 M r C m AA AQ d w s6 s7 s8 s29 s30 s31 s32 s33 s34 s35 s36 s37 a ts no nc x y b us) (hd : d 3 = false) (hv : v = AQ) : LrJ W0 M r C m AA AQ (updD d 3) w s6 s7 s8 s29 s30 s31 s32 v s34 s35 s36 s37 a ts no nc x y b us where
  bw := I.bw
  f0 := fun h => (I.f0 (upd_ne (by decide) h))
  f2 := fun h => (I.f2 (upd_ne (by decide) h))
  f3 := fun _ => hv
  f5 := fun h => (I.f5 (upd_ne (by decide) h))
  f6 := fun h => (I.f6 (upd_ne (by decide) h))
  f7 := fun h => (I.f7 (upd_ne (by decide) h))
  f8 := fun h => (I.f8 (upd_ne (by decide) h))
  f13 := fun h => (I.f13 (upd_ne (by decide) h))
  tv := fun h => (I.tv (upd_ne (by decide) h))
  tw := fun h => (I.tw (upd_ne (by decide) h))
  c := fun h => (I.c (upd_ne (by decide) h))
  o := fun h => (I.o (upd_ne (by decide) h))
  n := fun h => (I.n (upd_ne (by decide) h))
  px := fun h => (I.px (upd_ne (by decide) h))
  x0 := fun h => (I.x0 (upd_ne (by decide) h))
  zx := fun h h2 => (I.zx (upd_ne (by decide) h) (upd_nf h2))
  vx := fun h => (I.vx (upd_ne (by decide) h))
  py := fun h => (I.py (upd_ne (by decide) h))
  y0 := fun h => (I.y0 (upd_ne (by decide) h))
  zy := fun h h2 => (I.zy (upd_ne (by decide) h) (upd_nf h2))
  vy := fun h => (I.vy (upd_ne (by decide) h))

theorem LrJ.s4 {W0 : World} {M : Img} {r : Rp} {C : Int} {m : Img} {AA AQ : Value} {d : Nat → Bool} {w w2 : World} {s6 s7 s8 s29 s30 s31 s32 s33 s34 s35 s36 s37 v : Value} {a : Im4} {ts : List Value} {no : Option Addr} {nc x y : Nat} {b : Im4} {us : List Value} (I : LrJ W0 M r C m AA AQ d w s6 s7 s8 s29 s30 s31 s32 s33 s34 s35 s36 s37 a ts no nc x y b us) (hd : d 4 = false) (hb : Below w.heap.size w w2) {a1 : Im4} {ts1 : List Value} {no1 : Option Addr} {nc1 : Nat} (hv : v = .tuple #[imV a1 M, rpV r no1 nc1, .int .i64 C]) (ho : OwnIm w2 w.heap.size a1 M ts1) (hn : OwnNs w2 w.heap.size no1 nc1 r.ns) (n5 : d 5 = false) (n6 : d 6 = false) (n7 : d 7 = false) (n8 : d 8 = false) (n13 : d 13 = false) (n11 : d 11 = false) (n12 : d 12 = false) : LrJ W0 M r C m AA AQ (updD d 4) w2 s6 s7 s8 s29 s30 s31 s32 s33 v s35 s36 s37 a1 ts1 no1 nc1 x y b us where
  bw := fr I.bw hb
  f0 := fun h => (I.f0 (upd_ne (by decide) h))
  f2 := fun h => (I.f2 (upd_ne (by decide) h))
  f3 := fun h => (I.f3 (upd_ne (by decide) h))
  f5 := fun h => no_d (upd_ne (by decide) h) n5
  f6 := fun h => no_d (upd_ne (by decide) h) n6
  f7 := fun h => no_d (upd_ne (by decide) h) n7
  f8 := fun h => no_d (upd_ne (by decide) h) n8
  f13 := fun h => no_d (upd_ne (by decide) h) n13
  tv := fun h => (I.tv (upd_ne (by decide) h))
  tw := fun h => (I.tw (upd_ne (by decide) h)).below hb
  c := fun _ => hv
  o := fun _ => ho.base I.bw.size
  n := fun _ => OwnR.base hn I.bw.size
  px := fun h => (I.px (upd_ne (by decide) h))
  x0 := fun h => (I.x0 (upd_ne (by decide) h))
  zx := fun h h2 => (I.zx (upd_ne (by decide) h) (upd_nf h2)).below hb
  vx := fun h => no_d (upd_ne (by decide) h) n11
  py := fun h => (I.py (upd_ne (by decide) h))
  y0 := fun h => (I.y0 (upd_ne (by decide) h))
  zy := fun h h2 => (I.zy (upd_ne (by decide) h) (upd_nf h2)).below hb
  vy := fun h => no_d (upd_ne (by decide) h) n12

theorem LrJ.s5 {W0 : World} {M : Img} {r : Rp} {C : Int} {m : Img} {AA AQ : Value} {d : Nat → Bool} {w : World} {s6 s7 s8 s29 s30 s31 s32 s33 s34 s35 s36 s37 v : Value} {a : Im4} {ts : List Value} {no : Option Addr} {nc x y : Nat} {b : Im4} {us : List Value} (I : LrJ W0 M r C m AA AQ d w s6 s7 s8 s29 s30 s31 s32 s33 s34 s35 s36 s37 a ts no nc x y b us) (hd : d 5 = false) (hv : v = .tuple #[imV a M, rpV r no nc, .int .i64 C]) : LrJ W0 M r C m AA AQ (updD d 5) w s6 s7 s8 v s30 s31 s32 s33 s34 s35 s36 s37 a ts no nc x y b us where
  bw := I.bw
  f0 := fun h => (I.f0 (upd_ne (by decide) h))
  f2 := fun h => (I.f2 (upd_ne (by decide) h))
  f3 := fun h => (I.f3 (upd_ne (by decide) h))
  f5 := fun _ => hv
  f6 := fun h => (I.f6 (upd_ne (by decide) h))
  f7 := fun h => (I.f7 (upd_ne (by decide) h))
  f8 := fun h => (I.f8 (upd_ne (by decide) h))
  f13 := fun h => (I.f13 (upd_ne (by decide) h))
  tv := fun h => (I.tv (upd_ne (by decide) h))
  tw := fun h => (I.tw (upd_ne (by decide) h))
  c := fun h => (I.c (upd_ne (by decide) h))
  o := fun h => (I.o (upd_ne (by decide) h))
  n := fun h => (I.n (upd_ne (by decide) h))
  px := fun h => (I.px (upd_ne (by decide) h))
  x0 := fun h => (I.x0 (upd_ne (by decide) h))
  zx := fun h h2 => (I.zx (upd_ne (by decide) h) (upd_nf h2))
  vx := fun h => (I.vx (upd_ne (by decide) h))
  py := fun h => (I.py (upd_ne (by decide) h))
  y0 := fun h => (I.y0 (upd_ne (by decide) h))
  zy := fun h h2 => (I.zy (upd_ne (by decide) h) (upd_nf h2))
  vy := fun h => (I.vy (upd_ne (by decide) h))

theorem LrJ.s6 {W0 : World} {M : Img} {r : Rp} {C : Int} {m : Img} {AA AQ : Value} {d : Nat → Bool} {w : World} {s6 s7 s8 s29 s30 s31 s32 s33 s34 s35 s36 s37 v : Value} {a : Im4} {ts : List Value} {no : Option Addr} {nc x y : Nat} {b : Im4} {us : List Value} (I : LrJ W0 M r C m AA AQ d w s6 s7 s8 s29 s30 s31 s32 s33 s34 s35 s36 s37 a ts no nc x y b us) (hd : d 6 = false) (hv : v = imV a M) : LrJ W0 M r C m AA AQ (updD d 6) w s6 s7 s8 s29 s30 s31 s32 s33 s34 v s36 s37 a ts no nc x y b us where
  bw := I.bw
  f0 := fun h => (I.f0 (upd_ne (by decide) h))
  f2 := fun h => (I.f2 (upd_ne (by decide) h))
  f3 := fun h => (I.f3 (upd_ne (by decide) h))
  f5 := fun h => (I.f5 (upd_ne (by decide) h))
  f6 := fun _ => hv
  f7 := fun h => (I.f7 (upd_ne (by decide) h))
  f8 := fun h => (I.f8 (upd_ne (by decide) h))
  f13 := fun h => (I.f13 (upd_ne (by decide) h))
  tv := fun h => (I.tv (upd_ne (by decide) h))
  tw := fun h => (I.tw (upd_ne (by decide) h))
  c := fun h => (I.c (upd_ne (by decide) h))
  o := fun h => (I.o (upd_ne (by decide) h))
  n := fun h => (I.n (upd_ne (by decide) h))
  px := fun h => (I.px (upd_ne (by decide) h))
  x0 := fun h => (I.x0 (upd_ne (by decide) h))
  zx := fun h h2 => (I.zx (upd_ne (by decide) h) (upd_nf h2))
  vx := fun h => (I.vx (upd_ne (by decide) h))
  py := fun h => (I.py (upd_ne (by decide) h))
  y0 := fun h => (I.y0 (upd_ne (by decide) h))
  zy := fun h h2 => (I.zy (upd_ne (by decide) h) (upd_nf h2))
  vy := fun h => (I.vy (upd_ne (by decide) h))

theorem LrJ.s7 {W0 : World} {M : Img} {r : Rp} {C : Int} {m : Img} {AA AQ : Value} {d : Nat → Bool} {w : World} {s6 s7 s8 s29 s30 s31 s32 s33 s34 s35 s36 s37 v : Value} {a : Im4} {ts : List Value} {no : Option Addr} {nc x y : Nat} {b : Im4} {us : List Value} (I : LrJ W0 M r C m AA AQ d w s6 s7 s8 s29 s30 s31 s32 s33 s34 s35 s36 s37 a ts no nc x y b us) (hd : d 7 = false) (hv : v = rpV r no nc) : LrJ W0 M r C m AA AQ (updD d 7) w s6 s7 s8 s29 s30 s31 s32 s33 s34 s35 v s37 a ts no nc x y b us where
  bw := I.bw
  f0 := fun h => (I.f0 (upd_ne (by decide) h))
  f2 := fun h => (I.f2 (upd_ne (by decide) h))
  f3 := fun h => (I.f3 (upd_ne (by decide) h))
  f5 := fun h => (I.f5 (upd_ne (by decide) h))
  f6 := fun h => (I.f6 (upd_ne (by decide) h))
  f7 := fun _ => hv
  f8 := fun h => (I.f8 (upd_ne (by decide) h))
  f13 := fun h => (I.f13 (upd_ne (by decide) h))
  tv := fun h => (I.tv (upd_ne (by decide) h))
  tw := fun h => (I.tw (upd_ne (by decide) h))
  c := fun h => (I.c (upd_ne (by decide) h))
  o := fun h => (I.o (upd_ne (by decide) h))
  n := fun h => (I.n (upd_ne (by decide) h))
  px := fun h => (I.px (upd_ne (by decide) h))
  x0 := fun h => (I.x0 (upd_ne (by decide) h))
  zx := fun h h2 => (I.zx (upd_ne (by decide) h) (upd_nf h2))
  vx := fun h => (I.vx (upd_ne (by decide) h))
  py := fun h => (I.py (upd_ne (by decide) h))
  y0 := fun h => (I.y0 (upd_ne (by decide) h))
  zy := fun h h2 => (I.zy (upd_ne (by decide) h) (upd_nf h2))
  vy := fun h => (I.vy (upd_ne (by decide) h))

theorem LrJ.s8 {W0 : World} {M : Img} {r : Rp} {C : Int} {m : Img} {AA AQ : Value} {d : Nat → Bool} {w : World} {s6 s7 s8 s29 s30 s31 s32 s33 s34 s35 s36 s37 v : Value} {a : Im4} {ts : List Value} {no : Option Addr} {nc x y : Nat} {b : Im4} {us : List Value} (I : LrJ W0 M r C m AA AQ d w s6 s7 s8 s29 s30 s31 s32 s33 s34 s35 s36 s37 a ts no nc x y b us) (hd : d 8 = false) (hv : v = .int .i64 C) : LrJ W0 M r C m AA AQ (updD d 8) w s6 s7 s8 s29 s30 s31 s32 s33 s34 s35 s36 v a ts no nc x y b us where
  bw := I.bw
  f0 := fun h => (I.f0 (upd_ne (by decide) h))
  f2 := fun h => (I.f2 (upd_ne (by decide) h))
  f3 := fun h => (I.f3 (upd_ne (by decide) h))
  f5 := fun h => (I.f5 (upd_ne (by decide) h))
  f6 := fun h => (I.f6 (upd_ne (by decide) h))
  f7 := fun h => (I.f7 (upd_ne (by decide) h))
  f8 := fun _ => hv
  f13 := fun h => (I.f13 (upd_ne (by decide) h))
  tv := fun h => (I.tv (upd_ne (by decide) h))
  tw := fun h => (I.tw (upd_ne (by decide) h))
  c := fun h => (I.c (upd_ne (by decide) h))
  o := fun h => (I.o (upd_ne (by decide) h))
  n := fun h => (I.n (upd_ne (by decide) h))
  px := fun h => (I.px (upd_ne (by decide) h))
  x0 := fun h => (I.x0 (upd_ne (by decide) h))
  zx := fun h h2 => (I.zx (upd_ne (by decide) h) (upd_nf h2))
  vx := fun h => (I.vx (upd_ne (by decide) h))
  py := fun h => (I.py (upd_ne (by decide) h))
  y0 := fun h => (I.y0 (upd_ne (by decide) h))
  zy := fun h h2 => (I.zy (upd_ne (by decide) h) (upd_nf h2))
  vy := fun h => (I.vy (upd_ne (by decide) h))

theorem LrJ.s9 {W0 : World} {M : Img} {r : Rp} {C : Int} {m : Img} {AA AQ : Value} {d : Nat → Bool} {w w2 : World} {s6 s7 s8 s29 s30 s31 s32 s33 s34 s35 s36 s37 v : Value} {a : Im4} {ts : List Value} {no : Option Addr} {nc x y : Nat} {b : Im4} {us : List Value} (I : LrJ W0 M r C m AA AQ d w s6 s7 s8 s29 s30 s31 s32 s33 s34 s35 s36 s37 a ts no nc x y b us) (hd : d 9 = false) (hb : Below w.heap.size w w2) {x1 : Nat} (hv : v = .pointer (some ⟨x1, 0, none⟩)) (h0 : w.heap.size ≤ x1) (hz : ZrM w2 x1) (n1 : d 11 = false) : LrJ W0 M r C m AA AQ (updD d 9) w2 v s7 s8 s29 s30 s31 s32 s33 s34 s35 s36 s37 a ts no nc x1 y b us where
  bw := fr I.bw hb
  f0 := fun h => (I.f0 (upd_ne (by decide) h))
  f2 := fun h => (I.f2 (upd_ne (by decide) h))
  f3 := fun h => (I.f3 (upd_ne (by decide) h))
  f5 := fun h => (I.f5 (upd_ne (by decide) h))
  f6 := fun h => (I.f6 (upd_ne (by decide) h))
  f7 := fun h => (I.f7 (upd_ne (by decide) h))
  f8 := fun h => (I.f8 (upd_ne (by decide) h))
  f13 := fun h => (I.f13 (upd_ne (by decide) h))
  tv := fun h => (I.tv (upd_ne (by decide) h))
  tw := fun h => (I.tw (upd_ne (by decide) h)).below hb
  c := fun h => (I.c (upd_ne (by decide) h))
  o := fun h => (I.o (upd_ne (by decide) h)).below hb
  n := fun h => (I.n (upd_ne (by decide) h)).below hb
  px := fun _ => hv
  x0 := fun _ => Nat.le_trans I.bw.size h0
  zx := fun _ _ => hz
  vx := fun h => no_d (upd_ne (by decide) h) n1
  py := fun h => (I.py (upd_ne (by decide) h))
  y0 := fun h => (I.y0 (upd_ne (by decide) h))
  zy := fun h h2 => (I.zy (upd_ne (by decide) h) (upd_nf h2)).below hb
  vy := fun h => (I.vy (upd_ne (by decide) h)).below hb

theorem LrJ.s10 {W0 : World} {M : Img} {r : Rp} {C : Int} {m : Img} {AA AQ : Value} {d : Nat → Bool} {w w2 : World} {s6 s7 s8 s29 s30 s31 s32 s33 s34 s35 s36 s37 v : Value} {a : Im4} {ts : List Value} {no : Option Addr} {nc x y : Nat} {b : Im4} {us : List Value} (I : LrJ W0 M r C m AA AQ d w s6 s7 s8 s29 s30 s31 s32 s33 s34 s35 s36 s37 a ts no nc x y b us) (hd : d 10 = false) (hb : Below w.heap.size w w2) {y1 : Nat} (hv : v = .pointer (some ⟨y1, 0, none⟩)) (h0 : w.heap.size ≤ y1) (hz : ZrY w2 y1) (n1 : d 12 = false) : LrJ W0 M r C m AA AQ (updD d 10) w2 s6 v s8 s29 s30 s31 s32 s33 s34 s35 s36 s37 a ts no nc x y1 b us where
  bw := fr I.bw hb
  f0 := fun h => (I.f0 (upd_ne (by decide) h))
  f2 := fun h => (I.f2 (upd_ne (by decide) h))
  f3 := fun h => (I.f3 (upd_ne (by decide) h))
  f5 := fun h => (I.f5 (upd_ne (by decide) h))
  f6 := fun h => (I.f6 (upd_ne (by decide) h))
  f7 := fun h => (I.f7 (upd_ne (by decide) h))
  f8 := fun h => (I.f8 (upd_ne (by decide) h))
  f13 := fun h => (I.f13 (upd_ne (by decide) h))
  tv := fun h => (I.tv (upd_ne (by decide) h))
  tw := fun h => (I.tw (upd_ne (by decide) h)).below hb
  c := fun h => (I.c (upd_ne (by decide) h))
  o := fun h => (I.o (upd_ne (by decide) h)).below hb
  n := fun h => (I.n (upd_ne (by decide) h)).below hb
  px := fun h => (I.px (upd_ne (by decide) h))
  x0 := fun h => (I.x0 (upd_ne (by decide) h))
  zx := fun h h2 => (I.zx (upd_ne (by decide) h) (upd_nf h2)).below hb
  vx := fun h => (I.vx (upd_ne (by decide) h)).below hb
  py := fun _ => hv
  y0 := fun _ => Nat.le_trans I.bw.size h0
  zy := fun _ _ => hz
  vy := fun h => no_d (upd_ne (by decide) h) n1

theorem LrJ.s11 {W0 : World} {M : Img} {r : Rp} {C : Int} {m : Img} {AA AQ : Value} {d : Nat → Bool} {w : World} {s6 s7 s8 s29 s30 s31 s32 s33 s34 s35 s36 s37 : Value} {a : Im4} {ts : List Value} {no : Option Addr} {nc x y : Nat} {b : Im4} {us : List Value} (I : LrJ W0 M r C m AA AQ d w s6 s7 s8 s29 s30 s31 s32 s33 s34 s35 s36 s37 a ts no nc x y b us) (hd : d 11 = false) (p1 : d 9 = true) (n1 : d 12 = false) (p2 : d 10 = true) : LrJ W0 M r C m AA AQ (updD d 11) (putI w x a M) s6 s7 s8 s29 s30 s31 s32 s33 s34 s35 s36 s37 a ts no nc x y b us where
  bw := below_putI I.bw (I.x0 p1) a M I.bw.size
  f0 := fun h => (I.f0 (upd_ne (by decide) h))
  f2 := fun h => (I.f2 (upd_ne (by decide) h))
  f3 := fun h => (I.f3 (upd_ne (by decide) h))
  f5 := fun h => (I.f5 (upd_ne (by decide) h))
  f6 := fun h => (I.f6 (upd_ne (by decide) h))
  f7 := fun h => (I.f7 (upd_ne (by decide) h))
  f8 := fun h => (I.f8 (upd_ne (by decide) h))
  f13 := fun h => (I.f13 (upd_ne (by decide) h))
  tv := fun h => (I.tv (upd_ne (by decide) h))
  tw := fun h => (I.tw (upd_ne (by decide) h)).putI (I.zx p1 hd)
  c := fun h => (I.c (upd_ne (by decide) h))
  o := fun h => (I.o (upd_ne (by decide) h)).putI (I.zx p1 hd)
  n := fun h => OwnNs.putI (I.n (upd_ne (by decide) h)) (I.zx p1 hd)
  px := fun h => (I.px (upd_ne (by decide) h))
  x0 := fun h => (I.x0 (upd_ne (by decide) h))
  zx := fun _ h2 => no_d upd_at h2
  vx := fun _ => FlM.of (I.zx p1 hd) a M
  py := fun h => (I.py (upd_ne (by decide) h))
  y0 := fun h => (I.y0 (upd_ne (by decide) h))
  zy := fun h h2 => (I.zy (upd_ne (by decide) h) (upd_nf h2)).keepX (putI_keep w x a M) (fun e => apartMY (I.zx p1 hd) (I.zy p2 n1) e.symm)
  vy := fun h => no_d (upd_ne (by decide) h) n1

theorem LrJ.s12 {W0 : World} {M : Img} {r : Rp} {C : Int} {m : Img} {AA AQ : Value} {d : Nat → Bool} {w : World} {s6 s7 s8 s29 s30 s31 s32 s33 s34 s35 s36 s37 : Value} {a : Im4} {ts : List Value} {no : Option Addr} {nc x y : Nat} {b : Im4} {us : List Value} (I : LrJ W0 M r C m AA AQ d w s6 s7 s8 s29 s30 s31 s32 s33 s34 s35 s36 s37 a ts no nc x y b us) (hd : d 12 = false) (p1 : d 10 = true) (p2 : d 11 = true) : LrJ W0 M r C m AA AQ (updD d 12) (putR w y r no nc) s6 s7 s8 s29 s30 s31 s32 s33 s34 s35 s36 s37 a ts no nc x y b us where
  bw := below_putR I.bw (I.y0 p1) r no nc I.bw.size
  f0 := fun h => (I.f0 (upd_ne (by decide) h))
  f2 := fun h => (I.f2 (upd_ne (by decide) h))
  f3 := fun h => (I.f3 (upd_ne (by decide) h))
  f5 := fun h => (I.f5 (upd_ne (by decide) h))
  f6 := fun h => (I.f6 (upd_ne (by decide) h))
  f7 := fun h => (I.f7 (upd_ne (by decide) h))
  f8 := fun h => (I.f8 (upd_ne (by decide) h))
  f13 := fun h => (I.f13 (upd_ne (by decide) h))
  tv := fun h => (I.tv (upd_ne (by decide) h))
  tw := fun h => (I.tw (upd_ne (by decide) h)).putRp (I.zy p1 hd) r no nc
  c := fun h => (I.c (upd_ne (by decide) h))
  o := fun h => (I.o (upd_ne (by decide) h)).putRp (I.zy p1 hd) r no nc
  n := fun h => OwnNs.putR (I.n (upd_ne (by decide) h)) (I.zy p1 hd) r no nc
  px := fun h => (I.px (upd_ne (by decide) h))
  x0 := fun h => (I.x0 (upd_ne (by decide) h))
  zx := fun h h2 => no_d p2 (upd_nf h2)
  vx := fun h => (I.vx (upd_ne (by decide) h)).keepX (putR_keep w y r no nc) (apartMY (I.vx (upd_ne (by decide) h)) (I.zy p1 hd))
  py := fun h => (I.py (upd_ne (by decide) h))
  y0 := fun h => (I.y0 (upd_ne (by decide) h))
  zy := fun _ h2 => no_d upd_at h2
  vy := fun _ => FlY.of (I.zy p1 hd) r no nc

theorem LrJ.s13 {W0 : World} {M : Img} {r : Rp} {C : Int} {m : Img} {AA AQ : Value} {d : Nat → Bool} {w : World} {s6 s7 s8 s29 s30 s31 s32 s33 s34 s35 s36 s37 v : Value} {a : Im4} {ts : List Value} {no : Option Addr} {nc x y : Nat} {b : Im4} {us : List Value} (I : LrJ W0 M r C m AA AQ d w s6 s7 s8 s29 s30 s31 s32 s33 s34 s35 s36 s37 a ts no nc x y b us) (hd : d 13 = false) (hv : v = .int .i64 C) : LrJ W0 M r C m AA AQ (updD d 13) w s6 s7 v s29 s30 s31 s32 s33 s34 s35 s36 s37 a ts no nc x y b us where
  bw := I.bw
  f0 := fun h => (I.f0 (upd_ne (by decide) h))
  f2 := fun h => (I.f2 (upd_ne (by decide) h))
  f3 := fun h => (I.f3 (upd_ne (by decide) h))
  f5 := fun h => (I.f5 (upd_ne (by decide) h))
  f6 := fun h => (I.f6 (upd_ne (by decide) h))
  f7 := fun h => (I.f7 (upd_ne (by decide) h))
  f8 := fun h => (I.f8 (upd_ne (by decide) h))
  f13 := fun _ => hv
  tv := fun h => (I.tv (upd_ne (by decide) h))
  tw := fun h => (I.tw (upd_ne (by decide) h))
  c := fun h => (I.c (upd_ne (by decide) h))
  o := fun h => (I.o (upd_ne (by decide) h))
  n := fun h => (I.n (upd_ne (by decide) h))
  px := fun h => (I.px (upd_ne (by decide) h))
  x0 := fun h => (I.x0 (upd_ne (by decide) h))
  zx := fun h h2 => (I.zx (upd_ne (by decide) h) (upd_nf h2))
  vx := fun h => (I.vx (upd_ne (by decide) h))
  py := fun h => (I.py (upd_ne (by decide) h))
  y0 := fun h => (I.y0 (upd_ne (by decide) h))
  zy := fun h h2 => (I.zy (upd_ne (by decide) h) (upd_nf h2))
  vy := fun h => (I.vy (upd_ne (by decide) h))

theorem LrJ.start {W0 : World} {M : Img} {r : Rp} {C : Int} {m : Img} {AA AQ : Value} {w : World} {s6 s7 s8 s29 s30 s31 s32 s33 s34 s35 s36 s37 : Value} {a : Im4} {ts : List Value} {no : Option Addr} {nc x y : Nat} {b : Im4} {us : List Value} (hb : Below W0.heap.size W0 w) : LrJ W0 M r C m AA AQ (fun _ => false) w s6 s7 s8 s29 s30 s31 s32 s33 s34 s35 s36 s37 a ts no nc x y b us where
  bw := hb
  f0 := fun h => (by cases h)
  f2 := fun h => (by cases h)
  f3 := fun h => (by cases h)
  f5 := fun h => (by cases h)
  f6 := fun h => (by cases h)
  f7 := fun h => (by cases h)
  f8 := fun h => (by cases h)
  f13 := fun h => (by cases h)
  tv := fun h => (by cases h)
  tw := fun h => (by cases h)
  c := fun h => (by cases h)
  o := fun h => (by cases h)
  n := fun h => (by cases h)
  px := fun h => (by cases h)
  x0 := fun h => (by cases h)
  zx := fun h _ => (by cases h)
  vx := fun h => (by cases h)
  py := fun h => (by cases h)
  y0 := fun h => (by cases h)
  zy := fun h _ => (by cases h)
  vy := fun h => (by cases h)

theorem LrJ.grow {W0 : World} {M : Img} {r : Rp} {C : Int} {m : Img} {AA AQ : Value} {d : Nat → Bool} {w w2 : World} {s6 s7 s8 s29 s30 s31 s32 s33 s34 s35 s36 s37 : Value} {a : Im4} {ts : List Value} {no : Option Addr} {nc x y : Nat} {b : Im4} {us : List Value} (I : LrJ W0 M r C m AA AQ d w s6 s7 s8 s29 s30 s31 s32 s33 s34 s35 s36 s37 a ts no nc x y b us) (hb : Below w.heap.size w w2) : LrJ W0 M r C m AA AQ d w2 s6 s7 s8 s29 s30 s31 s32 s33 s34 s35 s36 s37 a ts no nc x y b us where
  bw := fr I.bw hb
  f0 := I.f0
  f2 := I.f2
  f3 := I.f3
  f5 := I.f5
  f6 := I.f6
  f7 := I.f7
  f8 := I.f8
  f13 := I.f13
  tv := I.tv
  tw := fun h => (I.tw h).below hb
  c := I.c
  o := fun h => (I.o h).below hb
  n := fun h => (I.n h).below hb
  px := I.px
  x0 := I.x0
  zx := fun h h2 => (I.zx h h2).below hb
  vx := fun h => (I.vx h).below hb
  py := I.py
  y0 := I.y0
  zy := fun h h2 => (I.zy h h2).below hb
  vy := fun h => (I.vy h).below hb

abbrev lrF (t0 t1 t2 t3 t4 t5 s6 s7 s8 t9 t10 t11 t12 t13 t14 t15 t16 t17 t18 t19 t20 t21 t22 t23 t24 t25 t26 t27 t28 s29 s30 s31 s32 s33 s34 s35 s36 s37 t38 t39 t40 t41 t42 t43 t44 t45 t46 t47 t48 t49 t50 t51 t52 t53 t54 t55 t56 t57 t58 t59 t60 t61 t62 t63 t64 t65 t66 t67 t68 t69 t70 t71 t72 t73 t74 t75 t76 t77 t78 t79 t80 t81 t82 t83 t84 t85 t86 t87 t88 t89 t90 t91 t92 t93 t94 t95 t96 t97 t98 t99 t100 t101 t102 t103 t104 t105 t106 t107 t108 t109 t110 t111 t112 t113 t114 t115 t116 t117 t118 t119 t120 t121 t122 t123 t124 t125 t126 t127 t128 t129 t130 t131 t132 t133 t134 t135 t136 t137 t138 t139 t140 t141 t142 t143 t144 t145 : Value) : Act := ⟨#[t0, t1, t2, t3, t4, t5, s6, s7, s8, t9, t10, t11, t12, t13, t14, t15, t16, t17, t18, t19, t20, t21, t22, t23, t24, t25, t26, t27, t28, s29, s30, s31, s32, s33, s34, s35, s36, s37, t38, t39, t40, t41, t42, t43, t44, t45, t46, t47, t48, t49, t50, t51, t52, t53, t54, t55, t56, t57, t58, t59, t60, t61, t62, t63, t64, t65, t66, t67, t68, t69, t70, t71, t72, t73, t74, t75, t76, t77, t78, t79, t80, t81, t82, t83, t84, t85, t86, t87, t88, t89, t90, t91, t92, t93, t94, t95, t96, t97, t98, t99, t100, t101, t102, t103, t104, t105, t106, t107, t108, t109, t110, t111, t112, t113, t114, t115, t116, t117, t118, t119, t120, t121, t122, t123, t124, t125, t126, t127, t128, t129, t130, t131, t132, t133, t134, t135, t136, t137, t138, t139, t140, t141, t142, t143, t144, t145], []⟩
theorem lrF_region {P : Program} {id : Nat} {Q : Exit → Act → World → Prop} {l : List Oper} {t0 t1 t2 t3 t4 t5 s6 s7 s8 t9 t10 t11 t12 t13 t14 t15 t16 t17 t18 t19 t20 t21 t22 t23 t24 t25 t26 t27 t28 s29 s30 s31 s32 s33 s34 s35 s36 s37 t38 t39 t40 t41 t42 t43 t44 t45 t46 t47 t48 t49 t50 t51 t52 t53 t54 t55 t56 t57 t58 t59 t60 t61 t62 t63 t64 t65 t66 t67 t68 t69 t70 t71 t72 t73 t74 t75 t76 t77 t78 t79 t80 t81 t82 t83 t84 t85 t86 t87 t88 t89 t90 t91 t92 t93 t94 t95 t96 t97 t98 t99 t100 t101 t102 t103 t104 t105 t106 t107 t108 t109 t110 t111 t112 t113 t114 t115 t116 t117 t118 t119 t120 t121 t122 t123 t124 t125 t126 t127 t128 t129 t130 t131 t132 t133 t134 t135 t136 t137 t138 t139 t140 t141 t142 t143 t144 t145 : Value} {W : World} (J : (Nat → Bool) → World → Value → Value → Value → Value → Value → Value → Value → Value → Value → Value → Value → Value → Prop) (hm : P.follows .mixedOrders = true) (hl : linC l = true)
    (hg : ∀ (i : Nat) (o : Oper), l[i]? = some o → o.guard = none) (h0 : J (fun _ => false) { W with drawn := W.drawn + 1 } s6 s7 s8 s29 s30 s31 s32 s33 s34 s35 s36 s37)
    (hs : ∀ (d : Nat → Bool) (w : World) (i : Nat) (o : Oper) (r6 r7 r8 r29 r30 r31 r32 r33 r34 r35 r36 r37 : Value), Closed l d → J d w r6 r7 r8 r29 r30 r31 r32 r33 r34 r35 r36 r37 → l[i]? = some o → d i = false → (∀ e ∈ o.after, Region.binds .any e = true → d e.on = true) → ∀ K : Act → World → Prop, (∀ (w' : World) (q6 q7 q8 q29 q30 q31 q32 q33 q34 q35 q36 q37 : Value), J (updD d i) w' q6 q7 q8 q29 q30 q31 q32 q33 q34 q35 q36 q37 → K (lrF t0 t1 t2 t3 t4 t5 q6 q7 q8 t9 t10 t11 t12 t13 t14 t15 t16 t17 t18 t19 t20 t21 t22 t23 t24 t25 t26 t27 t28 q29 q30 q31 q32 q33 q34 q35 q36 q37 t38 t39 t40 t41 t42 t43 t44 t45 t46 t47 t48 t49 t50 t51 t52 t53 t54 t55 t56 t57 t58 t59 t60 t61 t62 t63 t64 t65 t66 t67 t68 t69 t70 t71 t72 t73 t74 t75 t76 t77 t78 t79 t80 t81 t82 t83 t84 t85 t86 t87 t88 t89 t90 t91 t92 t93 t94 t95 t96 t97 t98 t99 t100 t101 t102 t103 t104 t105 t106 t107 t108 t109 t110 t111 t112 t113 t114 t115 t116 t117 t118 t119 t120 t121 t122 t123 t124 t125 t126 t127 t128 t129 t130 t131 t132 t133 t134 t135 t136 t137 t138 t139 t140 t141 t142 t143 t144 t145) w') → o.wp P (lrF t0 t1 t2 t3 t4 t5 r6 r7 r8 t9 t10 t11 t12 t13 t14 t15 t16 t17 t18 t19 t20 t21 t22 t23 t24 t25 t26 t27 t28 r29 r30 r31 r32 r33 r34 r35 r36 r37 t38 t39 t40 t41 t42 t43 t44 t45 t46 t47 t48 t49 t50 t51 t52 t53 t54 t55 t56 t57 t58 t59 t60 t61 t62 t63 t64 t65 t66 t67 t68 t69 t70 t71 t72 t73 t74 t75 t76 t77 t78 t79 t80 t81 t82 t83 t84 t85 t86 t87 t88 t89 t90 t91 t92 t93 t94 t95 t96 t97 t98 t99 t100 t101 t102 t103 t104 t105 t106 t107 t108 t109 t110 t111 t112 t113 t114 t115 t116 t117 t118 t119 t120 t121 t122 t123 t124 t125 t126 t127 t128 t129 t130 t131 t132 t133 t134 t135 t136 t137 t138 t139 t140 t141 t142 t143 t144 t145) w K Q)
    (he : ∀ (d : Nat → Bool) (w : World) (r6 r7 r8 r29 r30 r31 r32 r33 r34 r35 r36 r37 : Value), J d w r6 r7 r8 r29 r30 r31 r32 r33 r34 r35 r36 r37 → (∀ i, i < l.length → d i = true) → Q .normal (lrF t0 t1 t2 t3 t4 t5 r6 r7 r8 t9 t10 t11 t12 t13 t14 t15 t16 t17 t18 t19 t20 t21 t22 t23 t24 t25 t26 t27 t28 r29 r30 r31 r32 r33 r34 r35 r36 r37 t38 t39 t40 t41 t42 t43 t44 t45 t46 t47 t48 t49 t50 t51 t52 t53 t54 t55 t56 t57 t58 t59 t60 t61 t62 t63 t64 t65 t66 t67 t68 t69 t70 t71 t72 t73 t74 t75 t76 t77 t78 t79 t80 t81 t82 t83 t84 t85 t86 t87 t88 t89 t90 t91 t92 t93 t94 t95 t96 t97 t98 t99 t100 t101 t102 t103 t104 t105 t106 t107 t108 t109 t110 t111 t112 t113 t114 t115 t116 t117 t118 t119 t120 t121 t122 t123 t124 t125 t126 t127 t128 t129 t130 t131 t132 t133 t134 t135 t136 t137 t138 t139 t140 t141 t142 t143 t144 t145) w) : (Code.region id l.toArray true).wp P Q (lrF t0 t1 t2 t3 t4 t5 s6 s7 s8 t9 t10 t11 t12 t13 t14 t15 t16 t17 t18 t19 t20 t21 t22 t23 t24 t25 t26 t27 t28 s29 s30 s31 s32 s33 s34 s35 s36 s37 t38 t39 t40 t41 t42 t43 t44 t45 t46 t47 t48 t49 t50 t51 t52 t53 t54 t55 t56 t57 t58 t59 t60 t61 t62 t63 t64 t65 t66 t67 t68 t69 t70 t71 t72 t73 t74 t75 t76 t77 t78 t79 t80 t81 t82 t83 t84 t85 t86 t87 t88 t89 t90 t91 t92 t93 t94 t95 t96 t97 t98 t99 t100 t101 t102 t103 t104 t105 t106 t107 t108 t109 t110 t111 t112 t113 t114 t115 t116 t117 t118 t119 t120 t121 t122 t123 t124 t125 t126 t127 t128 t129 t130 t131 t132 t133 t134 t135 t136 t137 t138 t139 t140 t141 t142 t143 t144 t145) W := by
  refine wp_region_inv4 (fun d f w => ∃ r6 r7 r8 r29 r30 r31 r32 r33 r34 r35 r36 r37, f = lrF t0 t1 t2 t3 t4 t5 r6 r7 r8 t9 t10 t11 t12 t13 t14 t15 t16 t17 t18 t19 t20 t21 t22 t23 t24 t25 t26 t27 t28 r29 r30 r31 r32 r33 r34 r35 r36 r37 t38 t39 t40 t41 t42 t43 t44 t45 t46 t47 t48 t49 t50 t51 t52 t53 t54 t55 t56 t57 t58 t59 t60 t61 t62 t63 t64 t65 t66 t67 t68 t69 t70 t71 t72 t73 t74 t75 t76 t77 t78 t79 t80 t81 t82 t83 t84 t85 t86 t87 t88 t89 t90 t91 t92 t93 t94 t95 t96 t97 t98 t99 t100 t101 t102 t103 t104 t105 t106 t107 t108 t109 t110 t111 t112 t113 t114 t115 t116 t117 t118 t119 t120 t121 t122 t123 t124 t125 t126 t127 t128 t129 t130 t131 t132 t133 t134 t135 t136 t137 t138 t139 t140 t141 t142 t143 t144 t145 ∧ J d w r6 r7 r8 r29 r30 r31 r32 r33 r34 r35 r36 r37) hm hl hg ⟨s6, s7, s8, s29, s30, s31, s32, s33, s34, s35, s36, s37, rfl, h0⟩ ?_ ?_
  · intro d f w i o hc hI ho hd hp K hK
    obtain ⟨r6, r7, r8, r29, r30, r31, r32, r33, r34, r35, r36, r37, rfl, hJ⟩ := hI
    exact hs d w i o r6 r7 r8 r29 r30 r31 r32 r33 r34 r35 r36 r37 hc hJ ho hd hp K (fun w' q6 q7 q8 q29 q30 q31 q32 q33 q34 q35 q36 q37 hJ' => hK _ _ ⟨q6, q7, q8, q29, q30, q31, q32, q33, q34, q35, q36, q37, rfl, hJ'⟩)
  · intro d f w hI hall
    obtain ⟨r6, r7, r8, r29, r30, r31, r32, r33, r34, r35, r36, r37, rfl, hJ⟩ := hI
    exact he d w r6 r7 r8 r29 r30 r31 r32 r33 r34 r35 r36 r37 hJ hall

structure LsJ (W0 : World) (M : Img) (r : Rp) (C : Int) (AA AQ : Value) (d : Nat → Bool) (w : World) (s10 s11 s12 s40 s41 s42 s43 s44 s45 s46 s47 : Value) (a : Im4) (ts : List Value) (no : Option Addr) (nc x y : Nat) : Prop where
  bw : Below W0.heap.size W0 w
  f0 : d 0 = true → s41 = AA
  f1 : d 1 = true → s42 = AQ
  f2 : d 2 = true → s43 = AQ
  f4 : d 4 = true → s40 = .tuple #[imV a M, rpV r no nc, .int .i64 C]
  f5 : d 5 = true → s45 = imV a M
  f6 : d 6 = true → s46 = rpV r no nc
  f7 : d 7 = true → s47 = .int .i64 C
  f12 : d 12 = true → s12 = .int .i64 C
  c : d 3 = true → s44 = .tuple #[imV a M, rpV r no nc, .int .i64 C]
  o : d 3 = true → OwnIm w W0.heap.size a M ts
  n : d 3 = true → OwnNs w W0.heap.size no nc r.ns
  px : d 8 = true → s10 = .pointer (some ⟨x, 0, none⟩)
  x0 : d 8 = true → W0.heap.size ≤ x
  zx : d 8 = true → d 10 = false → ZrM w x
  vx : d 10 = true → FlM w x a M
  py : d 9 = true → s11 = .pointer (some ⟨y, 0, none⟩)
  y0 : d 9 = true → W0.heap.size ≤ y
  zy : d 9 = true → d 11 = false → ZrY w y
  vy : d 11 = true → FlY w y r no nc

theorem LsJ.s0 {W0 : World} {M : Img} {r : Rp} {C : Int} {AA AQ : Value} {d : Nat → Bool} {w : World} {s10 s11 s12 s40 s41 s42 s43 s44 s45 s46 s47 v : Value} {a : Im4} {ts : List Value} {no : Option Addr} {nc x y : Nat} (I : LsJ W0 M r C AA AQ d w s10 s11 s12 s40 s41 s42 s43 s44 s45 s46 s47 a ts no nc x y) (hd : d 0 = false) (hv : v = AA) : LsJ W0 M r C AA AQ (updD d 0) w s10 s11 s12 s40 v s42 s43 s44 s45 s46 s47 a ts no nc x y where
  bw := I.bw
  f0 := fun _ => hv
  f1 := fun h => (I.f1 (upd_ne (by decide) h))
  f2 := fun h => (I.f2 (upd_ne (by decide) h))
  f4 := fun h => (I.f4 (upd_ne (by decide) h))
  f5 := fun h => (I.f5 (upd_ne (by decide) h))
  f6 := fun h => (I.f6 (upd_ne (by decide) h))
  f7 := fun h => (I.f7 (upd_ne (by decide) h))
  f12 := fun h => (I.f12 (upd_ne (by decide) h))
  c := fun h => (I.c (upd_ne (by decide) h))
  o := fun h => (I.o (upd_ne (by decide) h))
  n := fun h => (I.n (upd_ne (by decide) h))
  px := fun h => (I.px (upd_ne (by decide) h))
  x0 := fun h => (I.x0 (upd_ne (by decide) h))
  zx := fun h h2 => (I.zx (upd_ne (by decide) h) (upd_nf h2))
  vx := fun h => (I.vx (upd_ne (by decide) h))
  py := fun h => (I.py (upd_ne (by decide) h))
  y0 := fun h => (I.y0 (upd_ne (by decide) h))
  zy := fun h h2 => (I.zy (upd_ne (by decide) h) (upd_nf h2))
  vy := fun h => (I.vy (upd_ne (by decide) h))

theorem LsJ.s1 {W0 : World} {M : Img} {r : Rp} {C : Int} {AA AQ : Value} {d : Nat → Bool} {w : World} {s10 s11 s12 s40 s41 s42 s43 s44 s45 s46 s47 v : Value} {a : Im4} {ts : List Value} {no : Option Addr} {nc x y : Nat} (I : LsJ W0 M r C AA AQ d w s10 s11 s12 s40 s41 s42 s43 s44 s45 s46 s47 a ts no nc x y) (hd : d 1 = false) (hv : v = AQ) : LsJ W0 M r C AA AQ (updD d 1) w s10 s11 s12 s40 s41 v s43 s44 s45 s46 s47 a ts no nc x y where
  bw := I.bw
  f0 := fun h => (I.f0 (upd_ne (by decide) h))
  f1 := fun _ => hv
  f2 := fun h => (I.f2 (upd_ne (by decide) h))
  f4 := fun h => (I.f4 (upd_ne (by decide) h))
  f5 := fun h => (I.f5 (upd_ne (by decide) h))
  f6 := fun h => (I.f6 (upd_ne (by decide) h))
  f7 := fun h => (I.f7 (upd_ne (by decide) h))
  f12 := fun h => (I.f12 (upd_ne (by decide) h))
  c := fun h => (I.c (upd_ne (by decide) h))
  o := fun h => (I.o (upd_ne (by decide) h))
  n := fun h => (I.n (upd_ne (by decide) h))
  px := fun h => (I.px (upd_ne (by decide) h))
  x0 := fun h => (I.x0 (upd_ne (by decide) h))
  zx := fun h h2 => (I.zx (upd_ne (by decide) h) (upd_nf h2))
  vx := fun h => (I.vx (upd_ne (by decide) h))
  py := fun h => (I.py (upd_ne (by decide) h))
  y0 := fun h => (I.y0 (upd_ne (by decide) h))
  zy := fun h h2 => (I.zy (upd_ne (by decide) h) (upd_nf h2))
  vy := fun h => (I.vy (upd_ne (by decide) h))

theorem LsJ.s2 {W0 : World} {M : Img} {r : Rp} {C : Int} {AA AQ : Value} {d : Nat → Bool} {w : World} {s10 s11 s12 s40 s41 s42 s43 s44 s45 s46 s47 v : Value} {a : Im4} {ts : List Value} {no : Option Addr} {nc x y : Nat} (I : LsJ W0 M r C AA AQ d w s10 s11 s12 s40 s41 s42 s43 s44 s45 s46 s47 a ts no nc x y) (hd : d 2 = false) (hv : v = AQ) : LsJ W0 M r C AA AQ (updD d 2) w s10 s11 s12 s40 s41 s42 v s44 s45 s46 s47 a ts no nc x y where
  bw := I.bw
  f0 := fun h => (I.f0 (upd_ne (by decide) h))
  f1 := fun h => (I.f1 (upd_ne (by decide) h))
  f2 := fun _ => hv
  f4 := fun h => (I.f4 (upd_ne (by decide) h))
  f5 := fun h => (I.f5 (upd_ne (by decide) h))
  f6 := fun h => (I.f6 (upd_ne (by decide) h))
  f7 := fun h => (I.f7 (upd_ne (by decide) h))
  f12 := fun h => (I.f12 (upd_ne (by decide) h))
  c := fun h => (I.c (upd_ne (by decide) h))
  o := fun h => (I.o (upd_ne (by decide) h))
  n := fun h => (I.n (upd_ne (by decide) h))
  px := fun h => (I.px (upd_ne (by decide) h))
  x0 := fun h => (I.x0 (upd_ne (by decide) h))
  zx := fun h h2 => (I.zx (upd_ne (by decide) h) (upd_nf h2))
  vx := fun h => (I.vx (upd_ne (by decide) h))
  py := fun h => (I.py (upd_ne (by decide) h))
  y0 := fun h => (I.y0 (upd_ne (by decide) h))
  zy := fun h h2 => (I.zy (upd_ne (by decide) h) (upd_nf h2))
  vy := fun h => (I.vy (upd_ne (by decide) h))

theorem LsJ.s3 {W0 : World} {M : Img} {r : Rp} {C : Int} {AA AQ : Value} {d : Nat → Bool} {w w2 : World} {s10 s11 s12 s40 s41 s42 s43 s44 s45 s46 s47 v : Value} {a : Im4} {ts : List Value} {no : Option Addr} {nc x y : Nat} (I : LsJ W0 M r C AA AQ d w s10 s11 s12 s40 s41 s42 s43 s44 s45 s46 s47 a ts no nc x y) (hd : d 3 = false) (hb : Below w.heap.size w w2) {a1 : Im4} {ts1 : List Value} {no1 : Option Addr} {nc1 : Nat} (hv : v = .tuple #[imV a1 M, rpV r no1 nc1, .int .i64 C]) (ho : OwnIm w2 w.heap.size a1 M ts1) (hn : OwnNs w2 w.heap.size no1 nc1 r.ns) (n4 : d 4 = false) (n5 : d 5 = false) (n6 : d 6 = false) (n7 : d 7 = false) (n12 : d 12 = false) (n10 : d 10 = false) (n11 : d 11 = false) : LsJ W0 M r C AA AQ (updD d 3) w2 s10 s11 s12 s40 s41 s42 s43 v s45 s46 s47 a1 ts1 no1 nc1 x y where
  bw := fr I.bw hb
  f0 := fun h => (I.f0 (upd_ne (by decide) h))
  f1 := fun h => (I.f1 (upd_ne (by decide) h))
  f2 := fun h => (I.f2 (upd_ne (by decide) h))
  f4 := fun h => no_d (upd_ne (by decide) h) n4
  f5 := fun h => no_d (upd_ne (by decide) h) n5
  f6 := fun h => no_d (upd_ne (by decide) h) n6
  f7 := fun h => no_d (upd_ne (by decide) h) n7
  f12 := fun h => no_d (upd_ne (by decide) h) n12
  c := fun _ => hv
  o := fun _ => ho.base I.bw.size
  n := fun _ => OwnR.base hn I.bw.size
  px := fun h => (I.px (upd_ne (by decide) h))
  x0 := fun h => (I.x0 (upd_ne (by decide) h))
  zx := fun h h2 => (I.zx (upd_ne (by decide) h) (upd_nf h2)).below hb
  vx := fun h => no_d (upd_ne (by decide) h) n10
  py := fun h => (I.py (upd_ne (by decide) h))
  y0 := fun h => (I.y0 (upd_ne (by decide) h))
  zy := fun h h2 => (I.zy (upd_ne (by decide) h) (upd_nf h2)).below hb
  vy := fun h => no_d (upd_ne (by decide) h) n11

theorem LsJ.s4 {W0 : World} {M : Img} {r : Rp} {C : Int} {AA AQ : Value} {d : Nat → Bool} {w : World} {s10 s11 s12 s40 s41 s42 s43 s44 s45 s46 s47 v : Value} {a : Im4} {ts : List Value} {no : Option Addr} {nc x y : Nat} (I : LsJ W0 M r C AA AQ d w s10 s11 s12 s40 s41 s42 s43 s44 s45 s46 s47 a ts no nc x y) (hd : d 4 = false) (hv : v = .tuple #[imV a M, rpV r no nc, .int .i64 C]) : LsJ W0 M r C AA AQ (updD d 4) w s10 s11 s12 v s41 s42 s43 s44 s45 s46 s47 a ts no nc x y where
  bw := I.bw
  f0 := fun h => (I.f0 (upd_ne (by decide) h))
  f1 := fun h => (I.f1 (upd_ne (by decide) h))
  f2 := fun h => (I.f2 (upd_ne (by decide) h))
  f4 := fun _ => hv
  f5 := fun h => (I.f5 (upd_ne (by decide) h))
  f6 := fun h => (I.f6 (upd_ne (by decide) h))
  f7 := fun h => (I.f7 (upd_ne (by decide) h))
  f12 := fun h => (I.f12 (upd_ne (by decide) h))
  c := fun h => (I.c (upd_ne (by decide) h))
  o := fun h => (I.o (upd_ne (by decide) h))
  n := fun h => (I.n (upd_ne (by decide) h))
  px := fun h => (I.px (upd_ne (by decide) h))
  x0 := fun h => (I.x0 (upd_ne (by decide) h))
  zx := fun h h2 => (I.zx (upd_ne (by decide) h) (upd_nf h2))
  vx := fun h => (I.vx (upd_ne (by decide) h))
  py := fun h => (I.py (upd_ne (by decide) h))
  y0 := fun h => (I.y0 (upd_ne (by decide) h))
  zy := fun h h2 => (I.zy (upd_ne (by decide) h) (upd_nf h2))
  vy := fun h => (I.vy (upd_ne (by decide) h))

theorem LsJ.s5 {W0 : World} {M : Img} {r : Rp} {C : Int} {AA AQ : Value} {d : Nat → Bool} {w : World} {s10 s11 s12 s40 s41 s42 s43 s44 s45 s46 s47 v : Value} {a : Im4} {ts : List Value} {no : Option Addr} {nc x y : Nat} (I : LsJ W0 M r C AA AQ d w s10 s11 s12 s40 s41 s42 s43 s44 s45 s46 s47 a ts no nc x y) (hd : d 5 = false) (hv : v = imV a M) : LsJ W0 M r C AA AQ (updD d 5) w s10 s11 s12 s40 s41 s42 s43 s44 v s46 s47 a ts no nc x y where
  bw := I.bw
  f0 := fun h => (I.f0 (upd_ne (by decide) h))
  f1 := fun h => (I.f1 (upd_ne (by decide) h))
  f2 := fun h => (I.f2 (upd_ne (by decide) h))
  f4 := fun h => (I.f4 (upd_ne (by decide) h))
  f5 := fun _ => hv
  f6 := fun h => (I.f6 (upd_ne (by decide) h))
  f7 := fun h => (I.f7 (upd_ne (by decide) h))
  f12 := fun h => (I.f12 (upd_ne (by decide) h))
  c := fun h => (I.c (upd_ne (by decide) h))
  o := fun h => (I.o (upd_ne (by decide) h))
  n := fun h => (I.n (upd_ne (by decide) h))
  px := fun h => (I.px (upd_ne (by decide) h))
  x0 := fun h => (I.x0 (upd_ne (by decide) h))
  zx := fun h h2 => (I.zx (upd_ne (by decide) h) (upd_nf h2))
  vx := fun h => (I.vx (upd_ne (by decide) h))
  py := fun h => (I.py (upd_ne (by decide) h))
  y0 := fun h => (I.y0 (upd_ne (by decide) h))
  zy := fun h h2 => (I.zy (upd_ne (by decide) h) (upd_nf h2))
  vy := fun h => (I.vy (upd_ne (by decide) h))

theorem LsJ.s6 {W0 : World} {M : Img} {r : Rp} {C : Int} {AA AQ : Value} {d : Nat → Bool} {w : World} {s10 s11 s12 s40 s41 s42 s43 s44 s45 s46 s47 v : Value} {a : Im4} {ts : List Value} {no : Option Addr} {nc x y : Nat} (I : LsJ W0 M r C AA AQ d w s10 s11 s12 s40 s41 s42 s43 s44 s45 s46 s47 a ts no nc x y) (hd : d 6 = false) (hv : v = rpV r no nc) : LsJ W0 M r C AA AQ (updD d 6) w s10 s11 s12 s40 s41 s42 s43 s44 s45 v s47 a ts no nc x y where
  bw := I.bw
  f0 := fun h => (I.f0 (upd_ne (by decide) h))
  f1 := fun h => (I.f1 (upd_ne (by decide) h))
  f2 := fun h => (I.f2 (upd_ne (by decide) h))
  f4 := fun h => (I.f4 (upd_ne (by decide) h))
  f5 := fun h => (I.f5 (upd_ne (by decide) h))
  f6 := fun _ => hv
  f7 := fun h => (I.f7 (upd_ne (by decide) h))
  f12 := fun h => (I.f12 (upd_ne (by decide) h))
  c := fun h => (I.c (upd_ne (by decide) h))
  o := fun h => (I.o (upd_ne (by decide) h))
  n := fun h => (I.n (upd_ne (by decide) h))
  px := fun h => (I.px (upd_ne (by decide) h))
  x0 := fun h => (I.x0 (upd_ne (by decide) h))
  zx := fun h h2 => (I.zx (upd_ne (by decide) h) (upd_nf h2))
  vx := fun h => (I.vx (upd_ne (by decide) h))
  py := fun h => (I.py (upd_ne (by decide) h))
  y0 := fun h => (I.y0 (upd_ne (by decide) h))
  zy := fun h h2 => (I.zy (upd_ne (by decide) h) (upd_nf h2))
  vy := fun h => (I.vy (upd_ne (by decide) h))

theorem LsJ.s7 {W0 : World} {M : Img} {r : Rp} {C : Int} {AA AQ : Value} {d : Nat → Bool} {w : World} {s10 s11 s12 s40 s41 s42 s43 s44 s45 s46 s47 v : Value} {a : Im4} {ts : List Value} {no : Option Addr} {nc x y : Nat} (I : LsJ W0 M r C AA AQ d w s10 s11 s12 s40 s41 s42 s43 s44 s45 s46 s47 a ts no nc x y) (hd : d 7 = false) (hv : v = .int .i64 C) : LsJ W0 M r C AA AQ (updD d 7) w s10 s11 s12 s40 s41 s42 s43 s44 s45 s46 v a ts no nc x y where
  bw := I.bw
  f0 := fun h => (I.f0 (upd_ne (by decide) h))
  f1 := fun h => (I.f1 (upd_ne (by decide) h))
  f2 := fun h => (I.f2 (upd_ne (by decide) h))
  f4 := fun h => (I.f4 (upd_ne (by decide) h))
  f5 := fun h => (I.f5 (upd_ne (by decide) h))
  f6 := fun h => (I.f6 (upd_ne (by decide) h))
  f7 := fun _ => hv
  f12 := fun h => (I.f12 (upd_ne (by decide) h))
  c := fun h => (I.c (upd_ne (by decide) h))
  o := fun h => (I.o (upd_ne (by decide) h))
  n := fun h => (I.n (upd_ne (by decide) h))
  px := fun h => (I.px (upd_ne (by decide) h))
  x0 := fun h => (I.x0 (upd_ne (by decide) h))
  zx := fun h h2 => (I.zx (upd_ne (by decide) h) (upd_nf h2))
  vx := fun h => (I.vx (upd_ne (by decide) h))
  py := fun h => (I.py (upd_ne (by decide) h))
  y0 := fun h => (I.y0 (upd_ne (by decide) h))
  zy := fun h h2 => (I.zy (upd_ne (by decide) h) (upd_nf h2))
  vy := fun h => (I.vy (upd_ne (by decide) h))

theorem LsJ.s8 {W0 : World} {M : Img} {r : Rp} {C : Int} {AA AQ : Value} {d : Nat → Bool} {w w2 : World} {s10 s11 s12 s40 s41 s42 s43 s44 s45 s46 s47 v : Value} {a : Im4} {ts : List Value} {no : Option Addr} {nc x y : Nat} (I : LsJ W0 M r C AA AQ d w s10 s11 s12 s40 s41 s42 s43 s44 s45 s46 s47 a ts no nc x y) (hd : d 8 = false) (hb : Below w.heap.size w w2) {x1 : Nat} (hv : v = .pointer (some ⟨x1, 0, none⟩)) (h0 : w.heap.size ≤ x1) (hz : ZrM w2 x1) (n1 : d 10 = false) : LsJ W0 M r C AA AQ (updD d 8) w2 v s11 s12 s40 s41 s42 s43 s44 s45 s46 s47 a ts no nc x1 y where
  bw := fr I.bw hb
  f0 := fun h => (I.f0 (upd_ne (by decide) h))
  f1 := fun h => (I.f1 (upd_ne (by decide) h))
  f2 := fun h => (I.f2 (upd_ne (by decide) h))
  f4 := fun h => (I.f4 (upd_ne (by decide) h))
  f5 := fun h => (I.f5 (upd_ne (by decide) h))
  f6 := fun h => (I.f6 (upd_ne (by decide) h))
  f7 := fun h => (I.f7 (upd_ne (by decide) h))
  f12 := fun h => (I.f12 (upd_ne (by decide) h))
  c := fun h => (I.c (upd_ne (by decide) h))
  o := fun h => (I.o (upd_ne (by decide) h)).below hb
  n := fun h => (I.n (upd_ne (by decide) h)).below hb
  px := fun _ => hv
  x0 := fun _ => Nat.le_trans I.bw.size h0
  zx := fun _ _ => hz
  vx := fun h => no_d (upd_ne (by decide) h) n1
  py := fun h => (I.py (upd_ne (by decide) h))
  y0 := fun h => (I.y0 (upd_ne (by decide) h))
  zy := fun h h2 => (I.zy (upd_ne (by decide) h) (upd_nf h2)).below hb
  vy := fun h => (I.vy (upd_ne (by decide) h)).below hb

theorem LsJ.s9 {W0 : World} {M : Img} {r : Rp} {C : Int} {AA AQ : Value} {d : Nat → Bool} {w w2 : World} {s10 s11 s12 s40 s41 s42 s43 s44 s45 s46 s47 v : Value} {a : Im4} {ts : List Value} {no : Option Addr} {nc x y : Nat} (I : LsJ W0 M r C AA AQ d w s10 s11 s12 s40 s41 s42 s43 s44 s45 s46 s47 a ts no nc x y) (hd : d 9 = false) (hb : Below w.heap.size w w2) {y1 : Nat} (hv : v = .pointer (some ⟨y1, 0, none⟩)) (h0 : w.heap.size ≤ y1) (hz : ZrY w2 y1) (n1 : d 11 = false) : LsJ W0 M r C AA AQ (updD d 9) w2 s10 v s12 s40 s41 s42 s43 s44 s45 s46 s47 a ts no nc x y1 where
  bw := fr I.bw hb
  f0 := fun h => (I.f0 (upd_ne (by decide) h))
  f1 := fun h => (I.f1 (upd_ne (by decide) h))
  f2 := fun h => (I.f2 (upd_ne (by decide) h))
  f4 := fun h => (I.f4 (upd_ne (by decide) h))
  f5 := fun h => (I.f5 (upd_ne (by decide) h))
  f6 := fun h => (I.f6 (upd_ne (by decide) h))
  f7 := fun h => (I.f7 (upd_ne (by decide) h))
  f12 := fun h => (I.f12 (upd_ne (by decide) h))
  c := fun h => (I.c (upd_ne (by decide) h))
  o := fun h => (I.o (upd_ne (by decide) h)).below hb
  n := fun h => (I.n (upd_ne (by decide) h)).below hb
  px := fun h => (I.px (upd_ne (by decide) h))
  x0 := fun h => (I.x0 (upd_ne (by decide) h))
  zx := fun h h2 => (I.zx (upd_ne (by decide) h) (upd_nf h2)).below hb
  vx := fun h => (I.vx (upd_ne (by decide) h)).below hb
  py := fun _ => hv
  y0 := fun _ => Nat.le_trans I.bw.size h0
  zy := fun _ _ => hz
  vy := fun h => no_d (upd_ne (by decide) h) n1

theorem LsJ.s10 {W0 : World} {M : Img} {r : Rp} {C : Int} {AA AQ : Value} {d : Nat → Bool} {w : World} {s10 s11 s12 s40 s41 s42 s43 s44 s45 s46 s47 : Value} {a : Im4} {ts : List Value} {no : Option Addr} {nc x y : Nat} (I : LsJ W0 M r C AA AQ d w s10 s11 s12 s40 s41 s42 s43 s44 s45 s46 s47 a ts no nc x y) (hd : d 10 = false) (p1 : d 8 = true) (n1 : d 11 = false) (p2 : d 9 = true) : LsJ W0 M r C AA AQ (updD d 10) (putI w x a M) s10 s11 s12 s40 s41 s42 s43 s44 s45 s46 s47 a ts no nc x y where
  bw := below_putI I.bw (I.x0 p1) a M I.bw.size
  f0 := fun h => (I.f0 (upd_ne (by decide) h))
  f1 := fun h => (I.f1 (upd_ne (by decide) h))
  f2 := fun h => (I.f2 (upd_ne (by decide) h))
  f4 := fun h => (I.f4 (upd_ne (by decide) h))
  f5 := fun h => (I.f5 (upd_ne (by decide) h))
  f6 := fun h => (I.f6 (upd_ne (by decide) h))
  f7 := fun h => (I.f7 (upd_ne (by decide) h))
  f12 := fun h => (I.f12 (upd_ne (by decide) h))
  c := fun h => (I.c (upd_ne (by decide) h))
  o := fun h => (I.o (upd_ne (by decide) h)).putI (I.zx p1 hd)
  n := fun h => OwnNs.putI (I.n (upd_ne (by decide) h)) (I.zx p1 hd)
  px := fun h => (I.px (upd_ne (by decide) h))
  x0 := fun h => (I.x0 (upd_ne (by decide) h))
  zx := fun _ h2 => no_d upd_at h2
  vx := fun _ => FlM.of (I.zx p1 hd) a M
  py := fun h => (I.py (upd_ne (by decide) h))
  y0 := fun h => (I.y0 (upd_ne (by decide) h))
  zy := fun h h2 => (I.zy (upd_ne (by decide) h) (upd_nf h2)).keepX (putI_keep w x a M) (fun e => apartMY (I.zx p1 hd) (I.zy p2 n1) e.symm)
  vy := fun h => no_d (upd_ne (by decide) h) n1

theorem LsJ.s11 {W0 : World} {M : Img} {r : Rp} {C : Int} {AA AQ : Value} {d : Nat → Bool} {w : World} {s10 s11 s12 s40 s41 s42 s43 s44 s45 s46 s47 : Value} {a : Im4} {ts : List Value} {no : Option Addr} {nc x y : Nat} (I : LsJ W0 M r C AA AQ d w s10 s11 s12 s40 s41 s42 s43 s44 s45 s46 s47 a ts no nc x y) (hd : d 11 = false) (p1 : d 9 = true) (p2 : d 10 = true) : LsJ W0 M r C AA AQ (updD d 11) (putR w y r no nc) s10 s11 s12 s40 s41 s42 s43 s44 s45 s46 s47 a ts no nc x y where
  bw := below_putR I.bw (I.y0 p1) r no nc I.bw.size
  f0 := fun h => (I.f0 (upd_ne (by decide) h))
  f1 := fun h => (I.f1 (upd_ne (by decide) h))
  f2 := fun h => (I.f2 (upd_ne (by decide) h))
  f4 := fun h => (I.f4 (upd_ne (by decide) h))
  f5 := fun h => (I.f5 (upd_ne (by decide) h))
  f6 := fun h => (I.f6 (upd_ne (by decide) h))
  f7 := fun h => (I.f7 (upd_ne (by decide) h))
  f12 := fun h => (I.f12 (upd_ne (by decide) h))
  c := fun h => (I.c (upd_ne (by decide) h))
  o := fun h => (I.o (upd_ne (by decide) h)).putRp (I.zy p1 hd) r no nc
  n := fun h => OwnNs.putR (I.n (upd_ne (by decide) h)) (I.zy p1 hd) r no nc
  px := fun h => (I.px (upd_ne (by decide) h))
  x0 := fun h => (I.x0 (upd_ne (by decide) h))
  zx := fun h h2 => no_d p2 (upd_nf h2)
  vx := fun h => (I.vx (upd_ne (by decide) h)).keepX (putR_keep w y r no nc) (apartMY (I.vx (upd_ne (by decide) h)) (I.zy p1 hd))
  py := fun h => (I.py (upd_ne (by decide) h))
  y0 := fun h => (I.y0 (upd_ne (by decide) h))
  zy := fun _ h2 => no_d upd_at h2
  vy := fun _ => FlY.of (I.zy p1 hd) r no nc

theorem LsJ.s12 {W0 : World} {M : Img} {r : Rp} {C : Int} {AA AQ : Value} {d : Nat → Bool} {w : World} {s10 s11 s12 s40 s41 s42 s43 s44 s45 s46 s47 v : Value} {a : Im4} {ts : List Value} {no : Option Addr} {nc x y : Nat} (I : LsJ W0 M r C AA AQ d w s10 s11 s12 s40 s41 s42 s43 s44 s45 s46 s47 a ts no nc x y) (hd : d 12 = false) (hv : v = .int .i64 C) : LsJ W0 M r C AA AQ (updD d 12) w s10 s11 v s40 s41 s42 s43 s44 s45 s46 s47 a ts no nc x y where
  bw := I.bw
  f0 := fun h => (I.f0 (upd_ne (by decide) h))
  f1 := fun h => (I.f1 (upd_ne (by decide) h))
  f2 := fun h => (I.f2 (upd_ne (by decide) h))
  f4 := fun h => (I.f4 (upd_ne (by decide) h))
  f5 := fun h => (I.f5 (upd_ne (by decide) h))
  f6 := fun h => (I.f6 (upd_ne (by decide) h))
  f7 := fun h => (I.f7 (upd_ne (by decide) h))
  f12 := fun _ => hv
  c := fun h => (I.c (upd_ne (by decide) h))
  o := fun h => (I.o (upd_ne (by decide) h))
  n := fun h => (I.n (upd_ne (by decide) h))
  px := fun h => (I.px (upd_ne (by decide) h))
  x0 := fun h => (I.x0 (upd_ne (by decide) h))
  zx := fun h h2 => (I.zx (upd_ne (by decide) h) (upd_nf h2))
  vx := fun h => (I.vx (upd_ne (by decide) h))
  py := fun h => (I.py (upd_ne (by decide) h))
  y0 := fun h => (I.y0 (upd_ne (by decide) h))
  zy := fun h h2 => (I.zy (upd_ne (by decide) h) (upd_nf h2))
  vy := fun h => (I.vy (upd_ne (by decide) h))

theorem LsJ.start {W0 : World} {M : Img} {r : Rp} {C : Int} {AA AQ : Value} {w : World} {s10 s11 s12 s40 s41 s42 s43 s44 s45 s46 s47 : Value} {a : Im4} {ts : List Value} {no : Option Addr} {nc x y : Nat} (hb : Below W0.heap.size W0 w) : LsJ W0 M r C AA AQ (fun _ => false) w s10 s11 s12 s40 s41 s42 s43 s44 s45 s46 s47 a ts no nc x y where
  bw := hb
  f0 := fun h => (by cases h)
  f1 := fun h => (by cases h)
  f2 := fun h => (by cases h)
  f4 := fun h => (by cases h)
  f5 := fun h => (by cases h)
  f6 := fun h => (by cases h)
  f7 := fun h => (by cases h)
  f12 := fun h => (by cases h)
  c := fun h => (by cases h)
  o := fun h => (by cases h)
  n := fun h => (by cases h)
  px := fun h => (by cases h)
  x0 := fun h => (by cases h)
  zx := fun h _ => (by cases h)
  vx := fun h => (by cases h)
  py := fun h => (by cases h)
  y0 := fun h => (by cases h)
  zy := fun h _ => (by cases h)
  vy := fun h => (by cases h)

theorem LsJ.grow {W0 : World} {M : Img} {r : Rp} {C : Int} {AA AQ : Value} {d : Nat → Bool} {w w2 : World} {s10 s11 s12 s40 s41 s42 s43 s44 s45 s46 s47 : Value} {a : Im4} {ts : List Value} {no : Option Addr} {nc x y : Nat} (I : LsJ W0 M r C AA AQ d w s10 s11 s12 s40 s41 s42 s43 s44 s45 s46 s47 a ts no nc x y) (hb : Below w.heap.size w w2) : LsJ W0 M r C AA AQ d w2 s10 s11 s12 s40 s41 s42 s43 s44 s45 s46 s47 a ts no nc x y where
  bw := fr I.bw hb
  f0 := I.f0
  f1 := I.f1
  f2 := I.f2
  f4 := I.f4
  f5 := I.f5
  f6 := I.f6
  f7 := I.f7
  f12 := I.f12
  c := I.c
  o := fun h => (I.o h).below hb
  n := fun h => (I.n h).below hb
  px := I.px
  x0 := I.x0
  zx := fun h h2 => (I.zx h h2).below hb
  vx := fun h => (I.vx h).below hb
  py := I.py
  y0 := I.y0
  zy := fun h h2 => (I.zy h h2).below hb
  vy := fun h => (I.vy h).below hb

abbrev lsF (t0 t1 t2 t3 t4 t5 t6 t7 t8 t9 s10 s11 s12 t13 t14 t15 t16 t17 t18 t19 t20 t21 t22 t23 t24 t25 t26 t27 t28 t29 t30 t31 t32 t33 t34 t35 t36 t37 t38 t39 s40 s41 s42 s43 s44 s45 s46 s47 t48 t49 t50 t51 t52 t53 t54 t55 t56 t57 t58 t59 t60 t61 t62 t63 t64 t65 t66 t67 t68 t69 t70 t71 t72 t73 t74 t75 t76 t77 t78 t79 t80 t81 t82 t83 t84 t85 t86 t87 t88 t89 t90 t91 t92 t93 t94 t95 t96 t97 t98 t99 t100 t101 t102 t103 t104 t105 t106 t107 t108 t109 t110 t111 t112 t113 t114 t115 t116 t117 t118 t119 t120 t121 t122 t123 t124 t125 t126 t127 t128 t129 t130 t131 t132 t133 t134 t135 t136 t137 t138 t139 t140 t141 t142 t143 t144 t145 : Value) : Act := ⟨#[t0, t1, t2, t3, t4, t5, t6, t7, t8, t9, s10, s11, s12, t13, t14, t15, t16, t17, t18, t19, t20, t21, t22, t23, t24, t25, t26, t27, t28, t29, t30, t31, t32, t33, t34, t35, t36, t37, t38, t39, s40, s41, s42, s43, s44, s45, s46, s47, t48, t49, t50, t51, t52, t53, t54, t55, t56, t57, t58, t59, t60, t61, t62, t63, t64, t65, t66, t67, t68, t69, t70, t71, t72, t73, t74, t75, t76, t77, t78, t79, t80, t81, t82, t83, t84, t85, t86, t87, t88, t89, t90, t91, t92, t93, t94, t95, t96, t97, t98, t99, t100, t101, t102, t103, t104, t105, t106, t107, t108, t109, t110, t111, t112, t113, t114, t115, t116, t117, t118, t119, t120, t121, t122, t123, t124, t125, t126, t127, t128, t129, t130, t131, t132, t133, t134, t135, t136, t137, t138, t139, t140, t141, t142, t143, t144, t145], []⟩
theorem lsF_region {P : Program} {id : Nat} {Q : Exit → Act → World → Prop} {l : List Oper} {t0 t1 t2 t3 t4 t5 t6 t7 t8 t9 s10 s11 s12 t13 t14 t15 t16 t17 t18 t19 t20 t21 t22 t23 t24 t25 t26 t27 t28 t29 t30 t31 t32 t33 t34 t35 t36 t37 t38 t39 s40 s41 s42 s43 s44 s45 s46 s47 t48 t49 t50 t51 t52 t53 t54 t55 t56 t57 t58 t59 t60 t61 t62 t63 t64 t65 t66 t67 t68 t69 t70 t71 t72 t73 t74 t75 t76 t77 t78 t79 t80 t81 t82 t83 t84 t85 t86 t87 t88 t89 t90 t91 t92 t93 t94 t95 t96 t97 t98 t99 t100 t101 t102 t103 t104 t105 t106 t107 t108 t109 t110 t111 t112 t113 t114 t115 t116 t117 t118 t119 t120 t121 t122 t123 t124 t125 t126 t127 t128 t129 t130 t131 t132 t133 t134 t135 t136 t137 t138 t139 t140 t141 t142 t143 t144 t145 : Value} {W : World} (J : (Nat → Bool) → World → Value → Value → Value → Value → Value → Value → Value → Value → Value → Value → Value → Prop) (hm : P.follows .mixedOrders = true) (hl : linC l = true)
    (hg : ∀ (i : Nat) (o : Oper), l[i]? = some o → o.guard = none) (h0 : J (fun _ => false) { W with drawn := W.drawn + 1 } s10 s11 s12 s40 s41 s42 s43 s44 s45 s46 s47)
    (hs : ∀ (d : Nat → Bool) (w : World) (i : Nat) (o : Oper) (r10 r11 r12 r40 r41 r42 r43 r44 r45 r46 r47 : Value), Closed l d → J d w r10 r11 r12 r40 r41 r42 r43 r44 r45 r46 r47 → l[i]? = some o → d i = false → (∀ e ∈ o.after, Region.binds .any e = true → d e.on = true) → ∀ K : Act → World → Prop, (∀ (w' : World) (q10 q11 q12 q40 q41 q42 q43 q44 q45 q46 q47 : Value), J (updD d i) w' q10 q11 q12 q40 q41 q42 q43 q44 q45 q46 q47 → K (lsF t0 t1 t2 t3 t4 t5 t6 t7 t8 t9 q10 q11 q12 t13 t14 t15 t16 t17 t18 t19 t20 t21 t22 t23 t24 t25 t26 t27 t28 t29 t30 t31 t32 t33 t34 t35 t36 t37 t38 t39 q40 q41 q42 q43 q44 q45 q46 q47 t48 t49 t50 t51 t52 t53 t54 t55 t56 t57 t58 t59 t60 t61 t62 t63 t64 t65 t66 t67 t68 t69 t70 t71 t72 t73 t74 t75 t76 t77 t78 t79 t80 t81 t82 t83 t84 t85 t86 t87 t88 t89 t90 t91 t92 t93 t94 t95 t96 t97 t98 t99 t100 t101 t102 t103 t104 t105 t106 t107 t108 t109 t110 t111 t112 t113 t114 t115 t116 t117 t118 t119 t120 t121 t122 t123 t124 t125 t126 t127 t128 t129 t130 t131 t132 t133 t134 t135 t136 t137 t138 t139 t140 t141 t142 t143 t144 t145) w') → o.wp P (lsF t0 t1 t2 t3 t4 t5 t6 t7 t8 t9 r10 r11 r12 t13 t14 t15 t16 t17 t18 t19 t20 t21 t22 t23 t24 t25 t26 t27 t28 t29 t30 t31 t32 t33 t34 t35 t36 t37 t38 t39 r40 r41 r42 r43 r44 r45 r46 r47 t48 t49 t50 t51 t52 t53 t54 t55 t56 t57 t58 t59 t60 t61 t62 t63 t64 t65 t66 t67 t68 t69 t70 t71 t72 t73 t74 t75 t76 t77 t78 t79 t80 t81 t82 t83 t84 t85 t86 t87 t88 t89 t90 t91 t92 t93 t94 t95 t96 t97 t98 t99 t100 t101 t102 t103 t104 t105 t106 t107 t108 t109 t110 t111 t112 t113 t114 t115 t116 t117 t118 t119 t120 t121 t122 t123 t124 t125 t126 t127 t128 t129 t130 t131 t132 t133 t134 t135 t136 t137 t138 t139 t140 t141 t142 t143 t144 t145) w K Q)
    (he : ∀ (d : Nat → Bool) (w : World) (r10 r11 r12 r40 r41 r42 r43 r44 r45 r46 r47 : Value), J d w r10 r11 r12 r40 r41 r42 r43 r44 r45 r46 r47 → (∀ i, i < l.length → d i = true) → Q .normal (lsF t0 t1 t2 t3 t4 t5 t6 t7 t8 t9 r10 r11 r12 t13 t14 t15 t16 t17 t18 t19 t20 t21 t22 t23 t24 t25 t26 t27 t28 t29 t30 t31 t32 t33 t34 t35 t36 t37 t38 t39 r40 r41 r42 r43 r44 r45 r46 r47 t48 t49 t50 t51 t52 t53 t54 t55 t56 t57 t58 t59 t60 t61 t62 t63 t64 t65 t66 t67 t68 t69 t70 t71 t72 t73 t74 t75 t76 t77 t78 t79 t80 t81 t82 t83 t84 t85 t86 t87 t88 t89 t90 t91 t92 t93 t94 t95 t96 t97 t98 t99 t100 t101 t102 t103 t104 t105 t106 t107 t108 t109 t110 t111 t112 t113 t114 t115 t116 t117 t118 t119 t120 t121 t122 t123 t124 t125 t126 t127 t128 t129 t130 t131 t132 t133 t134 t135 t136 t137 t138 t139 t140 t141 t142 t143 t144 t145) w) : (Code.region id l.toArray true).wp P Q (lsF t0 t1 t2 t3 t4 t5 t6 t7 t8 t9 s10 s11 s12 t13 t14 t15 t16 t17 t18 t19 t20 t21 t22 t23 t24 t25 t26 t27 t28 t29 t30 t31 t32 t33 t34 t35 t36 t37 t38 t39 s40 s41 s42 s43 s44 s45 s46 s47 t48 t49 t50 t51 t52 t53 t54 t55 t56 t57 t58 t59 t60 t61 t62 t63 t64 t65 t66 t67 t68 t69 t70 t71 t72 t73 t74 t75 t76 t77 t78 t79 t80 t81 t82 t83 t84 t85 t86 t87 t88 t89 t90 t91 t92 t93 t94 t95 t96 t97 t98 t99 t100 t101 t102 t103 t104 t105 t106 t107 t108 t109 t110 t111 t112 t113 t114 t115 t116 t117 t118 t119 t120 t121 t122 t123 t124 t125 t126 t127 t128 t129 t130 t131 t132 t133 t134 t135 t136 t137 t138 t139 t140 t141 t142 t143 t144 t145) W := by
  refine wp_region_inv4 (fun d f w => ∃ r10 r11 r12 r40 r41 r42 r43 r44 r45 r46 r47, f = lsF t0 t1 t2 t3 t4 t5 t6 t7 t8 t9 r10 r11 r12 t13 t14 t15 t16 t17 t18 t19 t20 t21 t22 t23 t24 t25 t26 t27 t28 t29 t30 t31 t32 t33 t34 t35 t36 t37 t38 t39 r40 r41 r42 r43 r44 r45 r46 r47 t48 t49 t50 t51 t52 t53 t54 t55 t56 t57 t58 t59 t60 t61 t62 t63 t64 t65 t66 t67 t68 t69 t70 t71 t72 t73 t74 t75 t76 t77 t78 t79 t80 t81 t82 t83 t84 t85 t86 t87 t88 t89 t90 t91 t92 t93 t94 t95 t96 t97 t98 t99 t100 t101 t102 t103 t104 t105 t106 t107 t108 t109 t110 t111 t112 t113 t114 t115 t116 t117 t118 t119 t120 t121 t122 t123 t124 t125 t126 t127 t128 t129 t130 t131 t132 t133 t134 t135 t136 t137 t138 t139 t140 t141 t142 t143 t144 t145 ∧ J d w r10 r11 r12 r40 r41 r42 r43 r44 r45 r46 r47) hm hl hg ⟨s10, s11, s12, s40, s41, s42, s43, s44, s45, s46, s47, rfl, h0⟩ ?_ ?_
  · intro d f w i o hc hI ho hd hp K hK
    obtain ⟨r10, r11, r12, r40, r41, r42, r43, r44, r45, r46, r47, rfl, hJ⟩ := hI
    exact hs d w i o r10 r11 r12 r40 r41 r42 r43 r44 r45 r46 r47 hc hJ ho hd hp K (fun w' q10 q11 q12 q40 q41 q42 q43 q44 q45 q46 q47 hJ' => hK _ _ ⟨q10, q11, q12, q40, q41, q42, q43, q44, q45, q46, q47, rfl, hJ'⟩)
  · intro d f w hI hall
    obtain ⟨r10, r11, r12, r40, r41, r42, r43, r44, r45, r46, r47, rfl, hJ⟩ := hI
    exact he d w r10 r11 r12 r40 r41 r42 r43 r44 r45 r46 r47 hJ hall

structure LtJ (W0 : World) (M : Img) (r : Rp) (C : Int) (m : Img) (AA AQ : Value) (d : Nat → Bool) (w : World) (s16 s17 s18 s109 s110 s111 s112 s113 s114 s115 s116 s117 : Value) (a : Im4) (ts : List Value) (no : Option Addr) (nc x y : Nat) (b : Im4) (us : List Value) : Prop where
  bw : Below W0.heap.size W0 w
  f0 : d 0 = true → s110 = AA
  f2 : d 2 = true → s112 = AQ
  f3 : d 3 = true → s113 = AQ
  f5 : d 5 = true → s109 = .tuple #[imV a M, rpV r no nc, .int .i64 C]
  f6 : d 6 = true → s115 = imV a M
  f7 : d 7 = true → s116 = rpV r no nc
  f8 : d 8 = true → s117 = .int .i64 C
  f13 : d 13 = true → s18 = .int .i64 C
  tv : d 1 = true → s111 = imV b m
  tw : d 1 = true → OwnIm w W0.heap.size b m us
  c : d 4 = true → s114 = .tuple #[imV a M, rpV r no nc, .int .i64 C]
  o : d 4 = true → OwnIm w W0.heap.size a M ts
  n : d 4 = true → OwnNs w W0.heap.size no nc r.ns
  px : d 9 = true → s16 = .pointer (some ⟨x, 0, none⟩)
  x0 : d 9 = true → W0.heap.size ≤ x
  zx : d 9 = true → d 11 = false → ZrM w x
  vx : d 11 = true → FlM w x a M
  py : d 10 = true → s17 = .pointer (some ⟨y, 0, none⟩)
  y0 : d 10 = true → W0.heap.size ≤ y
  zy : d 10 = true → d 12 = false → ZrY w y
  vy : d 12 = true → FlY w y r no nc

theorem LtJ.s0 {W0 : World} {M : Img} {r : Rp} {C : Int} {m : Img} {AA AQ : Value} {d : Nat → Bool} {w : World} {s16 s17 s18 s109 s110 s111 s112 s113 s114 s115 s116 s117 v : Value} {a : Im4} {ts : List Value} {no : Option Addr} {nc x y : Nat} {b : Im4} {us : List Value} (I : LtJ W0 M r C m AA AQ d w s16 s17 s18 s109 s110 s111 s112 s113 s114 s115 s116 s117 a ts no nc x y b us) (hd : d 0 = false) (hv : v = AA) : LtJ W0 M r C m AA AQ (updD d 0) w s16 s17 s18 s109 v s111 s112 s113 s114 s115 s116 s117 a ts no nc x y b us where
  bw := I.bw
  f0 := fun _ => hv
  f2 := fun h => (I.f2 (upd_ne (by decide) h))
  f3 := fun h => (I.f3 (upd_ne (by decide) h))
  f5 := fun h => (I.f5 (upd_ne (by decide) h))
  f6 := fun h => (I.f6 (upd_ne (by decide) h))
  f7 := fun h => (I.f7 (upd_ne (by decide) h))
  f8 := fun h => (I.f8 (upd_ne (by decide) h))
  f13 := fun h => (I.f13 (upd_ne (by decide) h))
  tv := fun h => (I.tv (upd_ne (by decide) h))
  tw := fun h => (I.tw (upd_ne (by decide) h))
  c := fun h => (I.c (upd_ne (by decide) h))
  o := fun h => (I.o (upd_ne (by decide) h))
  n := fun h => (I.n (upd_ne (by decide) h))
  px := fun h => (I.px (upd_ne (by decide) h))
  x0 := fun h => (I.x0 (upd_ne (by decide) h))
  zx := fun h h2 => (I.zx (upd_ne (by decide) h) (upd_nf h2))
  vx := fun h => (I.vx (upd_ne (by decide) h))
  py := fun h => (I.py (upd_ne (by decide) h))
  y0 := fun h => (I.y0 (upd_ne (by decide) h))
  zy := fun h h2 => (I.zy (upd_ne (by decide) h) (upd_nf h2))
  vy := fun h => (I.vy (upd_ne (by decide) h))

theorem LtJ.s1 {W0 : World} {M : Img} {r : Rp} {C : Int} {m : Img} {AA AQ : Value} {d : Nat → Bool} {w w2 : World} {s16 s17 s18 s109 s110 s111 s112 s113 s114 s115 s116 s117 v : Value} {a : Im4} {ts : List Value} {no : Option Addr} {nc x y : Nat} {b : Im4} {us : List Value} (I : LtJ W0 M r C m AA AQ d w s16 s17 s18 s109 s110 s111 s112 s113 s114 s115 s116 s117 a ts no nc x y b us) (hd : d 1 = false) (hb : Below w.heap.size w w2) {b1 : Im4} {us1 : List Value} (hv : v = imV b1 m) (ho : OwnIm w2 w.heap.size b1 m us1) (n1 : d 4 = false) : LtJ W0 M r C m AA AQ (updD d 1) w2 s16 s17 s18 s109 s110 v s112 s113 s114 s115 s116 s117 a ts no nc x y b1 us1 where
  bw := fr I.bw hb
  f0 := fun h => (I.f0 (upd_ne (by decide) h))
  f2 := fun h => (I.f2 (upd_ne (by decide) h))
  f3 := fun h => (I.f3 (upd_ne (by decide) h))
  f5 := fun h => (I.f5 (upd_ne (by decide) h))
  f6 := fun h => (I.f6 (upd_ne (by decide) h))
  f7 := fun h => (I.f7 (upd_ne (by decide) h))
  f8 := fun h => (I.f8 (upd_ne (by decide) h))
  f13 := fun h => (I.f13 (upd_ne (by decide) h))
  tv := fun _ => hv
  tw := fun _ => ho.base I.bw.size
  c := fun h => (I.c (upd_ne (by decide) h))
  o := fun h => (I.o (upd_ne (by decide) h)).below hb
  n := fun h => (I.n (upd_ne (by decide) h)).below hb
  px := fun h => (I.px (upd_ne (by decide) h))
  x0 := fun h => (I.x0 (upd_ne (by decide) h))
  zx := fun h h2 => (I.zx (upd_ne (by decide) h) (upd_nf h2)).below hb
  vx := fun h => (I.vx (upd_ne (by decide) h)).below hb
  py := fun h => (I.py (upd_ne (by decide) h))
  y0 := fun h => (I.y0 (upd_ne (by decide) h))
  zy := fun h h2 => (I.zy (upd_ne (by decide) h) (upd_nf h2)).below hb
  vy := fun h => (I.vy (upd_ne (by decide) h)).below hb

theorem LtJ.s2 {W0 : World} {M : Img} {r : Rp} {C : Int} {m : Img} {AA AQ : Value} {d : Nat → Bool} {w : World} {s16 s17 s18 s109 s110 s111 s112 s113 s114 s115 s116 s117 v : Value} {a : Im4} {ts : List Value} {no : Option Addr} {nc x y : Nat} {b : Im4} {us : List Value} (I : LtJ W0 M r C m AA AQ d w s16 s17 s18 s109 s110 s111 s112 s113 s114 s115 s116 s117 a ts no nc x y b us) (hd : d 2 = false) (hv : v = AQ) : LtJ W0 M r C m AA AQ (updD d 2) w s16 s17 s18 s109 s110 s111 v s113 s114 s115 s116 s117 a ts no nc x y b us where
  bw := I.bw
  f0 := fun h => (I.f0 (upd_ne (by decide) h))
  f2 := fun _ => hv
  f3 := fun h => (I.f3 (upd_ne (by decide) h))
  f5 := fun h => (I.f5 (upd_ne (by decide) h))
  f6 := fun h => (I.f6 (upd_ne (by decide) h))
  f7 := fun h => (I.f7 (upd_ne (by decide) h))
  f8 := fun h => (I.f8 (upd_ne (by decide) h))
  f13 := fun h => (I.f13 (upd_ne (by decide) h))
  tv := fun h => (I.tv (upd_ne (by decide) h))
  tw := fun h => (I.tw (upd_ne (by decide) h))
  c := fun h => (I.c (upd_ne (by decide) h))
  o := fun h => (I.o (upd_ne (by decide) h))
  n := fun h => (I.n (upd_ne (by decide) h))
  px := fun h => (I.px (upd_ne (by decide) h))
  x0 := fun h => (I.x0 (upd_ne (by decide) h))
  zx := fun h h2 => (I.zx (upd_ne (by decide) h) (upd_nf h2))
  vx := fun h => (I.vx (upd_ne (by decide) h))
  py := fun h => (I.py (upd_ne (by decide) h))
  y0 := fun h => (I.y0 (upd_ne (by decide) h))
  zy := fun h h2 => (I.zy (upd_ne (by decide) h) (upd_nf h2))
  vy := fun h => (I.vy (upd_ne (by decide) h))

theorem LtJ.s3 {W0 : World} {M : Img} {r : Rp} {C : Int} {m : Img} {AA AQ : Value} {d : Nat → Bool} {w : World} {s16 s17 s18 s109 s110 s111 s112 s113 s114 s115 s116 s117 v : Value} {a : Im4} {ts : List Value} {no : Option Addr} {nc x y : Nat} {b : Im4} {us : List Value} (I : LtJ W0 M r C m AA AQ d w s16 s17 s18 s109 s110 s111 s112 s113 s114 s115 s116 s117 a ts no nc x y b us) (hd : d 3 = false) (hv : v = AQ) : LtJ W0 M r C m AA AQ (updD d 3) w s16 s17 s18 s109 s110 s111 s112 v s114 s115 s116 s117 a ts no nc x y b us where
  bw := I.bw
  f0 := fun h => (I.f0 (upd_ne (by decide) h))
  f2 := fun h => (I.f2 (upd_ne (by decide) h))
  f3 := fun _ => hv
  f5 := fun h => (I.f5 (upd_ne (by decide) h))
  f6 := fun h => (I.f6 (upd_ne (by decide) h))
  f7 := fun h => (I.f7 (upd_ne (by decide) h))
  f8 := fun h => (I.f8 (upd_ne (by decide) h))
  f13 := fun h => (I.f13 (upd_ne (by decide) h))
  tv := fun h => (I.tv (upd_ne (by decide) h))
  tw := fun h => (I.tw (upd_ne (by decide) h))
  c := fun h => (I.c (upd_ne (by decide) h))
  o := fun h => (I.o (upd_ne (by decide) h))
  n := fun h => (I.n (upd_ne (by decide) h))
  px := fun h => (I.px (upd_ne (by decide) h))
  x0 := fun h => (I.x0 (upd_ne (by decide) h))
  zx := fun h h2 => (I.zx (upd_ne (by decide) h) (upd_nf h2))
  vx := fun h => (I.vx (upd_ne (by decide) h))
  py := fun h => (I.py (upd_ne (by decide) h))
  y0 := fun h => (I.y0 (upd_ne (by decide) h))
  zy := fun h h2 => (I.zy (upd_ne (by decide) h) (upd_nf h2))
  vy := fun h => (I.vy (upd_ne (by decide) h))

theorem LtJ.s4 {W0 : World} {M : Img} {r : Rp} {C : Int} {m : Img} {AA AQ : Value} {d : Nat → Bool} {w w2 : World} {s16 s17 s18 s109 s110 s111 s112 s113 s114 s115 s116 s117 v : Value} {a : Im4} {ts : List Value} {no : Option Addr} {nc x y : Nat} {b : Im4} {us : List Value} (I : LtJ W0 M r C m AA AQ d w s16 s17 s18 s109 s110 s111 s112 s113 s114 s115 s116 s117 a ts no nc x y b us) (hd : d 4 = false) (hb : Below w.heap.size w w2) {a1 : Im4} {ts1 : List Value} {no1 : Option Addr} {nc1 : Nat} (hv : v = .tuple #[imV a1 M, rpV r no1 nc1, .int .i64 C]) (ho : OwnIm w2 w.heap.size a1 M ts1) (hn : OwnNs w2 w.heap.size no1 nc1 r.ns) (n5 : d 5 = false) (n6 : d 6 = false) (n7 : d 7 = false) (n8 : d 8 = false) (n13 : d 13 = false) (n11 : d 11 = false) (n12 : d 12 = false) : LtJ W0 M r C m AA AQ (updD d 4) w2 s16 s17 s18 s109 s110 s111 s112 s113 v s115 s116 s117 a1 ts1 no1 nc1 x y b us where
  bw := fr I.bw hb
  f0 := fun h => (I.f0 (upd_ne (by decide) h))
  f2 := fun h => (I.f2 (upd_ne (by decide) h))
  f3 := fun h => (I.f3 (upd_ne (by decide) h))
  f5 := fun h => no_d (upd_ne (by decide) h) n5
  f6 := fun h => no_d (upd_ne (by decide) h) n6
  f7 := fun h => no_d (upd_ne (by decide) h) n7
  f8 := fun h => no_d (upd_ne (by decide) h) n8
  f13 := fun h => no_d (upd_ne (by decide) h) n13
  tv := fun h => (I.tv (upd_ne (by decide) h))
  tw := fun h => (I.tw (upd_ne (by decide) h)).below hb
  c := fun _ => hv
  o := fun _ => ho.base I.bw.size
  n := fun _ => OwnR.base hn I.bw.size
  px := fun h => (I.px (upd_ne (by decide) h))
  x0 := fun h => (I.x0 (upd_ne (by decide) h))
  zx := fun h h2 => (I.zx (upd_ne (by decide) h) (upd_nf h2)).below hb
  vx := fun h => no_d (upd_ne (by decide) h) n11
  py := fun h => (I.py (upd_ne (by decide) h))
  y0 := fun h => (I.y0 (upd_ne (by decide) h))
  zy := fun h h2 => (I.zy (upd_ne (by decide) h) (upd_nf h2)).below hb
  vy := fun h => no_d (upd_ne (by decide) h) n12

theorem LtJ.s5 {W0 : World} {M : Img} {r : Rp} {C : Int} {m : Img} {AA AQ : Value} {d : Nat → Bool} {w : World} {s16 s17 s18 s109 s110 s111 s112 s113 s114 s115 s116 s117 v : Value} {a : Im4} {ts : List Value} {no : Option Addr} {nc x y : Nat} {b : Im4} {us : List Value} (I : LtJ W0 M r C m AA AQ d w s16 s17 s18 s109 s110 s111 s112 s113 s114 s115 s116 s117 a ts no nc x y b us) (hd : d 5 = false) (hv : v = .tuple #[imV a M, rpV r no nc, .int .i64 C]) : LtJ W0 M r C m AA AQ (updD d 5) w s16 s17 s18 v s110 s111 s112 s113 s114 s115 s116 s117 a ts no nc x y b us where
  bw := I.bw
  f0 := fun h => (I.f0 (upd_ne (by decide) h))
  f2 := fun h => (I.f2 (upd_ne (by decide) h))
  f3 := fun h => (I.f3 (upd_ne (by decide) h))
  f5 := fun _ => hv
  f6 := fun h => (I.f6 (upd_ne (by decide) h))
  f7 := fun h => (I.f7 (upd_ne (by decide) h))
  f8 := fun h => (I.f8 (upd_ne (by decide) h))
  f13 := fun h => (I.f13 (upd_ne (by decide) h))
  tv := fun h => (I.tv (upd_ne (by decide) h))
  tw := fun h => (I.tw (upd_ne (by decide) h))
  c := fun h => (I.c (upd_ne (by decide) h))
  o := fun h => (I.o (upd_ne (by decide) h))
  n := fun h => (I.n (upd_ne (by decide) h))
  px := fun h => (I.px (upd_ne (by decide) h))
  x0 := fun h => (I.x0 (upd_ne (by decide) h))
  zx := fun h h2 => (I.zx (upd_ne (by decide) h) (upd_nf h2))
  vx := fun h => (I.vx (upd_ne (by decide) h))
  py := fun h => (I.py (upd_ne (by decide) h))
  y0 := fun h => (I.y0 (upd_ne (by decide) h))
  zy := fun h h2 => (I.zy (upd_ne (by decide) h) (upd_nf h2))
  vy := fun h => (I.vy (upd_ne (by decide) h))

theorem LtJ.s6 {W0 : World} {M : Img} {r : Rp} {C : Int} {m : Img} {AA AQ : Value} {d : Nat → Bool} {w : World} {s16 s17 s18 s109 s110 s111 s112 s113 s114 s115 s116 s117 v : Value} {a : Im4} {ts : List Value} {no : Option Addr} {nc x y : Nat} {b : Im4} {us : List Value} (I : LtJ W0 M r C m AA AQ d w s16 s17 s18 s109 s110 s111 s112 s113 s114 s115 s116 s117 a ts no nc x y b us) (hd : d 6 = false) (hv : v = imV a M) : LtJ W0 M r C m AA AQ (updD d 6) w s16 s17 s18 s109 s110 s111 s112 s113 s114 v s116 s117 a ts no nc x y b us where
  bw := I.bw
  f0 := fun h => (I.f0 (upd_ne (by decide) h))
  f2 := fun h => (I.f2 (upd_ne (by decide) h))
  f3 := fun h => (I.f3 (upd_ne (by decide) h))
  f5 := fun h => (I.f5 (upd_ne (by decide) h))
  f6 := fun _ => hv
  f7 := fun h => (I.f7 (upd_ne (by decide) h))
  f8 := fun h => (I.f8 (upd_ne (by decide) h))
  f13 := fun h => (I.f13 (upd_ne (by decide) h))
  tv := fun h => (I.tv (upd_ne (by decide) h))
  tw := fun h => (I.tw (upd_ne (by decide) h))
  c := fun h => (I.c (upd_ne (by decide) h))
  o := fun h => (I.o (upd_ne (by decide) h))
  n := fun h => (I.n (upd_ne (by decide) h))
  px := fun h => (I.px (upd_ne (by decide) h))
  x0 := fun h => (I.x0 (upd_ne (by decide) h))
  zx := fun h h2 => (I.zx (upd_ne (by decide) h) (upd_nf h2))
  vx := fun h => (I.vx (upd_ne (by decide) h))
  py := fun h => (I.py (upd_ne (by decide) h))
  y0 := fun h => (I.y0 (upd_ne (by decide) h))
  zy := fun h h2 => (I.zy (upd_ne (by decide) h) (upd_nf h2))
  vy := fun h => (I.vy (upd_ne (by decide) h))

theorem LtJ.s7 {W0 : World} {M : Img} {r : Rp} {C : Int} {m : Img} {AA AQ : Value} {d : Nat → Bool} {w : World} {s16 s17 s18 s109 s110 s111 s112 s113 s114 s115 s116 s117 v : Value} {a : Im4} {ts : List Value} {no : Option Addr} {nc x y : Nat} {b : Im4} {us : List Value} (I : LtJ W0 M r C m AA AQ d w s16 s17 s18 s109 s110 s111 s112 s113 s114 s115 s116 s117 a ts no nc x y b us) (hd : d 7 = false) (hv : v = rpV r no nc) : LtJ W0 M r C m AA AQ (updD d 7) w s16 s17 s18 s109 s110 s111 s112 s113 s114 s115 v s117 a ts no nc x y b us where
  bw := I.bw
  f0 := fun h => (I.f0 (upd_ne (by decide) h))
  f2 := fun h => (I.f2 (upd_ne (by decide) h))
  f3 := fun h => (I.f3 (upd_ne (by decide) h))
  f5 := fun h => (I.f5 (upd_ne (by decide) h))
  f6 := fun h => (I.f6 (upd_ne (by decide) h))
  f7 := fun _ => hv
  f8 := fun h => (I.f8 (upd_ne (by decide) h))
  f13 := fun h => (I.f13 (upd_ne (by decide) h))
  tv := fun h => (I.tv (upd_ne (by decide) h))
  tw := fun h => (I.tw (upd_ne (by decide) h))
  c := fun h => (I.c (upd_ne (by decide) h))
  o := fun h => (I.o (upd_ne (by decide) h))
  n := fun h => (I.n (upd_ne (by decide) h))
  px := fun h => (I.px (upd_ne (by decide) h))
  x0 := fun h => (I.x0 (upd_ne (by decide) h))
  zx := fun h h2 => (I.zx (upd_ne (by decide) h) (upd_nf h2))
  vx := fun h => (I.vx (upd_ne (by decide) h))
  py := fun h => (I.py (upd_ne (by decide) h))
  y0 := fun h => (I.y0 (upd_ne (by decide) h))
  zy := fun h h2 => (I.zy (upd_ne (by decide) h) (upd_nf h2))
  vy := fun h => (I.vy (upd_ne (by decide) h))

theorem LtJ.s8 {W0 : World} {M : Img} {r : Rp} {C : Int} {m : Img} {AA AQ : Value} {d : Nat → Bool} {w : World} {s16 s17 s18 s109 s110 s111 s112 s113 s114 s115 s116 s117 v : Value} {a : Im4} {ts : List Value} {no : Option Addr} {nc x y : Nat} {b : Im4} {us : List Value} (I : LtJ W0 M r C m AA AQ d w s16 s17 s18 s109 s110 s111 s112 s113 s114 s115 s116 s117 a ts no nc x y b us) (hd : d 8 = false) (hv : v = .int .i64 C) : LtJ W0 M r C m AA AQ (updD d 8) w s16 s17 s18 s109 s110 s111 s112 s113 s114 s115 s116 v a ts no nc x y b us where
  bw := I.bw
  f0 := fun h => (I.f0 (upd_ne (by decide) h))
  f2 := fun h => (I.f2 (upd_ne (by decide) h))
  f3 := fun h => (I.f3 (upd_ne (by decide) h))
  f5 := fun h => (I.f5 (upd_ne (by decide) h))
  f6 := fun h => (I.f6 (upd_ne (by decide) h))
  f7 := fun h => (I.f7 (upd_ne (by decide) h))
  f8 := fun _ => hv
  f13 := fun h => (I.f13 (upd_ne (by decide) h))
  tv := fun h => (I.tv (upd_ne (by decide) h))
  tw := fun h => (I.tw (upd_ne (by decide) h))
  c := fun h => (I.c (upd_ne (by decide) h))
  o := fun h => (I.o (upd_ne (by decide) h))
  n := fun h => (I.n (upd_ne (by decide) h))
  px := fun h => (I.px (upd_ne (by decide) h))
  x0 := fun h => (I.x0 (upd_ne (by decide) h))
  zx := fun h h2 => (I.zx (upd_ne (by decide) h) (upd_nf h2))
  vx := fun h => (I.vx (upd_ne (by decide) h))
  py := fun h => (I.py (upd_ne (by decide) h))
  y0 := fun h => (I.y0 (upd_ne (by decide) h))
  zy := fun h h2 => (I.zy (upd_ne (by decide) h) (upd_nf h2))
  vy := fun h => (I.vy (upd_ne (by decide) h))

theorem LtJ.s9 {W0 : World} {M : Img} {r : Rp} {C : Int} {m : Img} {AA AQ : Value} {d : Nat → Bool} {w w2 : World} {s16 s17 s18 s109 s110 s111 s112 s113 s114 s115 s116 s117 v : Value} {a : Im4} {ts : List Value} {no : Option Addr} {nc x y : Nat} {b : Im4} {us : List Value} (I : LtJ W0 M r C m AA AQ d w s16 s17 s18 s109 s110 s111 s112 s113 s114 s115 s116 s117 a ts no nc x y b us) (hd : d 9 = false) (hb : Below w.heap.size w w2) {x1 : Nat} (hv : v = .pointer (some ⟨x1, 0, none⟩)) (h0 : w.heap.size ≤ x1) (hz : ZrM w2 x1) (n1 : d 11 = false) : LtJ W0 M r C m AA AQ (updD d 9) w2 v s17 s18 s109 s110 s111 s112 s113 s114 s115 s116 s117 a ts no nc x1 y b us where
  bw := fr I.bw hb
  f0 := fun h => (I.f0 (upd_ne (by decide) h))
  f2 := fun h => (I.f2 (upd_ne (by decide) h))
  f3 := fun h => (I.f3 (upd_ne (by decide) h))
  f5 := fun h => (I.f5 (upd_ne (by decide) h))
  f6 := fun h => (I.f6 (upd_ne (by decide) h))
  f7 := fun h => (I.f7 (upd_ne (by decide) h))
  f8 := fun h => (I.f8 (upd_ne (by decide) h))
  f13 := fun h => (I.f13 (upd_ne (by decide) h))
  tv := fun h => (I.tv (upd_ne (by decide) h))
  tw := fun h => (I.tw (upd_ne (by decide) h)).below hb
  c := fun h => (I.c (upd_ne (by decide) h))
  o := fun h => (I.o (upd_ne (by decide) h)).below hb
  n := fun h => (I.n (upd_ne (by decide) h)).below hb
  px := fun _ => hv
  x0 := fun _ => Nat.le_trans I.bw.size h0
  zx := fun _ _ => hz
  vx := fun h => no_d (upd_ne (by decide) h) n1
  py := fun h => (I.py (upd_ne (by decide) h))
  y0 := fun h => (I.y0 (upd_ne (by decide) h))
  zy := fun h h2 => (I.zy (upd_ne (by decide) h) (upd_nf h2)).below hb
  vy := fun h => (I.vy (upd_ne (by decide) h)).below hb

theorem LtJ.s10 {W0 : World} {M : Img} {r : Rp} {C : Int} {m : Img} {AA AQ : Value} {d : Nat → Bool} {w w2 : World} {s16 s17 s18 s109 s110 s111 s112 s113 s114 s115 s116 s117 v : Value} {a : Im4} {ts : List Value} {no : Option Addr} {nc x y : Nat} {b : Im4} {us : List Value} (I : LtJ W0 M r C m AA AQ d w s16 s17 s18 s109 s110 s111 s112 s113 s114 s115 s116 s117 a ts no nc x y b us) (hd : d 10 = false) (hb : Below w.heap.size w w2) {y1 : Nat} (hv : v = .pointer (some ⟨y1, 0, none⟩)) (h0 : w.heap.size ≤ y1) (hz : ZrY w2 y1) (n1 : d 12 = false) : LtJ W0 M r C m AA AQ (updD d 10) w2 s16 v s18 s109 s110 s111 s112 s113 s114 s115 s116 s117 a ts no nc x y1 b us where
  bw := fr I.bw hb
  f0 := fun h => (I.f0 (upd_ne (by decide) h))
  f2 := fun h => (I.f2 (upd_ne (by decide) h))
  f3 := fun h => (I.f3 (upd_ne (by decide) h))
  f5 := fun h => (I.f5 (upd_ne (by decide) h))
  f6 := fun h => (I.f6 (upd_ne (by decide) h))
  f7 := fun h => (I.f7 (upd_ne (by decide) h))
  f8 := fun h => (I.f8 (upd_ne (by decide) h))
  f13 := fun h => (I.f13 (upd_ne (by decide) h))
  tv := fun h => (I.tv (upd_ne (by decide) h))
  tw := fun h => (I.tw (upd_ne (by decide) h)).below hb
  c := fun h => (I.c (upd_ne (by decide) h))
  o := fun h => (I.o (upd_ne (by decide) h)).below hb
  n := fun h => (I.n (upd_ne (by decide) h)).below hb
  px := fun h => (I.px (upd_ne (by decide) h))
  x0 := fun h => (I.x0 (upd_ne (by decide) h))
  zx := fun h h2 => (I.zx (upd_ne (by decide) h) (upd_nf h2)).below hb
  vx := fun h => (I.vx (upd_ne (by decide) h)).below hb
  py := fun _ => hv
  y0 := fun _ => Nat.le_trans I.bw.size h0
  zy := fun _ _ => hz
  vy := fun h => no_d (upd_ne (by decide) h) n1

theorem LtJ.s11 {W0 : World} {M : Img} {r : Rp} {C : Int} {m : Img} {AA AQ : Value} {d : Nat → Bool} {w : World} {s16 s17 s18 s109 s110 s111 s112 s113 s114 s115 s116 s117 : Value} {a : Im4} {ts : List Value} {no : Option Addr} {nc x y : Nat} {b : Im4} {us : List Value} (I : LtJ W0 M r C m AA AQ d w s16 s17 s18 s109 s110 s111 s112 s113 s114 s115 s116 s117 a ts no nc x y b us) (hd : d 11 = false) (p1 : d 9 = true) (n1 : d 12 = false) (p2 : d 10 = true) : LtJ W0 M r C m AA AQ (updD d 11) (putI w x a M) s16 s17 s18 s109 s110 s111 s112 s113 s114 s115 s116 s117 a ts no nc x y b us where
  bw := below_putI I.bw (I.x0 p1) a M I.bw.size
  f0 := fun h => (I.f0 (upd_ne (by decide) h))
  f2 := fun h => (I.f2 (upd_ne (by decide) h))
  f3 := fun h => (I.f3 (upd_ne (by decide) h))
  f5 := fun h => (I.f5 (upd_ne (by decide) h))
  f6 := fun h => (I.f6 (upd_ne (by decide) h))
  f7 := fun h => (I.f7 (upd_ne (by decide) h))
  f8 := fun h => (I.f8 (upd_ne (by decide) h))
  f13 := fun h => (I.f13 (upd_ne (by decide) h))
  tv := fun h => (I.tv (upd_ne (by decide) h))
  tw := fun h => (I.tw (upd_ne (by decide) h)).putI (I.zx p1 hd)
  c := fun h => (I.c (upd_ne (by decide) h))
  o := fun h => (I.o (upd_ne (by decide) h)).putI (I.zx p1 hd)
  n := fun h => OwnNs.putI (I.n (upd_ne (by decide) h)) (I.zx p1 hd)
  px := fun h => (I.px (upd_ne (by decide) h))
  x0 := fun h => (I.x0 (upd_ne (by decide) h))
  zx := fun _ h2 => no_d upd_at h2
  vx := fun _ => FlM.of (I.zx p1 hd) a M
  py := fun h => (I.py (upd_ne (by decide) h))
  y0 := fun h => (I.y0 (upd_ne (by decide) h))
  zy := fun h h2 => (I.zy (upd_ne (by decide) h) (upd_nf h2)).keepX (putI_keep w x a M) (fun e => apartMY (I.zx p1 hd) (I.zy p2 n1) e.symm)
  vy := fun h => no_d (upd_ne (by decide) h) n1

theorem LtJ.s12 {W0 : World} {M : Img} {r : Rp} {C : Int} {m : Img} {AA AQ : Value} {d : Nat → Bool} {w : World} {s16 s17 s18 s109 s110 s111 s112 s113 s114 s115 s116 s117 : Value} {a : Im4} {ts : List Value} {no : Option Addr} {nc x y : Nat} {b : Im4} {us : List Value} (I : LtJ W0 M r C m AA AQ d w s16 s17 s18 s109 s110 s111 s112 s113 s114 s115 s116 s117 a ts no nc x y b us) (hd : d 12 = false) (p1 : d 10 = true) (p2 : d 11 = true) : LtJ W0 M r C m AA AQ (updD d 12) (putR w y r no nc) s16 s17 s18 s109 s110 s111 s112 s113 s114 s115 s116 s117 a ts no nc x y b us where
  bw := below_putR I.bw (I.y0 p1) r no nc I.bw.size
  f0 := fun h => (I.f0 (upd_ne (by decide) h))
  f2 := fun h => (I.f2 (upd_ne (by decide) h))
  f3 := fun h => (I.f3 (upd_ne (by decide) h))
  f5 := fun h => (I.f5 (upd_ne (by decide) h))
  f6 := fun h => (I.f6 (upd_ne (by decide) h))
  f7 := fun h => (I.f7 (upd_ne (by decide) h))
  f8 := fun h => (I.f8 (upd_ne (by decide) h))
  f13 := fun h => (I.f13 (upd_ne (by decide) h))
  tv := fun h => (I.tv (upd_ne (by decide) h))
  tw := fun h => (I.tw (upd_ne (by decide) h)).putRp (I.zy p1 hd) r no nc
  c := fun h => (I.c (upd_ne (by decide) h))
  o := fun h => (I.o (upd_ne (by decide) h)).putRp (I.zy p1 hd) r no nc
  n := fun h => OwnNs.putR (I.n (upd_ne (by decide) h)) (I.zy p1 hd) r no nc
  px := fun h => (I.px (upd_ne (by decide) h))
  x0 := fun h => (I.x0 (upd_ne (by decide) h))
  zx := fun h h2 => no_d p2 (upd_nf h2)
  vx := fun h => (I.vx (upd_ne (by decide) h)).keepX (putR_keep w y r no nc) (apartMY (I.vx (upd_ne (by decide) h)) (I.zy p1 hd))
  py := fun h => (I.py (upd_ne (by decide) h))
  y0 := fun h => (I.y0 (upd_ne (by decide) h))
  zy := fun _ h2 => no_d upd_at h2
  vy := fun _ => FlY.of (I.zy p1 hd) r no nc

theorem LtJ.s13 {W0 : World} {M : Img} {r : Rp} {C : Int} {m : Img} {AA AQ : Value} {d : Nat → Bool} {w : World} {s16 s17 s18 s109 s110 s111 s112 s113 s114 s115 s116 s117 v : Value} {a : Im4} {ts : List Value} {no : Option Addr} {nc x y : Nat} {b : Im4} {us : List Value} (I : LtJ W0 M r C m AA AQ d w s16 s17 s18 s109 s110 s111 s112 s113 s114 s115 s116 s117 a ts no nc x y b us) (hd : d 13 = false) (hv : v = .int .i64 C) : LtJ W0 M r C m AA AQ (updD d 13) w s16 s17 v s109 s110 s111 s112 s113 s114 s115 s116 s117 a ts no nc x y b us where
  bw := I.bw
  f0 := fun h => (I.f0 (upd_ne (by decide) h))
  f2 := fun h => (I.f2 (upd_ne (by decide) h))
  f3 := fun h => (I.f3 (upd_ne (by decide) h))
  f5 := fun h => (I.f5 (upd_ne (by decide) h))
  f6 := fun h => (I.f6 (upd_ne (by decide) h))
  f7 := fun h => (I.f7 (upd_ne (by decide) h))
  f8 := fun h => (I.f8 (upd_ne (by decide) h))
  f13 := fun _ => hv
  tv := fun h => (I.tv (upd_ne (by decide) h))
  tw := fun h => (I.tw (upd_ne (by decide) h))
  c := fun h => (I.c (upd_ne (by decide) h))
  o := fun h => (I.o (upd_ne (by decide) h))
  n := fun h => (I.n (upd_ne (by decide) h))
  px := fun h => (I.px (upd_ne (by decide) h))
  x0 := fun h => (I.x0 (upd_ne (by decide) h))
  zx := fun h h2 => (I.zx (upd_ne (by decide) h) (upd_nf h2))
  vx := fun h => (I.vx (upd_ne (by decide) h))
  py := fun h => (I.py (upd_ne (by decide) h))
  y0 := fun h => (I.y0 (upd_ne (by decide) h))
  zy := fun h h2 => (I.zy (upd_ne (by decide) h) (upd_nf h2))
  vy := fun h => (I.vy (upd_ne (by decide) h))

theorem LtJ.start {W0 : World} {M : Img} {r : Rp} {C : Int} {m : Img} {AA AQ : Value} {w : World} {s16 s17 s18 s109 s110 s111 s112 s113 s114 s115 s116 s117 : Value} {a : Im4} {ts : List Value} {no : Option Addr} {nc x y : Nat} {b : Im4} {us : List Value} (hb : Below W0.heap.size W0 w) : LtJ W0 M r C m AA AQ (fun _ => false) w s16 s17 s18 s109 s110 s111 s112 s113 s114 s115 s116 s117 a ts no nc x y b us where
  bw := hb
  f0 := fun h => (by cases h)
  f2 := fun h => (by cases h)
  f3 := fun h => (by cases h)
  f5 := fun h => (by cases h)
  f6 := fun h => (by cases h)
  f7 := fun h => (by cases h)
  f8 := fun h => (by cases h)
  f13 := fun h => (by cases h)
  tv := fun h => (by cases h)
  tw := fun h => (by cases h)
  c := fun h => (by cases h)
  o := fun h => (by cases h)
  n := fun h => (by cases h)
  px := fun h => (by cases h)
  x0 := fun h => (by cases h)
  zx := fun h _ => (by cases h)
  vx := fun h => (by cases h)
  py := fun h => (by cases h)
  y0 := fun h => (by cases h)
  zy := fun h _ => (by cases h)
  vy := fun h => (by cases h)

theorem LtJ.grow {W0 : World} {M : Img} {r : Rp} {C : Int} {m : Img} {AA AQ : Value} {d : Nat → Bool} {w w2 : World} {s16 s17 s18 s109 s110 s111 s112 s113 s114 s115 s116 s117 : Value} {a : Im4} {ts : List Value} {no : Option Addr} {nc x y : Nat} {b : Im4} {us : List Value} (I : LtJ W0 M r C m AA AQ d w s16 s17 s18 s109 s110 s111 s112 s113 s114 s115 s116 s117 a ts no nc x y b us) (hb : Below w.heap.size w w2) : LtJ W0 M r C m AA AQ d w2 s16 s17 s18 s109 s110 s111 s112 s113 s114 s115 s116 s117 a ts no nc x y b us where
  bw := fr I.bw hb
  f0 := I.f0
  f2 := I.f2
  f3 := I.f3
  f5 := I.f5
  f6 := I.f6
  f7 := I.f7
  f8 := I.f8
  f13 := I.f13
  tv := I.tv
  tw := fun h => (I.tw h).below hb
  c := I.c
  o := fun h => (I.o h).below hb
  n := fun h => (I.n h).below hb
  px := I.px
  x0 := I.x0
  zx := fun h h2 => (I.zx h h2).below hb
  vx := fun h => (I.vx h).below hb
  py := I.py
  y0 := I.y0
  zy := fun h h2 => (I.zy h h2).below hb
  vy := fun h => (I.vy h).below hb

abbrev ltF (t0 t1 t2 t3 t4 t5 t6 t7 t8 t9 t10 t11 t12 t13 t14 t15 s16 s17 s18 t19 t20 t21 t22 t23 t24 t25 t26 t27 t28 t29 t30 t31 t32 t33 t34 t35 t36 t37 t38 t39 t40 t41 t42 t43 t44 t45 t46 t47 t48 t49 t50 t51 t52 t53 t54 t55 t56 t57 t58 t59 t60 t61 t62 t63 t64 t65 t66 t67 t68 t69 t70 t71 t72 t73 t74 t75 t76 t77 t78 t79 t80 t81 t82 t83 t84 t85 t86 t87 t88 t89 t90 t91 t92 t93 t94 t95 t96 t97 t98 t99 t100 t101 t102 t103 t104 t105 t106 t107 t108 s109 s110 s111 s112 s113 s114 s115 s116 s117 t118 t119 t120 t121 t122 t123 t124 t125 t126 t127 t128 t129 t130 t131 t132 t133 t134 t135 t136 t137 t138 t139 t140 t141 t142 t143 t144 t145 : Value) : Act := ⟨#[t0, t1, t2, t3, t4, t5, t6, t7, t8, t9, t10, t11, t12, t13, t14, t15, s16, s17, s18, t19, t20, t21, t22, t23, t24, t25, t26, t27, t28, t29, t30, t31, t32, t33, t34, t35, t36, t37, t38, t39, t40, t41, t42, t43, t44, t45, t46, t47, t48, t49, t50, t51, t52, t53, t54, t55, t56, t57, t58, t59, t60, t61, t62, t63, t64, t65, t66, t67, t68, t69, t70, t71, t72, t73, t74, t75, t76, t77, t78, t79, t80, t81, t82, t83, t84, t85, t86, t87, t88, t89, t90, t91, t92, t93, t94, t95, t96, t97, t98, t99, t100, t101, t102, t103, t104, t105, t106, t107, t108, s109, s110, s111, s112, s113, s114, s115, s116, s117, t118, t119, t120, t121, t122, t123, t124, t125, t126, t127, t128, t129, t130, t131, t132, t133, t134, t135, t136, t137, t138, t139, t140, t141, t142, t143, t144, t145], []⟩
theorem ltF_region {P : Program} {id : Nat} {Q : Exit → Act → World → Prop} {l : List Oper} {t0 t1 t2 t3 t4 t5 t6 t7 t8 t9 t10 t11 t12 t13 t14 t15 s16 s17 s18 t19 t20 t21 t22 t23 t24 t25 t26 t27 t28 t29 t30 t31 t32 t33 t34 t35 t36 t37 t38 t39 t40 t41 t42 t43 t44 t45 t46 t47 t48 t49 t50 t51 t52 t53 t54 t55 t56 t57 t58 t59 t60 t61 t62 t63 t64 t65 t66 t67 t68 t69 t70 t71 t72 t73 t74 t75 t76 t77 t78 t79 t80 t81 t82 t83 t84 t85 t86 t87 t88 t89 t90 t91 t92 t93 t94 t95 t96 t97 t98 t99 t100 t101 t102 t103 t104 t105 t106 t107 t108 s109 s110 s111 s112 s113 s114 s115 s116 s117 t118 t119 t120 t121 t122 t123 t124 t125 t126 t127 t128 t129 t130 t131 t132 t133 t134 t135 t136 t137 t138 t139 t140 t141 t142 t143 t144 t145 : Value} {W : World} (J : (Nat → Bool) → World → Value → Value → Value → Value → Value → Value → Value → Value → Value → Value → Value → Value → Prop) (hm : P.follows .mixedOrders = true) (hl : linC l = true)
    (hg : ∀ (i : Nat) (o : Oper), l[i]? = some o → o.guard = none) (h0 : J (fun _ => false) { W with drawn := W.drawn + 1 } s16 s17 s18 s109 s110 s111 s112 s113 s114 s115 s116 s117)
    (hs : ∀ (d : Nat → Bool) (w : World) (i : Nat) (o : Oper) (r16 r17 r18 r109 r110 r111 r112 r113 r114 r115 r116 r117 : Value), Closed l d → J d w r16 r17 r18 r109 r110 r111 r112 r113 r114 r115 r116 r117 → l[i]? = some o → d i = false → (∀ e ∈ o.after, Region.binds .any e = true → d e.on = true) → ∀ K : Act → World → Prop, (∀ (w' : World) (q16 q17 q18 q109 q110 q111 q112 q113 q114 q115 q116 q117 : Value), J (updD d i) w' q16 q17 q18 q109 q110 q111 q112 q113 q114 q115 q116 q117 → K (ltF t0 t1 t2 t3 t4 t5 t6 t7 t8 t9 t10 t11 t12 t13 t14 t15 q16 q17 q18 t19 t20 t21 t22 t23 t24 t25 t26 t27 t28 t29 t30 t31 t32 t33 t34 t35 t36 t37 t38 t39 t40 t41 t42 t43 t44 t45 t46 t47 t48 t49 t50 t51 t52 t53 t54 t55 t56 t57 t58 t59 t60 t61 t62 t63 t64 t65 t66 t67 t68 t69 t70 t71 t72 t73 t74 t75 t76 t77 t78 t79 t80 t81 t82 t83 t84 t85 t86 t87 t88 t89 t90 t91 t92 t93 t94 t95 t96 t97 t98 t99 t100 t101 t102 t103 t104 t105 t106 t107 t108 q109 q110 q111 q112 q113 q114 q115 q116 q117 t118 t119 t120 t121 t122 t123 t124 t125 t126 t127 t128 t129 t130 t131 t132 t133 t134 t135 t136 t137 t138 t139 t140 t141 t142 t143 t144 t145) w') → o.wp P (ltF t0 t1 t2 t3 t4 t5 t6 t7 t8 t9 t10 t11 t12 t13 t14 t15 r16 r17 r18 t19 t20 t21 t22 t23 t24 t25 t26 t27 t28 t29 t30 t31 t32 t33 t34 t35 t36 t37 t38 t39 t40 t41 t42 t43 t44 t45 t46 t47 t48 t49 t50 t51 t52 t53 t54 t55 t56 t57 t58 t59 t60 t61 t62 t63 t64 t65 t66 t67 t68 t69 t70 t71 t72 t73 t74 t75 t76 t77 t78 t79 t80 t81 t82 t83 t84 t85 t86 t87 t88 t89 t90 t91 t92 t93 t94 t95 t96 t97 t98 t99 t100 t101 t102 t103 t104 t105 t106 t107 t108 r109 r110 r111 r112 r113 r114 r115 r116 r117 t118 t119 t120 t121 t122 t123 t124 t125 t126 t127 t128 t129 t130 t131 t132 t133 t134 t135 t136 t137 t138 t139 t140 t141 t142 t143 t144 t145) w K Q)
    (he : ∀ (d : Nat → Bool) (w : World) (r16 r17 r18 r109 r110 r111 r112 r113 r114 r115 r116 r117 : Value), J d w r16 r17 r18 r109 r110 r111 r112 r113 r114 r115 r116 r117 → (∀ i, i < l.length → d i = true) → Q .normal (ltF t0 t1 t2 t3 t4 t5 t6 t7 t8 t9 t10 t11 t12 t13 t14 t15 r16 r17 r18 t19 t20 t21 t22 t23 t24 t25 t26 t27 t28 t29 t30 t31 t32 t33 t34 t35 t36 t37 t38 t39 t40 t41 t42 t43 t44 t45 t46 t47 t48 t49 t50 t51 t52 t53 t54 t55 t56 t57 t58 t59 t60 t61 t62 t63 t64 t65 t66 t67 t68 t69 t70 t71 t72 t73 t74 t75 t76 t77 t78 t79 t80 t81 t82 t83 t84 t85 t86 t87 t88 t89 t90 t91 t92 t93 t94 t95 t96 t97 t98 t99 t100 t101 t102 t103 t104 t105 t106 t107 t108 r109 r110 r111 r112 r113 r114 r115 r116 r117 t118 t119 t120 t121 t122 t123 t124 t125 t126 t127 t128 t129 t130 t131 t132 t133 t134 t135 t136 t137 t138 t139 t140 t141 t142 t143 t144 t145) w) : (Code.region id l.toArray true).wp P Q (ltF t0 t1 t2 t3 t4 t5 t6 t7 t8 t9 t10 t11 t12 t13 t14 t15 s16 s17 s18 t19 t20 t21 t22 t23 t24 t25 t26 t27 t28 t29 t30 t31 t32 t33 t34 t35 t36 t37 t38 t39 t40 t41 t42 t43 t44 t45 t46 t47 t48 t49 t50 t51 t52 t53 t54 t55 t56 t57 t58 t59 t60 t61 t62 t63 t64 t65 t66 t67 t68 t69 t70 t71 t72 t73 t74 t75 t76 t77 t78 t79 t80 t81 t82 t83 t84 t85 t86 t87 t88 t89 t90 t91 t92 t93 t94 t95 t96 t97 t98 t99 t100 t101 t102 t103 t104 t105 t106 t107 t108 s109 s110 s111 s112 s113 s114 s115 s116 s117 t118 t119 t120 t121 t122 t123 t124 t125 t126 t127 t128 t129 t130 t131 t132 t133 t134 t135 t136 t137 t138 t139 t140 t141 t142 t143 t144 t145) W := by
  refine wp_region_inv4 (fun d f w => ∃ r16 r17 r18 r109 r110 r111 r112 r113 r114 r115 r116 r117, f = ltF t0 t1 t2 t3 t4 t5 t6 t7 t8 t9 t10 t11 t12 t13 t14 t15 r16 r17 r18 t19 t20 t21 t22 t23 t24 t25 t26 t27 t28 t29 t30 t31 t32 t33 t34 t35 t36 t37 t38 t39 t40 t41 t42 t43 t44 t45 t46 t47 t48 t49 t50 t51 t52 t53 t54 t55 t56 t57 t58 t59 t60 t61 t62 t63 t64 t65 t66 t67 t68 t69 t70 t71 t72 t73 t74 t75 t76 t77 t78 t79 t80 t81 t82 t83 t84 t85 t86 t87 t88 t89 t90 t91 t92 t93 t94 t95 t96 t97 t98 t99 t100 t101 t102 t103 t104 t105 t106 t107 t108 r109 r110 r111 r112 r113 r114 r115 r116 r117 t118 t119 t120 t121 t122 t123 t124 t125 t126 t127 t128 t129 t130 t131 t132 t133 t134 t135 t136 t137 t138 t139 t140 t141 t142 t143 t144 t145 ∧ J d w r16 r17 r18 r109 r110 r111 r112 r113 r114 r115 r116 r117) hm hl hg ⟨s16, s17, s18, s109, s110, s111, s112, s113, s114, s115, s116, s117, rfl, h0⟩ ?_ ?_
  · intro d f w i o hc hI ho hd hp K hK
    obtain ⟨r16, r17, r18, r109, r110, r111, r112, r113, r114, r115, r116, r117, rfl, hJ⟩ := hI
    exact hs d w i o r16 r17 r18 r109 r110 r111 r112 r113 r114 r115 r116 r117 hc hJ ho hd hp K (fun w' q16 q17 q18 q109 q110 q111 q112 q113 q114 q115 q116 q117 hJ' => hK _ _ ⟨q16, q17, q18, q109, q110, q111, q112, q113, q114, q115, q116, q117, rfl, hJ'⟩)
  · intro d f w hI hall
    obtain ⟨r16, r17, r18, r109, r110, r111, r112, r113, r114, r115, r116, r117, rfl, hJ⟩ := hI
    exact he d w r16 r17 r18 r109 r110 r111 r112 r113 r114 r115 r116 r117 hJ hall

structure LuJ (Wq : World) (AX AA : Value) (m : Img) (d : Nat → Bool) (w : World) (s63 s64 s65 s66 s67 : Value) : Prop where
  bw : Below Wq.heap.size Wq w
  p2 : d 2 = true → ∃ a1 ts, s65 = imV a1 m ∧ OwnIm w Wq.heap.size a1 m ts
  f0 : d 0 = true → s63 = AX
  f1 : d 1 = true → s64 = AA
  f3 : d 3 = true → s66 = .bool true
  f4 : d 4 = true → s67 = .bool false

theorem LuJ.s0 {Wq : World} {AX AA : Value} {m : Img} {d : Nat → Bool} {w : World} {s63 s64 s65 s66 s67 v : Value} (I : LuJ Wq AX AA m d w s63 s64 s65 s66 s67) (hd : d 0 = false) (hv : v = AX) : LuJ Wq AX AA m (updD d 0) w v s64 s65 s66 s67 where
  bw := I.bw
  p2 := fun h => I.p2 (upd_ne (by decide) h)
  f0 := fun _ => hv
  f1 := fun h => I.f1 (upd_ne (by decide) h)
  f3 := fun h => I.f3 (upd_ne (by decide) h)
  f4 := fun h => I.f4 (upd_ne (by decide) h)

theorem LuJ.s1 {Wq : World} {AX AA : Value} {m : Img} {d : Nat → Bool} {w : World} {s63 s64 s65 s66 s67 v : Value} (I : LuJ Wq AX AA m d w s63 s64 s65 s66 s67) (hd : d 1 = false) (hv : v = AA) : LuJ Wq AX AA m (updD d 1) w s63 v s65 s66 s67 where
  bw := I.bw
  p2 := fun h => I.p2 (upd_ne (by decide) h)
  f0 := fun h => I.f0 (upd_ne (by decide) h)
  f1 := fun _ => hv
  f3 := fun h => I.f3 (upd_ne (by decide) h)
  f4 := fun h => I.f4 (upd_ne (by decide) h)

theorem LuJ.s2 {Wq : World} {AX AA : Value} {m : Img} {d : Nat → Bool} {w w2 : World} {s63 s64 s65 s66 s67 v : Value} (I : LuJ Wq AX AA m d w s63 s64 s65 s66 s67) (hd : d 2 = false) (hb : Below w.heap.size w w2) {a1 : Im4} {ts : List Value} (hv : v = imV a1 m) (ho : OwnIm w2 Wq.heap.size a1 m ts) : LuJ Wq AX AA m (updD d 2) w2 s63 s64 v s66 s67 where
  bw := fr I.bw hb
  p2 := fun _ => ⟨a1, ts, hv, ho⟩
  f0 := fun h => I.f0 (upd_ne (by decide) h)
  f1 := fun h => I.f1 (upd_ne (by decide) h)
  f3 := fun h => I.f3 (upd_ne (by decide) h)
  f4 := fun h => I.f4 (upd_ne (by decide) h)

theorem LuJ.s3 {Wq : World} {AX AA : Value} {m : Img} {d : Nat → Bool} {w : World} {s63 s64 s65 s66 s67 v : Value} (I : LuJ Wq AX AA m d w s63 s64 s65 s66 s67) (hd : d 3 = false) (hv : v = .bool true) : LuJ Wq AX AA m (updD d 3) w s63 s64 s65 v s67 where
  bw := I.bw
  p2 := fun h => I.p2 (upd_ne (by decide) h)
  f0 := fun h => I.f0 (upd_ne (by decide) h)
  f1 := fun h => I.f1 (upd_ne (by decide) h)
  f3 := fun _ => hv
  f4 := fun h => I.f4 (upd_ne (by decide) h)

theorem LuJ.s4 {Wq : World} {AX AA : Value} {m : Img} {d : Nat → Bool} {w : World} {s63 s64 s65 s66 s67 v : Value} (I : LuJ Wq AX AA m d w s63 s64 s65 s66 s67) (hd : d 4 = false) (hv : v = .bool false) : LuJ Wq AX AA m (updD d 4) w s63 s64 s65 s66 v where
  bw := I.bw
  p2 := fun h => I.p2 (upd_ne (by decide) h)
  f0 := fun h => I.f0 (upd_ne (by decide) h)
  f1 := fun h => I.f1 (upd_ne (by decide) h)
  f3 := fun h => I.f3 (upd_ne (by decide) h)
  f4 := fun _ => hv

theorem LuJ.grow {Wq : World} {AX AA : Value} {m : Img} {d : Nat → Bool} {w w2 : World} {s63 s64 s65 s66 s67 : Value} (I : LuJ Wq AX AA m d w s63 s64 s65 s66 s67) (hb : Below w.heap.size w w2) : LuJ Wq AX AA m d w2 s63 s64 s65 s66 s67 := ⟨fr I.bw hb, fun h => (I.p2 h).imp fun a1 h1 => h1.imp fun ts h2 => ⟨h2.1, h2.2.below hb⟩, I.f0, I.f1, I.f3, I.f4⟩

abbrev luF (t0 t1 t2 t3 t4 t5 t6 t7 t8 t9 t10 t11 t12 t13 t14 t15 t16 t17 t18 t19 t20 t21 t22 t23 t24 t25 t26 t27 t28 t29 t30 t31 t32 t33 t34 t35 t36 t37 t38 t39 t40 t41 t42 t43 t44 t45 t46 t47 t48 t49 t50 t51 t52 t53 t54 t55 t56 t57 t58 t59 t60 t61 t62 s63 s64 s65 s66 s67 t68 t69 t70 t71 t72 t73 t74 t75 t76 t77 t78 t79 t80 t81 t82 t83 t84 t85 t86 t87 t88 t89 t90 t91 t92 t93 t94 t95 t96 t97 t98 t99 t100 t101 t102 t103 t104 t105 t106 t107 t108 t109 t110 t111 t112 t113 t114 t115 t116 t117 t118 t119 t120 t121 t122 t123 t124 t125 t126 t127 t128 t129 t130 t131 t132 t133 t134 t135 t136 t137 t138 t139 t140 t141 t142 t143 t144 t145 : Value) : Act := ⟨#[t0, t1, t2, t3, t4, t5, t6, t7, t8, t9, t10, t11, t12, t13, t14, t15, t16, t17, t18, t19, t20, t21, t22, t23, t24, t25, t26, t27, t28, t29, t30, t31, t32, t33, t34, t35, t36, t37, t38, t39, t40, t41, t42, t43, t44, t45, t46, t47, t48, t49, t50, t51, t52, t53, t54, t55, t56, t57, t58, t59, t60, t61, t62, s63, s64, s65, s66, s67, t68, t69, t70, t71, t72, t73, t74, t75, t76, t77, t78, t79, t80, t81, t82, t83, t84, t85, t86, t87, t88, t89, t90, t91, t92, t93, t94, t95, t96, t97, t98, t99, t100, t101, t102, t103, t104, t105, t106, t107, t108, t109, t110, t111, t112, t113, t114, t115, t116, t117, t118, t119, t120, t121, t122, t123, t124, t125, t126, t127, t128, t129, t130, t131, t132, t133, t134, t135, t136, t137, t138, t139, t140, t141, t142, t143, t144, t145], []⟩
theorem luF_region {P : Program} {id : Nat} {Q : Exit → Act → World → Prop} {l : List Oper} {t0 t1 t2 t3 t4 t5 t6 t7 t8 t9 t10 t11 t12 t13 t14 t15 t16 t17 t18 t19 t20 t21 t22 t23 t24 t25 t26 t27 t28 t29 t30 t31 t32 t33 t34 t35 t36 t37 t38 t39 t40 t41 t42 t43 t44 t45 t46 t47 t48 t49 t50 t51 t52 t53 t54 t55 t56 t57 t58 t59 t60 t61 t62 s63 s64 s65 s66 s67 t68 t69 t70 t71 t72 t73 t74 t75 t76 t77 t78 t79 t80 t81 t82 t83 t84 t85 t86 t87 t88 t89 t90 t91 t92 t93 t94 t95 t96 t97 t98 t99 t100 t101 t102 t103 t104 t105 t106 t107 t108 t109 t110 t111 t112 t113 t114 t115 t116 t117 t118 t119 t120 t121 t122 t123 t124 t125 t126 t127 t128 t129 t130 t131 t132 t133 t134 t135 t136 t137 t138 t139 t140 t141 t142 t143 t144 t145 : Value} {W : World} (J : (Nat → Bool) → World → Value → Value → Value → Value → Value → Prop) (hm : P.follows .mixedOrders = true) (hl : linC l = true)
    (hg : ∀ (i : Nat) (o : Oper), l[i]? = some o → o.guard = none) (h0 : J (fun _ => false) { W with drawn := W.drawn + 1 } s63 s64 s65 s66 s67)
    (hs : ∀ (d : Nat → Bool) (w : World) (i : Nat) (o : Oper) (r63 r64 r65 r66 r67 : Value), Closed l d → J d w r63 r64 r65 r66 r67 → l[i]? = some o → d i = false → (∀ e ∈ o.after, Region.binds .any e = true → d e.on = true) → ∀ K : Act → World → Prop, (∀ (w' : World) (q63 q64 q65 q66 q67 : Value), J (updD d i) w' q63 q64 q65 q66 q67 → K (luF t0 t1 t2 t3 t4 t5 t6 t7 t8 t9 t10 t11 t12 t13 t14 t15 t16 t17 t18 t19 t20 t21 t22 t23 t24 t25 t26 t27 t28 t29 t30 t31 t32 t33 t34 t35 t36 t37 t38 t39 t40 t41 t42 t43 t44 t45 t46 t47 t48 t49 t50 t51 t52 t53 t54 t55 t56 t57 t58 t59 t60 t61 t62 q63 q64 q65 q66 q67 t68 t69 t70 t71 t72 t73 t74 t75 t76 t77 t78 t79 t80 t81 t82 t83 t84 t85 t86 t87 t88 t89 t90 t91 t92 t93 t94 t95 t96 t97 t98 t99 t100 t101 t102 t103 t104 t105 t106 t107 t108 t109 t110 t111 t112 t113 t114 t115 t116 t117 t118 t119 t120 t121 t122 t123 t124 t125 t126 t127 t128 t129 t130 t131 t132 t133 t134 t135 t136 t137 t138 t139 t140 t141 t142 t143 t144 t145) w') → o.wp P (luF t0 t1 t2 t3 t4 t5 t6 t7 t8 t9 t10 t11 t12 t13 t14 t15 t16 t17 t18 t19 t20 t21 t22 t23 t24 t25 t26 t27 t28 t29 t30 t31 t32 t33 t34 t35 t36 t37 t38 t39 t40 t41 t42 t43 t44 t45 t46 t47 t48 t49 t50 t51 t52 t53 t54 t55 t56 t57 t58 t59 t60 t61 t62 r63 r64 r65 r66 r67 t68 t69 t70 t71 t72 t73 t74 t75 t76 t77 t78 t79 t80 t81 t82 t83 t84 t85 t86 t87 t88 t89 t90 t91 t92 t93 t94 t95 t96 t97 t98 t99 t100 t101 t102 t103 t104 t105 t106 t107 t108 t109 t110 t111 t112 t113 t114 t115 t116 t117 t118 t119 t120 t121 t122 t123 t124 t125 t126 t127 t128 t129 t130 t131 t132 t133 t134 t135 t136 t137 t138 t139 t140 t141 t142 t143 t144 t145) w K Q)
    (he : ∀ (d : Nat → Bool) (w : World) (r63 r64 r65 r66 r67 : Value), J d w r63 r64 r65 r66 r67 → (∀ i, i < l.length → d i = true) → Q .normal (luF t0 t1 t2 t3 t4 t5 t6 t7 t8 t9 t10 t11 t12 t13 t14 t15 t16 t17 t18 t19 t20 t21 t22 t23 t24 t25 t26 t27 t28 t29 t30 t31 t32 t33 t34 t35 t36 t37 t38 t39 t40 t41 t42 t43 t44 t45 t46 t47 t48 t49 t50 t51 t52 t53 t54 t55 t56 t57 t58 t59 t60 t61 t62 r63 r64 r65 r66 r67 t68 t69 t70 t71 t72 t73 t74 t75 t76 t77 t78 t79 t80 t81 t82 t83 t84 t85 t86 t87 t88 t89 t90 t91 t92 t93 t94 t95 t96 t97 t98 t99 t100 t101 t102 t103 t104 t105 t106 t107 t108 t109 t110 t111 t112 t113 t114 t115 t116 t117 t118 t119 t120 t121 t122 t123 t124 t125 t126 t127 t128 t129 t130 t131 t132 t133 t134 t135 t136 t137 t138 t139 t140 t141 t142 t143 t144 t145) w) : (Code.region id l.toArray true).wp P Q (luF t0 t1 t2 t3 t4 t5 t6 t7 t8 t9 t10 t11 t12 t13 t14 t15 t16 t17 t18 t19 t20 t21 t22 t23 t24 t25 t26 t27 t28 t29 t30 t31 t32 t33 t34 t35 t36 t37 t38 t39 t40 t41 t42 t43 t44 t45 t46 t47 t48 t49 t50 t51 t52 t53 t54 t55 t56 t57 t58 t59 t60 t61 t62 s63 s64 s65 s66 s67 t68 t69 t70 t71 t72 t73 t74 t75 t76 t77 t78 t79 t80 t81 t82 t83 t84 t85 t86 t87 t88 t89 t90 t91 t92 t93 t94 t95 t96 t97 t98 t99 t100 t101 t102 t103 t104 t105 t106 t107 t108 t109 t110 t111 t112 t113 t114 t115 t116 t117 t118 t119 t120 t121 t122 t123 t124 t125 t126 t127 t128 t129 t130 t131 t132 t133 t134 t135 t136 t137 t138 t139 t140 t141 t142 t143 t144 t145) W := by
  refine wp_region_inv4 (fun d f w => ∃ r63 r64 r65 r66 r67, f = luF t0 t1 t2 t3 t4 t5 t6 t7 t8 t9 t10 t11 t12 t13 t14 t15 t16 t17 t18 t19 t20 t21 t22 t23 t24 t25 t26 t27 t28 t29 t30 t31 t32 t33 t34 t35 t36 t37 t38 t39 t40 t41 t42 t43 t44 t45 t46 t47 t48 t49 t50 t51 t52 t53 t54 t55 t56 t57 t58 t59 t60 t61 t62 r63 r64 r65 r66 r67 t68 t69 t70 t71 t72 t73 t74 t75 t76 t77 t78 t79 t80 t81 t82 t83 t84 t85 t86 t87 t88 t89 t90 t91 t92 t93 t94 t95 t96 t97 t98 t99 t100 t101 t102 t103 t104 t105 t106 t107 t108 t109 t110 t111 t112 t113 t114 t115 t116 t117 t118 t119 t120 t121 t122 t123 t124 t125 t126 t127 t128 t129 t130 t131 t132 t133 t134 t135 t136 t137 t138 t139 t140 t141 t142 t143 t144 t145 ∧ J d w r63 r64 r65 r66 r67) hm hl hg ⟨s63, s64, s65, s66, s67, rfl, h0⟩ ?_ ?_
  · intro d f w i o hc hI ho hd hp K hK
    obtain ⟨r63, r64, r65, r66, r67, rfl, hJ⟩ := hI
    exact hs d w i o r63 r64 r65 r66 r67 hc hJ ho hd hp K (fun w' q63 q64 q65 q66 q67 hJ' => hK _ _ ⟨q63, q64, q65, q66, q67, rfl, hJ'⟩)
  · intro d f w hI hall
    obtain ⟨r63, r64, r65, r66, r67, rfl, hJ⟩ := hI
    exact he d w r63 r64 r65 r66 r67 hJ hall

set_option maxHeartbeats 12800000 in
theorem lawReqDo (a : Im4) (m : Img) (q : Rq) (M : Img) (r : Rp) (C : Int) (w : World) (hL : ImL m) (hzq : q.n.size ≤ maxLen) (hc : ImS w a m)
    (hz : ∀ s ∈ m.snaps, s.name.size ≤ maxLen ∧ s.table.length ≤ maxLen)
    (hR : imSz m ≤ 1048576 → ImBd M) (hn : r.ns.length ≤ 1000 ∧ ∀ s ∈ r.ns, s.size ≤ maxLen) (hK0 : imK M ≤ 1000000)
    (hspec : ∀ (b : Im4) (W : World), ImS W b m → Calls Tryz.prog 18 #[imV b m, qV q] W fun e w' => AnsQ W w' e (M, r, C))
    (himpl : ∀ (b : Im4) (W : World), ImS W b m → Calls Tryz.prog 20 #[imV b m, qV q] W fun e w' => AnsQ W w' e (M, r, C)) :
    Calls Tryz.prog 5 #[imV a m, qV q] w fun e w' => e = .returned (.bool true) ∧ Below w.heap.size w w' := by
  have HA := hide (Joins.below_alloc2 w (.cells #[.slice a.ro m.refs.length a.rc, .slice a.tq m.table.length a.tc, .slice a.so m.snaps.length a.sc, .slice a.dq m.data.length a.dc] 25) (.cells #[.int .i64 q.k, .int .i64 q.g, .int .i64 q.v, .string q.n] 42))
  have HV0 := hide ((VarM.new w 25 (.slice a.ro m.refs.length a.rc) (.slice a.tq m.table.length a.tc) (.slice a.so m.snaps.length a.sc) (.slice a.dq m.data.length a.dc)).below (Joins.below_alloc1 _ (.cells #[.int .i64 q.k, .int .i64 q.g, .int .i64 q.v, .string q.n] 42)))
  have HQ0 := hide ((VarM.new (w.alloc (.cells #[.slice a.ro m.refs.length a.rc, .slice a.tq m.table.length a.tc, .slice a.so m.snaps.length a.sc, .slice a.dq m.data.length a.dc] 25)) 42 (.int .i64 q.k) (.int .i64 q.g) (.int .i64 q.v) (.string q.n)).at (y := w.heap.size + 1) (by rw [World.size_alloc]))
  have HC0 := hide (hc.below (unhide HA))
  have HL := hide hL
  have HZ := hide hz
  have HRB := hide hR
  have HSP := hide hspec
  have HIM := hide himpl
  have HZT := hide hn.2
  have hn1 := hn.1
  clear hc hL hz hR hspec himpl hn
  go_enter Tryz.func5, Tryz.ntmps5
  go_upto_region 2 with fail
  revert HC0
  revert HQ0
  revert HV0
  revert HA
  generalize ((w.alloc _).alloc _) = W0
  intro HA HV0 HQ0 HC0
  obtain ⟨c0, c1, c2, c3⟩ := (unhide HV0).cells
  go_wp2_with fail
  refine (szImage_any a m 1048576 _ (unhide HL).r (unhide HL).t (unhide HL).s (unhide HL).d (by omega) (by omega) (unhide HC0)).mono ?_
  rintro e w1 ⟨z1, rfl, hr0, hr1, hr2, hb⟩
  have HB1 := hide hb
  clear hb c0 c1 c2 c3
  by_cases hneg : z1 < 0
  · go_wp2
    go_ret
    exact ⟨rfl, (unhide HA).trans ((unhide HB1).mono (unhide HA).size)⟩
  have HSZ : Hid (imSz m ≤ 1048576) := hide (by have := hr2 (by omega); omega)
  have HBD := hide (ImBd.of (unhide HSZ))
  have HRD := hide (unhide HRB (unhide HSZ))
  clear hr2 HRB
  obtain ⟨c0, c1, c2, c3⟩ := ((unhide HQ0).below (unhide HB1)).cells
  go_wp2_with fail
  refine (szReq_any q z1 _ hzq (by omega) (by omega)).mono ?_
  rintro e w2 ⟨z2, rfl, hs0, hs1, hs2, hb⟩
  have HB2 := hide (fr (unhide HB1) hb)
  clear hb c0 c1 c2 c3 HB1 hs2
  by_cases hneg2 : z2 < 0
  · go_wp2
    go_ret
    exact ⟨rfl, (unhide HA).trans ((unhide HB2).mono (unhide HA).size)⟩
  clear hr0 hr1 hs0 hs1
  go_upto_region 8 with fail
  refine lrF_region (fun d wz r6 r7 r8 r29 r30 r31 r32 r33 r34 r35 r36 r37 => ∃ a1 ts no nc x y b us, LrJ w2 M r C m (imV a m) (qV q) d wz r6 r7 r8 r29 r30 r31 r32 r33 r34 r35 r36 r37 a1 ts no nc x y b us) (by kernel_rfl) (by kernel_rfl) (noG_spec (by kernel_rfl)) ?h0 ?hs ?he
  case h0 => exact ⟨a, [], none, 0, 0, 0, a, [], LrJ.start (Below.refl _ _).drew⟩
  case hs =>
    intro d wz i o r6 r7 r8 r29 r30 r31 r32 r33 r34 r35 r36 r37 hc hJ ho hd hp K hK
    obtain ⟨a1, ts, no, nc, x, y, b, us, I⟩ := hJ
    have hi : i < 14 := (List.getElem?_eq_some_iff.1 ho).1
    rcases (show i = 0 ∨ i = 1 ∨ i = 2 ∨ i = 3 ∨ i = 4 ∨ i = 5 ∨ i = 6 ∨ i = 7 ∨ i = 8 ∨ i = 9 ∨ i = 10 ∨ i = 11 ∨ i = 12 ∨ i = 13 by omega) with rfl | rfl | rfl | rfl | rfl | rfl | rfl | rfl | rfl | rfl | rfl | rfl | rfl | rfl
    · cases ho
      obtain ⟨k0, k1, k2, k3⟩ := ((unhide HV0).below (fr (unhide HB2) I.bw)).cells
      unfold Oper.wp
      go_simp
      exact hK _ _ _ _ _ _ _ _ _ _ _ _ _ ⟨_, _, _, _, _, _, _, _, I.s0 hd rfl⟩
    · cases ho
      have e1 := I.f0 (hp ⟨0, .data⟩ (by simp) rfl)
      subst e1
      unfold Oper.wp
      go_simp
      refine (toImage_B a m _ (unhide HBD) ((unhide HC0).below (fr (unhide HB2) I.bw))).mono ?_
      rintro e w9 ⟨b9, us9, rfl, ho9, hb⟩
      exact hK _ _ _ _ _ _ _ _ _ _ _ _ _ ⟨_, _, _, _, _, _, _, _, I.s1 hd hb rfl ho9 (not_yet hc 12 (by kernel_rfl) hd)⟩
    · cases ho
      obtain ⟨k0, k1, k2, k3⟩ := ((unhide HQ0).below (fr (unhide HB2) I.bw)).cells
      unfold Oper.wp
      go_simp
      exact hK _ _ _ _ _ _ _ _ _ _ _ _ _ ⟨_, _, _, _, _, _, _, _, I.s2 hd rfl⟩
    · cases ho
      have e1 := I.f2 (hp ⟨2, .data⟩ (by simp) rfl)
      subst e1
      unfold Oper.wp
      go_simp
      refine (toReq_any q _).mono ?_
      rintro e w9 ⟨rfl, hb⟩
      exact hK _ _ _ _ _ _ _ _ _ _ _ _ _ ⟨_, _, _, _, _, _, _, _, (I.grow hb).s3 hd rfl⟩
    · cases ho
      have e1 := I.tv (hp ⟨1, .data⟩ (by simp) rfl)
      have o1 := I.tw (hp ⟨1, .data⟩ (by simp) rfl)
      have e3 := I.f3 (hp ⟨3, .data⟩ (by simp) rfl)
      subst e1 e3
      unfold Oper.wp
      go_simp
      refine (unhide HSP _ _ (o1.shows (unhide HZ))).mono ?_
      rintro e w9 ⟨a9, ts9, no9, nc9, rfl, ho9, hn9, hb⟩
      exact hK _ _ _ _ _ _ _ _ _ _ _ _ _ ⟨_, _, _, _, _, _, _, _, I.s4 hd hb rfl ho9 hn9 (not_yet hc 12 (by kernel_rfl) hd) (not_yet hc 12 (by kernel_rfl) hd) (not_yet hc 12 (by kernel_rfl) hd) (not_yet hc 12 (by kernel_rfl) hd) (not_yet hc 12 (by kernel_rfl) hd) (not_yet hc 12 (by kernel_rfl) hd) (not_yet hc 12 (by kernel_rfl) hd)⟩
    · cases ho
      have e1 := I.c (hp ⟨4, .data⟩ (by simp) rfl)
      subst e1
      unfold Oper.wp
      go_simp
      exact hK _ _ _ _ _ _ _ _ _ _ _ _ _ ⟨_, _, _, _, _, _, _, _, I.s5 hd rfl⟩
    · cases ho
      have e1 := I.f5 (hp ⟨5, .data⟩ (by simp) rfl)
      subst e1
      unfold Oper.wp
      go_simp
      exact hK _ _ _ _ _ _ _ _ _ _ _ _ _ ⟨_, _, _, _, _, _, _, _, I.s6 hd rfl⟩
    · cases ho
      have e1 := I.f5 (hp ⟨5, .data⟩ (by simp) rfl)
      subst e1
      unfold Oper.wp
      go_simp
      exact hK _ _ _ _ _ _ _ _ _ _ _ _ _ ⟨_, _, _, _, _, _, _, _, I.s7 hd rfl⟩
    · cases ho
      have e1 := I.f5 (hp ⟨5, .data⟩ (by simp) rfl)
      subst e1
      unfold Oper.wp
      go_simp
      exact hK _ _ _ _ _ _ _ _ _ _ _ _ _ ⟨_, _, _, _, _, _, _, _, I.s8 hd rfl⟩
    · cases ho
      unfold Oper.wp
      go_simp
      exact hK _ _ _ _ _ _ _ _ _ _ _ _ _ ⟨_, _, _, _, _, _, _, _, I.s9 hd (Joins.below_alloc1 _ _) rfl (Nat.le_refl _) (VarM.new _ _ _ _ _ _) (not_yet hc 12 (by kernel_rfl) hd)⟩
    · cases ho
      unfold Oper.wp
      go_simp
      exact hK _ _ _ _ _ _ _ _ _ _ _ _ _ ⟨_, _, _, _, _, _, _, _, I.s10 hd (Joins.below_alloc1 _ _) rfl (Nat.le_refl _) (VarY.new _ _ _ _) (not_yet hc 12 (by kernel_rfl) hd)⟩
    · cases ho
      have p7 := hp ⟨9, .data⟩ (by simp) rfl
      have p8 : d 10 = true := hp ⟨10, .phase⟩ (by simp) rfl
      have e7 := I.px p7
      have e5 := I.f6 (hp ⟨6, .data⟩ (by simp) rfl)
      subst e7 e5
      obtain ⟨k0, k1, k2, k3⟩ := (I.zx p7 hd).cells
      obtain ⟨l0, l1, l2, l3⟩ := (I.zx p7 hd).free
      unfold Oper.wp
      go_simp
      exact hK _ _ _ _ _ _ _ _ _ _ _ _ _ ⟨_, _, _, _, _, _, _, _, I.s11 hd p7 (not_yet hc 12 (by kernel_rfl) hd) p8⟩
    · cases ho
      have p8 := hp ⟨10, .data⟩ (by simp) rfl
      have p9 : d 11 = true := hp ⟨11, .chain⟩ (by simp) rfl
      have e8 := I.py p8
      have e6 := I.f7 (hp ⟨7, .data⟩ (by simp) rfl)
      subst e8 e6
      obtain ⟨k0, k1, k2⟩ := (I.zy p8 hd).cells
      obtain ⟨l0, l1, l2⟩ := (I.zy p8 hd).free
      unfold Oper.wp
      go_simp
      exact hK _ _ _ _ _ _ _ _ _ _ _ _ _ ⟨_, _, _, _, _, _, _, _, I.s12 hd p8 p9⟩
    · cases ho
      have e1 := I.f8 (hp ⟨8, .data⟩ (by simp) rfl)
      subst e1
      unfold Oper.wp
      go_simp
      exact hK _ _ _ _ _ _ _ _ _ _ _ _ _ ⟨_, _, _, _, _, _, _, _, I.s13 hd rfl⟩
  case he =>
    intro d w9 r6 r7 r8 r29 r30 r31 r32 r33 r34 r35 r36 r37 hJ hall
    obtain ⟨aW, tsW, noW, ncW, xW, yW, bW, usW, I⟩ := hJ
    have e7 := I.px (hall 9 (by decide))
    have e8 := I.py (hall 10 (by decide))
    have e9 := I.f13 (hall 13 (by decide))
    subst e7 e8 e9
    have hx0 := I.x0 (hall 9 (by decide))
    have hy0 := I.y0 (hall 10 (by decide))
    have HO9 := hide (I.o (hall 4 (by decide)))
    have HN9 := hide (I.n (hall 4 (by decide)))
    have HVX := hide (I.vx (hall 11 (by decide)))
    have HVY := hide (I.vy (hall 12 (by decide)))
    have HBW := hide I.bw
    clear I hall
    have HB := hide (fr (unhide HB2) (unhide HBW))
    have HWv := hide (LvP.mk (unhide HVX) (unhide HVY))
    have HWo := hide (LoP.mk (unhide HO9) (unhide HN9) (unhide HBW).size)
    have HNW : Hid (W0.heap.size ≤ w2.heap.size) := hide (unhide HB2).size
    clear HO9 HN9 HVX HVY HBW hx0 hy0 HB2
    obtain ⟨c0, c1, c2, c3⟩ := ((unhide HV0).below (unhide HB)).cells
    go_wp2_with fail
    refine (toImage_B a m _ (unhide HBD) ((unhide HC0).below (unhide HB))).mono ?_
    rintro e w10 ⟨aX, tsX, rfl, hoX, hb9⟩
    have hb := fr hb9 (Joins.below_alloc1 w10 (.cells #[.slice aX.ro m.refs.length aX.rc, .slice aX.tq m.table.length aX.tc, .slice aX.so m.snaps.length aX.sc, .slice aX.dq m.data.length aX.dc] 32))
    have HX := hide (LwV.new w10 aX m hoX hb9.size)
    have HWX : Hid (∀ g, ImB aW M tsW g → g < w9.heap.size) := hide (fun g hg => ((unhide HWo).o.ge g hg).2)
    have HWN : Hid (∀ g, Own (.slice noW r.ns.length ncW) g → g < w9.heap.size) := hide (fun g hg => (OwnR.ge (unhide HWo).s g hg).2)
    have HNX : Hid (W0.heap.size ≤ w9.heap.size) := hide (unhide HB).size
    replace HB := hide (fr (unhide HB) hb)
    replace HWv := hide ((unhide HWv).below hb)
    replace HWo := hide ((unhide HWo).below hb)
    clear hb
    clear hoX hb9 c0 c1 c2 c3
    go_upto_region 10 with fail
    revert HWo
    revert HWv
    revert HX
    revert HB
    generalize (w10.alloc _) = w11
    generalize w10.heap.size = pX
    intro HB HX HWv HWo
    refine lsF_region (fun d wz r10 r11 r12 r40 r41 r42 r43 r44 r45 r46 r47 => ∃ a1 ts no nc x y, LsJ w11 M r C (imV aX m) (qV q) d wz r10 r11 r12 r40 r41 r42 r43 r44 r45 r46 r47 a1 ts no nc x y) (by kernel_rfl) (by kernel_rfl) (noG_spec (by kernel_rfl)) ?h0 ?hs ?he
    case h0 => exact ⟨a, [], none, 0, 0, 0, LsJ.start (Below.refl _ _).drew⟩
    case hs =>
      intro d wz i o r10 r11 r12 r40 r41 r42 r43 r44 r45 r46 r47 hc hJ ho hd hp K hK
      obtain ⟨a1, ts, no, nc, x, y, I⟩ := hJ
      have hi : i < 13 := (List.getElem?_eq_some_iff.1 ho).1
      rcases (show i = 0 ∨ i = 1 ∨ i = 2 ∨ i = 3 ∨ i = 4 ∨ i = 5 ∨ i = 6 ∨ i = 7 ∨ i = 8 ∨ i = 9 ∨ i = 10 ∨ i = 11 ∨ i = 12 by omega) with rfl | rfl | rfl | rfl | rfl | rfl | rfl | rfl | rfl | rfl | rfl | rfl | rfl
      · cases ho
        obtain ⟨k0, k1, k2, k3⟩ := ((unhide HX).v.below I.bw).cells
        unfold Oper.wp
        go_simp
        exact hK _ _ _ _ _ _ _ _ _ _ _ _ ⟨_, _, _, _, _, _, I.s0 hd rfl⟩
      · cases ho
        obtain ⟨k0, k1, k2, k3⟩ := ((unhide HQ0).below (fr (unhide HB) I.bw)).cells
        unfold Oper.wp
        go_simp
        exact hK _ _ _ _ _ _ _ _ _ _ _ _ ⟨_, _, _, _, _, _, I.s1 hd rfl⟩
      · cases ho
        have e1 := I.f1 (hp ⟨1, .data⟩ (by simp) rfl)
        subst e1
        unfold Oper.wp
        go_simp
        refine (toReq_any q _).mono ?_
        rintro e w9 ⟨rfl, hb⟩
        exact hK _ _ _ _ _ _ _ _ _ _ _ _ ⟨_, _, _, _, _, _, (I.grow hb).s2 hd rfl⟩
      · cases ho
        have e0 := I.f0 (hp ⟨0, .data⟩ (by simp) rfl)
        have e2 := I.f2 (hp ⟨2, .data⟩ (by simp) rfl)
        subst e0 e2
        unfold Oper.wp
        go_simp
        refine (unhide HIM _ _ (((unhide HX).below I.bw).o.shows (unhide HZ))).mono ?_
        rintro e w9 ⟨a9, ts9, no9, nc9, rfl, ho9, hn9, hb⟩
        exact hK _ _ _ _ _ _ _ _ _ _ _ _ ⟨_, _, _, _, _, _, I.s3 hd hb rfl ho9 hn9 (not_yet hc 12 (by kernel_rfl) hd) (not_yet hc 12 (by kernel_rfl) hd) (not_yet hc 12 (by kernel_rfl) hd) (not_yet hc 12 (by kernel_rfl) hd) (not_yet hc 12 (by kernel_rfl) hd) (not_yet hc 12 (by kernel_rfl) hd) (not_yet hc 12 (by kernel_rfl) hd)⟩
      · cases ho
        have e1 := I.c (hp ⟨3, .data⟩ (by simp) rfl)
        subst e1
        unfold Oper.wp
        go_simp
        exact hK _ _ _ _ _ _ _ _ _ _ _ _ ⟨_, _, _, _, _, _, I.s4 hd rfl⟩
      · cases ho
        have e1 := I.f4 (hp ⟨4, .data⟩ (by simp) rfl)
        subst e1
        unfold Oper.wp
        go_simp
        exact hK _ _ _ _ _ _ _ _ _ _ _ _ ⟨_, _, _, _, _, _, I.s5 hd rfl⟩
      · cases ho
        have e1 := I.f4 (hp ⟨4, .data⟩ (by simp) rfl)
        subst e1
        unfold Oper.wp
        go_simp
        exact hK _ _ _ _ _ _ _ _ _ _ _ _ ⟨_, _, _, _, _, _, I.s6 hd rfl⟩
      · cases ho
        have e1 := I.f4 (hp ⟨4, .data⟩ (by simp) rfl)
        subst e1
        unfold Oper.wp
        go_simp
        exact hK _ _ _ _ _ _ _ _ _ _ _ _ ⟨_, _, _, _, _, _, I.s7 hd rfl⟩
      · cases ho
        unfold Oper.wp
        go_simp
        exact hK _ _ _ _ _ _ _ _ _ _ _ _ ⟨_, _, _, _, _, _, I.s8 hd (Joins.below_alloc1 _ _) rfl (Nat.le_refl _) (VarM.new _ _ _ _ _ _) (not_yet hc 12 (by kernel_rfl) hd)⟩
      · cases ho
        unfold Oper.wp
        go_simp
        exact hK _ _ _ _ _ _ _ _ _ _ _ _ ⟨_, _, _, _, _, _, I.s9 hd (Joins.below_alloc1 _ _) rfl (Nat.le_refl _) (VarY.new _ _ _ _) (not_yet hc 12 (by kernel_rfl) hd)⟩
      · cases ho
        have p7 := hp ⟨8, .data⟩ (by simp) rfl
        have p8 : d 9 = true := hp ⟨9, .phase⟩ (by simp) rfl
        have e7 := I.px p7
        have e5 := I.f5 (hp ⟨5, .data⟩ (by simp) rfl)
        subst e7 e5
        obtain ⟨k0, k1, k2, k3⟩ := (I.zx p7 hd).cells
        obtain ⟨l0, l1, l2, l3⟩ := (I.zx p7 hd).free
        unfold Oper.wp
        go_simp
        exact hK _ _ _ _ _ _ _ _ _ _ _ _ ⟨_, _, _, _, _, _, I.s10 hd p7 (not_yet hc 12 (by kernel_rfl) hd) p8⟩
      · cases ho
        have p8 := hp ⟨9, .data⟩ (by simp) rfl
        have p9 : d 10 = true := hp ⟨10, .chain⟩ (by simp) rfl
        have e8 := I.py p8
        have e6 := I.f6 (hp ⟨6, .data⟩ (by simp) rfl)
        subst e8 e6
        obtain ⟨k0, k1, k2⟩ := (I.zy p8 hd).cells
        obtain ⟨l0, l1, l2⟩ := (I.zy p8 hd).free
        unfold Oper.wp
        go_simp
        exact hK _ _ _ _ _ _ _ _ _ _ _ _ ⟨_, _, _, _, _, _, I.s11 hd p8 p9⟩
      · cases ho
        have e1 := I.f7 (hp ⟨7, .data⟩ (by simp) rfl)
        subst e1
        unfold Oper.wp
        go_simp
        exact hK _ _ _ _ _ _ _ _ _ _ _ _ ⟨_, _, _, _, _, _, I.s12 hd rfl⟩
    case he =>
      intro d w12 r10 r11 r12 r40 r41 r42 r43 r44 r45 r46 r47 hJ hall
      obtain ⟨aG, tsG, noG, ncG, xG, yG, I⟩ := hJ
      have e7 := I.px (hall 8 (by decide))
      have e8 := I.py (hall 9 (by decide))
      have e9 := I.f12 (hall 12 (by decide))
      subst e7 e8 e9
      have hx0 := I.x0 (hall 8 (by decide))
      have hy0 := I.y0 (hall 9 (by decide))
      have HO9 := hide (I.o (hall 3 (by decide)))
      have HN9 := hide (I.n (hall 3 (by decide)))
      have HVX := hide (I.vx (hall 10 (by decide)))
      have HVY := hide (I.vy (hall 11 (by decide)))
      have HBW := hide I.bw
      clear I hall
      have hb := unhide HBW
      have HGv := hide (LvP.mk (unhide HVX) (unhide HVY))
      have HGo := hide (LoP.mk (unhide HO9) (unhide HN9) hb.size)
      have HXG : Hid (∀ g, ImB aX m tsX g → g < w11.heap.size) := hide (fun g hg => ((unhide HX).o.ge g hg).2)
      have HNN : Hid (w9.heap.size ≤ w11.heap.size) := hide (unhide HX).n
      replace HB := hide (fr (unhide HB) hb)
      replace HWv := hide ((unhide HWv).below hb)
      replace HWo := hide ((unhide HWo).below hb)
      replace HX := hide ((unhide HX).below hb)
      clear hb
      clear HO9 HN9 HVX HVY HBW hx0 hy0
      have bcc : (C != C) = false := by simp
      obtain ⟨c0, c1, c2, c3⟩ := (unhide HGv).v.cells
      obtain ⟨d0, d1, d2, d3⟩ := (unhide HWv).v.cells
      go_wp2_with fail
      refine (eqImage_B aG aW M _ (unhide HRD) ((unhide HGo).o.shows (unhide HRD).zs) ((unhide HWo).o.shows (unhide HRD).zs)).mono ?_
      rintro e w13a ⟨rfl, hb⟩
      replace HB := hide (fr (unhide HB) hb)
      replace HWv := hide ((unhide HWv).below hb)
      replace HWo := hide ((unhide HWo).below hb)
      replace HX := hide ((unhide HX).below hb)
      replace HGv := hide ((unhide HGv).below hb)
      replace HGo := hide ((unhide HGo).below hb)
      clear hb
      clear c0 c1 c2 c3 d0 d1 d2 d3
      obtain ⟨c0, c1, c2⟩ := (unhide HGv).u.cells
      obtain ⟨d0, d1, d2⟩ := (unhide HWv).u.cells
      go_wp2_with fail
      refine (eqReply_same r noG noW ncG ncW _ (by unfold maxLen; omega) (own_txR (unhide HGo).s (unhide HZT)) (own_txR (unhide HWo).s (unhide HZT))).mono ?_
      rintro e w13b ⟨rfl, hb⟩
      replace HB := hide (fr (unhide HB) hb)
      replace HWv := hide ((unhide HWv).below hb)
      replace HWo := hide ((unhide HWo).below hb)
      replace HX := hide ((unhide HX).below hb)
      replace HGv := hide ((unhide HGv).below hb)
      replace HGo := hide ((unhide HGo).below hb)
      clear hb
      clear c0 c1 c2 d0 d1 d2
      go_upto_region 13 with fail
      refine luF_region (fun d wz r63 r64 r65 r66 r67 => LuJ w13b (imV aX m) (imV a m) m d wz r63 r64 r65 r66 r67) (by kernel_rfl) (by kernel_rfl) (noG_spec (by kernel_rfl)) ?h0 ?hs ?he
      case h0 => exact ⟨(Below.refl _ w13b).drew, fun h => (by cases h), fun h => (by cases h), fun h => (by cases h), fun h => (by cases h), fun h => (by cases h)⟩
      case hs =>
        intro d wz i o r63 r64 r65 r66 r67 hc I ho hd hp K hK
        obtain ⟨k0, k1, k2, k3⟩ := ((unhide HX).v.below I.bw).cells
        obtain ⟨l0, l1, l2, l3⟩ := ((unhide HV0).below (fr (unhide HB) I.bw)).cells
        have hi : i < 5 := (List.getElem?_eq_some_iff.1 ho).1
        rcases (show i = 0 ∨ i = 1 ∨ i = 2 ∨ i = 3 ∨ i = 4 by omega) with rfl | rfl | rfl | rfl | rfl
        · cases ho
          unfold Oper.wp
          go_simp
          exact hK _ _ _ _ _ _ (I.s0 hd rfl)
        · cases ho
          unfold Oper.wp
          go_simp
          exact hK _ _ _ _ _ _ (I.s1 hd rfl)
        · cases ho
          have e1 := I.f1 (hp ⟨1, .data⟩ (by simp) rfl)
          subst e1
          unfold Oper.wp
          go_simp
          refine (toImage_B a m _ (unhide HBD) ((unhide HC0).below (fr (unhide HB) I.bw))).mono ?_
          rintro e w2 ⟨a1, ts, rfl, ho1, hb1⟩
          exact hK _ _ _ _ _ _ (I.s2 hd hb1 rfl (ho1.base I.bw.size))
        · cases ho
          have e0 := I.f0 (hp ⟨0, .data⟩ (by simp) rfl)
          subst e0
          obtain ⟨a1, ts, e2, ho1⟩ := I.p2 (hp ⟨2, .data⟩ (by simp) rfl)
          subst e2
          unfold Oper.wp
          go_simp
          refine (eqImage_B aX a1 m _ (unhide HBD) (((unhide HX).below I.bw).o.shows (unhide HZ)) (ho1.shows (unhide HZ))).mono ?_
          rintro e w2 ⟨rfl, hb1⟩
          exact hK _ _ _ _ _ _ ((I.grow hb1).s3 hd rfl)
        · cases ho
          have e3 := I.f3 (hp ⟨3, .data⟩ (by simp) rfl)
          subst e3
          unfold Oper.wp
          go_simp
          exact hK _ _ _ _ _ _ (I.s4 hd rfl)
      case he =>
        intro d w15 r63 r64 r65 r66 r67 I hall
        have e4 := I.f4 (hall 4 (by decide))
        subst e4
        have hb := I.bw
        replace HB := hide (fr (unhide HB) hb)
        replace HWv := hide ((unhide HWv).below hb)
        replace HWo := hide ((unhide HWo).below hb)
        replace HX := hide ((unhide HX).below hb)
        replace HGv := hide ((unhide HGv).below hb)
        replace HGo := hide ((unhide HGo).below hb)
        clear hb
        clear I hall
        obtain ⟨c0, c1, c2, c3⟩ := (unhide HX).v.cells
        go_wp2_with fail
        refine (markImage_B aX m tsX _ _ (unhide HBD) (unhide HX).o).mono ?_
        rintro e w16 ⟨rfl, _, hk⟩
        replace HWv := hide ((unhide HWv).keepIm (unhide HX).o hk)
        replace HWo := hide ((unhide HWo).keepIm (unhide HX).o hk (fun g h1 h2 => by have := unhide HWX g h1; have := ((unhide HX).o.ge g h2).1; omega) (noTx (unhide HX).o (unhide HWo).s))
        replace HGv := hide ((unhide HGv).keepIm (unhide HX).o hk)
        replace HGo := hide ((unhide HGo).keepIm (unhide HX).o hk (fun g h1 h2 => by have := unhide HXG g h2; have := ((unhide HGo).o.ge g h1).1; omega) (noTx (unhide HX).o (unhide HGo).s))
        replace HB := hide ((unhide HB).trans (hk.below (unhide HB).size (fun g hg => by have := ((unhide HX).o.ge g hg).1; have := unhide HNX; omega)))
        clear hk c0 c1 c2 c3 HX HXG
        have hk1 : ¬ (((1 + imK m : Nat) : Int) < 0) := by omega
        obtain ⟨c0, c1, c2, c3⟩ := (unhide HGv).v.cells
        obtain ⟨d0, d1, d2, d3⟩ := (unhide HWv).v.cells
        go_wp2_with fail
        refine (eqImage_B aG aW M _ (unhide HRD) ((unhide HGo).o.shows (unhide HRD).zs) ((unhide HWo).o.shows (unhide HRD).zs)).mono ?_
        rintro e w17a ⟨rfl, hb⟩
        replace HB := hide (fr (unhide HB) hb)
        replace HWv := hide ((unhide HWv).below hb)
        replace HWo := hide ((unhide HWo).below hb)
        replace HGv := hide ((unhide HGv).below hb)
        replace HGo := hide ((unhide HGo).below hb)
        clear hb
        clear c0 c1 c2 c3 d0 d1 d2 d3
        obtain ⟨c0, c1, c2⟩ := (unhide HGv).u.cells
        obtain ⟨d0, d1, d2⟩ := (unhide HWv).u.cells
        go_wp2_with fail
        refine (eqReply_same r noG noW ncG ncW _ (by unfold maxLen; omega) (own_txR (unhide HGo).s (unhide HZT)) (own_txR (unhide HWo).s (unhide HZT))).mono ?_
        rintro e w17b ⟨rfl, hb⟩
        replace HB := hide (fr (unhide HB) hb)
        replace HWv := hide ((unhide HWv).below hb)
        replace HWo := hide ((unhide HWo).below hb)
        replace HGv := hide ((unhide HGv).below hb)
        replace HGo := hide ((unhide HGo).below hb)
        clear hb
        clear c0 c1 c2 d0 d1 d2
        obtain ⟨c0, c1, c2, c3⟩ := (unhide HGv).v.cells
        go_wp2_with fail
        refine (markImage_B aG M tsG _ _ (unhide HRD) (unhide HGo).o).mono ?_
        rintro e w20 ⟨rfl, ho20, hk⟩
        have HGm := hide ho20
        have HGs := hide (OwnR.keep (unhide HGo).s hk (noTx (unhide HGo).o (unhide HGo).s))
        have HAW : Hid (∀ g, ImB aW M tsW g → ¬ ImB aG M tsG g) := hide (fun g h1 h2 => by have := unhide HWX g h1; have := ((unhide HGo).o.ge g h2).1; have := unhide HNN; omega)
        replace HWv := hide ((unhide HWv).keepIm (unhide HGo).o hk)
        replace HWo := hide ((unhide HWo).keepIm (unhide HGo).o hk (unhide HAW) (noTx (unhide HGo).o (unhide HWo).s))
        replace HGv := hide ((unhide HGv).keepIm (unhide HGo).o hk)
        replace HB := hide ((unhide HB).trans (hk.below (unhide HB).size (fun g hg => by have := ((unhide HGo).o.ge g hg).1; have := unhide HNN; have := unhide HNX; omega)))
        have HGN : Hid (w11.heap.size ≤ w20.heap.size) := hide (Nat.le_trans (unhide HGo).n hk.size)
        clear hk c0 c1 c2 c3 ho20 HGo HAW
        obtain ⟨c0, c1, c2⟩ := (unhide HGv).u.cells
        have hkb : 1 + imK M ≤ 268435456 := by omega
        go_wp2_with fail
        refine (markReply_any r noG ncG (1 + imK M) _ _ _ hn1 (by omega) hkb (unhide HGN) (unhide HGs)).mono ?_
        rintro e w21 ⟨rfl, ho21, hk⟩
        have HGt := hide ho21
        replace HWv := hide ((unhide HWv).keepTx (unhide HGs) hk)
        replace HWo := hide ((unhide HWo).keepTx (unhide HGs) hk (fun g h1 h2 => by have := unhide HWN g h1; have := (OwnR.ge (unhide HGs) g h2).1; have := unhide HNN; omega))
        replace HGv := hide ((unhide HGv).keepTx (unhide HGs) hk)
        replace HGm := hide ((unhide HGm).keep hk (fun g hg ho => noTx (unhide HGm) (unhide HGs) g ho hg))
        replace HB := hide ((unhide HB).trans (hk.below (unhide HB).size (fun g hg => by have := (OwnR.ge (unhide HGs) g hg).1; have := unhide HNN; have := unhide HNX; omega)))
        clear hk c0 c1 c2 ho21 HGs HGN HWN HWX
        have hk2 : ¬ (((1 + imK M : Nat) : Int) < 0) := by omega
        have hk3 : ¬ (((1 + imK M + r.ns.length : Nat) : Int) < 0) := by omega
        have bck : ((((1 + imK M + r.ns.length : Nat) : Int)) != ((1 + imK M + r.ns.length : Nat) : Int)) = false := by simp
        obtain ⟨c0, c1, c2, c3⟩ := (unhide HGv).v.cells
        go_wp2_with fail
        refine (heldImage_B aG M tsG _ _ (unhide HRD) (unhide HGm)).mono ?_
        rintro e w23a ⟨rfl, hb⟩
        replace HB := hide (fr (unhide HB) hb)
        replace HWv := hide ((unhide HWv).below hb)
        replace HWo := hide ((unhide HWo).below hb)
        replace HGv := hide ((unhide HGv).below hb)
        replace HGm := hide ((unhide HGm).below hb)
        replace HGt := hide (OwnR.below (unhide HGt) hb)
        clear hb
        clear c0 c1 c2 c3
        obtain ⟨c0, c1, c2⟩ := (unhide HGv).u.cells
        go_wp2_with fail
        refine (heldReply_any r noG ncG (1 + imK M) _ _ hn1 (by omega) hkb (unhide HGt)).mono ?_
        rintro e w23b ⟨rfl, hb⟩
        replace HB := hide (fr (unhide HB) hb)
        replace HWv := hide ((unhide HWv).below hb)
        replace HWo := hide ((unhide HWo).below hb)
        replace HGv := hide ((unhide HGv).below hb)
        replace HGm := hide ((unhide HGm).below hb)
        replace HGt := hide (OwnR.below (unhide HGt) hb)
        clear hb
        clear c0 c1 c2
        go_upto_region 31 with fail
        refine ltF_region (fun d wz r16 r17 r18 r109 r110 r111 r112 r113 r114 r115 r116 r117 => ∃ a1 ts no nc x y b us, LtJ w23b M r C m (imV a m) (qV q) d wz r16 r17 r18 r109 r110 r111 r112 r113 r114 r115 r116 r117 a1 ts no nc x y b us) (by kernel_rfl) (by kernel_rfl) (noG_spec (by kernel_rfl)) ?h0 ?hs ?he
        case h0 => exact ⟨a, [], none, 0, 0, 0, a, [], LtJ.start (Below.refl _ _).drew⟩
        case hs =>
          intro d wz i o r16 r17 r18 r109 r110 r111 r112 r113 r114 r115 r116 r117 hc hJ ho hd hp K hK
          obtain ⟨a1, ts, no, nc, x, y, b, us, I⟩ := hJ
          have hi : i < 14 := (List.getElem?_eq_some_iff.1 ho).1
          rcases (show i = 0 ∨ i = 1 ∨ i = 2 ∨ i = 3 ∨ i = 4 ∨ i = 5 ∨ i = 6 ∨ i = 7 ∨ i = 8 ∨ i = 9 ∨ i = 10 ∨ i = 11 ∨ i = 12 ∨ i = 13 by omega) with rfl | rfl | rfl | rfl | rfl | rfl | rfl | rfl | rfl | rfl | rfl | rfl | rfl | rfl
          · cases ho
            obtain ⟨k0, k1, k2, k3⟩ := ((unhide HV0).below (fr (unhide HB) I.bw)).cells
            unfold Oper.wp
            go_simp
            exact hK _ _ _ _ _ _ _ _ _ _ _ _ _ ⟨_, _, _, _, _, _, _, _, I.s0 hd rfl⟩
          · cases ho
            have e1 := I.f0 (hp ⟨0, .data⟩ (by simp) rfl)
            subst e1
            unfold Oper.wp
            go_simp
            refine (toImage_B a m _ (unhide HBD) ((unhide HC0).below (fr (unhide HB) I.bw))).mono ?_
            rintro e w9 ⟨b9, us9, rfl, ho9, hb⟩
            exact hK _ _ _ _ _ _ _ _ _ _ _ _ _ ⟨_, _, _, _, _, _, _, _, I.s1 hd hb rfl ho9 (not_yet hc 12 (by kernel_rfl) hd)⟩
          · cases ho
            obtain ⟨k0, k1, k2, k3⟩ := ((unhide HQ0).below (fr (unhide HB) I.bw)).cells
            unfold Oper.wp
            go_simp
            exact hK _ _ _ _ _ _ _ _ _ _ _ _ _ ⟨_, _, _, _, _, _, _, _, I.s2 hd rfl⟩
          · cases ho
            have e1 := I.f2 (hp ⟨2, .data⟩ (by simp) rfl)
            subst e1
            unfold Oper.wp
            go_simp
            refine (toReq_any q _).mono ?_
            rintro e w9 ⟨rfl, hb⟩
            exact hK _ _ _ _ _ _ _ _ _ _ _ _ _ ⟨_, _, _, _, _, _, _, _, (I.grow hb).s3 hd rfl⟩
          · cases ho
            have e1 := I.tv (hp ⟨1, .data⟩ (by simp) rfl)
            have o1 := I.tw (hp ⟨1, .data⟩ (by simp) rfl)
            have e3 := I.f3 (hp ⟨3, .data⟩ (by simp) rfl)
            subst e1 e3
            unfold Oper.wp
            go_simp
            refine (unhide HIM _ _ (o1.shows (unhide HZ))).mono ?_
            rintro e w9 ⟨a9, ts9, no9, nc9, rfl, ho9, hn9, hb⟩
            exact hK _ _ _ _ _ _ _ _ _ _ _ _ _ ⟨_, _, _, _, _, _, _, _, I.s4 hd hb rfl ho9 hn9 (not_yet hc 12 (by kernel_rfl) hd) (not_yet hc 12 (by kernel_rfl) hd) (not_yet hc 12 (by kernel_rfl) hd) (not_yet hc 12 (by kernel_rfl) hd) (not_yet hc 12 (by kernel_rfl) hd) (not_yet hc 12 (by kernel_rfl) hd) (not_yet hc 12 (by kernel_rfl) hd)⟩
          · cases ho
            have e1 := I.c (hp ⟨4, .data⟩ (by simp) rfl)
            subst e1
            unfold Oper.wp
            go_simp
            exact hK _ _ _ _ _ _ _ _ _ _ _ _ _ ⟨_, _, _, _, _, _, _, _, I.s5 hd rfl⟩
          · cases ho
            have e1 := I.f5 (hp ⟨5, .data⟩ (by simp) rfl)
            subst e1
            unfold Oper.wp
            go_simp
            exact hK _ _ _ _ _ _ _ _ _ _ _ _ _ ⟨_, _, _, _, _, _, _, _, I.s6 hd rfl⟩
          · cases ho
            have e1 := I.f5 (hp ⟨5, .data⟩ (by simp) rfl)
            subst e1
            unfold Oper.wp
            go_simp
            exact hK _ _ _ _ _ _ _ _ _ _ _ _ _ ⟨_, _, _, _, _, _, _, _, I.s7 hd rfl⟩
          · cases ho
            have e1 := I.f5 (hp ⟨5, .data⟩ (by simp) rfl)
            subst e1
            unfold Oper.wp
            go_simp
            exact hK _ _ _ _ _ _ _ _ _ _ _ _ _ ⟨_, _, _, _, _, _, _, _, I.s8 hd rfl⟩
          · cases ho
            unfold Oper.wp
            go_simp
            exact hK _ _ _ _ _ _ _ _ _ _ _ _ _ ⟨_, _, _, _, _, _, _, _, I.s9 hd (Joins.below_alloc1 _ _) rfl (Nat.le_refl _) (VarM.new _ _ _ _ _ _) (not_yet hc 12 (by kernel_rfl) hd)⟩
          · cases ho
            unfold Oper.wp
            go_simp
            exact hK _ _ _ _ _ _ _ _ _ _ _ _ _ ⟨_, _, _, _, _, _, _, _, I.s10 hd (Joins.below_alloc1 _ _) rfl (Nat.le_refl _) (VarY.new _ _ _ _) (not_yet hc 12 (by kernel_rfl) hd)⟩
          · cases ho
            have p7 := hp ⟨9, .data⟩ (by simp) rfl
            have p8 : d 10 = true := hp ⟨10, .phase⟩ (by simp) rfl
            have e7 := I.px p7
            have e5 := I.f6 (hp ⟨6, .data⟩ (by simp) rfl)
            subst e7 e5
            obtain ⟨k0, k1, k2, k3⟩ := (I.zx p7 hd).cells
            obtain ⟨l0, l1, l2, l3⟩ := (I.zx p7 hd).free
            unfold Oper.wp
            go_simp
            exact hK _ _ _ _ _ _ _ _ _ _ _ _ _ ⟨_, _, _, _, _, _, _, _, I.s11 hd p7 (not_yet hc 12 (by kernel_rfl) hd) p8⟩
          · cases ho
            have p8 := hp ⟨10, .data⟩ (by simp) rfl
            have p9 : d 11 = true := hp ⟨11, .chain⟩ (by simp) rfl
            have e8 := I.py p8
            have e6 := I.f7 (hp ⟨7, .data⟩ (by simp) rfl)
            subst e8 e6
            obtain ⟨k0, k1, k2⟩ := (I.zy p8 hd).cells
            obtain ⟨l0, l1, l2⟩ := (I.zy p8 hd).free
            unfold Oper.wp
            go_simp
            exact hK _ _ _ _ _ _ _ _ _ _ _ _ _ ⟨_, _, _, _, _, _, _, _, I.s12 hd p8 p9⟩
          · cases ho
            have e1 := I.f8 (hp ⟨8, .data⟩ (by simp) rfl)
            subst e1
            unfold Oper.wp
            go_simp
            exact hK _ _ _ _ _ _ _ _ _ _ _ _ _ ⟨_, _, _, _, _, _, _, _, I.s13 hd rfl⟩
        case he =>
          intro d w31 r16 r17 r18 r109 r110 r111 r112 r113 r114 r115 r116 r117 hJ hall
          obtain ⟨aH, tsH, noH, ncH, xH, yH, bH, usH, I⟩ := hJ
          have e7 := I.px (hall 9 (by decide))
          have e8 := I.py (hall 10 (by decide))
          have e9 := I.f13 (hall 13 (by decide))
          subst e7 e8 e9
          have hx0 := I.x0 (hall 9 (by decide))
          have hy0 := I.y0 (hall 10 (by decide))
          have HO9 := hide (I.o (hall 4 (by decide)))
          have HN9 := hide (I.n (hall 4 (by decide)))
          have HVX := hide (I.vx (hall 11 (by decide)))
          have HVY := hide (I.vy (hall 12 (by decide)))
          have HBW := hide I.bw
          clear I hall
          have hb := unhide HBW
          have HHv := hide (LvP.mk (unhide HVX) (unhide HVY))
          have HHo := hide (LoP.mk (unhide HO9) (unhide HN9) hb.size)
          replace HB := hide (fr (unhide HB) hb)
          replace HWv := hide ((unhide HWv).below hb)
          replace HWo := hide ((unhide HWo).below hb)
          replace HGv := hide ((unhide HGv).below hb)
          replace HGm := hide ((unhide HGm).below hb)
          replace HGt := hide (OwnR.below (unhide HGt) hb)
          clear hb
          clear HO9 HN9 HVX HVY HBW hx0 hy0
          obtain ⟨c0, c1, c2, c3⟩ := (unhide HHv).v.cells
          obtain ⟨d0, d1, d2, d3⟩ := (unhide HWv).v.cells
          go_wp2_with fail
          refine (eqImage_B aH aW M _ (unhide HRD) ((unhide HHo).o.shows (unhide HRD).zs) ((unhide HWo).o.shows (unhide HRD).zs)).mono ?_
          rintro e w32a ⟨rfl, hb⟩
          replace HB := hide (fr (unhide HB) hb)
          replace HWv := hide ((unhide HWv).below hb)
          replace HWo := hide ((unhide HWo).below hb)
          replace HGv := hide ((unhide HGv).below hb)
          replace HGm := hide ((unhide HGm).below hb)
          replace HGt := hide (OwnR.below (unhide HGt) hb)
          replace HHv := hide ((unhide HHv).below hb)
          replace HHo := hide ((unhide HHo).below hb)
          clear hb
          clear c0 c1 c2 c3 d0 d1 d2 d3
          obtain ⟨c0, c1, c2⟩ := (unhide HHv).u.cells
          obtain ⟨d0, d1, d2⟩ := (unhide HWv).u.cells
          go_wp2_with fail
          refine (eqReply_same r noH noW ncH ncW _ (by unfold maxLen; omega) (own_txR (unhide HHo).s (unhide HZT)) (own_txR (unhide HWo).s (unhide HZT))).mono ?_
          rintro e w32b ⟨rfl, hb⟩
          replace HB := hide (fr (unhide HB) hb)
          replace HWv := hide ((unhide HWv).below hb)
          replace HWo := hide ((unhide HWo).below hb)
          replace HGv := hide ((unhide HGv).below hb)
          replace HGm := hide ((unhide HGm).below hb)
          replace HGt := hide (OwnR.below (unhide HGt) hb)
          replace HHv := hide ((unhide HHv).below hb)
          replace HHo := hide ((unhide HHo).below hb)
          clear hb
          clear c0 c1 c2 d0 d1 d2
          obtain ⟨c0, c1, c2, c3⟩ := (unhide HGv).v.cells
          go_wp2_with fail
          refine (heldImage_B aG M tsG _ _ (unhide HRD) (unhide HGm)).mono ?_
          rintro e w35a ⟨rfl, hb⟩
          replace HB := hide (fr (unhide HB) hb)
          replace HGv := hide ((unhide HGv).below hb)
          replace HGm := hide ((unhide HGm).below hb)
          replace HGt := hide (OwnR.below (unhide HGt) hb)
          clear hb
          clear c0 c1 c2 c3
          obtain ⟨c0, c1, c2⟩ := (unhide HGv).u.cells
          go_wp2_with fail
          refine (heldReply_any r noG ncG (1 + imK M) _ _ hn1 (by omega) hkb (unhide HGt)).mono ?_
          rintro e w35b ⟨rfl, hb⟩
          replace HB := hide (fr (unhide HB) hb)
          replace HGv := hide ((unhide HGv).below hb)
          replace HGm := hide ((unhide HGm).below hb)
          replace HGt := hide (OwnR.below (unhide HGt) hb)
          clear hb
          clear c0 c1 c2
          go_wp2
          go_ret
          exact ⟨rfl, (unhide HA).trans ((unhide HB).mono (unhide HA).size)⟩

end Go.Proofs.YtpdpnepnfhbonaaGreat
