import Derived.Test.YtjoafbkcnnhdiacRows
import Derived.Test.YtjoafbkcnnhdiacLResizePart5
import Derived.Test.YtjoafbkcnnhdiacLResizePart3
import Derived.WalkKit
import Derived.WalkSpells
import Derived.KernelRfl
import Derived.Test.YtjoafbkcnnhdiacLResizePart1
import Derived.Laws.CopyRow
import Derived.Laws.CopyOwn
import Derived.Test.YtjoafbkcnnhdiacLResizePart2
import Derived.LoopN
import Derived.BigQuiet
import Derived.Deep.QuietTactic
import Derived.Deep.CutRange
import Derived.Deep.RegionWith
import Derived.Laws.ResultCell
import Derived.Laws.Cover3
import Derived.Deep.MidRow
import Derived.Maps.Own
import Derived.Maps.OwnOps
import Derived.Maps.OwnSet
import Derived.Maps.RangeWalk
import Derived.Maps.Views

namespace Go.Proofs.Ytjoafbkcnnhdiac
open Go.RowKit
set_option linter.unusedVariables false
set_option maxRecDepth 100000

structure ZrJ (w0 W0 : World) (a : Im4) (m : Img) (g b off : Nat) (T : Int) (d : Nat → Bool) (w : World) (s5 s6 s7 s8 s9 s10 s11 s12 : Value) : Prop where
  bw : d 8 = false → Below W0.heap.size W0 w
  p1 : d 1 = true → d 7 = false → ∃ a1 ts, s6 = imV a1 m ∧ OwnIm w W0.heap.size a1 m ts
  p7 : d 7 = true → d 8 = false → ∃ a1 ts, s12 = imV a1 m ∧ OwnIm w W0.heap.size a1 (imDrop m T) ts
  p8 : d 8 = true → ∃ a1 ts, ImQ w0 w W0.heap.size a1 m (imDrop m T) ts
  f0 : d 0 = true → s5 = .agg #[.slice a.ro m.refs.length a.rc, .slice (some ⟨b, off, none⟩) m.table.length a.tc, .slice a.so m.snaps.length a.sc, .slice a.dq m.data.length a.dc]
  f2 : d 2 = true → s7 = .pointer (some ⟨w0.heap.size, 1, none⟩)
  f3 : d 3 = true → s8 = .slice (some ⟨b, off, none⟩) m.table.length a.tc
  f4 : d 4 = true → s9 = .int .i64 g
  f5 : d 5 = true → s10 = .pointer (some ⟨b, off + g, none⟩)
  f6 : d 6 = true → s11 = .int .i64 T

theorem ZrJ.s0 {w0 W0 : World} {a : Im4} {m : Img} {g b off : Nat} {T : Int} {d : Nat → Bool} {w : World} {s5 s6 s7 s8 s9 s10 s11 s12 v : Value} (I : ZrJ w0 W0 a m g b off T d w s5 s6 s7 s8 s9 s10 s11 s12) (hd : d 0 = false) (hv : v = .agg #[.slice a.ro m.refs.length a.rc, .slice (some ⟨b, off, none⟩) m.table.length a.tc, .slice a.so m.snaps.length a.sc, .slice a.dq m.data.length a.dc]) : ZrJ w0 W0 a m g b off T (updD d 0) w v s6 s7 s8 s9 s10 s11 s12 where
  bw := fun h => I.bw (upd_nf h)
  p1 := fun h h' => I.p1 (upd_ne (by decide) h) (upd_nf h')
  p7 := fun h h' => I.p7 (upd_ne (by decide) h) (upd_nf h')
  p8 := fun h => I.p8 (upd_ne (by decide) h)
  f0 := fun _ => hv
  f2 := fun h => I.f2 (upd_ne (by decide) h)
  f3 := fun h => I.f3 (upd_ne (by decide) h)
  f4 := fun h => I.f4 (upd_ne (by decide) h)
  f5 := fun h => I.f5 (upd_ne (by decide) h)
  f6 := fun h => I.f6 (upd_ne (by decide) h)

theorem ZrJ.s1 {w0 W0 : World} {a : Im4} {m : Img} {g b off : Nat} {T : Int} {d : Nat → Bool} {w w2 : World} {s5 s6 s7 s8 s9 s10 s11 s12 v : Value} (I : ZrJ w0 W0 a m g b off T d w s5 s6 s7 s8 s9 s10 s11 s12) (hd : d 1 = false) (h7 : d 7 = false) (h8 : d 8 = false) (hb : Below w.heap.size w w2) {a1 : Im4} {ts : List Value} (hv : v = imV a1 m) (ho : OwnIm w2 W0.heap.size a1 m ts) : ZrJ w0 W0 a m g b off T (updD d 1) w2 s5 v s7 s8 s9 s10 s11 s12 where
  bw := fun _ => fr (I.bw h8) hb
  p1 := fun _ _ => ⟨a1, ts, hv, ho⟩
  p7 := fun h _ => no_d (upd_ne (by decide) h) h7
  p8 := fun h => no_d (upd_ne (by decide) h) h8
  f0 := fun h => I.f0 (upd_ne (by decide) h)
  f2 := fun h => I.f2 (upd_ne (by decide) h)
  f3 := fun h => I.f3 (upd_ne (by decide) h)
  f4 := fun h => I.f4 (upd_ne (by decide) h)
  f5 := fun h => I.f5 (upd_ne (by decide) h)
  f6 := fun h => I.f6 (upd_ne (by decide) h)

theorem ZrJ.s2 {w0 W0 : World} {a : Im4} {m : Img} {g b off : Nat} {T : Int} {d : Nat → Bool} {w : World} {s5 s6 s7 s8 s9 s10 s11 s12 v : Value} (I : ZrJ w0 W0 a m g b off T d w s5 s6 s7 s8 s9 s10 s11 s12) (hd : d 2 = false) (hv : v = .pointer (some ⟨w0.heap.size, 1, none⟩)) : ZrJ w0 W0 a m g b off T (updD d 2) w s5 s6 v s8 s9 s10 s11 s12 where
  bw := fun h => I.bw (upd_nf h)
  p1 := fun h h' => I.p1 (upd_ne (by decide) h) (upd_nf h')
  p7 := fun h h' => I.p7 (upd_ne (by decide) h) (upd_nf h')
  p8 := fun h => I.p8 (upd_ne (by decide) h)
  f0 := fun h => I.f0 (upd_ne (by decide) h)
  f2 := fun _ => hv
  f3 := fun h => I.f3 (upd_ne (by decide) h)
  f4 := fun h => I.f4 (upd_ne (by decide) h)
  f5 := fun h => I.f5 (upd_ne (by decide) h)
  f6 := fun h => I.f6 (upd_ne (by decide) h)

theorem ZrJ.s3 {w0 W0 : World} {a : Im4} {m : Img} {g b off : Nat} {T : Int} {d : Nat → Bool} {w : World} {s5 s6 s7 s8 s9 s10 s11 s12 v : Value} (I : ZrJ w0 W0 a m g b off T d w s5 s6 s7 s8 s9 s10 s11 s12) (hd : d 3 = false) (hv : v = .slice (some ⟨b, off, none⟩) m.table.length a.tc) : ZrJ w0 W0 a m g b off T (updD d 3) w s5 s6 s7 v s9 s10 s11 s12 where
  bw := fun h => I.bw (upd_nf h)
  p1 := fun h h' => I.p1 (upd_ne (by decide) h) (upd_nf h')
  p7 := fun h h' => I.p7 (upd_ne (by decide) h) (upd_nf h')
  p8 := fun h => I.p8 (upd_ne (by decide) h)
  f0 := fun h => I.f0 (upd_ne (by decide) h)
  f2 := fun h => I.f2 (upd_ne (by decide) h)
  f3 := fun _ => hv
  f4 := fun h => I.f4 (upd_ne (by decide) h)
  f5 := fun h => I.f5 (upd_ne (by decide) h)
  f6 := fun h => I.f6 (upd_ne (by decide) h)

theorem ZrJ.s4 {w0 W0 : World} {a : Im4} {m : Img} {g b off : Nat} {T : Int} {d : Nat → Bool} {w : World} {s5 s6 s7 s8 s9 s10 s11 s12 v : Value} (I : ZrJ w0 W0 a m g b off T d w s5 s6 s7 s8 s9 s10 s11 s12) (hd : d 4 = false) (hv : v = .int .i64 g) : ZrJ w0 W0 a m g b off T (updD d 4) w s5 s6 s7 s8 v s10 s11 s12 where
  bw := fun h => I.bw (upd_nf h)
  p1 := fun h h' => I.p1 (upd_ne (by decide) h) (upd_nf h')
  p7 := fun h h' => I.p7 (upd_ne (by decide) h) (upd_nf h')
  p8 := fun h => I.p8 (upd_ne (by decide) h)
  f0 := fun h => I.f0 (upd_ne (by decide) h)
  f2 := fun h => I.f2 (upd_ne (by decide) h)
  f3 := fun h => I.f3 (upd_ne (by decide) h)
  f4 := fun _ => hv
  f5 := fun h => I.f5 (upd_ne (by decide) h)
  f6 := fun h => I.f6 (upd_ne (by decide) h)

theorem ZrJ.s5 {w0 W0 : World} {a : Im4} {m : Img} {g b off : Nat} {T : Int} {d : Nat → Bool} {w : World} {s5 s6 s7 s8 s9 s10 s11 s12 v : Value} (I : ZrJ w0 W0 a m g b off T d w s5 s6 s7 s8 s9 s10 s11 s12) (hd : d 5 = false) (hv : v = .pointer (some ⟨b, off + g, none⟩)) : ZrJ w0 W0 a m g b off T (updD d 5) w s5 s6 s7 s8 s9 v s11 s12 where
  bw := fun h => I.bw (upd_nf h)
  p1 := fun h h' => I.p1 (upd_ne (by decide) h) (upd_nf h')
  p7 := fun h h' => I.p7 (upd_ne (by decide) h) (upd_nf h')
  p8 := fun h => I.p8 (upd_ne (by decide) h)
  f0 := fun h => I.f0 (upd_ne (by decide) h)
  f2 := fun h => I.f2 (upd_ne (by decide) h)
  f3 := fun h => I.f3 (upd_ne (by decide) h)
  f4 := fun h => I.f4 (upd_ne (by decide) h)
  f5 := fun _ => hv
  f6 := fun h => I.f6 (upd_ne (by decide) h)

theorem ZrJ.s6 {w0 W0 : World} {a : Im4} {m : Img} {g b off : Nat} {T : Int} {d : Nat → Bool} {w : World} {s5 s6 s7 s8 s9 s10 s11 s12 v : Value} (I : ZrJ w0 W0 a m g b off T d w s5 s6 s7 s8 s9 s10 s11 s12) (hd : d 6 = false) (hv : v = .int .i64 T) : ZrJ w0 W0 a m g b off T (updD d 6) w s5 s6 s7 s8 s9 s10 v s12 where
  bw := fun h => I.bw (upd_nf h)
  p1 := fun h h' => I.p1 (upd_ne (by decide) h) (upd_nf h')
  p7 := fun h h' => I.p7 (upd_ne (by decide) h) (upd_nf h')
  p8 := fun h => I.p8 (upd_ne (by decide) h)
  f0 := fun h => I.f0 (upd_ne (by decide) h)
  f2 := fun h => I.f2 (upd_ne (by decide) h)
  f3 := fun h => I.f3 (upd_ne (by decide) h)
  f4 := fun h => I.f4 (upd_ne (by decide) h)
  f5 := fun h => I.f5 (upd_ne (by decide) h)
  f6 := fun _ => hv

theorem ZrJ.s7 {w0 W0 : World} {a : Im4} {m : Img} {g b off : Nat} {T : Int} {d : Nat → Bool} {w w2 : World} {s5 s6 s7 s8 s9 s10 s11 s12 v : Value} (I : ZrJ w0 W0 a m g b off T d w s5 s6 s7 s8 s9 s10 s11 s12) (hd : d 7 = false) (h8 : d 8 = false) (hb : Below W0.heap.size W0 w2) {a1 : Im4} {ts : List Value} (hv : v = imV a1 m) (ho : OwnIm w2 W0.heap.size a1 (imDrop m T) ts) : ZrJ w0 W0 a m g b off T (updD d 7) w2 s5 s6 s7 s8 s9 s10 s11 v where
  bw := fun _ => hb
  p1 := fun _ h' => no_d (k := 7) upd_at h'
  p7 := fun _ _ => ⟨a1, ts, hv, ho⟩
  p8 := fun h => no_d (upd_ne (by decide) h) h8
  f0 := fun h => I.f0 (upd_ne (by decide) h)
  f2 := fun h => I.f2 (upd_ne (by decide) h)
  f3 := fun h => I.f3 (upd_ne (by decide) h)
  f4 := fun h => I.f4 (upd_ne (by decide) h)
  f5 := fun h => I.f5 (upd_ne (by decide) h)
  f6 := fun h => I.f6 (upd_ne (by decide) h)

theorem ZrJ.s8 {w0 W0 : World} {a : Im4} {m : Img} {g b off : Nat} {T : Int} {d : Nat → Bool} {w w2 : World} {s5 s6 s7 s8 s9 s10 s11 s12 v : Value} (I : ZrJ w0 W0 a m g b off T d w s5 s6 s7 s8 s9 s10 s11 s12) (hd : d 8 = false) (p7' : d 7 = true) {a1 : Im4} {ts : List Value} (hq : ImQ w0 w2 W0.heap.size a1 m (imDrop m T) ts) : ZrJ w0 W0 a m g b off T (updD d 8) w2 s5 s6 s7 s8 s9 s10 s11 s12 where
  bw := fun h => no_d (k := 8) upd_at h
  p1 := fun _ h' => no_d p7' (upd_nf h')
  p7 := fun _ h' => no_d (k := 8) upd_at h'
  p8 := fun _ => ⟨a1, ts, hq⟩
  f0 := fun h => I.f0 (upd_ne (by decide) h)
  f2 := fun h => I.f2 (upd_ne (by decide) h)
  f3 := fun h => I.f3 (upd_ne (by decide) h)
  f4 := fun h => I.f4 (upd_ne (by decide) h)
  f5 := fun h => I.f5 (upd_ne (by decide) h)
  f6 := fun h => I.f6 (upd_ne (by decide) h)

theorem imZero_at {m : Img} {g : Nat} (hg : g < m.table.length) : imZero m g = { imDrop m m.table[g] with table := (imDrop m m.table[g]).table.set g 1 } := by
  have e : m.table.getD g 0 = m.table[g] := by simp [List.getD, hg]
  unfold imZero
  simp only [e]

set_option maxHeartbeats 1600000 in
theorem l10Zero_R (a : Im4) (m : Img) (g : Nat) (R : Img) (w : World) (hR : R = imZero m g) (hM : ImM m) (hg : g < m.table.length) (hc : ImS w a m) :
    Calls Try.prog 70 #[imV a m, .int .i64 g] w fun e w' => ∃ a' ts, e = .returned (imV a' R) ∧ OwnIm w' w.heap.size a' R ts ∧ Below w.heap.size w w' := by
  have HE := hide (ImE.new w a m hc)
  have HM := hide hM
  have hgi : (g : Int) < (m.table.length : Int) := by omega
  have HR := hide (hR.trans (imZero_at hg))
  have HTV := hide (hM.tv g hg)
  have ht12 := hM.t
  clear hc hM hR
  go_enter Try.func70, Try.ntmps70
  go_upto_region 1 with fail
  revert HE
  generalize ((w.alloc _).alloc _) = W0
  intro HE
  obtain ⟨b, off, et, hct⟩ := (unhide HE).s.t g hg
  have hbl := World.block_lt_of_cell? _ _ hct
  have HAV : Hid (imV a m = .agg #[.slice a.ro m.refs.length a.rc, .slice (some ⟨b, off, none⟩) m.table.length a.tc, .slice a.so m.snaps.length a.sc, .slice a.dq m.data.length a.dc]) := hide (by rw [imV, et])
  have HCELL : Hid (∀ W, Below W0.heap.size W0 W → W.cell? ⟨w.heap.size, 0, none⟩ = some (.slice a.ro m.refs.length a.rc) ∧ W.cell? ⟨w.heap.size, 1, none⟩ = some (.slice (some ⟨b, off, none⟩) m.table.length a.tc) ∧ W.cell? ⟨w.heap.size, 2, none⟩ = some (.slice a.so m.snaps.length a.sc) ∧ W.cell? ⟨w.heap.size, 3, none⟩ = some (.slice a.dq m.data.length a.dc) ∧ W.cell? ⟨b, off + g, none⟩ = some (.int .i64 m.table[g])) := hide (fun W hW => by
    obtain ⟨k0, k1, k2, k3⟩ := ((unhide HE).v.below hW).cells
    rw [et] at k1
    exact ⟨k0, k1, k2, k3, (hW.cell (p := ⟨b, off + g, none⟩) hbl).trans hct⟩)
  have HOWN : Hid (∀ W, Below W0.heap.size W0 W → Calls Try.prog 24 #[.agg #[.slice a.ro m.refs.length a.rc, .slice (some ⟨b, off, none⟩) m.table.length a.tc, .slice a.so m.snaps.length a.sc, .slice a.dq m.data.length a.dc]] W fun e w' => ∃ a' ts, e = .returned (imV a' m) ∧ OwnIm w' W.heap.size a' m ts ∧ Below W.heap.size W w') := hide (fun W hW => by rw [← unhide HAV]; exact l10Own_M a m W (unhide HM) ((unhide HE).s.below hW))
  clear et hct
  generalize hTT : m.table[g] = T at *
  clear hTT
  refine wp_region_inv2 (fun d f wz => ∃ s5 s6 s7 s8 s9 s10 s11 s12, f = (⟨#[imV a m, .int .i64 g, .pointer (some ⟨w.heap.size, 0, none⟩), undef, .pointer (some ⟨w.heap.size + 1, 0, none⟩), s5, s6, s7, s8, s9, s10, s11, s12, undef, undef, undef, undef, undef], []⟩ : Act) ∧ ZrJ w W0 a m g b off T d wz s5 s6 s7 s8 s9 s10 s11 s12) (by kernel_rfl) (by kernel_rfl) (noG_spec (by kernel_rfl)) ⟨undef, undef, undef, undef, undef, undef, undef, undef, rfl, ⟨fun _ => (Below.refl _ W0).drew, fun h => (by cases h), fun h => (by cases h), fun h => (by cases h), fun h => (by cases h), fun h => (by cases h), fun h => (by cases h), fun h => (by cases h), fun h => (by cases h), fun h => (by cases h)⟩⟩ ?hs ?he
  case hs =>
    intro d f wz i o hc hI ho hd hp K hK
    obtain ⟨s5, s6, s7, s8, s9, s10, s11, s12, rfl, I⟩ := hI
    have hi : i < 9 := (List.getElem?_eq_some_iff.1 ho).1
    rcases (show i = 0 ∨ i = 1 ∨ i = 2 ∨ i = 3 ∨ i = 4 ∨ i = 5 ∨ i = 6 ∨ i = 7 ∨ i = 8 by omega) with rfl | rfl | rfl | rfl | rfl | rfl | rfl | rfl | rfl
    · cases ho
      have h8 := not_yet hc 9 (j := 8) (i := 0) (by kernel_rfl) hd
      obtain ⟨k0, k1, k2, k3, k4⟩ := unhide HCELL wz (I.bw h8)
      unfold Oper.wp
      go_simp
      exact hK _ _ ⟨_, _, _, _, _, _, _, _, rfl, I.s0 hd rfl⟩
    · cases ho
      have h8 := not_yet hc 9 (j := 8) (i := 1) (by kernel_rfl) hd
      have h7 := not_yet hc 9 (j := 7) (i := 1) (by kernel_rfl) hd
      have p := hp ⟨0, .data⟩ (by simp) rfl
      have e1 := I.f0 p
      subst e1
      unfold Oper.wp
      go_simp
      refine (unhide HOWN wz (I.bw h8)).mono ?_
      rintro e w2 ⟨a1, ts, rfl, ho1, hb1⟩
      exact hK _ _ ⟨_, _, _, _, _, _, _, _, rfl, I.s1 hd h7 h8 hb1 rfl (ho1.base (I.bw h8).size)⟩
    · cases ho
      unfold Oper.wp
      go_simp
      exact hK _ _ ⟨_, _, _, _, _, _, _, _, rfl, I.s2 hd rfl⟩
    · cases ho
      have h8 := not_yet hc 9 (j := 8) (i := 3) (by kernel_rfl) hd
      have p := hp ⟨2, .data⟩ (by simp) rfl
      have e1 := I.f2 p
      subst e1
      obtain ⟨k0, k1, k2, k3, k4⟩ := unhide HCELL wz (I.bw h8)
      unfold Oper.wp
      go_simp
      exact hK _ _ ⟨_, _, _, _, _, _, _, _, rfl, I.s3 hd rfl⟩
    · cases ho
      unfold Oper.wp
      go_simp
      exact hK _ _ ⟨_, _, _, _, _, _, _, _, rfl, I.s4 hd rfl⟩
    · cases ho
      have p := hp ⟨3, .data⟩ (by simp) rfl
      have e1 := I.f3 p
      subst e1
      have p2 := hp ⟨4, .data⟩ (by simp) rfl
      have e2 := I.f4 p2
      subst e2
      unfold Oper.wp
      go_simp
      exact hK _ _ ⟨_, _, _, _, _, _, _, _, rfl, I.s5 hd (by first | rfl | simp)⟩
    · cases ho
      have h8 := not_yet hc 9 (j := 8) (i := 6) (by kernel_rfl) hd
      have p := hp ⟨5, .data⟩ (by simp) rfl
      have e1 := I.f5 p
      subst e1
      obtain ⟨k0, k1, k2, k3, k4⟩ := unhide HCELL wz (I.bw h8)
      unfold Oper.wp
      go_simp
      exact hK _ _ ⟨_, _, _, _, _, _, _, _, rfl, I.s6 hd rfl⟩
    · cases ho
      have h8 := not_yet hc 9 (j := 8) (i := 7) (by kernel_rfl) hd
      have p1 := hp ⟨1, .data⟩ (by simp) rfl
      have p6 := hp ⟨6, .data⟩ (by simp) rfl
      obtain ⟨a1, ts, e6, ho1⟩ := I.p1 p1 hd
      subst e6
      have e1 := I.f6 p6
      subst e1
      unfold Oper.wp
      go_simp
      refine (l10Drop_M a1 m ts _ T _ (unhide HTV).1 (unhide HTV).2 (unhide HM).r (unhide HM).d (fun c h => by have := (unhide HM).rv c h; omega) ho1).mono ?_
      rintro e w2 ⟨rfl, ho2, hk2⟩
      exact hK _ _ ⟨_, _, _, _, _, _, _, _, rfl, I.s7 hd h8 ((I.bw h8).trans (hk2.below (I.bw h8).size (fun g hg => (ho1.ge g hg).1))) rfl ho2⟩
    · cases ho
      have p7 := hp ⟨7, .data⟩ (by simp) rfl
      obtain ⟨a1, ts, e12, ho1⟩ := I.p7 p7 hd
      subst e12
      have hv := (unhide HE).v.below (I.bw hd)
      have hr := (unhide HE).r.below (I.bw hd)
      obtain ⟨x0, x1, x2, x3⟩ := hv.cells
      obtain ⟨z0, z1, z2, z3⟩ := hv.free
      have hq := ImQ.put (w := w) hv hr ho1 (fr (unhide HE).b (I.bw hd)) (by have := (unhide HE).r.lt; omega) (m0 := m) (imDrop_lens _ _).1 (imDrop_lens _ _).2.1 (imDrop_lens _ _).2.2.1 (imDrop_lens _ _).2.2.2
      unfold Oper.wp
      go_simp
      exact hK _ _ ⟨_, _, _, _, _, _, _, _, rfl, I.s8 (v := undef) hd p7 hq⟩
  case he =>
    intro d f wz hI hall
    obtain ⟨s5, s6, s7, s8, s9, s10, s11, s12, rfl, I⟩ := hI
    obtain ⟨a1, ts, hq⟩ := I.p8 (hall 8 (by decide))
    have HQ := hide hq
    clear I hall hq HCELL HOWN HAV
    generalize imDrop m T = D at *
    have hgD : g < D.table.length := by rw [(unhide HQ).e2]; exact hg
    obtain ⟨c0, c1, c2, c3⟩ := (unhide HQ).v.cells
    obtain ⟨g3, e3, hc3, hf3, hs3⟩ := (unhide HQ).setT (c := g) hgD
    have HQ7 := hide (hs3 1)
    rw [e3] at c1
    clear e3 hs3
    go_upto_region 3 with fail
    clear c0 c1 c2 c3 hc3 hf3
    revert HQ7
    generalize (wz.setCell _ _) = W7
    intro HQ7
    have HF := hide (unhide HQ7).fin
    obtain ⟨c0, c1, c2, c3⟩ := (unhide HQ7).v.cells
    obtain ⟨r0, r1, r2, r3⟩ := (unhide HQ7).r.cells
    obtain ⟨z0, z1, z2, z3⟩ := (unhide HQ7).r.free
    go_wp2
    refine bodyPost_ret (res_im Try.results70 rfl (unhide HF).1) rfl ?_
    rw [unhide HR]
    first | exact ⟨a1, ts, by rw [← (unhide HQ7).val], (unhide HF).2.1, (unhide HF).2.2⟩ | exact ⟨a1, by rw [← (unhide HQ7).val], ⟨ts, (unhide HF).2.1⟩, (unhide HF).2.2⟩

end Go.Proofs.Ytjoafbkcnnhdiac

namespace Go.Proofs.Ytjoafbkcnnhdiac
open Go.RowKit
set_option linter.unusedVariables false
set_option maxRecDepth 100000

section
variable {P : Program}

theorem run_copy_whole (w : World) (dT sT ty elem : TypeId) (size g n dCap : Nat) (a : Addr) (sCap : Nat) (cur : Array Value) (t : TypeId) (cs : List Value)
    (hu : P.underlying dT = some (.slice elem)) (hs : (P.info? elem).map (·.size) = some size)
    (hg : w.heap[g]? = some (.cells cur t (0, 0))) (hl : n * size = cs.length)
    (hsrc : ∀ j v, cs[j]? = some v → w.cell? (a.add j) = some v) (hfit : cs.length ≤ cur.size) (h1 : ∀ v ∈ cs, v.oneCell' = true) :
    (Builtin.copy_ #[dT, sT] ty #[.slice (some ⟨g, 0, none⟩) n dCap, .slice (some a) n sCap]).run P w = .ok (goInt n) (w.setRow g (cs ++ cur.toList.drop cs.length).toArray) := by
  have hld := run_loadCells_list (P := P) w a cs hsrc
  have hst := run_storeCells_at P g 0 t cs 0 cur w hg (by simpa using hfit) h1
  cases hq : P.info? elem with
  | none => simp [hq] at hs
  | some i =>
    have hi : i.size = size := by simpa [hq] using hs
    simp [Builtin.copy_, run_underlying hu, Builtin.lenOf, Builtin.firstCells, sizeOf, typeInfo, hq, hi, hl, hld, hst]

theorem wpList_copy_whole {w : World} {ops : Array Oper} {rest : List Oper} {o : Oper} {a : Act} {Q : Exit → Act → World → Prop} (hgd : o.guard = none) (d s : Operand) (dT sT : TypeId)
    (ho : o.op = .call { callee := .builtin .copy, args := #[d, s], argTypes := #[dT, sT] }) (elem : TypeId) (size : Nat) (hu : P.underlying dT = some (.slice elem)) (hsz : (P.info? elem).map (·.size) = some size)
    (B g n : Nat) (ad : Addr) (sCap : Nat) (hd : a.eval d = .slice (some ⟨g, 0, none⟩) n n) (hs : a.eval s = .slice (some ad) n sCap)
    (xs : List Value) (hown : w.ownsRow B elem size (.slice (some ⟨g, 0, none⟩) n n) n xs) (cs : List Value) (hn : cs.length = n * size)
    (hsrc : ∀ j v, cs[j]? = some v → w.cell? (ad.add j) = some v) (h1 : ∀ v ∈ cs, v.oneCell' = true)
    (h : ∀ w', w'.ownsRow B elem size (.slice (some ⟨g, 0, none⟩) n n) n cs → w.grownBy w' (some g) → wpList P ops Q rest (a.put o.dst (goInt n)) w') : wpList P ops Q (o :: rest) a w := by
  refine wpList_plain hgd fun K hK => ?_
  rcases hown.2 with ⟨e, _⟩ | ⟨g', cap', cur, e, hB, hg, hnc, hcm, hcs, ht⟩
  · simp at e
  · simp only [Value.slice.injEq, Option.some.injEq, Addr.mk.injEq, and_true, true_and] at e
    obtain ⟨rfl, rfl⟩ := e
    have hrun := run_copy_whole (P := P) w dT sT o.type elem size g n n ad sCap cur elem cs hu hsz hg hn.symm hsrc (by omega) h1
    unfold Oper.wp
    simp [execOp, ho, resolve, invoke, builtin, hd, hs, hrun, Result.andThen]
    refine hK _ _ (h _ ⟨hn, .inr ⟨g, n, _, rfl, hB, setRow_heap w g _ _ elem _ hg, hnc, hcm, ?_, ?_⟩⟩ ⟨rfl, rfl, rfl, by simp, fun k _ hk => setRow_other w g k _ (fun e => hk (by simp [e]))⟩)
    · simp; omega
    · rw [← hn]; simp
end

end Go.Proofs.Ytjoafbkcnnhdiac

namespace Go.Proofs.Ytjoafbkcnnhdiac
open Go.RowKit
set_option linter.unusedVariables false
set_option maxRecDepth 100000

set_option maxHeartbeats 800000 in
theorem refsOK_impl (ao : Option Addr) (cap : Nat) (xs : List Int) (w : World) (hl : xs.length ≤ maxLen) (hc : Is w ao xs) :
    Calls Try.prog 77 #[.slice ao xs.length cap] w fun e w' => e = .returned (.bool (ctB xs)) ∧ w' = w := by
  have HC := hide hc
  clear hc
  unfold maxLen at hl
  by_cases h24 : xs.length = 24
  · have hb : ((xs.length : Int) != 24) = false := by simp [h24]
    have H24 := hide h24
    clear h24
    go_enter Try.func77, Try.ntmps77
    go_wp2
    go_loop [10] (fun i => ∃ k : Nat, k ≤ xs.length ∧ i = .int .i64 k ∧ Hid (∀ j (h : j < xs.length), j < k → cnt1 xs[j] = true)) (fun i => xs.length - (intOf i).toNat)
    case atStart => exact ⟨0, Nat.zero_le _, rfl, hide (fun j _ h => by omega)⟩
    case round =>
      obtain ⟨k, hk, rfl, HA⟩ := hrel
      by_cases hlt : k < xs.length
      · obtain ⟨b, off, rfl, hc⟩ := unhide HC k hlt
        by_cases hn : cnt1 xs[k] = true
        · have HN := hide (all_succ hlt (unhide HA) hn)
          have hn' : betw xs[k] 0 15 = true := hn
          clear hn
          go_wp2_with (go_at_call 49; refine (within_any _ _ _ _).mono ?_; rintro e w' ⟨rfl, rfl⟩)
          go_round
          case rel => exact ⟨k + 1, by omega, by go_num, HN⟩
          case measure => simp [intOf]; omega
        · have hn0 : cnt1 xs[k] = false := by simpa using hn
          have hn' : betw xs[k] 0 15 = false := hn0
          have HF := hide (ctB_noat hlt hn0)
          clear hn hn0
          go_wp2_with (go_at_call 49; refine (within_any _ _ _ _).mono ?_; rintro e w' ⟨rfl, rfl⟩)
          go_ret
          exact ⟨ret_bool (unhide HF).symm, rfl⟩
      · have HF := hide (ctB_of (unhide H24) (fun j h => unhide HA j h (by omega)))
        go_wp2
        go_ret
        exact ⟨ret_bool (unhide HF).symm, rfl⟩
  · have hb : ((xs.length : Int) != 24) = true := by simp; omega
    have HF := hide (ctB_nolen h24)
    clear h24
    go_enter Try.func77, Try.ntmps77
    go_wp2
    go_ret
    exact ⟨ret_bool (unhide HF).symm, rfl⟩

theorem intV_ones (xs : List Int) : ∀ v ∈ intV xs, v.oneCell' = true := by
  intro v hv
  simp only [intV, List.mem_map] at hv
  obtain ⟨n, _, rfl⟩ := hv
  rfl
theorem sizeI1 : (Try.prog.info? 3).map (·.size) = some 1 := by kernel_rfl
set_option maxHeartbeats 1600000 in
theorem copyI_any (b off cap : Nat) (ss : List Int) (w : World) (hl : ss.length ≤ 1048576) (h0 : 0 < ss.length) (hbl : b < w.heap.size) (hc : w.rangeAt b off (intV ss)) :
    Calls Try.prog 58 #[.slice (some ⟨b, off, none⟩) ss.length cap] w fun e w' => e = .returned (.slice (some ⟨w.heap.size, 0, none⟩) ss.length ss.length) ∧ w'.ownsRow w.heap.size 3 1 (.slice (some ⟨w.heap.size, 0, none⟩) ss.length ss.length) ss.length (intV ss) ∧ Below w.heap.size w w' := by
  have hb : ((ss.length : Int) == 0) = false := beq_eq_false_iff_ne.2 (by omega)
  have HCS := hide hc
  have HP := hide h0
  clear hc h0
  obtain ⟨i0, hi, hz0, hz1, hz2⟩ := info_parts infoM
  go_enter Try.func58, Try.ntmps58
  go_wp2_with (first | (at_make; refine wpList_make_full _ rfl _ _ 22 rfl w.heap.size 3 i0 _ 1 Try.underlying22 hi hz0 hz1 _ _ _ _ ss.length rfl rfl rfl rfl ?c1 ?c2 ?c3 ?_))
  case c1 => rw [hz2]; omega
  case c2 => unfold maxLen; omega
  case c3 => exact Nat.le_refl _
  intro w1 hown hgrow
  have hB : Below w.heap.size w w1 := (Below.refl _ _).grown hgrow (Nat.le_refl _) (fun _ h => by cases h)
  have HO := hide hown
  have HB := hide hB
  have HC1 : Hid (∀ j v, (intV ss)[j]? = some v → w1.cell? (Addr.add ⟨b, off, none⟩ j) = some v) := hide (fun j v hv => ((unhide HB).cell (by unfold Addr.add; split <;> exact hbl)).trans (by rw [Addr.add_mid]; exact unhide HCS j v hv))
  clear hown hgrow hB
  go_wp2_with (refine wpList_copy_whole rfl _ _ 22 22 rfl 3 1 Try.underlying22 sizeI1 w.heap.size w.heap.size ss.length ⟨b, off, none⟩ _ rfl rfl _ (unhide HO) (intV ss) (by rw [intV_length]; omega) (unhide HC1) (intV_ones ss) ?_; intro w2 ho2 hg2)
  have HB2 := hide ((unhide HB).grown hg2 (unhide HB).size (fun k h => by cases h; exact Nat.le_refl _))
  have HO2 := hide ho2
  clear ho2 hg2
  go_ret
  exact ⟨rfl, unhide HO2, unhide HB2⟩

end Go.Proofs.Ytjoafbkcnnhdiac

namespace Go.Proofs.Ytjoafbkcnnhdiac
open Go.RowKit Go.Maps
set_option linter.unusedVariables false
set_option maxRecDepth 100000

theorem lawI : Keyed Try.prog 3 := int_keyed Try.underlying3
theorem zeroI (w : World) : (zeroValue 3).run Try.prog w = .ok (.int .i64 0) w := by kernel_rfl
theorem wfI {n : Int} (h0 : -1000000 ≤ n) (h1 : n ≤ 1000000) : (Lit.int .i64 n).wf = true := WalkArith.wf_i64 (by omega)
theorem keyI {i : Nat} (h : i < 24) : keyOf Try.prog 3 (.int .i64 (i : Int)) = some (.int .i64 (i : Int)) := keyOf_int_mk Try.underlying3 (wfI (by omega) (by omega))
def MpC (w : World) (B n : Nat) (D : DataW Unit) (ns : List Int) : Prop := w.ownsMap Try.prog 3 (plainElem Try.prog 3) B n D ∧ ns.length = 24 ∧ (∀ i : Nat, i < 24 → D.atKey (.int .i64 (i : Int)) (.lit (.int .i64 0)) = .lit (.int .i64 (ns.getD i 0))) ∧ (∀ kl, has D kl = true → ∃ i : Nat, i < 24 ∧ kl = .int .i64 (i : Int))
theorem MpC.made (w : World) : MpC (w.alloc (.map #[] 0)) w.heap.size 0 (.map []) zero24 := ⟨World.ownsMap_made _ _ _ _, rfl, fun i hi => by
    have e : zero24.getD i 0 = 0 := by
      have h2 : ∀ i : Fin 24, zero24.getD i 0 = 0 := by decide
      exact h2 ⟨i, hi⟩
    rw [e]; rfl, fun kl h => by cases h⟩
theorem MpC.lt {w : World} {B n : Nat} {D : DataW Unit} {ns : List Int} (h : MpC w B n D ns) : B < w.heap.size := h.1.lt
theorem MpC.keep {S : Nat → Prop} {w w' : World} {B n : Nat} {D : DataW Unit} {ns : List Int} (h : MpC w B n D ns) (hk : Keep S w w') (hs : ¬ S B) : MpC w' B n D ns := by
  have hl := h.lt
  obtain ⟨⟨es, clock, hb, F, hn, hD⟩, h2⟩ := h
  exact ⟨⟨es, clock, (hk.block B hl hs).trans hb, F, hn, hD⟩, h2⟩
theorem MpC.below {w w' : World} {B n : Nat} {D : DataW Unit} {ns : List Int} (h : MpC w B n D ns) (hb : Below w.heap.size w w') : MpC w' B n D ns := h.keep (S := fun _ => False) (Keep.of_below hb) (fun h => h)
theorem MpC.mono {w : World} {B n n' : Nat} {D : DataW Unit} {ns : List Int} (h : MpC w B n D ns) (hn : n ≤ n') : MpC w B n' D ns := ⟨h.1.mono hn, h.2⟩
theorem keep_map {w w' : World} {B : Nat} (h : w.grownBy w' (some B)) : Keep (fun g => g = B) w w' := ⟨h.os, h.tape, h.output, h.size, fun k hk hs => h.block k hk (fun e => hs (Option.some.inj e))⟩
theorem MpC.put {w w' : World} {B n i : Nat} {D : DataW Unit} {ns : List Int} {c : Int} (h : MpC w B n D ns) (hi : i < 24) (ho : w'.ownsMap Try.prog 3 (plainElem Try.prog 3) B (n + 1) (D.put (.int .i64 (i : Int)) (.lit (.int .i64 c)))) : MpC w' B (n + 1) (D.put (.int .i64 (i : Int)) (.lit (.int .i64 c))) (ns.set i c) := by
  have hM : IsMap D := by obtain ⟨es, e, _⟩ := h.1.entries lawI; exact ⟨es, e⟩
  refine ⟨ho, by rw [List.length_set]; exact h.2.1, fun j hj => ?_, fun kl hk => ?_⟩
  · by_cases e : j = i
    · subst e
      rw [atKey_put_same (k := .int .i64 (j : Int)) hM trivial]
      simp [List.getD, h.2.1, hi]
    · rw [atKey_put_other (by intro h2; simp only [Lit.int.injEq, true_and] at h2; omega), h.2.2.1 j hj]
      simp [List.getD, Ne.symm e]
  · by_cases e : kl = .int .i64 (i : Int)
    · exact ⟨i, hi, e⟩
    · rw [has_put_other e] at hk
      exact h.2.2.2 kl hk
theorem MpC.look {w : World} {B n i : Nat} {D : DataW Unit} {ns : List Int} (h : MpC w B n D ns) (hi : i < 24) : (Instr.lookup 98 (.map (some B)) (.int .i64 (i : Int)) false).run Try.prog w = .ok (.int .i64 (ns.getD i 0)) w := by
  obtain ⟨c, hrun, hat, hwf⟩ := h.1.lookup_int lawI Try.underlying98 Try.underlying3 (zeroI _) (keyI hi)
  rw [h.2.2.1 i hi] at hat
  simp only [DataW.lit.injEq, Lit.int.injEq, true_and] at hat
  rw [hat]
  exact hrun
theorem fit_none : ∀ {clock : Nat}, Go.WideElems.Fit (H := Unit) Try.prog 3 (plainElem Try.prog 3) #[] clock := fun {clock} => ⟨by simp, MapKept.stamped_empty clock, by simp⟩
theorem MpC.clear {w : World} {B n : Nat} {D : DataW Unit} {ns : List Int} (h : MpC w B n D ns) (ty : TypeId) : ∃ w', (Builtin.clear_ #[98] ty #[.map (some B)]).run Try.prog w = .ok (.tuple #[]) w' ∧ MpC w' B 0 (.map []) zero24 ∧ Keep (fun g => g = B) w w' := by
  obtain ⟨⟨es, clock, hb, F, hn, hD⟩, h2⟩ := h
  refine ⟨ChangeMaps.setBlock w B (.map #[] clock), ?_, ⟨⟨#[], clock, ChangeMaps.heap_setBlock_same hb _, fit_none, Nat.le_refl _, rfl⟩, (MpC.made w).2⟩, ⟨rfl, rfl, rfl, by simp [ChangeMaps.setBlock], fun k _ hk => ChangeMaps.heap_setBlock_other hb _ hk⟩⟩
  simp [Builtin.clear_, run_underlying Try.underlying98, MapKept.run_getObj_map hb, MapKept.run_setObj_map _ hb, Result.andThen, ChangeMaps.setBlock]
theorem wpList_count {w : World} {ops : Array Oper} {rest : List Oper} {o : Oper} {a : Act} {Q : Exit → Act → World → Prop} (hg : o.guard = none) (m x v : Operand) (hop : o.op = Op.mapUpdate 98 m x v)
    {B n i : Nat} {D : DataW Unit} {ns : List Int} {c : Int} (hm : a.eval m = .map (some B)) (h : MpC w B n D ns) (hn : n < 1000000) (hx : a.eval x = .int .i64 (i : Int)) (hi : i < 24) (hv : a.eval v = .int .i64 c) (hc : -1000000 ≤ c ∧ c ≤ 1000000)
    (hK : ∀ w' D', MpC w' B (n + 1) D' (ns.set i c) → Keep (fun g => g = B) w w' → wpList Try.prog ops Q rest (a.put o.dst undef) w') : wpList Try.prog ops Q (o :: rest) a w :=
  wpList_mapUpdate_own w hg m x v 98 hop 3 3 lawI Try.underlying98 _ B n D hm h.1 (by unfold maxLen; omega) _ _ _ hx hv (keyI hi) _ [] (plainElem_int Try.underlying3 (wfI hc.1 hc.2)) (fun w' ho hg' => hK w' _ (h.put hi ho) (keep_map hg'))

theorem incr_get (ns : List Int) (hl : ns.length = 24) (c i : Nat) (hc : c < 24) (hi : i < 24) : (incr ns (c : Int)).getD i 0 = ns.getD i 0 + (if i = c then 1 else 0) := by
  rw [incr_set]
  simp only [List.getD, List.getElem?_set]
  by_cases e : i = c
  · subst e; simp [hl, hi]
  · simp [e, Ne.symm e]
theorem fold_incr_get (i : Nat) (hi : i < 24) : ∀ (L : List Int), (∀ c ∈ L, 0 ≤ c ∧ c ≤ 23) → ∀ ns : List Int, ns.length = 24 → (L.foldl incr ns).getD i 0 = ns.getD i 0 + (L.count (i : Int) : Int) := by
  intro L
  induction L with
  | nil => intro _ ns _; simp
  | cons c L ih =>
    intro hL ns hl
    obtain ⟨c0, c1⟩ := hL c (by simp)
    obtain ⟨q, rfl⟩ := Int.eq_ofNat_of_zero_le c0
    rw [List.foldl_cons, ih (fun d hd => hL d (by simp [hd])) _ (by rw [incr_len]; exact hl), incr_get ns hl q i (by omega) hi, List.count_cons]
    by_cases e : i = q
    · subst e; simp; omega
    · have e2 : ¬ ((q : Int) = (i : Int)) := by omega
      simp [e, e2]
theorem nodup_count : ∀ (L : List Int), L.Nodup ↔ ∀ x ∈ L, L.count x ≤ 1 := by
  intro L
  induction L with
  | nil => simp
  | cons c L ih =>
    rw [List.nodup_cons, ih]
    constructor
    · rintro ⟨h1, h2⟩ x hx
      rw [List.count_cons]
      by_cases e : c = x
      · subst e
        rw [List.count_eq_zero_of_not_mem h1]; simp
      · have : x ∈ L := by simpa [Ne.symm e] using hx
        have := h2 x this
        simp [e]; omega
    · intro h
      refine ⟨fun hm => ?_, fun x hx => ?_⟩
      · have h1 := h c (by simp)
        rw [List.count_cons] at h1
        have := List.count_pos_iff.2 hm
        simp at h1; omega
      · have h1 := h x (by simp [hx])
        rw [List.count_cons] at h1
        omega
theorem cl_mem {t : List Int} (h : tbB t = true) : ∀ c ∈ clA t, 0 ≤ c ∧ c ≤ 23 := fun c hc => by
  obtain ⟨j, hj, rfl⟩ := List.mem_iff_getElem.1 hc
  exact clA_in h j hj
theorem cnt1T_get {t : List Int} (h : tbB t = true) {ns : List Int} (hl : ns.length = 24) {i : Nat} (hi : i < 24) : (cnt1T ns t).getD i 0 = ns.getD i 0 + ((clA t).count (i : Int) : Int) := fold_incr_get i hi _ (cl_mem h) ns hl
theorem zero24_get {i : Nat} (hi : i < 24) : zero24.getD i 0 = 0 := by
  have h2 : ∀ i : Fin 24, zero24.getD i 0 = 0 := by decide
  exact h2 ⟨i, hi⟩
theorem once_yes {t : List Int} (h : tbB t = true) (hc : ∀ i, i < 24 → (cnt1T zero24 t).getD i 0 ≤ 1) : onceB t = true := by
  refine decide_eq_true ((nodup_count _).2 fun x hx => ?_)
  obtain ⟨c0, c1⟩ := cl_mem h x hx
  obtain ⟨q, rfl⟩ := Int.eq_ofNat_of_zero_le c0
  have := hc q (by omega)
  rw [cnt1T_get h rfl (by omega), zero24_get (by omega)] at this
  omega
theorem once_no {t : List Int} (h : tbB t = true) {i : Nat} (hi : i < 24) (hc : 1 < (cnt1T zero24 t).getD i 0) : onceB t = false := by
  refine decide_eq_false fun hn => ?_
  rw [cnt1T_get h rfl hi, zero24_get hi] at hc
  have hm : (i : Int) ∈ clA t := List.count_pos_iff.1 (by omega)
  have := (nodup_count _).1 hn _ hm
  omega

end Go.Proofs.Ytjoafbkcnnhdiac

namespace Go.Proofs.Ytjoafbkcnnhdiac
open Go.RowKit
set_option linter.unusedVariables false
set_option maxRecDepth 100000

set_option maxHeartbeats 800000 in
theorem tableOK_impl (ao : Option Addr) (cap : Nat) (xs : List Int) (w : World) (hl : xs.length ≤ maxLen) (hc : Is w ao xs) :
    Calls Try.prog 93 #[.slice ao xs.length cap] w fun e w' => e = .returned (.bool (tbB xs)) ∧ w' = w := by
  have HC := hide hc
  clear hc
  unfold maxLen at hl
  by_cases hlong : 12 < xs.length
  · have HF := hide (tbB_nolen (xs := xs) (by omega))
    go_enter Try.func93, Try.ntmps93
    go_wp2
    go_ret
    exact ⟨ret_bool (unhide HF).symm, rfl⟩
  go_enter Try.func93, Try.ntmps93
  go_wp2
  go_loop [10] (fun i => ∃ k : Nat, k ≤ xs.length ∧ i = .int .i64 k ∧ Hid (∀ j (h : j < xs.length), j < k → ent1 xs[j] = true)) (fun i => xs.length - (intOf i).toNat)
  case atStart => exact ⟨0, Nat.zero_le _, rfl, hide (fun j _ h => by omega)⟩
  case round =>
    obtain ⟨k, hk, rfl, HA⟩ := hrel
    by_cases hlt : k < xs.length
    · obtain ⟨b, off, rfl, hc⟩ := unhide HC k hlt
      by_cases hn : ent1 xs[k] = true
      · have HN := hide (all_succ hlt (unhide HA) hn)
        have hn' : betw xs[k] 0 25 = true := hn
        clear hn
        go_wp2_with (go_at_call 49; refine (within_any _ _ _ _).mono ?_; rintro e w' ⟨rfl, rfl⟩)
        go_round
        case rel => exact ⟨k + 1, by omega, by go_num, HN⟩
        case measure => simp [intOf]; omega
      · have hn0 : ent1 xs[k] = false := by simpa using hn
        have hn' : betw xs[k] 0 25 = false := hn0
        have HF := hide (tbB_noat hlt hn0)
        clear hn hn0
        go_wp2_with (go_at_call 49; refine (within_any _ _ _ _).mono ?_; rintro e w' ⟨rfl, rfl⟩)
        go_ret
        exact ⟨ret_bool (unhide HF).symm, rfl⟩
    · have HF := hide (tbB_of (xs := xs) (by omega) (fun j h => unhide HA j h (by omega)))
      go_wp2
      go_ret
      exact ⟨ret_bool (unhide HF).symm, rfl⟩

theorem tableFault_any (ao : Option Addr) (cap : Nat) (xs : List Int) (w : World) (hl : xs.length ≤ maxLen) (hc : Is w ao xs) :
    Calls Try.prog 74 #[.slice ao xs.length cap] w fun e w' => e = .returned (.int .i64 (tbF xs)) ∧ w' = w := by
  have HC := hide hc
  have HL := hide hl
  unfold maxLen at hl
  clear hc
  rcases tbF_cases xs with ⟨h1, h2⟩ | ⟨h1, hb, h2⟩ | ⟨hb, h2⟩
  · have HE := hide h2
    clear h2
    go_enter Try.func74, Try.ntmps74
    go_wp2
    go_ret
    exact ⟨ret_int (unhide HE).symm, rfl⟩
  · have HE := hide h2
    clear h2
    go_enter Try.func74, Try.ntmps74
    go_wp2_with (go_at_call 93; refine (tableOK_impl _ _ xs _ (unhide HL) (unhide HC)).mono ?_; rintro e w' ⟨rfl, hw⟩; replace hw := hw.symm; subst hw; rw [hb])
    go_ret
    exact ⟨ret_int (unhide HE).symm, rfl⟩
  · have HE := hide h2
    have h4 : ¬ (4096 : Int) < (xs.length : Int) := by have := tbB_len hb; omega
    clear h2
    go_enter Try.func74, Try.ntmps74
    go_wp2_with (go_at_call 93; refine (tableOK_impl _ _ xs _ (unhide HL) (unhide HC)).mono ?_; rintro e w' ⟨rfl, hw⟩; replace hw := hw.symm; subst hw; rw [hb])
    go_ret
    exact ⟨ret_int (unhide HE).symm, rfl⟩

theorem tbF_ne {xs : List Int} (h : tbF xs ≠ 0) : (tbF xs != 0) = true := by simpa using h

theorem splitEntry_any (n : Int) (w : World) (h0 : -1000 ≤ n) (h1 : n ≤ 1000) :
    Calls Try.prog 83 #[.int .i64 n] w fun e w' => e = .returned (.tuple #[.int .i64 (min n 2), .int .i64 (max 0 (n - 2))]) ∧ w' = w := by
  by_cases h : n < 2
  · have HM : Hid (n = min n 2 ∧ (0 : Int) = max 0 (n - 2)) := hide ⟨by omega, by omega⟩
    go_enter Try.func83, Try.ntmps83
    go_wp2
    go_ret2
    exact ⟨ret_two2 (unhide HM).1 (unhide HM).2, rfl⟩
  · have HM : Hid ((2 : Int) = min n 2 ∧ n - 2 = max 0 (n - 2)) := hide ⟨by omega, by omega⟩
    have hw2 : IntKind.i64.wrap (n - 2) = n - 2 := by rw [IntKind.wrap_i64]; omega
    go_enter Try.func83, Try.ntmps83
    go_wp2
    go_ret2
    exact ⟨ret_two2 (unhide HM).1 (unhide HM).2, rfl⟩

end Go.Proofs.Ytjoafbkcnnhdiac

namespace Go.Proofs.Ytjoafbkcnnhdiac
open Go.RowKit
set_option linter.unusedVariables false
set_option maxRecDepth 100000

theorem clusterOfData_any (k c : Int) (w : World) :
    Calls Try.prog 102 #[.int .i64 k, .int .i64 c] w fun e w' => e = .returned (.tuple #[.int .i64 c, .bool (k == 2)]) ∧ w' = w := by
  go_enter Try.func102, Try.ntmps102
  go_wp2
  go_ret2
  exact ⟨rfl, rfl⟩

set_option maxHeartbeats 1600000 in
theorem takeEntries_any (ao : Option Addr) (cap : Nat) (xs : List Int) (w : World) (hl : xs.length ≤ 1048576) (hi : ∀ j (h : j < xs.length), -1000 ≤ xs[j] ∧ xs[j] ≤ 1000) (hc : Is w ao xs) :
    Calls Try.prog 101 #[.slice ao xs.length cap, .func (.func 102) #[] #[]] w fun e w' => ∃ v, e = .returned v ∧ OwnN w' w.heap.size v (clA xs) ∧ Below w.heap.size w w' := by
  obtain ⟨j0, hj, hy0, hy1, hy2⟩ := info_parts infoM
  have HC := hide hc
  have HI := hide hi
  clear hc hi
  go_enter Try.func101, Try.ntmps101
  go_wp2
  go_loopw [5, 12] (fun o i wr => ∃ (k : Nat) (ys : List Int) (qo : Option Addr) (qa : Nat), k ≤ xs.length ∧ i = .int .i64 k ∧ o = .slice qo ys.length qa ∧ Hid (ys = clTo xs k) ∧ Hid (OwnR wr w.heap.size 3 1 (.slice qo ys.length qa) ys.length (intV ys)) ∧ Hid (Below w.heap.size w wr)) (fun _ i _ => xs.length - (intOf i).toNat)
  case atStart => exact ⟨0, [], _, _, Nat.zero_le _, rfl, rfl, hide rfl, hide (.inl ⟨rfl, rfl, _, rfl⟩), hide (Below.refl _ _)⟩
  case round =>
    obtain ⟨k, ys, qo, qa, hk, rfl, rfl, HE, HO, HB⟩ := hrel
    by_cases hlt : k < xs.length
    · obtain ⟨b, off, rfl, hcl⟩ := (unhide HC).below (unhide HB) k hlt
      have HIK := hide (unhide HI k hlt)
      by_cases h2 : 2 ≤ xs[k]
      · have HS := hide (clTo_data hlt h2)
        have HYL : Hid (ys.length ≤ 1048576) := hide (by rw [unhide HE]; have := clTo_len xs k; omega)
        have hyl := unhide HYL
        have HV : Hid (min xs[k] 2 = 2 ∧ max 0 (xs[k] - 2) = xs[k] - 2) := hide ⟨by omega, by omega⟩
        have HOA := hide ((unhide HO).below (Joins.below_alloc1 _ (.cells #[.int .i64 (xs[k] - 2)] 3)))
        have HBA := hide (fr (unhide HB) (Joins.below_alloc1 _ (.cells #[.int .i64 (xs[k] - 2)] 3)))
        have HSZ := hide (unhide HB).size
        clear h2
        go_wp2_with (first | (go_at_call 83; refine (splitEntry_any _ _ (by have := unhide HIK; omega) (by have := unhide HIK; omega)).mono ?_; rintro e w' ⟨rfl, hw⟩; replace hw := hw.symm; subst hw; rw [(unhide HV).1, (unhide HV).2]) | (go_at_call 102; refine (clusterOfData_any _ _ _).mono ?_; rintro e w' ⟨rfl, hw⟩; replace hw := hw.symm; subst hw) | (at_builtin; refine wpList_append_one rfl _ _ 22 rfl w.heap.size 3 j0 (.int .i64 0) 1 8 Try.underlying22 hj hy0 hy1 hy2 rfl (by omega) qo ys.length qa (intV ys) rfl (unhide HOA) (by have := unhide HSZ; simp; omega) ⟨wr.heap.size, 0, none⟩ _ [.int .i64 (xs[k] - 2)] rfl rfl (byte_news wr _ _) (int_one _) (by unfold maxLen; omega) (by omega) ?_; intro g2 cap2 wA hoA hkA; have HSF := hide (And.intro hoA (keep_below (unhide HBA) (unhide HOA) (Nat.le_refl _) hkA)); clear hoA hkA))
        go_roundw
        case rel => exact ⟨k + 1, ys ++ [xs[k] - 2], some ⟨g2, 0, none⟩, cap2, by omega, by go_num, by simp, hide (by rw [unhide HS, unhide HE]), hide (by rw [List.length_append, intV_snoc]; exact .inr ⟨by simp, (unhide HSF).1⟩), hide (unhide HSF).2⟩
        case measure => simp [intOf]; omega
      · have HS := hide (clTo_none hlt h2)
        have HV : Hid (min xs[k] 2 = xs[k] ∧ max 0 (xs[k] - 2) = 0) := hide ⟨by omega, by omega⟩
        have hb2 : (xs[k] == 2) = false := beq_eq_false_iff_ne.2 (by omega)
        clear h2
        go_wp2_with (first | (go_at_call 83; refine (splitEntry_any _ _ (by have := unhide HIK; omega) (by have := unhide HIK; omega)).mono ?_; rintro e w' ⟨rfl, hw⟩; replace hw := hw.symm; subst hw; rw [(unhide HV).1, (unhide HV).2]) | (go_at_call 102; refine (clusterOfData_any _ _ _).mono ?_; rintro e w' ⟨rfl, hw⟩; replace hw := hw.symm; subst hw; rw [hb2]))
        go_roundw
        case rel => exact ⟨k + 1, ys, qo, qa, by omega, by go_num, rfl, hide (by rw [unhide HS, unhide HE]), HO, HB⟩
        case measure => simp [intOf]; omega
    · have HS : Hid (clA xs = ys) := hide (by rw [unhide HE, clA, show k = xs.length by omega])
      go_wp2
      go_ret
      exact ⟨.slice qo ys.length qa, rfl, by rw [unhide HS]; exact ⟨qo, qa, rfl, unhide HO⟩, unhide HB⟩

end Go.Proofs.Ytjoafbkcnnhdiac

namespace Go.Proofs.Ytjoafbkcnnhdiac
open Go.RowKit Go.Maps
set_option linter.unusedVariables false
set_option maxRecDepth 100000

def VarN (w : World) (x : Nat) (n : ByteArray) (v : Value) : Prop := w.heap[x]? = some (.cells #[.string n, v] 66 (0, 0))
theorem VarN.cells {w : World} {x : Nat} {n : ByteArray} {v : Value} (k : VarN w x n v) : w.cell? ⟨x, 0, none⟩ = some (.string n) ∧ w.cell? ⟨x, 1, none⟩ = some v := ⟨by rw [Joins.cell_of_block k]; rfl, by rw [Joins.cell_of_block k]; rfl⟩
theorem VarN.new (w : World) (n : ByteArray) (v : Value) : VarN (w.alloc (.cells #[.string n, v] 66)) w.heap.size n v := heap_alloc_new w _

set_option maxHeartbeats 1600000 in
theorem addUses_any (B n : Nat) (D : DataW Unit) (ns : List Int) (ao : Option Addr) (cap : Nat) (xs : List Int) (w : World) (hB : MpC w B n D ns) (hn : n ≤ 100000) (hns : CtI ns 1000) (hx : tbB xs = true) (hc : Is w ao xs) :
    Calls Try.prog 97 #[.map (some B), .slice ao xs.length cap] w fun e w' => e = .returned (.tuple #[]) ∧ (∃ D', MpC w' B (n + 12) D' (cnt1T ns xs)) ∧ Keep (fun g => g = B) w w' := by
  have HC := hide hc
  have HM := hide hB
  have HNS := hide hns
  have HTX := hide (tbB_len hx)
  have HIN : Hid (∀ j (h : j < xs.length), -1000 ≤ xs[j] ∧ xs[j] ≤ 1000) := hide (fun j h => by have := tbB_at hx j h; omega)
  have HCI := hide (clA_in hx)
  have HCL := hide (clA_len hx)
  clear hc hB hx hns
  go_enter Try.func97, Try.ntmps97
  go_wp2_with fail
  refine (takeEntries_any ao cap xs _ (by have := unhide HTX; omega) (unhide HIN) (unhide HC)).mono ?_
  rintro e w3 ⟨v, rfl, ⟨lo, la, rfl, hol⟩, hb3⟩
  have HB3 := hide hb3
  have HL3 := hide hol
  have HM3 := hide ((unhide HM).below hb3)
  have HBL := hide (unhide HM).lt
  have HCN : Hid (cnt1T ns xs = (clA xs).foldl incr ns) := hide rfl
  clear hol hb3
  generalize clA xs = L at *
  have hL12 := unhide HCL
  go_wp2
  go_loopw [9] (fun i wq => ∃ (j : Nat) (D' : DataW Unit), j ≤ L.length ∧ i = .int .i64 j ∧ Hid (CtI ((L.take j).foldl incr ns) (1000 + j)) ∧ Hid (MpC wq B (n + j) D' ((L.take j).foldl incr ns)) ∧ Hid (Keep (fun g => g = B) w3 wq)) (fun i _ => L.length - (intOf i).toNat)
  case atStart => exact ⟨0, D, Nat.zero_le _, rfl, hide (by simpa using unhide HNS), hide (by simpa using unhide HM3), hide (Keep.refl _ _)⟩
  case round =>
    obtain ⟨j, D', hj', rfl, HJ, HMJ, HKJ⟩ := hrel
    by_cases hjl : j < L.length
    · have HLJ := hide ((unhide HL3).keep (unhide HKJ) (fun g hg he => by have h1 := ((unhide HL3).ge g hg).1; have h2 := unhide HBL; omega))
      obtain ⟨b, off, rfl, hcl⟩ := (ownRN (unhide HLJ)) j hjl
      obtain ⟨l0, l1⟩ := unhide HCI j hjl
      obtain ⟨c, hcc⟩ := Int.eq_ofNat_of_zero_le l0
      rw [hcc] at hcl
      have hc24 : c < 24 := by omega
      have HST := hide (incr_take hjl ns)
      rw [hcc] at HST
      clear hcc l0 l1
      generalize hMS : (L.take j).foldl incr ns = ms at *
      clear hMS
      have hlen := (unhide HJ).1
      have hcm : c < ms.length := by omega
      obtain ⟨x0, x1⟩ := (unhide HJ).2 c hcm
      have hlk := (unhide HMJ).look hc24
      have egd : ms.getD c 0 = ms[c] := by simp [List.getD, hcm]
      rw [egd] at hlk
      have HJ' : Hid (CtI ((L.take (j + 1)).foldl incr ns) (1000 + (j + 1 : Nat))) := hide (by rw [unhide HST]; exact ((unhide HJ).up hc24).mono (by omega))
      have HE' : Hid (ms.set c (ms[c] + 1) = (L.take (j + 1)).foldl incr ns) := hide (by
        rw [unhide HST, incr_set, egd])
      clear egd hlen
      generalize ms[c] = X at *
      have hw1 : IntKind.i64.wrap (X + 1) = X + 1 := by rw [IntKind.wrap_i64]; omega
      go_wp2_with (at_mapUpdate; refine wpList_count rfl _ _ _ rfl rfl (unhide HMJ) (by omega) rfl hc24 (by first | rfl | (rw [hw1]; rfl)) ⟨by omega, by omega⟩ ?_; intro w5 D5 hm5 hk5; have HS5 := hide (And.intro hm5 hk5); clear hm5 hk5)
      go_roundw
      case rel => exact ⟨j + 1, D5, by omega, by go_num, HJ', hide (by rw [← unhide HE']; exact (unhide HS5).1), hide ((unhide HKJ).trans (unhide HS5).2)⟩
      case measure => simp [intOf]; omega
    · obtain rfl : j = L.length := by omega
      rw [List.take_length] at HMJ
      go_wp2
      go_end0
      exact ⟨rfl, ⟨D', by rw [unhide HCN]; exact (unhide HMJ).mono (by omega)⟩, (Keep.of_below (unhide HB3)).trans (unhide HKJ)⟩

def RowT (w : World) (qo : Option Addr) (ts : List (List Int)) : Prop := ∀ j (h : j < ts.length), ∃ b off tq tc, qo = some ⟨b, off, none⟩ ∧ w.cell? ⟨b, off + j, none⟩ = some (.slice tq ts[j].length tc) ∧ Is w tq ts[j]
theorem RowT.below {w w' : World} {qo : Option Addr} {ts : List (List Int)} (h : RowT w qo ts) (hb : Below w.heap.size w w') : RowT w' qo ts := fun j hj => by
  obtain ⟨b, off, tq, tc, e, h1, h2⟩ := h j hj
  exact ⟨b, off, tq, tc, e, (hb.cell (p := ⟨b, off + j, none⟩) (World.block_lt_of_cell? _ _ h1)).trans h1, h2.below hb⟩
theorem keep_cellM {S : Nat → Prop} {w w' : World} (hk : Keep S w w') {p : Addr} {v : Value} (h : w.cell? p = some v) (hs : ¬ S p.block) : w'.cell? p = some v :=
  (World.cell?_of_block (hk.block p.block (World.block_lt_of_cell? _ _ h) hs)).trans h
theorem Is.keepMap {w w' : World} {B n : Nat} {D : DataW Unit} {ns : List Int} {ao : Option Addr} {xs : List Int} (h : Is w ao xs) (hm : MpC w B n D ns) (hk : Keep (fun g => g = B) w w') : Is w' ao xs := fun i hi => by
  obtain ⟨b, off, e, hc⟩ := h i hi
  refine ⟨b, off, e, keep_cellM hk hc (fun he => ?_)⟩
  obtain ⟨⟨es, clock, hb, _⟩, _⟩ := hm
  simp only at he
  subst he
  simp [World.cell?, hb] at hc
theorem RowT.keepMap {w w' : World} {B n : Nat} {D : DataW Unit} {ns : List Int} {qo : Option Addr} {ts : List (List Int)} (h : RowT w qo ts) (hm : MpC w B n D ns) (hk : Keep (fun g => g = B) w w') : RowT w' qo ts := fun j hj => by
  obtain ⟨b, off, tq, tc, e, h1, h2⟩ := h j hj
  refine ⟨b, off, tq, tc, e, keep_cellM hk h1 (fun he => ?_), h2.keepMap hm hk⟩
  obtain ⟨⟨es, clock, hb, _⟩, _⟩ := hm
  simp only at he
  subst he
  simp [World.cell?, hb] at h1

set_option maxHeartbeats 1600000 in
theorem usesOf_any (qo : Option Addr) (qa : Nat) (ts : List (List Int)) (w : World) (hl : ts.length ≤ 4) (ht : ∀ t ∈ ts, tbB t = true) (hc : RowT w qo ts) :
    Calls Try.prog 82 #[.slice qo ts.length qa] w fun e w' => ∃ B D, e = .returned (.map (some B)) ∧ w.heap.size ≤ B ∧ MpC w' B 1000 D (ts.foldl cnt1T zero24) ∧ CtI (ts.foldl cnt1T zero24) 48 ∧ Below w.heap.size w w' := by
  have hmm := @run_makeMap Try.prog
  have HC := hide (hc.below (Joins.below_alloc1 w (.map #[] 0)))
  have HT := hide ht
  have HA := hide (Joins.below_alloc1 w (.map #[] 0))
  have HM := hide (MpC.made w)
  clear hc ht
  go_enter Try.func82, Try.ntmps82
  go_upto_region 2 with fail
  revert HA HM HC
  generalize (w.alloc _) = W0
  intro HC HA HM
  go_wp2
  go_loopw [9] (fun i wr => ∃ (k : Nat) (D : DataW Unit), k ≤ ts.length ∧ i = .int .i64 k ∧ Hid (CtI ((ts.take k).foldl cnt1T zero24) (12 * k)) ∧ Hid (MpC wr w.heap.size (12 * k) D ((ts.take k).foldl cnt1T zero24)) ∧ Hid (RowT wr qo ts) ∧ Hid (Below w.heap.size w wr)) (fun i _ => ts.length - (intOf i).toNat)
  case atStart => exact ⟨0, _, Nat.zero_le _, rfl, hide (by simpa using CtI.zero), hide (by simpa using unhide HM), HC, HA⟩
  case round =>
    obtain ⟨k, D, hk, rfl, HI, HMK, HR, HB⟩ := hrel
    by_cases hlt : k < ts.length
    · obtain ⟨b, off, tq, tc, rfl, hck, hIs⟩ := unhide HR k hlt
      have HIS := hide hIs
      have htk := unhide HT ts[k] (List.getElem_mem hlt)
      have HTK := hide htk
      have HCT := hide (cntT_take hlt zero24)
      clear hIs htk
      have HBD := hide (unhide HB).size
      go_wp2_with fail
      refine (addUses_any w.heap.size (12 * k) D _ tq tc ts[k] _ (unhide HMK) (by omega) ((unhide HI).mono (by omega)) (unhide HTK) (unhide HIS)).mono ?_
      rintro e w3 ⟨rfl, ⟨D3, hm3⟩, hk3⟩
      have HM3 : Hid (MpC w3 w.heap.size (12 * (k + 1)) D3 ((ts.take (k + 1)).foldl cnt1T zero24)) := hide (by rw [unhide HCT]; exact hm3)
      have HR3 := hide ((unhide HR).keepMap (unhide HMK) hk3)
      have HB3 : Hid (Below w.heap.size w w3) := hide ((unhide HB).trans (hk3.below (unhide HB).size (fun g hg => Nat.le_of_eq hg.symm)))
      have HI3 : Hid (CtI ((ts.take (k + 1)).foldl cnt1T zero24) (12 * (k + 1 : Nat))) := hide (by
        rw [unhide HCT]
        refine ⟨by rw [cnt1T_len]; exact (unhide HI).1, fun i hi => ?_⟩
        rw [cnt1T_len, (unhide HI).1] at hi
        have h1 := cnt1T_get (unhide HTK) (unhide HI).1 hi
        have h2 : ((ts.take k).foldl cnt1T zero24).getD i 0 = ((ts.take k).foldl cnt1T zero24)[i]'(by rw [(unhide HI).1]; exact hi) := by simp [List.getD, (unhide HI).1, hi]
        have h3 : (cnt1T ((ts.take k).foldl cnt1T zero24) ts[k]).getD i 0 = (cnt1T ((ts.take k).foldl cnt1T zero24) ts[k])[i]'(by rw [cnt1T_len, (unhide HI).1]; exact hi) := by simp [List.getD, cnt1T_len, (unhide HI).1, hi]
        have h4 := (unhide HI).2 i (by rw [(unhide HI).1]; exact hi)
        have h5 : (clA ts[k]).count (i : Int) ≤ (clA ts[k]).length := List.count_le_length
        have h6 := clA_len (unhide HTK)
        rw [← h3, h1, h2]
        omega)
      clear hm3 hk3
      go_wp2
      go_roundw
      case rel => exact ⟨k + 1, D3, by omega, by go_num, HI3, HM3, HR3, HB3⟩
      case measure => simp [intOf]; omega
    · obtain rfl : k = ts.length := by omega
      rw [List.take_length] at HMK HI
      go_wp2
      go_ret
      exact ⟨w.heap.size, D, rfl, Nat.le_refl _, (unhide HMK).mono (by omega), (unhide HI).mono (by omega), unhide HB⟩

set_option maxHeartbeats 3200000 in
theorem tablesOf_any (a : Im4) (m : Img) (w : World) (hs : m.snaps.length ≤ 3) (hc : ImS w a m) :
    Calls Try.prog 81 #[imV a m] w fun e w' => ∃ qo qa, e = .returned (.slice qo (imTabs m).length qa) ∧ RowT w' qo (imTabs m) ∧ Below w.heap.size w w' := by
  have HA := hide (Joins.below_alloc1 w (.cells #[.slice a.ro m.refs.length a.rc, .slice a.tq m.table.length a.tc, .slice a.so m.snaps.length a.sc, .slice a.dq m.data.length a.dc] 29))
  have HV := hide (VarM.new w 29 (.slice a.ro m.refs.length a.rc) (.slice a.tq m.table.length a.tc) (.slice a.so m.snaps.length a.sc) (.slice a.dq m.data.length a.dc))
  have HC := hide hc
  clear hc
  obtain ⟨j0, hj, hy0, hy1, hy2⟩ := info_parts infoTb
  go_enter Try.func81, Try.ntmps81
  go_upto_region 1 with fail
  revert HA HV
  generalize (w.alloc _) = w1
  intro HB1 HV1
  have HSZ0 : Hid (w.heap.size < w1.heap.size) := hide (unhide HV1).lt
  obtain ⟨c0, c1, c2, c3⟩ := (unhide HV1).cells
  have HOT : Hid (OwnR (w1.alloc (.cells #[.slice a.tq m.table.length a.tc] 22)) w1.heap.size 22 1 (.slice (some ⟨w1.heap.size, 0, none⟩) 1 1) 1 [.slice a.tq m.table.length a.tc]) := hide (.inr ⟨by omega, rfl, .inr ⟨w1.heap.size, 1, #[.slice a.tq m.table.length a.tc], rfl, Nat.le_refl _, heap_alloc_new w1 _, Nat.le_refl _, by unfold maxLen; omega, rfl, rfl⟩⟩)
  have HBA := hide (Joins.below_alloc1 w1 (.cells #[.slice a.tq m.table.length a.tc] 22))
  go_upto_region 2 with fail
  revert HOT HBA
  generalize (w1.alloc _) = W1
  intro HOT HBA
  clear c0 c1 c2 c3
  obtain ⟨c0, c1, c2, c3⟩ := ((unhide HV1).below (unhide HBA)).cells
  go_wp2
  clear c0 c1 c2 c3
  go_loopw [3, 12] (fun o i wr => ∃ (k : Nat) (qo : Option Addr) (qa : Nat) (vs : List Value), k ≤ m.snaps.length ∧ i = .int .i64 k ∧ o = .slice qo (k + 1) qa ∧ Hid (OwnR wr w1.heap.size 22 1 (.slice qo (k + 1) qa) (k + 1) vs) ∧ Hid (TabV w vs ((imTabs m).take (k + 1))) ∧ Hid (Below w1.heap.size w1 wr)) (fun _ i _ => m.snaps.length - (intOf i).toNat)
  case atStart => exact ⟨0, _, _, [.slice a.tq m.table.length a.tc], Nat.zero_le _, rfl, rfl, HOT, hide (by
    have h0 : TabV w [] [] := ⟨rfl, fun j h => by simp at h⟩
    have := h0.snoc (tc := a.tc) (unhide HC).t
    simpa [imTabs] using this), HBA⟩
  case round =>
    clear HOT HBA
    obtain ⟨k, qo, qa, vs, hk, rfl, rfl, HO, HT, HB⟩ := hrel
    by_cases hlt : k < m.snaps.length
    · obtain ⟨b, off, tq, tc, eb, hn0, ht0, hIs, hz, htl⟩ := ((unhide HC).s.below (fr (unhide HB1) (unhide HB))) k hlt
      obtain ⟨b', off', tq', tc', eb', _, ht0', hIs', _, _⟩ := (unhide HC).s k hlt
      rw [eb] at eb'
      cases eb'
      have ett : Value.slice tq' m.snaps[k].table.length tc' = .slice tq m.snaps[k].table.length tc := by
        have h1 := ((fr (unhide HB1) (unhide HB)).cell (p := ⟨b, off + k * 2 + 1, none⟩) (World.block_lt_of_cell? _ _ ht0')).trans ht0'
        rw [ht0] at h1
        exact (Option.some.inj h1).symm
      have hso := eb
      clear eb
      have hlti : (k : Int) < (m.snaps.length : Int) := by omega
      have HT' : Hid (TabV w (vs ++ [.slice tq m.snaps[k].table.length tc]) ((imTabs m).take (k + 1 + 1))) := hide (by
        rw [imTabs_take hlt, ← ett]
        exact (unhide HT).snoc hIs')
      have HX := hide (VarN.new wr m.snaps[k].name (.slice tq m.snaps[k].table.length tc))
      have HBX := hide (Joins.below_alloc1 wr (.cells #[.string m.snaps[k].name, .slice tq m.snaps[k].table.length tc] 66))
      have HSZ := hide (unhide HB).size
      clear hIs hIs' ht0' ett hz htl
      go_upto_region 5 with fail
      revert HX HBX
      generalize (wr.alloc _) = w2
      intro HX HBX
      obtain ⟨x0, x1⟩ := (unhide HX).cells
      have HO2 := hide ((unhide HO).below (unhide HBX))
      have HB2 := hide (fr (unhide HB) (unhide HBX))
      clear HX HBX hn0 ht0 hso
      have HOA := hide ((unhide HO2).below (Joins.below_alloc1 _ (.cells #[.slice tq m.snaps[k].table.length tc] 22)))
      have HBA := hide (fr (unhide HB2) (Joins.below_alloc1 _ (.cells #[.slice tq m.snaps[k].table.length tc] 22)))
      have HSZ2 := hide (unhide HB2).size
      go_wp2_with (at_builtin; refine wpList_append_one rfl _ _ 72 rfl w1.heap.size 22 j0 (.slice none 0 0) 1 24 Try.underlying72 hj hy0 hy1 hy2 rfl (by omega) qo (k + 1) qa vs rfl (unhide HOA) (by have := unhide HSZ2; simp; omega) ⟨w2.heap.size, 0, none⟩ _ [.slice tq m.snaps[k].table.length tc] rfl rfl (byte_news w2 _ _) (slice_one _ _ _) (by unfold maxLen; omega) (by omega) ?_; intro g2 cap2 wA hoA hkA; have HSF := hide (And.intro hoA (keep_below (unhide HBA) (unhide HOA) (Nat.le_refl _) hkA)); clear hoA hkA)
      go_roundw
      case rel => exact ⟨k + 1, some ⟨g2, 0, none⟩, cap2, vs ++ [.slice tq m.snaps[k].table.length tc], by omega, by go_num, rfl, hide (.inr ⟨by omega, (unhide HSF).1⟩), HT', hide (unhide HSF).2⟩
      case measure => simp [intOf]; omega
    · obtain rfl : k = m.snaps.length := by omega
      have HTT : Hid (TabV w vs (imTabs m)) := hide (by
        have := unhide HT
        rwa [List.take_of_length_le (by rw [imTabs_len]; exact Nat.le_refl _)] at this)
      have HLT := hide (imTabs_len m)
      have HB2 := hide (fr (unhide HB1) (unhide HB))
      have HR : Hid (RowT wr qo (imTabs m)) := hide (fun j hj => by
        have hjn : j < m.snaps.length + 1 := by rw [← unhide HLT]; exact hj
        obtain ⟨tq, tc, hvk, hIs⟩ := (unhide HTT).2 j hj
        obtain ⟨q2, cap2, cur2, eq2, _, _⟩ := own_form (by omega) ((unhide HO).row (by omega))
        have hcell := ((unhide HO).row (by omega))
        rw [eq2] at hcell
        have hck := (hcell.cellAt j (by omega)).trans hvk
        cases eq2
        exact ⟨q2, 0, tq, tc, rfl, by rw [Nat.zero_add]; exact hck, hIs.below (unhide HB2)⟩)
      go_wp2
      go_ret
      exact ⟨qo, qa, by rw [unhide HLT]; rfl, unhide HR, unhide HB2⟩

def tabsB (ts : List (List Int)) : Bool := ts.all fun t => tbB t && onceB t
theorem tabs_yes {ts : List (List Int)} (h : ∀ j (hj : j < ts.length), (fun t => tbB t && onceB t) ts[j] = true) : tabsB ts = true := all_of (p := fun t => tbB t && onceB t) (fun j hj _ => h j hj)
theorem tabs_no {ts : List (List Int)} {k : Nat} (hk : k < ts.length) (h : (tbB ts[k] && onceB ts[k]) = false) : tabsB ts = false := all_not (p := fun t => tbB t && onceB t) hk h

set_option maxHeartbeats 3200000 in
theorem tablesOK_any (qo : Option Addr) (qa : Nat) (ts : List (List Int)) (w : World) (hl : ts.length ≤ 4) (hz : ∀ t ∈ ts, t.length ≤ maxLen) (hc : RowT w qo ts) :
    Calls Try.prog 80 #[.slice qo ts.length qa] w fun e w' => e = .returned (.bool (tabsB ts)) ∧ Below w.heap.size w w' := by
  have hmm := @run_makeMap Try.prog
  have HC := hide (hc.below (Joins.below_alloc1 w (.map #[] 0)))
  have HZ := hide hz
  have HA := hide (Joins.below_alloc1 w (.map #[] 0))
  have HM := hide (MpC.made w)
  clear hc hz
  go_enter Try.func80, Try.ntmps80
  go_upto_region 2 with fail
  revert HA HM HC
  generalize (w.alloc _) = W0
  intro HC HA HM
  go_wp2
  go_loopw [11] (fun i wr => ∃ (k n : Nat) (D : DataW Unit) (ns : List Int), k ≤ ts.length ∧ i = .int .i64 k ∧ Hid (MpC wr w.heap.size n D ns) ∧ Hid (RowT wr qo ts) ∧ Hid (∀ j (hj : j < ts.length), j < k → (tbB ts[j] && onceB ts[j]) = true) ∧ Hid (Below w.heap.size w wr)) (fun i _ => ts.length - (intOf i).toNat)
  case atStart => exact ⟨0, _, _, _, Nat.zero_le _, rfl, HM, HC, hide (fun j _ h => by omega), HA⟩
  case round =>
    obtain ⟨k, n, D, ns, hk, rfl, HMK, HR, HS, HB⟩ := hrel
    by_cases hlt : k < ts.length
    · obtain ⟨b, off, tq, tc, rfl, hck, hIs⟩ := unhide HR k hlt
      have HIS := hide hIs
      have HZK := hide (unhide HZ ts[k] (List.getElem_mem hlt))
      clear hIs
      cases htb : tbB ts[k]
      · have HF := hide (tabs_no hlt (by rw [htb]; rfl))
        go_wp2_with (go_at_call 93; refine (tableOK_impl _ _ ts[k] _ (unhide HZK) (unhide HIS)).mono ?_; rintro e w' ⟨rfl, hw⟩; replace hw := hw.symm; subst hw; rw [htb])
        go_ret
        exact ⟨ret_bool (unhide HF).symm, unhide HB⟩
      have HTK := hide htb
      obtain ⟨w4, hrun4, hm4, hk4⟩ := (unhide HMK).clear 0
      have HM4 := hide hm4
      have HR4 := hide ((unhide HR).keepMap (unhide HMK) hk4)
      have HIS4 := hide ((unhide HIS).keepMap (unhide HMK) hk4)
      have HB4 : Hid (Below w.heap.size w w4) := hide ((unhide HB).trans (hk4.below (unhide HB).size (fun g hg => Nat.le_of_eq hg.symm)))
      clear hm4 hk4
      go_wp2_with (first | (go_at_call 93; refine (tableOK_impl _ _ ts[k] _ (unhide HZK) (unhide HIS)).mono ?_; rintro e w' ⟨rfl, hw⟩; replace hw := hw.symm; subst hw; rw [htb]) | fail)
      clear hrun4 hck
      refine (addUses_any w.heap.size 0 _ zero24 tq tc ts[k] _ (unhide HM4) (by omega) (CtI.zero.mono (by omega)) (unhide HTK) (unhide HIS4)).mono ?_
      rintro e w5 ⟨rfl, ⟨D5, hm5⟩, hk5⟩
      have HM5 := hide hm5
      have HR5 := hide ((unhide HR4).keepMap (unhide HM4) hk5)
      have HB5 : Hid (Below w.heap.size w w5) := hide ((unhide HB4).trans (hk5.below (unhide HB4).size (fun g hg => Nat.le_of_eq hg.symm)))
      have HY := hide (once_yes (unhide HTK))
      have HN : Hid (∀ i : Nat, i < 24 → 1 < (cnt1T zero24 ts[k]).getD i 0 → onceB ts[k] = false) := hide (fun i => once_no (unhide HTK))
      clear hm5 hk5 HM4 HR4 HIS4 HB4
      generalize cnt1T zero24 ts[k] = cs at *
      have hown := (unhide HM5).1
      have HAT := hide (unhide HM5).2.2.1
      have HKY := hide (unhide HM5).2.2.2
      go_wp2_with (first | (at_range; refine wpList_range_own _ rfl _ 98 rfl 3 3 lawI Try.underlying98 _ w.heap.size _ _ rfl hown ?_; intro w6 hrg0 hg0 hs0) | go_in)
      go_frame
      have HB6 : Hid (Below w5.heap.size w5 w6) := hide ((Below.refl _ _).grown hg0 (Nat.le_refl _) (fun _ h => by cases h))
      have HST : Hid (∀ i : Nat, i < 24 → has D5 (.int .i64 (i : Int)) = false → cs.getD i 0 ≤ 1) := hide (fun i hi hh => by
        have h1 := unhide HAT i hi
        rw [atKey_of_not_has hh] at h1
        simp only [DataW.lit.injEq, Lit.int.injEq, true_and] at h1
        omega)
      clear hg0 hs0 hown
      generalize hRR : w5.heap.size = r at *
      have HRR := hide hRR
      clear hRR
      go_loopw [7] (fun _ wq => ∃ (left : Lit → Bool) (cnt : Nat), wq.ranges Try.prog 3 (plainElem Try.prog 3) w.heap.size r (0 + 12) D5 left cnt ∧ Hid (∀ i : Nat, i < 24 → left (.int .i64 (i : Int)) = false → cs.getD i 0 ≤ 1) ∧ Hid (∀ kl, left kl = true → has D5 kl = true) ∧ Hid (Below r w5 wq)) (fun _ wq => wq.rangeLeft w.heap.size r)
      case atStart => exact ⟨_, _, hrg0, HST, hide (fun _ h => h), HB6⟩
      case round =>
        obtain ⟨left, cnt, hrg, HLE, HLH, HBQ⟩ := hrel
        go_wp2_with (first | (at_next; refine wpList_next_ranges_ii _ rfl _ rfl 3 3 .i64 .i64 lawI Try.underlying3 Try.underlying3 w.heap.size r _ _ _ _ rfl hrg ?_ ?_) | go_in)
        · intro _ hl0
          have HON : Hid ((tbB ts[k] && onceB ts[k]) = true) := hide (by rw [unhide HTK, unhide HY (fun i hi => unhide HLE i hi (hl0 _))]; rfl)
          have HS' := hide (all_succ (p := fun t => tbB t && onceB t) hlt (unhide HS) (unhide HON))
          have HMQ : Hid (MpC wr w.heap.size (0 + 12) D5 cs) := hide ⟨hrg.owns, (unhide HM5).2⟩
          have HRQ := hide ((unhide HR5).below (by rw [unhide HRR]; exact unhide HBQ))
          have HBE := hide ((unhide HB5).trans ((unhide HBQ).mono (by rw [← unhide HRR]; exact (unhide HB5).size)))
          clear hrg hl0
          go_wp2
          go_roundw
          case rel => exact ⟨k + 1, _, D5, cs, by omega, by go_num, HMQ, HRQ, HS', HBE⟩
          case measure => simp [intOf]; omega
        · intro x c w7 cnt7 hwx hwc hlx hat hrg7 hlt7 hg7 hs7 hen
          have HB7 : Hid (Below r w5 w7) := hide ((unhide HBQ).grown hg7 (by rw [← unhide HRR]; exact (unhide HBQ).size) (fun j hj => by cases hj; exact Nat.le_refl _))
          obtain ⟨i, hi, ei⟩ := unhide HKY _ (unhide HLH _ hlx)
          simp only [Lit.int.injEq, true_and] at ei
          subst ei
          have hcs : cs.getD i 0 = c := by
            have h1 := unhide HAT i hi
            rw [hat] at h1
            simp only [DataW.lit.injEq, Lit.int.injEq, true_and] at h1
            exact h1.symm
          by_cases hc1 : 1 < c
          · have HF := hide (tabs_no hlt (by rw [unhide HTK, unhide HN i hi (by omega)]; rfl))
            have HBE := hide ((unhide HB5).trans ((unhide HB7).mono (by rw [← unhide HRR]; exact (unhide HB5).size)))
            clear hrg hrg7 hat
            go_wp2
            go_ret
            exact ⟨ret_bool (unhide HF).symm, unhide HBE⟩
          · have HLE' : Hid (∀ i' : Nat, i' < 24 → (left (.int .i64 (i' : Int)) && !(Lit.int .i64 (i' : Int)).sameKey (.int .i64 (i : Int))) = false → cs.getD i' 0 ≤ 1) := hide (fun i' hi' h => by
              by_cases e : i' = i
              · subst e; omega
              · have hk2 : (Lit.int .i64 (i' : Int)).sameKey (.int .i64 (i : Int)) = false := sameKey_ne (by intro h2; simp only [Lit.int.injEq, true_and] at h2; omega)
                rw [hk2] at h
                exact unhide HLE i' hi' (by simpa using h))
            have HLH' : Hid (∀ kl : Lit, (left kl && !kl.sameKey (.int .i64 (i : Int))) = true → has D5 kl = true) := hide (fun kl h => unhide HLH kl (by simp only [Bool.and_eq_true] at h; exact h.1))
            clear hcs hat
            go_wp2
            go_roundw
            case rel => exact ⟨_, cnt7, hrg7, HLE', HLH', HB7⟩
            case measure => rw [hrg7.left_eq, hrg.left_eq]; exact hlt7
    · have HF := hide (tabs_yes (fun j hj => unhide HS j hj (by omega)))
      go_wp2
      go_ret
      exact ⟨ret_bool (unhide HF).symm, unhide HB⟩

end Go.Proofs.Ytjoafbkcnnhdiac

namespace Go.Proofs.Ytjoafbkcnnhdiac
open Go.RowKit
set_option linter.unusedVariables false
set_option maxRecDepth 100000

def fdI (m : Img) (name : ByteArray) : Int := if imFind m name < m.snaps.length then (imFind m name : Int) else -1
theorem find_here {m : Img} {name : ByteArray} {k : Nat} (hk : k < m.snaps.length) (h0 : m.snaps[k].name = name) (h : ∀ j (hj : j < m.snaps.length), j < k → m.snaps[j].name ≠ name) : imFind m name = k := by
  unfold imFind
  rw [List.findIdx_eq hk]
  refine ⟨by simp [h0], fun j hj => ?_⟩
  have := h j (by omega) hj
  simp [this]
theorem find_none {m : Img} {name : ByteArray} (h : ∀ j (hj : j < m.snaps.length), m.snaps[j].name ≠ name) : ¬ imFind m name < m.snaps.length := by
  unfold imFind
  rw [List.findIdx_lt_length]
  rintro ⟨x, hx, h0⟩
  obtain ⟨j, hj, rfl⟩ := List.getElem_of_mem hx
  have := h j hj
  simp at h0
  exact this h0

set_option maxHeartbeats 1600000 in
theorem l10Find_any (a : Im4) (m : Img) (name : ByteArray) (w : World) (hs : m.snaps.length ≤ 1000) (hc : Sns w a.so m.snaps) :
    Calls Try.prog 89 #[imV a m, .string name] w fun e w' => e = .returned (.int .i64 (fdI m name)) ∧ Below w.heap.size w w' := by
  have HA := hide (Joins.below_alloc1 w (.cells #[.slice a.ro m.refs.length a.rc, .slice a.tq m.table.length a.tc, .slice a.so m.snaps.length a.sc, .slice a.dq m.data.length a.dc] 29))
  have HV := hide (VarM.new w 29 (.slice a.ro m.refs.length a.rc) (.slice a.tq m.table.length a.tc) (.slice a.so m.snaps.length a.sc) (.slice a.dq m.data.length a.dc))
  have HC := hide (hc.below (unhide HA))
  clear hc
  go_enter Try.func89, Try.ntmps89
  go_upto_region 1 with fail
  revert HA HV HC
  generalize (w.alloc _) = W0
  intro HA HV HC
  obtain ⟨c0, c1, c2, c3⟩ := (unhide HV).cells
  go_wp2
  go_loop [5] (fun i => ∃ k : Nat, k ≤ m.snaps.length ∧ i = .int .i64 k ∧ Hid (∀ j (hj : j < m.snaps.length), j < k → m.snaps[j].name ≠ name)) (fun i => m.snaps.length - (intOf i).toNat)
  case atStart => exact ⟨0, Nat.zero_le _, rfl, hide (fun j _ h => by omega)⟩
  case round =>
    obtain ⟨k, hk, rfl, HN⟩ := hrel
    by_cases hlt : k < m.snaps.length
    · obtain ⟨b, off, tq, tc, eb, hn0, _, _, _, _⟩ := (unhide HC) k hlt
      have c2' := c2
      rw [eb] at c2'
      clear eb c2
      have hlti : (k : Int) < (m.snaps.length : Int) := by omega
      by_cases he : m.snaps[k].name = name
      · have HF : Hid (fdI m name = (k : Int)) := hide (by have e := find_here hlt he (unhide HN); rw [fdI, if_pos (by omega), e])
        have be : (m.snaps[k].name.toList == name.toList) = true := by simp [he]
        clear he
        go_wp2
        go_ret
        exact ⟨ret_int (unhide HF).symm, unhide HA⟩
      · have HN' : Hid (∀ j (hj : j < m.snaps.length), j < k + 1 → m.snaps[j].name ≠ name) := hide (fun j hj h => by
          by_cases e : j = k
          · subst e; exact he
          · exact unhide HN j hj (by omega))
        have be : (m.snaps[k].name.toList == name.toList) = false := str_beq_false he
        clear he
        go_wp2
        go_round
        case rel => exact ⟨k + 1, by omega, by go_num, HN'⟩
        case measure => simp [intOf]; omega
    · have HF : Hid (fdI m name = -1) := hide (if_neg (find_none (fun j hj => unhide HN j hj (by omega))))
      go_wp2
      go_ret
      exact ⟨ret_int (unhide HF).symm, unhide HA⟩

end Go.Proofs.Ytjoafbkcnnhdiac
