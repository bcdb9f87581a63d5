import Derived.Test.YtbmkdbccdnbbjaaGreatDoorRows
import Derived.Test.YtbmkdbccdnbbjaaGreatDoorPart9
import Derived.Test.YtbmkdbccdnbbjaaGreatDoorPart6
import Derived.WalkKit
import Derived.WalkSpells
import Derived.KernelRfl
import Derived.Test.YtbmkdbccdnbbjaaGreatDoorPart1
import Derived.Test.YtbmkdbccdnbbjaaGreatDoorPart2
import Derived.Test.YtbmkdbccdnbbjaaGreatDoorPart5
import Derived.Test.YtbmkdbccdnbbjaaGreatDoorPart4
import Derived.LoopN
import Derived.Deep.RegionWith
import Derived.BigQuiet
import Derived.Deep.QuietTactic

namespace Go.Proofs.YtbmkdbccdnbbjaaGreatDoor
open Go.RowKit
set_option linter.unusedVariables false
set_option maxRecDepth 100000

structure ZrJ (w0 W0 : World) (a : Im4) (m : Img) (g b off : Nat) (T : Int) (d : Nat → Bool) (w : World) (s5 s6 s7 s8 s9 s10 s11 s12 : Value) : Prop where
  bw : d 8 = false → Below W0.heap.size W0 w
  p1 : d 1 = true → d 7 = false → ∃ a1 ts, s6 = imV a1 m ∧ OwnIm w W0.heap.size a1 m ts
  p7 : d 7 = true → d 8 = false → ∃ a1 ts, s12 = imV a1 m ∧ OwnIm w W0.heap.size a1 (imDrop m T) ts
  p8 : d 8 = true → ∃ a1 ts, ImQ w0 w W0.heap.size a1 m (imDrop m T) ts
  f0 : d 0 = true → s5 = .agg #[.slice a.ro m.refs.length a.rc, .slice (some ⟨b, off, none⟩) m.table.length a.tc, .slice a.so m.snaps.length a.sc, .slice a.dq m.data.length a.dc]
  f2 : d 2 = true → s7 = .pointer (some ⟨w0.heap.size, 1, none⟩)
  f3 : d 3 = true → s8 = .slice (some ⟨b, off, none⟩) m.table.length a.tc
  f4 : d 4 = true → s9 = .int .i64 g
  f5 : d 5 = true → s10 = .pointer (some ⟨b, off + g, none⟩)
  f6 : d 6 = true → s11 = .int .i64 T

theorem ZrJ.s0 {w0 W0 : World} {a : Im4} {m : Img} {g b off : Nat} {T : Int} {d : Nat → Bool} {w : World} {s5 s6 s7 s8 s9 s10 s11 s12 v : Value} (I : ZrJ w0 W0 a m g b off T d w s5 s6 s7 s8 s9 s10 s11 s12) (hd : d 0 = false) (hv : v = .agg #[.slice a.ro m.refs.length a.rc, .slice (some ⟨b, off, none⟩) m.table.length a.tc, .slice a.so m.snaps.length a.sc, .slice a.dq m.data.length a.dc]) : ZrJ w0 W0 a m g b off T (updD d 0) w v s6 s7 s8 s9 s10 s11 s12 where
  bw := fun h => I.bw (upd_nf h)
  p1 := fun h h' => I.p1 (upd_ne (by decide) h) (upd_nf h')
  p7 := fun h h' => I.p7 (upd_ne (by decide) h) (upd_nf h')
  p8 := fun h => I.p8 (upd_ne (by decide) h)
  f0 := fun _ => hv
  f2 := fun h => I.f2 (upd_ne (by decide) h)
  f3 := fun h => I.f3 (upd_ne (by decide) h)
  f4 := fun h => I.f4 (upd_ne (by decide) h)
  f5 := fun h => I.f5 (upd_ne (by decide) h)
  f6 := fun h => I.f6 (upd_ne (by decide) h)

theorem ZrJ.s1 {w0 W0 : World} {a : Im4} {m : Img} {g b off : Nat} {T : Int} {d : Nat → Bool} {w w2 : World} {s5 s6 s7 s8 s9 s10 s11 s12 v : Value} (I : ZrJ w0 W0 a m g b off T d w s5 s6 s7 s8 s9 s10 s11 s12) (hd : d 1 = false) (h7 : d 7 = false) (h8 : d 8 = false) (hb : Below w.heap.size w w2) {a1 : Im4} {ts : List Value} (hv : v = imV a1 m) (ho : OwnIm w2 W0.heap.size a1 m ts) : ZrJ w0 W0 a m g b off T (updD d 1) w2 s5 v s7 s8 s9 s10 s11 s12 where
  bw := fun _ => fr (I.bw h8) hb
  p1 := fun _ _ => ⟨a1, ts, hv, ho⟩
  p7 := fun h _ => no_d (upd_ne (by decide) h) h7
  p8 := fun h => no_d (upd_ne (by decide) h) h8
  f0 := fun h => I.f0 (upd_ne (by decide) h)
  f2 := fun h => I.f2 (upd_ne (by decide) h)
  f3 := fun h => I.f3 (upd_ne (by decide) h)
  f4 := fun h => I.f4 (upd_ne (by decide) h)
  f5 := fun h => I.f5 (upd_ne (by decide) h)
  f6 := fun h => I.f6 (upd_ne (by decide) h)

theorem ZrJ.s2 {w0 W0 : World} {a : Im4} {m : Img} {g b off : Nat} {T : Int} {d : Nat → Bool} {w : World} {s5 s6 s7 s8 s9 s10 s11 s12 v : Value} (I : ZrJ w0 W0 a m g b off T d w s5 s6 s7 s8 s9 s10 s11 s12) (hd : d 2 = false) (hv : v = .pointer (some ⟨w0.heap.size, 1, none⟩)) : ZrJ w0 W0 a m g b off T (updD d 2) w s5 s6 v s8 s9 s10 s11 s12 where
  bw := fun h => I.bw (upd_nf h)
  p1 := fun h h' => I.p1 (upd_ne (by decide) h) (upd_nf h')
  p7 := fun h h' => I.p7 (upd_ne (by decide) h) (upd_nf h')
  p8 := fun h => I.p8 (upd_ne (by decide) h)
  f0 := fun h => I.f0 (upd_ne (by decide) h)
  f2 := fun _ => hv
  f3 := fun h => I.f3 (upd_ne (by decide) h)
  f4 := fun h => I.f4 (upd_ne (by decide) h)
  f5 := fun h => I.f5 (upd_ne (by decide) h)
  f6 := fun h => I.f6 (upd_ne (by decide) h)

theorem ZrJ.s3 {w0 W0 : World} {a : Im4} {m : Img} {g b off : Nat} {T : Int} {d : Nat → Bool} {w : World} {s5 s6 s7 s8 s9 s10 s11 s12 v : Value} (I : ZrJ w0 W0 a m g b off T d w s5 s6 s7 s8 s9 s10 s11 s12) (hd : d 3 = false) (hv : v = .slice (some ⟨b, off, none⟩) m.table.length a.tc) : ZrJ w0 W0 a m g b off T (updD d 3) w s5 s6 s7 v s9 s10 s11 s12 where
  bw := fun h => I.bw (upd_nf h)
  p1 := fun h h' => I.p1 (upd_ne (by decide) h) (upd_nf h')
  p7 := fun h h' => I.p7 (upd_ne (by decide) h) (upd_nf h')
  p8 := fun h => I.p8 (upd_ne (by decide) h)
  f0 := fun h => I.f0 (upd_ne (by decide) h)
  f2 := fun h => I.f2 (upd_ne (by decide) h)
  f3 := fun _ => hv
  f4 := fun h => I.f4 (upd_ne (by decide) h)
  f5 := fun h => I.f5 (upd_ne (by decide) h)
  f6 := fun h => I.f6 (upd_ne (by decide) h)

theorem ZrJ.s4 {w0 W0 : World} {a : Im4} {m : Img} {g b off : Nat} {T : Int} {d : Nat → Bool} {w : World} {s5 s6 s7 s8 s9 s10 s11 s12 v : Value} (I : ZrJ w0 W0 a m g b off T d w s5 s6 s7 s8 s9 s10 s11 s12) (hd : d 4 = false) (hv : v = .int .i64 g) : ZrJ w0 W0 a m g b off T (updD d 4) w s5 s6 s7 s8 v s10 s11 s12 where
  bw := fun h => I.bw (upd_nf h)
  p1 := fun h h' => I.p1 (upd_ne (by decide) h) (upd_nf h')
  p7 := fun h h' => I.p7 (upd_ne (by decide) h) (upd_nf h')
  p8 := fun h => I.p8 (upd_ne (by decide) h)
  f0 := fun h => I.f0 (upd_ne (by decide) h)
  f2 := fun h => I.f2 (upd_ne (by decide) h)
  f3 := fun h => I.f3 (upd_ne (by decide) h)
  f4 := fun _ => hv
  f5 := fun h => I.f5 (upd_ne (by decide) h)
  f6 := fun h => I.f6 (upd_ne (by decide) h)

theorem ZrJ.s5 {w0 W0 : World} {a : Im4} {m : Img} {g b off : Nat} {T : Int} {d : Nat → Bool} {w : World} {s5 s6 s7 s8 s9 s10 s11 s12 v : Value} (I : ZrJ w0 W0 a m g b off T d w s5 s6 s7 s8 s9 s10 s11 s12) (hd : d 5 = false) (hv : v = .pointer (some ⟨b, off + g, none⟩)) : ZrJ w0 W0 a m g b off T (updD d 5) w s5 s6 s7 s8 s9 v s11 s12 where
  bw := fun h => I.bw (upd_nf h)
  p1 := fun h h' => I.p1 (upd_ne (by decide) h) (upd_nf h')
  p7 := fun h h' => I.p7 (upd_ne (by decide) h) (upd_nf h')
  p8 := fun h => I.p8 (upd_ne (by decide) h)
  f0 := fun h => I.f0 (upd_ne (by decide) h)
  f2 := fun h => I.f2 (upd_ne (by decide) h)
  f3 := fun h => I.f3 (upd_ne (by decide) h)
  f4 := fun h => I.f4 (upd_ne (by decide) h)
  f5 := fun _ => hv
  f6 := fun h => I.f6 (upd_ne (by decide) h)

theorem ZrJ.s6 {w0 W0 : World} {a : Im4} {m : Img} {g b off : Nat} {T : Int} {d : Nat → Bool} {w : World} {s5 s6 s7 s8 s9 s10 s11 s12 v : Value} (I : ZrJ w0 W0 a m g b off T d w s5 s6 s7 s8 s9 s10 s11 s12) (hd : d 6 = false) (hv : v = .int .i64 T) : ZrJ w0 W0 a m g b off T (updD d 6) w s5 s6 s7 s8 s9 s10 v s12 where
  bw := fun h => I.bw (upd_nf h)
  p1 := fun h h' => I.p1 (upd_ne (by decide) h) (upd_nf h')
  p7 := fun h h' => I.p7 (upd_ne (by decide) h) (upd_nf h')
  p8 := fun h => I.p8 (upd_ne (by decide) h)
  f0 := fun h => I.f0 (upd_ne (by decide) h)
  f2 := fun h => I.f2 (upd_ne (by decide) h)
  f3 := fun h => I.f3 (upd_ne (by decide) h)
  f4 := fun h => I.f4 (upd_ne (by decide) h)
  f5 := fun h => I.f5 (upd_ne (by decide) h)
  f6 := fun _ => hv

theorem ZrJ.s7 {w0 W0 : World} {a : Im4} {m : Img} {g b off : Nat} {T : Int} {d : Nat → Bool} {w w2 : World} {s5 s6 s7 s8 s9 s10 s11 s12 v : Value} (I : ZrJ w0 W0 a m g b off T d w s5 s6 s7 s8 s9 s10 s11 s12) (hd : d 7 = false) (h8 : d 8 = false) (hb : Below W0.heap.size W0 w2) {a1 : Im4} {ts : List Value} (hv : v = imV a1 m) (ho : OwnIm w2 W0.heap.size a1 (imDrop m T) ts) : ZrJ w0 W0 a m g b off T (updD d 7) w2 s5 s6 s7 s8 s9 s10 s11 v where
  bw := fun _ => hb
  p1 := fun _ h' => no_d (k := 7) upd_at h'
  p7 := fun _ _ => ⟨a1, ts, hv, ho⟩
  p8 := fun h => no_d (upd_ne (by decide) h) h8
  f0 := fun h => I.f0 (upd_ne (by decide) h)
  f2 := fun h => I.f2 (upd_ne (by decide) h)
  f3 := fun h => I.f3 (upd_ne (by decide) h)
  f4 := fun h => I.f4 (upd_ne (by decide) h)
  f5 := fun h => I.f5 (upd_ne (by decide) h)
  f6 := fun h => I.f6 (upd_ne (by decide) h)

theorem ZrJ.s8 {w0 W0 : World} {a : Im4} {m : Img} {g b off : Nat} {T : Int} {d : Nat → Bool} {w w2 : World} {s5 s6 s7 s8 s9 s10 s11 s12 v : Value} (I : ZrJ w0 W0 a m g b off T d w s5 s6 s7 s8 s9 s10 s11 s12) (hd : d 8 = false) (p7' : d 7 = true) {a1 : Im4} {ts : List Value} (hq : ImQ w0 w2 W0.heap.size a1 m (imDrop m T) ts) : ZrJ w0 W0 a m g b off T (updD d 8) w2 s5 s6 s7 s8 s9 s10 s11 s12 where
  bw := fun h => no_d (k := 8) upd_at h
  p1 := fun _ h' => no_d p7' (upd_nf h')
  p7 := fun _ h' => no_d (k := 8) upd_at h'
  p8 := fun _ => ⟨a1, ts, hq⟩
  f0 := fun h => I.f0 (upd_ne (by decide) h)
  f2 := fun h => I.f2 (upd_ne (by decide) h)
  f3 := fun h => I.f3 (upd_ne (by decide) h)
  f4 := fun h => I.f4 (upd_ne (by decide) h)
  f5 := fun h => I.f5 (upd_ne (by decide) h)
  f6 := fun h => I.f6 (upd_ne (by decide) h)

theorem imZero_at {m : Img} {g : Nat} (hg : g < m.table.length) : imZero m g = { imDrop m m.table[g] with table := (imDrop m m.table[g]).table.set g 1 } := by
  have e : m.table.getD g 0 = m.table[g] := by simp [List.getD, hg]
  unfold imZero
  simp only [e]

set_option maxHeartbeats 1600000 in
theorem l10Zero_R (a : Im4) (m : Img) (g : Nat) (R : Img) (w : World) (hR : R = imZero m g) (hM : ImM m) (hg : g < m.table.length) (hc : ImS w a m) :
    Calls Tryz.prog 72 #[imV a m, .int .i64 g] w fun e w' => ∃ a' ts, e = .returned (imV a' R) ∧ OwnIm w' w.heap.size a' R ts ∧ Below w.heap.size w w' := by
  have HE := hide (ImE.new w a m hc)
  have HM := hide hM
  have hgi : (g : Int) < (m.table.length : Int) := by omega
  have HR := hide (hR.trans (imZero_at hg))
  have HTV := hide (hM.tv g hg)
  have ht12 := hM.t
  clear hc hM hR
  go_enter Tryz.func72, Tryz.ntmps72
  go_upto_region 1 with fail
  revert HE
  generalize ((w.alloc _).alloc _) = W0
  intro HE
  obtain ⟨b, off, et, hct⟩ := (unhide HE).s.t g hg
  have hbl := World.block_lt_of_cell? _ _ hct
  have HAV : Hid (imV a m = .agg #[.slice a.ro m.refs.length a.rc, .slice (some ⟨b, off, none⟩) m.table.length a.tc, .slice a.so m.snaps.length a.sc, .slice a.dq m.data.length a.dc]) := hide (by rw [imV, et])
  have HCELL : Hid (∀ W, Below W0.heap.size W0 W → W.cell? ⟨w.heap.size, 0, none⟩ = some (.slice a.ro m.refs.length a.rc) ∧ W.cell? ⟨w.heap.size, 1, none⟩ = some (.slice (some ⟨b, off, none⟩) m.table.length a.tc) ∧ W.cell? ⟨w.heap.size, 2, none⟩ = some (.slice a.so m.snaps.length a.sc) ∧ W.cell? ⟨w.heap.size, 3, none⟩ = some (.slice a.dq m.data.length a.dc) ∧ W.cell? ⟨b, off + g, none⟩ = some (.int .i64 m.table[g])) := hide (fun W hW => by
    obtain ⟨k0, k1, k2, k3⟩ := ((unhide HE).v.below hW).cells
    rw [et] at k1
    exact ⟨k0, k1, k2, k3, (hW.cell (p := ⟨b, off + g, none⟩) hbl).trans hct⟩)
  have HOWN : Hid (∀ W, Below W0.heap.size W0 W → Calls Tryz.prog 45 #[.agg #[.slice a.ro m.refs.length a.rc, .slice (some ⟨b, off, none⟩) m.table.length a.tc, .slice a.so m.snaps.length a.sc, .slice a.dq m.data.length a.dc]] W fun e w' => ∃ a' ts, e = .returned (imV a' m) ∧ OwnIm w' W.heap.size a' m ts ∧ Below W.heap.size W w') := hide (fun W hW => by rw [← unhide HAV]; exact l10Own_M a m W (unhide HM) ((unhide HE).s.below hW))
  clear et hct
  generalize hTT : m.table[g] = T at *
  clear hTT
  refine wp_region_inv2 (fun d f wz => ∃ s5 s6 s7 s8 s9 s10 s11 s12, f = (⟨#[imV a m, .int .i64 g, .pointer (some ⟨w.heap.size, 0, none⟩), undef, .pointer (some ⟨w.heap.size + 1, 0, none⟩), s5, s6, s7, s8, s9, s10, s11, s12, undef, undef, undef, undef, undef], []⟩ : Act) ∧ ZrJ w W0 a m g b off T d wz s5 s6 s7 s8 s9 s10 s11 s12) (by kernel_rfl) (by kernel_rfl) (noG_spec (by kernel_rfl)) ⟨undef, undef, undef, undef, undef, undef, undef, undef, rfl, ⟨fun _ => (Below.refl _ W0).drew, fun h => (by cases h), fun h => (by cases h), fun h => (by cases h), fun h => (by cases h), fun h => (by cases h), fun h => (by cases h), fun h => (by cases h), fun h => (by cases h), fun h => (by cases h)⟩⟩ ?hs ?he
  case hs =>
    intro d f wz i o hc hI ho hd hp K hK
    obtain ⟨s5, s6, s7, s8, s9, s10, s11, s12, rfl, I⟩ := hI
    have hi : i < 9 := (List.getElem?_eq_some_iff.1 ho).1
    rcases (show i = 0 ∨ i = 1 ∨ i = 2 ∨ i = 3 ∨ i = 4 ∨ i = 5 ∨ i = 6 ∨ i = 7 ∨ i = 8 by omega) with rfl | rfl | rfl | rfl | rfl | rfl | rfl | rfl | rfl
    · cases ho
      have h8 := not_yet hc 9 (j := 8) (i := 0) (by kernel_rfl) hd
      obtain ⟨k0, k1, k2, k3, k4⟩ := unhide HCELL wz (I.bw h8)
      unfold Oper.wp
      go_simp
      exact hK _ _ ⟨_, _, _, _, _, _, _, _, rfl, I.s0 hd rfl⟩
    · cases ho
      have h8 := not_yet hc 9 (j := 8) (i := 1) (by kernel_rfl) hd
      have h7 := not_yet hc 9 (j := 7) (i := 1) (by kernel_rfl) hd
      have p := hp ⟨0, .data⟩ (by simp) rfl
      have e1 := I.f0 p
      subst e1
      unfold Oper.wp
      go_simp
      refine (unhide HOWN wz (I.bw h8)).mono ?_
      rintro e w2 ⟨a1, ts, rfl, ho1, hb1⟩
      exact hK _ _ ⟨_, _, _, _, _, _, _, _, rfl, I.s1 hd h7 h8 hb1 rfl (ho1.base (I.bw h8).size)⟩
    · cases ho
      unfold Oper.wp
      go_simp
      exact hK _ _ ⟨_, _, _, _, _, _, _, _, rfl, I.s2 hd rfl⟩
    · cases ho
      have h8 := not_yet hc 9 (j := 8) (i := 3) (by kernel_rfl) hd
      have p := hp ⟨2, .data⟩ (by simp) rfl
      have e1 := I.f2 p
      subst e1
      obtain ⟨k0, k1, k2, k3, k4⟩ := unhide HCELL wz (I.bw h8)
      unfold Oper.wp
      go_simp
      exact hK _ _ ⟨_, _, _, _, _, _, _, _, rfl, I.s3 hd rfl⟩
    · cases ho
      unfold Oper.wp
      go_simp
      exact hK _ _ ⟨_, _, _, _, _, _, _, _, rfl, I.s4 hd rfl⟩
    · cases ho
      have p := hp ⟨3, .data⟩ (by simp) rfl
      have e1 := I.f3 p
      subst e1
      have p2 := hp ⟨4, .data⟩ (by simp) rfl
      have e2 := I.f4 p2
      subst e2
      unfold Oper.wp
      go_simp
      exact hK _ _ ⟨_, _, _, _, _, _, _, _, rfl, I.s5 hd (by first | rfl | simp)⟩
    · cases ho
      have h8 := not_yet hc 9 (j := 8) (i := 6) (by kernel_rfl) hd
      have p := hp ⟨5, .data⟩ (by simp) rfl
      have e1 := I.f5 p
      subst e1
      obtain ⟨k0, k1, k2, k3, k4⟩ := unhide HCELL wz (I.bw h8)
      unfold Oper.wp
      go_simp
      exact hK _ _ ⟨_, _, _, _, _, _, _, _, rfl, I.s6 hd rfl⟩
    · cases ho
      have h8 := not_yet hc 9 (j := 8) (i := 7) (by kernel_rfl) hd
      have p1 := hp ⟨1, .data⟩ (by simp) rfl
      have p6 := hp ⟨6, .data⟩ (by simp) rfl
      obtain ⟨a1, ts, e6, ho1⟩ := I.p1 p1 hd
      subst e6
      have e1 := I.f6 p6
      subst e1
      unfold Oper.wp
      go_simp
      refine (l10Drop_M a1 m ts _ T _ (unhide HTV).1 (unhide HTV).2 (unhide HM).r (unhide HM).d (fun c h => by have := (unhide HM).rv c h; omega) ho1).mono ?_
      rintro e w2 ⟨rfl, ho2, hk2⟩
      exact hK _ _ ⟨_, _, _, _, _, _, _, _, rfl, I.s7 hd h8 ((I.bw h8).trans (hk2.below (I.bw h8).size (fun g hg => (ho1.ge g hg).1))) rfl ho2⟩
    · cases ho
      have p7 := hp ⟨7, .data⟩ (by simp) rfl
      obtain ⟨a1, ts, e12, ho1⟩ := I.p7 p7 hd
      subst e12
      have hv := (unhide HE).v.below (I.bw hd)
      have hr := (unhide HE).r.below (I.bw hd)
      obtain ⟨x0, x1, x2, x3⟩ := hv.cells
      obtain ⟨z0, z1, z2, z3⟩ := hv.free
      have hq := ImQ.put (w := w) hv hr ho1 (fr (unhide HE).b (I.bw hd)) (by have := (unhide HE).r.lt; omega) (m0 := m) (imDrop_lens _ _).1 (imDrop_lens _ _).2.1 (imDrop_lens _ _).2.2.1 (imDrop_lens _ _).2.2.2
      unfold Oper.wp
      go_simp
      exact hK _ _ ⟨_, _, _, _, _, _, _, _, rfl, I.s8 (v := undef) hd p7 hq⟩
  case he =>
    intro d f wz hI hall
    obtain ⟨s5, s6, s7, s8, s9, s10, s11, s12, rfl, I⟩ := hI
    obtain ⟨a1, ts, hq⟩ := I.p8 (hall 8 (by decide))
    have HQ := hide hq
    clear I hall hq HCELL HOWN HAV
    generalize imDrop m T = D at *
    have hgD : g < D.table.length := by rw [(unhide HQ).e2]; exact hg
    obtain ⟨c0, c1, c2, c3⟩ := (unhide HQ).v.cells
    obtain ⟨g3, e3, hc3, hf3, hs3⟩ := (unhide HQ).setT (c := g) hgD
    have HQ7 := hide (hs3 1)
    rw [e3] at c1
    clear e3 hs3
    go_upto_region 3 with fail
    clear c0 c1 c2 c3 hc3 hf3
    revert HQ7
    generalize (wz.setCell _ _) = W7
    intro HQ7
    have HF := hide (unhide HQ7).fin
    obtain ⟨c0, c1, c2, c3⟩ := (unhide HQ7).v.cells
    obtain ⟨r0, r1, r2, r3⟩ := (unhide HQ7).r.cells
    obtain ⟨z0, z1, z2, z3⟩ := (unhide HQ7).r.free
    go_wp2
    refine bodyPost_ret (res_im Tryz.results72 rfl (unhide HF).1) rfl ?_
    rw [unhide HR]
    first | exact ⟨a1, ts, by rw [← (unhide HQ7).val], (unhide HF).2.1, (unhide HF).2.2⟩ | exact ⟨a1, by rw [← (unhide HQ7).val], ⟨ts, (unhide HF).2.1⟩, (unhide HF).2.2⟩

end Go.Proofs.YtbmkdbccdnbbjaaGreatDoor

namespace Go.Proofs.YtbmkdbccdnbbjaaGreatDoor
open Go.RowKit
set_option linter.unusedVariables false
set_option maxRecDepth 100000

set_option maxHeartbeats 1600000 in
theorem l09Resize_any (ao : Option Addr) (cap : Nat) (xs : List Int) (n : Nat) (w : World) (hn : n ≤ 1000) (hl : xs.length ≤ 1000) (hc : Is w ao xs) :
    Calls Tryz.prog 137 #[.slice ao xs.length cap, .int .i64 n] w fun e w' => ∃ v, e = .returned v ∧ OwnN w' w.heap.size v (rzTo xs n) ∧ Below w.heap.size w w' := by
  obtain ⟨j0, hj, hy0, hy1, hy2⟩ := info_parts infoM
  have HC := hide hc
  have HA : Hid (Below w.heap.size w (w.alloc (.cells #[] 3))) := hide (Joins.below_alloc1 _ _)
  clear hc
  go_enter Tryz.func137, Tryz.ntmps137
  go_wp2
  go_loopw [5, 6] (fun o i wr => ∃ (k : Nat) (qo : Option Addr) (qa : Nat), k ≤ n ∧ i = .int .i64 k ∧ o = .slice qo k qa ∧ Hid (OwnR wr w.heap.size 3 1 (.slice qo k qa) k (intV (rzTo xs k))) ∧ Hid (Below w.heap.size w wr)) (fun _ i _ => n - (intOf i).toNat)
  case atStart => exact ⟨0, _, _, Nat.zero_le _, rfl, rfl, hide (.inl ⟨rfl, rfl, _, rfl⟩), HA⟩
  case round =>
    obtain ⟨k, qo, qa, hk, rfl, rfl, HO, HB⟩ := hrel
    have HSZ := hide (unhide HB).size
    by_cases hlt : k < n
    · have hlti : (k : Int) < (n : Int) := by omega
      by_cases hkx : k < xs.length
      · obtain ⟨b, off, rfl, hcl⟩ := (unhide HC).below (unhide HB) k hkx
        have HS : Hid (rzTo xs (k + 1) = rzTo xs k ++ [xs[k]]) := hide (by rw [rzTo_succ]; simp [List.getD, hkx])
        have HOA := hide ((unhide HO).below (Joins.below_alloc1 _ (.cells #[.int .i64 xs[k]] 3)))
        have HBA := hide (fr (unhide HB) (Joins.below_alloc1 _ (.cells #[.int .i64 xs[k]] 3)))
        go_wp2_with (at_builtin; refine wpList_append_one rfl _ _ 23 rfl w.heap.size 3 j0 (.int .i64 0) 1 8 Tryz.underlying23 hj hy0 hy1 hy2 rfl (by omega) qo k qa (intV (rzTo xs k)) rfl (unhide HOA) (by have := unhide HSZ; simp; omega) ⟨wr.heap.size, 0, none⟩ _ [.int .i64 xs[k]] rfl rfl (byte_news wr _ _) (int_one _) (by unfold maxLen; omega) (by omega) ?_; intro g2 cap2 wA hoA hkA; have HSF := hide (And.intro hoA (keep_below (unhide HBA) (unhide HOA) (Nat.le_refl _) hkA)); clear hoA hkA)
        go_roundw
        case rel => exact ⟨k + 1, some ⟨g2, 0, none⟩, cap2, by omega, by go_num, rfl, hide (.inr ⟨by omega, by rw [unhide HS, intV_snoc]; exact (unhide HSF).1⟩), hide (unhide HSF).2⟩
        case measure => simp [intOf]; omega
      · have hkxi : ¬ (k : Int) < (xs.length : Int) := by omega
        have HS : Hid (rzTo xs (k + 1) = rzTo xs k ++ [0]) := hide (by rw [rzTo_succ]; simp [List.getD, List.getElem?_eq_none (show xs.length ≤ k by omega)])
        have HOA := hide ((unhide HO).below (Joins.below_alloc1 _ (.cells #[.int .i64 0] 3)))
        have HBA := hide (fr (unhide HB) (Joins.below_alloc1 _ (.cells #[.int .i64 0] 3)))
        go_wp2_with (at_builtin; refine wpList_append_one rfl _ _ 23 rfl w.heap.size 3 j0 (.int .i64 0) 1 8 Tryz.underlying23 hj hy0 hy1 hy2 rfl (by omega) qo k qa (intV (rzTo xs k)) rfl (unhide HOA) (by have := unhide HSZ; simp; omega) ⟨wr.heap.size, 0, none⟩ _ [.int .i64 0] rfl rfl (byte_news wr _ _) (int_one _) (by unfold maxLen; omega) (by omega) ?_; intro g2 cap2 wA hoA hkA; have HSF := hide (And.intro hoA (keep_below (unhide HBA) (unhide HOA) (Nat.le_refl _) hkA)); clear hoA hkA)
        go_roundw
        case rel => exact ⟨k + 1, some ⟨g2, 0, none⟩, cap2, by omega, by go_num, rfl, hide (.inr ⟨by omega, by rw [unhide HS, intV_snoc]; exact (unhide HSF).1⟩), hide (unhide HSF).2⟩
        case measure => simp [intOf]; omega
    · obtain rfl : k = n := by omega
      have HLN := hide (rzTo_len xs k)
      go_wp2
      go_ret
      exact ⟨.slice qo k qa, rfl, ⟨qo, qa, by rw [unhide HLN], by rw [unhide HLN]; exact unhide HO⟩, unhide HB⟩

end Go.Proofs.YtbmkdbccdnbbjaaGreatDoor

namespace Go.Proofs.YtbmkdbccdnbbjaaGreatDoor
open Go.RowKit
set_option linter.unusedVariables false
set_option maxRecDepth 100000

structure RzJ (w0 : World) (B : Nat) (b : Im4) (m0 mk mk' : Img) (ts : List Value) (k gt : Nat) (T : Int) (d : Nat → Bool) (w : World) (s16 s17 s18 s19 s20 s21 s22 : Value) : Prop where
  q0 : d 6 = false → ImQ w0 w B b m0 mk ts
  q6 : d 6 = true → ImQ w0 w B b m0 mk' ts
  v6 : d 6 = true → s22 = .agg #[.slice b.ro m0.refs.length b.rc, .slice (some ⟨gt, 0, none⟩) m0.table.length b.tc, .slice b.so m0.snaps.length b.sc, .slice b.dq m0.data.length b.dc]
  f0 : d 0 = true → s16 = .agg #[.slice b.ro m0.refs.length b.rc, .slice (some ⟨gt, 0, none⟩) m0.table.length b.tc, .slice b.so m0.snaps.length b.sc, .slice b.dq m0.data.length b.dc]
  f1 : d 1 = true → s17 = .pointer (some ⟨w0.heap.size, 1, none⟩)
  f2 : d 2 = true → s18 = .slice (some ⟨gt, 0, none⟩) m0.table.length b.tc
  f3 : d 3 = true → s19 = .int .i64 k
  f4 : d 4 = true → s20 = .pointer (some ⟨gt, k, none⟩)
  f5 : d 5 = true → s21 = .int .i64 T

theorem RzJ.s0 {w0 : World} {B : Nat} {b : Im4} {m0 mk mk' : Img} {ts : List Value} {k gt : Nat} {T : Int} {d : Nat → Bool} {w : World} {s16 s17 s18 s19 s20 s21 s22 v : Value} (I : RzJ w0 B b m0 mk mk' ts k gt T d w s16 s17 s18 s19 s20 s21 s22) (hd : d 0 = false) (hv : v = .agg #[.slice b.ro m0.refs.length b.rc, .slice (some ⟨gt, 0, none⟩) m0.table.length b.tc, .slice b.so m0.snaps.length b.sc, .slice b.dq m0.data.length b.dc]) : RzJ w0 B b m0 mk mk' ts k gt T (updD d 0) w v s17 s18 s19 s20 s21 s22 where
  q0 := fun h => I.q0 (upd_nf h)
  q6 := fun h => I.q6 (upd_ne (by decide) h)
  v6 := fun h => I.v6 (upd_ne (by decide) h)
  f0 := fun _ => hv
  f1 := fun h => I.f1 (upd_ne (by decide) h)
  f2 := fun h => I.f2 (upd_ne (by decide) h)
  f3 := fun h => I.f3 (upd_ne (by decide) h)
  f4 := fun h => I.f4 (upd_ne (by decide) h)
  f5 := fun h => I.f5 (upd_ne (by decide) h)

theorem RzJ.s1 {w0 : World} {B : Nat} {b : Im4} {m0 mk mk' : Img} {ts : List Value} {k gt : Nat} {T : Int} {d : Nat → Bool} {w : World} {s16 s17 s18 s19 s20 s21 s22 v : Value} (I : RzJ w0 B b m0 mk mk' ts k gt T d w s16 s17 s18 s19 s20 s21 s22) (hd : d 1 = false) (hv : v = .pointer (some ⟨w0.heap.size, 1, none⟩)) : RzJ w0 B b m0 mk mk' ts k gt T (updD d 1) w s16 v s18 s19 s20 s21 s22 where
  q0 := fun h => I.q0 (upd_nf h)
  q6 := fun h => I.q6 (upd_ne (by decide) h)
  v6 := fun h => I.v6 (upd_ne (by decide) h)
  f0 := fun h => I.f0 (upd_ne (by decide) h)
  f1 := fun _ => hv
  f2 := fun h => I.f2 (upd_ne (by decide) h)
  f3 := fun h => I.f3 (upd_ne (by decide) h)
  f4 := fun h => I.f4 (upd_ne (by decide) h)
  f5 := fun h => I.f5 (upd_ne (by decide) h)

theorem RzJ.s2 {w0 : World} {B : Nat} {b : Im4} {m0 mk mk' : Img} {ts : List Value} {k gt : Nat} {T : Int} {d : Nat → Bool} {w : World} {s16 s17 s18 s19 s20 s21 s22 v : Value} (I : RzJ w0 B b m0 mk mk' ts k gt T d w s16 s17 s18 s19 s20 s21 s22) (hd : d 2 = false) (hv : v = .slice (some ⟨gt, 0, none⟩) m0.table.length b.tc) : RzJ w0 B b m0 mk mk' ts k gt T (updD d 2) w s16 s17 v s19 s20 s21 s22 where
  q0 := fun h => I.q0 (upd_nf h)
  q6 := fun h => I.q6 (upd_ne (by decide) h)
  v6 := fun h => I.v6 (upd_ne (by decide) h)
  f0 := fun h => I.f0 (upd_ne (by decide) h)
  f1 := fun h => I.f1 (upd_ne (by decide) h)
  f2 := fun _ => hv
  f3 := fun h => I.f3 (upd_ne (by decide) h)
  f4 := fun h => I.f4 (upd_ne (by decide) h)
  f5 := fun h => I.f5 (upd_ne (by decide) h)

theorem RzJ.s3 {w0 : World} {B : Nat} {b : Im4} {m0 mk mk' : Img} {ts : List Value} {k gt : Nat} {T : Int} {d : Nat → Bool} {w : World} {s16 s17 s18 s19 s20 s21 s22 v : Value} (I : RzJ w0 B b m0 mk mk' ts k gt T d w s16 s17 s18 s19 s20 s21 s22) (hd : d 3 = false) (hv : v = .int .i64 k) : RzJ w0 B b m0 mk mk' ts k gt T (updD d 3) w s16 s17 s18 v s20 s21 s22 where
  q0 := fun h => I.q0 (upd_nf h)
  q6 := fun h => I.q6 (upd_ne (by decide) h)
  v6 := fun h => I.v6 (upd_ne (by decide) h)
  f0 := fun h => I.f0 (upd_ne (by decide) h)
  f1 := fun h => I.f1 (upd_ne (by decide) h)
  f2 := fun h => I.f2 (upd_ne (by decide) h)
  f3 := fun _ => hv
  f4 := fun h => I.f4 (upd_ne (by decide) h)
  f5 := fun h => I.f5 (upd_ne (by decide) h)

theorem RzJ.s4 {w0 : World} {B : Nat} {b : Im4} {m0 mk mk' : Img} {ts : List Value} {k gt : Nat} {T : Int} {d : Nat → Bool} {w : World} {s16 s17 s18 s19 s20 s21 s22 v : Value} (I : RzJ w0 B b m0 mk mk' ts k gt T d w s16 s17 s18 s19 s20 s21 s22) (hd : d 4 = false) (hv : v = .pointer (some ⟨gt, k, none⟩)) : RzJ w0 B b m0 mk mk' ts k gt T (updD d 4) w s16 s17 s18 s19 v s21 s22 where
  q0 := fun h => I.q0 (upd_nf h)
  q6 := fun h => I.q6 (upd_ne (by decide) h)
  v6 := fun h => I.v6 (upd_ne (by decide) h)
  f0 := fun h => I.f0 (upd_ne (by decide) h)
  f1 := fun h => I.f1 (upd_ne (by decide) h)
  f2 := fun h => I.f2 (upd_ne (by decide) h)
  f3 := fun h => I.f3 (upd_ne (by decide) h)
  f4 := fun _ => hv
  f5 := fun h => I.f5 (upd_ne (by decide) h)

theorem RzJ.s5 {w0 : World} {B : Nat} {b : Im4} {m0 mk mk' : Img} {ts : List Value} {k gt : Nat} {T : Int} {d : Nat → Bool} {w : World} {s16 s17 s18 s19 s20 s21 s22 v : Value} (I : RzJ w0 B b m0 mk mk' ts k gt T d w s16 s17 s18 s19 s20 s21 s22) (hd : d 5 = false) (hv : v = .int .i64 T) : RzJ w0 B b m0 mk mk' ts k gt T (updD d 5) w s16 s17 s18 s19 s20 v s22 where
  q0 := fun h => I.q0 (upd_nf h)
  q6 := fun h => I.q6 (upd_ne (by decide) h)
  v6 := fun h => I.v6 (upd_ne (by decide) h)
  f0 := fun h => I.f0 (upd_ne (by decide) h)
  f1 := fun h => I.f1 (upd_ne (by decide) h)
  f2 := fun h => I.f2 (upd_ne (by decide) h)
  f3 := fun h => I.f3 (upd_ne (by decide) h)
  f4 := fun h => I.f4 (upd_ne (by decide) h)
  f5 := fun _ => hv

theorem RzJ.s6 {w0 : World} {B : Nat} {b : Im4} {m0 mk mk' : Img} {ts : List Value} {k gt : Nat} {T : Int} {d : Nat → Bool} {w w2 : World} {s16 s17 s18 s19 s20 s21 s22 v : Value} (I : RzJ w0 B b m0 mk mk' ts k gt T d w s16 s17 s18 s19 s20 s21 s22) (hd : d 6 = false) (hv : v = .agg #[.slice b.ro m0.refs.length b.rc, .slice (some ⟨gt, 0, none⟩) m0.table.length b.tc, .slice b.so m0.snaps.length b.sc, .slice b.dq m0.data.length b.dc]) (hq : ImQ w0 w2 B b m0 mk' ts) : RzJ w0 B b m0 mk mk' ts k gt T (updD d 6) w2 s16 s17 s18 s19 s20 s21 v where
  q0 := fun h => no_d (k := 6) upd_at h
  q6 := fun _ => hq
  v6 := fun _ => hv
  f0 := fun h => I.f0 (upd_ne (by decide) h)
  f1 := fun h => I.f1 (upd_ne (by decide) h)
  f2 := fun h => I.f2 (upd_ne (by decide) h)
  f3 := fun h => I.f3 (upd_ne (by decide) h)
  f4 := fun h => I.f4 (upd_ne (by decide) h)
  f5 := fun h => I.f5 (upd_ne (by decide) h)

theorem RzJ.s7 {w0 : World} {B : Nat} {b : Im4} {m0 mk mk' : Img} {ts : List Value} {k gt : Nat} {T : Int} {d : Nat → Bool} {w w2 : World} {s16 s17 s18 s19 s20 s21 s22 v : Value} (I : RzJ w0 B b m0 mk mk' ts k gt T d w s16 s17 s18 s19 s20 s21 s22) (hd : d 7 = false) (p6 : d 6 = true) (hq : ImQ w0 w2 B b m0 mk' ts) : RzJ w0 B b m0 mk mk' ts k gt T (updD d 7) w2 s16 s17 s18 s19 s20 s21 s22 where
  q0 := fun h => no_d p6 (upd_nf h)
  q6 := fun _ => hq
  v6 := fun h => I.v6 p6
  f0 := fun h => I.f0 (upd_ne (by decide) h)
  f1 := fun h => I.f1 (upd_ne (by decide) h)
  f2 := fun h => I.f2 (upd_ne (by decide) h)
  f3 := fun h => I.f3 (upd_ne (by decide) h)
  f4 := fun h => I.f4 (upd_ne (by decide) h)
  f5 := fun h => I.f5 (upd_ne (by decide) h)

abbrev rzFr (t0 t1 t2 t3 t4 t5 t6 t7 t8 t9 t10 t11 t12 t13 t14 t15 s16 s17 s18 s19 s20 s21 s22 t23 t24 t25 t26 t27 t28 : Value) : Act := ⟨#[t0, t1, t2, t3, t4, t5, t6, t7, t8, t9, t10, t11, t12, t13, t14, t15, s16, s17, s18, s19, s20, s21, s22, t23, t24, t25, t26, t27, t28], []⟩
theorem rzFr_region {P : Program} {id : Nat} {Q : Exit → Act → World → Prop} {l : List Oper} {t0 t1 t2 t3 t4 t5 t6 t7 t8 t9 t10 t11 t12 t13 t14 t15 s16 s17 s18 s19 s20 s21 s22 t23 t24 t25 t26 t27 t28 : Value} {W : World} (J : (Nat → Bool) → World → Value → Value → Value → Value → Value → Value → Value →  Prop) (hm : P.follows .mixedOrders = true) (hl : linB l = true)
    (hg : ∀ (i : Nat) (o : Oper), l[i]? = some o → o.guard = none) (h0 : J (fun _ => false) { W with drawn := W.drawn + 1 } s16 s17 s18 s19 s20 s21 s22)
    (hs : ∀ (d : Nat → Bool) (w : World) (i : Nat) (o : Oper) (r16 r17 r18 r19 r20 r21 r22 : Value), Closed l d → J d w r16 r17 r18 r19 r20 r21 r22 → l[i]? = some o → d i = false → (∀ e ∈ o.after, Region.binds .any e = true → d e.on = true) → ∀ K : Act → World → Prop, (∀ (w' : World) (q16 q17 q18 q19 q20 q21 q22 : Value), J (updD d i) w' q16 q17 q18 q19 q20 q21 q22 → K (rzFr t0 t1 t2 t3 t4 t5 t6 t7 t8 t9 t10 t11 t12 t13 t14 t15 q16 q17 q18 q19 q20 q21 q22 t23 t24 t25 t26 t27 t28) w') → o.wp P (rzFr t0 t1 t2 t3 t4 t5 t6 t7 t8 t9 t10 t11 t12 t13 t14 t15 r16 r17 r18 r19 r20 r21 r22 t23 t24 t25 t26 t27 t28) w K Q)
    (he : ∀ (d : Nat → Bool) (w : World) (r16 r17 r18 r19 r20 r21 r22 : Value), J d w r16 r17 r18 r19 r20 r21 r22 → (∀ i, i < l.length → d i = true) → Q .normal (rzFr t0 t1 t2 t3 t4 t5 t6 t7 t8 t9 t10 t11 t12 t13 t14 t15 r16 r17 r18 r19 r20 r21 r22 t23 t24 t25 t26 t27 t28) w) : (Code.region id l.toArray true).wp P Q (rzFr t0 t1 t2 t3 t4 t5 t6 t7 t8 t9 t10 t11 t12 t13 t14 t15 s16 s17 s18 s19 s20 s21 s22 t23 t24 t25 t26 t27 t28) W := by
  refine wp_region_inv2 (fun d f w => ∃ r16 r17 r18 r19 r20 r21 r22, f = rzFr t0 t1 t2 t3 t4 t5 t6 t7 t8 t9 t10 t11 t12 t13 t14 t15 r16 r17 r18 r19 r20 r21 r22 t23 t24 t25 t26 t27 t28 ∧ J d w r16 r17 r18 r19 r20 r21 r22) hm hl hg ⟨s16, s17, s18, s19, s20, s21, s22, rfl, h0⟩ ?_ ?_
  · intro d f w i o hc hI ho hd hp K hK
    obtain ⟨r16, r17, r18, r19, r20, r21, r22, rfl, hJ⟩ := hI
    exact hs d w i o r16 r17 r18 r19 r20 r21 r22 hc hJ ho hd hp K (fun w' q16 q17 q18 q19 q20 q21 q22 hJ' => hK _ _ ⟨q16, q17, q18, q19, q20, q21, q22, rfl, hJ'⟩)
  · intro d f w hI hall
    obtain ⟨r16, r17, r18, r19, r20, r21, r22, rfl, hJ⟩ := hI
    exact he d w r16 r17 r18 r19 r20 r21 r22 hJ hall

def rzD (m : Img) (n k : Nat) : Img := imDrops m ((m.table.take k).drop n)
theorem rzD_start (m : Img) (n : Nat) : rzD m n n = m := by
  have : (m.table.take n).drop n = [] := List.drop_eq_nil_of_le (by rw [List.length_take]; omega)
  rw [rzD, this]; rfl
theorem rzD_succ {m : Img} {n k : Nat} (hn : n ≤ k) (hk : k < m.table.length) : rzD m n (k + 1) = imDrop (rzD m n k) m.table[k] := by
  unfold rzD
  rw [List.take_succ_eq_append_getElem hk, List.drop_append_of_le_length (by rw [List.length_take]; omega)]
  unfold imDrops
  rw [List.foldl_append]; rfl
theorem rzD_all (m : Img) {n k : Nat} (hk : m.table.length ≤ k) : rzD m n k = imDrops m (m.table.drop n) := by rw [rzD, List.take_of_length_le hk]
theorem imDrops_same (es : List Int) : ∀ m : Img, (imDrops m es).table = m.table ∧ (imDrops m es).snaps = m.snaps ∧ (imDrops m es).refs.length = m.refs.length ∧ (imDrops m es).data.length = m.data.length := by
  induction es with
  | nil => intro m; exact ⟨rfl, rfl, rfl, rfl⟩
  | cons e es ih =>
    intro m
    have h := ih (imDrop m e)
    have hd := imDrop_lens m e
    have ht := imDrop_table m e
    refine ⟨h.1.trans ht.1, h.2.1.trans ht.2, h.2.2.1.trans hd.1, h.2.2.2.trans hd.2.2.2⟩
def RvB (m : Img) (lo : Int) : Prop := ∀ c (h : c < m.refs.length), -lo ≤ m.refs[c] ∧ m.refs[c] ≤ 60
theorem RvB.drop {m : Img} {lo : Int} (h : RvB m lo) (hlo : 0 ≤ lo) (e : Int) : RvB (imDrop m e) (lo + 1) := by
  intro c hc
  unfold imDrop at hc ⊢
  by_cases h2 : e < 2
  · simp only [if_pos h2] at hc ⊢
    have := h c hc
    omega
  · simp only [if_neg h2, List.length_set] at hc ⊢
    rw [List.getElem_set]
    have := h c hc
    split
    · rename_i hcc
      have h3 : m.refs.getD (e - 2).toNat 0 = m.refs[c] := by rw [hcc]; simp [List.getD, hc]
      rw [h3]
      omega
    · omega
theorem ImQ.below {w W W' : World} {B : Nat} {a : Im4} {m0 m : Img} {ts : List Value} (h : ImQ w W B a m0 m ts) (hb : Below W.heap.size W W') : ImQ w W' B a m0 m ts := ⟨h.v.below hb, h.r.below hb, h.o.below hb, fr h.b hb, h.hB, h.e1, h.e2, h.e3, h.e4⟩
theorem OwnIm.newT {w w' : World} {B n qa : Nat} {a : Im4} {m : Img} {ts : List Value} {qo : Option Addr} {xs : List Int} (h : OwnIm w B a m ts) (hb : Below w.heap.size w w') (hn : OwnN w' w.heap.size (.slice qo n qa) xs) (hl : xs.length = n) (hB : B ≤ w.heap.size) : OwnIm w' B { a with tq := qo, tc := qa } { m with table := xs } ts := by
  refine ⟨h.len, h.s.below hb, ?_⟩
  have h' := h.rows.below hb
  have hap := h'.apart
  simp only [imRows] at h' hap ⊢
  rw [hl]
  have hold : ∀ r ∈ imRows a m ts, ∀ g, Own r.1 g → ¬ Own (.slice qo n qa) g := fun r hr g hg hx => by
    have h1 := ((h.rows.own r hr).ge g hg).2
    have h2 := (hn.ge g hx).1
    omega
  simp only [List.pairwise_cons] at hap
  refine ⟨fun r hr => ?_, ?_⟩
  · simp only [List.mem_cons] at hr
    rcases hr with rfl | rfl | rfl | hr
    · exact h'.own _ (by simp)
    · exact hn.base hB
    · exact h'.own (.slice a.dq m.data.length a.dc, m.data) (by simp)
    · exact h'.own r (by simp [hr])
  · simp only [List.pairwise_cons]
    refine ⟨fun r hr g hg => ?_, fun r hr g hg hx => ?_, hap.2.2.1, hap.2.2.2⟩
    · rcases List.mem_cons.1 hr with rfl | hr
      · exact hold (.slice a.ro m.refs.length a.rc, m.refs) (by simp [imRows]) g hg
      · exact hap.1 r (List.mem_cons_of_mem _ hr) g hg
    · refine hold r ?_ g hx hg
      simp only [imRows]
      exact List.mem_cons_of_mem _ (List.mem_cons_of_mem _ hr)

set_option maxHeartbeats 3200000 in
theorem l10Resize_R (a : Im4) (m : Img) (n : Nat) (R : Img) (w : World) (hR : R = imResize m n) (hM : ImM m) (hn : n ≤ 12) (hc : ImS w a m) :
    Calls Tryz.prog 71 #[imV a m, .int .i64 n] w fun e w' => ∃ a' ts, e = .returned (imV a' R) ∧ OwnIm w' w.heap.size a' R ts ∧ Below w.heap.size w w' := by
  have HE := hide (ImE.new w a m hc)
  have HM := hide hM
  have HR := hide hR
  have ht12 := hM.t
  clear hc hM hR
  go_enter Tryz.func71, Tryz.ntmps71
  go_upto_region 1 with fail
  revert HE
  generalize ((w.alloc _).alloc _) = W0
  intro HE
  obtain ⟨c0, c1, c2, c3⟩ := (unhide HE).v.cells
  go_wp2_with fail
  refine (l10Own_M a m _ (unhide HM) (unhide HE).s).mono ?_
  rintro e w1 ⟨b, ts, rfl, ho, hb⟩
  have HQ := hide (ImQ.put (w := w) ((unhide HE).v.below hb) ((unhide HE).r.below hb) (ho.base (B' := w.heap.size + 2) (by have := (unhide HE).r.lt; omega)) (fr (unhide HE).b hb) (Nat.le_refl _) (m0 := m) rfl rfl rfl rfl)
  unfold putI at HQ
  obtain ⟨x0, x1, x2, x3⟩ := ((unhide HE).v.below hb).cells
  obtain ⟨z0, z1, z2, z3⟩ := ((unhide HE).v.below hb).free
  clear c0 c1 c2 c3 ho hb HE
  go_upto_region 2 with fail
  clear x0 x1 x2 x3 z0 z1 z2 z3
  revert HQ
  generalize (((w1.setCell _ _).setCell _ _).setCell _ _).setCell _ _ = W1
  intro HQ
  go_wp2
  go_loopw [5] (fun i wr => ∃ k : Nat, n ≤ k ∧ k ≤ n + 12 ∧ i = .int .i64 k ∧ Hid (ImQ w wr (w.heap.size + 2) b m (rzD m n k) ts) ∧ Hid (RvB (rzD m n k) ((k : Int) - n))) (fun i _ => n + 13 - (intOf i).toNat)
  case atStart => exact ⟨n, Nat.le_refl _, by omega, rfl, by rw [rzD_start]; exact HQ, hide (by rw [rzD_start]; exact fun c h => by have := (unhide HM).rv c h; omega)⟩
  case round =>
    clear HQ
    obtain ⟨k, hk, hk2, rfl, HQ, HB⟩ := hrel
    obtain ⟨c0, c1, c2, c3⟩ := (unhide HQ).v.cells
    by_cases hlt : k < m.table.length
    · have hlti : (k : Int) < (m.table.length : Int) := by omega
      have HSU := hide (rzD_succ hk hlt)
      have HTE : Hid ((rzD m n k).table = m.table) := hide (imDrops_same _ m).1
      have HLS : Hid ((rzD m n k).refs.length = 24 ∧ (rzD m n k).data.length = 24) := hide ⟨(unhide HQ).e1.trans (unhide HM).r, (unhide HQ).e4.trans (unhide HM).d⟩
      have HTV := hide ((unhide HM).tv k hlt)
      have HBN : Hid (RvB (imDrop (rzD m n k) m.table[k]) (((k + 1 : Nat) : Int) - n)) := hide (by
        have := (unhide HB).drop (by omega) m.table[k]
        rwa [show (k : Int) - n + 1 = ((k + 1 : Nat) : Int) - n by omega] at this)
      obtain ⟨gt, et, _, _, _⟩ := (unhide HQ).setT (c := k) (by rw [unhide HTE]; exact hlt)
      have ET := hide et
      have HCT : Hid (∀ W, ImQ w W (w.heap.size + 2) b m (rzD m n k) ts → W.cell? ⟨gt, k, none⟩ = some (.int .i64 m.table[k])) := hide (fun W h => by
        obtain ⟨g2, e2, h2, _, _⟩ := h.setT (c := k) (by rw [unhide HTE]; exact hlt)
        rw [et] at e2
        cases e2
        rw [h2]
        simp only [unhide HTE])
      have HDROP : Hid (∀ W, ImQ w W (w.heap.size + 2) b m (rzD m n k) ts → Calls Tryz.prog 136 #[.agg #[.slice b.ro m.refs.length b.rc, .slice (some ⟨gt, 0, none⟩) m.table.length b.tc, .slice b.so m.snaps.length b.sc, .slice b.dq m.data.length b.dc], .int .i64 m.table[k]] W fun e w' => e = .returned (.agg #[.slice b.ro m.refs.length b.rc, .slice (some ⟨gt, 0, none⟩) m.table.length b.tc, .slice b.so m.snaps.length b.sc, .slice b.dq m.data.length b.dc]) ∧ ImQ w w' (w.heap.size + 2) b m (imDrop (rzD m n k) m.table[k]) ts) := hide (fun W h => by
        have hv : imV b (rzD m n k) = .agg #[.slice b.ro m.refs.length b.rc, .slice (some ⟨gt, 0, none⟩) m.table.length b.tc, .slice b.so m.snaps.length b.sc, .slice b.dq m.data.length b.dc] := by rw [← h.val, imV, et]
        rw [← hv]
        refine (l10Drop_M b (rzD m n k) ts (w.heap.size + 2) m.table[k] W (unhide HTV).1 (unhide HTV).2 (unhide HLS).1 (unhide HLS).2 (fun c hc => by have := unhide HB c hc; omega) h.o).mono ?_
        rintro e w2 ⟨rfl, ho2, hk2'⟩
        exact ⟨rfl, h.turn hk2' ho2 (imDrop_lens _ _).1 (imDrop_lens _ _).2.1 (imDrop_lens _ _).2.2.1 (imDrop_lens _ _).2.2.2⟩)
      clear et
      rw [← unhide HSU] at HBN HDROP
      generalize hDD : rzD m n (k + 1) = D' at *
      have HDD := hide hDD
      clear hDD
      generalize rzD m n k = D at *
      generalize m.table[k] = T at *
      go_upto_region 5 with fail
      clear c0 c1 c2 c3
      refine rzFr_region (fun d wz s16 s17 s18 s19 s20 s21 s22 => RzJ w (w.heap.size + 2) b m D D' ts k gt T d wz s16 s17 s18 s19 s20 s21 s22) (by kernel_rfl) (by kernel_rfl) (noG_spec (by kernel_rfl)) ?h0 ?hs ?he
      case h0 => exact ⟨fun _ => (unhide HQ).below (Below.refl _ wr).drew, fun h => (by cases h), fun h => (by cases h), fun h => (by cases h), fun h => (by cases h), fun h => (by cases h), fun h => (by cases h), fun h => (by cases h), fun h => (by cases h)⟩
      case hs =>
        intro d wz i o r16 r17 r18 r19 r20 r21 r22 hc I ho hd hp K hK
        have hi : i < 8 := (List.getElem?_eq_some_iff.1 ho).1
        rcases (show i = 0 ∨ i = 1 ∨ i = 2 ∨ i = 3 ∨ i = 4 ∨ i = 5 ∨ i = 6 ∨ i = 7 by omega) with rfl | rfl | rfl | rfl | rfl | rfl | rfl | rfl
        · cases ho
          have h6 := not_yet hc 9 (j := 6) (i := 0) (by kernel_rfl) hd
          have hq := I.q0 h6
          obtain ⟨k0, k1, k2, k3⟩ := hq.v.cells
          rw [unhide ET] at k1
          unfold Oper.wp
          go_simp
          exact hK _ _ _ _ _ _ _ _ (I.s0 hd rfl)
        · cases ho
          unfold Oper.wp
          go_simp
          exact hK _ _ _ _ _ _ _ _ (I.s1 hd rfl)
        · cases ho
          have h6 := not_yet hc 9 (j := 6) (i := 2) (by kernel_rfl) hd
          have p := hp ⟨1, .data⟩ (by simp) rfl
          have e1 := I.f1 p
          subst e1
          have hq := I.q0 h6
          obtain ⟨k0, k1, k2, k3⟩ := hq.v.cells
          rw [unhide ET] at k1
          unfold Oper.wp
          go_simp
          exact hK _ _ _ _ _ _ _ _ (I.s2 hd rfl)
        · cases ho
          unfold Oper.wp
          go_simp
          exact hK _ _ _ _ _ _ _ _ (I.s3 hd rfl)
        · cases ho
          have p := hp ⟨2, .data⟩ (by simp) rfl
          have e1 := I.f2 p
          subst e1
          have p2 := hp ⟨3, .data⟩ (by simp) rfl
          have e2 := I.f3 p2
          subst e2
          unfold Oper.wp
          go_simp
          exact hK _ _ _ _ _ _ _ _ (I.s4 hd (by first | rfl | simp))
        · cases ho
          have h6 := not_yet hc 9 (j := 6) (i := 5) (by kernel_rfl) hd
          have p := hp ⟨4, .data⟩ (by simp) rfl
          have e1 := I.f4 p
          subst e1
          have kc := unhide HCT wz (I.q0 h6)
          unfold Oper.wp
          go_simp
          exact hK _ _ _ _ _ _ _ _ (I.s5 hd rfl)
        · cases ho
          have p0 := hp ⟨0, .data⟩ (by simp) rfl
          have e1 := I.f0 p0
          subst e1
          have p5 := hp ⟨5, .data⟩ (by simp) rfl
          have e2 := I.f5 p5
          subst e2
          unfold Oper.wp
          go_simp
          refine (unhide HDROP wz (I.q0 hd)).mono ?_
          rintro e w2 ⟨rfl, hq2⟩
          exact hK _ _ _ _ _ _ _ _ (I.s6 hd rfl hq2)
        · cases ho
          have p6 := hp ⟨6, .data⟩ (by simp) rfl
          have e22 := I.v6 p6
          subst e22
          have hq := I.q6 p6
          have hag := hq.again
          unfold putI at hag
          rw [unhide ET] at hag
          obtain ⟨x0, x1, x2, x3⟩ := hq.v.cells
          obtain ⟨z0, z1, z2, z3⟩ := hq.v.free
          unfold Oper.wp
          go_simp
          exact hK _ _ _ _ _ _ _ _ (I.s7 (v := undef) hd p6 hag)
      case he =>
        intro d wz r16 r17 r18 r19 r20 r21 r22 I hall
        have HN := hide (I.q6 (hall 6 (by decide)))
        clear I hall
        go_wp2
        go_roundw
        case rel => exact ⟨k + 1, by omega, by omega, by go_num, by rw [unhide HDD]; exact HN, by rw [unhide HDD]; exact HBN⟩
        case measure => simp [intOf]; omega
    · have HD : Hid (rzD m n k = imDrops m (m.table.drop n)) := hide (rzD_all m (by omega))
      have HTE : Hid ((rzD m n k).table = m.table) := hide (imDrops_same _ m).1
      have HRE : Hid (R = { rzD m n k with table := rzTo (rzD m n k).table n }) := hide (by
        rw [unhide HTE, unhide HD]
        exact unhide HR)
      have HTI : Hid (Is wr b.tq (rzD m n k).table) := hide (ownRN ((unhide HQ).o.rows.own (.slice b.tq (rzD m n k).table.length b.tc, (rzD m n k).table) (by simp [imRows])).row)
      have HTL : Hid ((rzD m n k).table.length = m.table.length) := hide (unhide HQ).e2
      have HTC : Hid (Calls Tryz.prog 137 #[.slice b.tq m.table.length b.tc, .int .i64 n] wr fun e w' => ∃ v, e = .returned v ∧ OwnN w' wr.heap.size v (rzTo (rzD m n k).table n) ∧ Below wr.heap.size wr w') := hide (by
        rw [← unhide HTL]
        exact l09Resize_any b.tq b.tc (rzD m n k).table n wr (by omega) (by rw [unhide HTL]; omega) (unhide HTI))
      clear HD HR HTE HTI
      generalize rzD m n k = D at *
      go_wp2_with fail
      refine (unhide HTC).mono ?_
      rintro e w2 ⟨v, rfl, hov, hb2⟩
      have HLZ := hide (rzTo_len D.table n)
      obtain ⟨qo, qa, rfl, hor⟩ := hov
      rw [unhide HLZ] at hor ⊢
      have HQ2 := hide ((unhide HQ).below hb2)
      have HON := hide ((unhide HQ).o.newT hb2 (OwnN.mk' hor (unhide HLZ)) (unhide HLZ) (by have := (unhide HQ).r.lt; omega))
      clear hor hb2 c0 c1 c2 c3 HTC
      obtain ⟨c0, c1, c2, c3⟩ := (unhide HQ2).v.cells
      obtain ⟨z0, z1, z2, z3⟩ := (unhide HQ2).v.free
      have HQ3 : Hid (ImQ w (w2.setCell ⟨w.heap.size, 1, none⟩ (.slice qo n qa)) (w.heap.size + 2) { b with tq := qo, tc := qa } { m with table := rzTo D.table n } { D with table := rzTo D.table n } ts) := hide
        ⟨by simp only [unhide HLZ]; exact (unhide HQ2).v.set1 _, (unhide HQ2).r.other (p := ⟨w.heap.size, 1, none⟩) (by simp) _, (unhide HON).setCell (p := ⟨w.heap.size, 1, none⟩) (by simp) _, (unhide HQ2).b.setCell (p := ⟨w.heap.size, 1, none⟩) (Nat.le_refl _) _, (unhide HQ2).hB, (unhide HQ2).e1, rfl, (unhide HQ2).e3, (unhide HQ2).e4⟩
      clear HQ HQ2 HON
      go_upto_region 7 with fail
      clear c0 c1 c2 c3 z0 z1 z2 z3
      revert HQ3
      generalize (w2.setCell _ _) = W3
      intro HQ3
      have HF := hide (unhide HQ3).fin
      obtain ⟨c0, c1, c2, c3⟩ := (unhide HQ3).v.cells
      obtain ⟨r0, r1, r2, r3⟩ := (unhide HQ3).r.cells
      obtain ⟨z0, z1, z2, z3⟩ := (unhide HQ3).r.free
      go_wp2
      refine bodyPost_ret (res_im Tryz.results71 rfl (unhide HF).1) rfl ?_
      rw [unhide HRE]
      first | exact ⟨_, ts, by rw [← (unhide HQ3).val], (unhide HF).2.1, (unhide HF).2.2⟩ | exact ⟨_, by rw [← (unhide HQ3).val], ⟨ts, (unhide HF).2.1⟩, (unhide HF).2.2⟩

end Go.Proofs.YtbmkdbccdnbbjaaGreatDoor

namespace Go.Proofs.YtbmkdbccdnbbjaaGreatDoor
open Go.RowKit
set_option linter.unusedVariables false
set_option maxRecDepth 100000

theorem ImB_len {a : Im4} {m m' : Img} {ts : List Value} {g : Nat} (e1 : m'.refs.length = m.refs.length) (e2 : m'.table.length = m.table.length) (e3 : m'.snaps.length = m.snaps.length) (e4 : m'.data.length = m.data.length) (h : ImB a m' ts g) : ImB a m ts g := by
  unfold ImB at h ⊢
  rwa [e1, e2, e3, e4] at h
def raD (m : Img) (L : List Int) (k : Nat) : Img := { m with refs := (L.take k).foldl incr m.refs }
def RvU (ns : List Int) (lo hi : Int) : Prop := ∀ c (h : c < ns.length), lo ≤ ns[c] ∧ ns[c] ≤ hi
theorem RvU.up {ns : List Int} {lo hi : Int} (h : RvU ns lo hi) (c : Nat) (hc : c < ns.length) (hlo : lo ≤ hi) : RvU (incr ns c) lo (hi + 1) := by
  rw [incr_set]
  intro i hi'
  rw [List.length_set] at hi'
  rw [List.getElem_set]
  have := h i hi'
  by_cases e : c = i
  · have h2 : ns.getD c 0 = ns[i] := by simp [List.getD, e, hi']
    rw [if_pos e, h2]
    omega
  · rw [if_neg e]
    omega
structure RaJ (w W : World) (B : Nat) (a : Im4) (m m' : Img) (ts : List Value) : Prop where
  v : VarM W w.heap.size 26 (.slice a.ro m.refs.length a.rc) (.slice a.tq m.table.length a.tc) (.slice a.so m.snaps.length a.sc) (.slice a.dq m.data.length a.dc)
  r : VarM W (w.heap.size + 1) 26 (.slice none 0 0) (.slice none 0 0) (.slice none 0 0) (.slice none 0 0)
  o : OwnIm W B a m' ts
  k : Keep (fun g => ImB a m ts g ∨ w.heap.size ≤ g) w W
  e1 : m'.refs.length = m.refs.length
  e2 : m'.table.length = m.table.length
  e3 : m'.snaps.length = m.snaps.length
  e4 : m'.data.length = m.data.length

theorem RaJ.drew {w W : World} {B : Nat} {a : Im4} {m m' : Img} {ts : List Value} (h : RaJ w W B a m m' ts) : RaJ w W.drew B a m m' ts := ⟨h.v.below (Below.refl _ _).drew, h.r.below (Below.refl _ _).drew, h.o.below (Below.refl _ _).drew, h.k.trans (Keep.of_below (Below.refl _ _).drew), h.e1, h.e2, h.e3, h.e4⟩

set_option maxHeartbeats 3200000 in
theorem l10Raise_any (a : Im4) (m : Img) (ts : List Value) (B : Nat) (ao : Option Addr) (cap : Nat) (t : List Int) (w : World) (hr : m.refs.length = 24) (hv : RvU m.refs (-100) 100) (htb : tbB t = true) (hI : Is w ao t) (ho : OwnIm w B a m ts) :
    Calls Tryz.prog 134 #[imV a m, .slice ao t.length cap] w fun r w' => r = .returned (imV a m) ∧ OwnIm w' B a (imRaise m t) ts ∧ Keep (ImB a m ts) w w' := by
  have HA := hide (Joins.below_alloc2 w (.cells #[.slice a.ro m.refs.length a.rc, .slice a.tq m.table.length a.tc, .slice a.so m.snaps.length a.sc, .slice a.dq m.data.length a.dc] 26) (.cells #[.slice none 0 0, .slice none 0 0, .slice none 0 0, .slice none 0 0] 26))
  have HO := hide (ho.below (unhide HA))
  have HT := hide (hI.below (unhide HA))
  have HV := hide ((VarM.new w 26 (.slice a.ro m.refs.length a.rc) (.slice a.tq m.table.length a.tc) (.slice a.so m.snaps.length a.sc) (.slice a.dq m.data.length a.dc)).below (Joins.below_alloc1 _ (.cells #[.slice none 0 0, .slice none 0 0, .slice none 0 0, .slice none 0 0] 26)))
  have HR := hide ((VarM.new (w.alloc (.cells #[.slice a.ro m.refs.length a.rc, .slice a.tq m.table.length a.tc, .slice a.so m.snaps.length a.sc, .slice a.dq m.data.length a.dc] 26)) 26 (.slice none 0 0) (.slice none 0 0) (.slice none 0 0) (.slice none 0 0)).at (y := w.heap.size + 1) (by simp))
  have HGE : Hid (∀ g, ImB a m ts g → g < w.heap.size) := hide (fun g hg => (ho.ge g hg).2)
  have HRV := hide hv
  have HR24 := hide hr
  have HIN : Hid (∀ j (h : j < t.length), -1000 ≤ t[j] ∧ t[j] ≤ 1000) := hide (fun j h => by have := tbB_at htb j h; omega)
  have HTX := hide (tbB_len htb)
  have HCI := hide (clA_in htb)
  have HCL := hide (clA_len htb)
  have HRA : Hid (imRaise m t = raD m (clA t) (clA t).length) := hide (by rw [raD, List.take_length]; rfl)
  clear ho hI hv htb hr
  go_enter Tryz.func134, Tryz.ntmps134
  go_upto_region 1 with fail
  revert HA HO HT HV HR
  generalize ((w.alloc _).alloc _) = W0
  intro HA HO HT HV HR
  go_wp2_with fail
  refine (l09Clusters_any ao cap t _ (by have := unhide HTX; omega) (unhide HIN) (unhide HT)).mono ?_
  rintro e w1 ⟨v, rfl, ⟨lo, la, rfl, hol⟩, hb1⟩
  have HJ0 : Hid (RaJ w w1 B a m (raD m (clA t) 0) ts) := hide ⟨(unhide HV).below hb1, (unhide HR).below hb1, (unhide HO).below hb1, Keep.of_below (fr (unhide HA) hb1), rfl, rfl, rfl, rfl⟩
  have HL := hide hol
  have HLG : Hid (w.heap.size ≤ W0.heap.size) := hide (unhide HA).size
  clear hol hb1 HV HR HO HT HA
  generalize W0.heap.size = n0 at *
  generalize clA t = L at *
  have hl12 := unhide HCL
  go_wp2
  go_loopw [6] (fun i wr => ∃ k : Nat, k ≤ L.length ∧ i = .int .i64 k ∧ Hid (RaJ w wr B a m (raD m L k) ts) ∧ Hid (RvU (raD m L k).refs (-100) (100 + k)) ∧ Hid (Keep (ImB a m ts) w1 wr)) (fun i _ => L.length - (intOf i).toNat)
  case atStart => exact ⟨0, Nat.zero_le _, rfl, HJ0, hide (by simpa [raD] using unhide HRV), hide (Keep.refl _ _)⟩
  case round =>
    clear HJ0
    obtain ⟨k, hk, rfl, HJ, HU, HK⟩ := hrel
    obtain ⟨c0, c1, c2, c3⟩ := (unhide HJ).v.cells
    by_cases hlt : k < L.length
    · have hlti : (k : Int) < (L.length : Int) := by omega
      have HLk := hide ((unhide HL).keep (unhide HK) (fun g hg hx => by have h1 := ((unhide HL).ge g hg).1; have h2 := unhide HGE g hx; have := unhide HLG; omega))
      obtain ⟨bl, ol, rfl, hcl⟩ := (ownRN (unhide HLk)) k hlt
      obtain ⟨l0, l1⟩ := unhide HCI k hlt
      obtain ⟨c, hcc⟩ := Int.eq_ofNat_of_zero_le l0
      rw [hcc] at hcl
      have hc24 : c < 24 := by omega
      have hc24i : (c : Int) < (m.refs.length : Int) := by have := unhide HR24; omega
      have HST : Hid (raD m L (k + 1) = { raD m L k with refs := incr (raD m L k).refs (c : Int) }) := hide (by
        simp only [raD]
        rw [incr_take hlt, hcc])
      clear hcc l0 l1
      generalize hDD : raD m L k = D at *
      have HDD := hide hDD
      clear hDD
      have hcD : c < D.refs.length := by rw [(unhide HJ).e1]; have := unhide HR24; omega
      obtain ⟨x0, x1⟩ := (unhide HU) c hcD
      obtain ⟨g, eg, hcg, hfg, hig, hst⟩ := (unhide HJ).o.setR hcD
      have hig' : ImB a m ts g := ImB_len (unhide HJ).e1 (unhide HJ).e2 (unhide HJ).e3 (unhide HJ).e4 hig
      have hne1 : w.heap.size ≠ g := by have := unhide HGE g hig'; omega
      have hne2 : w.heap.size + 1 ≠ g := by have := unhide HGE g hig'; omega
      have e : incr D.refs (c : Int) = D.refs.set c (D.refs[c] + 1) := by rw [incr_set]; simp [List.getD, hcD]
      have HJN : Hid (RaJ w (wr.setCell ⟨g, c, none⟩ (.int .i64 (D.refs[c] + 1))) B a m (raD m L (k + 1)) ts) := hide (by
        rw [unhide HST, e]
        exact ⟨(unhide HJ).v.other (p := ⟨g, c, none⟩) hne1 _, (unhide HJ).r.other (p := ⟨g, c, none⟩) hne2 _, hst _, (unhide HJ).k.setCell (p := ⟨g, c, none⟩) (.inl hig') _, by simpa using (unhide HJ).e1, (unhide HJ).e2, (unhide HJ).e3, (unhide HJ).e4⟩)
      have HUN : Hid (RvU (raD m L (k + 1)).refs (-100) (100 + (k + 1 : Nat))) := hide (by
        rw [unhide HST]
        have := (unhide HU).up c hcD (by omega)
        exact fun i hi => ⟨(this i hi).1, Int.le_trans (this i hi).2 (by omega)⟩)
      have HKN := hide ((unhide HK).setCell (p := ⟨g, c, none⟩) hig' (.int .i64 (D.refs[c] + 1)))
      rw [eg] at c0
      clear eg hst hig hig' hne1 hne2 e
      generalize D.refs[c] = X at *
      have hw1 : IntKind.i64.wrap (X + 1) = X + 1 := by rw [IntKind.wrap_i64]; omega
      go_wp2
      go_region
      all_goals
        go_wp2
        go_roundw
        case rel => exact ⟨k + 1, by omega, by go_num, hide (RaJ.drew (unhide HJN)), HUN, hide ((unhide HKN).trans (Keep.of_below (Below.refl _ _).drew))⟩
        case measure => simp [intOf]; omega
    · have hkl : k = L.length := by omega
      subst hkl
      obtain ⟨r0, r1, r2, r3⟩ := (unhide HJ).r.cells
      obtain ⟨z0, z1, z2, z3⟩ := (unhide HJ).r.free
      have HKF : Hid (Keep (fun g => ImB a m ts g ∨ w.heap.size ≤ g) w ((((wr.setCell ⟨w.heap.size + 1, 0, none⟩ (.slice a.ro m.refs.length a.rc)).setCell ⟨w.heap.size + 1, 1, none⟩ (.slice a.tq m.table.length a.tc)).setCell ⟨w.heap.size + 1, 2, none⟩ (.slice a.so m.snaps.length a.sc)).setCell ⟨w.heap.size + 1, 3, none⟩ (.slice a.dq m.data.length a.dc))) := hide
        (((((unhide HJ).k.setCell (p := ⟨w.heap.size + 1, 0, none⟩) (.inr (Nat.le_succ _)) _).setCell (p := ⟨w.heap.size + 1, 1, none⟩) (.inr (Nat.le_succ _)) _).setCell (p := ⟨w.heap.size + 1, 2, none⟩) (.inr (Nat.le_succ _)) _).setCell (p := ⟨w.heap.size + 1, 3, none⟩) (.inr (Nat.le_succ _)) _)
      have HVN := hide ((((unhide HJ).r.set0 (.slice a.ro m.refs.length a.rc)).set1 (.slice a.tq m.table.length a.tc)).set2 (.slice a.so m.snaps.length a.sc) |>.set3 (.slice a.dq m.data.length a.dc))
      have HON := hide ((unhide HJ).o.keep (S := fun g => g = w.heap.size + 1) (((((Keep.refl (fun g => g = w.heap.size + 1) wr).setCell (p := ⟨w.heap.size + 1, 0, none⟩) rfl (.slice a.ro m.refs.length a.rc)).setCell (p := ⟨w.heap.size + 1, 1, none⟩) rfl (.slice a.tq m.table.length a.tc)).setCell (p := ⟨w.heap.size + 1, 2, none⟩) rfl (.slice a.so m.snaps.length a.sc)).setCell (p := ⟨w.heap.size + 1, 3, none⟩) rfl (.slice a.dq m.data.length a.dc)) (fun g hg he => by have := unhide HGE g (ImB_len (unhide HJ).e1 (unhide HJ).e2 (unhide HJ).e3 (unhide HJ).e4 hg); omega))
      go_wp2
      refine bodyPost_ret (res_im Tryz.results134 rfl (unhide HVN)) rfl ⟨rfl, ?_, ?_⟩
      · rw [unhide HRA]; exact unhide HON
      · exact keep_im (unhide HKF) (unhide HGE)

end Go.Proofs.YtbmkdbccdnbbjaaGreatDoor
