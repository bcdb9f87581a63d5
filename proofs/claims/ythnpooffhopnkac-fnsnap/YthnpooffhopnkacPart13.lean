import Derived.Test.YthnpooffhopnkacRows
import Derived.Test.YthnpooffhopnkacPart12
import Derived.Test.YthnpooffhopnkacImW
import Derived.Test.YthnpooffhopnkacPart7
import Derived.WalkKit
import Derived.WalkSpells
import Derived.KernelRfl
import Derived.Test.YthnpooffhopnkacPart1
import Derived.Laws.CopyRow
import Derived.Laws.CopyOwn
import Derived.Test.YthnpooffhopnkacPart2
import Derived.Test.YthnpooffhopnkacPart5
import Derived.Test.YthnpooffhopnkacPart3
import Derived.LoopN
import Derived.BigQuiet
import Derived.Deep.QuietTactic
import Derived.Deep.CutRange
import Derived.Deep.RegionWith
import Derived.Laws.ResultCell
import Derived.Laws.Cover3
import Derived.Deep.MidRow

/- Contracts of the model's l10Zero, ZeroCluster. (Made ahead of stage 10; written by gens/zero.py.) -/
namespace Go.Proofs.Ythnpooffhopnkac
open Go.RowKit
set_option linter.unusedVariables false
set_option maxRecDepth 100000

structure ZrJ (w0 W0 : World) (a : Im4) (m : Img) (g b off : Nat) (T : Int) (d : Nat → Bool) (w : World) (s5 s6 s7 s8 s9 s10 s11 s12 : Value) : Prop where
  bw : d 8 = false → Below W0.heap.size W0 w
  p1 : d 1 = true → d 7 = false → ∃ a1 ts, s6 = imV a1 m ∧ OwnIm w W0.heap.size a1 m ts
  p7 : d 7 = true → d 8 = false → ∃ a1 ts, s12 = imV a1 m ∧ OwnIm w W0.heap.size a1 (imDrop m T) ts
  p8 : d 8 = true → ∃ a1 ts, ImQ w0 w W0.heap.size a1 m (imDrop m T) ts
  f0 : d 0 = true → s5 = .agg #[.slice a.ro m.refs.length a.rc, .slice (some ⟨b, off, none⟩) m.table.length a.tc, .slice a.so m.snaps.length a.sc, .slice a.dq m.data.length a.dc]
  f2 : d 2 = true → s7 = .pointer (some ⟨w0.heap.size, 1, none⟩)
  f3 : d 3 = true → s8 = .slice (some ⟨b, off, none⟩) m.table.length a.tc
  f4 : d 4 = true → s9 = .int .i64 g
  f5 : d 5 = true → s10 = .pointer (some ⟨b, off + g, none⟩)
  f6 : d 6 = true → s11 = .int .i64 T

theorem ZrJ.s0 {w0 W0 : World} {a : Im4} {m : Img} {g b off : Nat} {T : Int} {d : Nat → Bool} {w : World} {s5 s6 s7 s8 s9 s10 s11 s12 v : Value} (I : ZrJ w0 W0 a m g b off T d w s5 s6 s7 s8 s9 s10 s11 s12) (hd : d 0 = false) (hv : v = .agg #[.slice a.ro m.refs.length a.rc, .slice (some ⟨b, off, none⟩) m.table.length a.tc, .slice a.so m.snaps.length a.sc, .slice a.dq m.data.length a.dc]) : ZrJ w0 W0 a m g b off T (updD d 0) w v s6 s7 s8 s9 s10 s11 s12 where
  bw := fun h => I.bw (upd_nf h)
  p1 := fun h h' => I.p1 (upd_ne (by decide) h) (upd_nf h')
  p7 := fun h h' => I.p7 (upd_ne (by decide) h) (upd_nf h')
  p8 := fun h => I.p8 (upd_ne (by decide) h)
  f0 := fun _ => hv
  f2 := fun h => I.f2 (upd_ne (by decide) h)
  f3 := fun h => I.f3 (upd_ne (by decide) h)
  f4 := fun h => I.f4 (upd_ne (by decide) h)
  f5 := fun h => I.f5 (upd_ne (by decide) h)
  f6 := fun h => I.f6 (upd_ne (by decide) h)

theorem ZrJ.s1 {w0 W0 : World} {a : Im4} {m : Img} {g b off : Nat} {T : Int} {d : Nat → Bool} {w w2 : World} {s5 s6 s7 s8 s9 s10 s11 s12 v : Value} (I : ZrJ w0 W0 a m g b off T d w s5 s6 s7 s8 s9 s10 s11 s12) (hd : d 1 = false) (h7 : d 7 = false) (h8 : d 8 = false) (hb : Below w.heap.size w w2) {a1 : Im4} {ts : List Value} (hv : v = imV a1 m) (ho : OwnIm w2 W0.heap.size a1 m ts) : ZrJ w0 W0 a m g b off T (updD d 1) w2 s5 v s7 s8 s9 s10 s11 s12 where
  bw := fun _ => fr (I.bw h8) hb
  p1 := fun _ _ => ⟨a1, ts, hv, ho⟩
  p7 := fun h _ => no_d (upd_ne (by decide) h) h7
  p8 := fun h => no_d (upd_ne (by decide) h) h8
  f0 := fun h => I.f0 (upd_ne (by decide) h)
  f2 := fun h => I.f2 (upd_ne (by decide) h)
  f3 := fun h => I.f3 (upd_ne (by decide) h)
  f4 := fun h => I.f4 (upd_ne (by decide) h)
  f5 := fun h => I.f5 (upd_ne (by decide) h)
  f6 := fun h => I.f6 (upd_ne (by decide) h)

theorem ZrJ.s2 {w0 W0 : World} {a : Im4} {m : Img} {g b off : Nat} {T : Int} {d : Nat → Bool} {w : World} {s5 s6 s7 s8 s9 s10 s11 s12 v : Value} (I : ZrJ w0 W0 a m g b off T d w s5 s6 s7 s8 s9 s10 s11 s12) (hd : d 2 = false) (hv : v = .pointer (some ⟨w0.heap.size, 1, none⟩)) : ZrJ w0 W0 a m g b off T (updD d 2) w s5 s6 v s8 s9 s10 s11 s12 where
  bw := fun h => I.bw (upd_nf h)
  p1 := fun h h' => I.p1 (upd_ne (by decide) h) (upd_nf h')
  p7 := fun h h' => I.p7 (upd_ne (by decide) h) (upd_nf h')
  p8 := fun h => I.p8 (upd_ne (by decide) h)
  f0 := fun h => I.f0 (upd_ne (by decide) h)
  f2 := fun _ => hv
  f3 := fun h => I.f3 (upd_ne (by decide) h)
  f4 := fun h => I.f4 (upd_ne (by decide) h)
  f5 := fun h => I.f5 (upd_ne (by decide) h)
  f6 := fun h => I.f6 (upd_ne (by decide) h)

theorem ZrJ.s3 {w0 W0 : World} {a : Im4} {m : Img} {g b off : Nat} {T : Int} {d : Nat → Bool} {w : World} {s5 s6 s7 s8 s9 s10 s11 s12 v : Value} (I : ZrJ w0 W0 a m g b off T d w s5 s6 s7 s8 s9 s10 s11 s12) (hd : d 3 = false) (hv : v = .slice (some ⟨b, off, none⟩) m.table.length a.tc) : ZrJ w0 W0 a m g b off T (updD d 3) w s5 s6 s7 v s9 s10 s11 s12 where
  bw := fun h => I.bw (upd_nf h)
  p1 := fun h h' => I.p1 (upd_ne (by decide) h) (upd_nf h')
  p7 := fun h h' => I.p7 (upd_ne (by decide) h) (upd_nf h')
  p8 := fun h => I.p8 (upd_ne (by decide) h)
  f0 := fun h => I.f0 (upd_ne (by decide) h)
  f2 := fun h => I.f2 (upd_ne (by decide) h)
  f3 := fun _ => hv
  f4 := fun h => I.f4 (upd_ne (by decide) h)
  f5 := fun h => I.f5 (upd_ne (by decide) h)
  f6 := fun h => I.f6 (upd_ne (by decide) h)

theorem ZrJ.s4 {w0 W0 : World} {a : Im4} {m : Img} {g b off : Nat} {T : Int} {d : Nat → Bool} {w : World} {s5 s6 s7 s8 s9 s10 s11 s12 v : Value} (I : ZrJ w0 W0 a m g b off T d w s5 s6 s7 s8 s9 s10 s11 s12) (hd : d 4 = false) (hv : v = .int .i64 g) : ZrJ w0 W0 a m g b off T (updD d 4) w s5 s6 s7 s8 v s10 s11 s12 where
  bw := fun h => I.bw (upd_nf h)
  p1 := fun h h' => I.p1 (upd_ne (by decide) h) (upd_nf h')
  p7 := fun h h' => I.p7 (upd_ne (by decide) h) (upd_nf h')
  p8 := fun h => I.p8 (upd_ne (by decide) h)
  f0 := fun h => I.f0 (upd_ne (by decide) h)
  f2 := fun h => I.f2 (upd_ne (by decide) h)
  f3 := fun h => I.f3 (upd_ne (by decide) h)
  f4 := fun _ => hv
  f5 := fun h => I.f5 (upd_ne (by decide) h)
  f6 := fun h => I.f6 (upd_ne (by decide) h)

theorem ZrJ.s5 {w0 W0 : World} {a : Im4} {m : Img} {g b off : Nat} {T : Int} {d : Nat → Bool} {w : World} {s5 s6 s7 s8 s9 s10 s11 s12 v : Value} (I : ZrJ w0 W0 a m g b off T d w s5 s6 s7 s8 s9 s10 s11 s12) (hd : d 5 = false) (hv : v = .pointer (some ⟨b, off + g, none⟩)) : ZrJ w0 W0 a m g b off T (updD d 5) w s5 s6 s7 s8 s9 v s11 s12 where
  bw := fun h => I.bw (upd_nf h)
  p1 := fun h h' => I.p1 (upd_ne (by decide) h) (upd_nf h')
  p7 := fun h h' => I.p7 (upd_ne (by decide) h) (upd_nf h')
  p8 := fun h => I.p8 (upd_ne (by decide) h)
  f0 := fun h => I.f0 (upd_ne (by decide) h)
  f2 := fun h => I.f2 (upd_ne (by decide) h)
  f3 := fun h => I.f3 (upd_ne (by decide) h)
  f4 := fun h => I.f4 (upd_ne (by decide) h)
  f5 := fun _ => hv
  f6 := fun h => I.f6 (upd_ne (by decide) h)

theorem ZrJ.s6 {w0 W0 : World} {a : Im4} {m : Img} {g b off : Nat} {T : Int} {d : Nat → Bool} {w : World} {s5 s6 s7 s8 s9 s10 s11 s12 v : Value} (I : ZrJ w0 W0 a m g b off T d w s5 s6 s7 s8 s9 s10 s11 s12) (hd : d 6 = false) (hv : v = .int .i64 T) : ZrJ w0 W0 a m g b off T (updD d 6) w s5 s6 s7 s8 s9 s10 v s12 where
  bw := fun h => I.bw (upd_nf h)
  p1 := fun h h' => I.p1 (upd_ne (by decide) h) (upd_nf h')
  p7 := fun h h' => I.p7 (upd_ne (by decide) h) (upd_nf h')
  p8 := fun h => I.p8 (upd_ne (by decide) h)
  f0 := fun h => I.f0 (upd_ne (by decide) h)
  f2 := fun h => I.f2 (upd_ne (by decide) h)
  f3 := fun h => I.f3 (upd_ne (by decide) h)
  f4 := fun h => I.f4 (upd_ne (by decide) h)
  f5 := fun h => I.f5 (upd_ne (by decide) h)
  f6 := fun _ => hv

theorem ZrJ.s7 {w0 W0 : World} {a : Im4} {m : Img} {g b off : Nat} {T : Int} {d : Nat → Bool} {w w2 : World} {s5 s6 s7 s8 s9 s10 s11 s12 v : Value} (I : ZrJ w0 W0 a m g b off T d w s5 s6 s7 s8 s9 s10 s11 s12) (hd : d 7 = false) (h8 : d 8 = false) (hb : Below W0.heap.size W0 w2) {a1 : Im4} {ts : List Value} (hv : v = imV a1 m) (ho : OwnIm w2 W0.heap.size a1 (imDrop m T) ts) : ZrJ w0 W0 a m g b off T (updD d 7) w2 s5 s6 s7 s8 s9 s10 s11 v where
  bw := fun _ => hb
  p1 := fun _ h' => no_d (k := 7) upd_at h'
  p7 := fun _ _ => ⟨a1, ts, hv, ho⟩
  p8 := fun h => no_d (upd_ne (by decide) h) h8
  f0 := fun h => I.f0 (upd_ne (by decide) h)
  f2 := fun h => I.f2 (upd_ne (by decide) h)
  f3 := fun h => I.f3 (upd_ne (by decide) h)
  f4 := fun h => I.f4 (upd_ne (by decide) h)
  f5 := fun h => I.f5 (upd_ne (by decide) h)
  f6 := fun h => I.f6 (upd_ne (by decide) h)

theorem ZrJ.s8 {w0 W0 : World} {a : Im4} {m : Img} {g b off : Nat} {T : Int} {d : Nat → Bool} {w w2 : World} {s5 s6 s7 s8 s9 s10 s11 s12 v : Value} (I : ZrJ w0 W0 a m g b off T d w s5 s6 s7 s8 s9 s10 s11 s12) (hd : d 8 = false) (p7' : d 7 = true) {a1 : Im4} {ts : List Value} (hq : ImQ w0 w2 W0.heap.size a1 m (imDrop m T) ts) : ZrJ w0 W0 a m g b off T (updD d 8) w2 s5 s6 s7 s8 s9 s10 s11 s12 where
  bw := fun h => no_d (k := 8) upd_at h
  p1 := fun _ h' => no_d p7' (upd_nf h')
  p7 := fun _ h' => no_d (k := 8) upd_at h'
  p8 := fun _ => ⟨a1, ts, hq⟩
  f0 := fun h => I.f0 (upd_ne (by decide) h)
  f2 := fun h => I.f2 (upd_ne (by decide) h)
  f3 := fun h => I.f3 (upd_ne (by decide) h)
  f4 := fun h => I.f4 (upd_ne (by decide) h)
  f5 := fun h => I.f5 (upd_ne (by decide) h)
  f6 := fun h => I.f6 (upd_ne (by decide) h)

/-- Nothing is in the midst. -/
theorem imZero_at {m : Img} {g : Nat} (hg : g < m.table.length) : imZero m g = { imDrop m m.table[g] with table := (imDrop m m.table[g]).table.set g 1 } := by
  have e : m.table.getD g 0 = m.table[g] := by simp [List.getD, hg]
  unfold imZero
  simp only [e]

set_option maxHeartbeats 1600000 in
theorem l10Zero_R (a : Im4) (m : Img) (g : Nat) (R : Img) (w : World) (hR : R = imZero m g) (hM : ImM m) (hg : g < m.table.length) (hc : ImS w a m) :
    Calls Try.prog 54 #[imV a m, .int .i64 g] w fun e w' => ∃ a' ts, e = .returned (imV a' R) ∧ OwnIm w' w.heap.size a' R ts ∧ Below w.heap.size w w' := by
  have HE := hide (ImE.new w a m hc)
  have HM := hide hM
  have hgi : (g : Int) < (m.table.length : Int) := by omega
  have HR := hide (hR.trans (imZero_at hg))
  have HTV := hide (hM.tv g hg)
  have ht12 := hM.t
  clear hc hM hR
  go_enter Try.func54, Try.ntmps54
  go_upto_region 1 with fail
  revert HE
  generalize ((w.alloc _).alloc _) = W0
  intro HE
  obtain ⟨b, off, et, hct⟩ := (unhide HE).s.t g hg
  have hbl := World.block_lt_of_cell? _ _ hct
  have HAV : Hid (imV a m = .agg #[.slice a.ro m.refs.length a.rc, .slice (some ⟨b, off, none⟩) m.table.length a.tc, .slice a.so m.snaps.length a.sc, .slice a.dq m.data.length a.dc]) := hide (by rw [imV, et])
  have HCELL : Hid (∀ W, Below W0.heap.size W0 W → W.cell? ⟨w.heap.size, 0, none⟩ = some (.slice a.ro m.refs.length a.rc) ∧ W.cell? ⟨w.heap.size, 1, none⟩ = some (.slice (some ⟨b, off, none⟩) m.table.length a.tc) ∧ W.cell? ⟨w.heap.size, 2, none⟩ = some (.slice a.so m.snaps.length a.sc) ∧ W.cell? ⟨w.heap.size, 3, none⟩ = some (.slice a.dq m.data.length a.dc) ∧ W.cell? ⟨b, off + g, none⟩ = some (.int .i64 m.table[g])) := hide (fun W hW => by
    obtain ⟨k0, k1, k2, k3⟩ := ((unhide HE).v.below hW).cells
    rw [et] at k1
    exact ⟨k0, k1, k2, k3, (hW.cell (p := ⟨b, off + g, none⟩) hbl).trans hct⟩)
  have HOWN : Hid (∀ W, Below W0.heap.size W0 W → Calls Try.prog 30 #[.agg #[.slice a.ro m.refs.length a.rc, .slice (some ⟨b, off, none⟩) m.table.length a.tc, .slice a.so m.snaps.length a.sc, .slice a.dq m.data.length a.dc]] W fun e w' => ∃ a' ts, e = .returned (imV a' m) ∧ OwnIm w' W.heap.size a' m ts ∧ Below W.heap.size W w') := hide (fun W hW => by rw [← unhide HAV]; exact l10Own_M a m W (unhide HM) ((unhide HE).s.below hW))
  clear et hct
  generalize hTT : m.table[g] = T at *
  clear hTT
  refine wp_region_inv2 (fun d f wz => ∃ s5 s6 s7 s8 s9 s10 s11 s12, f = (⟨#[imV a m, .int .i64 g, .pointer (some ⟨w.heap.size, 0, none⟩), undef, .pointer (some ⟨w.heap.size + 1, 0, none⟩), s5, s6, s7, s8, s9, s10, s11, s12, undef, undef, undef, undef, undef], []⟩ : Act) ∧ ZrJ w W0 a m g b off T d wz s5 s6 s7 s8 s9 s10 s11 s12) (by kernel_rfl) (by kernel_rfl) (noG_spec (by kernel_rfl)) ⟨undef, undef, undef, undef, undef, undef, undef, undef, rfl, ⟨fun _ => (Below.refl _ W0).drew, fun h => (by cases h), fun h => (by cases h), fun h => (by cases h), fun h => (by cases h), fun h => (by cases h), fun h => (by cases h), fun h => (by cases h), fun h => (by cases h), fun h => (by cases h)⟩⟩ ?hs ?he
  case hs =>
    intro d f wz i o hc hI ho hd hp K hK
    obtain ⟨s5, s6, s7, s8, s9, s10, s11, s12, rfl, I⟩ := hI
    have hi : i < 9 := (List.getElem?_eq_some_iff.1 ho).1
    rcases (show i = 0 ∨ i = 1 ∨ i = 2 ∨ i = 3 ∨ i = 4 ∨ i = 5 ∨ i = 6 ∨ i = 7 ∨ i = 8 by omega) with rfl | rfl | rfl | rfl | rfl | rfl | rfl | rfl | rfl
    · cases ho
      have h8 := not_yet hc 9 (j := 8) (i := 0) (by kernel_rfl) hd
      obtain ⟨k0, k1, k2, k3, k4⟩ := unhide HCELL wz (I.bw h8)
      unfold Oper.wp
      go_simp
      exact hK _ _ ⟨_, _, _, _, _, _, _, _, rfl, I.s0 hd rfl⟩
    · cases ho
      have h8 := not_yet hc 9 (j := 8) (i := 1) (by kernel_rfl) hd
      have h7 := not_yet hc 9 (j := 7) (i := 1) (by kernel_rfl) hd
      have p := hp ⟨0, .data⟩ (by simp) rfl
      have e1 := I.f0 p
      subst e1
      unfold Oper.wp
      go_simp
      refine (unhide HOWN wz (I.bw h8)).mono ?_
      rintro e w2 ⟨a1, ts, rfl, ho1, hb1⟩
      exact hK _ _ ⟨_, _, _, _, _, _, _, _, rfl, I.s1 hd h7 h8 hb1 rfl (ho1.base (I.bw h8).size)⟩
    · cases ho
      unfold Oper.wp
      go_simp
      exact hK _ _ ⟨_, _, _, _, _, _, _, _, rfl, I.s2 hd rfl⟩
    · cases ho
      have h8 := not_yet hc 9 (j := 8) (i := 3) (by kernel_rfl) hd
      have p := hp ⟨2, .data⟩ (by simp) rfl
      have e1 := I.f2 p
      subst e1
      obtain ⟨k0, k1, k2, k3, k4⟩ := unhide HCELL wz (I.bw h8)
      unfold Oper.wp
      go_simp
      exact hK _ _ ⟨_, _, _, _, _, _, _, _, rfl, I.s3 hd rfl⟩
    · cases ho
      unfold Oper.wp
      go_simp
      exact hK _ _ ⟨_, _, _, _, _, _, _, _, rfl, I.s4 hd rfl⟩
    · cases ho
      have p := hp ⟨3, .data⟩ (by simp) rfl
      have e1 := I.f3 p
      subst e1
      have p2 := hp ⟨4, .data⟩ (by simp) rfl
      have e2 := I.f4 p2
      subst e2
      unfold Oper.wp
      go_simp
      exact hK _ _ ⟨_, _, _, _, _, _, _, _, rfl, I.s5 hd (by first | rfl | simp)⟩
    · cases ho
      have h8 := not_yet hc 9 (j := 8) (i := 6) (by kernel_rfl) hd
      have p := hp ⟨5, .data⟩ (by simp) rfl
      have e1 := I.f5 p
      subst e1
      obtain ⟨k0, k1, k2, k3, k4⟩ := unhide HCELL wz (I.bw h8)
      unfold Oper.wp
      go_simp
      exact hK _ _ ⟨_, _, _, _, _, _, _, _, rfl, I.s6 hd rfl⟩
    · cases ho
      have h8 := not_yet hc 9 (j := 8) (i := 7) (by kernel_rfl) hd
      have p1 := hp ⟨1, .data⟩ (by simp) rfl
      have p6 := hp ⟨6, .data⟩ (by simp) rfl
      obtain ⟨a1, ts, e6, ho1⟩ := I.p1 p1 hd
      subst e6
      have e1 := I.f6 p6
      subst e1
      unfold Oper.wp
      go_simp
      refine (l10Drop_M a1 m ts _ T _ (unhide HTV).1 (unhide HTV).2 (unhide HM).r (unhide HM).d (fun c h => by have := (unhide HM).rv c h; omega) ho1).mono ?_
      rintro e w2 ⟨rfl, ho2, hk2⟩
      exact hK _ _ ⟨_, _, _, _, _, _, _, _, rfl, I.s7 hd h8 ((I.bw h8).trans (hk2.below (I.bw h8).size (fun g hg => (ho1.ge g hg).1))) rfl ho2⟩
    · cases ho
      have p7 := hp ⟨7, .data⟩ (by simp) rfl
      obtain ⟨a1, ts, e12, ho1⟩ := I.p7 p7 hd
      subst e12
      have hv := (unhide HE).v.below (I.bw hd)
      have hr := (unhide HE).r.below (I.bw hd)
      obtain ⟨x0, x1, x2, x3⟩ := hv.cells
      obtain ⟨z0, z1, z2, z3⟩ := hv.free
      have hq := ImQ.put (w := w) hv hr ho1 (fr (unhide HE).b (I.bw hd)) (by have := (unhide HE).r.lt; omega) (m0 := m) (imDrop_lens _ _).1 (imDrop_lens _ _).2.1 (imDrop_lens _ _).2.2.1 (imDrop_lens _ _).2.2.2
      unfold Oper.wp
      go_simp
      exact hK _ _ ⟨_, _, _, _, _, _, _, _, rfl, I.s8 (v := undef) hd p7 hq⟩
  case he =>
    intro d f wz hI hall
    obtain ⟨s5, s6, s7, s8, s9, s10, s11, s12, rfl, I⟩ := hI
    obtain ⟨a1, ts, hq⟩ := I.p8 (hall 8 (by decide))
    have HQ := hide hq
    clear I hall hq HCELL HOWN HAV
    generalize imDrop m T = D at *
    have hgD : g < D.table.length := by rw [(unhide HQ).e2]; exact hg
    obtain ⟨c0, c1, c2, c3⟩ := (unhide HQ).v.cells
    obtain ⟨g3, e3, hc3, hf3, hs3⟩ := (unhide HQ).setT (c := g) hgD
    have HQ7 := hide (hs3 1)
    rw [e3] at c1
    clear e3 hs3
    go_upto_region 3 with fail
    clear c0 c1 c2 c3 hc3 hf3
    revert HQ7
    generalize (wz.setCell _ _) = W7
    intro HQ7
    have HF := hide (unhide HQ7).fin
    obtain ⟨c0, c1, c2, c3⟩ := (unhide HQ7).v.cells
    obtain ⟨r0, r1, r2, r3⟩ := (unhide HQ7).r.cells
    obtain ⟨z0, z1, z2, z3⟩ := (unhide HQ7).r.free
    go_wp2
    refine bodyPost_ret (res_im Try.results54 rfl (unhide HF).1) rfl ?_
    rw [unhide HR]
    first | exact ⟨a1, ts, by rw [← (unhide HQ7).val], (unhide HF).2.1, (unhide HF).2.2⟩ | exact ⟨a1, by rw [← (unhide HQ7).val], ⟨ts, (unhide HF).2.1⟩, (unhide HF).2.2⟩

end Go.Proofs.Ythnpooffhopnkac

/- Contracts of copyList, at texts and at writes: what was there, in new memory. -/
namespace Go.Proofs.Ythnpooffhopnkac
open Go.RowKit
set_option linter.unusedVariables false
set_option maxRecDepth 100000

section
variable {P : Program}

/-- 'copy(out, src)', both of n elements of some cells each. -/
theorem run_copy_whole (w : World) (dT sT ty elem : TypeId) (size g n dCap : Nat) (a : Addr) (sCap : Nat) (cur : Array Value) (t : TypeId) (cs : List Value)
    (hu : P.underlying dT = some (.slice elem)) (hs : (P.info? elem).map (·.size) = some size)
    (hg : w.heap[g]? = some (.cells cur t (0, 0))) (hl : n * size = cs.length)
    (hsrc : ∀ j v, cs[j]? = some v → w.cell? (a.add j) = some v) (hfit : cs.length ≤ cur.size) (h1 : ∀ v ∈ cs, v.oneCell' = true) :
    (Builtin.copy_ #[dT, sT] ty #[.slice (some ⟨g, 0, none⟩) n dCap, .slice (some a) n sCap]).run P w = .ok (goInt n) (w.setRow g (cs ++ cur.toList.drop cs.length).toArray) := by
  have hld := run_loadCells_list (P := P) w a cs hsrc
  have hst := run_storeCells_at P g 0 t cs 0 cur w hg (by simpa using hfit) h1
  cases hq : P.info? elem with
  | none => simp [hq] at hs
  | some i =>
    have hi : i.size = size := by simpa [hq] using hs
    simp [Builtin.copy_, run_underlying hu, Builtin.lenOf, Builtin.firstCells, sizeOf, typeInfo, hq, hi, hl, hld, hst]

theorem wpList_copy_whole {w : World} {ops : Array Oper} {rest : List Oper} {o : Oper} {a : Act} {Q : Exit → Act → World → Prop} (hgd : o.guard = none) (d s : Operand) (dT sT : TypeId)
    (ho : o.op = .call { callee := .builtin .copy, args := #[d, s], argTypes := #[dT, sT] }) (elem : TypeId) (size : Nat) (hu : P.underlying dT = some (.slice elem)) (hsz : (P.info? elem).map (·.size) = some size)
    (B g n : Nat) (ad : Addr) (sCap : Nat) (hd : a.eval d = .slice (some ⟨g, 0, none⟩) n n) (hs : a.eval s = .slice (some ad) n sCap)
    (xs : List Value) (hown : w.ownsRow B elem size (.slice (some ⟨g, 0, none⟩) n n) n xs) (cs : List Value) (hn : cs.length = n * size)
    (hsrc : ∀ j v, cs[j]? = some v → w.cell? (ad.add j) = some v) (h1 : ∀ v ∈ cs, v.oneCell' = true)
    (h : ∀ w', w'.ownsRow B elem size (.slice (some ⟨g, 0, none⟩) n n) n cs → w.grownBy w' (some g) → wpList P ops Q rest (a.put o.dst (goInt n)) w') : wpList P ops Q (o :: rest) a w := by
  refine wpList_plain hgd fun K hK => ?_
  rcases hown.2 with ⟨e, _⟩ | ⟨g', cap', cur, e, hB, hg, hnc, hcm, hcs, ht⟩
  · simp at e
  · simp only [Value.slice.injEq, Option.some.injEq, Addr.mk.injEq, and_true, true_and] at e
    obtain ⟨rfl, rfl⟩ := e
    have hrun := run_copy_whole (P := P) w dT sT o.type elem size g n n ad sCap cur elem cs hu hsz hg hn.symm hsrc (by omega) h1
    unfold Oper.wp
    simp [execOp, ho, resolve, invoke, builtin, hd, hs, hrun, Result.andThen]
    refine hK _ _ (h _ ⟨hn, .inr ⟨g, n, _, rfl, hB, setRow_heap w g _ _ elem _ hg, hnc, hcm, ?_, ?_⟩⟩ ⟨rfl, rfl, rfl, by simp, fun k _ hk => setRow_other w g k _ (fun e => hk (by simp [e]))⟩)
    · simp; omega
    · rw [← hn]; simp
end

theorem infoS : (Try.prog.info? 9).map (fun i => (i.zero, i.size, i.bytes)) = some (some (.string ⟨#[]⟩), 1, 16) := by kernel_rfl
theorem sizeS : (Try.prog.info? 9).map (·.size) = some 1 := by kernel_rfl
theorem strV_one (ss : List ByteArray) : ∀ v ∈ strV ss, v.oneCell' = true := by
  intro v hv
  simp only [strV, List.mem_map] at hv
  obtain ⟨s, _, rfl⟩ := hv
  rfl
theorem ioV_one (xs : List Wr) : ∀ v ∈ ioV xs, v.oneCell' = true := by
  intro v hv
  simp only [ioV, List.mem_flatMap] at hv
  obtain ⟨x, _, hv⟩ := hv
  simp at hv
  rcases hv with rfl | rfl | rfl <;> rfl
/-- A slice that is not empty has an address at which its cells lie. -/
theorem Ss.at {w : World} {ao : Option Addr} {ss : List ByteArray} (h : Ss w ao ss) (hp : 0 < ss.length) : ∃ b off, ao = some ⟨b, off, none⟩ ∧ ∀ j v, (strV ss)[j]? = some v → w.cell? (Addr.add ⟨b, off, none⟩ j) = some v := by
  obtain ⟨b, off, rfl, _⟩ := h 0 hp
  refine ⟨b, off, rfl, fun j v hv => ?_⟩
  have hj : j < ss.length := by have := (List.getElem?_eq_some_iff.1 hv).1; rwa [strV_length] at this
  obtain ⟨b', off', e, hc, _⟩ := h j hj
  simp only [Option.some.injEq, Addr.mk.injEq, and_true] at e
  obtain ⟨rfl, rfl⟩ := e
  rw [strV_get hj] at hv
  cases hv
  rw [show Addr.add ⟨b, off, none⟩ j = ⟨b, off + j, none⟩ from by unfold Addr.add; split <;> simp_all]
  exact hc
theorem ioV_at {xs : List Wr} {j : Nat} {v : Value} (h : (ioV xs)[j]? = some v) : ∃ i r, ∃ hi : i < xs.length, j = i * 3 + r ∧ ((r = 0 ∧ v = .int .i64 xs[i].host) ∨ (r = 1 ∧ v = .int .i64 xs[i].at_) ∨ (r = 2 ∧ v = .string xs[i].data)) := by
  have hj : j < xs.length * 3 := by have := (List.getElem?_eq_some_iff.1 h).1; rwa [ioV_length] at this
  have hi : j / 3 < xs.length := by omega
  obtain ⟨g0, g1, g2⟩ := ioV_get hi
  rcases (show j % 3 = 0 ∨ j % 3 = 1 ∨ j % 3 = 2 by omega) with e | e | e
  · rw [show j = j / 3 * 3 by omega, g0] at h; cases h
    exact ⟨j / 3, 0, hi, by omega, .inl ⟨rfl, rfl⟩⟩
  · rw [show j = j / 3 * 3 + 1 by omega, g1] at h; cases h
    exact ⟨j / 3, 1, hi, by omega, .inr (.inl ⟨rfl, rfl⟩)⟩
  · rw [show j = j / 3 * 3 + 2 by omega, g2] at h; cases h
    exact ⟨j / 3, 2, hi, by omega, .inr (.inr ⟨rfl, rfl⟩)⟩
theorem Ios.at {w : World} {ao : Option Addr} {xs : List Wr} (h : Ios w ao xs) (hp : 0 < xs.length) : ∃ b off, ao = some ⟨b, off, none⟩ ∧ ∀ j v, (ioV xs)[j]? = some v → w.cell? (Addr.add ⟨b, off, none⟩ j) = some v := by
  obtain ⟨b, off, rfl, _⟩ := h 0 hp
  refine ⟨b, off, rfl, fun j v hv => ?_⟩
  obtain ⟨i, r, hi, rfl, hr⟩ := ioV_at hv
  obtain ⟨b', off', e, h0, h1, h2, _⟩ := h i hi
  simp only [Option.some.injEq, Addr.mk.injEq, and_true] at e
  obtain ⟨rfl, rfl⟩ := e
  rw [show Addr.add ⟨b, off, none⟩ (i * 3 + r) = ⟨b, off + i * 3 + r, none⟩ from by unfold Addr.add; split <;> simp_all [Nat.add_assoc]]
  rcases hr with ⟨rfl, rfl⟩ | ⟨rfl, rfl⟩ | ⟨rfl, rfl⟩
  · exact h0
  · exact h1
  · exact h2

end Go.Proofs.Ythnpooffhopnkac

/- Contracts of the program's counts: RefsOK, clusterOK, countsOf, countsWith, list, RefUp. -/
namespace Go.Proofs.Ythnpooffhopnkac
open Go.RowKit
set_option linter.unusedVariables false
set_option maxRecDepth 100000

theorem sizeA24 : (Try.prog.info? 83).map (·.size) = some 24 := by kernel_rfl
theorem arr24 : Try.prog.arrayLen 83 = 24 := by kernel_rfl
theorem und24 : Try.prog.underlying 83 = some (.array 24 3) := by kernel_rfl
theorem sizeA {xs : List Int} (h : xs.length = 24) : (Try.prog.info? 83).map (·.size) = some (intV xs).toArray.size := by rw [intV_size, h]; exact sizeA24
theorem sizeL {xs : List Int} (h : xs.length = 24) : (Try.prog.info? 83).map (·.size) = some (intV xs).length := by rw [intV_length, h]; exact sizeA24

set_option maxHeartbeats 800000 in
theorem refsOK_impl (ao : Option Addr) (cap : Nat) (xs : List Int) (w : World) (hl : xs.length ≤ maxLen) (hc : Is w ao xs) :
    Calls Try.prog 67 #[.slice ao xs.length cap] w fun e w' => e = .returned (.bool (ctB xs)) ∧ w' = w := by
  have HC := hide hc
  clear hc
  unfold maxLen at hl
  by_cases h24 : xs.length = 24
  · have hb : ((xs.length : Int) != 24) = false := by simp [h24]
    have H24 := hide h24
    clear h24
    go_enter Try.func67, Try.ntmps67
    go_wp2
    go_loop [10] (fun i => ∃ k : Nat, k ≤ xs.length ∧ i = .int .i64 k ∧ Hid (∀ j (h : j < xs.length), j < k → cnt1 xs[j] = true)) (fun i => xs.length - (intOf i).toNat)
    case atStart => exact ⟨0, Nat.zero_le _, rfl, hide (fun j _ h => by omega)⟩
    case round =>
      obtain ⟨k, hk, rfl, HA⟩ := hrel
      by_cases hlt : k < xs.length
      · obtain ⟨b, off, rfl, hc⟩ := unhide HC k hlt
        by_cases hn : cnt1 xs[k] = true
        · have HN := hide (all_succ hlt (unhide HA) hn)
          have hn' : betw xs[k] 0 15 = true := hn
          clear hn
          go_wp2_with (go_at_call 59; refine (within_any _ _ _ _).mono ?_; rintro e w' ⟨rfl, rfl⟩)
          go_round
          case rel => exact ⟨k + 1, by omega, by go_num, HN⟩
          case measure => simp [intOf]; omega
        · have hn0 : cnt1 xs[k] = false := by simpa using hn
          have hn' : betw xs[k] 0 15 = false := hn0
          have HF := hide (ctB_noat hlt hn0)
          clear hn hn0
          go_wp2_with (go_at_call 59; refine (within_any _ _ _ _).mono ?_; rintro e w' ⟨rfl, rfl⟩)
          go_ret
          exact ⟨ret_bool (unhide HF).symm, rfl⟩
      · have HF := hide (ctB_of (unhide H24) (fun j h => unhide HA j h (by omega)))
        go_wp2
        go_ret
        exact ⟨ret_bool (unhide HF).symm, rfl⟩
  · have hb : ((xs.length : Int) != 24) = true := by simp; omega
    have HF := hide (ctB_nolen h24)
    clear h24
    go_enter Try.func67, Try.ntmps67
    go_wp2
    go_ret
    exact ⟨ret_bool (unhide HF).symm, rfl⟩

/-- An array of counts as a value. -/
abbrev ctV (xs : List Int) : Value := .agg (intV xs).toArray
theorem zero_arr : (#[.int .i64 0, .int .i64 0, .int .i64 0, .int .i64 0, .int .i64 0, .int .i64 0, .int .i64 0, .int .i64 0, .int .i64 0, .int .i64 0, .int .i64 0, .int .i64 0, .int .i64 0, .int .i64 0, .int .i64 0, .int .i64 0, .int .i64 0, .int .i64 0, .int .i64 0, .int .i64 0, .int .i64 0, .int .i64 0, .int .i64 0, .int .i64 0] : Array Value) = (intV zero24).toArray := rfl
theorem ret_ci {xs ys : List Int} {a b : Int} (h : xs = ys) (k : a = b) : Ending.returned (.tuple #[ctV xs, .int .i64 a]) = .returned (.tuple #[ctV ys, .int .i64 b]) := by rw [h, k]
theorem arr_new (w : World) : (w.alloc (.cells #[.int .i64 0, .int .i64 0, .int .i64 0, .int .i64 0, .int .i64 0, .int .i64 0, .int .i64 0, .int .i64 0, .int .i64 0, .int .i64 0, .int .i64 0, .int .i64 0, .int .i64 0, .int .i64 0, .int .i64 0, .int .i64 0, .int .i64 0, .int .i64 0, .int .i64 0, .int .i64 0, .int .i64 0, .int .i64 0, .int .i64 0, .int .i64 0] 83)).heap[w.heap.size]? = some (.cells (intV zero24).toArray 83 (0, 0)) := heap_alloc_new w _
theorem load_ct (W : World) {g : Nat} {xs : List Int} (h : W.heap[g]? = some (.cells (intV xs).toArray 83 (0, 0))) (hl : xs.length = 24) : (loadVar 83 ⟨g, 0, none⟩).run Try.prog W = .ok (ctV xs) W :=
  run_loadVar_row W g 83 83 (intV xs).toArray (0, 0) _ h und24 rfl (sizeA hl)

theorem res_ct {W : World} {g : Nat} {xs : List Int} {p u : Value} (h : W.heap[g]? = some (.cells (intV xs).toArray 83 (0, 0))) (hl : xs.length = 24) (hp : p = .pointer (some ⟨g, 0, none⟩)) : (((asAddr p).run Try.prog W).andThen fun a w₁ => ((loadVar 83 a).run Try.prog w₁).andThen fun v w₂ => .ok (Value.tuple #[v, u]) w₂) = .ok (Value.tuple #[ctV xs, u]) W := by
  subst hp
  simp only [asAddr, Sem.run_pure, Result.andThen_ok, load_ct W h hl]

set_option maxHeartbeats 1600000 in
theorem countsOf_any (ao : Option Addr) (cap : Nat) (xs : List Int) (w : World) (hl : xs.length ≤ maxLen) (hc : Is w ao xs) :
    Calls Try.prog 61 #[.slice ao xs.length cap] w fun e w' => e = .returned (.tuple #[ctV (coR xs), .int .i64 (ctF xs)]) ∧ Below w.heap.size w w' := by
  have HN := hide (arr_new w)
  have HA := hide (Joins.below_alloc1 w (.cells #[.int .i64 0, .int .i64 0, .int .i64 0, .int .i64 0, .int .i64 0, .int .i64 0, .int .i64 0, .int .i64 0, .int .i64 0, .int .i64 0, .int .i64 0, .int .i64 0, .int .i64 0, .int .i64 0, .int .i64 0, .int .i64 0, .int .i64 0, .int .i64 0, .int .i64 0, .int .i64 0, .int .i64 0, .int .i64 0, .int .i64 0, .int .i64 0] 83))
  have HC := hide (hc.below (unhide HA))
  have HL := hide hl
  unfold maxLen at hl
  clear hc
  rcases ctF_cases xs with ⟨h1, h2, h3⟩ | ⟨h1, hb, h2, h3⟩ | ⟨hb, h2, h3⟩
  · have HE := hide (And.intro h2 h3)
    clear h2 h3
    go_enter Try.func61, Try.ntmps61
    go_upto_region 1 with fail
    revert HN HA HC
    generalize (w.alloc _) = W1
    intro HN HA HC
    go_wp2_with (refine wpList_store_arr rfl 83 _ _ rfl w.heap.size rfl (intV zero24).toArray rfl _ _ (unhide HN) sizeA24 rfl (intV_one _) ?_; intro w2 hn2 hk2 hs2; have HN2 := hide hn2; have HB2 := hide (keep_one (unhide HA) hk2 (Nat.le_refl _)); clear hn2 hk2 hs2)
    refine bodyPost_ret (v := .tuple #[ctV zero24, .int .i64 2]) ?_ rfl ⟨?_, unhide HB2⟩
    · rw [results_cell_tmp Try.results61]
      exact res_ct (unhide HN2) rfl rfl
    · exact ret_ci (unhide HE).2.symm (unhide HE).1.symm
  · have HE := hide (And.intro h2 h3)
    clear h2 h3
    go_enter Try.func61, Try.ntmps61
    go_upto_region 1 with fail
    revert HN HA HC
    generalize (w.alloc _) = W1
    intro HN HA HC
    go_wp2_with (first | (go_at_call 67; refine (refsOK_impl ao cap xs _ (unhide HL) (unhide HC)).mono ?_; rintro e w' ⟨rfl, hw⟩; replace hw := hw.symm; subst hw; rw [hb]) | (refine wpList_store_arr rfl 83 _ _ rfl w.heap.size rfl (intV zero24).toArray rfl _ _ (unhide HN) sizeA24 rfl (intV_one _) ?_; intro w2 hn2 hk2 hs2; have HN2 := hide hn2; have HB2 := hide (keep_one (unhide HA) hk2 (Nat.le_refl _)); clear hn2 hk2 hs2))
    refine bodyPost_ret (v := .tuple #[ctV zero24, .int .i64 1]) ?_ rfl ⟨?_, unhide HB2⟩
    · rw [results_cell_tmp Try.results61]
      exact res_ct (unhide HN2) rfl rfl
    · exact ret_ci (unhide HE).2.symm (unhide HE).1.symm
  · have HE := hide (And.intro h2 h3)
    have hlen := ctB_len hb
    have H24 := hide hlen
    obtain ⟨b, off, rfl, hr⟩ := (unhide HC).range (by omega)
    have HR := hide hr
    have har : ∀ W : World, (Instr.arrayAt 83 (.slice (some ⟨b, off, none⟩) xs.length cap)).run Try.prog W = .ok (.pointer (some ⟨b, off, none⟩)) W := fun W => run_arrayAt (w := W) 83 3 24 _ _ _ und24 (by omega)
    have hle : ¬ (4096 : Int) < (xs.length : Int) := by omega
    clear h2 h3 hr hlen
    go_enter Try.func61, Try.ntmps61
    go_upto_region 1 with fail
    revert HN HA HC HR
    generalize (w.alloc _) = W1
    intro HN HA HC HR
    go_wp2_with (first | (go_at_call 67; refine (refsOK_impl _ cap xs _ (unhide HL) (unhide HC)).mono ?_; rintro e w' ⟨rfl, hw⟩; replace hw := hw.symm; subst hw; rw [hb]) | (refine wpList_load_mid rfl 83 _ rfl b off rfl (intV xs) _ (unhide HR) und24 rfl (sizeL (unhide H24)) ?_) | (refine wpList_store_arr rfl 83 _ _ rfl w.heap.size rfl (intV xs).toArray rfl _ _ (unhide HN) (sizeA (unhide H24)) (by rw [intV_size, intV_size, unhide H24]; rfl) (intV_one _) ?_; intro w2 hn2 hk2 hs2; have HN2 := hide hn2; have HB2 := hide (keep_one (unhide HA) hk2 (Nat.le_refl _)); clear hn2 hk2 hs2))
    refine bodyPost_ret (v := .tuple #[ctV xs, .int .i64 0]) ?_ rfl ⟨?_, unhide HB2⟩
    · rw [results_cell_tmp Try.results61]
      exact res_ct (unhide HN2) (unhide H24) rfl
    · exact ret_ci (unhide HE).2.symm (unhide HE).1.symm

/-- An array of counts in a variable. -/
abbrev VarC (W : World) (g : Nat) (xs : List Int) : Prop := W.heap[g]? = some (.cells (intV xs).toArray 83 (0, 0))
theorem cw_bad {xs : List Int} {c : Int} (h : ctF xs ≠ 0) : cwF xs c = ctF xs ∧ cwR xs c = zero24 := by
  have e : cwF xs c = ctF xs := by rw [cwF, if_neg h]
  exact ⟨e, by rw [cwR, e, if_neg h]⟩
theorem cw_out {xs : List Int} {c : Int} (h : ctF xs = 0) (hc : betw c 0 23 = false) : cwF xs c = 4 ∧ cwR xs c = zero24 := by
  have e : cwF xs c = 4 := by rw [cwF, if_pos h, hc]; rfl
  exact ⟨e, by rw [cwR, e]; rfl⟩
theorem cw_in {xs : List Int} {c : Int} (h : ctF xs = 0) (hc : betw c 0 23 = true) : cwF xs c = 0 ∧ cwR xs c = xs := by
  have e : cwF xs c = 0 := by rw [cwF, if_pos h, hc]; rfl
  exact ⟨e, by rw [cwR, e]; rfl⟩
theorem ctF_ne (xs : List Int) (h : ctF xs ≠ 0) : (ctF xs != 0) = true := by simpa using h

theorem intV_ones (xs : List Int) : ∀ v ∈ intV xs, v.oneCell' = true := by
  intro v hv
  simp only [intV, List.mem_map] at hv
  obtain ⟨n, _, rfl⟩ := hv
  rfl
theorem sizeI1 : (Try.prog.info? 3).map (·.size) = some 1 := by kernel_rfl
theorem runI1 (W : World) : (Go.sizeOf 3).run Try.prog W = .ok 1 W := by
  have h := sizeI1
  cases hq : Try.prog.info? 3 with
  | none => simp [hq] at h
  | some i =>
    have hi : i.size = 1 := by simpa [hq] using h
    simp [Go.sizeOf, typeInfo, hq, hi]
set_option maxHeartbeats 1600000 in
theorem copyI_any (b off cap : Nat) (ss : List Int) (w : World) (hl : ss.length ≤ 1048576) (h0 : 0 < ss.length) (hbl : b < w.heap.size) (hc : w.rangeAt b off (intV ss)) :
    Calls Try.prog 39 #[.slice (some ⟨b, off, none⟩) ss.length cap] w fun e w' => e = .returned (.slice (some ⟨w.heap.size, 0, none⟩) ss.length ss.length) ∧ w'.ownsRow w.heap.size 3 1 (.slice (some ⟨w.heap.size, 0, none⟩) ss.length ss.length) ss.length (intV ss) ∧ Below w.heap.size w w' := by
  have hb : ((ss.length : Int) == 0) = false := beq_eq_false_iff_ne.2 (by omega)
  have HCS := hide hc
  have HP := hide h0
  clear hc h0
  obtain ⟨i0, hi, hz0, hz1, hz2⟩ := info_parts infoM
  go_enter Try.func39, Try.ntmps39
  go_wp2_with (first | (at_make; refine wpList_make_full _ rfl _ _ 23 rfl w.heap.size 3 i0 _ 1 Try.underlying23 hi hz0 hz1 _ _ _ _ ss.length rfl rfl rfl rfl ?c1 ?c2 ?c3 ?_))
  case c1 => rw [hz2]; omega
  case c2 => unfold maxLen; omega
  case c3 => exact Nat.le_refl _
  intro w1 hown hgrow
  have hB : Below w.heap.size w w1 := (Below.refl _ _).grown hgrow (Nat.le_refl _) (fun _ h => by cases h)
  have HO := hide hown
  have HB := hide hB
  have HC1 : Hid (∀ j v, (intV ss)[j]? = some v → w1.cell? (Addr.add ⟨b, off, none⟩ j) = some v) := hide (fun j v hv => ((unhide HB).cell (by unfold Addr.add; split <;> exact hbl)).trans (by rw [Addr.add_mid]; exact unhide HCS j v hv))
  clear hown hgrow hB
  go_wp2_with (refine wpList_copy_whole rfl _ _ 23 23 rfl 3 1 Try.underlying23 sizeI1 w.heap.size w.heap.size ss.length ⟨b, off, none⟩ _ rfl rfl _ (unhide HO) (intV ss) (by rw [intV_length]; omega) (unhide HC1) (intV_ones ss) ?_; intro w2 ho2 hg2)
  have HB2 := hide ((unhide HB).grown hg2 (unhide HB).size (fun k h => by cases h; exact Nat.le_refl _))
  have HO2 := hide ho2
  clear ho2 hg2
  go_ret
  exact ⟨rfl, unhide HO2, unhide HB2⟩

theorem slice24 (W : World) (g : Nat) : (Instr.sliceAt 83 (.pointer (some ⟨g, 0, none⟩)) none none none).run Try.prog W = .ok (.slice (some ⟨g, 0, none⟩) 24 24) W := by
  have hu : Try.prog.underlying 83 = some (.array (Try.prog.arrayLen 83) (Try.prog.elem 83)) := by kernel_rfl
  have he : Try.prog.elem 83 = 3 := by kernel_rfl
  rw [run_sliceAt_array_all W _ _ hu, he, runI1, arr24]
  simp only [Result.andThen, slicedAt, Nat.mul_one, Nat.sub_zero]
  rfl
theorem idx24 (W : World) (xs : List Int) (k : Nat) (hl : xs.length = 24) (hk : k < xs.length) : (Instr.index 83 (ctV xs) (.int .i64 k)).run Try.prog W = .ok (.int .i64 xs[k]) W := by
  have hu := und24
  have hk' : k < 24 := by omega
  have h2 := sizeI1
  cases hq : Try.prog.info? 3 with
  | none => simp [hq] at h2
  | some i =>
    have hi : i.size = 1 := by simpa [hq] using h2
    simp [Instr.index, run_underlying, hu, sizeOf, typeInfo, hq, hi, intV, asIntOf, part, hk]
    intro h
    omega

end Go.Proofs.Ythnpooffhopnkac
