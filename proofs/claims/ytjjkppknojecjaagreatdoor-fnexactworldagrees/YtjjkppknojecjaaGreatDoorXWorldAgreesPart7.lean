import Derived.Test.YtjjkppknojecjaaGreatDoorXWorldAgreesPart6
import Derived.WalkKit
import Derived.WalkSpells
import Derived.Test.YtjjkppknojecjaaGreatDoorXWorldAgreesPart1
import Derived.Test.YtjjkppknojecjaaGreatDoorXWorldAgreesPart5
import Derived.OrdersHeld
import Derived.Deep.RegionHeld3
import Derived.Test.YtjjkppknojecjaaGreatDoorRows
import Derived.Test.YtjjkppknojecjaaGreatDoorXWorldAgreesPart4
import Derived.KernelRfl
import Derived.Laws.CopyRow
import Derived.Laws.CopyOwn
import Derived.Deep.Quiet
import Derived.Test.YtjjkppknojecjaaGreatDoorXWorldAgreesPart2
import Derived.Test.YtjjkppknojecjaaGreatDoorXWorldAgreesPart3
import Derived.BigQuiet
import Derived.Deep.QuietTactic
import Derived.Deep.RegionWith

namespace Go.Proofs.YtjjkppknojecjaaGreatDoor
open Go.RowKit
set_option linter.unusedVariables false
set_option maxRecDepth 100000

theorem res_w {fn : Func} {p : Tmp} {x : Nat} {W : World} {tmps : Array Value} {a : Wl4} {m : Wld} (h : fn.results = #[.cell p 50]) (hp : tmps.getD p undef = .pointer (some ⟨x, 0, none⟩)) (hv : VarW W x 50 a m) :
    (results fn tmps).run Tryz.prog W = .ok (wlV a m) W := by
  obtain ⟨c0, c1, c2, c3, c4, c5, c6, c7, c8, c9, c10, c11, c12, c13, c14⟩ := hv.cells
  rw [Array.getD_eq_getD_getElem?] at hp
  simp [results, h, hp, go_sem, c0, c1, c2, c3, c4, c5, c6, c7, c8, c9, c10, c11, c12, c13, c14]

set_option maxHeartbeats 12800000 in
theorem toWorld_any (a : Wl4) (m : Wld) (w : World) (hB : WlBd m) (hc : WlS w a m) :
    Calls Tryz.prog 6 #[wlV a m] w fun e w' => ∃ a' ts, e = .returned (wlV a' m) ∧ OwnWl w' w.heap.size a' m ts ∧ Below w.heap.size w w' := by
  have HV0 : Hid (VarW3 w (((w.alloc (.cells (wlC a m) 36)).alloc (.cells #[.slice none 0 0, .slice none 0 0, .int .i64 0, .int .i64 0, .int .i64 0, .int .i64 0, .slice none 0 0, .int .i64 0, .slice none 0 0, .slice none 0 0, .int .i64 0, .int .i64 0, .int .i64 0, .string ⟨#[]⟩, .bool false] 50)).alloc (.cells #[.slice none 0 0, .slice none 0 0, .int .i64 0, .int .i64 0, .int .i64 0, .int .i64 0, .slice none 0 0, .int .i64 0, .slice none 0 0, .slice none 0 0, .int .i64 0, .int .i64 0, .int .i64 0, .string ⟨#[]⟩, .bool false] 50)) a m wa0 wl0) := hide (VarW3.new w a m)
  have HC := hide hc
  have HBD := hide hB
  clear hc hB
  go_enter Tryz.func6, Tryz.ntmps6
  go_upto_region 2 with fail
  revert HV0
  generalize (((w.alloc _).alloc _).alloc _) = W0
  intro HV0
  have hlt0 := (unhide HV0).lt
  obtain ⟨c0, c1, _, _, _, _, _, _, _, _, _, _, _, _, _⟩ := (unhide HV0).a.cells
  go_wp2_with fail
  refine (toDisk_any a.ao a.bo a.ca a.cb m.ss m.xs _ (unhide HBD).s (unhide HBD).i ((unhide HC).below (unhide HV0).b).s ((unhide HC).below (unhide HV0).b).i).mono ?_
  rintro e w1 ⟨g1, g2, rfl, ho1, ho2, hb⟩
  have hsz0 := (unhide HV0).lt
  have HV1 := hide ((unhide HV0).below hb)
  have HD1 : Hid (OwnD w1 (w.heap.size + 3) (some ⟨g1, 0, none⟩) m.ss.length m.ss.length (some ⟨g2, 0, none⟩) m.xs.length m.xs.length m.ss m.xs) := hide ⟨(OwnR.of ho1 (fun h => ⟨_, by rw [h]⟩)).base hsz0, (OwnR.of ho2 (fun h => ⟨_, by rw [h]⟩)).base hsz0⟩
  clear ho1 ho2
  clear hb HV0 c0 c1 
  have hlt1 := (unhide HV1).lt
  obtain ⟨_, _, c2, c3, c4, c5, _, _, _, _, _, _, _, _, _⟩ := (unhide HV1).a.cells
  obtain ⟨o0, o1, _, _, _, _, _, _, _, _, _, _, _, _, _⟩ := (unhide HV1).o.cells
  have f0 := (unhide HV1).o.free 0
  have f1 := (unhide HV1).o.free 1
  have HS1 := hide (VarW3.one (b' := ⟨(some ⟨g1, 0, none⟩), m.ss.length, (some ⟨g2, 0, none⟩), m.xs.length, none, 0, ⟨none, 0, none, 0⟩⟩) (n' := ⟨m.ss, m.xs, 0, 0, 0, 0, [], 0, ⟨[], []⟩, ⟨0, 0, 0, noB⟩, false⟩) (VarW3.one (b' := ⟨(some ⟨g1, 0, none⟩), m.ss.length, none, 0, none, 0, ⟨none, 0, none, 0⟩⟩) (n' := ⟨m.ss, [], 0, 0, 0, 0, [], 0, ⟨[], []⟩, ⟨0, 0, 0, noB⟩, false⟩) (unhide HV1) 0 (.slice (some ⟨g1, 0, none⟩) m.ss.length m.ss.length) rfl) 1 (.slice (some ⟨g2, 0, none⟩) m.xs.length m.xs.length) rfl)
  have HDS1 := hide (OwnD.setCell (OwnD.setCell (unhide HD1) (a := ⟨w.heap.size + 1 + 1, 0, none⟩) (by simp) (.slice (some ⟨g1, 0, none⟩) m.ss.length m.ss.length)) (a := ⟨w.heap.size + 1 + 1, 1, none⟩) (by simp) (.slice (some ⟨g2, 0, none⟩) m.xs.length m.xs.length))
  clear HV1 HD1
  go_wp2_with fail
  refine (toCfg_any m.cf m.cd m.cl m.cr _).mono ?_
  rintro e w2 ⟨rfl, hb⟩
  have hsz1 := (unhide HS1).lt
  have HV2 := hide ((unhide HS1).below hb)
  have HD2 := hide (OwnD.below (unhide HDS1) hb)
  clear hb HS1 c2 c3 c4 c5 o0 f0 o1 f1 HDS1
  have hlt2 := (unhide HV2).lt
  obtain ⟨_, _, _, _, _, _, c6, _, _, _, _, _, _, _, _⟩ := (unhide HV2).a.cells
  obtain ⟨_, _, o2, o3, o4, o5, _, _, _, _, _, _, _, _, _⟩ := (unhide HV2).o.cells
  have f2 := (unhide HV2).o.free 2
  have f3 := (unhide HV2).o.free 3
  have f4 := (unhide HV2).o.free 4
  have f5 := (unhide HV2).o.free 5
  have HS2 := hide (VarW3.one (b' := ⟨(some ⟨g1, 0, none⟩), m.ss.length, (some ⟨g2, 0, none⟩), m.xs.length, none, 0, ⟨none, 0, none, 0⟩⟩) (n' := ⟨m.ss, m.xs, m.cf, m.cd, m.cl, m.cr, [], 0, ⟨[], []⟩, ⟨0, 0, 0, noB⟩, false⟩) (VarW3.one (b' := ⟨(some ⟨g1, 0, none⟩), m.ss.length, (some ⟨g2, 0, none⟩), m.xs.length, none, 0, ⟨none, 0, none, 0⟩⟩) (n' := ⟨m.ss, m.xs, m.cf, m.cd, m.cl, 0, [], 0, ⟨[], []⟩, ⟨0, 0, 0, noB⟩, false⟩) (VarW3.one (b' := ⟨(some ⟨g1, 0, none⟩), m.ss.length, (some ⟨g2, 0, none⟩), m.xs.length, none, 0, ⟨none, 0, none, 0⟩⟩) (n' := ⟨m.ss, m.xs, m.cf, m.cd, 0, 0, [], 0, ⟨[], []⟩, ⟨0, 0, 0, noB⟩, false⟩) (VarW3.one (b' := ⟨(some ⟨g1, 0, none⟩), m.ss.length, (some ⟨g2, 0, none⟩), m.xs.length, none, 0, ⟨none, 0, none, 0⟩⟩) (n' := ⟨m.ss, m.xs, m.cf, 0, 0, 0, [], 0, ⟨[], []⟩, ⟨0, 0, 0, noB⟩, false⟩) (unhide HV2) 2 (.int .i64 m.cf) rfl) 3 (.int .i64 m.cd) rfl) 4 (.int .i64 m.cl) rfl) 5 (.int .i64 m.cr) rfl)
  have HDS2 := hide (OwnD.setCell (OwnD.setCell (OwnD.setCell (OwnD.setCell (unhide HD2) (a := ⟨w.heap.size + 1 + 1, 2, none⟩) (by simp) (.int .i64 m.cf)) (a := ⟨w.heap.size + 1 + 1, 3, none⟩) (by simp) (.int .i64 m.cd)) (a := ⟨w.heap.size + 1 + 1, 4, none⟩) (by simp) (.int .i64 m.cl)) (a := ⟨w.heap.size + 1 + 1, 5, none⟩) (by simp) (.int .i64 m.cr))
  clear HV2 HD2
  go_wp2_with fail
  refine (toHostS_any a.ho a.hc m.hs _ (unhide HBD).h ((unhide HC).below (unhide HS2).b).h).mono ?_
  rintro e w3 ⟨g3, rfl, ho, hb⟩
  have hsz2 := (unhide HS2).lt
  have HV3 := hide ((unhide HS2).below hb)
  have HD3 := hide (OwnD.below (unhide HDS2) hb)
  have HH3 : Hid (OwnR w3 (w.heap.size + 3) 88 3 (.slice (some ⟨g3, 0, none⟩) m.hs.length m.hs.length) m.hs.length (hssV m.hs)) := hide ((OwnR.of ho (fun h => ⟨_, by rw [h]⟩)).base hsz2)
  clear ho
  clear hb HS2 c6 o2 f2 o3 f3 o4 f4 o5 f5 HDS2
  have hlt3 := (unhide HV3).lt
  obtain ⟨_, _, _, _, _, _, _, c7, c8, c9, _, _, _, _, _⟩ := (unhide HV3).a.cells
  obtain ⟨_, _, _, _, _, _, o6, o7, _, _, _, _, _, _, _⟩ := (unhide HV3).o.cells
  have f6 := (unhide HV3).o.free 6
  have f7 := (unhide HV3).o.free 7
  have HS3 := hide (VarW3.one (b' := ⟨(some ⟨g1, 0, none⟩), m.ss.length, (some ⟨g2, 0, none⟩), m.xs.length, (some ⟨g3, 0, none⟩), m.hs.length, ⟨none, 0, none, 0⟩⟩) (n' := ⟨m.ss, m.xs, m.cf, m.cd, m.cl, m.cr, m.hs, m.t, ⟨[], []⟩, ⟨0, 0, 0, noB⟩, false⟩) (VarW3.one (b' := ⟨(some ⟨g1, 0, none⟩), m.ss.length, (some ⟨g2, 0, none⟩), m.xs.length, (some ⟨g3, 0, none⟩), m.hs.length, ⟨none, 0, none, 0⟩⟩) (n' := ⟨m.ss, m.xs, m.cf, m.cd, m.cl, m.cr, m.hs, 0, ⟨[], []⟩, ⟨0, 0, 0, noB⟩, false⟩) (unhide HV3) 6 (.slice (some ⟨g3, 0, none⟩) m.hs.length m.hs.length) rfl) 7 (.int .i64 m.t) rfl)
  have HDS3 := hide (OwnD.setCell (OwnD.setCell (unhide HD3) (a := ⟨w.heap.size + 1 + 1, 6, none⟩) (by simp) (.slice (some ⟨g3, 0, none⟩) m.hs.length m.hs.length)) (a := ⟨w.heap.size + 1 + 1, 7, none⟩) (by simp) (.int .i64 m.t))
  have HHS3 := hide (OwnR.setCell (OwnR.setCell (unhide HH3) (a := ⟨w.heap.size + 1 + 1, 6, none⟩) (by simp) (.slice (some ⟨g3, 0, none⟩) m.hs.length m.hs.length)) (a := ⟨w.heap.size + 1 + 1, 7, none⟩) (by simp) (.int .i64 m.t))
  clear HV3 HD3 HH3
  go_wp2_with fail
  refine (toGuest_any a.ga m.g _ (unhide HBD).g.v (unhide HBD).g.s (fun s hs => ((unhide HBD).g.st s hs).1) ((unhide HC).below (unhide HS3).b).g).mono ?_
  rintro e w4 ⟨a4, ts, rfl, ho, hb⟩
  have hsz3 := (unhide HS3).lt
  have HV4 := hide ((unhide HS3).below hb)
  have HD4 := hide (OwnD.below (unhide HDS3) hb)
  have HH4 := hide (OwnR.below (unhide HHS3) hb)
  have HG4 : Hid (OwnGs w4 (w.heap.size + 3) a4 m.g ts) := hide (OwnGs.base ho hsz3)
  clear ho
  clear hb HS3 c8 c9 c7 o6 f6 o7 f7 HDS3 HHS3
  have hlt4 := (unhide HV4).lt
  obtain ⟨_, _, _, _, _, _, _, _, _, _, c10, c11, c12, c13, _⟩ := (unhide HV4).a.cells
  obtain ⟨_, _, _, _, _, _, _, _, o8, o9, _, _, _, _, _⟩ := (unhide HV4).o.cells
  have f8 := (unhide HV4).o.free 8
  have f9 := (unhide HV4).o.free 9
  have HS4 := hide (VarW3.one (b' := ⟨(some ⟨g1, 0, none⟩), m.ss.length, (some ⟨g2, 0, none⟩), m.xs.length, (some ⟨g3, 0, none⟩), m.hs.length, ⟨a4.vo, a4.vc, a4.so, a4.sc⟩⟩) (n' := ⟨m.ss, m.xs, m.cf, m.cd, m.cl, m.cr, m.hs, m.t, ⟨m.g.vals, m.g.shots⟩, ⟨0, 0, 0, noB⟩, false⟩) (VarW3.one (b' := ⟨(some ⟨g1, 0, none⟩), m.ss.length, (some ⟨g2, 0, none⟩), m.xs.length, (some ⟨g3, 0, none⟩), m.hs.length, ⟨a4.vo, a4.vc, none, 0⟩⟩) (n' := ⟨m.ss, m.xs, m.cf, m.cd, m.cl, m.cr, m.hs, m.t, ⟨m.g.vals, []⟩, ⟨0, 0, 0, noB⟩, false⟩) (unhide HV4) 8 (.slice a4.vo m.g.vals.length a4.vc) rfl) 9 (.slice a4.so m.g.shots.length a4.sc) rfl)
  have HDS4 := hide (OwnD.setCell (OwnD.setCell (unhide HD4) (a := ⟨w.heap.size + 1 + 1, 8, none⟩) (by simp) (.slice a4.vo m.g.vals.length a4.vc)) (a := ⟨w.heap.size + 1 + 1, 9, none⟩) (by simp) (.slice a4.so m.g.shots.length a4.sc))
  have HHS4 := hide (OwnR.setCell (OwnR.setCell (unhide HH4) (a := ⟨w.heap.size + 1 + 1, 8, none⟩) (by simp) (.slice a4.vo m.g.vals.length a4.vc)) (a := ⟨w.heap.size + 1 + 1, 9, none⟩) (by simp) (.slice a4.so m.g.shots.length a4.sc))
  have HGS4 := hide (OwnGs.setCell (OwnGs.setCell (unhide HG4) (p := ⟨w.heap.size + 1 + 1, 8, none⟩) (by simp) (.slice a4.vo m.g.vals.length a4.vc)) (p := ⟨w.heap.size + 1 + 1, 9, none⟩) (by simp) (.slice a4.so m.g.shots.length a4.sc))
  clear HV4 HD4 HH4 HG4
  go_wp2_with fail
  refine (toReq_any m.q _).mono ?_
  rintro e w5 ⟨rfl, hb⟩
  have hsz4 := (unhide HS4).lt
  have HV5 := hide ((unhide HS4).below hb)
  have HD5 := hide (OwnD.below (unhide HDS4) hb)
  have HH5 := hide (OwnR.below (unhide HHS4) hb)
  have HG5 := hide (OwnGs.below (unhide HGS4) hb)
  clear hb HS4 c10 c11 c12 c13 o8 f8 o9 f9 HDS4 HHS4 HGS4
  obtain ⟨_, _, _, _, _, _, _, _, _, _, _, _, _, _, c14⟩ := (unhide HV5).a.cells
  obtain ⟨o0, o1, o2, o3, o4, o5, o6, o7, o8, o9, o10, o11, o12, o13, o14⟩ := (unhide HV5).o.cells
  obtain ⟨r0, r1, r2, r3, r4, r5, r6, r7, r8, r9, r10, r11, r12, r13, r14⟩ := (unhide HV5).r.cells
  have f10 := (unhide HV5).o.free 10
  have f11 := (unhide HV5).o.free 11
  have f12 := (unhide HV5).o.free 12
  have f13 := (unhide HV5).o.free 13
  have f14 := (unhide HV5).o.free 14
  have z0 := (unhide HV5).r.free 0
  have z1 := (unhide HV5).r.free 1
  have z2 := (unhide HV5).r.free 2
  have z3 := (unhide HV5).r.free 3
  have z4 := (unhide HV5).r.free 4
  have z5 := (unhide HV5).r.free 5
  have z6 := (unhide HV5).r.free 6
  have z7 := (unhide HV5).r.free 7
  have z8 := (unhide HV5).r.free 8
  have z9 := (unhide HV5).r.free 9
  have z10 := (unhide HV5).r.free 10
  have z11 := (unhide HV5).r.free 11
  have z12 := (unhide HV5).r.free 12
  have z13 := (unhide HV5).r.free 13
  have z14 := (unhide HV5).r.free 14
  have HS5 := hide (VarW3.one (b' := ⟨(some ⟨g1, 0, none⟩), m.ss.length, (some ⟨g2, 0, none⟩), m.xs.length, (some ⟨g3, 0, none⟩), m.hs.length, ⟨a4.vo, a4.vc, a4.so, a4.sc⟩⟩) (n' := ⟨m.ss, m.xs, m.cf, m.cd, m.cl, m.cr, m.hs, m.t, ⟨m.g.vals, m.g.shots⟩, ⟨m.q.k, m.q.g, m.q.v, m.q.n⟩, m.ag⟩) (VarW3.one (b' := ⟨(some ⟨g1, 0, none⟩), m.ss.length, (some ⟨g2, 0, none⟩), m.xs.length, (some ⟨g3, 0, none⟩), m.hs.length, ⟨a4.vo, a4.vc, a4.so, a4.sc⟩⟩) (n' := ⟨m.ss, m.xs, m.cf, m.cd, m.cl, m.cr, m.hs, m.t, ⟨m.g.vals, m.g.shots⟩, ⟨m.q.k, m.q.g, m.q.v, m.q.n⟩, false⟩) (VarW3.one (b' := ⟨(some ⟨g1, 0, none⟩), m.ss.length, (some ⟨g2, 0, none⟩), m.xs.length, (some ⟨g3, 0, none⟩), m.hs.length, ⟨a4.vo, a4.vc, a4.so, a4.sc⟩⟩) (n' := ⟨m.ss, m.xs, m.cf, m.cd, m.cl, m.cr, m.hs, m.t, ⟨m.g.vals, m.g.shots⟩, ⟨m.q.k, m.q.g, m.q.v, noB⟩, false⟩) (VarW3.one (b' := ⟨(some ⟨g1, 0, none⟩), m.ss.length, (some ⟨g2, 0, none⟩), m.xs.length, (some ⟨g3, 0, none⟩), m.hs.length, ⟨a4.vo, a4.vc, a4.so, a4.sc⟩⟩) (n' := ⟨m.ss, m.xs, m.cf, m.cd, m.cl, m.cr, m.hs, m.t, ⟨m.g.vals, m.g.shots⟩, ⟨m.q.k, m.q.g, 0, noB⟩, false⟩) (VarW3.one (b' := ⟨(some ⟨g1, 0, none⟩), m.ss.length, (some ⟨g2, 0, none⟩), m.xs.length, (some ⟨g3, 0, none⟩), m.hs.length, ⟨a4.vo, a4.vc, a4.so, a4.sc⟩⟩) (n' := ⟨m.ss, m.xs, m.cf, m.cd, m.cl, m.cr, m.hs, m.t, ⟨m.g.vals, m.g.shots⟩, ⟨m.q.k, 0, 0, noB⟩, false⟩) (unhide HV5) 10 (.int .i64 m.q.k) rfl) 11 (.int .i64 m.q.g) rfl) 12 (.int .i64 m.q.v) rfl) 13 (.string m.q.n) rfl) 14 (.bool m.ag) rfl)
  have HR := hide (VarW.one (b := ⟨(some ⟨g1, 0, none⟩), m.ss.length, (some ⟨g2, 0, none⟩), m.xs.length, (some ⟨g3, 0, none⟩), m.hs.length, ⟨a4.vo, a4.vc, a4.so, a4.sc⟩⟩) (n := ⟨m.ss, m.xs, m.cf, m.cd, m.cl, m.cr, m.hs, m.t, ⟨m.g.vals, m.g.shots⟩, ⟨m.q.k, m.q.g, m.q.v, m.q.n⟩, m.ag⟩) (VarW.one (b := ⟨(some ⟨g1, 0, none⟩), m.ss.length, (some ⟨g2, 0, none⟩), m.xs.length, (some ⟨g3, 0, none⟩), m.hs.length, ⟨a4.vo, a4.vc, a4.so, a4.sc⟩⟩) (n := ⟨m.ss, m.xs, m.cf, m.cd, m.cl, m.cr, m.hs, m.t, ⟨m.g.vals, m.g.shots⟩, ⟨m.q.k, m.q.g, m.q.v, m.q.n⟩, false⟩) (VarW.one (b := ⟨(some ⟨g1, 0, none⟩), m.ss.length, (some ⟨g2, 0, none⟩), m.xs.length, (some ⟨g3, 0, none⟩), m.hs.length, ⟨a4.vo, a4.vc, a4.so, a4.sc⟩⟩) (n := ⟨m.ss, m.xs, m.cf, m.cd, m.cl, m.cr, m.hs, m.t, ⟨m.g.vals, m.g.shots⟩, ⟨m.q.k, m.q.g, m.q.v, noB⟩, false⟩) (VarW.one (b := ⟨(some ⟨g1, 0, none⟩), m.ss.length, (some ⟨g2, 0, none⟩), m.xs.length, (some ⟨g3, 0, none⟩), m.hs.length, ⟨a4.vo, a4.vc, a4.so, a4.sc⟩⟩) (n := ⟨m.ss, m.xs, m.cf, m.cd, m.cl, m.cr, m.hs, m.t, ⟨m.g.vals, m.g.shots⟩, ⟨m.q.k, m.q.g, 0, noB⟩, false⟩) (VarW.one (b := ⟨(some ⟨g1, 0, none⟩), m.ss.length, (some ⟨g2, 0, none⟩), m.xs.length, (some ⟨g3, 0, none⟩), m.hs.length, ⟨a4.vo, a4.vc, a4.so, a4.sc⟩⟩) (n := ⟨m.ss, m.xs, m.cf, m.cd, m.cl, m.cr, m.hs, m.t, ⟨m.g.vals, m.g.shots⟩, ⟨m.q.k, 0, 0, noB⟩, false⟩) (VarW.one (b := ⟨(some ⟨g1, 0, none⟩), m.ss.length, (some ⟨g2, 0, none⟩), m.xs.length, (some ⟨g3, 0, none⟩), m.hs.length, ⟨a4.vo, a4.vc, a4.so, a4.sc⟩⟩) (n := ⟨m.ss, m.xs, m.cf, m.cd, m.cl, m.cr, m.hs, m.t, ⟨m.g.vals, m.g.shots⟩, ⟨0, 0, 0, noB⟩, false⟩) (VarW.one (b := ⟨(some ⟨g1, 0, none⟩), m.ss.length, (some ⟨g2, 0, none⟩), m.xs.length, (some ⟨g3, 0, none⟩), m.hs.length, ⟨a4.vo, a4.vc, none, 0⟩⟩) (n := ⟨m.ss, m.xs, m.cf, m.cd, m.cl, m.cr, m.hs, m.t, ⟨m.g.vals, []⟩, ⟨0, 0, 0, noB⟩, false⟩) (VarW.one (b := ⟨(some ⟨g1, 0, none⟩), m.ss.length, (some ⟨g2, 0, none⟩), m.xs.length, (some ⟨g3, 0, none⟩), m.hs.length, ⟨none, 0, none, 0⟩⟩) (n := ⟨m.ss, m.xs, m.cf, m.cd, m.cl, m.cr, m.hs, m.t, ⟨[], []⟩, ⟨0, 0, 0, noB⟩, false⟩) (VarW.one (b := ⟨(some ⟨g1, 0, none⟩), m.ss.length, (some ⟨g2, 0, none⟩), m.xs.length, (some ⟨g3, 0, none⟩), m.hs.length, ⟨none, 0, none, 0⟩⟩) (n := ⟨m.ss, m.xs, m.cf, m.cd, m.cl, m.cr, m.hs, 0, ⟨[], []⟩, ⟨0, 0, 0, noB⟩, false⟩) (VarW.one (b := ⟨(some ⟨g1, 0, none⟩), m.ss.length, (some ⟨g2, 0, none⟩), m.xs.length, none, 0, ⟨none, 0, none, 0⟩⟩) (n := ⟨m.ss, m.xs, m.cf, m.cd, m.cl, m.cr, [], 0, ⟨[], []⟩, ⟨0, 0, 0, noB⟩, false⟩) (VarW.one (b := ⟨(some ⟨g1, 0, none⟩), m.ss.length, (some ⟨g2, 0, none⟩), m.xs.length, none, 0, ⟨none, 0, none, 0⟩⟩) (n := ⟨m.ss, m.xs, m.cf, m.cd, m.cl, 0, [], 0, ⟨[], []⟩, ⟨0, 0, 0, noB⟩, false⟩) (VarW.one (b := ⟨(some ⟨g1, 0, none⟩), m.ss.length, (some ⟨g2, 0, none⟩), m.xs.length, none, 0, ⟨none, 0, none, 0⟩⟩) (n := ⟨m.ss, m.xs, m.cf, m.cd, 0, 0, [], 0, ⟨[], []⟩, ⟨0, 0, 0, noB⟩, false⟩) (VarW.one (b := ⟨(some ⟨g1, 0, none⟩), m.ss.length, (some ⟨g2, 0, none⟩), m.xs.length, none, 0, ⟨none, 0, none, 0⟩⟩) (n := ⟨m.ss, m.xs, m.cf, 0, 0, 0, [], 0, ⟨[], []⟩, ⟨0, 0, 0, noB⟩, false⟩) (VarW.one (b := ⟨(some ⟨g1, 0, none⟩), m.ss.length, (some ⟨g2, 0, none⟩), m.xs.length, none, 0, ⟨none, 0, none, 0⟩⟩) (n := ⟨m.ss, m.xs, 0, 0, 0, 0, [], 0, ⟨[], []⟩, ⟨0, 0, 0, noB⟩, false⟩) (VarW.one (b := ⟨(some ⟨g1, 0, none⟩), m.ss.length, none, 0, none, 0, ⟨none, 0, none, 0⟩⟩) (n := ⟨m.ss, [], 0, 0, 0, 0, [], 0, ⟨[], []⟩, ⟨0, 0, 0, noB⟩, false⟩) (unhide HS5).r 0 (.slice (some ⟨g1, 0, none⟩) m.ss.length m.ss.length) rfl) 1 (.slice (some ⟨g2, 0, none⟩) m.xs.length m.xs.length) rfl) 2 (.int .i64 m.cf) rfl) 3 (.int .i64 m.cd) rfl) 4 (.int .i64 m.cl) rfl) 5 (.int .i64 m.cr) rfl) 6 (.slice (some ⟨g3, 0, none⟩) m.hs.length m.hs.length) rfl) 7 (.int .i64 m.t) rfl) 8 (.slice a4.vo m.g.vals.length a4.vc) rfl) 9 (.slice a4.so m.g.shots.length a4.sc) rfl) 10 (.int .i64 m.q.k) rfl) 11 (.int .i64 m.q.g) rfl) 12 (.int .i64 m.q.v) rfl) 13 (.string m.q.n) rfl) 14 (.bool m.ag) rfl)
  have HB := hide ((((((((((((((((unhide HS5).b.setCell (p := ⟨w.heap.size + 1, 0, none⟩) (by simp) (.slice (some ⟨g1, 0, none⟩) m.ss.length m.ss.length)).setCell (p := ⟨w.heap.size + 1, 1, none⟩) (by simp) (.slice (some ⟨g2, 0, none⟩) m.xs.length m.xs.length)).setCell (p := ⟨w.heap.size + 1, 2, none⟩) (by simp) (.int .i64 m.cf)).setCell (p := ⟨w.heap.size + 1, 3, none⟩) (by simp) (.int .i64 m.cd)).setCell (p := ⟨w.heap.size + 1, 4, none⟩) (by simp) (.int .i64 m.cl)).setCell (p := ⟨w.heap.size + 1, 5, none⟩) (by simp) (.int .i64 m.cr)).setCell (p := ⟨w.heap.size + 1, 6, none⟩) (by simp) (.slice (some ⟨g3, 0, none⟩) m.hs.length m.hs.length)).setCell (p := ⟨w.heap.size + 1, 7, none⟩) (by simp) (.int .i64 m.t)).setCell (p := ⟨w.heap.size + 1, 8, none⟩) (by simp) (.slice a4.vo m.g.vals.length a4.vc)).setCell (p := ⟨w.heap.size + 1, 9, none⟩) (by simp) (.slice a4.so m.g.shots.length a4.sc)).setCell (p := ⟨w.heap.size + 1, 10, none⟩) (by simp) (.int .i64 m.q.k)).setCell (p := ⟨w.heap.size + 1, 11, none⟩) (by simp) (.int .i64 m.q.g)).setCell (p := ⟨w.heap.size + 1, 12, none⟩) (by simp) (.int .i64 m.q.v)).setCell (p := ⟨w.heap.size + 1, 13, none⟩) (by simp) (.string m.q.n)).setCell (p := ⟨w.heap.size + 1, 14, none⟩) (by simp) (.bool m.ag))
  have HDE := hide (OwnD.setCell (OwnD.setCell (OwnD.setCell (OwnD.setCell (OwnD.setCell (OwnD.setCell (OwnD.setCell (OwnD.setCell (OwnD.setCell (OwnD.setCell (OwnD.setCell (OwnD.setCell (OwnD.setCell (OwnD.setCell (OwnD.setCell (OwnD.setCell (OwnD.setCell (OwnD.setCell (OwnD.setCell (OwnD.setCell (unhide HD5) (a := ⟨w.heap.size + 1 + 1, 10, none⟩) (by simp; try omega) (.int .i64 m.q.k)) (a := ⟨w.heap.size + 1 + 1, 11, none⟩) (by simp; try omega) (.int .i64 m.q.g)) (a := ⟨w.heap.size + 1 + 1, 12, none⟩) (by simp; try omega) (.int .i64 m.q.v)) (a := ⟨w.heap.size + 1 + 1, 13, none⟩) (by simp; try omega) (.string m.q.n)) (a := ⟨w.heap.size + 1 + 1, 14, none⟩) (by simp; try omega) (.bool m.ag)) (a := ⟨w.heap.size + 1, 0, none⟩) (by simp; try omega) (.slice (some ⟨g1, 0, none⟩) m.ss.length m.ss.length)) (a := ⟨w.heap.size + 1, 1, none⟩) (by simp; try omega) (.slice (some ⟨g2, 0, none⟩) m.xs.length m.xs.length)) (a := ⟨w.heap.size + 1, 2, none⟩) (by simp; try omega) (.int .i64 m.cf)) (a := ⟨w.heap.size + 1, 3, none⟩) (by simp; try omega) (.int .i64 m.cd)) (a := ⟨w.heap.size + 1, 4, none⟩) (by simp; try omega) (.int .i64 m.cl)) (a := ⟨w.heap.size + 1, 5, none⟩) (by simp; try omega) (.int .i64 m.cr)) (a := ⟨w.heap.size + 1, 6, none⟩) (by simp; try omega) (.slice (some ⟨g3, 0, none⟩) m.hs.length m.hs.length)) (a := ⟨w.heap.size + 1, 7, none⟩) (by simp; try omega) (.int .i64 m.t)) (a := ⟨w.heap.size + 1, 8, none⟩) (by simp; try omega) (.slice a4.vo m.g.vals.length a4.vc)) (a := ⟨w.heap.size + 1, 9, none⟩) (by simp; try omega) (.slice a4.so m.g.shots.length a4.sc)) (a := ⟨w.heap.size + 1, 10, none⟩) (by simp; try omega) (.int .i64 m.q.k)) (a := ⟨w.heap.size + 1, 11, none⟩) (by simp; try omega) (.int .i64 m.q.g)) (a := ⟨w.heap.size + 1, 12, none⟩) (by simp; try omega) (.int .i64 m.q.v)) (a := ⟨w.heap.size + 1, 13, none⟩) (by simp; try omega) (.string m.q.n)) (a := ⟨w.heap.size + 1, 14, none⟩) (by simp; try omega) (.bool m.ag))
  have HHE := hide (OwnR.setCell (OwnR.setCell (OwnR.setCell (OwnR.setCell (OwnR.setCell (OwnR.setCell (OwnR.setCell (OwnR.setCell (OwnR.setCell (OwnR.setCell (OwnR.setCell (OwnR.setCell (OwnR.setCell (OwnR.setCell (OwnR.setCell (OwnR.setCell (OwnR.setCell (OwnR.setCell (OwnR.setCell (OwnR.setCell (unhide HH5) (a := ⟨w.heap.size + 1 + 1, 10, none⟩) (by simp; try omega) (.int .i64 m.q.k)) (a := ⟨w.heap.size + 1 + 1, 11, none⟩) (by simp; try omega) (.int .i64 m.q.g)) (a := ⟨w.heap.size + 1 + 1, 12, none⟩) (by simp; try omega) (.int .i64 m.q.v)) (a := ⟨w.heap.size + 1 + 1, 13, none⟩) (by simp; try omega) (.string m.q.n)) (a := ⟨w.heap.size + 1 + 1, 14, none⟩) (by simp; try omega) (.bool m.ag)) (a := ⟨w.heap.size + 1, 0, none⟩) (by simp; try omega) (.slice (some ⟨g1, 0, none⟩) m.ss.length m.ss.length)) (a := ⟨w.heap.size + 1, 1, none⟩) (by simp; try omega) (.slice (some ⟨g2, 0, none⟩) m.xs.length m.xs.length)) (a := ⟨w.heap.size + 1, 2, none⟩) (by simp; try omega) (.int .i64 m.cf)) (a := ⟨w.heap.size + 1, 3, none⟩) (by simp; try omega) (.int .i64 m.cd)) (a := ⟨w.heap.size + 1, 4, none⟩) (by simp; try omega) (.int .i64 m.cl)) (a := ⟨w.heap.size + 1, 5, none⟩) (by simp; try omega) (.int .i64 m.cr)) (a := ⟨w.heap.size + 1, 6, none⟩) (by simp; try omega) (.slice (some ⟨g3, 0, none⟩) m.hs.length m.hs.length)) (a := ⟨w.heap.size + 1, 7, none⟩) (by simp; try omega) (.int .i64 m.t)) (a := ⟨w.heap.size + 1, 8, none⟩) (by simp; try omega) (.slice a4.vo m.g.vals.length a4.vc)) (a := ⟨w.heap.size + 1, 9, none⟩) (by simp; try omega) (.slice a4.so m.g.shots.length a4.sc)) (a := ⟨w.heap.size + 1, 10, none⟩) (by simp; try omega) (.int .i64 m.q.k)) (a := ⟨w.heap.size + 1, 11, none⟩) (by simp; try omega) (.int .i64 m.q.g)) (a := ⟨w.heap.size + 1, 12, none⟩) (by simp; try omega) (.int .i64 m.q.v)) (a := ⟨w.heap.size + 1, 13, none⟩) (by simp; try omega) (.string m.q.n)) (a := ⟨w.heap.size + 1, 14, none⟩) (by simp; try omega) (.bool m.ag))
  have HGE := hide (OwnGs.setCell (OwnGs.setCell (OwnGs.setCell (OwnGs.setCell (OwnGs.setCell (OwnGs.setCell (OwnGs.setCell (OwnGs.setCell (OwnGs.setCell (OwnGs.setCell (OwnGs.setCell (OwnGs.setCell (OwnGs.setCell (OwnGs.setCell (OwnGs.setCell (OwnGs.setCell (OwnGs.setCell (OwnGs.setCell (OwnGs.setCell (OwnGs.setCell (unhide HG5) (p := ⟨w.heap.size + 1 + 1, 10, none⟩) (by simp; try omega) (.int .i64 m.q.k)) (p := ⟨w.heap.size + 1 + 1, 11, none⟩) (by simp; try omega) (.int .i64 m.q.g)) (p := ⟨w.heap.size + 1 + 1, 12, none⟩) (by simp; try omega) (.int .i64 m.q.v)) (p := ⟨w.heap.size + 1 + 1, 13, none⟩) (by simp; try omega) (.string m.q.n)) (p := ⟨w.heap.size + 1 + 1, 14, none⟩) (by simp; try omega) (.bool m.ag)) (p := ⟨w.heap.size + 1, 0, none⟩) (by simp; try omega) (.slice (some ⟨g1, 0, none⟩) m.ss.length m.ss.length)) (p := ⟨w.heap.size + 1, 1, none⟩) (by simp; try omega) (.slice (some ⟨g2, 0, none⟩) m.xs.length m.xs.length)) (p := ⟨w.heap.size + 1, 2, none⟩) (by simp; try omega) (.int .i64 m.cf)) (p := ⟨w.heap.size + 1, 3, none⟩) (by simp; try omega) (.int .i64 m.cd)) (p := ⟨w.heap.size + 1, 4, none⟩) (by simp; try omega) (.int .i64 m.cl)) (p := ⟨w.heap.size + 1, 5, none⟩) (by simp; try omega) (.int .i64 m.cr)) (p := ⟨w.heap.size + 1, 6, none⟩) (by simp; try omega) (.slice (some ⟨g3, 0, none⟩) m.hs.length m.hs.length)) (p := ⟨w.heap.size + 1, 7, none⟩) (by simp; try omega) (.int .i64 m.t)) (p := ⟨w.heap.size + 1, 8, none⟩) (by simp; try omega) (.slice a4.vo m.g.vals.length a4.vc)) (p := ⟨w.heap.size + 1, 9, none⟩) (by simp; try omega) (.slice a4.so m.g.shots.length a4.sc)) (p := ⟨w.heap.size + 1, 10, none⟩) (by simp; try omega) (.int .i64 m.q.k)) (p := ⟨w.heap.size + 1, 11, none⟩) (by simp; try omega) (.int .i64 m.q.g)) (p := ⟨w.heap.size + 1, 12, none⟩) (by simp; try omega) (.int .i64 m.q.v)) (p := ⟨w.heap.size + 1, 13, none⟩) (by simp; try omega) (.string m.q.n)) (p := ⟨w.heap.size + 1, 14, none⟩) (by simp; try omega) (.bool m.ag))
  clear HV5 HS5 HD5 HH5 HG5
  go_wp2
  refine bodyPost_ret (res_w (a := ⟨(some ⟨g1, 0, none⟩), m.ss.length, (some ⟨g2, 0, none⟩), m.xs.length, (some ⟨g3, 0, none⟩), m.hs.length, ⟨a4.vo, a4.vc, a4.so, a4.sc⟩⟩) (m := m) Tryz.results6 rfl (unhide HR)) rfl ⟨⟨(some ⟨g1, 0, none⟩), m.ss.length, (some ⟨g2, 0, none⟩), m.xs.length, (some ⟨g3, 0, none⟩), m.hs.length, ⟨a4.vo, a4.vc, a4.so, a4.sc⟩⟩, ts, rfl, ⟨(unhide HDE).base (by omega), OwnR.base (unhide HHE) (by omega), OwnGs.base (unhide HGE) (by omega)⟩, unhide HB⟩

end Go.Proofs.YtjjkppknojecjaaGreatDoor

namespace Go.Proofs.YtjjkppknojecjaaGreatDoor
open Go.RowKit
set_option linter.unusedVariables false

section
variable {P : Program} {Q : Exit → Act → World → Prop} {S S' : World → Prop} {C : Act → World → Prop} {l : List Oper} {hl : List Nat}

def wpAnyR (P : Program) (l : List Oper) (Q : Exit → Act → World → Prop) (S : World → Prop) (hl : List Nat) : Nat → Array Bool → Act → World → Prop
  | 0, listed, a, w => Region.ready .any l.toArray listed = [] ∧ Q .normal a w
  | fuel + 1, listed, a, w =>
    (Region.ready .any l.toArray listed = [] → Q .normal a w) ∧
    ∀ i ∈ Region.ready .any l.toArray listed, wpOp P l.toArray Q i (fun a' w' => (i ∈ hl → S w') ∧ wpAnyR P l Q S hl fuel (listed.setIfInBounds i true) a' w') a w
theorem wpAny_of_R : ∀ (fuel : Nat) (listed : Array Bool) (a : Act) (w : World), wpAnyR P l Q S hl fuel listed a w → wpAny P .any l.toArray Q fuel listed a w
  | 0, _, _, _, h => h
  | fuel + 1, _, _, _, h => ⟨h.1, fun i hi => wpOp_mono (fun a' w' h' => wpAny_of_R fuel _ a' w' h'.2) (h.2 i hi)⟩

abbrev lsD (listed : Array Bool) : Nat → Bool := fun j => listed.getD j false
theorem closed_set {listed : Array Bool} {i : Nat} (hc : Closed l (lsD listed)) (hi : i ∈ Region.ready .any l.toArray listed) : Closed l (lsD (listed.setIfInBounds i true)) := by
  intro j o ho hd e he hb
  by_cases hji : j = i
  · subst hji
    obtain ⟨_, o', ho', hp⟩ := mem_ready.1 hi
    have h2 : l.toArray[j]? = l[j]? := by simp
    rw [h2, ho] at ho'
    cases ho'
    exact getD_set_true (hp e he hb)
  · have : lsD listed j = true := by
      have hd' : (listed.setIfInBounds i true).getD j false = true := hd
      rwa [getD_set_ne false (Ne.symm hji)] at hd'
    exact getD_set_true (hc j o ho this e he hb)
def Anc (l : List Oper) (j i : Nat) : Prop := ∀ d : Nat → Bool, Closed l d → d j = true → d i = true
theorem rg_unlisted {listed : Array Bool} {i : Nat} (h : listed.getD i true = false) : i < listed.size ∧ listed.getD i false = false := by
  rw [Array.getD_eq_getD_getElem?] at h ⊢
  by_cases hi : i < listed.size
  · rw [Array.getElem?_eq_getElem hi] at h ⊢
    exact ⟨hi, by simpa using h⟩
  · rw [Array.getElem?_eq_none (Nat.le_of_not_lt hi)] at h
    simp at h
theorem ready_anc {listed : Array Bool} {i j : Nat} (hc : Closed l (lsD listed)) (hj : j ∈ Region.ready .any l.toArray listed) (hr : Anc l j i) (hne : j ≠ i) (hi : listed.getD i true = false) : False := by
  have h1 := (mem_ready.1 hj).1
  have h2 := hr _ (closed_set hc hj) (by
    show (listed.setIfInBounds j true).getD j false = true
    have := (rg_unlisted h1).1
    simp [Array.getD_eq_getD_getElem?, this])
  have h3 : (listed.setIfInBounds j true).getD i false = true := h2
  rw [getD_set_ne false hne, (rg_unlisted hi).2] at h3
  cases h3

theorem wpAnyR_first {i : Nat} {oi : Oper} {v : Value} (hi : l.toArray[i]? = some oi) (hsel : ∀ (j : Nat) (o : Oper) cs b, l.toArray[j]? = some o → o.op ≠ .select cs b)
    (hQ : ∀ c a w, Q (.panic c) (a.put oi.dst v) w → Q (.panic c) a w) (hSS : ∀ w, S w → S' w) (hst : ∀ j, j < l.length → j ∉ hl → j ≠ i → Anc l j i ∨ ((∀ w, S' w) ∧ i ∉ hl)) :
    ∀ (fuel : Nat) (listed : Array Bool) (a : Act) (w : World), Closed l (lsD listed) →
      (∀ j oj, l.toArray[j]? = some oj → j ≠ i → listed.getD j true = false → (∀ e ∈ oj.after, Region.binds .any e = true → e.on ≠ i) → oi.apart l.toArray oj = true) →
      i ∈ Region.ready .any l.toArray listed → YieldsIf P l.toArray S' oi v a → S' w → (i ∈ hl → S w) →
      wpAnyR P l Q S hl fuel (listed.setIfInBounds i true) (a.put oi.dst v) w → wpAnyR P l Q S hl (fuel + 1) listed a w := by
  intro fuel
  induction fuel with
  | zero =>
    intro listed a w hc _ hr hy hS hSw H
    refine ⟨fun h => (by rw [h] at hr; cases hr), fun j hj => ?_⟩
    by_cases hji : j = i
    · subst hji; exact hy.wpOp hi hS ⟨hSw, H⟩
    · have := ready_mono hj hji
      rw [H.1] at this
      cases this
  | succ fuel ih =>
    intro listed a w hc hfree hr hy hS hSw H
    refine ⟨fun h => (by rw [h] at hr; cases hr), fun j hj => ?_⟩
    by_cases hji : j = i
    · subst hji; exact hy.wpOp hi hS ⟨hSw, H⟩
    · have h1 := H.2 j (ready_mono hj hji)
      obtain ⟨hjun, oj, hoj, hall⟩ := mem_ready.1 hj
      have hiun := (mem_ready.1 hr).1
      have hnot : ∀ e ∈ oj.after, Region.binds .any e = true → e.on ≠ i := fun e he hb heq => by
        have h1 := hall e he hb
        rw [heq, (rg_unlisted hiun).2] at h1
        cases h1
      have h2 := wpOp_putIf hoj (hfree j oj hoj hji hjun hnot) (fun cs b => hsel i oi cs b hi) (fun cs b => hsel j oj cs b hoj) hQ hy h1
      have hfree' : ∀ k ok, l.toArray[k]? = some ok → k ≠ i → (listed.setIfInBounds j true).getD k true = false →
          (∀ e ∈ ok.after, Region.binds .any e = true → e.on ≠ i) → oi.apart l.toArray ok = true := fun k ok hk hki hun hno => by
        refine hfree k ok hk hki ?_ hno
        by_cases hjk : j = k
        · subst hjk; exact hjun
        · rw [getD_set_ne true hjk] at hun; exact hun
      have hjl : j < l.length := by have := (Array.getElem?_eq_some_iff.1 hoj).1; simpa using this
      have hkey : ∀ w', (j ∈ hl → S w') → S' w' ∧ (i ∈ hl → S w') := fun w' h => by
        by_cases hjh : j ∈ hl
        · exact ⟨hSS _ (h hjh), fun _ => h hjh⟩
        · rcases hst j hjl hjh hji with h5 | h5
          · exact (ready_anc hc hj h5 hji hiun).elim
          · exact ⟨h5.1 _, fun h6 => absurd h6 h5.2⟩
      refine wpOp_mono (fun a' w' h3 => ⟨h3.2.1, ih (listed.setIfInBounds j true) a' w' (closed_set hc hj) hfree' (ready_mono hr (Ne.symm hji)) h3.1 (hkey w' h3.2.1).1 (hkey w' h3.2.1).2 ?_⟩) h2
      rw [Array.setIfInBounds_comm _ _ hji]
      exact h3.2.2

def ancGo : List Oper → List (List Nat) → List (List Nat)
  | [], acc => acc
  | o :: r, acc => ancGo r (acc ++ [(o.after.toList.flatMap fun e => if Region.binds .any e then e.on :: acc.getD e.on [] else []).eraseDups])
def ancs (l : List Oper) : List (List Nat) := ancGo l []
theorem ancGo_spec (L : List Oper) : ∀ (r : List Oper) (acc : List (List Nat)), (∀ k, r[k]? = L[acc.length + k]?) → (∀ j, ∀ i ∈ acc.getD j [], Anc L j i) → ∀ j, ∀ i ∈ (ancGo r acc).getD j [], Anc L j i
  | [], acc, _, h => h
  | o :: r, acc, hr, h => by
    unfold ancGo
    refine ancGo_spec L r _ (fun k => ?_) (fun j i hi => ?_)
    · have := hr (k + 1)
      rw [List.length_append, List.length_singleton, Nat.add_assoc, Nat.add_comm 1 k]
      simpa using this
    · by_cases hj : j < acc.length
      · rw [List.getD_eq_getElem?_getD, List.getElem?_append_left hj, ← List.getD_eq_getElem?_getD] at hi
        exact h j i hi
      · by_cases hj2 : j = acc.length
        · subst hj2
          rw [List.getD_eq_getElem?_getD, List.getElem?_append_right (Nat.le_refl _), Nat.sub_self] at hi
          simp only [List.getElem?_cons_zero, Option.getD_some, List.mem_eraseDups, List.mem_flatMap] at hi
          obtain ⟨e, he, hie⟩ := hi
          have ho : L[acc.length]? = some o := by have := hr 0; simpa using this.symm
          intro d hc hd
          by_cases hb : Region.binds .any e = true
          · rw [if_pos hb] at hie
            have h1 := hc _ o ho hd e (by simpa using he) hb
            rcases List.mem_cons.1 hie with rfl | hie
            · exact h1
            · exact h e.on i hie d hc h1
          · rw [if_neg hb] at hie
            cases hie
        · rw [List.getD_eq_getElem?_getD, List.getElem?_eq_none (by rw [List.length_append, List.length_singleton]; omega)] at hi
          simp at hi
theorem ancs_spec {l : List Oper} {j i : Nat} (h : ((ancs l).getD j []).contains i = true) : Anc l j i :=
  ancGo_spec l l [] (fun k => by simp) (fun j i hi => by simp at hi) j i (by simpa [ancs] using h)

def rgFrB (l : List Oper) (listed : Array Bool) (i : Nat) : Bool := (Region.ready .any l.toArray listed).contains i && Region.free .any l.toArray listed i
def rgStB (l : List Oper) (hl : List Nat) (i : Nat) : Bool := (List.range l.length).all fun j => hl.contains j || j == i || ((ancs l).getD j []).contains i
def rgOrdB (l : List Oper) (hl : List Nat) : List (Nat × Nat) → Array Bool → Bool
  | [], _ => true
  | (i, k) :: r, listed => (match k with
      | 0 => rgFrB l listed i && rgStB l hl i
      | 2 => hl.contains i && (Region.ready .any l.toArray listed == [i])
      | 3 => !hl.contains i && (Region.ready .any l.toArray listed == [i])
      | 4 => !hl.contains i && rgFrB l listed i
      | 5 => rgFrB l listed i && rgStB l hl i
      | _ => !hl.contains i && rgFrB l listed i) && rgOrdB l hl r (listed.setIfInBounds i true)
def rgSet : List (Nat × Nat) → Array Bool → Array Bool
  | [], listed => listed
  | (i, _) :: r, listed => rgSet r (listed.setIfInBounds i true)
def wpOrd (P : Program) (l : List Oper) (Q : Exit → Act → World → Prop) (S : World → Prop) (C : Act → World → Prop) : List (Nat × Nat) → Act → World → Prop
  | [], a, w => C a w
  | (i, k) :: r, a, w => ∀ o, l[i]? = some o → match k with
      | 0 => Region.wanted o (yielded l.toArray a.tmps) = true ∧ S w ∧ ∃ v, (∀ w', S w' → (execOp a.eval o).run P w' = .ok (.value v) w') ∧ wpOrd P l Q S C r (a.put o.dst v) w
      | 2 => Region.wanted o (yielded l.toArray a.tmps) = true ∧ o.wp P a w (fun a' w' => S w' ∧ wpOrd P l Q S C r a' w') Q
      | 3 => Region.wanted o (yielded l.toArray a.tmps) = true ∧ o.wp P a w (wpOrd P l Q S C r) Q
      | 4 => Region.wanted o (yielded l.toArray a.tmps) = true ∧ ∃ v, (∀ w', (execOp a.eval o).run P w' = .ok (.value v) w') ∧ wpOrd P l Q S C r (a.put o.dst v) w
      | 5 => Region.wanted o (yielded l.toArray a.tmps) = false ∧ S w ∧ wpOrd P l Q S C r (a.put o.dst undef) w
      | _ => Region.wanted o (yielded l.toArray a.tmps) = false ∧ wpOrd P l Q S C r (a.put o.dst undef) w
theorem rgSt_spec {i : Nat} (h : rgStB l hl i = true) : ∀ j, j < l.length → j ∉ hl → j ≠ i → Anc l j i := fun j hj hh hne => by
  have := List.all_eq_true.1 h j (List.mem_range.2 hj)
  simp only [Bool.or_eq_true, List.contains_iff_mem, beq_iff_eq] at this
  rcases this with (h1 | h1) | h1
  · exact absurd h1 hh
  · exact absurd h1 hne
  · exact ancs_spec (by simpa using h1)
theorem anyR_of_ord (hs : Region.noSelect l.toArray = true) (hQ : ∀ c a w, Q (.panic c) a w → False) (fuel : Nat) : ∀ (ord : List (Nat × Nat)) (listed : Array Bool) (a : Act) (w : World), Closed l (lsD listed) → rgOrdB l hl ord listed = true → wpOrd P l Q S (fun a w => Closed l (lsD (rgSet ord listed)) → wpAnyR P l Q S hl fuel (rgSet ord listed) a w) ord a w → wpAnyR P l Q S hl (ord.length + fuel) listed a w
  | [], listed, a, w, hc, hB, h => by simpa [rgSet] using h hc
  | (i, k) :: r, listed, a, w, hc, hB, h => by
    rw [show ((i, k) :: r).length + fuel = (r.length + fuel) + 1 by simp only [List.length_cons]; omega]
    have hrs : rgSet ((i, k) :: r) listed = rgSet r (listed.setIfInBounds i true) := rfl
    rw [hrs] at h
    obtain ⟨C, hC⟩ : ∃ C, C = (fun a w => Closed l (lsD (rgSet r (listed.setIfInBounds i true))) → wpAnyR P l Q S hl fuel (rgSet r (listed.setIfInBounds i true)) a w) := ⟨_, rfl⟩
    rw [← hC] at h
    unfold rgOrdB at hB
    rw [Bool.and_eq_true] at hB
    obtain ⟨hB1, hB2⟩ := hB
    have hone : ∀ (hrd : Region.ready .any l.toArray listed = [i]) (hw : ∀ o, l[i]? = some o → Region.wanted o (yielded l.toArray a.tmps) = true ∧ o.wp P a w (fun a' w' => (i ∈ hl → S w') ∧ wpOrd P l Q S C r a' w') Q), wpAnyR P l Q S hl (r.length + fuel + 1) listed a w := by
      intro hrd hw
      refine ⟨fun h0 => (by rw [hrd] at h0; cases h0), fun j hj => ?_⟩
      have hji : j = i := by rw [hrd] at hj; simpa using hj
      subst hji
      obtain ⟨_, o, ho, _⟩ := mem_ready.1 hj
      have ho' : l[j]? = some o := by simpa using ho
      obtain ⟨h1, h2⟩ := hw o ho'
      unfold wpOp
      simp only [ho]
      rw [if_pos h1]
      exact .inl (Oper.wp_mono (fun a' w' h3 => ⟨h3.1, anyR_of_ord hs hQ fuel r _ a' w' (closed_set hc hj) hB2 (hC ▸ h3.2)⟩) h2)
    have hfirst : ∀ (v : Value) (S' : World → Prop) (hf : rgFrB l listed i = true) (hSS : ∀ w, S w → S' w) (hst : ∀ j, j < l.length → j ∉ hl → j ≠ i → Anc l j i ∨ ((∀ w, S' w) ∧ i ∉ hl)) (hS' : S' w) (hSw : i ∈ hl → S w)
        (hy : ∀ o, l[i]? = some o → YieldsIf P l.toArray S' o v a ∧ wpOrd P l Q S C r (a.put o.dst v) w), wpAnyR P l Q S hl (r.length + fuel + 1) listed a w := by
      intro v S' hf hSS hst hS' hSw hy
      unfold rgFrB at hf
      rw [Bool.and_eq_true] at hf
      have hir : i ∈ Region.ready .any l.toArray listed := by simpa using hf.1
      obtain ⟨_, o, ho, _⟩ := mem_ready.1 hir
      have ho' : l[i]? = some o := by simpa using ho
      obtain ⟨h1, h2⟩ := hy o ho'
      exact wpAnyR_first ho (Region.noSelect_spec hs) (fun c a w h => (hQ _ _ _ h).elim) hSS hst (r.length + fuel) listed a w hc (Region.free_spec ho hf.2) hir h1 hS' hSw (anyR_of_ord hs hQ fuel r _ _ _ (closed_set hc hir) hB2 (hC ▸ h2))
    match k, hB1, h with
    | 0, hB1, h =>
      simp only [Bool.and_eq_true] at hB1
      have hir : i ∈ Region.ready .any l.toArray listed := by have := hB1.1; unfold rgFrB at this; rw [Bool.and_eq_true] at this; simpa using this.1
      obtain ⟨_, o, ho, _⟩ := mem_ready.1 hir
      have ho' : l[i]? = some o := by simpa using ho
      obtain ⟨h1, h2, v, h3, h4⟩ := h o ho'
      exact hfirst v S hB1.1 (fun _ h => h) (fun j a b c => .inl (rgSt_spec hB1.2 j a b c)) h2 (fun _ => h2) (fun o2 ho2 => by
        rw [ho'] at ho2
        cases ho2
        exact ⟨.inl ⟨h1, h3⟩, h4⟩)
    | 1, hB1, h =>
      simp only [Bool.and_eq_true, Bool.not_eq_true'] at hB1
      exact hfirst undef (fun _ => True) hB1.2 (fun _ _ => trivial) (fun _ _ _ _ => .inr ⟨fun _ => trivial, by simpa using hB1.1⟩) trivial (fun h6 => absurd h6 (by simpa using hB1.1)) (fun o ho => ⟨.inr ⟨(h o ho).1, rfl⟩, (h o ho).2⟩)
    | 2, hB1, h =>
      simp only [Bool.and_eq_true, beq_iff_eq] at hB1
      exact hone hB1.2 (fun o ho => ⟨(h o ho).1, Oper.wp_mono (fun a' w' h3 => ⟨fun _ => h3.1, h3.2⟩) (h o ho).2⟩)
    | 3, hB1, h =>
      simp only [Bool.and_eq_true, beq_iff_eq, Bool.not_eq_true'] at hB1
      exact hone hB1.2 (fun o ho => ⟨(h o ho).1, Oper.wp_mono (fun a' w' h3 => ⟨fun h6 => absurd h6 (by simpa using hB1.1), h3⟩) (h o ho).2⟩)
    | 4, hB1, h =>
      simp only [Bool.and_eq_true, Bool.not_eq_true'] at hB1
      have hir : i ∈ Region.ready .any l.toArray listed := by have := hB1.2; unfold rgFrB at this; rw [Bool.and_eq_true] at this; simpa using this.1
      obtain ⟨_, o, ho, _⟩ := mem_ready.1 hir
      have ho' : l[i]? = some o := by simpa using ho
      obtain ⟨h1, v, h3, h4⟩ := h o ho'
      exact hfirst v (fun _ => True) hB1.2 (fun _ _ => trivial) (fun _ _ _ _ => .inr ⟨fun _ => trivial, by simpa using hB1.1⟩) trivial (fun h6 => absurd h6 (by simpa using hB1.1)) (fun o2 ho2 => by
        rw [ho'] at ho2
        cases ho2
        exact ⟨.inl ⟨h1, fun w' _ => h3 w'⟩, h4⟩)
    | 5, hB1, h =>
      simp only [Bool.and_eq_true] at hB1
      have hir : i ∈ Region.ready .any l.toArray listed := by have := hB1.1; unfold rgFrB at this; rw [Bool.and_eq_true] at this; simpa using this.1
      obtain ⟨_, o, ho, _⟩ := mem_ready.1 hir
      have ho' : l[i]? = some o := by simpa using ho
      obtain ⟨h1, h2, h4⟩ := h o ho'
      exact hfirst undef S hB1.1 (fun _ h => h) (fun j a b c => .inl (rgSt_spec hB1.2 j a b c)) h2 (fun _ => h2) (fun o2 ho2 => by
        rw [ho'] at ho2
        cases ho2
        exact ⟨.inr ⟨h1, rfl⟩, h4⟩)
    | n + 6, hB1, h =>
      simp only [Bool.and_eq_true, Bool.not_eq_true'] at hB1
      exact hfirst undef (fun _ => True) hB1.2 (fun _ _ => trivial) (fun _ _ _ _ => .inr ⟨fun _ => trivial, by simpa using hB1.1⟩) trivial (fun h6 => absurd h6 (by simpa using hB1.1)) (fun o ho => ⟨.inr ⟨(h o ho).1, rfl⟩, (h o ho).2⟩)

theorem closed_none (n : Nat) : Closed l (lsD (Array.replicate n false)) := fun j o _ hd => by
  have hd' : (Array.replicate n false).getD j false = true := hd
  rw [Array.getD_eq_getD_getElem?, Array.getElem?_replicate] at hd'
  split at hd' <;> simp at hd'
theorem ord_imp {C' : Act → World → Prop} (hC : ∀ a w, C a w → C' a w) : ∀ (ord : List (Nat × Nat)) (a : Act) (w : World), wpOrd P l Q S C ord a w → wpOrd P l Q S C' ord a w
  | [], a, w, h => hC a w h
  | (i, k) :: r, a, w, h => fun o ho => by
    have h1 := h o ho
    match k, h1 with
    | 0, h1 => exact ⟨h1.1, h1.2.1, h1.2.2.imp fun v hv => ⟨hv.1, ord_imp hC r _ _ hv.2⟩⟩
    | 1, h1 => exact ⟨h1.1, ord_imp hC r _ _ h1.2⟩
    | 2, h1 => exact ⟨h1.1, Oper.wp_mono (fun a' w' h3 => ⟨h3.1, ord_imp hC r _ _ h3.2⟩) h1.2⟩
    | 3, h1 => exact ⟨h1.1, Oper.wp_mono (fun a' w' h3 => ord_imp hC r _ _ h3) h1.2⟩
    | 4, h1 => exact ⟨h1.1, h1.2.imp fun v hv => ⟨hv.1, ord_imp hC r _ _ hv.2⟩⟩
    | 5, h1 => exact ⟨h1.1, h1.2.1, ord_imp hC r _ _ h1.2.2⟩
    | n + 6, h1 => exact ⟨h1.1, ord_imp hC r _ _ h1.2⟩
theorem wp_region_ord {id : Nat} {a : Act} {w : World} (S : World → Prop) (hl : List Nat) (ord : List (Nat × Nat)) (hm : P.follows .mixedOrders = true) (hs : Region.noSelect l.toArray = true) (hn : ord.length = l.length) (hB : (rgOrdB l hl ord (Array.replicate l.length false) && (Region.ready .any l.toArray (rgSet ord (Array.replicate l.length false))).isEmpty) = true)
    (h : wpOrd P l (NoPanic Q) S (fun a w => NoPanic Q .normal a w) ord a w.drew) : (Code.region id l.toArray true).wp P Q a w := by
  refine wp_region_noPanic (wp_region_any hm (wpAny_of_R (S := S) (hl := hl) _ _ _ _ ?_))
  rw [Bool.and_eq_true] at hB
  have := anyR_of_ord (P := P) (Q := NoPanic Q) (S := S) (hl := hl) hs (fun _ _ _ h => h) 0 ord _ a w.drew (closed_none _) hB.1 (ord_imp (fun a w h _ => ⟨by simpa using hB.2, h⟩) ord _ _ h)
  rw [Nat.add_zero, hn] at this
  simpa using this
def wpT (P : Program) (l : List Oper) (Q : Exit → Act → World → Prop) (S : World → Prop) (hl : List Nat) (fuel : Nat) (listed : Array Bool) (a : Act) (w : World) : Prop := Closed l (lsD listed) → wpAnyR P l Q S hl fuel listed a w
theorem tree_two {fuel i j : Nat} {oi oj : Oper} {listed : Array Bool} {a : Act} {w : World} (hi : l[i]? = some oi) (hj : l[j]? = some oj) (gi : oi.guard = none) (gj : oj.guard = none) (hB : (Region.ready .any l.toArray listed == [i, j]) = true)
    (h1 : ∀ K : Act → World → Prop, (∀ a' w', (i ∈ hl → S w') → wpT P l Q S hl fuel (listed.setIfInBounds i true) a' w' → K a' w') → oi.wp P a w K Q)
    (h2 : ∀ K : Act → World → Prop, (∀ a' w', (j ∈ hl → S w') → wpT P l Q S hl fuel (listed.setIfInBounds j true) a' w' → K a' w') → oj.wp P a w K Q) : wpT P l Q S hl (fuel + 1) listed a w := fun hc => by
  have hr : Region.ready .any l.toArray listed = [i, j] := by simpa using hB
  refine ⟨fun h0 => (by rw [hr] at h0; cases h0), fun k hk => ?_⟩
  have hk' : k = i ∨ k = j := by rw [hr] at hk; simpa using hk
  rcases hk' with rfl | rfl
  · unfold wpOp
    have e : l.toArray[k]? = some oi := by simpa using hi
    simp only [e]
    rw [if_pos (by simp [Region.wanted, gi])]
    exact .inl (h1 _ (fun a' w' hS h3 => ⟨hS, h3 (closed_set hc hk)⟩))
  · unfold wpOp
    have e : l.toArray[k]? = some oj := by simpa using hj
    simp only [e]
    rw [if_pos (by simp [Region.wanted, gj])]
    exact .inl (h2 _ (fun a' w' hS h3 => ⟨hS, h3 (closed_set hc hk)⟩))
theorem ord_read {i : Nat} {o : Oper} {r : List (Nat × Nat)} {a : Act} {w : World} (v : Value) (ho : l[i]? = some o) (hg : o.guard = none) (hS : S w) (hv : ∀ w', S w' → (execOp a.eval o).run P w' = .ok (.value v) w') (h : wpOrd P l Q S C r (a.put o.dst v) w) : wpOrd P l Q S C ((i, 0) :: r) a w := by
  intro o2 ho2
  rw [ho] at ho2
  cases ho2
  exact ⟨by simp [Region.wanted, hg], hS, v, hv, h⟩
theorem ord_val {i : Nat} {o : Oper} {r : List (Nat × Nat)} {a : Act} {w : World} (v : Value) (ho : l[i]? = some o) (hg : o.guard = none) (hv : ∀ w', (execOp a.eval o).run P w' = .ok (.value v) w') (h : wpOrd P l Q S C r (a.put o.dst v) w) : wpOrd P l Q S C ((i, 4) :: r) a w := by
  intro o2 ho2
  rw [ho] at ho2
  cases ho2
  exact ⟨by simp [Region.wanted, hg], v, hv, h⟩
theorem ord_held {i : Nat} {o : Oper} {r : List (Nat × Nat)} {a : Act} {w : World} (ho : l[i]? = some o) (hg : o.guard = none) (h : ∀ K : Act → World → Prop, (∀ a' w', S w' → wpOrd P l Q S C r a' w' → K a' w') → o.wp P a w K Q) : wpOrd P l Q S C ((i, 2) :: r) a w := by
  intro o2 ho2
  rw [ho] at ho2
  cases ho2
  exact ⟨by simp [Region.wanted, hg], h _ (fun a' w' h1 h2 => ⟨h1, h2⟩)⟩
theorem ord_alone {i : Nat} {o : Oper} {r : List (Nat × Nat)} {a : Act} {w : World} (ho : l[i]? = some o) (hg : o.guard = none) (h : ∀ K : Act → World → Prop, (∀ a' w', wpOrd P l Q S C r a' w' → K a' w') → o.wp P a w K Q) : wpOrd P l Q S C ((i, 3) :: r) a w := by
  intro o2 ho2
  rw [ho] at ho2
  cases ho2
  exact ⟨by simp [Region.wanted, hg], h _ (fun a' w' h2 => h2)⟩
theorem ord_done {a : Act} {w : World} (h : Q .normal a w) : wpOrd P l (NoPanic Q) S (fun a w => NoPanic Q .normal a w) [] a w := h
theorem ord_end {a : Act} {w : World} (h : C a w) : wpOrd P l Q S C [] a w := h
theorem ordG_read {i : Nat} {o : Oper} {r : List (Nat × Nat)} {a : Act} {w : World} (v : Value) (ho : l[i]? = some o) (hg : Region.wanted o (yielded l.toArray a.tmps) = true) (hS : S w) (hv : ∀ w', S w' → (execOp a.eval o).run P w' = .ok (.value v) w') (h : wpOrd P l Q S C r (a.put o.dst v) w) : wpOrd P l Q S C ((i, 0) :: r) a w := by
  intro o2 ho2
  rw [ho] at ho2
  cases ho2
  exact ⟨hg, hS, v, hv, h⟩
theorem ordG_held {i : Nat} {o : Oper} {r : List (Nat × Nat)} {a : Act} {w : World} (ho : l[i]? = some o) (hg : Region.wanted o (yielded l.toArray a.tmps) = true) (h : ∀ K : Act → World → Prop, (∀ a' w', S w' → wpOrd P l Q S C r a' w' → K a' w') → o.wp P a w K Q) : wpOrd P l Q S C ((i, 2) :: r) a w := by
  intro o2 ho2
  rw [ho] at ho2
  cases ho2
  exact ⟨hg, h _ (fun a' w' h1 h2 => ⟨h1, h2⟩)⟩
end

end Go.Proofs.YtjjkppknojecjaaGreatDoor

namespace Go.Proofs.YtjjkppknojecjaaGreatDoor
open Go.RowKit
set_option linter.unusedVariables false
set_option maxRecDepth 100000

structure LqJWorldAgrees (Wq : World) (AX AA : Value) (m : Wld) (d : Nat → Bool) (w : World) (s35 s36 s37 s38 s39 : Value) : Prop where
  bw : Below Wq.heap.size Wq w
  p2 : d 2 = true → ∃ a1 ts, s37 = wlV a1 m ∧ OwnWl w Wq.heap.size a1 m ts
  f0 : d 0 = true → s35 = AX
  f1 : d 1 = true → s36 = AA
  f3 : d 3 = true → s38 = .bool true
  f4 : d 4 = true → s39 = .bool false

theorem LqJWorldAgrees.s0 {Wq : World} {AX AA : Value} {m : Wld} {d : Nat → Bool} {w : World} {s35 s36 s37 s38 s39 v : Value} (I : LqJWorldAgrees Wq AX AA m d w s35 s36 s37 s38 s39) (hd : d 0 = false) (hv : v = AX) : LqJWorldAgrees Wq AX AA m (updD d 0) w v s36 s37 s38 s39 where
  bw := I.bw
  p2 := fun h => I.p2 (upd_ne (by decide) h)
  f0 := fun _ => hv
  f1 := fun h => I.f1 (upd_ne (by decide) h)
  f3 := fun h => I.f3 (upd_ne (by decide) h)
  f4 := fun h => I.f4 (upd_ne (by decide) h)

theorem LqJWorldAgrees.s1 {Wq : World} {AX AA : Value} {m : Wld} {d : Nat → Bool} {w : World} {s35 s36 s37 s38 s39 v : Value} (I : LqJWorldAgrees Wq AX AA m d w s35 s36 s37 s38 s39) (hd : d 1 = false) (hv : v = AA) : LqJWorldAgrees Wq AX AA m (updD d 1) w s35 v s37 s38 s39 where
  bw := I.bw
  p2 := fun h => I.p2 (upd_ne (by decide) h)
  f0 := fun h => I.f0 (upd_ne (by decide) h)
  f1 := fun _ => hv
  f3 := fun h => I.f3 (upd_ne (by decide) h)
  f4 := fun h => I.f4 (upd_ne (by decide) h)

theorem LqJWorldAgrees.s2 {Wq : World} {AX AA : Value} {m : Wld} {d : Nat → Bool} {w w2 : World} {s35 s36 s37 s38 s39 v : Value} (I : LqJWorldAgrees Wq AX AA m d w s35 s36 s37 s38 s39) (hd : d 2 = false) (hb : Below w.heap.size w w2) {a1 : Wl4} {ts : List Value} (hv : v = wlV a1 m) (ho : OwnWl w2 Wq.heap.size a1 m ts) : LqJWorldAgrees Wq AX AA m (updD d 2) w2 s35 s36 v s38 s39 where
  bw := fr I.bw hb
  p2 := fun _ => ⟨a1, ts, hv, ho⟩
  f0 := fun h => I.f0 (upd_ne (by decide) h)
  f1 := fun h => I.f1 (upd_ne (by decide) h)
  f3 := fun h => I.f3 (upd_ne (by decide) h)
  f4 := fun h => I.f4 (upd_ne (by decide) h)

theorem LqJWorldAgrees.s3 {Wq : World} {AX AA : Value} {m : Wld} {d : Nat → Bool} {w : World} {s35 s36 s37 s38 s39 v : Value} (I : LqJWorldAgrees Wq AX AA m d w s35 s36 s37 s38 s39) (hd : d 3 = false) (hv : v = .bool true) : LqJWorldAgrees Wq AX AA m (updD d 3) w s35 s36 s37 v s39 where
  bw := I.bw
  p2 := fun h => I.p2 (upd_ne (by decide) h)
  f0 := fun h => I.f0 (upd_ne (by decide) h)
  f1 := fun h => I.f1 (upd_ne (by decide) h)
  f3 := fun _ => hv
  f4 := fun h => I.f4 (upd_ne (by decide) h)

theorem LqJWorldAgrees.s4 {Wq : World} {AX AA : Value} {m : Wld} {d : Nat → Bool} {w : World} {s35 s36 s37 s38 s39 v : Value} (I : LqJWorldAgrees Wq AX AA m d w s35 s36 s37 s38 s39) (hd : d 4 = false) (hv : v = .bool false) : LqJWorldAgrees Wq AX AA m (updD d 4) w s35 s36 s37 s38 v where
  bw := I.bw
  p2 := fun h => I.p2 (upd_ne (by decide) h)
  f0 := fun h => I.f0 (upd_ne (by decide) h)
  f1 := fun h => I.f1 (upd_ne (by decide) h)
  f3 := fun h => I.f3 (upd_ne (by decide) h)
  f4 := fun _ => hv

theorem LqJWorldAgrees.grow {Wq : World} {AX AA : Value} {m : Wld} {d : Nat → Bool} {w w2 : World} {s35 s36 s37 s38 s39 : Value} (I : LqJWorldAgrees Wq AX AA m d w s35 s36 s37 s38 s39) (hb : Below w.heap.size w w2) : LqJWorldAgrees Wq AX AA m d w2 s35 s36 s37 s38 s39 := ⟨fr I.bw hb, fun h => (I.p2 h).imp fun a1 h1 => h1.imp fun ts h2 => ⟨h2.1, h2.2.below hb⟩, I.f0, I.f1, I.f3, I.f4⟩

abbrev lqFrWorldAgrees (t0 t1 t2 t3 t4 t5 t6 t7 t8 t9 t10 t11 t12 t13 t14 t15 t16 t17 t18 t19 t20 t21 t22 t23 t24 t25 t26 t27 t28 t29 t30 t31 t32 t33 t34 s35 s36 s37 s38 s39  : Value) : Act := ⟨#[t0, t1, t2, t3, t4, t5, t6, t7, t8, t9, t10, t11, t12, t13, t14, t15, t16, t17, t18, t19, t20, t21, t22, t23, t24, t25, t26, t27, t28, t29, t30, t31, t32, t33, t34, s35, s36, s37, s38, s39], []⟩
theorem lqFrWorldAgrees_region {P : Program} {id : Nat} {Q : Exit → Act → World → Prop} {l : List Oper} {t0 t1 t2 t3 t4 t5 t6 t7 t8 t9 t10 t11 t12 t13 t14 t15 t16 t17 t18 t19 t20 t21 t22 t23 t24 t25 t26 t27 t28 t29 t30 t31 t32 t33 t34 s35 s36 s37 s38 s39  : Value} {W : World} (J : (Nat → Bool) → World → Value → Value → Value → Value → Value →  Prop) (hm : P.follows .mixedOrders = true) (hl : linB l = true)
    (hg : ∀ (i : Nat) (o : Oper), l[i]? = some o → o.guard = none) (h0 : J (fun _ => false) { W with drawn := W.drawn + 1 } s35 s36 s37 s38 s39)
    (hs : ∀ (d : Nat → Bool) (w : World) (i : Nat) (o : Oper) (r35 r36 r37 r38 r39 : Value), Closed l d → J d w r35 r36 r37 r38 r39 → l[i]? = some o → d i = false → (∀ e ∈ o.after, Region.binds .any e = true → d e.on = true) → ∀ K : Act → World → Prop, (∀ (w' : World) (q35 q36 q37 q38 q39 : Value), J (updD d i) w' q35 q36 q37 q38 q39 → K (lqFrWorldAgrees t0 t1 t2 t3 t4 t5 t6 t7 t8 t9 t10 t11 t12 t13 t14 t15 t16 t17 t18 t19 t20 t21 t22 t23 t24 t25 t26 t27 t28 t29 t30 t31 t32 t33 t34 q35 q36 q37 q38 q39 ) w') → o.wp P (lqFrWorldAgrees t0 t1 t2 t3 t4 t5 t6 t7 t8 t9 t10 t11 t12 t13 t14 t15 t16 t17 t18 t19 t20 t21 t22 t23 t24 t25 t26 t27 t28 t29 t30 t31 t32 t33 t34 r35 r36 r37 r38 r39 ) w K Q)
    (he : ∀ (d : Nat → Bool) (w : World) (r35 r36 r37 r38 r39 : Value), J d w r35 r36 r37 r38 r39 → (∀ i, i < l.length → d i = true) → Q .normal (lqFrWorldAgrees t0 t1 t2 t3 t4 t5 t6 t7 t8 t9 t10 t11 t12 t13 t14 t15 t16 t17 t18 t19 t20 t21 t22 t23 t24 t25 t26 t27 t28 t29 t30 t31 t32 t33 t34 r35 r36 r37 r38 r39 ) w) : (Code.region id l.toArray true).wp P Q (lqFrWorldAgrees t0 t1 t2 t3 t4 t5 t6 t7 t8 t9 t10 t11 t12 t13 t14 t15 t16 t17 t18 t19 t20 t21 t22 t23 t24 t25 t26 t27 t28 t29 t30 t31 t32 t33 t34 s35 s36 s37 s38 s39 ) W := by
  refine wp_region_inv2 (fun d f w => ∃ r35 r36 r37 r38 r39, f = lqFrWorldAgrees t0 t1 t2 t3 t4 t5 t6 t7 t8 t9 t10 t11 t12 t13 t14 t15 t16 t17 t18 t19 t20 t21 t22 t23 t24 t25 t26 t27 t28 t29 t30 t31 t32 t33 t34 r35 r36 r37 r38 r39  ∧ J d w r35 r36 r37 r38 r39) hm hl hg ⟨s35, s36, s37, s38, s39, rfl, h0⟩ ?_ ?_
  · intro d f w i o hc hI ho hd hp K hK
    obtain ⟨r35, r36, r37, r38, r39, rfl, hJ⟩ := hI
    exact hs d w i o r35 r36 r37 r38 r39 hc hJ ho hd hp K (fun w' q35 q36 q37 q38 q39 hJ' => hK _ _ ⟨q35, q36, q37, q38, q39, rfl, hJ'⟩)
  · intro d f w hI hall
    obtain ⟨r35, r36, r37, r38, r39, rfl, hJ⟩ := hI
    exact he d w r35 r36 r37 r38 r39 hJ hall

set_option maxHeartbeats 12800000 in
theorem lawWoWorldAgrees (a : Wl4) (m : Wld) (R : Bool × Int) (w : World) (hL : WlL m) (hc : WlS w a m) (hE : ErrW w)
    (hspec : ∀ (b : Wl4) (W : World), WlS W b m → Calls Tryz.prog 5 #[wlV b m] W fun e w' => e = .returned (.tuple #[.bool R.1, .int .i64 R.2]) ∧ Below W.heap.size W w')
    (himpl : ∀ (b : Wl4) (W : World), WlS W b m → ErrW W → Calls Tryz.prog 7 #[wlV b m] W fun e w' => e = .returned (.tuple #[.bool R.1, .int .i64 R.2]) ∧ Below W.heap.size W w') :
    Calls Tryz.prog 3 #[wlV a m] w fun e w' => e = .returned (.bool true) ∧ Below w.heap.size w w' := by
  have HA := hide (Joins.below_alloc1 w (.cells (wlC a m) 36))
  have HV := hide (VarW.new w 36 a m)
  have HC := hide (hc.below (unhide HA))
  have HCW := hide hc
  have HEW := hide hE
  have HL := hide hL
  have HZ := hide (WlZ.of hc)
  have HSP := hide hspec
  have HIM := hide himpl
  clear hc hL hspec himpl hE
  go_enter Tryz.func3, Tryz.ntmps3
  go_upto_region 2 with fail
  revert HC
  revert HV
  revert HA
  generalize (w.alloc _) = W0
  intro HA HV HC
  obtain ⟨c0, c1, c2, c3, c4, c5, c6, c7, c8, c9, c10, c11, c12, c13, c14⟩ := (unhide HV).cells
  go_wp2_with fail
  refine (szWorld_any a m 1048576 _ (unhide HL) (by omega) (by omega) (unhide HC)).mono ?_
  rintro e w1 ⟨r, rfl, hr0, hr1, hr2, hb⟩
  have HB1 := hide (fr (unhide HA) hb)
  have HC1 := hide ((unhide HC).below hb)
  have HV1 := hide ((unhide HV).below hb)
  clear hb c0 c1 c2 c3 c4 c5 c6 c7 c8 c9 c10 c11 c12 c13 c14 HA HV HC
  by_cases hneg : r < 0
  · go_wp2
    go_ret
    exact ⟨rfl, unhide HB1⟩
  have HSZ : Hid (WlBd m) := hide (hr2 (by omega))
  have HBD := HSZ
  clear hr2
  obtain ⟨c0, c1, c2, c3, c4, c5, c6, c7, c8, c9, c10, c11, c12, c13, c14⟩ := (unhide HV1).cells
  -- the model's answer
  go_wp2_with fail
  refine (toWorld_any a m _ (unhide HBD) (unhide HC1)).mono ?_
  rintro e w2 ⟨a2, ts2, rfl, ho2, hb2⟩
  have HB2 := hide (fr (unhide HB1) hb2)
  have HC2 := hide ((unhide HC1).below hb2)
  have HV2 := hide ((unhide HV1).below hb2)
  have HI2 := hide (ho2.shw (unhide HZ))
  clear hb2 ho2 c0 c1 c2 c3 c4 c5 c6 c7 c8 c9 c10 c11 c12 c13 c14 HB1 HC1 HV1
  go_wp2_with fail
  refine (unhide HSP a2 _ (unhide HI2)).mono ?_
  rintro e w3 ⟨rfl, hb3⟩
  have HB3 := hide (fr (unhide HB2) hb3)
  have HC3 := hide ((unhide HC2).below hb3)
  have HVA3 := hide ((unhide HV2).below hb3)
  clear hb3 HB2 HC2 HV2 HI2
  -- the argument's copy
  obtain ⟨c0, c1, c2, c3, c4, c5, c6, c7, c8, c9, c10, c11, c12, c13, c14⟩ := (unhide HVA3).cells
  go_wp2_with fail
  refine (toWorld_any a m _ (unhide HBD) (unhide HC3)).mono ?_
  rintro e w4 ⟨aX, tsX, rfl, hoX, hb4⟩
  have HNX4 := hide (LwW.new w4 aX m hoX hb4.size)
  have HB4 := hide (fr (fr (unhide HB3) hb4) (Joins.below_alloc1 w4 (.cells (wlC aX m) 50)))
  have HC4 := hide ((unhide HC3).below (fr hb4 (Joins.below_alloc1 w4 (.cells (wlC aX m) 50))))
  have HVA4 := hide ((unhide HVA3).below (fr hb4 (Joins.below_alloc1 w4 (.cells (wlC aX m) 50))))
  clear hoX hb4 c0 c1 c2 c3 c4 c5 c6 c7 c8 c9 c10 c11 c12 c13 c14 HB3 HC3 HVA3
  go_upto_region 7 with fail
  revert HVA4
  revert HC4
  revert HB4
  revert HNX4
  generalize (w4.alloc _) = W4
  generalize w4.heap.size = pX
  intro HNX4 HB4 HC4 HVA4
  -- the program's answer
  obtain ⟨c0, c1, c2, c3, c4, c5, c6, c7, c8, c9, c10, c11, c12, c13, c14⟩ := (unhide HNX4).v.cells
  go_wp2_with fail
  refine (unhide HIM aX _ ((unhide HNX4).o.shw (unhide HZ)) ((unhide HEW).below (unhide HB4))).mono ?_
  rintro e w6 ⟨rfl, hb⟩
  have HNX6 := hide ((unhide HNX4).below hb)
  have HB6 := hide (fr (unhide HB4) hb)
  have HC6 := hide ((unhide HC4).below hb)
  have HVA6 := hide ((unhide HVA4).below hb)
  clear hb c0 c1 c2 c3 c4 c5 c6 c7 c8 c9 c10 c11 c12 c13 c14 HNX4 HB4 HC4 HVA4
  have bcc : (R.1 != R.1) = false := by simp
  have bcd : (R.2 != R.2) = false := by simp
  go_upto_region 10 with fail
  refine lqFrWorldAgrees_region (fun d wz r35 r36 r37 r38 r39 => LqJWorldAgrees w6 (wlV aX m) (wlV a m) m d wz r35 r36 r37 r38 r39) (by kernel_rfl) (by kernel_rfl) (noG_spec (by kernel_rfl)) ?h0 ?hs ?he
  case h0 => exact ⟨(Below.refl _ w6).drew, fun h => (by cases h), fun h => (by cases h), fun h => (by cases h), fun h => (by cases h), fun h => (by cases h)⟩
  case hs =>
    intro d wz i o r35 r36 r37 r38 r39 hc I ho hd hp K hK
    obtain ⟨k0, k1, k2, k3, k4, k5, k6, k7, k8, k9, k10, k11, k12, k13, k14⟩ := ((unhide HNX6).v.below I.bw).cells
    obtain ⟨l0, l1, l2, l3, l4, l5, l6, l7, l8, l9, l10, l11, l12, l13, l14⟩ := ((unhide HVA6).below I.bw).cells
    have hi : i < 5 := (List.getElem?_eq_some_iff.1 ho).1
    rcases (show i = 0 ∨ i = 1 ∨ i = 2 ∨ i = 3 ∨ i = 4 by omega) with rfl | rfl | rfl | rfl | rfl
    · cases ho
      unfold Oper.wp
      go_simp
      exact hK _ _ _ _ _ _ (I.s0 hd rfl)
    · cases ho
      unfold Oper.wp
      go_simp
      exact hK _ _ _ _ _ _ (I.s1 hd rfl)
    · cases ho
      have e1 := I.f1 (hp ⟨1, .data⟩ (by simp) rfl)
      subst e1
      unfold Oper.wp
      go_simp
      refine (toWorld_any a m _ (unhide HBD) ((unhide HC6).below I.bw)).mono ?_
      rintro e w2 ⟨a1, ts, rfl, ho1, hb1⟩
      exact hK _ _ _ _ _ _ (I.s2 hd hb1 rfl (ho1.base I.bw.size))
    · cases ho
      have e0 := I.f0 (hp ⟨0, .data⟩ (by simp) rfl)
      subst e0
      obtain ⟨a1, ts, e2, ho1⟩ := I.p2 (hp ⟨2, .data⟩ (by simp) rfl)
      subst e2
      unfold Oper.wp
      go_simp
      refine (eqWorld_same aX a1 m _ (unhide HBD) (((unhide HNX6).below I.bw).o.shw (unhide HZ)) (ho1.shw (unhide HZ))).mono ?_
      rintro e w2 ⟨rfl, hb1⟩
      exact hK _ _ _ _ _ _ ((I.grow hb1).s3 hd rfl)
    · cases ho
      have e3 := I.f3 (hp ⟨3, .data⟩ (by simp) rfl)
      subst e3
      unfold Oper.wp
      go_simp
      exact hK _ _ _ _ _ _ (I.s4 hd rfl)
  case he =>
    intro d w7 r35 r36 r37 r38 r39 I hall
    have e4 := I.f4 (hall 4 (by decide))
    subst e4
    have hb := I.bw
    have HB7 := hide (fr (unhide HB6) hb)
    clear hb I hall HNX6 HB6 HC6 HVA6
    go_wp2
    go_ret
    exact ⟨rfl, unhide HB7⟩

end Go.Proofs.YtjjkppknojecjaaGreatDoor

namespace Go.Proofs.YtjjkppknojecjaaGreatDoor
open Go.RowKit
set_option linter.unusedVariables false
set_option maxRecDepth 100000

theorem l01In_any (n low high : Int) (w : World) : Calls Tryz.prog 36 #[.int .i64 n, .int .i64 low, .int .i64 high] w fun e w' => e = .returned (.bool (inB n low high)) ∧ w' = w := by
  go_enter Tryz.func36, Tryz.ntmps36
  go_wp2
  all_goals
    go_ret
    exact ⟨ret_bool (by rw [Bool.eq_iff_iff]; simp [inB]; omega), rfl⟩

theorem hostOK_any (n : Int) (w : World) : Calls Tryz.prog 100 #[.int .i64 n] w fun e w' => e = .returned (.bool (inB n 0 3)) ∧ w' = w := by
  go_enter Tryz.func100, Tryz.ntmps100
  go_wp2
  all_goals
    go_ret
    exact ⟨ret_bool (by rw [Bool.eq_iff_iff]; simp [inB]; omega), rfl⟩

theorem placeOK_any (n : Int) (w : World) : Calls Tryz.prog 123 #[.int .i64 n] w fun e w' => e = .returned (.bool (inB n 0 63)) ∧ w' = w := by
  go_enter Tryz.func123, Tryz.ntmps123
  go_wp2
  all_goals
    go_ret
    exact ⟨ret_bool (by rw [Bool.eq_iff_iff]; simp [inB]; omega), rfl⟩

set_option maxHeartbeats 800000 in
theorem l01Io_any (x : Wr) (w : World) (hz : x.data.size ≤ maxLen) : Calls Tryz.prog 75 #[.agg #[.int .i64 x.host, .int .i64 x.at_, .string x.data]] w fun e w' => e = .returned (.bool (ioB x)) ∧ Below w.heap.size w w' := by
  unfold maxLen at hz
  have HE := hide (ioB_eq x)
  cases h0 : inB x.host 0 3
  · go_enter Tryz.func75, Tryz.ntmps75
    go_wp2_with (go_at_call 36; refine (l01In_any _ _ _ _).mono ?_; rintro e w' ⟨rfl, rfl⟩)
    go_ret
    exact ⟨ret_bool (by rw [unhide HE, h0]; rfl), (Below.refl _ _).alloc (Nat.le_refl _) _⟩
  · cases h1 : inB x.at_ 0 63
    · go_enter Tryz.func75, Tryz.ntmps75
      go_wp2_with (go_at_call 36; refine (l01In_any _ _ _ _).mono ?_; rintro e w' ⟨rfl, rfl⟩)
      go_ret
      exact ⟨ret_bool (by rw [unhide HE, h0, h1]; rfl), (Below.refl _ _).alloc (Nat.le_refl _) _⟩
    · go_enter Tryz.func75, Tryz.ntmps75
      go_wp2_with (go_at_call 36; refine (l01In_any _ _ _ _).mono ?_; rintro e w' ⟨rfl, rfl⟩)
      go_ret
      exact ⟨ret_bool (by rw [unhide HE, h0, h1, Bool.eq_iff_iff]; simp; omega), (Below.refl _ _).alloc (Nat.le_refl _) _⟩

set_option maxHeartbeats 800000 in
theorem sectorsOK_any (ao : Option Addr) (cap : Nat) (ss : List ByteArray) (w : World) (hl : ss.length ≤ maxLen) (hc : Ss w ao ss) :
    Calls Tryz.prog 91 #[.slice ao ss.length cap] w fun e w' => e = .returned (.bool (secB ss)) ∧ w' = w := by
  have HC := hide hc
  clear hc
  unfold maxLen at hl
  by_cases hle : ss.length = 64
  · have hb : ((ss.length : Int) != 64) = false := by simp; omega
    have HLE := hide hle
    clear hle
    go_enter Tryz.func91, Tryz.ntmps91
    go_wp2
    go_loop [4, 10] (fun _ i => ∃ k : Nat, k ≤ ss.length ∧ i = .int .i64 k ∧ Hid (∀ j (h : j < ss.length), j < k → decide (ss[j].size ≤ 80) = true)) (fun _ i => ss.length - (intOf i).toNat)
    case atStart => exact ⟨0, Nat.zero_le _, rfl, hide (fun j _ h => by omega)⟩
    case round =>
      obtain ⟨k, hk, rfl, HA⟩ := hrel
      by_cases hlt : k < ss.length
      · obtain ⟨b, off, rfl, hc, hz⟩ := unhide HC k hlt
        unfold maxLen at hz
        by_cases hs : 80 < ss[k].size
        · have H := hide (secB_false_at hlt hs)
          go_wp2
          go_ret
          exact ⟨ret_bool (unhide H).symm, rfl⟩
        · have HN := hide (all_succ (p := fun s : ByteArray => decide (s.size ≤ 80)) hlt (unhide HA) (by simp; omega))
          go_wp2
          go_round
          case rel => exact ⟨k + 1, by omega, by go_num, HN⟩
          case measure => simp [intOf]; omega
      · have H := hide (secB_true (unhide HLE) (fun j h => unhide HA j h (by omega)))
        go_wp2
        go_ret
        exact ⟨ret_bool (unhide H).symm, rfl⟩
  · have hb : ((ss.length : Int) != 64) = true := by simp; omega
    have H := hide (secB_false_len hle)
    clear hle
    go_enter Tryz.func91, Tryz.ntmps91
    go_wp2
    go_ret
    exact ⟨ret_bool (unhide H).symm, rfl⟩

set_option maxHeartbeats 1600000 in
theorem pendingOK_any (ao : Option Addr) (cap : Nat) (xs : List Wr) (w : World) (hl : xs.length ≤ maxLen) (hc : Ios w ao xs) :
    Calls Tryz.prog 92 #[.slice ao xs.length cap] w fun e w' => e = .returned (.bool (penB xs)) ∧ Below w.heap.size w w' := by
  have HC := hide hc
  clear hc
  unfold maxLen at hl
  by_cases hle : 200 < xs.length
  · have H := hide (penB_false_len (xs := xs) (by omega))
    go_enter Tryz.func92, Tryz.ntmps92
    go_wp2
    go_ret
    exact ⟨ret_bool (unhide H).symm, Below.refl _ _⟩
  go_enter Tryz.func92, Tryz.ntmps92
  go_wp2
  go_loopw [4, 10] (fun _ i wr => ∃ k : Nat, k ≤ xs.length ∧ i = .int .i64 k ∧ Hid (∀ j (h : j < xs.length), j < k → ioB xs[j] = true) ∧ Hid (Below w.heap.size w wr)) (fun _ i _ => xs.length - (intOf i).toNat)
  case atStart => exact ⟨0, Nat.zero_le _, rfl, hide (fun j _ h => by omega), hide (Below.refl _ _)⟩
  case round =>
    obtain ⟨k, hk, rfl, HA, HB⟩ := hrel
    by_cases hlt : k < xs.length
    · obtain ⟨b, off, rfl, hc0, hc1, hc2, hz⟩ := (unhide HC).below (unhide HB) k hlt
      unfold maxLen at hz
      have HE := hide (ioB_eq xs[k])
      have HBA := hide (fun o => (unhide HB).alloc (unhide HB).size o)
      cases h0 : inB xs[k].host 0 3
      · have H := hide (penB_false_at hlt (by rw [unhide HE, h0]; rfl))
        go_wp2_with (first | (go_at_call 100; refine (hostOK_any _ _).mono ?_; rintro e w' ⟨rfl, rfl⟩) | (go_at_call 123; refine (placeOK_any _ _).mono ?_; rintro e w' ⟨rfl, rfl⟩))
        go_ret
        exact ⟨ret_bool (unhide H).symm, unhide HBA _⟩
      · cases h1 : inB xs[k].at_ 0 63
        · have H := hide (penB_false_at hlt (by rw [unhide HE, h0, h1]; rfl))
          go_wp2_with (first | (go_at_call 100; refine (hostOK_any _ _).mono ?_; rintro e w' ⟨rfl, rfl⟩) | (go_at_call 123; refine (placeOK_any _ _).mono ?_; rintro e w' ⟨rfl, rfl⟩))
          go_ret
          exact ⟨ret_bool (unhide H).symm, unhide HBA _⟩
        · by_cases hs : 80 < xs[k].data.size
          · have H := hide (penB_false_at hlt (by rw [unhide HE, h0, h1]; simp; omega))
            go_wp2_with (first | (go_at_call 100; refine (hostOK_any _ _).mono ?_; rintro e w' ⟨rfl, rfl⟩) | (go_at_call 123; refine (placeOK_any _ _).mono ?_; rintro e w' ⟨rfl, rfl⟩))
            go_ret
            exact ⟨ret_bool (unhide H).symm, unhide HBA _⟩
          · have HN := hide (all_succ (p := ioB) hlt (unhide HA) (by rw [unhide HE, h0, h1]; simp; omega))
            go_wp2_with (first | (go_at_call 100; refine (hostOK_any _ _).mono ?_; rintro e w' ⟨rfl, rfl⟩) | (go_at_call 123; refine (placeOK_any _ _).mono ?_; rintro e w' ⟨rfl, rfl⟩))
            go_roundw
            case rel => exact ⟨k + 1, by omega, by go_num, HN, hide (unhide HBA _)⟩
            case measure => simp [intOf]; omega
    · have H := hide (penB_true (xs := xs) (by omega) (fun j h => unhide HA j h (by omega)))
      go_wp2
      go_ret
      exact ⟨ret_bool (unhide H).symm, unhide HB⟩

set_option maxHeartbeats 800000 in
theorem diskOK_impl (ao bo : Option Addr) (ca cb : Nat) (ss : List ByteArray) (xs : List Wr) (w : World) (hl : ss.length ≤ maxLen) (hm : xs.length ≤ maxLen) (h1 : Ss w ao ss) (h2 : Ios w bo xs) :
    Calls Tryz.prog 53 #[.agg #[.slice ao ss.length ca, .slice bo xs.length cb]] w fun e w' => e = .returned (.bool (diskB ss xs)) ∧ Below w.heap.size w w' := by
  have H1 := hide h1
  have H2 := hide h2
  have HL := hide hl
  have HM := hide hm
  clear h1 h2 hl hm
  have HA := hide (Joins.below_alloc1 w (.cells #[.slice ao ss.length ca, .slice bo xs.length cb] 42))
  cases h : secB ss
  · go_enter Tryz.func53, Tryz.ntmps53
    go_wp2_with fail
    refine (sectorsOK_any ao ca ss _ (unhide HL) ((unhide H1).below (unhide HA))).mono ?_
    rintro e w1 ⟨rfl, rfl⟩
    go_wp2
    go_ret
    exact ⟨ret_bool (by rw [diskB, h]; rfl), unhide HA⟩
  · go_enter Tryz.func53, Tryz.ntmps53
    go_wp2_with fail
    refine (sectorsOK_any ao ca ss _ (unhide HL) ((unhide H1).below (unhide HA))).mono ?_
    rintro e w1 ⟨rfl, rfl⟩
    go_wp2_with fail
    refine (pendingOK_any bo cb xs _ (unhide HM) ((unhide H2).below (unhide HA))).mono ?_
    rintro e w2 ⟨rfl, hb2⟩
    have HB := hide ((unhide HA).trans (hb2.mono (by simp)))
    clear hb2
    go_wp2
    go_ret
    exact ⟨ret_bool (by rw [diskB, h]; rfl), unhide HB⟩

set_option maxHeartbeats 1600000 in
theorem diskOK_spec (ao bo : Option Addr) (ca cb : Nat) (ss : List ByteArray) (xs : List Wr) (w : World) (hl : ss.length ≤ maxLen) (hm : xs.length ≤ maxLen) (h1 : Ss w ao ss) (h2 : Ios w bo xs) :
    Calls Tryz.prog 34 #[.agg #[.slice ao ss.length ca, .slice bo xs.length cb]] w fun e w' => e = .returned (.bool (diskB ss xs)) ∧ Below w.heap.size w w' := by
  have HA := hide (Joins.below_alloc1 w (.cells #[.slice ao ss.length ca, .slice bo xs.length cb] 42))
  have H1 := hide (h1.below (unhide HA))
  have H2 := hide h2
  clear h1 h2
  unfold maxLen at hl hm
  by_cases hle : ss.length = 64
  · have hb : ((ss.length : Int) != 64) = false := by simp; omega
    have HLE := hide hle
    clear hle
    by_cases hlx : 200 < xs.length
    · have H := hide (diskB_false2 ss (penB_false_len (xs := xs) (by omega)))
      go_enter Tryz.func34, Tryz.ntmps34
      go_wp2
      go_ret
      exact ⟨ret_bool (unhide H).symm, unhide HA⟩
    go_enter Tryz.func34, Tryz.ntmps34
    go_wp2
    go_loop [3] (fun i => ∃ k : Nat, k ≤ ss.length ∧ i = .int .i64 k ∧ Hid (∀ j (h : j < ss.length), j < k → decide (ss[j].size ≤ 80) = true)) (fun i => ss.length - (intOf i).toNat)
    case atStart => exact ⟨0, Nat.zero_le _, rfl, hide (fun j _ h => by omega)⟩
    case round =>
      obtain ⟨k, hk, rfl, HK⟩ := hrel
      by_cases hlt : k < ss.length
      · obtain ⟨b, off, rfl, hc, hz⟩ := unhide H1 k hlt
        unfold maxLen at hz
        by_cases hs : 80 < ss[k].size
        · have H := hide (diskB_false1 xs (secB_false_at hlt hs))
          go_wp2
          go_ret
          exact ⟨ret_bool (unhide H).symm, unhide HA⟩
        · have HN := hide (all_succ (p := fun s : ByteArray => decide (s.size ≤ 80)) hlt (unhide HK) (by simp; omega))
          go_wp2
          go_round
          case rel => exact ⟨k + 1, by omega, by go_num, HN⟩
          case measure => simp [intOf]; omega
      · have HSB := hide (secB_true (unhide HLE) (fun j h => unhide HK j h (by omega)))
        have HD := hide ((unhide H2).below (unhide HA))
        go_wp2
        go_loopw [4] (fun i wr => ∃ m : Nat, m ≤ xs.length ∧ i = .int .i64 m ∧ Hid (∀ j (h : j < xs.length), j < m → ioB xs[j] = true) ∧ Hid (Below (w.alloc (.cells #[.slice ao ss.length ca, .slice bo xs.length cb] 42)).heap.size (w.alloc (.cells #[.slice ao ss.length ca, .slice bo xs.length cb] 42)) wr)) (fun i _ => xs.length - (intOf i).toNat)
        case atStart => exact ⟨0, Nat.zero_le _, rfl, hide (fun j _ h => by omega), hide (Below.refl _ _)⟩
        case round =>
          obtain ⟨m, hm', rfl, HK', HB⟩ := hrel
          have hcell : wr.cell? ⟨w.heap.size, 1, none⟩ = some (.slice bo xs.length cb) := ((unhide HB).cell (by simp)).trans (by simp [go_sem])
          have HBB := hide ((unhide HA).trans ((unhide HB).mono (by simp)))
          by_cases hlt' : m < xs.length
          · obtain ⟨b, off, rfl, hc0, hc1, hc2, hz⟩ := (unhide HD).below (unhide HB) m hlt'
            have HZ := hide hz
            clear hz
            cases hio : ioB xs[m]
            · have H := hide (diskB_false2 ss (penB_false_at hlt' hio))
              go_wp2_with fail
              refine (l01Io_any xs[m] _ (unhide HZ)).mono ?_
              rintro e w2 ⟨rfl, hb2⟩
              have HB2 := hide ((unhide HBB).trans (hb2.mono (unhide HBB).size))
              clear hb2
              go_wp2
              go_ret
              exact ⟨ret_bool (unhide H).symm, unhide HB2⟩
            · have HN := hide (all_succ (p := ioB) hlt' (unhide HK') hio)
              go_wp2_with fail
              refine (l01Io_any xs[m] _ (unhide HZ)).mono ?_
              rintro e w2 ⟨rfl, hb2⟩
              have HB2 := hide ((unhide HB).trans (hb2.mono (unhide HB).size))
              clear hb2
              go_wp2
              go_roundw
              case rel => exact ⟨m + 1, by omega, by go_num, HN, HB2⟩
              case measure => simp [intOf]; omega
          · have H := hide (diskB_true (unhide HSB) (penB_true (xs := xs) (by omega) (fun j h => unhide HK' j h (by omega))))
            go_wp2
            go_ret
            exact ⟨ret_bool (unhide H).symm, unhide HBB⟩
  · have hb : ((ss.length : Int) != 64) = true := by simp; omega
    have H := hide (diskB_false1 xs (secB_false_len hle))
    clear hle
    go_enter Tryz.func34, Tryz.ntmps34
    go_wp2
    go_ret
    exact ⟨ret_bool (unhide H).symm, unhide HA⟩

end Go.Proofs.YtjjkppknojecjaaGreatDoor

namespace Go.Proofs.YtjjkppknojecjaaGreatDoor
open Go.RowKit
set_option linter.unusedVariables false
set_option maxRecDepth 100000

section
variable {P : Program}

theorem run_copy_whole (w : World) (dT sT ty elem : TypeId) (size g n dCap : Nat) (a : Addr) (sCap : Nat) (cur : Array Value) (t : TypeId) (cs : List Value)
    (hu : P.underlying dT = some (.slice elem)) (hs : (P.info? elem).map (·.size) = some size)
    (hg : w.heap[g]? = some (.cells cur t (0, 0))) (hl : n * size = cs.length)
    (hsrc : ∀ j v, cs[j]? = some v → w.cell? (a.add j) = some v) (hfit : cs.length ≤ cur.size) (h1 : ∀ v ∈ cs, v.oneCell' = true) :
    (Builtin.copy_ #[dT, sT] ty #[.slice (some ⟨g, 0, none⟩) n dCap, .slice (some a) n sCap]).run P w = .ok (goInt n) (w.setRow g (cs ++ cur.toList.drop cs.length).toArray) := by
  have hld := run_loadCells_list (P := P) w a cs hsrc
  have hst := run_storeCells_at P g 0 t cs 0 cur w hg (by simpa using hfit) h1
  cases hq : P.info? elem with
  | none => simp [hq] at hs
  | some i =>
    have hi : i.size = size := by simpa [hq] using hs
    simp [Builtin.copy_, run_underlying hu, Builtin.lenOf, Builtin.firstCells, sizeOf, typeInfo, hq, hi, hl, hld, hst]

theorem wpList_copy_whole {w : World} {ops : Array Oper} {rest : List Oper} {o : Oper} {a : Act} {Q : Exit → Act → World → Prop} (hgd : o.guard = none) (d s : Operand) (dT sT : TypeId)
    (ho : o.op = .call { callee := .builtin .copy, args := #[d, s], argTypes := #[dT, sT] }) (elem : TypeId) (size : Nat) (hu : P.underlying dT = some (.slice elem)) (hsz : (P.info? elem).map (·.size) = some size)
    (B g n : Nat) (ad : Addr) (sCap : Nat) (hd : a.eval d = .slice (some ⟨g, 0, none⟩) n n) (hs : a.eval s = .slice (some ad) n sCap)
    (xs : List Value) (hown : w.ownsRow B elem size (.slice (some ⟨g, 0, none⟩) n n) n xs) (cs : List Value) (hn : cs.length = n * size)
    (hsrc : ∀ j v, cs[j]? = some v → w.cell? (ad.add j) = some v) (h1 : ∀ v ∈ cs, v.oneCell' = true)
    (h : ∀ w', w'.ownsRow B elem size (.slice (some ⟨g, 0, none⟩) n n) n cs → w.grownBy w' (some g) → wpList P ops Q rest (a.put o.dst (goInt n)) w') : wpList P ops Q (o :: rest) a w := by
  refine wpList_plain hgd fun K hK => ?_
  rcases hown.2 with ⟨e, _⟩ | ⟨g', cap', cur, e, hB, hg, hnc, hcm, hcs, ht⟩
  · simp at e
  · simp only [Value.slice.injEq, Option.some.injEq, Addr.mk.injEq, and_true, true_and] at e
    obtain ⟨rfl, rfl⟩ := e
    have hrun := run_copy_whole (P := P) w dT sT o.type elem size g n n ad sCap cur elem cs hu hsz hg hn.symm hsrc (by omega) h1
    unfold Oper.wp
    simp [execOp, ho, resolve, invoke, builtin, hd, hs, hrun, Result.andThen]
    refine hK _ _ (h _ ⟨hn, .inr ⟨g, n, _, rfl, hB, setRow_heap w g _ _ elem _ hg, hnc, hcm, ?_, ?_⟩⟩ ⟨rfl, rfl, rfl, by simp, fun k _ hk => setRow_other w g k _ (fun e => hk (by simp [e]))⟩)
    · simp; omega
    · rw [← hn]; simp
end

theorem infoS : (Tryz.prog.info? 9).map (fun i => (i.zero, i.size, i.bytes)) = some (some (.string ⟨#[]⟩), 1, 16) := by kernel_rfl
end Go.Proofs.YtjjkppknojecjaaGreatDoor

namespace Go.Proofs.YtjjkppknojecjaaGreatDoor
open Go.RowKit
set_option linter.unusedVariables false

section
variable {P : Program} {ops : Array Oper}
end

end Go.Proofs.YtjjkppknojecjaaGreatDoor

namespace Go.Proofs.YtjjkppknojecjaaGreatDoor
open Go.RowKit
set_option linter.unusedVariables false
set_option maxRecDepth 100000

def AnsI (w w' : World) (e : Ending) (R : Img × Int) : Prop := ∃ a ts, e = .returned (.tuple #[imV a R.1, .int .i64 R.2]) ∧ OwnIm w' w.heap.size a R.1 ts ∧ Below w.heap.size w w'
theorem AnsI.of {w w' : World} {v : Value} {c : Int} {R : Img × Int} {a : Im4} {ts : List Value} (hv : v = imV a R.1) (hc : c = R.2) (ho : OwnIm w' w.heap.size a R.1 ts) (hb : Below w.heap.size w w') : AnsI w w' (.returned (.tuple #[v, .int .i64 c])) R := ⟨a, ts, by rw [hv, hc], ho, hb⟩
end Go.Proofs.YtjjkppknojecjaaGreatDoor
