import Derived.Test.YtpdpnepnfhbonaaGreatXReqDoPart6
import Derived.Test.YtpdpnepnfhbonaaGreatXReqDoPart7
import Derived.Test.YtpdpnepnfhbonaaGreatXReqDoPart9
import Derived.Test.YtpdpnepnfhbonaaGreatXReqDoPart11
import Derived.Test.YtpdpnepnfhbonaaGreatXReqDoPart13
import Derived.Test.YtpdpnepnfhbonaaGreatXReqDoPart14
import Derived.Test.YtpdpnepnfhbonaaGreatXReqDoPart10
import Derived.Test.YtpdpnepnfhbonaaGreatXReqDoPart4

namespace Go.Proofs.YtpdpnepnfhbonaaGreat
open Go.RowKit
set_option linter.unusedVariables false
set_option maxRecDepth 100000

def dqA (m : Img) (q : Rq) : Img × Rp :=
  if q.k = 1 then (m, ⟨(rcA m q.g).2, (rcA m q.g).1, []⟩) else if q.k = 2 then ((wcA m q.g q.v).1, ⟨(wcA m q.g q.v).2, 0, []⟩) else if q.k = 3 then ((zcA m q.g).1, ⟨(zcA m q.g).2, 0, []⟩) else if q.k = 4 then ((rsA' m q.g).1, ⟨(rsA' m q.g).2, 0, []⟩)
  else if q.k = 5 then ((scA m q.n).1, ⟨(scA m q.n).2, 0, []⟩) else if q.k = 6 then ((sdA m q.n).1, ⟨(sdA m q.n).2, 0, []⟩) else if q.k = 7 then ((srA m q.n).1, ⟨(srA m q.n).2, 0, []⟩) else (m, ⟨(snA m).2, m.table.length, (snA m).1⟩)
theorem dq_1 {m : Img} {q : Rq} (h : q.k = 1) : dqA m q = (m, ⟨(rcA m q.g).2, (rcA m q.g).1, []⟩) := by
  unfold dqA
  rw [if_pos h]
theorem dq_2 {m : Img} {q : Rq} (h : q.k = 2) : dqA m q = ((wcA m q.g q.v).1, ⟨(wcA m q.g q.v).2, 0, []⟩) := by
  unfold dqA
  rw [if_neg (by omega), if_pos h]
theorem dq_3 {m : Img} {q : Rq} (h : q.k = 3) : dqA m q = ((zcA m q.g).1, ⟨(zcA m q.g).2, 0, []⟩) := by
  unfold dqA
  rw [if_neg (by omega), if_neg (by omega), if_pos h]
theorem dq_4 {m : Img} {q : Rq} (h : q.k = 4) : dqA m q = ((rsA' m q.g).1, ⟨(rsA' m q.g).2, 0, []⟩) := by
  unfold dqA
  rw [if_neg (by omega), if_neg (by omega), if_neg (by omega), if_pos h]
theorem dq_5 {m : Img} {q : Rq} (h : q.k = 5) : dqA m q = ((scA m q.n).1, ⟨(scA m q.n).2, 0, []⟩) := by
  unfold dqA
  rw [if_neg (by omega), if_neg (by omega), if_neg (by omega), if_neg (by omega), if_pos h]
theorem dq_6 {m : Img} {q : Rq} (h : q.k = 6) : dqA m q = ((sdA m q.n).1, ⟨(sdA m q.n).2, 0, []⟩) := by
  unfold dqA
  rw [if_neg (by omega), if_neg (by omega), if_neg (by omega), if_neg (by omega), if_neg (by omega), if_pos h]
theorem dq_7 {m : Img} {q : Rq} (h : q.k = 7) : dqA m q = ((srA m q.n).1, ⟨(srA m q.n).2, 0, []⟩) := by
  unfold dqA
  rw [if_neg (by omega), if_neg (by omega), if_neg (by omega), if_neg (by omega), if_neg (by omega), if_neg (by omega), if_pos h]
theorem dq_8 {m : Img} {q : Rq} (h : ¬ q.k = 1 ∧ ¬ q.k = 2 ∧ ¬ q.k = 3 ∧ ¬ q.k = 4 ∧ ¬ q.k = 5 ∧ ¬ q.k = 6 ∧ ¬ q.k = 7) : dqA m q = (m, ⟨(snA m).2, m.table.length, (snA m).1⟩) := by
  unfold dqA
  rw [if_neg (by omega), if_neg (by omega), if_neg (by omega), if_neg (by omega), if_neg (by omega), if_neg (by omega), if_neg (by omega)]
theorem AnsD.of {w w' : World} {v u : Value} {M : Img} {r : Rp} {a : Im4} {ts : List Value} {no : Option Addr} {nc : Nat} (hv : v = imV a M) (hu : u = rpV r no nc) (ho : OwnIm w' w.heap.size a M ts) (hn : OwnNs w' w.heap.size no nc r.ns) (hb : Below w.heap.size w w') : AnsD w w' (.returned (.tuple #[v, u])) M r := ⟨a, ts, no, nc, by rw [hv, hu], ho, hn, hb⟩

set_option maxHeartbeats 12800000 in
theorem doOnImage_any (a : Im4) (m : Img) (q : Rq) (w : World) (hi : ImR m) (hz : q.n.size ≤ 65536) (hs : ImS w a m) :
    Calls Tryz.prog 45 #[imV a m, usV q] w fun e w' => AnsD w w' e (dqA m q).1 (dqA m q).2 := by
  have HE0 := hide (DoE.new w a m hs)
  have HM := hide hi
  have HL := hi.M.L
  have HSZ : Hid ((((w.alloc (.cells #[.slice a.ro m.refs.length a.rc, .slice a.tq m.table.length a.tc, .slice a.so m.snaps.length a.sc, .slice a.dq m.data.length a.dc] 32)).alloc (.cells #[.slice none 0 0, .slice none 0 0, .slice none 0 0, .slice none 0 0] 32)).alloc (.cells #[.int .i64 0, .int .i64 0, .slice none 0 0] 46)).heap.size = w.heap.size + 3) := hide (by rw [World.size_alloc, World.size_alloc, World.size_alloc])
  obtain ⟨R, HR⟩ : ∃ R, Hid (R = dqA m q) := ⟨_, hide rfl⟩
  rw [← unhide HR]
  clear hi hs
  rcases rq_8 q with h | h | h | h | h | h | h | h
  · have HX := hide ((unhide HR).trans (dq_1 h))
    rw [us_1 h]
    clear HR h
    have a1 := as_1_1
    go_enter Tryz.func45, Tryz.ntmps45
    go_upto_region 1 with fail
    revert HSZ
    revert HE0
    generalize (((w.alloc _).alloc _).alloc _) = W0
    intro HE0 HSZ
    have HA1 := hide (Joins.below_alloc1 W0 (.cells #[.int .i64 q.g] 113))
    have HE1 := hide ((unhide HE0).below (unhide HA1))
    have HC0 : Hid ((W0.alloc (.cells #[.int .i64 q.g] 113)).cell? ⟨W0.heap.size, 0, none⟩ = some (.int .i64 q.g)) := hide (by simp)
    go_upto_region 4 with fail
    revert HC0
    revert HE1
    revert HA1
    generalize (W0.alloc _) = W1
    intro HA1 HE1 HC0
    have k0 := unhide HC0
    have HSZ1 : Hid (w.heap.size + 3 ≤ W1.heap.size) := hide (by have := (unhide HA1).size; have := unhide HSZ; omega)
    obtain ⟨c0, c1, c2, c3⟩ := (unhide HE1).v.cells
    go_wp2_with fail
    refine (readCluster_impl a m q.g _ HL (unhide HE1).s).mono ?_
    rintro e w2 ⟨rfl, hb⟩
    have HE2 := hide ((unhide HE1).below hb)
    have HSZ2 : Hid (w.heap.size + 3 ≤ w2.heap.size) := hide (Nat.le_trans (unhide HSZ1) hb.size)
    clear hb c0 c1 c2 c3 HE1
    obtain ⟨c0, c1, c2, c3⟩ := (unhide HE2).v.cells
    go_wp2_with fail
    have HMM := hide (unhide HM).M
    refine (copyImage_full a m _ ⟨by rw [(unhide HMM).r]; omega, by have := (unhide HMM).t; omega, by rw [(unhide HMM).d]; omega⟩ (fun s hs => by have := ((unhide HMM).st s hs).1; omega) (by have := (unhide HMM).s; omega) (unhide HE2).s).mono ?_
    rintro e w3 ⟨a1, ts1, rfl, ⟨ho, _⟩, hb⟩
    have HE3 := hide ((unhide HE2).below hb)
    have HP := hide ((unhide HE3).d.put (no := none) (nc := 0) (ns := []) ho (OwnNs.none _ _ _) (unhide HSZ2) (.int .i64 (rcA m q.g).2) (.int .i64 (rcA m q.g).1) (.slice none 0 0))
    unfold putD putY putI at HP
    clear ho hb c0 c1 c2 c3 HE2
    obtain ⟨r0, r1, r2, r3⟩ := (unhide HE3).d.r.cells
    obtain ⟨z0, z1, z2, z3⟩ := (unhide HE3).d.r.free
    obtain ⟨p0, p1, p2⟩ := (unhide HE3).d.p.cells
    obtain ⟨f0, f1, f2⟩ := (unhide HE3).d.p.free
    go_wp2
    refine bodyPost_ret (res_ir Tryz.results45 rfl rfl (unhide HP).1 (unhide HP).2.1) rfl ?_
    rw [unhide HX]
    exact AnsD.of rfl rfl ((unhide HP).2.2.1.base (by have := unhide HSZ2; omega)) ((unhide HP).2.2.2.1.base (by have := unhide HSZ2; omega)) (unhide HP).2.2.2.2
  · have HX := hide ((unhide HR).trans (dq_2 h))
    rw [us_2 h]
    clear HR h
    have a1 := as_2_1
    have a2 := as_2_2
    go_enter Tryz.func45, Tryz.ntmps45
    go_upto_region 1 with fail
    revert HSZ
    revert HE0
    generalize (((w.alloc _).alloc _).alloc _) = W0
    intro HE0 HSZ
    have HA1 := hide (Joins.below_alloc1 W0 (.cells #[.int .i64 q.g, .int .i64 q.v] 117))
    have HE1 := hide ((unhide HE0).below (unhide HA1))
    have HC0 : Hid ((W0.alloc (.cells #[.int .i64 q.g, .int .i64 q.v] 117)).cell? ⟨W0.heap.size, 0, none⟩ = some (.int .i64 q.g)) := hide (by simp)
    have HC1 : Hid ((W0.alloc (.cells #[.int .i64 q.g, .int .i64 q.v] 117)).cell? ⟨W0.heap.size, 1, none⟩ = some (.int .i64 q.v)) := hide (by simp)
    go_upto_region 8 with fail
    revert HC0
    revert HC1
    revert HE1
    revert HA1
    generalize (W0.alloc _) = W1
    intro HA1 HE1 HC1 HC0
    have k0 := unhide HC0
    have k1 := unhide HC1
    have HSZ1 : Hid (w.heap.size + 3 ≤ W1.heap.size) := hide (by have := (unhide HA1).size; have := unhide HSZ; omega)
    obtain ⟨c0, c1, c2, c3⟩ := (unhide HE1).v.cells
    obtain ⟨X, HXX⟩ : ∃ X, Hid (X = wcA m q.g q.v) := ⟨_, hide rfl⟩
    rw [← unhide HXX] at HX
    go_wp2_with fail
    have kk := writeCluster_impl a m q.g q.v _ HL (unhide HE1).s
    rw [← unhide HXX] at kk
    refine kk.mono ?_
    rintro e w2 ⟨a1, ts1, rfl, ho, hb⟩
    have HE2 := hide ((unhide HE1).below hb)
    have HO2 := hide (ho.base (unhide HSZ1))
    clear kk ho hb c0 c1 c2 c3 HE1 HXX
    go_wp2_with fail
    refine (changedOrNot_any a1 X.1 X.2 _).mono ?_
    rintro e w3 ⟨rfl, hb⟩
    have HE3 := hide ((unhide HE2).below hb)
    have HP := hide ((unhide HE3).d.put (no := none) (nc := 0) (ns := []) ((unhide HO2).below hb) (OwnNs.none _ _ _) (Nat.le_refl _) (.int .i64 X.2) (.int .i64 0) (.slice none 0 0))
    unfold putD putY putI at HP
    clear hb HE2 HO2
    obtain ⟨r0, r1, r2, r3⟩ := (unhide HE3).d.r.cells
    obtain ⟨z0, z1, z2, z3⟩ := (unhide HE3).d.r.free
    obtain ⟨p0, p1, p2⟩ := (unhide HE3).d.p.cells
    obtain ⟨f0, f1, f2⟩ := (unhide HE3).d.p.free
    go_wp2
    refine bodyPost_ret (res_ir Tryz.results45 rfl rfl (unhide HP).1 (unhide HP).2.1) rfl ?_
    rw [unhide HX]
    exact AnsD.of rfl rfl ((unhide HP).2.2.1.base (by omega)) ((unhide HP).2.2.2.1.base (by omega)) (unhide HP).2.2.2.2
  · have HX := hide ((unhide HR).trans (dq_3 h))
    rw [us_3 h]
    clear HR h
    have a1 := as_3_1
    have a2 := as_3_2
    have a3 := as_3_3
    go_enter Tryz.func45, Tryz.ntmps45
    go_upto_region 1 with fail
    revert HSZ
    revert HE0
    generalize (((w.alloc _).alloc _).alloc _) = W0
    intro HE0 HSZ
    have HA1 := hide (Joins.below_alloc1 W0 (.cells #[.int .i64 q.g] 119))
    have HE1 := hide ((unhide HE0).below (unhide HA1))
    have HC0 : Hid ((W0.alloc (.cells #[.int .i64 q.g] 119)).cell? ⟨W0.heap.size, 0, none⟩ = some (.int .i64 q.g)) := hide (by simp)
    go_upto_region 11 with fail
    revert HC0
    revert HE1
    revert HA1
    generalize (W0.alloc _) = W1
    intro HA1 HE1 HC0
    have k0 := unhide HC0
    have HSZ1 : Hid (w.heap.size + 3 ≤ W1.heap.size) := hide (by have := (unhide HA1).size; have := unhide HSZ; omega)
    obtain ⟨c0, c1, c2, c3⟩ := (unhide HE1).v.cells
    obtain ⟨X, HXX⟩ : ∃ X, Hid (X = zcA m q.g) := ⟨_, hide rfl⟩
    rw [← unhide HXX] at HX
    go_wp2_with fail
    have kk := zeroCluster_impl a m q.g _ HL (unhide HE1).s
    rw [← unhide HXX] at kk
    refine kk.mono ?_
    rintro e w2 ⟨a1, ts1, rfl, ho, hb⟩
    have HE2 := hide ((unhide HE1).below hb)
    have HO2 := hide (ho.base (unhide HSZ1))
    clear kk ho hb c0 c1 c2 c3 HE1 HXX
    go_wp2_with fail
    refine (changedOrNot_any a1 X.1 X.2 _).mono ?_
    rintro e w3 ⟨rfl, hb⟩
    have HE3 := hide ((unhide HE2).below hb)
    have HP := hide ((unhide HE3).d.put (no := none) (nc := 0) (ns := []) ((unhide HO2).below hb) (OwnNs.none _ _ _) (Nat.le_refl _) (.int .i64 X.2) (.int .i64 0) (.slice none 0 0))
    unfold putD putY putI at HP
    clear hb HE2 HO2
    obtain ⟨r0, r1, r2, r3⟩ := (unhide HE3).d.r.cells
    obtain ⟨z0, z1, z2, z3⟩ := (unhide HE3).d.r.free
    obtain ⟨p0, p1, p2⟩ := (unhide HE3).d.p.cells
    obtain ⟨f0, f1, f2⟩ := (unhide HE3).d.p.free
    go_wp2
    refine bodyPost_ret (res_ir Tryz.results45 rfl rfl (unhide HP).1 (unhide HP).2.1) rfl ?_
    rw [unhide HX]
    exact AnsD.of rfl rfl ((unhide HP).2.2.1.base (by omega)) ((unhide HP).2.2.2.1.base (by omega)) (unhide HP).2.2.2.2
  · have HX := hide ((unhide HR).trans (dq_4 h))
    rw [us_4 h]
    clear HR h
    have a1 := as_4_1
    have a2 := as_4_2
    have a3 := as_4_3
    have a4 := as_4_4
    go_enter Tryz.func45, Tryz.ntmps45
    go_upto_region 1 with fail
    revert HSZ
    revert HE0
    generalize (((w.alloc _).alloc _).alloc _) = W0
    intro HE0 HSZ
    have HA1 := hide (Joins.below_alloc1 W0 (.cells #[.int .i64 q.g] 121))
    have HE1 := hide ((unhide HE0).below (unhide HA1))
    have HC0 : Hid ((W0.alloc (.cells #[.int .i64 q.g] 121)).cell? ⟨W0.heap.size, 0, none⟩ = some (.int .i64 q.g)) := hide (by simp)
    go_upto_region 14 with fail
    revert HC0
    revert HE1
    revert HA1
    generalize (W0.alloc _) = W1
    intro HA1 HE1 HC0
    have k0 := unhide HC0
    have HSZ1 : Hid (w.heap.size + 3 ≤ W1.heap.size) := hide (by have := (unhide HA1).size; have := unhide HSZ; omega)
    obtain ⟨c0, c1, c2, c3⟩ := (unhide HE1).v.cells
    obtain ⟨X, HXX⟩ : ∃ X, Hid (X = rsA' m q.g) := ⟨_, hide rfl⟩
    rw [← unhide HXX] at HX
    go_wp2_with fail
    have kk := resizeImage_impl a m q.g _ HL (unhide HE1).s
    rw [← unhide HXX] at kk
    refine kk.mono ?_
    rintro e w2 ⟨a1, ts1, rfl, ho, hb⟩
    have HE2 := hide ((unhide HE1).below hb)
    have HO2 := hide (ho.base (unhide HSZ1))
    clear kk ho hb c0 c1 c2 c3 HE1 HXX
    go_wp2_with fail
    refine (changedOrNot_any a1 X.1 X.2 _).mono ?_
    rintro e w3 ⟨rfl, hb⟩
    have HE3 := hide ((unhide HE2).below hb)
    have HP := hide ((unhide HE3).d.put (no := none) (nc := 0) (ns := []) ((unhide HO2).below hb) (OwnNs.none _ _ _) (Nat.le_refl _) (.int .i64 X.2) (.int .i64 0) (.slice none 0 0))
    unfold putD putY putI at HP
    clear hb HE2 HO2
    obtain ⟨r0, r1, r2, r3⟩ := (unhide HE3).d.r.cells
    obtain ⟨z0, z1, z2, z3⟩ := (unhide HE3).d.r.free
    obtain ⟨p0, p1, p2⟩ := (unhide HE3).d.p.cells
    obtain ⟨f0, f1, f2⟩ := (unhide HE3).d.p.free
    go_wp2
    refine bodyPost_ret (res_ir Tryz.results45 rfl rfl (unhide HP).1 (unhide HP).2.1) rfl ?_
    rw [unhide HX]
    exact AnsD.of rfl rfl ((unhide HP).2.2.1.base (by omega)) ((unhide HP).2.2.2.1.base (by omega)) (unhide HP).2.2.2.2
  · have HX := hide ((unhide HR).trans (dq_5 h))
    rw [us_5 h]
    clear HR h
    have a1 := as_5_1
    have a2 := as_5_2
    have a3 := as_5_3
    have a4 := as_5_4
    have a5 := as_5_5
    go_enter Tryz.func45, Tryz.ntmps45
    go_upto_region 1 with fail
    revert HSZ
    revert HE0
    generalize (((w.alloc _).alloc _).alloc _) = W0
    intro HE0 HSZ
    have HA1 := hide (Joins.below_alloc1 W0 (.cells #[.string q.n] 123))
    have HE1 := hide ((unhide HE0).below (unhide HA1))
    have HC0 : Hid ((W0.alloc (.cells #[.string q.n] 123)).cell? ⟨W0.heap.size, 0, none⟩ = some (.string q.n)) := hide (by simp)
    go_upto_region 17 with fail
    revert HC0
    revert HE1
    revert HA1
    generalize (W0.alloc _) = W1
    intro HA1 HE1 HC0
    have k0 := unhide HC0
    have HSZ1 : Hid (w.heap.size + 3 ≤ W1.heap.size) := hide (by have := (unhide HA1).size; have := unhide HSZ; omega)
    obtain ⟨c0, c1, c2, c3⟩ := (unhide HE1).v.cells
    obtain ⟨X, HXX⟩ : ∃ X, Hid (X = scA m q.n) := ⟨_, hide rfl⟩
    rw [← unhide HXX] at HX
    go_wp2_with fail
    have kk := snapCreate_impl a m q.n _ hz HL (unhide HE1).s
    rw [← unhide HXX] at kk
    refine kk.mono ?_
    rintro e w2 ⟨a1, ts1, rfl, ho, hb⟩
    have HE2 := hide ((unhide HE1).below hb)
    have HO2 := hide (ho.base (unhide HSZ1))
    clear kk ho hb c0 c1 c2 c3 HE1 HXX
    go_wp2_with fail
    refine (changedOrNot_any a1 X.1 X.2 _).mono ?_
    rintro e w3 ⟨rfl, hb⟩
    have HE3 := hide ((unhide HE2).below hb)
    have HP := hide ((unhide HE3).d.put (no := none) (nc := 0) (ns := []) ((unhide HO2).below hb) (OwnNs.none _ _ _) (Nat.le_refl _) (.int .i64 X.2) (.int .i64 0) (.slice none 0 0))
    unfold putD putY putI at HP
    clear hb HE2 HO2
    obtain ⟨r0, r1, r2, r3⟩ := (unhide HE3).d.r.cells
    obtain ⟨z0, z1, z2, z3⟩ := (unhide HE3).d.r.free
    obtain ⟨p0, p1, p2⟩ := (unhide HE3).d.p.cells
    obtain ⟨f0, f1, f2⟩ := (unhide HE3).d.p.free
    go_wp2
    refine bodyPost_ret (res_ir Tryz.results45 rfl rfl (unhide HP).1 (unhide HP).2.1) rfl ?_
    rw [unhide HX]
    exact AnsD.of rfl rfl ((unhide HP).2.2.1.base (by omega)) ((unhide HP).2.2.2.1.base (by omega)) (unhide HP).2.2.2.2
  · have HX := hide ((unhide HR).trans (dq_6 h))
    rw [us_6 h]
    clear HR h
    have a1 := as_6_1
    have a2 := as_6_2
    have a3 := as_6_3
    have a4 := as_6_4
    have a5 := as_6_5
    have a6 := as_6_6
    go_enter Tryz.func45, Tryz.ntmps45
    go_upto_region 1 with fail
    revert HSZ
    revert HE0
    generalize (((w.alloc _).alloc _).alloc _) = W0
    intro HE0 HSZ
    have HA1 := hide (Joins.below_alloc1 W0 (.cells #[.string q.n] 124))
    have HE1 := hide ((unhide HE0).below (unhide HA1))
    have HC0 : Hid ((W0.alloc (.cells #[.string q.n] 124)).cell? ⟨W0.heap.size, 0, none⟩ = some (.string q.n)) := hide (by simp)
    go_upto_region 20 with fail
    revert HC0
    revert HE1
    revert HA1
    generalize (W0.alloc _) = W1
    intro HA1 HE1 HC0
    have k0 := unhide HC0
    have HSZ1 : Hid (w.heap.size + 3 ≤ W1.heap.size) := hide (by have := (unhide HA1).size; have := unhide HSZ; omega)
    obtain ⟨c0, c1, c2, c3⟩ := (unhide HE1).v.cells
    obtain ⟨X, HXX⟩ : ∃ X, Hid (X = sdA m q.n) := ⟨_, hide rfl⟩
    rw [← unhide HXX] at HX
    go_wp2_with fail
    have kk := snapDelete_impl a m q.n _ hz HL (unhide HE1).s
    rw [← unhide HXX] at kk
    refine kk.mono ?_
    rintro e w2 ⟨a1, ts1, rfl, ho, hb⟩
    have HE2 := hide ((unhide HE1).below hb)
    have HO2 := hide (ho.base (unhide HSZ1))
    clear kk ho hb c0 c1 c2 c3 HE1 HXX
    go_wp2_with fail
    refine (changedOrNot_any a1 X.1 X.2 _).mono ?_
    rintro e w3 ⟨rfl, hb⟩
    have HE3 := hide ((unhide HE2).below hb)
    have HP := hide ((unhide HE3).d.put (no := none) (nc := 0) (ns := []) ((unhide HO2).below hb) (OwnNs.none _ _ _) (Nat.le_refl _) (.int .i64 X.2) (.int .i64 0) (.slice none 0 0))
    unfold putD putY putI at HP
    clear hb HE2 HO2
    obtain ⟨r0, r1, r2, r3⟩ := (unhide HE3).d.r.cells
    obtain ⟨z0, z1, z2, z3⟩ := (unhide HE3).d.r.free
    obtain ⟨p0, p1, p2⟩ := (unhide HE3).d.p.cells
    obtain ⟨f0, f1, f2⟩ := (unhide HE3).d.p.free
    go_wp2
    refine bodyPost_ret (res_ir Tryz.results45 rfl rfl (unhide HP).1 (unhide HP).2.1) rfl ?_
    rw [unhide HX]
    exact AnsD.of rfl rfl ((unhide HP).2.2.1.base (by omega)) ((unhide HP).2.2.2.1.base (by omega)) (unhide HP).2.2.2.2
  · have HX := hide ((unhide HR).trans (dq_7 h))
    rw [us_7 h]
    clear HR h
    have a1 := as_7_1
    have a2 := as_7_2
    have a3 := as_7_3
    have a4 := as_7_4
    have a5 := as_7_5
    have a6 := as_7_6
    have a7 := as_7_7
    go_enter Tryz.func45, Tryz.ntmps45
    go_upto_region 1 with fail
    revert HSZ
    revert HE0
    generalize (((w.alloc _).alloc _).alloc _) = W0
    intro HE0 HSZ
    have HA1 := hide (Joins.below_alloc1 W0 (.cells #[.string q.n] 125))
    have HE1 := hide ((unhide HE0).below (unhide HA1))
    have HC0 : Hid ((W0.alloc (.cells #[.string q.n] 125)).cell? ⟨W0.heap.size, 0, none⟩ = some (.string q.n)) := hide (by simp)
    go_upto_region 23 with fail
    revert HC0
    revert HE1
    revert HA1
    generalize (W0.alloc _) = W1
    intro HA1 HE1 HC0
    have k0 := unhide HC0
    have HSZ1 : Hid (w.heap.size + 3 ≤ W1.heap.size) := hide (by have := (unhide HA1).size; have := unhide HSZ; omega)
    obtain ⟨c0, c1, c2, c3⟩ := (unhide HE1).v.cells
    obtain ⟨X, HXX⟩ : ∃ X, Hid (X = srA m q.n) := ⟨_, hide rfl⟩
    rw [← unhide HXX] at HX
    go_wp2_with fail
    have kk := snapRevert_impl a m q.n _ hz HL (unhide HE1).s
    rw [← unhide HXX] at kk
    refine kk.mono ?_
    rintro e w2 ⟨a1, ts1, rfl, ho, hb⟩
    have HE2 := hide ((unhide HE1).below hb)
    have HO2 := hide (ho.base (unhide HSZ1))
    clear kk ho hb c0 c1 c2 c3 HE1 HXX
    go_wp2_with fail
    refine (changedOrNot_any a1 X.1 X.2 _).mono ?_
    rintro e w3 ⟨rfl, hb⟩
    have HE3 := hide ((unhide HE2).below hb)
    have HP := hide ((unhide HE3).d.put (no := none) (nc := 0) (ns := []) ((unhide HO2).below hb) (OwnNs.none _ _ _) (Nat.le_refl _) (.int .i64 X.2) (.int .i64 0) (.slice none 0 0))
    unfold putD putY putI at HP
    clear hb HE2 HO2
    obtain ⟨r0, r1, r2, r3⟩ := (unhide HE3).d.r.cells
    obtain ⟨z0, z1, z2, z3⟩ := (unhide HE3).d.r.free
    obtain ⟨p0, p1, p2⟩ := (unhide HE3).d.p.cells
    obtain ⟨f0, f1, f2⟩ := (unhide HE3).d.p.free
    go_wp2
    refine bodyPost_ret (res_ir Tryz.results45 rfl rfl (unhide HP).1 (unhide HP).2.1) rfl ?_
    rw [unhide HX]
    exact AnsD.of rfl rfl ((unhide HP).2.2.1.base (by omega)) ((unhide HP).2.2.2.1.base (by omega)) (unhide HP).2.2.2.2
  · have HX := hide ((unhide HR).trans (dq_8 h))
    rw [us_8 h]
    clear HR h
    have a1 := as_8_1
    have a2 := as_8_2
    have a3 := as_8_3
    have a4 := as_8_4
    have a5 := as_8_5
    have a6 := as_8_6
    have a7 := as_8_7
    go_enter Tryz.func45, Tryz.ntmps45
    go_upto_region 1 with fail
    revert HSZ
    revert HE0
    generalize (((w.alloc _).alloc _).alloc _) = W0
    intro HE0 HSZ
    obtain ⟨c0, c1, c2, c3⟩ := (unhide HE0).v.cells
    obtain ⟨X, HXX⟩ : ∃ X, Hid (X = snA m) := ⟨_, hide rfl⟩
    rw [← unhide HXX] at HX
    go_wp2_with fail
    have kk := snapNames_impl a m _ HL (unhide HE0).s
    rw [← unhide HXX] at kk
    refine kk.mono ?_
    rintro e w2 ⟨qo, qa, rfl, hon, hb⟩
    have HE2 := hide ((unhide HE0).below hb)
    have HN2 : Hid (OwnNs w2 (w.heap.size + 3) qo qa X.1) := hide (hon.base (by have := unhide HSZ; omega))
    have HSZ2 : Hid (w.heap.size + 3 ≤ w2.heap.size) := hide (by have := unhide HSZ; have := hb.size; omega)
    clear kk hon hb c0 c1 c2 c3 HE0 HXX
    go_upto_region 25 with fail
    have HB0 : Hid (Below w2.heap.size w2 w2.drew) := hide (Below.refl _ _).drew
    have hS0 : VarM w2.drew w.heap.size 32 (.slice a.ro m.refs.length a.rc) (.slice a.tq m.table.length a.tc) (.slice a.so m.snaps.length a.sc) (.slice a.dq m.data.length a.dc) := (unhide HE2).v.below (unhide HB0)
    refine wp_region_ord (fun w' => VarM w' w.heap.size 32 (.slice a.ro m.refs.length a.rc) (.slice a.tq m.table.length a.tc) (.slice a.so m.snaps.length a.sc) (.slice a.dq m.data.length a.dc)) [0, 1, 2, 3, 4, 5, 6, 7, 8] [(0, 0), (3, 0), (4, 0), (5, 0), (2, 0), (6, 0), (7, 0), (1, 2), (8, 2), (9, 3)] (by kernel_rfl) (by kernel_rfl) rfl (by kernel_rfl) ?_
    refine ord_read (imV a m) rfl rfl hS0 (fun W hW => by obtain ⟨k0, k1, k2, k3⟩ := hW.cells; go_simp) ?_
    refine ord_read (.pointer (some ⟨w.heap.size, 1, none⟩)) rfl rfl hS0 (fun W hW => by go_simp) ?_
    refine ord_read (.slice a.tq m.table.length a.tc) rfl rfl hS0 (fun W hW => by obtain ⟨k0, k1, k2, k3⟩ := hW.cells; go_simp) ?_
    refine ord_read (.int .i64 m.table.length) rfl rfl hS0 (fun W hW => by go_simp) ?_
    refine ord_read (.int .i64 X.2) rfl rfl hS0 (fun W hW => by go_simp) ?_
    refine ord_read (.slice qo X.1.length qa) rfl rfl hS0 (fun W hW => by go_simp) ?_
    refine ord_read (.agg #[.int .i64 X.2, .int .i64 m.table.length, .slice qo X.1.length qa]) rfl rfl hS0 (fun W hW => by go_simp) ?_
    refine ord_held rfl rfl ?_
    intro K hK
    unfold Oper.wp
    go_simp
    have HMM := hide (unhide HM).M
    refine (copyImage_full a m _ ⟨by rw [(unhide HMM).r]; omega, by have := (unhide HMM).t; omega, by rw [(unhide HMM).d]; omega⟩ (fun s hs => by have := ((unhide HMM).st s hs).1; omega) (by have := (unhide HMM).s; omega) ((unhide HE2).s.below (unhide HB0))).mono ?_
    rintro e w3 ⟨a1, ts1, rfl, ⟨ho, _⟩, hb⟩
    have HE3 := hide ((unhide HE2).below (fr (unhide HB0) hb))
    have HO3 := hide (ho.base (B' := w.heap.size + 3) (unhide HSZ2))
    have HN3 := hide ((unhide HN2).below (fr (unhide HB0) hb))
    have HP := hide ((unhide HE3).d.put (unhide HO3) (unhide HN3) (Nat.le_refl _) (.int .i64 X.2) (.int .i64 m.table.length) (.slice qo X.1.length qa))
    unfold putD putY putI at HP
    refine hK _ _ (unhide HE3).v ?_
    clear hK K ho hb HE2 HB0 hS0 HN2
    obtain ⟨r0, r1, r2, r3⟩ := (unhide HE3).d.r.cells
    obtain ⟨z0, z1, z2, z3⟩ := (unhide HE3).d.r.free
    obtain ⟨p0, p1, p2⟩ := (unhide HE3).d.p.cells
    obtain ⟨f0, f1, f2⟩ := (unhide HE3).d.p.free
    refine ord_held rfl rfl ?_
    intro K hK
    unfold Oper.wp
    go_simp
    refine hK _ _ ((((unhide HE3).v.other (p := ⟨w.heap.size + 1, 0, none⟩) (by simp) _).other (p := ⟨w.heap.size + 1, 1, none⟩) (by simp) _).other (p := ⟨w.heap.size + 1, 2, none⟩) (by simp) _ |>.other (p := ⟨w.heap.size + 1, 3, none⟩) (by simp) _) ?_
    clear hK K
    refine ord_alone rfl rfl ?_
    intro K hK
    unfold Oper.wp
    go_simp
    refine hK _ _ ?_
    clear hK K r0 r1 r2 r3 z0 z1 z2 z3 p0 p1 p2 f0 f1 f2
    refine ord_done ?_
    go_wp2
    refine bodyPost_ret (res_ir Tryz.results45 rfl rfl (unhide HP).1 (unhide HP).2.1) rfl ?_
    rw [unhide HX]
    exact AnsD.of rfl rfl ((unhide HP).2.2.1.base (by omega)) ((unhide HP).2.2.2.1.base (by omega)) (unhide HP).2.2.2.2

end Go.Proofs.YtpdpnepnfhbonaaGreat

namespace Go.Proofs.YtpdpnepnfhbonaaGreat
open Go.RowKit
set_option linter.unusedVariables false
set_option maxRecDepth 100000

structure DqJ (W0 : World) (M : Img) (r : Rp) (AI AQ US : Value) (d : Nat → Bool) (w : World) (s7 s8 s19 s20 s21 s22 s23 s24 s25 : Value) (a : Im4) (ts : List Value) (no : Option Addr) (nc x y : Nat) : Prop where
  bw : Below W0.heap.size W0 w
  f0 : d 0 = true → s20 = AI
  f1 : d 1 = true → s21 = AQ
  f2 : d 2 = true → s22 = US
  f4 : d 4 = true → s19 = .tuple #[imV a M, rpV r no nc]
  f5 : d 5 = true → s24 = imV a M
  f6 : d 6 = true → s25 = rpV r no nc
  c : d 3 = true → s23 = .tuple #[imV a M, rpV r no nc]
  o : d 3 = true → OwnIm w W0.heap.size a M ts
  n : d 3 = true → OwnNs w W0.heap.size no nc r.ns
  px : d 7 = true → s7 = .pointer (some ⟨x, 0, none⟩)
  x0 : d 7 = true → W0.heap.size ≤ x
  zx : d 7 = true → d 9 = false → ZrM w x
  vx : d 9 = true → FlM w x a M
  py : d 8 = true → s8 = .pointer (some ⟨y, 0, none⟩)
  y0 : d 8 = true → W0.heap.size ≤ y
  zy : d 8 = true → d 10 = false → ZrY w y
  vy : d 10 = true → FlY w y r no nc

theorem DqJ.s0 {W0 : World} {M : Img} {r : Rp} {AI AQ US : Value} {d : Nat → Bool} {w : World} {s7 s8 s19 s20 s21 s22 s23 s24 s25 v : Value} {a : Im4} {ts : List Value} {no : Option Addr} {nc x y : Nat} (I : DqJ W0 M r AI AQ US d w s7 s8 s19 s20 s21 s22 s23 s24 s25 a ts no nc x y) (hd : d 0 = false) (hv : v = AI) : DqJ W0 M r AI AQ US (updD d 0) w s7 s8 s19 v s21 s22 s23 s24 s25 a ts no nc x y where
  bw := I.bw
  f0 := fun _ => hv
  f1 := fun h => (I.f1 (upd_ne (by decide) h))
  f2 := fun h => (I.f2 (upd_ne (by decide) h))
  f4 := fun h => (I.f4 (upd_ne (by decide) h))
  f5 := fun h => (I.f5 (upd_ne (by decide) h))
  f6 := fun h => (I.f6 (upd_ne (by decide) h))
  c := fun h => (I.c (upd_ne (by decide) h))
  o := fun h => (I.o (upd_ne (by decide) h))
  n := fun h => (I.n (upd_ne (by decide) h))
  px := fun h => (I.px (upd_ne (by decide) h))
  x0 := fun h => (I.x0 (upd_ne (by decide) h))
  zx := fun h h2 => (I.zx (upd_ne (by decide) h) (upd_nf h2))
  vx := fun h => (I.vx (upd_ne (by decide) h))
  py := fun h => (I.py (upd_ne (by decide) h))
  y0 := fun h => (I.y0 (upd_ne (by decide) h))
  zy := fun h h2 => (I.zy (upd_ne (by decide) h) (upd_nf h2))
  vy := fun h => (I.vy (upd_ne (by decide) h))

theorem DqJ.s1 {W0 : World} {M : Img} {r : Rp} {AI AQ US : Value} {d : Nat → Bool} {w : World} {s7 s8 s19 s20 s21 s22 s23 s24 s25 v : Value} {a : Im4} {ts : List Value} {no : Option Addr} {nc x y : Nat} (I : DqJ W0 M r AI AQ US d w s7 s8 s19 s20 s21 s22 s23 s24 s25 a ts no nc x y) (hd : d 1 = false) (hv : v = AQ) : DqJ W0 M r AI AQ US (updD d 1) w s7 s8 s19 s20 v s22 s23 s24 s25 a ts no nc x y where
  bw := I.bw
  f0 := fun h => (I.f0 (upd_ne (by decide) h))
  f1 := fun _ => hv
  f2 := fun h => (I.f2 (upd_ne (by decide) h))
  f4 := fun h => (I.f4 (upd_ne (by decide) h))
  f5 := fun h => (I.f5 (upd_ne (by decide) h))
  f6 := fun h => (I.f6 (upd_ne (by decide) h))
  c := fun h => (I.c (upd_ne (by decide) h))
  o := fun h => (I.o (upd_ne (by decide) h))
  n := fun h => (I.n (upd_ne (by decide) h))
  px := fun h => (I.px (upd_ne (by decide) h))
  x0 := fun h => (I.x0 (upd_ne (by decide) h))
  zx := fun h h2 => (I.zx (upd_ne (by decide) h) (upd_nf h2))
  vx := fun h => (I.vx (upd_ne (by decide) h))
  py := fun h => (I.py (upd_ne (by decide) h))
  y0 := fun h => (I.y0 (upd_ne (by decide) h))
  zy := fun h h2 => (I.zy (upd_ne (by decide) h) (upd_nf h2))
  vy := fun h => (I.vy (upd_ne (by decide) h))

theorem DqJ.s2 {W0 : World} {M : Img} {r : Rp} {AI AQ US : Value} {d : Nat → Bool} {w : World} {s7 s8 s19 s20 s21 s22 s23 s24 s25 v : Value} {a : Im4} {ts : List Value} {no : Option Addr} {nc x y : Nat} (I : DqJ W0 M r AI AQ US d w s7 s8 s19 s20 s21 s22 s23 s24 s25 a ts no nc x y) (hd : d 2 = false) (hv : v = US) : DqJ W0 M r AI AQ US (updD d 2) w s7 s8 s19 s20 s21 v s23 s24 s25 a ts no nc x y where
  bw := I.bw
  f0 := fun h => (I.f0 (upd_ne (by decide) h))
  f1 := fun h => (I.f1 (upd_ne (by decide) h))
  f2 := fun _ => hv
  f4 := fun h => (I.f4 (upd_ne (by decide) h))
  f5 := fun h => (I.f5 (upd_ne (by decide) h))
  f6 := fun h => (I.f6 (upd_ne (by decide) h))
  c := fun h => (I.c (upd_ne (by decide) h))
  o := fun h => (I.o (upd_ne (by decide) h))
  n := fun h => (I.n (upd_ne (by decide) h))
  px := fun h => (I.px (upd_ne (by decide) h))
  x0 := fun h => (I.x0 (upd_ne (by decide) h))
  zx := fun h h2 => (I.zx (upd_ne (by decide) h) (upd_nf h2))
  vx := fun h => (I.vx (upd_ne (by decide) h))
  py := fun h => (I.py (upd_ne (by decide) h))
  y0 := fun h => (I.y0 (upd_ne (by decide) h))
  zy := fun h h2 => (I.zy (upd_ne (by decide) h) (upd_nf h2))
  vy := fun h => (I.vy (upd_ne (by decide) h))

theorem DqJ.s3 {W0 : World} {M : Img} {r : Rp} {AI AQ US : Value} {d : Nat → Bool} {w w2 : World} {s7 s8 s19 s20 s21 s22 s23 s24 s25 v : Value} {a : Im4} {ts : List Value} {no : Option Addr} {nc x y : Nat} (I : DqJ W0 M r AI AQ US d w s7 s8 s19 s20 s21 s22 s23 s24 s25 a ts no nc x y) (hd : d 3 = false) (hb : Below w.heap.size w w2) {a1 : Im4} {ts1 : List Value} {no1 : Option Addr} {nc1 : Nat} (hv : v = .tuple #[imV a1 M, rpV r no1 nc1]) (ho : OwnIm w2 w.heap.size a1 M ts1) (hn : OwnNs w2 w.heap.size no1 nc1 r.ns) (n4 : d 4 = false) (n5 : d 5 = false) (n6 : d 6 = false) (n9 : d 9 = false) (n10 : d 10 = false) : DqJ W0 M r AI AQ US (updD d 3) w2 s7 s8 s19 s20 s21 s22 v s24 s25 a1 ts1 no1 nc1 x y where
  bw := fr I.bw hb
  f0 := fun h => (I.f0 (upd_ne (by decide) h))
  f1 := fun h => (I.f1 (upd_ne (by decide) h))
  f2 := fun h => (I.f2 (upd_ne (by decide) h))
  f4 := fun h => no_d (upd_ne (by decide) h) n4
  f5 := fun h => no_d (upd_ne (by decide) h) n5
  f6 := fun h => no_d (upd_ne (by decide) h) n6
  c := fun _ => hv
  o := fun _ => ho.base I.bw.size
  n := fun _ => OwnR.base hn I.bw.size
  px := fun h => (I.px (upd_ne (by decide) h))
  x0 := fun h => (I.x0 (upd_ne (by decide) h))
  zx := fun h h2 => (I.zx (upd_ne (by decide) h) (upd_nf h2)).below hb
  vx := fun h => no_d (upd_ne (by decide) h) n9
  py := fun h => (I.py (upd_ne (by decide) h))
  y0 := fun h => (I.y0 (upd_ne (by decide) h))
  zy := fun h h2 => (I.zy (upd_ne (by decide) h) (upd_nf h2)).below hb
  vy := fun h => no_d (upd_ne (by decide) h) n10

theorem DqJ.s4 {W0 : World} {M : Img} {r : Rp} {AI AQ US : Value} {d : Nat → Bool} {w : World} {s7 s8 s19 s20 s21 s22 s23 s24 s25 v : Value} {a : Im4} {ts : List Value} {no : Option Addr} {nc x y : Nat} (I : DqJ W0 M r AI AQ US d w s7 s8 s19 s20 s21 s22 s23 s24 s25 a ts no nc x y) (hd : d 4 = false) (hv : v = .tuple #[imV a M, rpV r no nc]) : DqJ W0 M r AI AQ US (updD d 4) w s7 s8 v s20 s21 s22 s23 s24 s25 a ts no nc x y where
  bw := I.bw
  f0 := fun h => (I.f0 (upd_ne (by decide) h))
  f1 := fun h => (I.f1 (upd_ne (by decide) h))
  f2 := fun h => (I.f2 (upd_ne (by decide) h))
  f4 := fun _ => hv
  f5 := fun h => (I.f5 (upd_ne (by decide) h))
  f6 := fun h => (I.f6 (upd_ne (by decide) h))
  c := fun h => (I.c (upd_ne (by decide) h))
  o := fun h => (I.o (upd_ne (by decide) h))
  n := fun h => (I.n (upd_ne (by decide) h))
  px := fun h => (I.px (upd_ne (by decide) h))
  x0 := fun h => (I.x0 (upd_ne (by decide) h))
  zx := fun h h2 => (I.zx (upd_ne (by decide) h) (upd_nf h2))
  vx := fun h => (I.vx (upd_ne (by decide) h))
  py := fun h => (I.py (upd_ne (by decide) h))
  y0 := fun h => (I.y0 (upd_ne (by decide) h))
  zy := fun h h2 => (I.zy (upd_ne (by decide) h) (upd_nf h2))
  vy := fun h => (I.vy (upd_ne (by decide) h))

theorem DqJ.s5 {W0 : World} {M : Img} {r : Rp} {AI AQ US : Value} {d : Nat → Bool} {w : World} {s7 s8 s19 s20 s21 s22 s23 s24 s25 v : Value} {a : Im4} {ts : List Value} {no : Option Addr} {nc x y : Nat} (I : DqJ W0 M r AI AQ US d w s7 s8 s19 s20 s21 s22 s23 s24 s25 a ts no nc x y) (hd : d 5 = false) (hv : v = imV a M) : DqJ W0 M r AI AQ US (updD d 5) w s7 s8 s19 s20 s21 s22 s23 v s25 a ts no nc x y where
  bw := I.bw
  f0 := fun h => (I.f0 (upd_ne (by decide) h))
  f1 := fun h => (I.f1 (upd_ne (by decide) h))
  f2 := fun h => (I.f2 (upd_ne (by decide) h))
  f4 := fun h => (I.f4 (upd_ne (by decide) h))
  f5 := fun _ => hv
  f6 := fun h => (I.f6 (upd_ne (by decide) h))
  c := fun h => (I.c (upd_ne (by decide) h))
  o := fun h => (I.o (upd_ne (by decide) h))
  n := fun h => (I.n (upd_ne (by decide) h))
  px := fun h => (I.px (upd_ne (by decide) h))
  x0 := fun h => (I.x0 (upd_ne (by decide) h))
  zx := fun h h2 => (I.zx (upd_ne (by decide) h) (upd_nf h2))
  vx := fun h => (I.vx (upd_ne (by decide) h))
  py := fun h => (I.py (upd_ne (by decide) h))
  y0 := fun h => (I.y0 (upd_ne (by decide) h))
  zy := fun h h2 => (I.zy (upd_ne (by decide) h) (upd_nf h2))
  vy := fun h => (I.vy (upd_ne (by decide) h))

theorem DqJ.s6 {W0 : World} {M : Img} {r : Rp} {AI AQ US : Value} {d : Nat → Bool} {w : World} {s7 s8 s19 s20 s21 s22 s23 s24 s25 v : Value} {a : Im4} {ts : List Value} {no : Option Addr} {nc x y : Nat} (I : DqJ W0 M r AI AQ US d w s7 s8 s19 s20 s21 s22 s23 s24 s25 a ts no nc x y) (hd : d 6 = false) (hv : v = rpV r no nc) : DqJ W0 M r AI AQ US (updD d 6) w s7 s8 s19 s20 s21 s22 s23 s24 v a ts no nc x y where
  bw := I.bw
  f0 := fun h => (I.f0 (upd_ne (by decide) h))
  f1 := fun h => (I.f1 (upd_ne (by decide) h))
  f2 := fun h => (I.f2 (upd_ne (by decide) h))
  f4 := fun h => (I.f4 (upd_ne (by decide) h))
  f5 := fun h => (I.f5 (upd_ne (by decide) h))
  f6 := fun _ => hv
  c := fun h => (I.c (upd_ne (by decide) h))
  o := fun h => (I.o (upd_ne (by decide) h))
  n := fun h => (I.n (upd_ne (by decide) h))
  px := fun h => (I.px (upd_ne (by decide) h))
  x0 := fun h => (I.x0 (upd_ne (by decide) h))
  zx := fun h h2 => (I.zx (upd_ne (by decide) h) (upd_nf h2))
  vx := fun h => (I.vx (upd_ne (by decide) h))
  py := fun h => (I.py (upd_ne (by decide) h))
  y0 := fun h => (I.y0 (upd_ne (by decide) h))
  zy := fun h h2 => (I.zy (upd_ne (by decide) h) (upd_nf h2))
  vy := fun h => (I.vy (upd_ne (by decide) h))

theorem DqJ.s7 {W0 : World} {M : Img} {r : Rp} {AI AQ US : Value} {d : Nat → Bool} {w w2 : World} {s7 s8 s19 s20 s21 s22 s23 s24 s25 v : Value} {a : Im4} {ts : List Value} {no : Option Addr} {nc x y : Nat} (I : DqJ W0 M r AI AQ US d w s7 s8 s19 s20 s21 s22 s23 s24 s25 a ts no nc x y) (hd : d 7 = false) (hb : Below w.heap.size w w2) {x1 : Nat} (hv : v = .pointer (some ⟨x1, 0, none⟩)) (h0 : w.heap.size ≤ x1) (hz : ZrM w2 x1) (n1 : d 9 = false) : DqJ W0 M r AI AQ US (updD d 7) w2 v s8 s19 s20 s21 s22 s23 s24 s25 a ts no nc x1 y where
  bw := fr I.bw hb
  f0 := fun h => (I.f0 (upd_ne (by decide) h))
  f1 := fun h => (I.f1 (upd_ne (by decide) h))
  f2 := fun h => (I.f2 (upd_ne (by decide) h))
  f4 := fun h => (I.f4 (upd_ne (by decide) h))
  f5 := fun h => (I.f5 (upd_ne (by decide) h))
  f6 := fun h => (I.f6 (upd_ne (by decide) h))
  c := fun h => (I.c (upd_ne (by decide) h))
  o := fun h => (I.o (upd_ne (by decide) h)).below hb
  n := fun h => (I.n (upd_ne (by decide) h)).below hb
  px := fun _ => hv
  x0 := fun _ => Nat.le_trans I.bw.size h0
  zx := fun _ _ => hz
  vx := fun h => no_d (upd_ne (by decide) h) n1
  py := fun h => (I.py (upd_ne (by decide) h))
  y0 := fun h => (I.y0 (upd_ne (by decide) h))
  zy := fun h h2 => (I.zy (upd_ne (by decide) h) (upd_nf h2)).below hb
  vy := fun h => (I.vy (upd_ne (by decide) h)).below hb

theorem DqJ.s8 {W0 : World} {M : Img} {r : Rp} {AI AQ US : Value} {d : Nat → Bool} {w w2 : World} {s7 s8 s19 s20 s21 s22 s23 s24 s25 v : Value} {a : Im4} {ts : List Value} {no : Option Addr} {nc x y : Nat} (I : DqJ W0 M r AI AQ US d w s7 s8 s19 s20 s21 s22 s23 s24 s25 a ts no nc x y) (hd : d 8 = false) (hb : Below w.heap.size w w2) {y1 : Nat} (hv : v = .pointer (some ⟨y1, 0, none⟩)) (h0 : w.heap.size ≤ y1) (hz : ZrY w2 y1) (n1 : d 10 = false) : DqJ W0 M r AI AQ US (updD d 8) w2 s7 v s19 s20 s21 s22 s23 s24 s25 a ts no nc x y1 where
  bw := fr I.bw hb
  f0 := fun h => (I.f0 (upd_ne (by decide) h))
  f1 := fun h => (I.f1 (upd_ne (by decide) h))
  f2 := fun h => (I.f2 (upd_ne (by decide) h))
  f4 := fun h => (I.f4 (upd_ne (by decide) h))
  f5 := fun h => (I.f5 (upd_ne (by decide) h))
  f6 := fun h => (I.f6 (upd_ne (by decide) h))
  c := fun h => (I.c (upd_ne (by decide) h))
  o := fun h => (I.o (upd_ne (by decide) h)).below hb
  n := fun h => (I.n (upd_ne (by decide) h)).below hb
  px := fun h => (I.px (upd_ne (by decide) h))
  x0 := fun h => (I.x0 (upd_ne (by decide) h))
  zx := fun h h2 => (I.zx (upd_ne (by decide) h) (upd_nf h2)).below hb
  vx := fun h => (I.vx (upd_ne (by decide) h)).below hb
  py := fun _ => hv
  y0 := fun _ => Nat.le_trans I.bw.size h0
  zy := fun _ _ => hz
  vy := fun h => no_d (upd_ne (by decide) h) n1

theorem DqJ.s9 {W0 : World} {M : Img} {r : Rp} {AI AQ US : Value} {d : Nat → Bool} {w : World} {s7 s8 s19 s20 s21 s22 s23 s24 s25 : Value} {a : Im4} {ts : List Value} {no : Option Addr} {nc x y : Nat} (I : DqJ W0 M r AI AQ US d w s7 s8 s19 s20 s21 s22 s23 s24 s25 a ts no nc x y) (hd : d 9 = false) (p1 : d 7 = true) (n1 : d 10 = false) (p2 : d 8 = true) : DqJ W0 M r AI AQ US (updD d 9) (putI w x a M) s7 s8 s19 s20 s21 s22 s23 s24 s25 a ts no nc x y where
  bw := below_putI I.bw (I.x0 p1) a M I.bw.size
  f0 := fun h => (I.f0 (upd_ne (by decide) h))
  f1 := fun h => (I.f1 (upd_ne (by decide) h))
  f2 := fun h => (I.f2 (upd_ne (by decide) h))
  f4 := fun h => (I.f4 (upd_ne (by decide) h))
  f5 := fun h => (I.f5 (upd_ne (by decide) h))
  f6 := fun h => (I.f6 (upd_ne (by decide) h))
  c := fun h => (I.c (upd_ne (by decide) h))
  o := fun h => (I.o (upd_ne (by decide) h)).putI (I.zx p1 hd)
  n := fun h => OwnNs.putI (I.n (upd_ne (by decide) h)) (I.zx p1 hd)
  px := fun h => (I.px (upd_ne (by decide) h))
  x0 := fun h => (I.x0 (upd_ne (by decide) h))
  zx := fun _ h2 => no_d upd_at h2
  vx := fun _ => FlM.of (I.zx p1 hd) a M
  py := fun h => (I.py (upd_ne (by decide) h))
  y0 := fun h => (I.y0 (upd_ne (by decide) h))
  zy := fun h h2 => (I.zy (upd_ne (by decide) h) (upd_nf h2)).keepX (putI_keep w x a M) (fun e => apartMY (I.zx p1 hd) (I.zy p2 n1) e.symm)
  vy := fun h => no_d (upd_ne (by decide) h) n1

theorem DqJ.s10 {W0 : World} {M : Img} {r : Rp} {AI AQ US : Value} {d : Nat → Bool} {w : World} {s7 s8 s19 s20 s21 s22 s23 s24 s25 : Value} {a : Im4} {ts : List Value} {no : Option Addr} {nc x y : Nat} (I : DqJ W0 M r AI AQ US d w s7 s8 s19 s20 s21 s22 s23 s24 s25 a ts no nc x y) (hd : d 10 = false) (p1 : d 8 = true) (p2 : d 9 = true) : DqJ W0 M r AI AQ US (updD d 10) (putR w y r no nc) s7 s8 s19 s20 s21 s22 s23 s24 s25 a ts no nc x y where
  bw := below_putR I.bw (I.y0 p1) r no nc I.bw.size
  f0 := fun h => (I.f0 (upd_ne (by decide) h))
  f1 := fun h => (I.f1 (upd_ne (by decide) h))
  f2 := fun h => (I.f2 (upd_ne (by decide) h))
  f4 := fun h => (I.f4 (upd_ne (by decide) h))
  f5 := fun h => (I.f5 (upd_ne (by decide) h))
  f6 := fun h => (I.f6 (upd_ne (by decide) h))
  c := fun h => (I.c (upd_ne (by decide) h))
  o := fun h => (I.o (upd_ne (by decide) h)).putRp (I.zy p1 hd) r no nc
  n := fun h => OwnNs.putR (I.n (upd_ne (by decide) h)) (I.zy p1 hd) r no nc
  px := fun h => (I.px (upd_ne (by decide) h))
  x0 := fun h => (I.x0 (upd_ne (by decide) h))
  zx := fun h h2 => no_d p2 (upd_nf h2)
  vx := fun h => (I.vx (upd_ne (by decide) h)).keepX (putR_keep w y r no nc) (apartMY (I.vx (upd_ne (by decide) h)) (I.zy p1 hd))
  py := fun h => (I.py (upd_ne (by decide) h))
  y0 := fun h => (I.y0 (upd_ne (by decide) h))
  zy := fun _ h2 => no_d upd_at h2
  vy := fun _ => FlY.of (I.zy p1 hd) r no nc

theorem DqJ.start {W0 : World} {M : Img} {r : Rp} {AI AQ US : Value} {w : World} {s7 s8 s19 s20 s21 s22 s23 s24 s25 : Value} {a : Im4} {ts : List Value} {no : Option Addr} {nc x y : Nat} (hb : Below W0.heap.size W0 w) : DqJ W0 M r AI AQ US (fun _ => false) w s7 s8 s19 s20 s21 s22 s23 s24 s25 a ts no nc x y where
  bw := hb
  f0 := fun h => (by cases h)
  f1 := fun h => (by cases h)
  f2 := fun h => (by cases h)
  f4 := fun h => (by cases h)
  f5 := fun h => (by cases h)
  f6 := fun h => (by cases h)
  c := fun h => (by cases h)
  o := fun h => (by cases h)
  n := fun h => (by cases h)
  px := fun h => (by cases h)
  x0 := fun h => (by cases h)
  zx := fun h _ => (by cases h)
  vx := fun h => (by cases h)
  py := fun h => (by cases h)
  y0 := fun h => (by cases h)
  zy := fun h _ => (by cases h)
  vy := fun h => (by cases h)

theorem DqJ.grow {W0 : World} {M : Img} {r : Rp} {AI AQ US : Value} {d : Nat → Bool} {w w2 : World} {s7 s8 s19 s20 s21 s22 s23 s24 s25 : Value} {a : Im4} {ts : List Value} {no : Option Addr} {nc x y : Nat} (I : DqJ W0 M r AI AQ US d w s7 s8 s19 s20 s21 s22 s23 s24 s25 a ts no nc x y) (hb : Below w.heap.size w w2) : DqJ W0 M r AI AQ US d w2 s7 s8 s19 s20 s21 s22 s23 s24 s25 a ts no nc x y where
  bw := fr I.bw hb
  f0 := I.f0
  f1 := I.f1
  f2 := I.f2
  f4 := I.f4
  f5 := I.f5
  f6 := I.f6
  c := I.c
  o := fun h => (I.o h).below hb
  n := fun h => (I.n h).below hb
  px := I.px
  x0 := I.x0
  zx := fun h h2 => (I.zx h h2).below hb
  vx := fun h => (I.vx h).below hb
  py := I.py
  y0 := I.y0
  zy := fun h h2 => (I.zy h h2).below hb
  vy := fun h => (I.vy h).below hb

abbrev dqF (t0 t1 t2 t3 t4 t5 t6 s7 s8 t9 t10 t11 t12 t13 t14 t15 t16 t17 t18 s19 s20 s21 s22 s23 s24 s25 t26 t27 : Value) : Act := ⟨#[t0, t1, t2, t3, t4, t5, t6, s7, s8, t9, t10, t11, t12, t13, t14, t15, t16, t17, t18, s19, s20, s21, s22, s23, s24, s25, t26, t27], []⟩
theorem dqF_region {P : Program} {id : Nat} {Q : Exit → Act → World → Prop} {l : List Oper} {t0 t1 t2 t3 t4 t5 t6 s7 s8 t9 t10 t11 t12 t13 t14 t15 t16 t17 t18 s19 s20 s21 s22 s23 s24 s25 t26 t27 : Value} {W : World} (J : (Nat → Bool) → World → Value → Value → Value → Value → Value → Value → Value → Value → Value → Prop) (hm : P.follows .mixedOrders = true) (hl : linC l = true)
    (hg : ∀ (i : Nat) (o : Oper), l[i]? = some o → o.guard = none) (h0 : J (fun _ => false) { W with drawn := W.drawn + 1 } s7 s8 s19 s20 s21 s22 s23 s24 s25)
    (hs : ∀ (d : Nat → Bool) (w : World) (i : Nat) (o : Oper) (r7 r8 r19 r20 r21 r22 r23 r24 r25 : Value), Closed l d → J d w r7 r8 r19 r20 r21 r22 r23 r24 r25 → l[i]? = some o → d i = false → (∀ e ∈ o.after, Region.binds .any e = true → d e.on = true) → ∀ K : Act → World → Prop, (∀ (w' : World) (q7 q8 q19 q20 q21 q22 q23 q24 q25 : Value), J (updD d i) w' q7 q8 q19 q20 q21 q22 q23 q24 q25 → K (dqF t0 t1 t2 t3 t4 t5 t6 q7 q8 t9 t10 t11 t12 t13 t14 t15 t16 t17 t18 q19 q20 q21 q22 q23 q24 q25 t26 t27) w') → o.wp P (dqF t0 t1 t2 t3 t4 t5 t6 r7 r8 t9 t10 t11 t12 t13 t14 t15 t16 t17 t18 r19 r20 r21 r22 r23 r24 r25 t26 t27) w K Q)
    (he : ∀ (d : Nat → Bool) (w : World) (r7 r8 r19 r20 r21 r22 r23 r24 r25 : Value), J d w r7 r8 r19 r20 r21 r22 r23 r24 r25 → (∀ i, i < l.length → d i = true) → Q .normal (dqF t0 t1 t2 t3 t4 t5 t6 r7 r8 t9 t10 t11 t12 t13 t14 t15 t16 t17 t18 r19 r20 r21 r22 r23 r24 r25 t26 t27) w) : (Code.region id l.toArray true).wp P Q (dqF t0 t1 t2 t3 t4 t5 t6 s7 s8 t9 t10 t11 t12 t13 t14 t15 t16 t17 t18 s19 s20 s21 s22 s23 s24 s25 t26 t27) W := by
  refine wp_region_inv4 (fun d f w => ∃ r7 r8 r19 r20 r21 r22 r23 r24 r25, f = dqF t0 t1 t2 t3 t4 t5 t6 r7 r8 t9 t10 t11 t12 t13 t14 t15 t16 t17 t18 r19 r20 r21 r22 r23 r24 r25 t26 t27 ∧ J d w r7 r8 r19 r20 r21 r22 r23 r24 r25) hm hl hg ⟨s7, s8, s19, s20, s21, s22, s23, s24, s25, rfl, h0⟩ ?_ ?_
  · intro d f w i o hc hI ho hd hp K hK
    obtain ⟨r7, r8, r19, r20, r21, r22, r23, r24, r25, rfl, hJ⟩ := hI
    exact hs d w i o r7 r8 r19 r20 r21 r22 r23 r24 r25 hc hJ ho hd hp K (fun w' q7 q8 q19 q20 q21 q22 q23 q24 q25 hJ' => hK _ _ ⟨q7, q8, q19, q20, q21, q22, q23, q24, q25, rfl, hJ'⟩)
  · intro d f w hI hall
    obtain ⟨r7, r8, r19, r20, r21, r22, r23, r24, r25, rfl, hJ⟩ := hI
    exact he d w r7 r8 r19 r20 r21 r22 r23 r24 r25 hJ hall

def rdoA (m : Img) (q : Rq) : Img × Rp × Int := if imB m = true ∧ rqB q = true then ((dqA m q).1, (dqA m q).2, 0) else (im0, ⟨0, 0, []⟩, 1)
theorem rdo_no {m : Img} {q : Rq} (h : imB m = false ∨ rqB q = false) : rdoA m q = (im0, ⟨0, 0, []⟩, 1) := if_neg (fun k => by rcases h with h | h <;> simp [h] at k)
theorem rdo_yes {m : Img} {q : Rq} (h1 : imB m = true) (h2 : rqB q = true) : rdoA m q = ((dqA m q).1, (dqA m q).2, 0) := if_pos ⟨h1, h2⟩
theorem AnsQ.of {w w' : World} {e : Ending} {v u z : Value} {R : Img × Rp × Int} {M : Img} {r : Rp} {c : Int} {a : Im4} {ts : List Value} {no : Option Addr} {nc : Nat} (hR : R = (M, r, c)) (hv : v = imV a M) (hu : u = rpV r no nc) (hz : z = .int .i64 c) (he : e = .returned (.tuple #[v, u, z])) (ho : OwnIm w' w.heap.size a M ts) (hn : OwnNs w' w.heap.size no nc r.ns) (hb : Below w.heap.size w w') : AnsQ w w' e R := by
  subst hR hv hu hz he
  exact ⟨a, ts, no, nc, rfl, ho, hn, hb⟩
structure DoQ (w W : World) (a : Im4) (m : Img) (q : Rq) : Prop where
  v : VarM W w.heap.size 32 (.slice a.ro m.refs.length a.rc) (.slice a.tq m.table.length a.tc) (.slice a.so m.snaps.length a.sc) (.slice a.dq m.data.length a.dc)
  q : VarR W (w.heap.size + 1) q
  d : DoR w W (w.heap.size + 2)
  s : ImS W a m
  z : w.heap.size + 4 ≤ W.heap.size
theorem DoQ.below {w W W' : World} {a : Im4} {m : Img} {q : Rq} (h : DoQ w W a m q) (hb : Below W.heap.size W W') : DoQ w W' a m q := ⟨h.v.below hb, h.q.below hb, h.d.below hb, h.s.below hb, Nat.le_trans h.z hb.size⟩
theorem DoQ.new (w : World) (a : Im4) (m : Img) (q : Rq) (h : ImS w a m) : DoQ w ((((w.alloc (.cells #[.slice a.ro m.refs.length a.rc, .slice a.tq m.table.length a.tc, .slice a.so m.snaps.length a.sc, .slice a.dq m.data.length a.dc] 32)).alloc (.cells #[.int .i64 q.k, .int .i64 q.g, .int .i64 q.v, .string q.n] 49)).alloc (.cells #[.slice none 0 0, .slice none 0 0, .slice none 0 0, .slice none 0 0] 32)).alloc (.cells #[.int .i64 0, .int .i64 0, .slice none 0 0] 46)) a m q :=
  ⟨((VarM.new w _ _ _ _ _).below (Joins.below_alloc1 _ _)).below (Joins.below_alloc2 _ _ _), ((VarM.new (w.alloc _) 49 _ _ _ _).below (Joins.below_alloc2 _ _ _)).at (by simp), ⟨((VarM.new ((w.alloc _).alloc _) _ _ _ _ _).below (Joins.below_alloc1 _ _)).at (by simp), (VarY.new (((w.alloc _).alloc _).alloc _) _ _ _).at (by simp), fr (Joins.below_alloc2 _ _ _) (Joins.below_alloc2 _ _ _), by omega⟩, h.below (fr (Joins.below_alloc2 _ _ _) (Joins.below_alloc2 _ _ _)), by simp⟩

set_option maxHeartbeats 6400000 in
theorem reqDo_impl (a : Im4) (m : Img) (q : Rq) (w : World) (hL : ImL m) (hz : q.n.size ≤ maxLen) (hc : ImS w a m) :
    Calls Tryz.prog 20 #[imV a m, qV q] w fun e w' => AnsQ w w' e (rdoA m q) := by
  have HE0 := hide (DoQ.new w a m q hc)
  have HL := hide hL
  obtain ⟨R, HR⟩ : ∃ R, Hid (R = rdoA m q) := ⟨_, hide rfl⟩
  rw [← unhide HR]
  clear hc hL
  go_enter Tryz.func20, Tryz.ntmps20
  go_upto_region 1 with fail
  revert HE0
  generalize ((((w.alloc _).alloc _).alloc _).alloc _) = W0
  intro HE0
  obtain ⟨c0, c1, c2, c3⟩ := (unhide HE0).v.cells
  go_wp2_with fail
  refine (imageOK_impl a m _ (unhide HL) (unhide HE0).s).mono ?_
  rintro e w1 ⟨rfl, hb⟩
  have HE1 := hide ((unhide HE0).below hb)
  clear hb c0 c1 c2 c3 HE0
  obtain ⟨r0, r1, r2, r3⟩ := (unhide HE1).d.r.cells
  obtain ⟨z0, z1, z2, z3⟩ := (unhide HE1).d.r.free
  obtain ⟨p0, p1, p2⟩ := (unhide HE1).d.p.cells
  obtain ⟨f0, f1, f2⟩ := (unhide HE1).d.p.free
  cases him : imB m
  case false =>
    have HX := hide ((unhide HR).trans (rdo_no (.inl him)))
    have HP := hide ((unhide HE1).d.put (a := ⟨none, 0, none, 0, none, 0, none, 0⟩) (M := im0) (OwnIm.zero w1 w1.heap.size) (OwnNs.none w1 w1.heap.size none) (unhide HE1).z (.int .i64 0) (.int .i64 0) (.slice none 0 0))
    unfold putD putY putI im0 at HP
    go_wp2
    refine bodyPost_ret (res_irc Tryz.results20 rfl rfl rfl (unhide HP).1 (unhide HP).2.1) rfl ?_
    have hz1 := (unhide HE1).z
    exact AnsQ.of (unhide HX) rfl rfl rfl rfl ((unhide HP).2.2.1.base (by omega)) (OwnR.base (unhide HP).2.2.2.1 (by omega)) (unhide HP).2.2.2.2
  case true =>
    obtain ⟨c0, c1, c2, c3⟩ := (unhide HE1).q.cells
    go_wp2_with fail
    clear r0 r1 r2 r3 z0 z1 z2 z3 p0 p1 p2 f0 f1 f2
    refine (reqOK_impl q _ hz).mono ?_
    rintro e w2 ⟨rfl, hb⟩
    have HE2 := hide ((unhide HE1).below hb)
    clear hb c0 c1 c2 c3 HE1
    cases hrq : rqB q
    case false =>
      obtain ⟨r0, r1, r2, r3⟩ := (unhide HE2).d.r.cells
      obtain ⟨z0, z1, z2, z3⟩ := (unhide HE2).d.r.free
      obtain ⟨p0, p1, p2⟩ := (unhide HE2).d.p.cells
      obtain ⟨f0, f1, f2⟩ := (unhide HE2).d.p.free
      have HX := hide ((unhide HR).trans (rdo_no (.inr hrq)))
      have HP := hide ((unhide HE2).d.put (a := ⟨none, 0, none, 0, none, 0, none, 0⟩) (M := im0) (OwnIm.zero w2 w2.heap.size) (OwnNs.none w2 w2.heap.size none) (unhide HE2).z (.int .i64 0) (.int .i64 0) (.slice none 0 0))
      unfold putD putY putI im0 at HP
      go_wp2
      refine bodyPost_ret (res_irc Tryz.results20 rfl rfl rfl (unhide HP).1 (unhide HP).2.1) rfl ?_
      have hz1 := (unhide HE2).z
      exact AnsQ.of (unhide HX) rfl rfl rfl rfl ((unhide HP).2.2.1.base (by omega)) (OwnR.base (unhide HP).2.2.2.1 (by omega)) (unhide HP).2.2.2.2
    case true =>
      have HX := hide ((unhide HR).trans (rdo_yes him hrq))
      have HIR := hide (imB_iff.1 him)
      have HNZ : Hid (q.n.size ≤ 65536) := hide (by
        have h1 := hrq
        unfold rqB at h1
        rw [Bool.and_eq_true, Bool.and_eq_true] at h1
        exact of_decide_eq_true h1.1.2)
      have HDO : Hid (∀ W, ImS W a m → Calls Tryz.prog 45 #[imV a m, usV q] W fun e w' => AnsD W w' e (dqA m q).1 (dqA m q).2) := hide (fun W hs => doOnImage_any a m q W (unhide HIR) (unhide HNZ) hs)
      clear him hrq HR
      revert HDO HX
      generalize (dqA m q).1 = M
      generalize (dqA m q).2 = r
      intro HX HDO
      clear HIR HNZ HL
      go_upto_region 3 with fail
      refine dqF_region (fun d wz r7 r8 r19 r20 r21 r22 r23 r24 r25 => ∃ a1 ts no nc x y, DqJ w2 M r (imV a m) (qV q) (usV q) d wz r7 r8 r19 r20 r21 r22 r23 r24 r25 a1 ts no nc x y) (by kernel_rfl) (by kernel_rfl) (noG_spec (by kernel_rfl)) ?h0 ?hs ?he
      case h0 => exact ⟨a, [], none, 0, 0, 0, DqJ.start (Below.refl _ w2).drew⟩
      case hs =>
        intro d wz i o r7 r8 r19 r20 r21 r22 r23 r24 r25 hc hJ ho hd hp K hK
        obtain ⟨a1, ts, no, nc, x, y, I⟩ := hJ
        have hi : i < 11 := (List.getElem?_eq_some_iff.1 ho).1
        rcases (show i = 0 ∨ i = 1 ∨ i = 2 ∨ i = 3 ∨ i = 4 ∨ i = 5 ∨ i = 6 ∨ i = 7 ∨ i = 8 ∨ i = 9 ∨ i = 10 by omega) with rfl | rfl | rfl | rfl | rfl | rfl | rfl | rfl | rfl | rfl | rfl
        · cases ho
          obtain ⟨k0, k1, k2, k3⟩ := ((unhide HE2).v.below I.bw).cells
          unfold Oper.wp
          go_simp
          exact hK _ _ _ _ _ _ _ _ _ _ ⟨_, _, _, _, _, _, I.s0 hd rfl⟩
        · cases ho
          obtain ⟨k0, k1, k2, k3⟩ := ((unhide HE2).q.below I.bw).cells
          unfold Oper.wp
          go_simp
          exact hK _ _ _ _ _ _ _ _ _ _ ⟨_, _, _, _, _, _, I.s1 hd rfl⟩
        · cases ho
          have e1 := I.f1 (hp ⟨1, .data⟩ (by simp) rfl)
          subst e1
          unfold Oper.wp
          go_simp
          refine (useOf_any q _).mono ?_
          rintro e w3 ⟨rfl, hb⟩
          exact hK _ _ _ _ _ _ _ _ _ _ ⟨_, _, _, _, _, _, (I.grow hb).s2 hd rfl⟩
        · cases ho
          have e0 := I.f0 (hp ⟨0, .data⟩ (by simp) rfl)
          have e2 := I.f2 (hp ⟨2, .data⟩ (by simp) rfl)
          subst e0 e2
          unfold Oper.wp
          go_simp
          refine (unhide HDO _ ((unhide HE2).s.below I.bw)).mono ?_
          rintro e w3 ⟨a2, ts2, no2, nc2, rfl, ho2, hn2, hb⟩
          exact hK _ _ _ _ _ _ _ _ _ _ ⟨_, _, _, _, _, _, I.s3 hd hb rfl ho2 hn2 (not_yet hc 9 (by kernel_rfl) hd) (not_yet hc 9 (by kernel_rfl) hd) (not_yet hc 9 (by kernel_rfl) hd) (not_yet hc 9 (by kernel_rfl) hd) (not_yet hc 9 (by kernel_rfl) hd)⟩
        · cases ho
          have e3 := I.c (hp ⟨3, .data⟩ (by simp) rfl)
          subst e3
          unfold Oper.wp
          go_simp
          exact hK _ _ _ _ _ _ _ _ _ _ ⟨_, _, _, _, _, _, I.s4 hd rfl⟩
        · cases ho
          have e4 := I.f4 (hp ⟨4, .data⟩ (by simp) rfl)
          subst e4
          unfold Oper.wp
          go_simp
          exact hK _ _ _ _ _ _ _ _ _ _ ⟨_, _, _, _, _, _, I.s5 hd rfl⟩
        · cases ho
          have e4 := I.f4 (hp ⟨4, .data⟩ (by simp) rfl)
          subst e4
          unfold Oper.wp
          go_simp
          exact hK _ _ _ _ _ _ _ _ _ _ ⟨_, _, _, _, _, _, I.s6 hd rfl⟩
        · cases ho
          unfold Oper.wp
          go_simp
          exact hK _ _ _ _ _ _ _ _ _ _ ⟨_, _, _, _, _, _, I.s7 hd (Joins.below_alloc1 _ _) rfl (Nat.le_refl _) (VarM.new _ _ _ _ _ _) (not_yet hc 9 (by kernel_rfl) hd)⟩
        · cases ho
          unfold Oper.wp
          go_simp
          exact hK _ _ _ _ _ _ _ _ _ _ ⟨_, _, _, _, _, _, I.s8 hd (Joins.below_alloc1 _ _) rfl (Nat.le_refl _) (VarY.new _ _ _ _) (not_yet hc 9 (by kernel_rfl) hd)⟩
        · cases ho
          have p7 := hp ⟨7, .data⟩ (by simp) rfl
          have p8 : d 8 = true := hp ⟨8, .phase⟩ (by simp) rfl
          have e7 := I.px p7
          have e5 := I.f5 (hp ⟨5, .data⟩ (by simp) rfl)
          subst e7 e5
          obtain ⟨k0, k1, k2, k3⟩ := (I.zx p7 hd).cells
          obtain ⟨l0, l1, l2, l3⟩ := (I.zx p7 hd).free
          unfold Oper.wp
          go_simp
          exact hK _ _ _ _ _ _ _ _ _ _ ⟨_, _, _, _, _, _, I.s9 hd p7 (not_yet hc 9 (by kernel_rfl) hd) p8⟩
        · cases ho
          have p8 := hp ⟨8, .data⟩ (by simp) rfl
          have p9 : d 9 = true := hp ⟨9, .chain⟩ (by simp) rfl
          have e8 := I.py p8
          have e6 := I.f6 (hp ⟨6, .data⟩ (by simp) rfl)
          subst e8 e6
          obtain ⟨k0, k1, k2⟩ := (I.zy p8 hd).cells
          obtain ⟨l0, l1, l2⟩ := (I.zy p8 hd).free
          unfold Oper.wp
          go_simp
          exact hK _ _ _ _ _ _ _ _ _ _ ⟨_, _, _, _, _, _, I.s10 hd p8 p9⟩
      case he =>
        intro d w3 r7 r8 r19 r20 r21 r22 r23 r24 r25 hJ hall
        obtain ⟨a1, ts, no, nc, x, y, I⟩ := hJ
        have e7 := I.px (hall 7 (by decide))
        have e8 := I.py (hall 8 (by decide))
        subst e7 e8
        have hx0 := I.x0 (hall 7 (by decide))
        have hy0 := I.y0 (hall 8 (by decide))
        have hzw := (unhide HE2).z
        have HE3 := hide ((unhide HE2).below I.bw)
        have HO3 := hide (I.o (hall 3 (by decide)))
        have HN3 := hide (I.n (hall 3 (by decide)))
        have HVX := hide (I.vx (hall 9 (by decide)))
        have HVY := hide (I.vy (hall 10 (by decide)))
        clear I hall HE2 HDO
        go_upto_region 4 with fail
        have HE4 := hide ((unhide HE3).below (Below.refl _ w3).drew)
        have HO4 := hide ((unhide HO3).below (Below.refl _ w3).drew)
        have HN4 := hide (OwnR.below (unhide HN3) (Below.refl _ w3).drew)
        have hS0 : FlM w3.drew x a1 M ∧ FlY w3.drew y r no nc := ⟨(unhide HVX).below (Below.refl _ _).drew, (unhide HVY).below (Below.refl _ _).drew⟩
        have HP := hide ((unhide HE4).d.put (unhide HO4) (unhide HN4) (by omega) (.int .i64 r.c) (.int .i64 r.v) (.slice no r.ns.length nc))
        unfold putD putY putI at HP
        clear HE3 HO3 HN3 HVX HVY
        refine wp_region_ord (fun w' => FlM w' x a1 M ∧ FlY w' y r no nc) [0, 1, 2] [(0, 0), (1, 0), (2, 2), (3, 3), (4, 4)] (by kernel_rfl) (by kernel_rfl) rfl (by kernel_rfl) ?_
        revert HP
        revert hS0
        revert HN4
        revert HO4
        revert HE4
        generalize w3.drew = W4
        intro HE4 HO4 HN4 hS0 HP
        obtain ⟨r0, r1, r2, r3⟩ := (unhide HE4).d.r.cells
        obtain ⟨z0, z1, z2, z3⟩ := (unhide HE4).d.r.free
        obtain ⟨p0, p1, p2⟩ := (unhide HE4).d.p.cells
        obtain ⟨f0, f1, f2⟩ := (unhide HE4).d.p.free
        refine ord_read (imV a1 M) rfl rfl hS0 (fun W hW => by obtain ⟨k0, k1, k2, k3⟩ := hW.1.cells; go_simp) ?_
        refine ord_read (rpV r no nc) rfl rfl hS0 (fun W hW => by obtain ⟨k0, k1, k2⟩ := hW.2.cells; go_simp) ?_
        refine ord_held rfl rfl ?_
        intro K hK
        unfold Oper.wp
        go_simp
        refine hK _ _ ⟨hS0.1.keepX (putI_keep W4 (w.heap.size + 2) a1 M) (by omega), hS0.2.keepX (putI_keep W4 (w.heap.size + 2) a1 M) (by omega)⟩ ?_
        clear hK K hS0
        refine ord_alone rfl rfl ?_
        intro K hK
        unfold Oper.wp
        go_simp
        refine hK _ _ ?_
        clear hK K r0 r1 r2 r3 z0 z1 z2 z3 p0 p1 p2 f0 f1 f2
        refine ord_val (.int .i64 0) rfl rfl (fun W => by go_simp) ?_
        refine ord_done ?_
        go_wp2
        refine bodyPost_ret (res_irc Tryz.results20 rfl rfl rfl (unhide HP).1 (unhide HP).2.1) rfl ?_
        exact AnsQ.of (unhide HX) rfl rfl rfl rfl ((unhide HP).2.2.1.base (by omega)) (OwnR.base (unhide HP).2.2.2.1 (by omega)) (unhide HP).2.2.2.2

end Go.Proofs.YtpdpnepnfhbonaaGreat
