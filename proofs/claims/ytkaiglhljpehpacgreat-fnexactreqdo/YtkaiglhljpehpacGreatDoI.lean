/- Contract of the program's doOnImage. (Written by gens/doi.py.) -/
import Derived.Test.YtkaiglhljpehpacGreatPart14
import Derived.Test.YtkaiglhljpehpacGreatRqI
import Derived.Test.YtkaiglhljpehpacGreatPart16
import Derived.Test.YtkaiglhljpehpacGreatPart19
import Derived.Test.YtkaiglhljpehpacGreatPart23
import Derived.Test.YtkaiglhljpehpacGreatPart22
import Derived.Test.YtkaiglhljpehpacGreatPart26
import Derived.Test.YtkaiglhljpehpacGreatPart27
import Derived.Test.YtkaiglhljpehpacGreatPart29
import Derived.Test.YtkaiglhljpehpacGreatIgL

namespace Go.Proofs.YtkaiglhljpehpacGreat
open Go.RowKit
set_option linter.unusedVariables false
set_option maxRecDepth 100000

/-- What a right request does with a right image. -/
def dqA (m : Img) (q : Rq) : Img × Rp :=
  if q.k = 1 then (m, ⟨(rcA m q.g).2, (rcA m q.g).1, []⟩) else if q.k = 2 then ((wcA m q.g q.v).1, ⟨(wcA m q.g q.v).2, 0, []⟩) else if q.k = 3 then ((zcA m q.g).1, ⟨(zcA m q.g).2, 0, []⟩) else if q.k = 4 then ((rsA' m q.g).1, ⟨(rsA' m q.g).2, 0, []⟩)
  else if q.k = 5 then ((scA m q.n).1, ⟨(scA m q.n).2, 0, []⟩) else if q.k = 6 then ((sdA m q.n).1, ⟨(sdA m q.n).2, 0, []⟩) else if q.k = 7 then ((srA m q.n).1, ⟨(srA m q.n).2, 0, []⟩) else (m, ⟨(snA m).2, m.table.length, (snA m).1⟩)
theorem dq_1 {m : Img} {q : Rq} (h : q.k = 1) : dqA m q = (m, ⟨(rcA m q.g).2, (rcA m q.g).1, []⟩) := by
  unfold dqA
  rw [if_pos h]
theorem dq_2 {m : Img} {q : Rq} (h : q.k = 2) : dqA m q = ((wcA m q.g q.v).1, ⟨(wcA m q.g q.v).2, 0, []⟩) := by
  unfold dqA
  rw [if_neg (by omega), if_pos h]
theorem dq_3 {m : Img} {q : Rq} (h : q.k = 3) : dqA m q = ((zcA m q.g).1, ⟨(zcA m q.g).2, 0, []⟩) := by
  unfold dqA
  rw [if_neg (by omega), if_neg (by omega), if_pos h]
theorem dq_4 {m : Img} {q : Rq} (h : q.k = 4) : dqA m q = ((rsA' m q.g).1, ⟨(rsA' m q.g).2, 0, []⟩) := by
  unfold dqA
  rw [if_neg (by omega), if_neg (by omega), if_neg (by omega), if_pos h]
theorem dq_5 {m : Img} {q : Rq} (h : q.k = 5) : dqA m q = ((scA m q.n).1, ⟨(scA m q.n).2, 0, []⟩) := by
  unfold dqA
  rw [if_neg (by omega), if_neg (by omega), if_neg (by omega), if_neg (by omega), if_pos h]
theorem dq_6 {m : Img} {q : Rq} (h : q.k = 6) : dqA m q = ((sdA m q.n).1, ⟨(sdA m q.n).2, 0, []⟩) := by
  unfold dqA
  rw [if_neg (by omega), if_neg (by omega), if_neg (by omega), if_neg (by omega), if_neg (by omega), if_pos h]
theorem dq_7 {m : Img} {q : Rq} (h : q.k = 7) : dqA m q = ((srA m q.n).1, ⟨(srA m q.n).2, 0, []⟩) := by
  unfold dqA
  rw [if_neg (by omega), if_neg (by omega), if_neg (by omega), if_neg (by omega), if_neg (by omega), if_neg (by omega), if_pos h]
theorem dq_8 {m : Img} {q : Rq} (h : ¬ q.k = 1 ∧ ¬ q.k = 2 ∧ ¬ q.k = 3 ∧ ¬ q.k = 4 ∧ ¬ q.k = 5 ∧ ¬ q.k = 6 ∧ ¬ q.k = 7) : dqA m q = (m, ⟨(snA m).2, m.table.length, (snA m).1⟩) := by
  unfold dqA
  rw [if_neg (by omega), if_neg (by omega), if_neg (by omega), if_neg (by omega), if_neg (by omega), if_neg (by omega), if_neg (by omega)]
theorem AnsD.of {w w' : World} {v u : Value} {M : Img} {r : Rp} {a : Im4} {ts : List Value} {no : Option Addr} {nc : Nat} (hv : v = imV a M) (hu : u = rpV r no nc) (ho : OwnIm w' w.heap.size a M ts) (hn : OwnNs w' w.heap.size no nc r.ns) (hb : Below w.heap.size w w') : AnsD w w' (.returned (.tuple #[v, u])) M r := ⟨a, ts, no, nc, by rw [hv, hu], ho, hn, hb⟩

set_option maxHeartbeats 12800000 in
theorem doOnImage_any (a : Im4) (m : Img) (q : Rq) (w : World) (hi : ImR m) (hz : q.n.size ≤ 65536) (hs : ImS w a m) :
    Calls Tryz.prog 26 #[imV a m, usV q] w fun e w' => AnsD w w' e (dqA m q).1 (dqA m q).2 := by
  have HE0 := hide (DoE.new w a m hs)
  have HM := hide hi
  have HL := hi.M.L
  have HSZ : Hid ((((w.alloc (.cells #[.slice a.ro m.refs.length a.rc, .slice a.tq m.table.length a.tc, .slice a.so m.snaps.length a.sc, .slice a.dq m.data.length a.dc] 32)).alloc (.cells #[.slice none 0 0, .slice none 0 0, .slice none 0 0, .slice none 0 0] 32)).alloc (.cells #[.int .i64 0, .int .i64 0, .slice none 0 0] 35)).heap.size = w.heap.size + 3) := hide (by rw [World.size_alloc, World.size_alloc, World.size_alloc])
  obtain ⟨R, HR⟩ : ∃ R, Hid (R = dqA m q) := ⟨_, hide rfl⟩
  rw [← unhide HR]
  clear hi hs
  rcases rq_8 q with h | h | h | h | h | h | h | h
  · have HX := hide ((unhide HR).trans (dq_1 h))
    rw [us_1 h]
    clear HR h
    have a1 := as_1_1
    go_enter Tryz.func26, Tryz.ntmps26
    go_upto_region 1 with fail
    revert HSZ
    revert HE0
    generalize (((w.alloc _).alloc _).alloc _) = W0
    intro HE0 HSZ
    have HA1 := hide (Joins.below_alloc1 W0 (.cells #[.int .i64 q.g] 77))
    have HE1 := hide ((unhide HE0).below (unhide HA1))
    have HC0 : Hid ((W0.alloc (.cells #[.int .i64 q.g] 77)).cell? ⟨W0.heap.size, 0, none⟩ = some (.int .i64 q.g)) := hide (by simp)
    go_upto_region 4 with fail
    revert HC0
    revert HE1
    revert HA1
    generalize (W0.alloc _) = W1
    intro HA1 HE1 HC0
    have k0 := unhide HC0
    have HSZ1 : Hid (w.heap.size + 3 ≤ W1.heap.size) := hide (by have := (unhide HA1).size; have := unhide HSZ; omega)
    obtain ⟨c0, c1, c2, c3⟩ := (unhide HE1).v.cells
    go_wp2_with fail
    refine (readCluster_impl a m q.g _ HL (unhide HE1).s).mono ?_
    rintro e w2 ⟨rfl, hb⟩
    have HE2 := hide ((unhide HE1).below hb)
    have HSZ2 : Hid (w.heap.size + 3 ≤ w2.heap.size) := hide (Nat.le_trans (unhide HSZ1) hb.size)
    clear hb c0 c1 c2 c3 HE1
    obtain ⟨c0, c1, c2, c3⟩ := (unhide HE2).v.cells
    go_wp2_with fail
    have HMM := hide (unhide HM).M
    refine (copyImage_full a m _ ⟨by rw [(unhide HMM).r]; omega, by have := (unhide HMM).t; omega, by rw [(unhide HMM).d]; omega⟩ (fun s hs => by have := ((unhide HMM).st s hs).1; omega) (by have := (unhide HMM).s; omega) (unhide HE2).s).mono ?_
    rintro e w3 ⟨a1, ts1, rfl, ⟨ho, _⟩, hb⟩
    have HE3 := hide ((unhide HE2).below hb)
    have HP := hide ((unhide HE3).d.put (no := none) (nc := 0) (ns := []) ho (OwnNs.none _ _ _) (unhide HSZ2) (.int .i64 (rcA m q.g).2) (.int .i64 (rcA m q.g).1) (.slice none 0 0))
    unfold putD putY putI at HP
    clear ho hb c0 c1 c2 c3 HE2
    obtain ⟨r0, r1, r2, r3⟩ := (unhide HE3).d.r.cells
    obtain ⟨z0, z1, z2, z3⟩ := (unhide HE3).d.r.free
    obtain ⟨p0, p1, p2⟩ := (unhide HE3).d.p.cells
    obtain ⟨f0, f1, f2⟩ := (unhide HE3).d.p.free
    go_wp2
    refine bodyPost_ret (res_ir Tryz.results26 rfl rfl (unhide HP).1 (unhide HP).2.1) rfl ?_
    rw [unhide HX]
    exact AnsD.of rfl rfl ((unhide HP).2.2.1.base (by have := unhide HSZ2; omega)) ((unhide HP).2.2.2.1.base (by have := unhide HSZ2; omega)) (unhide HP).2.2.2.2
  · have HX := hide ((unhide HR).trans (dq_2 h))
    rw [us_2 h]
    clear HR h
    have a1 := as_2_1
    have a2 := as_2_2
    go_enter Tryz.func26, Tryz.ntmps26
    go_upto_region 1 with fail
    revert HSZ
    revert HE0
    generalize (((w.alloc _).alloc _).alloc _) = W0
    intro HE0 HSZ
    have HA1 := hide (Joins.below_alloc1 W0 (.cells #[.int .i64 q.g, .int .i64 q.v] 81))
    have HE1 := hide ((unhide HE0).below (unhide HA1))
    have HC0 : Hid ((W0.alloc (.cells #[.int .i64 q.g, .int .i64 q.v] 81)).cell? ⟨W0.heap.size, 0, none⟩ = some (.int .i64 q.g)) := hide (by simp)
    have HC1 : Hid ((W0.alloc (.cells #[.int .i64 q.g, .int .i64 q.v] 81)).cell? ⟨W0.heap.size, 1, none⟩ = some (.int .i64 q.v)) := hide (by simp)
    go_upto_region 8 with fail
    revert HC0
    revert HC1
    revert HE1
    revert HA1
    generalize (W0.alloc _) = W1
    intro HA1 HE1 HC1 HC0
    have k0 := unhide HC0
    have k1 := unhide HC1
    have HSZ1 : Hid (w.heap.size + 3 ≤ W1.heap.size) := hide (by have := (unhide HA1).size; have := unhide HSZ; omega)
    obtain ⟨c0, c1, c2, c3⟩ := (unhide HE1).v.cells
    obtain ⟨X, HXX⟩ : ∃ X, Hid (X = wcA m q.g q.v) := ⟨_, hide rfl⟩
    rw [← unhide HXX] at HX
    go_wp2_with fail
    have kk := writeCluster_impl a m q.g q.v _ HL (unhide HE1).s
    rw [← unhide HXX] at kk
    refine kk.mono ?_
    rintro e w2 ⟨a1, ts1, rfl, ho, hb⟩
    have HE2 := hide ((unhide HE1).below hb)
    have HO2 := hide (ho.base (unhide HSZ1))
    clear kk ho hb c0 c1 c2 c3 HE1 HXX
    go_wp2_with fail
    refine (changedOrNot_any a1 X.1 X.2 _).mono ?_
    rintro e w3 ⟨rfl, hb⟩
    have HE3 := hide ((unhide HE2).below hb)
    have HP := hide ((unhide HE3).d.put (no := none) (nc := 0) (ns := []) ((unhide HO2).below hb) (OwnNs.none _ _ _) (Nat.le_refl _) (.int .i64 X.2) (.int .i64 0) (.slice none 0 0))
    unfold putD putY putI at HP
    clear hb HE2 HO2
    obtain ⟨r0, r1, r2, r3⟩ := (unhide HE3).d.r.cells
    obtain ⟨z0, z1, z2, z3⟩ := (unhide HE3).d.r.free
    obtain ⟨p0, p1, p2⟩ := (unhide HE3).d.p.cells
    obtain ⟨f0, f1, f2⟩ := (unhide HE3).d.p.free
    go_wp2
    refine bodyPost_ret (res_ir Tryz.results26 rfl rfl (unhide HP).1 (unhide HP).2.1) rfl ?_
    rw [unhide HX]
    exact AnsD.of rfl rfl ((unhide HP).2.2.1.base (by omega)) ((unhide HP).2.2.2.1.base (by omega)) (unhide HP).2.2.2.2
  · have HX := hide ((unhide HR).trans (dq_3 h))
    rw [us_3 h]
    clear HR h
    have a1 := as_3_1
    have a2 := as_3_2
    have a3 := as_3_3
    go_enter Tryz.func26, Tryz.ntmps26
    go_upto_region 1 with fail
    revert HSZ
    revert HE0
    generalize (((w.alloc _).alloc _).alloc _) = W0
    intro HE0 HSZ
    have HA1 := hide (Joins.below_alloc1 W0 (.cells #[.int .i64 q.g] 83))
    have HE1 := hide ((unhide HE0).below (unhide HA1))
    have HC0 : Hid ((W0.alloc (.cells #[.int .i64 q.g] 83)).cell? ⟨W0.heap.size, 0, none⟩ = some (.int .i64 q.g)) := hide (by simp)
    go_upto_region 11 with fail
    revert HC0
    revert HE1
    revert HA1
    generalize (W0.alloc _) = W1
    intro HA1 HE1 HC0
    have k0 := unhide HC0
    have HSZ1 : Hid (w.heap.size + 3 ≤ W1.heap.size) := hide (by have := (unhide HA1).size; have := unhide HSZ; omega)
    obtain ⟨c0, c1, c2, c3⟩ := (unhide HE1).v.cells
    obtain ⟨X, HXX⟩ : ∃ X, Hid (X = zcA m q.g) := ⟨_, hide rfl⟩
    rw [← unhide HXX] at HX
    go_wp2_with fail
    have kk := zeroCluster_impl a m q.g _ HL (unhide HE1).s
    rw [← unhide HXX] at kk
    refine kk.mono ?_
    rintro e w2 ⟨a1, ts1, rfl, ho, hb⟩
    have HE2 := hide ((unhide HE1).below hb)
    have HO2 := hide (ho.base (unhide HSZ1))
    clear kk ho hb c0 c1 c2 c3 HE1 HXX
    go_wp2_with fail
    refine (changedOrNot_any a1 X.1 X.2 _).mono ?_
    rintro e w3 ⟨rfl, hb⟩
    have HE3 := hide ((unhide HE2).below hb)
    have HP := hide ((unhide HE3).d.put (no := none) (nc := 0) (ns := []) ((unhide HO2).below hb) (OwnNs.none _ _ _) (Nat.le_refl _) (.int .i64 X.2) (.int .i64 0) (.slice none 0 0))
    unfold putD putY putI at HP
    clear hb HE2 HO2
    obtain ⟨r0, r1, r2, r3⟩ := (unhide HE3).d.r.cells
    obtain ⟨z0, z1, z2, z3⟩ := (unhide HE3).d.r.free
    obtain ⟨p0, p1, p2⟩ := (unhide HE3).d.p.cells
    obtain ⟨f0, f1, f2⟩ := (unhide HE3).d.p.free
    go_wp2
    refine bodyPost_ret (res_ir Tryz.results26 rfl rfl (unhide HP).1 (unhide HP).2.1) rfl ?_
    rw [unhide HX]
    exact AnsD.of rfl rfl ((unhide HP).2.2.1.base (by omega)) ((unhide HP).2.2.2.1.base (by omega)) (unhide HP).2.2.2.2
  · have HX := hide ((unhide HR).trans (dq_4 h))
    rw [us_4 h]
    clear HR h
    have a1 := as_4_1
    have a2 := as_4_2
    have a3 := as_4_3
    have a4 := as_4_4
    go_enter Tryz.func26, Tryz.ntmps26
    go_upto_region 1 with fail
    revert HSZ
    revert HE0
    generalize (((w.alloc _).alloc _).alloc _) = W0
    intro HE0 HSZ
    have HA1 := hide (Joins.below_alloc1 W0 (.cells #[.int .i64 q.g] 85))
    have HE1 := hide ((unhide HE0).below (unhide HA1))
    have HC0 : Hid ((W0.alloc (.cells #[.int .i64 q.g] 85)).cell? ⟨W0.heap.size, 0, none⟩ = some (.int .i64 q.g)) := hide (by simp)
    go_upto_region 14 with fail
    revert HC0
    revert HE1
    revert HA1
    generalize (W0.alloc _) = W1
    intro HA1 HE1 HC0
    have k0 := unhide HC0
    have HSZ1 : Hid (w.heap.size + 3 ≤ W1.heap.size) := hide (by have := (unhide HA1).size; have := unhide HSZ; omega)
    obtain ⟨c0, c1, c2, c3⟩ := (unhide HE1).v.cells
    obtain ⟨X, HXX⟩ : ∃ X, Hid (X = rsA' m q.g) := ⟨_, hide rfl⟩
    rw [← unhide HXX] at HX
    go_wp2_with fail
    have kk := resizeImage_impl a m q.g _ HL (unhide HE1).s
    rw [← unhide HXX] at kk
    refine kk.mono ?_
    rintro e w2 ⟨a1, ts1, rfl, ho, hb⟩
    have HE2 := hide ((unhide HE1).below hb)
    have HO2 := hide (ho.base (unhide HSZ1))
    clear kk ho hb c0 c1 c2 c3 HE1 HXX
    go_wp2_with fail
    refine (changedOrNot_any a1 X.1 X.2 _).mono ?_
    rintro e w3 ⟨rfl, hb⟩
    have HE3 := hide ((unhide HE2).below hb)
    have HP := hide ((unhide HE3).d.put (no := none) (nc := 0) (ns := []) ((unhide HO2).below hb) (OwnNs.none _ _ _) (Nat.le_refl _) (.int .i64 X.2) (.int .i64 0) (.slice none 0 0))
    unfold putD putY putI at HP
    clear hb HE2 HO2
    obtain ⟨r0, r1, r2, r3⟩ := (unhide HE3).d.r.cells
    obtain ⟨z0, z1, z2, z3⟩ := (unhide HE3).d.r.free
    obtain ⟨p0, p1, p2⟩ := (unhide HE3).d.p.cells
    obtain ⟨f0, f1, f2⟩ := (unhide HE3).d.p.free
    go_wp2
    refine bodyPost_ret (res_ir Tryz.results26 rfl rfl (unhide HP).1 (unhide HP).2.1) rfl ?_
    rw [unhide HX]
    exact AnsD.of rfl rfl ((unhide HP).2.2.1.base (by omega)) ((unhide HP).2.2.2.1.base (by omega)) (unhide HP).2.2.2.2
  · have HX := hide ((unhide HR).trans (dq_5 h))
    rw [us_5 h]
    clear HR h
    have a1 := as_5_1
    have a2 := as_5_2
    have a3 := as_5_3
    have a4 := as_5_4
    have a5 := as_5_5
    go_enter Tryz.func26, Tryz.ntmps26
    go_upto_region 1 with fail
    revert HSZ
    revert HE0
    generalize (((w.alloc _).alloc _).alloc _) = W0
    intro HE0 HSZ
    have HA1 := hide (Joins.below_alloc1 W0 (.cells #[.string q.n] 87))
    have HE1 := hide ((unhide HE0).below (unhide HA1))
    have HC0 : Hid ((W0.alloc (.cells #[.string q.n] 87)).cell? ⟨W0.heap.size, 0, none⟩ = some (.string q.n)) := hide (by simp)
    go_upto_region 17 with fail
    revert HC0
    revert HE1
    revert HA1
    generalize (W0.alloc _) = W1
    intro HA1 HE1 HC0
    have k0 := unhide HC0
    have HSZ1 : Hid (w.heap.size + 3 ≤ W1.heap.size) := hide (by have := (unhide HA1).size; have := unhide HSZ; omega)
    obtain ⟨c0, c1, c2, c3⟩ := (unhide HE1).v.cells
    obtain ⟨X, HXX⟩ : ∃ X, Hid (X = scA m q.n) := ⟨_, hide rfl⟩
    rw [← unhide HXX] at HX
    go_wp2_with fail
    have kk := snapCreate_impl a m q.n _ hz HL (unhide HE1).s
    rw [← unhide HXX] at kk
    refine kk.mono ?_
    rintro e w2 ⟨a1, ts1, rfl, ho, hb⟩
    have HE2 := hide ((unhide HE1).below hb)
    have HO2 := hide (ho.base (unhide HSZ1))
    clear kk ho hb c0 c1 c2 c3 HE1 HXX
    go_wp2_with fail
    refine (changedOrNot_any a1 X.1 X.2 _).mono ?_
    rintro e w3 ⟨rfl, hb⟩
    have HE3 := hide ((unhide HE2).below hb)
    have HP := hide ((unhide HE3).d.put (no := none) (nc := 0) (ns := []) ((unhide HO2).below hb) (OwnNs.none _ _ _) (Nat.le_refl _) (.int .i64 X.2) (.int .i64 0) (.slice none 0 0))
    unfold putD putY putI at HP
    clear hb HE2 HO2
    obtain ⟨r0, r1, r2, r3⟩ := (unhide HE3).d.r.cells
    obtain ⟨z0, z1, z2, z3⟩ := (unhide HE3).d.r.free
    obtain ⟨p0, p1, p2⟩ := (unhide HE3).d.p.cells
    obtain ⟨f0, f1, f2⟩ := (unhide HE3).d.p.free
    go_wp2
    refine bodyPost_ret (res_ir Tryz.results26 rfl rfl (unhide HP).1 (unhide HP).2.1) rfl ?_
    rw [unhide HX]
    exact AnsD.of rfl rfl ((unhide HP).2.2.1.base (by omega)) ((unhide HP).2.2.2.1.base (by omega)) (unhide HP).2.2.2.2
  · have HX := hide ((unhide HR).trans (dq_6 h))
    rw [us_6 h]
    clear HR h
    have a1 := as_6_1
    have a2 := as_6_2
    have a3 := as_6_3
    have a4 := as_6_4
    have a5 := as_6_5
    have a6 := as_6_6
    go_enter Tryz.func26, Tryz.ntmps26
    go_upto_region 1 with fail
    revert HSZ
    revert HE0
    generalize (((w.alloc _).alloc _).alloc _) = W0
    intro HE0 HSZ
    have HA1 := hide (Joins.below_alloc1 W0 (.cells #[.string q.n] 88))
    have HE1 := hide ((unhide HE0).below (unhide HA1))
    have HC0 : Hid ((W0.alloc (.cells #[.string q.n] 88)).cell? ⟨W0.heap.size, 0, none⟩ = some (.string q.n)) := hide (by simp)
    go_upto_region 20 with fail
    revert HC0
    revert HE1
    revert HA1
    generalize (W0.alloc _) = W1
    intro HA1 HE1 HC0
    have k0 := unhide HC0
    have HSZ1 : Hid (w.heap.size + 3 ≤ W1.heap.size) := hide (by have := (unhide HA1).size; have := unhide HSZ; omega)
    obtain ⟨c0, c1, c2, c3⟩ := (unhide HE1).v.cells
    obtain ⟨X, HXX⟩ : ∃ X, Hid (X = sdA m q.n) := ⟨_, hide rfl⟩
    rw [← unhide HXX] at HX
    go_wp2_with fail
    have kk := snapDelete_impl a m q.n _ hz HL (unhide HE1).s
    rw [← unhide HXX] at kk
    refine kk.mono ?_
    rintro e w2 ⟨a1, ts1, rfl, ho, hb⟩
    have HE2 := hide ((unhide HE1).below hb)
    have HO2 := hide (ho.base (unhide HSZ1))
    clear kk ho hb c0 c1 c2 c3 HE1 HXX
    go_wp2_with fail
    refine (changedOrNot_any a1 X.1 X.2 _).mono ?_
    rintro e w3 ⟨rfl, hb⟩
    have HE3 := hide ((unhide HE2).below hb)
    have HP := hide ((unhide HE3).d.put (no := none) (nc := 0) (ns := []) ((unhide HO2).below hb) (OwnNs.none _ _ _) (Nat.le_refl _) (.int .i64 X.2) (.int .i64 0) (.slice none 0 0))
    unfold putD putY putI at HP
    clear hb HE2 HO2
    obtain ⟨r0, r1, r2, r3⟩ := (unhide HE3).d.r.cells
    obtain ⟨z0, z1, z2, z3⟩ := (unhide HE3).d.r.free
    obtain ⟨p0, p1, p2⟩ := (unhide HE3).d.p.cells
    obtain ⟨f0, f1, f2⟩ := (unhide HE3).d.p.free
    go_wp2
    refine bodyPost_ret (res_ir Tryz.results26 rfl rfl (unhide HP).1 (unhide HP).2.1) rfl ?_
    rw [unhide HX]
    exact AnsD.of rfl rfl ((unhide HP).2.2.1.base (by omega)) ((unhide HP).2.2.2.1.base (by omega)) (unhide HP).2.2.2.2
  · have HX := hide ((unhide HR).trans (dq_7 h))
    rw [us_7 h]
    clear HR h
    have a1 := as_7_1
    have a2 := as_7_2
    have a3 := as_7_3
    have a4 := as_7_4
    have a5 := as_7_5
    have a6 := as_7_6
    have a7 := as_7_7
    go_enter Tryz.func26, Tryz.ntmps26
    go_upto_region 1 with fail
    revert HSZ
    revert HE0
    generalize (((w.alloc _).alloc _).alloc _) = W0
    intro HE0 HSZ
    have HA1 := hide (Joins.below_alloc1 W0 (.cells #[.string q.n] 89))
    have HE1 := hide ((unhide HE0).below (unhide HA1))
    have HC0 : Hid ((W0.alloc (.cells #[.string q.n] 89)).cell? ⟨W0.heap.size, 0, none⟩ = some (.string q.n)) := hide (by simp)
    go_upto_region 23 with fail
    revert HC0
    revert HE1
    revert HA1
    generalize (W0.alloc _) = W1
    intro HA1 HE1 HC0
    have k0 := unhide HC0
    have HSZ1 : Hid (w.heap.size + 3 ≤ W1.heap.size) := hide (by have := (unhide HA1).size; have := unhide HSZ; omega)
    obtain ⟨c0, c1, c2, c3⟩ := (unhide HE1).v.cells
    obtain ⟨X, HXX⟩ : ∃ X, Hid (X = srA m q.n) := ⟨_, hide rfl⟩
    rw [← unhide HXX] at HX
    go_wp2_with fail
    have kk := snapRevert_impl a m q.n _ hz HL (unhide HE1).s
    rw [← unhide HXX] at kk
    refine kk.mono ?_
    rintro e w2 ⟨a1, ts1, rfl, ho, hb⟩
    have HE2 := hide ((unhide HE1).below hb)
    have HO2 := hide (ho.base (unhide HSZ1))
    clear kk ho hb c0 c1 c2 c3 HE1 HXX
    go_wp2_with fail
    refine (changedOrNot_any a1 X.1 X.2 _).mono ?_
    rintro e w3 ⟨rfl, hb⟩
    have HE3 := hide ((unhide HE2).below hb)
    have HP := hide ((unhide HE3).d.put (no := none) (nc := 0) (ns := []) ((unhide HO2).below hb) (OwnNs.none _ _ _) (Nat.le_refl _) (.int .i64 X.2) (.int .i64 0) (.slice none 0 0))
    unfold putD putY putI at HP
    clear hb HE2 HO2
    obtain ⟨r0, r1, r2, r3⟩ := (unhide HE3).d.r.cells
    obtain ⟨z0, z1, z2, z3⟩ := (unhide HE3).d.r.free
    obtain ⟨p0, p1, p2⟩ := (unhide HE3).d.p.cells
    obtain ⟨f0, f1, f2⟩ := (unhide HE3).d.p.free
    go_wp2
    refine bodyPost_ret (res_ir Tryz.results26 rfl rfl (unhide HP).1 (unhide HP).2.1) rfl ?_
    rw [unhide HX]
    exact AnsD.of rfl rfl ((unhide HP).2.2.1.base (by omega)) ((unhide HP).2.2.2.1.base (by omega)) (unhide HP).2.2.2.2
  · have HX := hide ((unhide HR).trans (dq_8 h))
    rw [us_8 h]
    clear HR h
    have a1 := as_8_1
    have a2 := as_8_2
    have a3 := as_8_3
    have a4 := as_8_4
    have a5 := as_8_5
    have a6 := as_8_6
    have a7 := as_8_7
    go_enter Tryz.func26, Tryz.ntmps26
    go_upto_region 1 with fail
    revert HSZ
    revert HE0
    generalize (((w.alloc _).alloc _).alloc _) = W0
    intro HE0 HSZ
    obtain ⟨c0, c1, c2, c3⟩ := (unhide HE0).v.cells
    obtain ⟨X, HXX⟩ : ∃ X, Hid (X = snA m) := ⟨_, hide rfl⟩
    rw [← unhide HXX] at HX
    go_wp2_with fail
    have kk := snapNames_impl a m _ HL (unhide HE0).s
    rw [← unhide HXX] at kk
    refine kk.mono ?_
    rintro e w2 ⟨qo, qa, rfl, hon, hb⟩
    have HE2 := hide ((unhide HE0).below hb)
    have HN2 : Hid (OwnNs w2 (w.heap.size + 3) qo qa X.1) := hide (hon.base (by have := unhide HSZ; omega))
    have HSZ2 : Hid (w.heap.size + 3 ≤ w2.heap.size) := hide (by have := unhide HSZ; have := hb.size; omega)
    clear kk hon hb c0 c1 c2 c3 HE0 HXX
    go_upto_region 25 with fail
    have HB0 : Hid (Below w2.heap.size w2 w2.drew) := hide (Below.refl _ _).drew
    have hS0 : VarM w2.drew w.heap.size 32 (.slice a.ro m.refs.length a.rc) (.slice a.tq m.table.length a.tc) (.slice a.so m.snaps.length a.sc) (.slice a.dq m.data.length a.dc) := (unhide HE2).v.below (unhide HB0)
    refine wp_region_ord (fun w' => VarM w' w.heap.size 32 (.slice a.ro m.refs.length a.rc) (.slice a.tq m.table.length a.tc) (.slice a.so m.snaps.length a.sc) (.slice a.dq m.data.length a.dc)) [0, 1, 2, 3, 4, 5, 6, 7, 8] [(0, 0), (3, 0), (4, 0), (5, 0), (2, 0), (6, 0), (7, 0), (1, 2), (8, 2), (9, 3)] (by kernel_rfl) (by kernel_rfl) rfl (by kernel_rfl) ?_
    refine ord_read (imV a m) rfl rfl hS0 (fun W hW => by obtain ⟨k0, k1, k2, k3⟩ := hW.cells; go_simp) ?_
    refine ord_read (.pointer (some ⟨w.heap.size, 1, none⟩)) rfl rfl hS0 (fun W hW => by go_simp) ?_
    refine ord_read (.slice a.tq m.table.length a.tc) rfl rfl hS0 (fun W hW => by obtain ⟨k0, k1, k2, k3⟩ := hW.cells; go_simp) ?_
    refine ord_read (.int .i64 m.table.length) rfl rfl hS0 (fun W hW => by go_simp) ?_
    refine ord_read (.int .i64 X.2) rfl rfl hS0 (fun W hW => by go_simp) ?_
    refine ord_read (.slice qo X.1.length qa) rfl rfl hS0 (fun W hW => by go_simp) ?_
    refine ord_read (.agg #[.int .i64 X.2, .int .i64 m.table.length, .slice qo X.1.length qa]) rfl rfl hS0 (fun W hW => by go_simp) ?_
    refine ord_held rfl rfl ?_
    intro K hK
    unfold Oper.wp
    go_simp
    have HMM := hide (unhide HM).M
    refine (copyImage_full a m _ ⟨by rw [(unhide HMM).r]; omega, by have := (unhide HMM).t; omega, by rw [(unhide HMM).d]; omega⟩ (fun s hs => by have := ((unhide HMM).st s hs).1; omega) (by have := (unhide HMM).s; omega) ((unhide HE2).s.below (unhide HB0))).mono ?_
    rintro e w3 ⟨a1, ts1, rfl, ⟨ho, _⟩, hb⟩
    have HE3 := hide ((unhide HE2).below (fr (unhide HB0) hb))
    have HO3 := hide (ho.base (B' := w.heap.size + 3) (unhide HSZ2))
    have HN3 := hide ((unhide HN2).below (fr (unhide HB0) hb))
    have HP := hide ((unhide HE3).d.put (unhide HO3) (unhide HN3) (Nat.le_refl _) (.int .i64 X.2) (.int .i64 m.table.length) (.slice qo X.1.length qa))
    unfold putD putY putI at HP
    refine hK _ _ (unhide HE3).v ?_
    clear hK K ho hb HE2 HB0 hS0 HN2
    obtain ⟨r0, r1, r2, r3⟩ := (unhide HE3).d.r.cells
    obtain ⟨z0, z1, z2, z3⟩ := (unhide HE3).d.r.free
    obtain ⟨p0, p1, p2⟩ := (unhide HE3).d.p.cells
    obtain ⟨f0, f1, f2⟩ := (unhide HE3).d.p.free
    refine ord_held rfl rfl ?_
    intro K hK
    unfold Oper.wp
    go_simp
    refine hK _ _ ((((unhide HE3).v.other (p := ⟨w.heap.size + 1, 0, none⟩) (by simp) _).other (p := ⟨w.heap.size + 1, 1, none⟩) (by simp) _).other (p := ⟨w.heap.size + 1, 2, none⟩) (by simp) _ |>.other (p := ⟨w.heap.size + 1, 3, none⟩) (by simp) _) ?_
    clear hK K
    refine ord_alone rfl rfl ?_
    intro K hK
    unfold Oper.wp
    go_simp
    refine hK _ _ ?_
    clear hK K r0 r1 r2 r3 z0 z1 z2 z3 p0 p1 p2 f0 f1 f2
    refine ord_done ?_
    go_wp2
    refine bodyPost_ret (res_ir Tryz.results26 rfl rfl (unhide HP).1 (unhide HP).2.1) rfl ?_
    rw [unhide HX]
    exact AnsD.of rfl rfl ((unhide HP).2.2.1.base (by omega)) ((unhide HP).2.2.2.1.base (by omega)) (unhide HP).2.2.2.2

end Go.Proofs.YtkaiglhljpehpacGreat
