import Derived.Test.YtdfinapjgffjiaaRows
import Derived.Test.YtdfinapjgffjiaaPart1
import Derived.Test.YtdfinapjgffjiaaPart2
import Derived.Test.YtdfinapjgffjiaaPart3
import Derived.Test.YtdfinapjgffjiaaPart4
import Derived.WalkKit
import Derived.WalkSpells
import Derived.KernelRfl
import Derived.Lib.SmallJoins
import Derived.Laws.CopyRow
import Derived.Laws.CopyOwn
import Derived.BigQuiet
import Derived.Deep.QuietTactic
import Derived.Deep.RegionWith
import Derived.Deep.RegionHeld3
import Derived.Deep.CutRange
import Derived.Deep.RegionLawGrows

/- Contracts of the program's ballotOK, PxOK, PxStart. -/
namespace Go.Proofs.Ytdfinapjgffjiaa
open Go.RowKit
set_option linter.unusedVariables false
set_option maxRecDepth 100000

set_option maxHeartbeats 3200000 in
theorem ballotOK_any (b h : Int) (w : World) : Calls Try.prog 33 #[.int .i64 b, .int .i64 h] w fun e w' => e = .returned (.bool (baB b h)) ∧ w' = w := by
  go_enter Try.func33, Try.ntmps33
  go_wp2_with fail
  refine (within_in b 1 1000000 _).mono ?_
  rintro e w1 ⟨rfl, rfl⟩
  by_cases h1 : inB b 1 1000000 = false
  · have hr : Hid (baB b h = false) := hide (by simp [baB, h1])
    go_wp2
    go_ret
    rw [unhide hr]
    exact ⟨rfl, rfl⟩
  rw [Bool.not_eq_false] at h1
  have hm := ball_mod h1
  have hr : Hid (baB b h = decide (b % 4 = h)) := hide (by simp [baB, h1])
  go_wp2
  go_ret
  rw [unhide hr]
  exact ⟨ret_bool (by rw [Bool.eq_iff_iff]; simp), rfl⟩

set_option maxHeartbeats 3200000 in
theorem pxOK_impl (p : Pxs) (w : World) : Calls Try.prog 12 #[pV p] w fun e w' => e = .returned (.bool (pxB p)) ∧ Below w.heap.size w w' := by
  go_enter Try.func12, Try.ntmps12
  go_wp2_with fail
  refine (hostOK_any p.host _).mono ?_
  rintro e w1 ⟨rfl, rfl⟩
  by_cases h1 : inB p.host 0 3 = false
  · have hr := hide (pxB_1 h1)
    go_wp2
    go_ret
    rw [unhide hr]
    exact ⟨rfl, Joins.below_alloc1 _ _⟩
  rw [Bool.not_eq_false] at h1
  go_wp2_with fail
  refine (verOK_any p.ver _).mono ?_
  rintro e w1 ⟨rfl, rfl⟩
  by_cases h2 : inB p.ver 0 1000000 = false
  · have hr := hide (pxB_2 h2)
    go_wp2
    go_ret
    rw [unhide hr]
    exact ⟨rfl, Joins.below_alloc1 _ _⟩
  rw [Bool.not_eq_false] at h2
  go_wp2_with fail
  refine (within_in p.phase 1 6 _).mono ?_
  rintro e w1 ⟨rfl, rfl⟩
  by_cases h3 : inB p.phase 1 6 = false
  · have hr := hide (pxB_3 h3)
    go_wp2
    go_ret
    rw [unhide hr]
    exact ⟨rfl, Joins.below_alloc1 _ _⟩
  rw [Bool.not_eq_false] at h3
  go_wp2_with fail
  refine (ballotOK_any p.ballot p.host _).mono ?_
  rintro e w1 ⟨rfl, rfl⟩
  by_cases h4 : baB p.ballot p.host = false
  · have hr := hide (pxB_ba h4)
    go_wp2
    go_ret
    rw [unhide hr]
    exact ⟨rfl, Joins.below_alloc1 _ _⟩
  rw [Bool.not_eq_false] at h4
  go_wp2_with fail
  refine (isNumber_any p.value _).mono ?_
  rintro e w1 ⟨rfl, rfl⟩
  by_cases h6 : numB p.value = false
  · have hr := hide (pxB_6 h6)
    go_wp2
    go_ret
    rw [unhide hr]
    exact ⟨rfl, Joins.below_alloc1 _ _⟩
  rw [Bool.not_eq_false] at h6
  go_wp2_with fail
  refine (within_in p.next 0 4 _).mono ?_
  rintro e w1 ⟨rfl, rfl⟩
  by_cases h7 : inB p.next 0 4 = false
  · have hr := hide (pxB_7 h7)
    go_wp2
    go_ret
    rw [unhide hr]
    exact ⟨rfl, Joins.below_alloc1 _ _⟩
  rw [Bool.not_eq_false] at h7
  go_wp2_with fail
  refine (isNumber_any p.best _).mono ?_
  rintro e w1 ⟨rfl, rfl⟩
  by_cases h8 : numB p.best = false
  · have hr := hide (pxB_8 h8)
    go_wp2
    go_ret
    rw [unhide hr]
    exact ⟨rfl, Joins.below_alloc1 _ _⟩
  rw [Bool.not_eq_false] at h8
  have hr := hide (pxB_9b h1 h2 h3 h4 h6 h7 h8)
  go_wp2_with fail
  refine (within_in p.bestBal 0 1000000 _).mono ?_
  rintro e w1 ⟨rfl, rfl⟩
  go_wp2
  go_ret
  rw [unhide hr]
  exact ⟨rfl, Joins.below_alloc1 _ _⟩

set_option maxHeartbeats 3200000 in
theorem pxStart_impl (h v b x : Int) (w : World) : Calls Try.prog 14 #[.int .i64 h, .int .i64 v, .int .i64 b, .int .i64 x] w fun e w' => e = .returned (.tuple #[pV (psP h v b x), .int .i64 (psC h v b x)]) ∧ Below w.heap.size w w' := by
  have HV := hide (VarP.new0 w 24)
  have HV2 : Hid (VarP ((w.alloc (.cells #[.int .i64 0, .int .i64 0, .int .i64 0, .int .i64 0, .int .i64 0, .int .i64 0, .int .i64 0, .int .i64 0] 24)).alloc (.cells #[.int .i64 h, .int .i64 v, .int .i64 1, .int .i64 b, .int .i64 x, .int .i64 0, .int .i64 0, .int .i64 0] 24)) (w.heap.size + 1) 24 (ps0 h v b x)) := hide (by
    have := VarP.new (w.alloc (.cells #[.int .i64 0, .int .i64 0, .int .i64 0, .int .i64 0, .int .i64 0, .int .i64 0, .int .i64 0, .int .i64 0] 24)) 24 (ps0 h v b x)
    simp only [World.size_alloc] at this
    exact this)
  have HB := hide (Joins.below_alloc2 w (.cells #[.int .i64 0, .int .i64 0, .int .i64 0, .int .i64 0, .int .i64 0, .int .i64 0, .int .i64 0, .int .i64 0] 24) (.cells #[.int .i64 h, .int .i64 v, .int .i64 1, .int .i64 b, .int .i64 x, .int .i64 0, .int .i64 0, .int .i64 0] 24))
  go_enter Try.func14, Try.ntmps14
  go_wp2_with fail
  refine (pxOK_impl (ps0 h v b x) _).mono ?_
  rintro e w1 ⟨rfl, hb⟩
  obtain ⟨c0, c1, c2, c3, c4, c5, c6, c7⟩ := ((unhide HV2).below hb).cells
  obtain ⟨d0, d1, d2, d3, d4, d5, d6, d7⟩ := (((unhide HV).below (Joins.below_alloc1 _ _)).below hb).cells
  obtain ⟨f0, f1, f2, f3, f4, f5, f6, f7⟩ := (((unhide HV).below (Joins.below_alloc1 _ _)).below hb).free
  have HB1 := hide (fun u0 u1 u2 u3 u4 u5 u6 u7 => below8 (fr (unhide HB) hb) (Nat.le_refl _) u0 u1 u2 u3 u4 u5 u6 u7)
  clear hb
  by_cases hd : pxB (ps0 h v b x) = true
  · have HE : Hid (psP h v b x = ps0 h v b x ∧ psC h v b x = 0) := hide ⟨if_pos hd, if_pos hd⟩
    go_wp2
    refine bodyPost_ret (v := .tuple #[pV (ps0 h v b x), .int .i64 0]) (by simp [results, Try.results14, go_sem, d0, d1, d2, d3, d4, d5, d6, d7, ps0]) rfl ⟨?_, unhide HB1 _ _ _ _ _ _ _ _⟩
    exact ret_pi (unhide HE).1.symm (unhide HE).2.symm
  · have HE : Hid (psP h v b x = p00 ∧ psC h v b x = 4) := hide ⟨if_neg hd, if_neg hd⟩
    rw [Bool.not_eq_true] at hd
    go_wp2
    refine bodyPost_ret (v := .tuple #[pV p00, .int .i64 4]) (by simp [results, Try.results14, go_sem, d0, d1, d2, d3, d4, d5, d6, d7, p00]) rfl ⟨?_, unhide HB1 _ _ _ _ _ _ _ _⟩
    exact ret_pi (unhide HE).1.symm (unhide HE).2.symm

end Go.Proofs.Ytdfinapjgffjiaa

/- Contracts of copyList, at texts and at writes: what was there, in new memory. -/
namespace Go.Proofs.Ytdfinapjgffjiaa
open Go.RowKit
set_option linter.unusedVariables false
set_option maxRecDepth 100000

section
variable {P : Program}

/-- 'copy(out, src)', both of n elements of some cells each. -/
theorem run_copy_whole (w : World) (dT sT ty elem : TypeId) (size g n dCap : Nat) (a : Addr) (sCap : Nat) (cur : Array Value) (t : TypeId) (cs : List Value)
    (hu : P.underlying dT = some (.slice elem)) (hs : (P.info? elem).map (·.size) = some size)
    (hg : w.heap[g]? = some (.cells cur t (0, 0))) (hl : n * size = cs.length)
    (hsrc : ∀ j v, cs[j]? = some v → w.cell? (a.add j) = some v) (hfit : cs.length ≤ cur.size) (h1 : ∀ v ∈ cs, v.oneCell' = true) :
    (Builtin.copy_ #[dT, sT] ty #[.slice (some ⟨g, 0, none⟩) n dCap, .slice (some a) n sCap]).run P w = .ok (goInt n) (w.setRow g (cs ++ cur.toList.drop cs.length).toArray) := by
  have hld := run_loadCells_list (P := P) w a cs hsrc
  have hst := run_storeCells_at P g 0 t cs 0 cur w hg (by simpa using hfit) h1
  cases hq : P.info? elem with
  | none => simp [hq] at hs
  | some i =>
    have hi : i.size = size := by simpa [hq] using hs
    simp [Builtin.copy_, run_underlying hu, Builtin.lenOf, Builtin.firstCells, sizeOf, typeInfo, hq, hi, hl, hld, hst]

theorem wpList_copy_whole {w : World} {ops : Array Oper} {rest : List Oper} {o : Oper} {a : Act} {Q : Exit → Act → World → Prop} (hgd : o.guard = none) (d s : Operand) (dT sT : TypeId)
    (ho : o.op = .call { callee := .builtin .copy, args := #[d, s], argTypes := #[dT, sT] }) (elem : TypeId) (size : Nat) (hu : P.underlying dT = some (.slice elem)) (hsz : (P.info? elem).map (·.size) = some size)
    (B g n : Nat) (ad : Addr) (sCap : Nat) (hd : a.eval d = .slice (some ⟨g, 0, none⟩) n n) (hs : a.eval s = .slice (some ad) n sCap)
    (xs : List Value) (hown : w.ownsRow B elem size (.slice (some ⟨g, 0, none⟩) n n) n xs) (cs : List Value) (hn : cs.length = n * size)
    (hsrc : ∀ j v, cs[j]? = some v → w.cell? (ad.add j) = some v) (h1 : ∀ v ∈ cs, v.oneCell' = true)
    (h : ∀ w', w'.ownsRow B elem size (.slice (some ⟨g, 0, none⟩) n n) n cs → w.grownBy w' (some g) → wpList P ops Q rest (a.put o.dst (goInt n)) w') : wpList P ops Q (o :: rest) a w := by
  refine wpList_plain hgd fun K hK => ?_
  rcases hown.2 with ⟨e, _⟩ | ⟨g', cap', cur, e, hB, hg, hnc, hcm, hcs, ht⟩
  · simp at e
  · simp only [Value.slice.injEq, Option.some.injEq, Addr.mk.injEq, and_true, true_and] at e
    obtain ⟨rfl, rfl⟩ := e
    have hrun := run_copy_whole (P := P) w dT sT o.type elem size g n n ad sCap cur elem cs hu hsz hg hn.symm hsrc (by omega) h1
    unfold Oper.wp
    simp [execOp, ho, resolve, invoke, builtin, hd, hs, hrun, Result.andThen]
    refine hK _ _ (h _ ⟨hn, .inr ⟨g, n, _, rfl, hB, setRow_heap w g _ _ elem _ hg, hnc, hcm, ?_, ?_⟩⟩ ⟨rfl, rfl, rfl, by simp, fun k _ hk => setRow_other w g k _ (fun e => hk (by simp [e]))⟩)
    · simp; omega
    · rw [← hn]; simp
end

theorem infoS : (Try.prog.info? 9).map (fun i => (i.zero, i.size, i.bytes)) = some (some (.string ⟨#[]⟩), 1, 16) := by kernel_rfl
theorem sizeS : (Try.prog.info? 9).map (·.size) = some 1 := by kernel_rfl
theorem strV_one (ss : List ByteArray) : ∀ v ∈ strV ss, v.oneCell' = true := by
  intro v hv
  simp only [strV, List.mem_map] at hv
  obtain ⟨s, _, rfl⟩ := hv
  rfl
theorem ioV_one (xs : List Wr) : ∀ v ∈ ioV xs, v.oneCell' = true := by
  intro v hv
  simp only [ioV, List.mem_flatMap] at hv
  obtain ⟨x, _, hv⟩ := hv
  simp at hv
  rcases hv with rfl | rfl | rfl <;> rfl
/-- A slice that is not empty has an address at which its cells lie. -/
theorem Ss.at {w : World} {ao : Option Addr} {ss : List ByteArray} (h : Ss w ao ss) (hp : 0 < ss.length) : ∃ b off, ao = some ⟨b, off, none⟩ ∧ ∀ j v, (strV ss)[j]? = some v → w.cell? (Addr.add ⟨b, off, none⟩ j) = some v := by
  obtain ⟨b, off, rfl, _⟩ := h 0 hp
  refine ⟨b, off, rfl, fun j v hv => ?_⟩
  have hj : j < ss.length := by have := (List.getElem?_eq_some_iff.1 hv).1; rwa [strV_length] at this
  obtain ⟨b', off', e, hc, _⟩ := h j hj
  simp only [Option.some.injEq, Addr.mk.injEq, and_true] at e
  obtain ⟨rfl, rfl⟩ := e
  rw [strV_get hj] at hv
  cases hv
  rw [show Addr.add ⟨b, off, none⟩ j = ⟨b, off + j, none⟩ from by unfold Addr.add; split <;> simp_all]
  exact hc
theorem ioV_at {xs : List Wr} {j : Nat} {v : Value} (h : (ioV xs)[j]? = some v) : ∃ i r, ∃ hi : i < xs.length, j = i * 3 + r ∧ ((r = 0 ∧ v = .int .i64 xs[i].host) ∨ (r = 1 ∧ v = .int .i64 xs[i].at_) ∨ (r = 2 ∧ v = .string xs[i].data)) := by
  have hj : j < xs.length * 3 := by have := (List.getElem?_eq_some_iff.1 h).1; rwa [ioV_length] at this
  have hi : j / 3 < xs.length := by omega
  obtain ⟨g0, g1, g2⟩ := ioV_get hi
  rcases (show j % 3 = 0 ∨ j % 3 = 1 ∨ j % 3 = 2 by omega) with e | e | e
  · rw [show j = j / 3 * 3 by omega, g0] at h; cases h
    exact ⟨j / 3, 0, hi, by omega, .inl ⟨rfl, rfl⟩⟩
  · rw [show j = j / 3 * 3 + 1 by omega, g1] at h; cases h
    exact ⟨j / 3, 1, hi, by omega, .inr (.inl ⟨rfl, rfl⟩)⟩
  · rw [show j = j / 3 * 3 + 2 by omega, g2] at h; cases h
    exact ⟨j / 3, 2, hi, by omega, .inr (.inr ⟨rfl, rfl⟩)⟩
theorem Ios.at {w : World} {ao : Option Addr} {xs : List Wr} (h : Ios w ao xs) (hp : 0 < xs.length) : ∃ b off, ao = some ⟨b, off, none⟩ ∧ ∀ j v, (ioV xs)[j]? = some v → w.cell? (Addr.add ⟨b, off, none⟩ j) = some v := by
  obtain ⟨b, off, rfl, _⟩ := h 0 hp
  refine ⟨b, off, rfl, fun j v hv => ?_⟩
  obtain ⟨i, r, hi, rfl, hr⟩ := ioV_at hv
  obtain ⟨b', off', e, h0, h1, h2, _⟩ := h i hi
  simp only [Option.some.injEq, Addr.mk.injEq, and_true] at e
  obtain ⟨rfl, rfl⟩ := e
  rw [show Addr.add ⟨b, off, none⟩ (i * 3 + r) = ⟨b, off + i * 3 + r, none⟩ from by unfold Addr.add; split <;> simp_all [Nat.add_assoc]]
  rcases hr with ⟨rfl, rfl⟩ | ⟨rfl, rfl⟩ | ⟨rfl, rfl⟩
  · exact h0
  · exact h1
  · exact h2

end Go.Proofs.Ytdfinapjgffjiaa

/- Contracts of spec's PxOK, PxStart. -/
namespace Go.Proofs.Ytdfinapjgffjiaa
open Go.RowKit
set_option linter.unusedVariables false
set_option maxRecDepth 100000

set_option maxHeartbeats 3200000 in
theorem pxOK_spec (p : Pxs) (w : World) : Calls Try.prog 29 #[pV p] w fun e w' => e = .returned (.bool (pxB p)) ∧ Below w.heap.size w w' := by
  go_enter Try.func29, Try.ntmps29
  go_wp2_with fail
  refine (l04Host_px p.host _).mono ?_
  rintro e w1 ⟨rfl, rfl⟩
  by_cases h1 : inB p.host 0 3 = false
  · have hr := hide (pxB_1 h1)
    go_wp2
    go_ret
    rw [unhide hr]
    exact ⟨rfl, Joins.below_alloc1 _ _⟩
  rw [Bool.not_eq_false] at h1
  go_wp2_with fail
  refine (l01In_num p.ver 0 1000000 _).mono ?_
  rintro e w1 ⟨rfl, rfl⟩
  by_cases h2 : inB p.ver 0 1000000 = false
  · have hr := hide (pxB_2 h2)
    go_wp2
    go_ret
    rw [unhide hr]
    exact ⟨rfl, Joins.below_alloc1 _ _⟩
  rw [Bool.not_eq_false] at h2
  go_wp2_with fail
  refine (l01In_num p.phase 1 6 _).mono ?_
  rintro e w1 ⟨rfl, rfl⟩
  by_cases h3 : inB p.phase 1 6 = false
  · have hr := hide (pxB_3 h3)
    go_wp2
    go_ret
    rw [unhide hr]
    exact ⟨rfl, Joins.below_alloc1 _ _⟩
  rw [Bool.not_eq_false] at h3
  go_wp2_with fail
  refine (l01In_num p.ballot 1 1000000 _).mono ?_
  rintro e w1 ⟨rfl, rfl⟩
  by_cases h4 : inB p.ballot 1 1000000 = false
  · have hr := hide (pxB_4 h4)
    go_wp2
    go_ret
    rw [unhide hr]
    exact ⟨rfl, Joins.below_alloc1 _ _⟩
  rw [Bool.not_eq_false] at h4
  have hm := ball_mod h4
  by_cases h5 : ¬ p.ballot % 4 = p.host
  · have hr := hide (pxB_5 h5)
    have h5b : (p.ballot % 4 == p.host) = false := by simp [h5]
    go_wp2
    go_ret
    rw [unhide hr]
    exact ⟨rfl, Joins.below_alloc1 _ _⟩
  rw [Decidable.not_not] at h5
  have h5b : (p.ballot % 4 == p.host) = true := by simp [h5]
  have H5 := hide h5
  clear h5
  go_wp2_with fail
  refine (l02Int_any p.value _).mono ?_
  rintro e w1 ⟨rfl, rfl⟩
  by_cases h6 : numB p.value = false
  · have hr := hide (pxB_6 h6)
    go_wp2
    go_ret
    rw [unhide hr]
    exact ⟨rfl, Joins.below_alloc1 _ _⟩
  rw [Bool.not_eq_false] at h6
  go_wp2_with fail
  refine (l01In_num p.next 0 4 _).mono ?_
  rintro e w1 ⟨rfl, rfl⟩
  by_cases h7 : inB p.next 0 4 = false
  · have hr := hide (pxB_7 h7)
    go_wp2
    go_ret
    rw [unhide hr]
    exact ⟨rfl, Joins.below_alloc1 _ _⟩
  rw [Bool.not_eq_false] at h7
  go_wp2_with fail
  refine (l02Int_any p.best _).mono ?_
  rintro e w1 ⟨rfl, rfl⟩
  by_cases h8 : numB p.best = false
  · have hr := hide (pxB_8 h8)
    go_wp2
    go_ret
    rw [unhide hr]
    exact ⟨rfl, Joins.below_alloc1 _ _⟩
  rw [Bool.not_eq_false] at h8
  have hr := hide (pxB_9 h1 h2 h3 h4 (unhide H5) h6 h7 h8)
  go_wp2_with fail
  refine (l01In_num p.bestBal 0 1000000 _).mono ?_
  rintro e w1 ⟨rfl, rfl⟩
  go_wp2
  go_ret
  rw [unhide hr]
  exact ⟨rfl, Joins.below_alloc1 _ _⟩

end Go.Proofs.Ytdfinapjgffjiaa

/- Contract of spec's l05Read. -/
namespace Go.Proofs.Ytdfinapjgffjiaa
open Go.RowKit
set_option linter.unusedVariables false
set_option maxRecDepth 100000

/-- A ballot in a variable, an answer's variable behind it. -/
structure PxAt (w W : World) (x : Nat) (p : Pxs) : Prop where
  v : VarP W x 24 p
  r : VarP W (x + 1) 24 p00
  k : Below w.heap.size w W
  ge : w.heap.size ≤ x
theorem PxAt.below {w W W' : World} {x : Nat} {p : Pxs} (h : PxAt w W x p) (hb : Below W.heap.size W W') : PxAt w W' x p := ⟨h.v.below hb, h.r.below hb, fr h.k hb, h.ge⟩
theorem PxAt.set {w W : World} {x : Nat} {p : Pxs} (h : PxAt w W x p) (i : Nat) (u : Value) (q : Pxs) (hv : VarP (W.setCell ⟨x, i, none⟩ u) x 24 q) : PxAt w (W.setCell ⟨x, i, none⟩ u) x q :=
  ⟨hv, h.r.keep ((Keep.refl (fun k => k = x) W).setCell (p := ⟨x, i, none⟩) rfl u) (by show ¬ x + 1 = x; omega), h.k.setCell (p := ⟨x, i, none⟩) h.ge u, h.ge⟩

def pxRd1 (p : Pxs) (bs : List Bk) : Pxs :=
  if p.next < 4 then
    (if p.ver < (bkOf (bs.getD p.next.toNat bk0) p.ver).ver ∨ p.ballot < (bkOf (bs.getD p.next.toNat bk0) p.ver).mbal then { p with phase := 6 } else pxEnd (pxLook p (bkOf (bs.getD p.next.toNat bk0) p.ver)))
  else pxEnd p
theorem pxRd_eq (p : Pxs) (bs : List Bk) : pxRd p bs = pxRd1 { p with next := skip p p.next } bs := rfl

set_option maxHeartbeats 6400000 in
theorem l05Read_any (p : Pxs) (ao : Option Addr) (n cap : Nat) (bs : List Bk) (w : World) (hn : bs.length = n) (h4 : n = 4) (hh : 0 ≤ p.host ∧ p.host ≤ 3) (hx : 0 ≤ p.next ∧ p.next ≤ 4) (hr : Bks w ao bs) :
    Calls Try.prog 53 #[pV p, .slice ao n cap] w fun e w' => e = .returned (pV (pxRd p bs)) ∧ Below w.heap.size w w' := by
  have H0 : Hid (PxAt w ((w.alloc (.cells #[.int .i64 p.host, .int .i64 p.ver, .int .i64 p.phase, .int .i64 p.ballot, .int .i64 p.value, .int .i64 p.next, .int .i64 p.best, .int .i64 p.bestBal] 24)).alloc (.cells #[.int .i64 0, .int .i64 0, .int .i64 0, .int .i64 0, .int .i64 0, .int .i64 0, .int .i64 0, .int .i64 0] 24)) w.heap.size p) :=
    hide ⟨(VarP.new w _ p).below (Joins.below_alloc1 _ _), by
      have := VarP.new0 (w.alloc (.cells #[.int .i64 p.host, .int .i64 p.ver, .int .i64 p.phase, .int .i64 p.ballot, .int .i64 p.value, .int .i64 p.next, .int .i64 p.best, .int .i64 p.bestBal] 24)) 24
      simp only [World.size_alloc] at this
      exact this, Joins.below_alloc2 _ _ _, Nat.le_refl _⟩
  have HR := hide hr
  clear hr
  go_enter Try.func53, Try.ntmps53
  go_upto_region 1 with fail
  revert H0
  generalize (w.alloc (.cells #[.int .i64 p.host, .int .i64 p.ver, .int .i64 p.phase, .int .i64 p.ballot, .int .i64 p.value, .int .i64 p.next, .int .i64 p.best, .int .i64 p.bestBal] 24)).alloc (.cells #[.int .i64 0, .int .i64 0, .int .i64 0, .int .i64 0, .int .i64 0, .int .i64 0, .int .i64 0, .int .i64 0] 24) = W0
  intro H0
  have wr1 : IntKind.i64.wrap (p.next + 1) = p.next + 1 := by rw [IntKind.wrap_i64]; omega
  obtain ⟨c0, c1, c2, c3, c4, c5, c6, c7⟩ := (unhide H0).v.cells
  obtain ⟨f0, f1, f2, f3, f4, f5, f6, f7⟩ := (unhide H0).v.free
  go_upto_if 10 with fail
  go_cut [] from 6 to 14 (fun wx => Hid (PxAt w wx w.heap.size { p with next := skip p p.next }))
  case first =>
    by_cases e : p.next = p.host
    · have es : Hid (skip p p.next = p.next + 1) := hide (if_pos e)
      have e' : (p.next == p.host) = true := by simp [e]
      have E9 := hide ((unhide H0).set 5 (.int .i64 (p.next + 1)) { p with next := p.next + 1 } ((unhide H0).v.set5 _))
      clear e
      go_wp2_with fail
      go_meet
      rw [unhide es]
      exact E9
    · have es : Hid (skip p p.next = p.next) := hide (if_neg e)
      have e' : (p.next == p.host) = false := by simp [e]
      clear e
      go_wp2_with fail
      go_meet
      rw [unhide es]
      exact H0
  case rest =>
    clear c0 c1 c2 c3 c4 c5 c6 c7 f0 f1 f2 f3 f4 f5 f6 f7 H0 wr1
    have hp0 : 0 ≤ skip p p.next ∧ skip p p.next ≤ 4 := by unfold skip; split <;> omega
    have hd : Hid (pxRd p bs = pxRd1 { p with next := skip p p.next } bs) := hide rfl
    revert hcut hd hp0
    have hh1 : 0 ≤ ({ p with next := skip p p.next } : Pxs).host ∧ ({ p with next := skip p p.next } : Pxs).host ≤ 3 := hh
    revert hh1
    rw [show skip p p.next = ({ p with next := skip p p.next } : Pxs).next from rfl]
    generalize ({ p with next := skip p p.next } : Pxs) = q
    intro hh1 hcut hp0 hd
    subst h4
    rename World => W1
    obtain ⟨c0, c1, c2, c3, c4, c5, c6, c7⟩ := (unhide hcut).v.cells
    obtain ⟨f0, f1, f2, f3, f4, f5, f6, f7⟩ := (unhide hcut).v.free
    obtain ⟨r0, r1, r2, r3, r4, r5, r6, r7⟩ := (unhide hcut).r.cells
    obtain ⟨s0, s1, s2, s3, s4, s5, s6, s7⟩ := (unhide hcut).r.free
    have HC := hcut
    clear hcut hh hx
    go_upto_if 17 with fail
    go_cut [] from 15 to 68 (fun wx => ∃ z : Pxs, Hid (PxAt w wx w.heap.size z) ∧ Hid (pxRd p bs = pxEnd z))
    case first =>
      by_cases h4 : q.next < 4
      · have hd1 : Hid (pxRd p bs = (if q.ver < (bkOf (bs.getD q.next.toNat bk0) q.ver).ver ∨ q.ballot < (bkOf (bs.getD q.next.toNat bk0) q.ver).mbal then { q with phase := 6 } else pxEnd (pxLook q (bkOf (bs.getD q.next.toNat bk0) q.ver)))) := hide ((unhide hd).trans (if_pos h4))
        clear hd
        obtain ⟨k, hk⟩ : ∃ k : Nat, q.next = k := ⟨q.next.toNat, by omega⟩
        have hkl : k < bs.length := by omega
        rw [show q.next.toNat = k by omega] at hd1
        obtain ⟨b, off, rfl, hb, g0, g1, g2, g3⟩ := ((unhide HR).below (unhide HC).k).get k hkl
        revert hd1 g0 g1 g2 g3
        generalize bs.getD k bk0 = y
        intro hd1 g0 g1 g2 g3
        have hk4 : k < 4 := by omega
        have hk5 : (k : Int) < 4 := by omega
        have hk6 : (0 : Int) ≤ (k : Int) := by omega
        have hbn : b ≠ W1.heap.size := by omega
        have hxn : w.heap.size ≠ W1.heap.size := by have := (unhide HC).v.lt; omega
        have hxn1 : w.heap.size + 1 ≠ W1.heap.size := by have := (unhide HC).r.lt; omega
        have hxl : w.heap.size < W1.heap.size := (unhide HC).v.lt
        have hxl1 : w.heap.size + 1 < W1.heap.size := (unhide HC).r.lt
        have hbn' : W1.heap.size ≠ b := by omega
        have hxn' : W1.heap.size ≠ w.heap.size := by omega
        have hxn1' : W1.heap.size ≠ w.heap.size + 1 := by omega
        rw [hk] at c5
        go_upto_region 4 with fail
        go_cut [5] from 15 to 25 (fun c wx => ∃ C : Nat, c = .pointer (some ⟨C, 0, none⟩) ∧ Hid (Got W1 wx C 35 (bkOf y q.ver)))
        case first =>
          go_region_held3 (fun w' => w'.cell? ⟨w.heap.size, 5, none⟩ = some (.int .i64 (k : Int)) ∧ w'.cell? ⟨w.heap.size, 1, none⟩ = some (.int .i64 q.ver) ∧ w'.cell? ⟨b, off + k * 4, none⟩ = some (.int .i64 y.ver) ∧ w'.cell? ⟨b, off + k * 4 + 1, none⟩ = some (.int .i64 y.mbal) ∧ w'.cell? ⟨b, off + k * 4 + 2, none⟩ = some (.int .i64 y.bal) ∧ w'.cell? ⟨b, off + k * 4 + 3, none⟩ = some (.int .i64 y.inp)) (go_keep)
            ((go_at_call 54; refine (l05Of_any y q.ver _).mono ?_; rintro e w2 ⟨rfl, hb2⟩; (first | (have hv2 : VarB w2 W1.heap.size 35 bk0 := (by exact ((VarB.new0 W1 _).below ((Below.refl _ _).drew)).below hb2); obtain ⟨x0, x1, x2, x3⟩ := hv2.cells; obtain ⟨y0, y1, y2, y3⟩ := hv2.free; have HB2 : Hid (Below W1.heap.size W1 w2) := (by exact hide (fr (Joins.below_alloc1 W1 _).drew hb2)); have HV2 := hide hv2; clear hv2 hb2) | (have HB2 : Hid (Below W1.heap.size W1 w2) := (by exact hide (fr ((Below.refl _ W1).drew) hb2)); clear hb2)); have m0 := ((unhide HB2).cell (p := ⟨w.heap.size, 5, none⟩) hxl).trans c5; have m1 := ((unhide HB2).cell (p := ⟨w.heap.size, 1, none⟩) hxl).trans c1; have m2 := ((unhide HB2).cell (p := ⟨b, off + k * 4, none⟩) hb).trans g0; have m3 := ((unhide HB2).cell (p := ⟨b, off + k * 4 + 1, none⟩) hb).trans g1; have m4 := ((unhide HB2).cell (p := ⟨b, off + k * 4 + 2, none⟩) hb).trans g2; have m5 := ((unhide HB2).cell (p := ⟨b, off + k * 4 + 3, none⟩) hb).trans g3))
          all_goals
            go_wp2_with fail
            go_meet
            first
              | exact ⟨_, rfl, hide (Got.set bk0 (unhide HB2) (unhide HV2) (Nat.le_refl _))⟩
              | exact ⟨_, rfl, hide (Got.top _ _ (unhide HB2))⟩
        case rest =>
          obtain ⟨C, rfl, HG⟩ := hcut
          have HC2 := hide ((unhide HC).below (unhide HG).k)
          have hCl : C ≠ w.heap.size := by have := (unhide HC).v.lt; have := (unhide HG).gt; omega
          have hCr : C ≠ w.heap.size + 1 := by have := (unhide HC).r.lt; have := (unhide HG).gt; omega
          have hCl' : w.heap.size ≠ C := fun e => hCl e.symm
          have hCr' : w.heap.size + 1 ≠ C := fun e => hCr e.symm
          clear c0 c1 c2 c3 c4 c5 c6 c7 f0 f1 f2 f3 f4 f5 f6 f7 r0 r1 r2 r3 r4 r5 r6 r7 s0 s1 s2 s3 s4 s5 s6 s7 g0 g1 g2 g3 hb hbn hbn' hxn hxn1 hxn' hxn1' hxl hxl1 hk hk4 hk5 hk6 hkl HR
          obtain ⟨c0, c1, c2, c3, c4, c5, c6, c7⟩ := (unhide HC2).v.cells
          obtain ⟨f0, f1, f2, f3, f4, f5, f6, f7⟩ := (unhide HC2).v.free
          obtain ⟨r0, r1, r2, r3, r4, r5, r6, r7⟩ := (unhide HC2).r.cells
          obtain ⟨s0, s1, s2, s3, s4, s5, s6, s7⟩ := (unhide HC2).r.free
          obtain ⟨v0, v1, v2, v3⟩ := (unhide HG).v.cells
          revert hd1 v0 v1 v2 v3 HG
          generalize bkOf y q.ver = z
          intro hd1 HG v0 v1 v2 v3
          by_cases ha : q.ver < z.ver ∨ q.ballot < z.mbal
          · have HE : Hid (pxRd p bs = { q with phase := 6 }) := hide ((unhide hd1).trans (if_pos ha))
            have HK := hide (fun u u0 u1 u2 u3 u4 u5 u6 u7 => below8 ((unhide HC2).k.setCell (p := ⟨w.heap.size, 2, none⟩) (Nat.le_refl _) u) (show w.heap.size ≤ w.heap.size + 1 by omega) u0 u1 u2 u3 u4 u5 u6 u7)
            rcases Classical.em (q.ver < z.ver) with h1 | h1
            · go_wp2
              exact bodyPost_ret (v := pV { q with phase := 6 }) (by simp [results, Try.results53, go_sem, r0, r1, r2, r3, r4, r5, r6, r7]) rfl ⟨by rw [unhide HE], unhide HK _ _ _ _ _ _ _ _ _⟩
            · have h2 : q.ballot < z.mbal := by rcases ha with h | h; exact absurd h h1; exact h
              go_wp2
              exact bodyPost_ret (v := pV { q with phase := 6 }) (by simp [results, Try.results53, go_sem, r0, r1, r2, r3, r4, r5, r6, r7]) rfl ⟨by rw [unhide HE], unhide HK _ _ _ _ _ _ _ _ _⟩
          · have HE : Hid (pxRd p bs = pxEnd (pxLook q z)) := hide ((unhide hd1).trans (if_neg ha))
            have ha1 : ¬ q.ver < z.ver := fun h => ha (.inl h)
            have ha2 : ¬ q.ballot < z.mbal := fun h => ha (.inr h)
            clear ha hd1
            have wr1 : IntKind.i64.wrap (q.next + 1) = q.next + 1 := by rw [IntKind.wrap_i64]; omega
            have wr2 : IntKind.i64.wrap (q.next + 1 + 1) = q.next + 1 + 1 := by rw [IntKind.wrap_i64]; omega
            by_cases hq2 : q.phase = 2
            · by_cases hbb : q.bestBal < z.bal
              · by_cases hs1 : q.next + 1 = q.host
                · have hs2 : (q.next + 1 == q.host) = true := by simp [hs1]
                  have EL : Hid (pxLook q z = { q with best := z.inp, bestBal := z.bal, next := q.next + 1 + 1 }) := hide (by simp [pxLook, skip, hs1, hq2, hbb])
                  have E9 := hide ((((((((unhide HC2).set 6 (.int .i64 (z.inp)) _ ((unhide HC2).v.set6 _))).set 7 (.int .i64 (z.bal)) _ ((((unhide HC2).set 6 (.int .i64 (z.inp)) _ ((unhide HC2).v.set6 _))).v.set7 _))).set 5 (.int .i64 (q.next + 1)) _ ((((((unhide HC2).set 6 (.int .i64 (z.inp)) _ ((unhide HC2).v.set6 _))).set 7 (.int .i64 (z.bal)) _ ((((unhide HC2).set 6 (.int .i64 (z.inp)) _ ((unhide HC2).v.set6 _))).v.set7 _))).v.set5 _))).set 5 (.int .i64 (q.next + 1 + 1)) _ ((((((((unhide HC2).set 6 (.int .i64 (z.inp)) _ ((unhide HC2).v.set6 _))).set 7 (.int .i64 (z.bal)) _ ((((unhide HC2).set 6 (.int .i64 (z.inp)) _ ((unhide HC2).v.set6 _))).v.set7 _))).set 5 (.int .i64 (q.next + 1)) _ ((((((unhide HC2).set 6 (.int .i64 (z.inp)) _ ((unhide HC2).v.set6 _))).set 7 (.int .i64 (z.bal)) _ ((((unhide HC2).set 6 (.int .i64 (z.inp)) _ ((unhide HC2).v.set6 _))).v.set7 _))).v.set5 _))).v.set5 _))
                  clear hs1
                  go_wp2_with fail
                  go_meet
                  exact ⟨_, E9, hide (by rw [unhide HE, unhide EL])⟩
                · have hs2 : (q.next + 1 == q.host) = false := by simp [hs1]
                  have EL : Hid (pxLook q z = { q with best := z.inp, bestBal := z.bal, next := q.next + 1 }) := hide (by simp [pxLook, skip, hs1, hq2, hbb])
                  have E9 := hide ((((((unhide HC2).set 6 (.int .i64 (z.inp)) _ ((unhide HC2).v.set6 _))).set 7 (.int .i64 (z.bal)) _ ((((unhide HC2).set 6 (.int .i64 (z.inp)) _ ((unhide HC2).v.set6 _))).v.set7 _))).set 5 (.int .i64 (q.next + 1)) _ ((((((unhide HC2).set 6 (.int .i64 (z.inp)) _ ((unhide HC2).v.set6 _))).set 7 (.int .i64 (z.bal)) _ ((((unhide HC2).set 6 (.int .i64 (z.inp)) _ ((unhide HC2).v.set6 _))).v.set7 _))).v.set5 _))
                  clear hs1
                  go_wp2_with fail
                  go_meet
                  exact ⟨_, E9, hide (by rw [unhide HE, unhide EL])⟩
              · by_cases hs1 : q.next + 1 = q.host
                · have hs2 : (q.next + 1 == q.host) = true := by simp [hs1]
                  have EL : Hid (pxLook q z = { q with next := q.next + 1 + 1 }) := hide (by simp [pxLook, skip, hs1, hbb])
                  have E9 := hide ((((unhide HC2).set 5 (.int .i64 (q.next + 1)) _ ((unhide HC2).v.set5 _))).set 5 (.int .i64 (q.next + 1 + 1)) _ ((((unhide HC2).set 5 (.int .i64 (q.next + 1)) _ ((unhide HC2).v.set5 _))).v.set5 _))
                  clear hs1
                  go_wp2_with fail
                  go_meet
                  exact ⟨_, E9, hide (by rw [unhide HE, unhide EL])⟩
                · have hs2 : (q.next + 1 == q.host) = false := by simp [hs1]
                  have EL : Hid (pxLook q z = { q with next := q.next + 1 }) := hide (by simp [pxLook, skip, hs1, hbb])
                  have E9 := hide ((unhide HC2).set 5 (.int .i64 (q.next + 1)) _ ((unhide HC2).v.set5 _))
                  clear hs1
                  go_wp2_with fail
                  go_meet
                  exact ⟨_, E9, hide (by rw [unhide HE, unhide EL])⟩
            · by_cases hs1 : q.next + 1 = q.host
              · have hs2 : (q.next + 1 == q.host) = true := by simp [hs1]
                have EL : Hid (pxLook q z = { q with next := q.next + 1 + 1 }) := hide (by simp [pxLook, skip, hs1, hq2])
                have E9 := hide ((((unhide HC2).set 5 (.int .i64 (q.next + 1)) _ ((unhide HC2).v.set5 _))).set 5 (.int .i64 (q.next + 1 + 1)) _ ((((unhide HC2).set 5 (.int .i64 (q.next + 1)) _ ((unhide HC2).v.set5 _))).v.set5 _))
                clear hs1
                go_wp2_with fail
                go_meet
                exact ⟨_, E9, hide (by rw [unhide HE, unhide EL])⟩
              · have hs2 : (q.next + 1 == q.host) = false := by simp [hs1]
                have EL : Hid (pxLook q z = { q with next := q.next + 1 }) := hide (by simp [pxLook, skip, hs1, hq2])
                have E9 := hide ((unhide HC2).set 5 (.int .i64 (q.next + 1)) _ ((unhide HC2).v.set5 _))
                clear hs1
                go_wp2_with fail
                go_meet
                exact ⟨_, E9, hide (by rw [unhide HE, unhide EL])⟩
      · have hd1 : Hid (pxRd p bs = pxEnd q) := hide ((unhide hd).trans (if_neg h4))
        clear hd
        go_wp2_with fail
        go_meet
        exact ⟨q, HC, hd1⟩
    case rest =>
      obtain ⟨z, HZ, HE⟩ := hcut
      clear c0 c1 c2 c3 c4 c5 c6 c7 f0 f1 f2 f3 f4 f5 f6 f7 r0 r1 r2 r3 r4 r5 r6 r7 s0 s1 s2 s3 s4 s5 s6 s7 HC hd HR hp0 hh1
      obtain ⟨c0, c1, c2, c3, c4, c5, c6, c7⟩ := (unhide HZ).v.cells
      obtain ⟨f0, f1, f2, f3, f4, f5, f6, f7⟩ := (unhide HZ).v.free
      obtain ⟨r0, r1, r2, r3, r4, r5, r6, r7⟩ := (unhide HZ).r.cells
      obtain ⟨s0, s1, s2, s3, s4, s5, s6, s7⟩ := (unhide HZ).r.free
      have hne : w.heap.size ≠ w.heap.size + 1 := by omega
      have hne' : w.heap.size + 1 ≠ w.heap.size := by omega
      have HK0 := hide (fun u0 u1 u2 u3 u4 u5 u6 u7 => below8 (unhide HZ).k (show w.heap.size ≤ w.heap.size + 1 by omega) u0 u1 u2 u3 u4 u5 u6 u7)
      have HK1 := hide (fun u u0 u1 u2 u3 u4 u5 u6 u7 => below8 ((unhide HZ).k.setCell (p := ⟨w.heap.size, 2, none⟩) (Nat.le_refl _) u) (show w.heap.size ≤ w.heap.size + 1 by omega) u0 u1 u2 u3 u4 u5 u6 u7)
      have HK2 := hide (fun u v u0 u1 u2 u3 u4 u5 u6 u7 => below8 (((unhide HZ).k.setCell (p := ⟨w.heap.size, 2, none⟩) (Nat.le_refl _) u).setCell (p := ⟨w.heap.size, 4, none⟩) (Nat.le_refl _) v) (show w.heap.size ≤ w.heap.size + 1 by omega) u0 u1 u2 u3 u4 u5 u6 u7)
      by_cases h4 : z.next < 4
      · have EE : Hid (pxRd p bs = z) := hide ((unhide HE).trans (pxEnd_lt h4))
        go_wp2
        exact bodyPost_ret (v := pV z) (by simp [results, Try.results53, go_sem, r0, r1, r2, r3, r4, r5, r6, r7]) rfl ⟨by rw [unhide EE], unhide HK0 _ _ _ _ _ _ _ _⟩
      · by_cases hq4 : z.phase = 4
        · have EE : Hid (pxRd p bs = { z with phase := 5 }) := hide ((unhide HE).trans (pxEnd_4 h4 hq4))
          go_wp2
          exact bodyPost_ret (v := pV { z with phase := 5 }) (by simp [results, Try.results53, go_sem, r0, r1, r2, r3, r4, r5, r6, r7]) rfl ⟨by rw [unhide EE], unhide HK1 _ _ _ _ _ _ _ _ _⟩
        · by_cases hbb : 0 < z.bestBal
          · have EE : Hid (pxRd p bs = { z with phase := 3, value := z.best }) := hide ((unhide HE).trans (by unfold pxEnd; rw [if_neg h4, if_neg hq4, if_pos hbb]))
            go_wp2
            exact bodyPost_ret (v := pV { z with phase := 3, value := z.best }) (by simp [results, Try.results53, go_sem, r0, r1, r2, r3, r4, r5, r6, r7]) rfl ⟨by rw [unhide EE], unhide HK2 _ _ _ _ _ _ _ _ _ _⟩
          · have EE : Hid (pxRd p bs = { z with phase := 3 }) := hide ((unhide HE).trans (by unfold pxEnd; rw [if_neg h4, if_neg hq4, if_neg hbb]))
            go_wp2
            exact bodyPost_ret (v := pV { z with phase := 3 }) (by simp [results, Try.results53, go_sem, r0, r1, r2, r3, r4, r5, r6, r7]) rfl ⟨by rw [unhide EE], unhide HK1 _ _ _ _ _ _ _ _ _⟩

end Go.Proofs.Ytdfinapjgffjiaa

/- Laws on append onto an empty literal, of no program's own. -/
namespace Go.Proofs.Ytdfinapjgffjiaa
open Go.RowKit
set_option linter.unusedVariables false
set_option maxRecDepth 100000

section
variable {P : Program}
theorem run_append_nothing (w : World) (t ty e : TypeId) (i : TypeInfo) (ht : P.underlying t = some (.slice e)) (hi : P.info? e = some i) (d so : Option Addr) (cap c : Nat) :
    (Builtin.append_ #[t, t] ty #[.slice d 0 cap, .slice so 0 c]).run P w = .ok (.slice d 0 cap) w := by
  have hl : ∀ (x : Addr), (loadCells x 0).run P w = .ok #[] w := fun x => by simpa using run_loadCells_list (P := P) w x [] (by simp)
  cases d <;> cases so <;> simp [Builtin.append_, run_underlying ht, sizeOf, typeInfo, hi, Builtin.lenOf, Builtin.firstCells, storeCells, hl]

theorem run_append_fresh (w : World) (t ty e : TypeId) (i : TypeInfo) (z : Value) (size bytes : Nat) (ht : P.underlying t = some (.slice e)) (hi : P.info? e = some i) (hz : i.zero = some z)
    (hsize : i.size = size) (hby : i.bytes = bytes) (hzs : z.cells.size = size) (hsz : 0 < size)
    (d : Addr) (so : Option Addr) (m c : Nat) (news : List Value) (hn : news.length = m * size) (hc : 0 < m → ∃ ad, so = some ad ∧ ∀ j u, news[j]? = some u → w.cell? (ad.add j) = some u)
    (b1 : m ≤ maxLen) (b2 : m * bytes ≤ 140737488355328) :
    ∃ ao cap w', (Builtin.append_ #[t, t] ty #[.slice (some d) 0 0, .slice so m c]).run P w = .ok (.slice ao m cap) w' ∧ OwnR w' w.heap.size e size (.slice ao m cap) m news ∧ w.grownBy w' none := by
  rcases Nat.eq_zero_or_pos m with h0 | h0
  · subst h0
    exact ⟨some d, 0, w, run_append_nothing w t ty e i ht hi _ _ _ _, .inl ⟨rfl, List.eq_nil_of_length_eq_zero (by simpa using hn), _, rfl⟩, World.grownBy.refl w none⟩
  · obtain ⟨ad, rfl, hcs⟩ := hc h0
    obtain ⟨v', w', hrun, r1, r2⟩ := run_append_arg_grows (P := P) w t ty e i z size bytes ht hi hz hsize hby hzs hsz d 0 0 [] (by simp) (by simp) ad m c news hn hcs (by omega) (by simpa using b1) (by simpa using b2)
    simp only [Nat.zero_add, List.nil_append] at r1
    obtain ⟨g, cap, cur, rfl, _, _⟩ := own_form h0 r1
    exact ⟨_, _, w', hrun, .inr ⟨h0, r1⟩, r2⟩

def isFresh : Value → Bool
  | .slice (some _) 0 0 => true
  | _ => false
theorem isFresh_form {v : Value} (h : isFresh v = true) : ∃ d, v = .slice (some d) 0 0 := by
  unfold isFresh at h
  split at h
  · exact ⟨_, rfl⟩
  · cases h

theorem step_append_fresh {ops : Array Oper} {o : Oper} {a : Act} {w : World} {K : Act → World → Prop} {Q : Exit → Act → World → Prop} {E : Prop}
    (hg : o.guard = none) (s x : Operand) (t : TypeId) (hop : o.op = Op.call { callee := Callee.builtin Builtin.append, args := #[s, x], argTypes := #[t, t] })
    (e : TypeId) (i : TypeInfo) (z : Value) (size bytes : Nat) (h1 : P.underlying t = some (.slice e)) (h2 : P.info? e = some i) (h3 : i.zero = some z) (h4 : i.size = size) (h5 : i.bytes = bytes) (h6 : z.cells.size = size) (h7 : 0 < size)
    (hs0 : isFresh (a.eval s) = true) (so : Option Addr) (m c : Nat) (news : List Value) (hx : a.eval x = .slice so m c) (hn : news.length = m * size)
    (hc : 0 < m → ∃ ad, so = some ad ∧ ∀ j u, news[j]? = some u → w.cell? (ad.add j) = some u) (b1 : m ≤ maxLen) (b2 : m * bytes ≤ 140737488355328)
    (hK : ∀ ao cap w', OwnR w' w.heap.size e size (.slice ao m cap) m news → w.grownBy w' none → K (a.put o.dst (.slice ao m cap)) w') :
    if Region.wanted o (yielded ops a.tmps) = true then Oper.wp P o a w K Q else E := by
  have hw : Region.wanted o (yielded ops a.tmps) = true := by simp [Region.wanted, hg]
  rw [if_pos hw]
  obtain ⟨d, hs⟩ := isFresh_form hs0
  obtain ⟨ao, cap, w', hrun, r1, r2⟩ := run_append_fresh (P := P) w t o.type e i z size bytes h1 h2 h3 h4 h5 h6 h7 d so m c news hn hc b1 b2
  unfold Oper.wp
  simp [execOp, hop, resolve, invoke, builtin, hs, hx, hrun, Result.andThen]
  exact hK _ _ _ r1 r2
end


theorem belowAl {W0 W : World} (h : Below W0.heap.size W0 W) (o : Obj) : Below W0.heap.size W0 (W.alloc o) := h.alloc h.size o
theorem belowGr {W0 W W' : World} (h : Below W0.heap.size W0 W) (hg : W.grownBy W' none) : Below W0.heap.size W0 W' := h.grown hg h.size (fun _ h => by cases h)
end Go.Proofs.Ytdfinapjgffjiaa

/- A law on append: a row behind an empty one, at a step that does not draw. -/
namespace Go.Proofs.Ytdfinapjgffjiaa
open Go.RowKit
set_option linter.unusedVariables false
section
variable {P : Program}
theorem wpList_append_fresh {w : World} {ops : Array Oper} {rest : List Oper} {o : Oper} {a : Act} {Q : Exit → Act → World → Prop} (hgd : o.guard = none) (s x : Operand) (t : TypeId)
    (ho : o.op = .call { callee := .builtin .append, args := #[s, x], argTypes := #[t, t] })
    (e : TypeId) (i : TypeInfo) (z : Value) (size bytes : Nat) (ht : P.underlying t = some (.slice e)) (hi : P.info? e = some i) (hz : i.zero = some z)
    (hsize : i.size = size) (hby : i.bytes = bytes) (hzs : z.cells.size = size) (hsz : 0 < size)
    (hs0 : isFresh (a.eval s) = true) (so : Option Addr) (m c : Nat) (news : List Value) (hx : a.eval x = .slice so m c) (hn : news.length = m * size)
    (hc : 0 < m → ∃ ad, so = some ad ∧ ∀ j u, news[j]? = some u → w.cell? (ad.add j) = some u) (b1 : m ≤ maxLen) (b2 : m * bytes ≤ 140737488355328)
    (hK : ∀ ao cap w', OwnR w' w.heap.size e size (.slice ao m cap) m news → w.grownBy w' none → wpList P ops Q rest (a.put o.dst (.slice ao m cap)) w') : wpList P ops Q (o :: rest) a w := by
  refine wpList_plain hgd fun K hK' => ?_
  obtain ⟨d, hs⟩ := isFresh_form hs0
  obtain ⟨ao, cap, w', hrun, r1, r2⟩ := run_append_fresh (P := P) w t o.type e i z size bytes ht hi hz hsize hby hzs hsz d so m c news hn hc b1 b2
  unfold Oper.wp
  simp [execOp, ho, resolve, invoke, builtin, hs, hx, hrun, Result.andThen]
  exact hK' _ _ (hK _ _ _ r1 r2)
end
end Go.Proofs.Ytdfinapjgffjiaa
