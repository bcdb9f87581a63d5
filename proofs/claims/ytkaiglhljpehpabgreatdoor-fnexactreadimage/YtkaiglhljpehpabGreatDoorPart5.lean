import Derived.Test.YtkaiglhljpehpabGreatDoorRows
import Derived.Test.YtkaiglhljpehpabGreatDoorPart1
import Derived.Test.YtkaiglhljpehpabGreatDoorPart2
import Derived.Test.YtkaiglhljpehpabGreatDoorPart4
import Derived.WalkKit
import Derived.WalkSpells
import Derived.KernelRfl
import Derived.BigQuiet
import Derived.Deep.QuietTactic
import Derived.Deep.RegionWith
import Derived.Deep.RegionHeld3
import Derived.LoopN
import Derived.Deep.CutRange
import Derived.Test.YtkaiglhljpehpabGreatDoorPart3
import Derived.Laws.BytesArg

/- Contracts of the laws' comparison of images that are alike: eqSnap, eqSnapS, eqImage. (Made ahead of stage 10.) -/
namespace Go.Proofs.YtkaiglhljpehpabGreatDoor
open Go.RowKit
set_option linter.unusedVariables false
set_option maxRecDepth 100000

theorem eqInts_same (ao bo : Option Addr) (ca cb : Nat) (xs : List Int) (w : World) (hl : xs.length ≤ maxLen) (hc : Is w ao xs) (hd : Is w bo xs) :
    Calls Tryz.prog 26 #[.slice ao xs.length ca, .slice bo xs.length cb] w fun e w' => e = .returned (.bool true) ∧ Below w.heap.size w w' := by
  refine (eqIntS_any ao bo ca cb xs xs w hl hc hd).mono ?_
  rintro e w' ⟨rfl, hb⟩
  rw [eqNB_self]
  exact ⟨rfl, hb⟩

set_option maxHeartbeats 800000 in
theorem eqSnap_same (s : Snp) (p q : Option Addr) (pc qc : Nat) (w : World) (hn : s.table.length ≤ maxLen) (h1 : Is w p s.table) (h2 : Is w q s.table) :
    Calls Tryz.prog 58 #[snV s p pc, snV s q qc] w fun e w' => e = .returned (.bool true) ∧ Below w.heap.size w w' := by
  have HA := hide (Joins.below_alloc2 w (.cells #[.string s.name, .slice p s.table.length pc] 72) (.cells #[.string s.name, .slice q s.table.length qc] 72))
  have H1 := hide (h1.below (unhide HA))
  have H2 := hide (h2.below (unhide HA))
  have HN := hide hn
  clear h1 h2 hn
  go_enter Tryz.func58, Tryz.ntmps58
  go_wp2_with fail
  refine (eqInts_same p q pc qc s.table _ (unhide HN) (unhide H1) (unhide H2)).mono ?_
  rintro e w1 ⟨rfl, hb⟩
  have HB := hide (fr (unhide HA) hb)
  clear hb
  go_wp2
  go_ret
  exact ⟨rfl, unhide HB⟩

set_option maxHeartbeats 1600000 in
theorem eqSnapS_same (ao bo : Option Addr) (ca cb : Nat) (ss : List Snp) (w : World) (hn : ss.length ≤ maxLen) (h1 : Sns w ao ss) (h2 : Sns w bo ss) :
    Calls Tryz.prog 27 #[.slice ao ss.length ca, .slice bo ss.length cb] w fun e w' => e = .returned (.bool true) ∧ Below w.heap.size w w' := by
  have H1 := hide h1
  have H2 := hide h2
  clear h1 h2
  unfold maxLen at hn
  go_enter Tryz.func27, Tryz.ntmps27
  go_wp2
  go_loopw [5] (fun i wr => ∃ k : Nat, k ≤ ss.length ∧ i = .int .i64 k ∧ Hid (Below w.heap.size w wr)) (fun i _ => ss.length - (intOf i).toNat)
  case atStart => exact ⟨0, Nat.zero_le _, rfl, hide (Below.refl _ _)⟩
  case round =>
    obtain ⟨k, hk, rfl, HB⟩ := hrel
    by_cases hlt : k < ss.length
    · obtain ⟨b, off, tq, tc, rfl, hc0, hc1, i1, _, hm⟩ := (unhide H1).below (unhide HB) k hlt
      obtain ⟨b', off', tq', tc', rfl, hd0, hd1, i2, _, _⟩ := (unhide H2).below (unhide HB) k hlt
      have hki : (k : Int) < (ss.length : Int) := by omega
      have hk0 : (0 : Int) ≤ (k : Int) := by omega
      have HCALL : Hid (∀ W, Below wr.heap.size wr W → Calls Tryz.prog 58 #[snV ss[k] tq tc, snV ss[k] tq' tc'] W fun e w' => e = .returned (.bool true) ∧ Below W.heap.size W w') := hide (fun W hW => eqSnap_same ss[k] tq tq' tc tc' W hm (i1.below hW) (i2.below hW))
      have l1 := World.block_lt_of_cell? _ _ hc0
      have l2 := World.block_lt_of_cell? _ _ hd0
      clear i1 i2 hm
      go_wp2_with fail
      go_region_held3 (fun w' => w'.cell? ⟨b, off + k * 2, none⟩ = some (.string ss[k].name) ∧ w'.cell? ⟨b, off + k * 2 + 1, none⟩ = some (.slice tq ss[k].table.length tc) ∧ w'.cell? ⟨b', off' + k * 2, none⟩ = some (.string ss[k].name) ∧ w'.cell? ⟨b', off' + k * 2 + 1, none⟩ = some (.slice tq' ss[k].table.length tc')) (go_keep)
        ((go_at_call 58; refine (unhide HCALL _ (by exact (Below.refl _ wr).drew)).mono ?_; rintro e w1 ⟨rfl, hb⟩; have HB1 := hide (fr (Below.refl _ wr).drew hb); have m0 := ((unhide HB1).cell (p := ⟨b, off + k * 2, none⟩) l1).trans hc0; have m1 := ((unhide HB1).cell (p := ⟨b, off + k * 2 + 1, none⟩) l1).trans hc1; have m2 := ((unhide HB1).cell (p := ⟨b', off' + k * 2, none⟩) l2).trans hd0; have m3 := ((unhide HB1).cell (p := ⟨b', off' + k * 2 + 1, none⟩) l2).trans hd1; clear hb))
      all_goals
        go_wp2
        go_roundw
        case rel => exact ⟨k + 1, by omega, by go_num, hide (fr (unhide HB) (unhide HB1))⟩
        case measure => simp [intOf]; omega
    · go_wp2
      go_ret
      exact ⟨rfl, unhide HB⟩

set_option maxHeartbeats 1600000 in
theorem eqImage_same (a b : Im4) (m : Img) (w : World) (hr : m.refs.length ≤ maxLen) (ht : m.table.length ≤ maxLen) (hs : m.snaps.length ≤ maxLen) (hd : m.data.length ≤ maxLen) (h1 : ImS w a m) (h2 : ImS w b m) :
    Calls Tryz.prog 8 #[imV a m, imV b m] w fun e w' => e = .returned (.bool true) ∧ Below w.heap.size w w' := by
  have HA := hide (Joins.below_alloc2 w (.cells #[.slice a.ro m.refs.length a.rc, .slice a.tq m.table.length a.tc, .slice a.so m.snaps.length a.sc, .slice a.dq m.data.length a.dc] 30) (.cells #[.slice b.ro m.refs.length b.rc, .slice b.tq m.table.length b.tc, .slice b.so m.snaps.length b.sc, .slice b.dq m.data.length b.dc] 30))
  have HV : Hid (((w.alloc (.cells #[.slice a.ro m.refs.length a.rc, .slice a.tq m.table.length a.tc, .slice a.so m.snaps.length a.sc, .slice a.dq m.data.length a.dc] 30)).alloc (.cells #[.slice b.ro m.refs.length b.rc, .slice b.tq m.table.length b.tc, .slice b.so m.snaps.length b.sc, .slice b.dq m.data.length b.dc] 30)).heap[w.heap.size]? = some (.cells #[.slice a.ro m.refs.length a.rc, .slice a.tq m.table.length a.tc, .slice a.so m.snaps.length a.sc, .slice a.dq m.data.length a.dc] 30 (0, 0))) := hide (by rw [(Joins.below_alloc1 _ _).block _ (by simp)]; exact heap_alloc_new w _)
  have HU : Hid (((w.alloc (.cells #[.slice a.ro m.refs.length a.rc, .slice a.tq m.table.length a.tc, .slice a.so m.snaps.length a.sc, .slice a.dq m.data.length a.dc] 30)).alloc (.cells #[.slice b.ro m.refs.length b.rc, .slice b.tq m.table.length b.tc, .slice b.so m.snaps.length b.sc, .slice b.dq m.data.length b.dc] 30)).heap[w.heap.size + 1]? = some (.cells #[.slice b.ro m.refs.length b.rc, .slice b.tq m.table.length b.tc, .slice b.so m.snaps.length b.sc, .slice b.dq m.data.length b.dc] 30 (0, 0))) := hide (heap_alloc2_new w _ _)
  have H1 := hide (h1.below (unhide HA))
  have H2 := hide (h2.below (unhide HA))
  have HR := hide hr
  have HT := hide ht
  have HS := hide hs
  have HD := hide hd
  clear h1 h2 hr ht hs hd
  go_enter Tryz.func8, Tryz.ntmps8
  go_upto_region 1 with fail
  revert HA HV HU H1 H2
  generalize ((w.alloc _).alloc _) = W0
  intro HA HV HU H1 H2
  have HCELL : Hid (∀ W, Below W0.heap.size W0 W → (W.cell? ⟨w.heap.size, 0, none⟩ = some (.slice a.ro m.refs.length a.rc) ∧ W.cell? ⟨w.heap.size, 1, none⟩ = some (.slice a.tq m.table.length a.tc) ∧ W.cell? ⟨w.heap.size, 2, none⟩ = some (.slice a.so m.snaps.length a.sc) ∧ W.cell? ⟨w.heap.size, 3, none⟩ = some (.slice a.dq m.data.length a.dc)) ∧ W.cell? ⟨w.heap.size + 1, 0, none⟩ = some (.slice b.ro m.refs.length b.rc) ∧ W.cell? ⟨w.heap.size + 1, 1, none⟩ = some (.slice b.tq m.table.length b.tc) ∧ W.cell? ⟨w.heap.size + 1, 2, none⟩ = some (.slice b.so m.snaps.length b.sc) ∧ W.cell? ⟨w.heap.size + 1, 3, none⟩ = some (.slice b.dq m.data.length b.dc)) := hide (fun W hW => by
    have n1 := (hW.block w.heap.size (Array.getElem?_eq_some_iff.1 (unhide HV)).1).trans (unhide HV)
    have n2 := (hW.block (w.heap.size + 1) (Array.getElem?_eq_some_iff.1 (unhide HU)).1).trans (unhide HU)
    refine ⟨⟨?_, ?_, ?_, ?_⟩, ?_, ?_, ?_, ?_⟩ <;> first | (rw [Joins.cell_of_block n1]; rfl) | (rw [Joins.cell_of_block n2]; rfl))
  clear HV HU
  obtain ⟨⟨c0, c1, c2, c3⟩, d0, d1, d2, d3⟩ := unhide HCELL _ (Below.refl _ W0)
  go_wp2_with fail
  refine (eqInts_same a.ro b.ro a.rc b.rc m.refs _ (unhide HR) (unhide H1).r (unhide H2).r).mono ?_
  rintro e w1 ⟨rfl, hb⟩
  have HB1 := hide hb
  clear hb c0 c1 c2 c3 d0 d1 d2 d3
  obtain ⟨⟨c0, c1, c2, c3⟩, d0, d1, d2, d3⟩ := unhide HCELL _ (unhide HB1)
  go_wp2_with fail
  refine (eqInts_same a.tq b.tq a.tc b.tc m.table _ (unhide HT) ((unhide H1).below (unhide HB1)).t ((unhide H2).below (unhide HB1)).t).mono ?_
  rintro e w2 ⟨rfl, hb⟩
  have HB2 := hide (fr (unhide HB1) hb)
  clear hb c0 c1 c2 c3 d0 d1 d2 d3
  obtain ⟨⟨c0, c1, c2, c3⟩, d0, d1, d2, d3⟩ := unhide HCELL _ (unhide HB2)
  go_wp2_with fail
  refine (eqSnapS_same a.so b.so a.sc b.sc m.snaps _ (unhide HS) ((unhide H1).below (unhide HB2)).s ((unhide H2).below (unhide HB2)).s).mono ?_
  rintro e w3 ⟨rfl, hb⟩
  have HB3 := hide (fr (unhide HB2) hb)
  clear hb c0 c1 c2 c3 d0 d1 d2 d3
  obtain ⟨⟨c0, c1, c2, c3⟩, d0, d1, d2, d3⟩ := unhide HCELL _ (unhide HB3)
  go_wp2_with fail
  refine (eqInts_same a.dq b.dq a.dc b.dc m.data _ (unhide HD) ((unhide H1).below (unhide HB3)).d ((unhide H2).below (unhide HB3)).d).mono ?_
  rintro e w4 ⟨rfl, hb⟩
  have HB4 := hide (fr (unhide HA) (fr (unhide HB3) hb))
  clear hb c0 c1 c2 c3 d0 d1 d2 d3
  go_wp2
  go_ret
  exact ⟨rfl, unhide HB4⟩

end Go.Proofs.YtkaiglhljpehpabGreatDoor

/- Contract of the laws' own copies of lists of numbers (toIntS). -/
namespace Go.Proofs.YtkaiglhljpehpabGreatDoor
open Go.RowKit
set_option linter.unusedVariables false
set_option maxRecDepth 100000

theorem infoN : (Tryz.prog.info? 3).map (fun i => (i.zero, i.size, i.bytes)) = some (some (.int .i64 0), 1, 8) := by kernel_rfl

end Go.Proofs.YtkaiglhljpehpabGreatDoor

/- Contracts of the laws' own copies of images: toSnap. (Made ahead of stage 10.) -/
namespace Go.Proofs.YtkaiglhljpehpabGreatDoor
open Go.RowKit
set_option linter.unusedVariables false
set_option maxRecDepth 100000

end Go.Proofs.YtkaiglhljpehpabGreatDoor

/- Contracts of the laws' own copies of images: toSnapS. (Made ahead of stage 10.) -/
namespace Go.Proofs.YtkaiglhljpehpabGreatDoor
open Go.RowKit
set_option linter.unusedVariables false
set_option maxRecDepth 100000

theorem infoSn : (Tryz.prog.info? 72).map (fun i => (i.zero, i.size, i.bytes)) = some (some (.agg #[.string ⟨#[]⟩, .slice none 0 0]), 2, 40) := by kernel_rfl
theorem sn_put2 {w : World} {B e size g n cap : Nat} {xs : List Value} (h : w.ownsRow B e size (.slice (some ⟨g, 0, none⟩) n cap) n xs) (i j : Nat) (u v : Value) :
    ((w.setCell ⟨g, i, none⟩ u).setCell ⟨g, j, none⟩ v).ownsRow B e size (.slice (some ⟨g, 0, none⟩) n cap) n ((xs.set i u).set j v) :=
  ((h.stored i u).1.stored j v).1
theorem sn_below2 {w0 w : World} {B g : Nat} (h : Below B w0 w) (hg : B ≤ g) (i j : Nat) (u v : Value) : Below B w0 ((w.setCell ⟨g, i, none⟩ u).setCell ⟨g, j, none⟩ v) :=
  (h.setCell (p := ⟨g, i, none⟩) hg u).setCell (p := ⟨g, j, none⟩) hg v
theorem OwnA.setCell {w : World} {B : Nat} {rs : List (Value × List Int)} (h : OwnA w B rs) {a : Addr} (ha : a.block < B) (u : Value) : OwnA (w.setCell a u) B rs := ⟨fun r hr => (h.own r hr).setCell ha u, h.apart⟩
theorem sn_take {ys : List Value} {ss : List Snp} {ts : List Value} {k : Nat} (hk : k < ss.length) (hl : ys.length = ss.length * 2) (ht : ts.length = k) (h : ys.take (k * 2) = snC (ss.take k) ts) (v : Value) :
    ((ys.set (k * 2) (.string ss[k].name)).set (k * 2 + 1) v).take ((k + 1) * 2) = snC (ss.take (k + 1)) (ts ++ [v]) := by
  rw [List.take_succ_eq_append_getElem hk, snC_snoc _ _ _ _ (by rw [List.length_take, ht]; omega), ← h]
  rw [show (k + 1) * 2 = k * 2 + 1 + 1 by omega, List.take_succ_eq_append_getElem (by rw [List.length_set, List.length_set]; omega), List.getElem_set_self, List.take_set_of_le (Nat.le_refl _), List.take_succ_eq_append_getElem (by rw [List.length_set]; omega), List.getElem_set_self, List.take_set_of_le (Nat.le_refl _), List.append_assoc]
  rfl
theorem sn_zip {ss : List Snp} {ts : List Value} {k : Nat} (hk : k < ss.length) (ht : ts.length = k) (v : Value) :
    (ts ++ [v]).zip ((ss.take (k + 1)).map (·.table)) = ts.zip ((ss.take k).map (·.table)) ++ [(v, ss[k].table)] := by
  rw [List.take_succ_eq_append_getElem hk, List.map_append, List.zip_append (by rw [List.length_map, List.length_take, ht]; omega)]
  rfl

end Go.Proofs.YtkaiglhljpehpabGreatDoor

/- Contracts of the laws' own copies of images: toImage. (Made ahead of stage 10.) -/
namespace Go.Proofs.YtkaiglhljpehpabGreatDoor
open Go.RowKit
set_option linter.unusedVariables false
set_option maxRecDepth 100000

/-- Rows that were made later lie apart from all. -/
theorem OwnA.append {w w' : World} {B : Nat} {rs qs : List (Value × List Int)} (h : OwnA w B rs) (hb : Below w.heap.size w w') (hv : OwnA w' w.heap.size qs) (hB : B ≤ w.heap.size) : OwnA w' B (rs ++ qs) := by
  refine ⟨fun r hr => ?_, ?_⟩
  · rcases List.mem_append.1 hr with h1 | h1
    · exact (h.own r h1).below hb
    · exact (hv.own r h1).base hB
  · rw [List.pairwise_append]
    refine ⟨h.apart, hv.apart, fun a ha b hb' g hg hg' => ?_⟩
    have h1 := ((h.own a ha).ge g hg).2
    have h2 := ((hv.own b hb').ge g hg').1
    omega
theorem OwnA.perm {w : World} {B : Nat} {rs qs : List (Value × List Int)} (h : OwnA w B rs) (hp : rs.Perm qs) : OwnA w B qs :=
  ⟨fun r hr => h.own r (hp.mem_iff.2 hr), (hp.pairwise_iff (fun {a b} hab g hb ha => hab g ha hb)).1 h.apart⟩
theorem OwnA.one {w : World} {B : Nat} {v : Value} {xs : List Int} (h : OwnN w B v xs) : OwnA w B [(v, xs)] := ⟨fun r hr => by rw [List.mem_singleton] at hr; subst hr; exact h, List.pairwise_singleton _ _⟩
/-- A variable of four lists. -/
def VarM (w : World) (x : Nat) (t : TypeId) (v0 v1 v2 v3 : Value) : Prop := w.heap[x]? = some (.cells #[v0, v1, v2, v3] t (0, 0))
theorem VarM.lt {w : World} {x t : Nat} {v0 v1 v2 v3 : Value} (k : VarM w x t v0 v1 v2 v3) : x < w.heap.size := (Array.getElem?_eq_some_iff.1 k).1
theorem VarM.cells {w : World} {x t : Nat} {v0 v1 v2 v3 : Value} (k : VarM w x t v0 v1 v2 v3) : w.cell? ⟨x, 0, none⟩ = some v0 ∧ w.cell? ⟨x, 1, none⟩ = some v1 ∧ w.cell? ⟨x, 2, none⟩ = some v2 ∧ w.cell? ⟨x, 3, none⟩ = some v3 := ⟨by rw [Joins.cell_of_block k]; rfl, by rw [Joins.cell_of_block k]; rfl, by rw [Joins.cell_of_block k]; rfl, by rw [Joins.cell_of_block k]; rfl⟩
theorem VarM.free {w : World} {x t : Nat} {v0 v1 v2 v3 : Value} (k : VarM w x t v0 v1 v2 v3) : w.frozen? ⟨x, 0, none⟩ = false ∧ w.frozen? ⟨x, 1, none⟩ = false ∧ w.frozen? ⟨x, 2, none⟩ = false ∧ w.frozen? ⟨x, 3, none⟩ = false := ⟨Joins.unfrozen_of_block k 0, Joins.unfrozen_of_block k 1, Joins.unfrozen_of_block k 2, Joins.unfrozen_of_block k 3⟩
theorem VarM.below {w w' : World} {x t : Nat} {v0 v1 v2 v3 : Value} (k : VarM w x t v0 v1 v2 v3) (hb : Below w.heap.size w w') : VarM w' x t v0 v1 v2 v3 := by
  unfold VarM; rw [hb.block x k.lt]; exact k
theorem VarM.new (w : World) (t : TypeId) (v0 v1 v2 v3 : Value) : VarM (w.alloc (.cells #[v0, v1, v2, v3] t)) w.heap.size t v0 v1 v2 v3 := heap_alloc_new w _
theorem VarM.other {w : World} {x t : Nat} {v0 v1 v2 v3 : Value} (h : VarM w x t v0 v1 v2 v3) {p : Addr} (hp : x ≠ p.block) (u : Value) : VarM (w.setCell p u) x t v0 v1 v2 v3 := by
  unfold VarM; rw [Below.heap_setCell w p u x hp]; exact h
theorem VarM.set0 {w : World} {x t : Nat} {v0 v1 v2 v3 : Value} (h : VarM w x t v0 v1 v2 v3) (u : Value) : VarM (w.setCell ⟨x, 0, none⟩ u) x t u v1 v2 v3 := Joins.block_setCell (i := 0) h u
theorem VarM.set1 {w : World} {x t : Nat} {v0 v1 v2 v3 : Value} (h : VarM w x t v0 v1 v2 v3) (u : Value) : VarM (w.setCell ⟨x, 1, none⟩ u) x t v0 u v2 v3 := Joins.block_setCell (i := 1) h u
theorem VarM.set2 {w : World} {x t : Nat} {v0 v1 v2 v3 : Value} (h : VarM w x t v0 v1 v2 v3) (u : Value) : VarM (w.setCell ⟨x, 2, none⟩ u) x t v0 v1 u v3 := Joins.block_setCell (i := 2) h u
theorem VarM.set3 {w : World} {x t : Nat} {v0 v1 v2 v3 : Value} (h : VarM w x t v0 v1 v2 v3) (u : Value) : VarM (w.setCell ⟨x, 3, none⟩ u) x t v0 v1 v2 u := Joins.block_setCell (i := 3) h u
theorem VarM.at {w : World} {x y t : Nat} {v0 v1 v2 v3 : Value} (h : VarM w x t v0 v1 v2 v3) (e : x = y) : VarM w y t v0 v1 v2 v3 := e ▸ h
end Go.Proofs.YtkaiglhljpehpabGreatDoor

/- Contracts of the laws' marks: markText, markDisk, heldDisk. -/
namespace Go.Proofs.YtkaiglhljpehpabGreatDoor
open Go.RowKit
set_option linter.unusedVariables false
set_option maxRecDepth 100000

/-- The decimal digits of a number, as bytes; none of 0. -/
def digsF : Nat → Nat → List UInt8
  | 0, _ => []
  | f + 1, n => if n = 0 then [] else digsF f (n / 10) ++ [UInt8.ofNat (48 + n % 10)]
theorem digsF_more : ∀ (f n g : Nat), n ≤ f → n ≤ g → digsF f n = digsF g n
  | 0, n, g, h, _ => by
    have : n = 0 := by omega
    subst this
    cases g <;> simp [digsF]
  | f + 1, n, 0, _, h => by
    have : n = 0 := by omega
    subst this
    simp [digsF]
  | f + 1, n, g + 1, h1, h2 => by
    by_cases h : n = 0
    · subst h; simp [digsF]
    · rw [digsF, digsF, if_neg h, if_neg h, digsF_more f (n / 10) g (by omega) (by omega)]
def digs (n : Nat) : List UInt8 := digsF n n
theorem digs_zero : digs 0 = [] := rfl
theorem digs_pos {n : Nat} (h : n ≠ 0) : digs n = digs (n / 10) ++ [UInt8.ofNat (48 + n % 10)] := by
  obtain ⟨m, rfl⟩ : ∃ m, n = m + 1 := ⟨n - 1, by omega⟩
  rw [digs, digsF, if_neg h, digs, digsF_more m ((m + 1) / 10) ((m + 1) / 10) (by omega) (Nat.le_refl _)]
theorem ret_str1 {a b : ByteArray} (h : a = b) : Ending.returned (.string a) = .returned (.string b) := by rw [h]
def mtB (k : Nat) : ByteArray := ⟨(109 :: digs k).toArray⟩

set_option maxHeartbeats 1600000 in
theorem markText_any (k : Nat) (w : World) (h0 : 0 < k) (h1 : k ≤ 1073741824) :
    Calls Tryz.prog 60 #[.int .i64 k] w fun e w' => e = .returned (.string (mtB k)) ∧ Below w.heap.size w w' := by
  go_enter Tryz.func60, Tryz.ntmps60
  go_wp2
  go_loopw [0, 3] (fun n o wr => ∃ (m : Nat) (s : ByteArray), n = .int .i64 m ∧ o = .string s ∧ m ≤ k ∧ s.size + m ≤ k ∧ Hid (digs m ++ s.data.toList = digs k) ∧ Hid (Below w.heap.size w wr)) (fun n _ _ => (intOf n).toNat)
  case atStart => exact ⟨k, ⟨#[]⟩, rfl, rfl, Nat.le_refl _, by show 0 + k ≤ k; omega, hide (by simp), hide (Below.refl _ _)⟩
  case round =>
    obtain ⟨m, s, rfl, rfl, hm, hs, HD, HB⟩ := hrel
    by_cases hp : 0 < m
    · obtain ⟨d1, Hd1, hsz, hcv⟩ : ∃ d1 : ByteArray, Hid (d1.data.toList = [UInt8.ofNat (48 + m % 10)]) ∧ d1.size = 1 ∧ (convert 89 9 (.slice (some ⟨wr.heap.size, 0, none⟩) 1 1)).run Tryz.prog (wr.alloc (.cells #[.int .u8 (48 + (m : Int) % 10)] 5)) = .ok (.string d1) (wr.alloc (.cells #[.int .u8 (48 + (m : Int) % 10)] 5)) := by
        refine ⟨_, ?_, ?_, run_convert_bytes_arg _ 89 5 Tryz.underlying89 Tryz.underlying5 wr.heap.size 0 1 1 [48 + (m : Int) % 10] rfl ?_ 9 Tryz.underlying9⟩
        · have e : (48 + (m : Int) % 10).toNat = 48 + m % 10 := by omega
          exact hide (by simp [strOfNums, e])
        · simp [strOfNums, ByteArray.size]
        · intro i hi
          have : i = 0 := by omega
          subst this
          simp [go_sem]
      have HBA := hide (fun o => (unhide HB).alloc (unhide HB).size o)
      have hsum : (d1 ++ s).size = 1 + s.size := by rw [ByteArray.size_append, hsz]
      have hlist : (d1 ++ s).data.toList = d1.data.toList ++ s.data.toList := by simp
      have HSUM := hide hsum
      have HLIST := hide hlist
      clear hsum hlist
      go_wp2
      go_roundw
      case rel =>
        refine ⟨m / 10, d1 ++ s, ?_, rfl, by omega, by rw [unhide HSUM]; omega, hide ?_, hide (unhide HBA _)⟩
        · go_num
        · rw [unhide HLIST, unhide Hd1, ← List.append_assoc, ← digs_pos (by omega)]
          exact unhide HD
      case measure => simp [intOf]; omega
    · have H : Hid (({ data := #[109] } : ByteArray) ++ s = mtB k) := by
        have hm0 : m = 0 := by omega
        subst hm0
        have := unhide HD
        rw [digs_zero, List.nil_append] at this
        refine hide ?_
        unfold mtB
        rw [← this]
        apply ByteArray.ext
        simp
      go_wp2
      go_ret
      exact ⟨ret_str1 (unhide H), unhide HB⟩

/-- The marks of a row of texts, of a row of writes. -/
def mkS (k n : Nat) : List ByteArray := (List.range n).map fun i => mtB (k + i)
def mkI (k n : Nat) : List Wr := (List.range n).map fun i => ⟨(k + 3 * i : Nat), (k + 3 * i + 1 : Nat), mtB (k + 3 * i + 2)⟩
theorem mkS_length (k n : Nat) : (mkS k n).length = n := by simp [mkS]
theorem mkI_length (k n : Nat) : (mkI k n).length = n := by simp [mkI]
theorem mkS_get {k n j : Nat} (h : j < n) : (strV (mkS k n))[j]? = some (.string (mtB (k + j))) := by simp [strV, mkS, h]
theorem mkI_get {k n j : Nat} (h : j < (mkI k n).length) : (mkI k n)[j] = ⟨(k + 3 * j : Nat), (k + 3 * j + 1 : Nat), mtB (k + 3 * j + 2)⟩ := by simp [mkI]

set_option maxHeartbeats 1600000 in
theorem markStringS_any (v : Value) (n k : Nat) (xs : List Value) (B : Nat) (w : World) (hn : n ≤ 4194304) (hk0 : 0 < k) (hk1 : k ≤ 268435456) (ho : OwnR w B 9 1 v n xs) :
    Calls Tryz.prog 30 #[v, .int .i64 k] w fun e w' => e = .returned (.int .i64 ((k + n : Nat) : Int)) ∧ OwnR w' B 9 1 v n (strV (mkS k n)) ∧ Keep (Own v) w w' := by
  rcases ho with ⟨rfl, rfl, ao, rfl⟩ | ⟨hpos, ho'⟩
  · go_enter Tryz.func30, Tryz.ntmps30
    go_wp2
    refine wp_loop_rounds 1 ?_
    rw [rounds_succ]
    go_wp2
    go_ret
    refine ⟨ret_int (by simp), .inl ⟨rfl, rfl, ao, rfl⟩, Keep.refl _ _⟩
  · obtain ⟨g, cap, cur, rfl, _, _⟩ := own_form hpos ho'
    have HO := hide ho'
    clear ho'
    go_enter Tryz.func30, Tryz.ntmps30
    go_wp2
    go_loopw [1, 5] (fun kk i wr => ∃ (j : Nat) (ys : List Value), j ≤ n ∧ i = .int .i64 j ∧ kk = .int .i64 ((k + j : Nat) : Int) ∧ Hid (ys.length = n) ∧ Hid (ys.take j = (strV (mkS k n)).take j) ∧ Hid (wr.ownsRow B 9 1 (.slice (some ⟨g, 0, none⟩) n cap) n ys) ∧ Hid (Keep (Own (.slice (some ⟨g, 0, none⟩) n cap)) w wr)) (fun _ i _ => n - (intOf i).toNat)
    case atStart => exact ⟨0, xs, Nat.zero_le _, rfl, by simp, hide (by rw [(unhide HO).1]; omega), hide (by simp), HO, hide (Keep.refl _ _)⟩
    case round =>
      obtain ⟨j, ys, hj, rfl, rfl, HL, HT, HO, HK⟩ := hrel
      by_cases hlt : j < n
      · go_wp2_with fail
        refine (markText_any (k + j) _ (by omega) (by omega)).mono ?_
        rintro e w2 ⟨rfl, hb2⟩
        have HO2 := hide (own_below (unhide HO) hb2)
        have HK2 := hide ((unhide HK).trans (Keep.of_below hb2))
        clear hb2
        have hfr := (unhide HO2).frozenAt j
        obtain ⟨x0, hcx⟩ : ∃ x, w2.cell? ⟨g, j, none⟩ = some x := ⟨_, ((unhide HO2).cellAt j (by omega)).trans (List.getElem?_eq_getElem (by rw [unhide HL]; exact hlt))⟩
        have HST := hide ((unhide HO2).stored j (.string (mtB (k + j))))
        have HKS := hide ((unhide HK2).setCell (p := ⟨g, j, none⟩) (own_of hpos rfl) (.string (mtB (k + j))))
        go_wp2
        go_roundw
        case rel => exact ⟨j + 1, ys.set j (.string (mtB (k + j))), by omega, by go_num, by go_num, hide (by rw [List.length_set]; exact unhide HL), hide (set_take' (by rw [unhide HL, strV_length, mkS_length]) (mkS_get hlt) (unhide HT)), hide (unhide HST).1, HKS⟩
        case measure => simp [intOf]; omega
      · go_wp2
        go_ret
        have hjn : j = n := by omega
        subst hjn
        have hxs : ys = strV (mkS k j) := by
          have := unhide HT
          rwa [List.take_of_length_le (by rw [unhide HL]; exact Nat.le_refl _), List.take_of_length_le (by rw [strV_length, mkS_length]; exact Nat.le_refl _)] at this
        subst hxs
        exact ⟨rfl, .inr ⟨hpos, unhide HO⟩, unhide HK⟩

theorem mk_take {ys : List Value} {k n j : Nat} (hj : j < n) (hl : ys.length = n * 3) (h : ys.take (j * 3) = (ioV (mkI k n)).take (j * 3)) :
    (((ys.set (j * 3) (.int .i64 ((k : Int) + 3 * (j : Int)))).set (j * 3 + 1) (.int .i64 ((k : Int) + 3 * (j : Int) + 1))).set (j * 3 + 2) (.string (mtB (k + 3 * j + 2)))).take ((j + 1) * 3) = (ioV (mkI k n)).take ((j + 1) * 3) := by
  have hj' : j < (mkI k n).length := by rw [mkI_length]; exact hj
  have e := io_take hj' (by rw [mkI_length]; exact hl) h
  have e0 : (mkI k n)[j].host = (k : Int) + 3 * (j : Int) := by rw [mkI_get hj']; simp
  have e1 : (mkI k n)[j].at_ = (k : Int) + 3 * (j : Int) + 1 := by rw [mkI_get hj']; simp
  have e2 : (mkI k n)[j].data = mtB (k + 3 * j + 2) := by rw [mkI_get hj']
  rw [e0, e1, e2] at e
  exact e

set_option maxHeartbeats 3200000 in
theorem markIoS_any (v : Value) (n k : Nat) (xs : List Value) (B : Nat) (w : World) (hn : n ≤ 4194304) (hk0 : 0 < k) (hk1 : k ≤ 268435456) (ho : OwnR w B 74 3 v n xs) :
    Calls Tryz.prog 31 #[v, .int .i64 k] w fun e w' => e = .returned (.int .i64 ((k + 3 * n : Nat) : Int)) ∧ OwnR w' B 74 3 v n (ioV (mkI k n)) ∧ Keep (Own v) w w' := by
  rcases ho with ⟨rfl, rfl, ao, rfl⟩ | ⟨hpos, ho'⟩
  · go_enter Tryz.func31, Tryz.ntmps31
    go_wp2
    refine wp_loop_rounds 1 ?_
    rw [rounds_succ]
    go_wp2
    go_ret
    refine ⟨ret_int (by simp), .inl ⟨rfl, rfl, ao, rfl⟩, Keep.refl _ _⟩
  · obtain ⟨g, cap, cur, rfl, _, _⟩ := own_form hpos ho'
    have HO := hide ho'
    clear ho'
    go_enter Tryz.func31, Tryz.ntmps31
    go_wp2
    go_loopw [1, 5] (fun kk i wr => ∃ (j : Nat) (ys : List Value), j ≤ n ∧ i = .int .i64 j ∧ kk = .int .i64 ((k + 3 * j : Nat) : Int) ∧ Hid (ys.length = n * 3) ∧ Hid (ys.take (j * 3) = (ioV (mkI k n)).take (j * 3)) ∧ Hid (wr.ownsRow B 74 3 (.slice (some ⟨g, 0, none⟩) n cap) n ys) ∧ Hid (Keep (Own (.slice (some ⟨g, 0, none⟩) n cap)) w wr)) (fun _ i _ => n - (intOf i).toNat)
    case atStart => exact ⟨0, xs, Nat.zero_le _, rfl, by simp, hide (by rw [(unhide HO).1]), hide (by simp), HO, hide (Keep.refl _ _)⟩
    case round =>
      obtain ⟨j, ys, hj, rfl, rfl, HL, HT, HO, HK⟩ := hrel
      by_cases hlt : j < n
      · have hf0 := (unhide HO).frozenAt (j * 3)
        have hf1 := (unhide HO).frozenAt (j * 3 + 1)
        have hf2 := (unhide HO).frozenAt (j * 3 + 2)
        obtain ⟨x0, hx0⟩ : ∃ x, wr.cell? ⟨g, j * 3, none⟩ = some x := ⟨_, ((unhide HO).cellAt (j * 3) (by omega)).trans (List.getElem?_eq_getElem (by rw [unhide HL]; omega))⟩
        obtain ⟨x1, hx1⟩ : ∃ x, wr.cell? ⟨g, j * 3 + 1, none⟩ = some x := ⟨_, ((unhide HO).cellAt (j * 3 + 1) (by omega)).trans (List.getElem?_eq_getElem (by rw [unhide HL]; omega))⟩
        obtain ⟨x2, hx2⟩ : ∃ x, wr.cell? ⟨g, j * 3 + 2, none⟩ = some x := ⟨_, ((unhide HO).cellAt (j * 3 + 2) (by omega)).trans (List.getElem?_eq_getElem (by rw [unhide HL]; omega))⟩
        have HO' := hide (((unhide HO).stored (j * 3) (.int .i64 ((k : Int) + 3 * (j : Int)))).1.stored (j * 3 + 1) (.int .i64 ((k : Int) + 3 * (j : Int) + 1))).1
        have HK' := hide (((unhide HK).setCell (p := ⟨g, j * 3, none⟩) (own_of hpos rfl) (.int .i64 ((k : Int) + 3 * (j : Int)))).setCell (p := ⟨g, j * 3 + 1, none⟩) (own_of hpos rfl) (.int .i64 ((k : Int) + 3 * (j : Int) + 1)))
        go_wp2_with fail
        rw [show ((k : Int) + 3 * (j : Int) + 1 + 1) = ((k + 3 * j + 2 : Nat) : Int) from by omega]
        refine (markText_any (k + 3 * j + 2) _ (by omega) (by omega)).mono ?_
        rintro e w2 ⟨rfl, hb2⟩
        have HO2 := hide (own_below (unhide HO') hb2)
        have HK2 := hide ((unhide HK').trans (Keep.of_below hb2))
        clear hb2 hf0 hf1 hf2 hx0 hx1 hx2
        have hf2 := (unhide HO2).frozenAt (j * 3 + 2)
        obtain ⟨x2, hx2⟩ : ∃ x, w2.cell? ⟨g, j * 3 + 2, none⟩ = some x := ⟨_, ((unhide HO2).cellAt (j * 3 + 2) (by omega)).trans (List.getElem?_eq_getElem (by rw [List.length_set, List.length_set, unhide HL]; omega))⟩
        have HST := hide ((unhide HO2).stored (j * 3 + 2) (.string (mtB (k + 3 * j + 2)))).1
        have HKS := hide ((unhide HK2).setCell (p := ⟨g, j * 3 + 2, none⟩) (own_of hpos rfl) (.string (mtB (k + 3 * j + 2))))
        go_wp2
        go_roundw
        case rel => exact ⟨j + 1, _, by omega, by go_num, by go_num, hide (by rw [List.length_set, List.length_set, List.length_set]; exact unhide HL), hide (mk_take hlt (unhide HL) (unhide HT)), HST, HKS⟩
        case measure => simp [intOf]; omega
      · go_wp2
        go_ret
        have hjn : j = n := by omega
        subst hjn
        have hxs : ys = ioV (mkI k j) := by
          have := unhide HT
          rwa [List.take_of_length_le (by rw [unhide HL]; exact Nat.le_refl _), List.take_of_length_le (by rw [ioV_length, mkI_length]; exact Nat.le_refl _)] at this
        subst hxs
        exact ⟨rfl, .inr ⟨hpos, unhide HO⟩, unhide HK⟩

theorem mkI_cells {k n j : Nat} (hj : j < n) : (ioV (mkI k n))[j * 3]? = some (.int .i64 ((k : Int) + 3 * (j : Int))) ∧ (ioV (mkI k n))[j * 3 + 1]? = some (.int .i64 ((k : Int) + 3 * (j : Int) + 1)) ∧ (ioV (mkI k n))[j * 3 + 2]? = some (.string (mtB (k + 3 * j + 2))) := by
  have hj' : j < (mkI k n).length := by rw [mkI_length]; exact hj
  have e := ioV_get hj'
  have e0 : (mkI k n)[j].host = (k : Int) + 3 * (j : Int) := by rw [mkI_get hj']; simp
  have e1 : (mkI k n)[j].at_ = (k : Int) + 3 * (j : Int) + 1 := by rw [mkI_get hj']; simp
  have e2 : (mkI k n)[j].data = mtB (k + 3 * j + 2) := by rw [mkI_get hj']
  rw [e0, e1, e2] at e
  exact e

end Go.Proofs.YtkaiglhljpehpabGreatDoor

/- Contracts of the laws' marks on lists of numbers: markIntS, heldIntS. -/
namespace Go.Proofs.YtkaiglhljpehpabGreatDoor
open Go.RowKit
set_option linter.unusedVariables false
set_option maxRecDepth 100000

/-- The marks of a row of numbers. -/
def mkN (k n : Nat) : List Int := (List.range n).map fun i => ((k + i : Nat) : Int)
theorem mkN_length (k n : Nat) : (mkN k n).length = n := by simp [mkN]
theorem mkN_get {k n j : Nat} (h : j < n) : (intV (mkN k n))[j]? = some (.int .i64 ((k + j : Nat) : Int)) := by simp [intV, mkN, h]

set_option maxHeartbeats 1600000 in
theorem markIntS_any (v : Value) (n k : Nat) (xs : List Value) (B : Nat) (w : World) (hn : n ≤ 4194304) (hk0 : 0 < k) (hk1 : k ≤ 268435456) (ho : OwnR w B 3 1 v n xs) :
    Calls Tryz.prog 32 #[v, .int .i64 k] w fun e w' => e = .returned (.int .i64 ((k + n : Nat) : Int)) ∧ OwnR w' B 3 1 v n (intV (mkN k n)) ∧ Keep (Own v) w w' := by
  rcases ho with ⟨rfl, rfl, ao, rfl⟩ | ⟨hpos, ho'⟩
  · go_enter Tryz.func32, Tryz.ntmps32
    go_wp2
    refine wp_loop_rounds 1 ?_
    rw [rounds_succ]
    go_wp2
    go_ret
    refine ⟨ret_int (by simp), .inl ⟨rfl, rfl, ao, rfl⟩, Keep.refl _ _⟩
  · obtain ⟨g, cap, cur, rfl, _, _⟩ := own_form hpos ho'
    have HO := hide ho'
    clear ho'
    go_enter Tryz.func32, Tryz.ntmps32
    go_wp2
    go_loopw [1, 5] (fun kk i wr => ∃ (j : Nat) (ys : List Value), j ≤ n ∧ i = .int .i64 j ∧ kk = .int .i64 ((k + j : Nat) : Int) ∧ Hid (ys.length = n) ∧ Hid (ys.take j = (intV (mkN k n)).take j) ∧ Hid (wr.ownsRow B 3 1 (.slice (some ⟨g, 0, none⟩) n cap) n ys) ∧ Hid (Keep (Own (.slice (some ⟨g, 0, none⟩) n cap)) w wr)) (fun _ i _ => n - (intOf i).toNat)
    case atStart => exact ⟨0, xs, Nat.zero_le _, rfl, by simp, hide (by rw [(unhide HO).1]; omega), hide (by simp), HO, hide (Keep.refl _ _)⟩
    case round =>
      obtain ⟨j, ys, hj, rfl, rfl, HL, HT, HO, HK⟩ := hrel
      by_cases hlt : j < n
      · have hfr := (unhide HO).frozenAt j
        obtain ⟨x0, hcx⟩ : ∃ x, wr.cell? ⟨g, j, none⟩ = some x := ⟨_, ((unhide HO).cellAt j (by omega)).trans (List.getElem?_eq_getElem (by rw [unhide HL]; exact hlt))⟩
        have HST := hide ((unhide HO).stored j (.int .i64 ((k + j : Nat) : Int)))
        have HKS := hide ((unhide HK).setCell (p := ⟨g, j, none⟩) (own_of hpos rfl) (.int .i64 ((k + j : Nat) : Int)))
        go_wp2
        go_roundw
        case rel => exact ⟨j + 1, ys.set j (.int .i64 ((k + j : Nat) : Int)), by omega, by go_num, by go_num, hide (by rw [List.length_set]; exact unhide HL), hide (set_take' (by rw [unhide HL, intV_length, mkN_length]) (mkN_get hlt) (unhide HT)), hide (unhide HST).1, HKS⟩
        case measure => simp [intOf]; omega
      · go_wp2
        go_ret
        have hjn : j = n := by omega
        subst hjn
        have hxs : ys = intV (mkN k j) := by
          have := unhide HT
          rwa [List.take_of_length_le (by rw [unhide HL]; exact Nat.le_refl _), List.take_of_length_le (by rw [intV_length, mkN_length]; exact Nat.le_refl _)] at this
        subst hxs
        exact ⟨rfl, .inr ⟨hpos, unhide HO⟩, unhide HK⟩

set_option maxHeartbeats 1600000 in
theorem heldIntS_any (v : Value) (n k : Nat) (B : Nat) (w : World) (hn : n ≤ 4194304) (hk0 : 0 < k) (hk1 : k ≤ 268435456) (ho : OwnR w B 3 1 v n (intV (mkN k n))) :
    Calls Tryz.prog 34 #[v, .int .i64 k] w fun e w' => e = .returned (.int .i64 ((k + n : Nat) : Int)) ∧ Below w.heap.size w w' := by
  rcases ho with ⟨rfl, _, ao, rfl⟩ | ⟨hpos, ho'⟩
  · go_enter Tryz.func34, Tryz.ntmps34
    go_wp2
    refine wp_loop_rounds 1 ?_
    rw [rounds_succ]
    go_wp2
    go_ret
    exact ⟨ret_int (by simp), Below.refl _ _⟩
  · obtain ⟨g, cap, cur, rfl, _, _⟩ := own_form hpos ho'
    have HO := hide ho'
    clear ho'
    go_enter Tryz.func34, Tryz.ntmps34
    go_wp2
    go_loopw [1, 5] (fun kk i wr => ∃ (j : Nat), j ≤ n ∧ i = .int .i64 j ∧ kk = .int .i64 ((k + j : Nat) : Int) ∧ Hid (Below w.heap.size w wr)) (fun _ i _ => n - (intOf i).toNat)
    case atStart => exact ⟨0, Nat.zero_le _, rfl, by simp, hide (Below.refl _ _)⟩
    case round =>
      obtain ⟨j, hj, rfl, rfl, HB⟩ := hrel
      by_cases hlt : j < n
      · have hcx : wr.cell? ⟨g, j, none⟩ = some (.int .i64 ((k + j : Nat) : Int)) := ((own_below (unhide HO) (unhide HB)).cellAt j (by omega)).trans (mkN_get hlt)
        go_wp2
        go_roundw
        case rel => exact ⟨j + 1, by omega, by go_num, by go_num, HB⟩
        case measure => simp [intOf]; omega
      · go_wp2
        go_ret
        have hjn : j = n := by omega
        subst hjn
        exact ⟨rfl, unhide HB⟩

end Go.Proofs.YtkaiglhljpehpabGreatDoor

/- The laws' marks on images: what they are, plainly. (Made ahead of stage 10.) -/
namespace Go.Proofs.YtkaiglhljpehpabGreatDoor
open Go.RowKit
set_option linter.unusedVariables false
set_option maxRecDepth 100000

/-- How many marks a row of snapshots takes. -/
def snK (ss : List Snp) : Nat := (ss.map (fun s => 1 + s.table.length)).sum
theorem snK_take {ss : List Snp} {k : Nat} (h : k < ss.length) : snK (ss.take (k + 1)) = snK (ss.take k) + (1 + ss[k].table.length) := by
  unfold snK
  rw [List.take_succ_eq_append_getElem h, List.map_append, List.sum_append]; simp
theorem snK_le (ss : List Snp) (n : Nat) : snK (ss.take n) ≤ snK ss := by
  have h2 : snK ss = snK (ss.take n) + snK (ss.drop n) := by
    unfold snK
    rw [← List.sum_append, ← List.map_append, List.take_append_drop]
  omega
/-- The marks of one, and of a row. -/
def mk1 (k : Nat) (s : Snp) : Snp := ⟨mtB k, mkN (k + 1) s.table.length⟩
def mkSn : Nat → List Snp → List Snp
  | _, [] => []
  | k, s :: ss => mk1 k s :: mkSn (k + (1 + s.table.length)) ss
theorem mkSn_length : ∀ (k : Nat) (ss : List Snp), (mkSn k ss).length = ss.length
  | _, [] => rfl
  | k, s :: ss => by rw [mkSn, List.length_cons, mkSn_length, List.length_cons]
theorem mkSn_snoc : ∀ (k : Nat) (ss : List Snp) (s : Snp), mkSn k (ss ++ [s]) = mkSn k ss ++ [mk1 (k + snK ss) s]
  | k, [], s => rfl
  | k, x :: ss, s => by
    rw [List.cons_append, mkSn, mkSn_snoc, mkSn, List.cons_append]
    congr 4
    simp only [snK, List.map_cons, List.sum_cons]; omega
/-- As far as its first ones have been marked. -/
def snMid (k : Nat) (ss : List Snp) (j : Nat) : List Snp := mkSn k (ss.take j) ++ ss.drop j
theorem snMid_zero (k : Nat) (ss : List Snp) : snMid k ss 0 = ss := by simp [snMid, mkSn]
theorem snMid_all (k : Nat) (ss : List Snp) : snMid k ss ss.length = mkSn k ss := by simp [snMid]
theorem snMid_length (k : Nat) (ss : List Snp) (j : Nat) : (snMid k ss j).length = ss.length := by
  rw [snMid, List.length_append, mkSn_length, List.length_take, List.length_drop]; omega
theorem snMid_get {k : Nat} {ss : List Snp} {j : Nat} (h : j < ss.length) : (snMid k ss j)[j]? = some ss[j] := by
  rw [snMid, List.getElem?_append_right (by rw [mkSn_length, List.length_take]; omega), mkSn_length, List.length_take, Nat.min_eq_left (by omega), Nat.sub_self, List.getElem?_drop, Nat.add_zero, List.getElem?_eq_getElem h]
theorem snMid_succ {k : Nat} {ss : List Snp} {j : Nat} (h : j < ss.length) : (snMid k ss j).set j (mk1 (k + snK (ss.take j)) ss[j]) = snMid k ss (j + 1) := by
  rw [snMid, snMid, List.take_succ_eq_append_getElem h, mkSn_snoc, List.set_append_right _ _ (by rw [mkSn_length, List.length_take]; omega), mkSn_length, List.length_take, Nat.min_eq_left (by omega), Nat.sub_self, List.drop_eq_getElem_cons h, List.set_cons_zero, List.append_assoc]
  rfl
theorem snC_get : ∀ {cs : List Snp} {ts : List Value} {j : Nat} {s : Snp} {t : Value}, cs[j]? = some s → ts[j]? = some t → (snC cs ts)[j * 2]? = some (.string s.name) ∧ (snC cs ts)[j * 2 + 1]? = some t
  | [], _, _, _, _, h, _ => by simp at h
  | _ :: _, [], _, _, _, _, h => by simp at h
  | c :: cs, b :: ts, 0, s, t, h, h' => by
    simp at h h'
    subst h; subst h'
    exact ⟨rfl, rfl⟩
  | c :: cs, b :: ts, j + 1, s, t, h, h' => by
    rw [List.getElem?_cons_succ] at h h'
    have := snC_get h h'
    rw [show (j + 1) * 2 = j * 2 + 1 + 1 by omega]
    exact this
theorem snC_set : ∀ (cs : List Snp) (ts : List Value) (j : Nat) (s : Snp), j < ts.length → snC (cs.set j s) ts = (snC cs ts).set (j * 2) (.string s.name)
  | [], [], _, _, _ => rfl
  | [], _ :: _, _, _, _ => rfl
  | c :: cs, [], j, s, h => by simp at h
  | c :: cs, b :: ts, 0, s, _ => rfl
  | c :: cs, b :: ts, j + 1, s, h => by
    rw [List.set_cons_succ, snC, snC, snC_set cs ts j s (by simpa using h), show (j + 1) * 2 = j * 2 + 1 + 1 by omega]
    rfl
theorem zip_set1 : ∀ (ts : List Value) (cs : List Snp) (j : Nat) (s : Snp) (t : Value), ts[j]? = some t → ts.zip ((cs.set j s).map (·.table)) = (ts.zip (cs.map (·.table))).set j (t, s.table)
  | [], cs, j, s, t, h => by simp at h
  | b :: ts, [], j, s, t, h => by simp
  | b :: ts, c :: cs, 0, s, t, h => by
    simp at h
    subst h
    rfl
  | b :: ts, c :: cs, j + 1, s, t, h => by
    rw [List.getElem?_cons_succ] at h
    have := zip_set1 ts cs j s t h
    rw [List.set_cons_succ, List.map_cons, List.zip_cons_cons, this]
    rfl
theorem OwnA.turn {w w' : World} {B : Nat} {rs : List (Value × List Int)} {j : Nat} {v : Value} {xs ys : List Int} (h : OwnA w B rs) (hj : rs[j]? = some (v, xs)) (hk : Keep (Own v) w w') (hn : OwnN w' B v ys) : OwnA w' B (rs.set j (v, ys)) := by
  obtain ⟨hjl, hje⟩ := List.getElem?_eq_some_iff.1 hj
  refine ⟨fun r hr => ?_, ?_⟩
  · obtain ⟨i, hi, rfl⟩ := List.mem_iff_getElem.1 hr
    rw [List.length_set] at hi
    rw [List.getElem_set]
    split
    · exact hn
    · rename_i hne
      refine (h.own _ (List.getElem_mem hi)).keep hk (fun g hg hv => ?_)
      have hp := List.pairwise_iff_getElem.1 h.apart
      rcases Nat.lt_or_gt_of_ne hne with hlt | hlt
      · exact hp j i hjl hi hlt g (by rw [hje]; exact hv) hg
      · exact hp i j hi hjl hlt g hg (by rw [hje]; exact hv)
  · have e : (rs.set j (v, ys)).map Prod.fst = rs.map Prod.fst := by
      rw [List.map_set]
      have : (rs.map Prod.fst)[j]'(by simpa using hjl) = v := by rw [List.getElem_map, hje]
      conv => lhs; rw [show (v, ys).1 = (rs.map Prod.fst)[j]'(by simpa using hjl) from this.symm]
      rw [List.set_getElem_self]
    have hp := List.pairwise_map (f := Prod.fst) (R := fun a b => ∀ g, Own a g → ¬ Own b g) |>.2 h.apart
    rw [← e] at hp
    exact List.pairwise_map.1 hp
theorem OwnR.row {w : World} {B e size n : Nat} {v : Value} {xs : List Value} (h : OwnR w B e size v n xs) (hp : 0 < n) : w.ownsRow B e size v n xs := by
  rcases h with ⟨h0, _⟩ | ⟨_, h⟩
  · omega
  · exact h

end Go.Proofs.YtkaiglhljpehpabGreatDoor
