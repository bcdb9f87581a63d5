import Derived.Test.YtpdpnepnfhbonaaGreatDoorXReadImagePart1
import Derived.Test.YtpdpnepnfhbonaaGreatDoorXReadImagePart5
import Derived.Test.YtpdpnepnfhbonaaGreatDoorXReadImagePart6
import Derived.Test.YtpdpnepnfhbonaaGreatDoorXReadImagePart9
import Derived.Test.YtpdpnepnfhbonaaGreatDoorXReadImagePart10
import Derived.Test.YtpdpnepnfhbonaaGreatDoorRows
import Derived.Test.YtpdpnepnfhbonaaGreatDoorXReadImagePart3
import Derived.Test.YtpdpnepnfhbonaaGreatDoorXReadImagePart4
import Derived.Test.YtpdpnepnfhbonaaGreatDoorXReadImagePart11
import Derived.WalkKit
import Derived.WalkSpells
import Derived.Defers
import Derived.Recover
import Derived.KernelRfl
import Derived.Laws.EntriesVeiled
import Derived.Test.YtpdpnepnfhbonaaGreatDoorXReadImagePart8

namespace Go.Proofs.YtpdpnepnfhbonaaGreatDoor
open Go.RowKit
set_option linter.unusedVariables false
set_option maxRecDepth 100000

def fuSB (sec : Nat → ByteArray) : Bool := nmsB (sec 9) && riB (nmsL (sec 9)) sec
def fuM (sec : Nat → ByteArray) : Img := riM (nmsL (sec 9)) sec
theorem riB_parts {ns : List ByteArray} {sec : Nat → ByteArray} (h : riB ns sec = true) : cdB (sec 10) = true ∧ tdB (sec 11) = true ∧ (∀ i, i < ns.length → tdB (sec (12 + i)) = true) ∧ (∀ c, c < 24 → 0 < (cdL (sec 10)).getD c 0 → vlB (sec (15 + c)) = true) ∧ imB (riM ns sec) = true := by
  simp only [riB, Bool.and_eq_true, List.all_eq_true, List.mem_range, Bool.or_eq_true, decide_eq_true_eq] at h
  obtain ⟨h1, h2, h3, h4, h5⟩ := h
  exact ⟨h1, h2, h3, fun c hc hp => (h4 c hc).resolve_left (fun hn => hn hp), h5⟩
theorem nms_parts {s : ByteArray} (h : nmsB s = true) : openB s 1 = true ∧ 0 < (openL s 1).length ∧ (openL s 1).getD 0 0 ≤ 3 ∧ (openL s 1).getD 0 0 = (openL s 1).length - 1 ∧ ∀ x ∈ nmsL s, snmB x = true := by
  simp only [nmsB, nmsH, Bool.and_eq_true, decide_eq_true_eq, List.all_eq_true] at h
  obtain ⟨h1, ⟨h2, h3, h4⟩, h5⟩ := h
  exact ⟨h1, h2, h3, h4, h5⟩
theorem nms_few {s : ByteArray} (h : nmsB s = true) : (nmsL s).length ≤ 3 ∧ ∀ x ∈ nmsL s, x.size ≤ 6 := by
  obtain ⟨h1, h2, h3, h4, h5⟩ := nms_parts h
  refine ⟨?_, fun x hx => (snm_parts (h5 x hx)).2.2⟩
  simp only [nmsL, List.length_map, List.length_drop]
  omega
theorem cd_pos {sec : Nat → ByteArray} (h : cdB (sec 10) = true) {c : Nat} (hc : c < 24) : 0 ≤ (cdL (sec 10)).getD c 0 := by
  have hl := cdL_len h
  have hcl : c < (cdL (sec 10)).length := by omega
  have e : (cdL (sec 10)).getD c 0 = (cdL (sec 10))[c] := by simp [List.getD, hcl]
  rw [e]
  have hm : (cdL (sec 10))[c] ∈ cdL (sec 10) := List.getElem_mem _
  generalize (cdL (sec 10))[c] = v at *
  unfold cdL sxA at hm
  obtain ⟨p, _, hp⟩ := List.mem_flatMap.1 hm
  unfold sxT at hp
  obtain ⟨m, _, rfl⟩ := List.mem_map.1 hp
  exact Int.emod_nonneg _ (by decide)
theorem fu_img {sec : Nat → ByteArray} (hn : nmsB (sec 9) = true) (hc : cdB (sec 10) = true) : fuM sec = srM sec ∧ (nmsL (sec 9)).length = srN sec ∧ supB sec = true ∧ ∀ i, i < srN sec → nmN (unT ((srS sec).getD (1 + i) 0)) = (srS sec).getD (1 + i) 0 := by
  obtain ⟨h1, h2, h3, h4, h5⟩ := nms_parts hn
  have hin := openL_in h1
  have hlen : (nmsL (sec 9)).length = (openL (sec 9) 1).length - 1 := by simp [nmsL]
  have hN : (nmsL (sec 9)).length = srN sec := by
    rw [hlen, srN, srS]
    omega
  have hat : ∀ i (hi : i < (nmsL (sec 9)).length), ∃ N : Nat, N ≤ 2147483647 ∧ (srS sec).getD (1 + i) 0 = (N : Int) ∧ (nmsL (sec 9))[i] = unI N := fun i hi => by
    have hi' : 1 + i < (openL (sec 9) 1).length := by rw [hlen] at hi; omega
    obtain ⟨x0, x1⟩ := hin (1 + i) hi'
    obtain ⟨N, hN'⟩ := Int.eq_ofNat_of_zero_le x0
    refine ⟨N, by omega, ?_, ?_⟩
    · rw [srS]; simp only [List.getD, List.getElem?_eq_getElem hi', Option.getD_some]; exact hN'
    · simp only [nmsL, List.getElem_map, List.getElem_drop, hN']; rfl
  have hname : ∀ i (hi : i < (nmsL (sec 9)).length), (nmsL (sec 9))[i] = unT ((srS sec).getD (1 + i) 0) ∧ nmN (unT ((srS sec).getD (1 + i) 0)) = (srS sec).getD (1 + i) 0 := fun i hi => by
    obtain ⟨N, hN1, hN2, hN3⟩ := hat i hi
    have hs := h5 _ (List.getElem_mem hi)
    rw [hN3] at hs
    obtain ⟨e1, e2⟩ := unI_yes hN1 hs
    rw [hN3, hN2]
    exact ⟨e1, e2⟩
  refine ⟨?_, hN, ?_, fun i hi => (hname i (by rw [hN]; exact hi)).2⟩
  · unfold fuM riM srM
    have e1 : srR sec = cdL (sec 10) := by rw [srR, if_pos hc]
    have e2 : riS (nmsL (sec 9)) sec (nmsL (sec 9)).length = srSn sec (srN sec) := by
      rw [hN]
      unfold riS srSn
      apply List.map_congr_left
      intro i hi
      have hi' : i < (nmsL (sec 9)).length := by rw [hN]; exact List.mem_range.1 hi
      have : (nmsL (sec 9)).getD i ⟨#[]⟩ = (nmsL (sec 9))[i] := by simp [List.getD, hi']
      rw [this, (hname i hi').1]
      rfl
    have e3 : riD sec 24 = (List.range 24).map (daR1 sec) := by
      unfold riD
      apply List.map_congr_left
      intro c hc'
      have hc24 := List.mem_range.1 hc'
      rw [if_pos hc24]
      unfold riV daR1
      rw [e1]
      have hp := cd_pos (sec := sec) hc hc24
      by_cases hz : (cdL (sec 10)).getD c 0 = 0
      · rw [if_neg (by omega), if_pos hz]
      · rw [if_pos (by omega), if_neg hz]
    rw [e1, e2, e3]
    rfl
  · unfold supB
    rw [show openB (sec 9) 1 = true from h1]
    simp only [Bool.true_and, Bool.and_eq_true, decide_eq_true_eq]
    have h4' : ((openL (sec 9) 1).length : Int) = 1 + (openL (sec 9) 1).getD 0 0 := by omega
    exact ⟨⟨h2, h3⟩, h4'⟩
theorem fu_sr (sec : Nat → ByteArray) : fuSB sec = srB sec ∧ (srB sec = true → fuM sec = srM sec) := by
  have key : fuSB sec = true ↔ srB sec = true := by
    constructor
    · intro h
      simp only [fuSB, Bool.and_eq_true] at h
      obtain ⟨hn, hr⟩ := h
      obtain ⟨r1, r2, r3, r4, r5⟩ := riB_parts hr
      obtain ⟨e1, e2, e3, e4⟩ := fu_img hn r1
      have e1' : riM (nmsL (sec 9)) sec = srM sec := e1
      rw [e1'] at r5
      have er : srR sec = cdL (sec 10) := by rw [srR, if_pos r1]
      simp only [srB, srP, Bool.and_eq_true, List.all_eq_true, List.mem_range]
      refine ⟨⟨⟨⟨⟨e3, r1⟩, r2⟩, fun i hi => ?_⟩, fun c hc => ?_⟩, r5⟩
      · rw [snB1, r3 i (by rw [e2]; exact hi), e4 i hi]; simp
      · unfold daB1
        rw [er]
        have hp := cd_pos (sec := sec) r1 hc
        by_cases hz : (cdL (sec 10)).getD c 0 = 0
        · rw [decide_eq_true hz]; rfl
        · have hv := r4 c hc (by omega)
          simp only [vlB] at hv
          rw [hv]; simp
    · intro h
      simp only [srB, srP, Bool.and_eq_true, List.all_eq_true, List.mem_range] at h
      obtain ⟨⟨⟨⟨⟨s1, s2⟩, s3⟩, s4⟩, s5⟩, s6⟩ := h
      have er : srR sec = cdL (sec 10) := by rw [srR, if_pos s2]
      have hR := imB_iff.1 s6
      simp only [supB, Bool.and_eq_true, decide_eq_true_eq] at s1
      obtain ⟨⟨⟨t1, t2'⟩, t3'⟩, t4'⟩ := s1
      have t2 : 0 < (openL (sec 9) 1).length := t2'
      have t3 : (openL (sec 9) 1).getD 0 0 ≤ 3 := t3'
      have t4 : ((openL (sec 9) 1).length : Int) = 1 + (openL (sec 9) 1).getD 0 0 := t4'
      clear t2' t3' t4'
      have hin := openL_in t1
      have hx0 := hin 0 t2
      have eg0 : (openL (sec 9) 1).getD 0 0 = (openL (sec 9) 1)[0] := by simp [List.getD, t2]
      have hNl : srN sec = (openL (sec 9) 1).length - 1 := by
        rw [srN, srS]
        omega
      have hnms : nmsB (sec 9) = true := by
        have hall : (nmsL (sec 9)).all snmB = true := by
          rw [List.all_eq_true]
          intro x hx
          obtain ⟨v, hv, rfl⟩ := List.mem_map.1 hx
          obtain ⟨i, hi, rfl⟩ := List.mem_iff_getElem.1 hv
          rw [List.length_drop] at hi
          have hi' : 1 + i < (openL (sec 9) 1).length := by omega
          obtain ⟨x0, x1⟩ := hin (1 + i) hi'
          obtain ⟨N, hN'⟩ := Int.eq_ofNat_of_zero_le x0
          rw [List.getElem_drop, hN']
          have hmem : snR1 sec i ∈ (srM sec).snaps := by
            show snR1 sec i ∈ srSn sec (srN sec)
            exact List.mem_map.2 ⟨i, List.mem_range.2 (by rw [hNl]; exact hi), rfl⟩
          have hs := (hR.snaps _ hmem).1
          have : (snR1 sec i).name = unT (N : Int) := by
            show unT ((srS sec).getD (1 + i) 0) = _
            rw [srS]; simp only [List.getD, List.getElem?_eq_getElem hi', Option.getD_some, hN']
          rw [this] at hs
          exact unT_yes hs
        rw [nmsB, t1, hall, nmsH, decide_eq_true t2, decide_eq_true t3, decide_eq_true (by omega)]
        rfl
      obtain ⟨e1, e2, e3, e4⟩ := fu_img hnms s2
      have hri : riB (nmsL (sec 9)) sec = true := by
        refine ri_yes s2 s3 (fun i hi => ?_) (fun c hc hp => ?_) ?_
        · have := s4 i (by rw [← e2]; exact hi)
          simp only [snB1, Bool.and_eq_true] at this
          exact this.1
        · have := s5 c hc
          unfold daB1 at this
          rw [er, decide_eq_false (by omega)] at this
          simpa [vlB] using this
        · have e1' : riM (nmsL (sec 9)) sec = srM sec := e1
          rw [e1']; exact s6
      rw [fuSB, hnms, hri]; rfl
  refine ⟨Bool.eq_iff_iff.2 key, fun h => ?_⟩
  have hf := key.2 h
  simp only [fuSB, Bool.and_eq_true] at hf
  exact (fu_img hf.1 (riB_parts hf.2).1).1

end Go.Proofs.YtpdpnepnfhbonaaGreatDoor

namespace Go.Proofs.YtpdpnepnfhbonaaGreatDoor
open Go.RowKit
set_option linter.unusedVariables false
set_option maxRecDepth 100000

theorem fin_put {w W : World} {a : Im4} {M : Img} {ts : List Value} (r : VarM W w.heap.size 30 (.slice none 0 0) (.slice none 0 0) (.slice none 0 0) (.slice none 0 0)) (o : OwnIm W w.heap.size a M ts) (k : Below w.heap.size w W) : VarM (putI W w.heap.size a M) w.heap.size 30 (.slice a.ro M.refs.length a.rc) (.slice a.tq M.table.length a.tc) (.slice a.so M.snaps.length a.sc) (.slice a.dq M.data.length a.dc) ∧ OwnIm (putI W w.heap.size a M) w.heap.size a M ts ∧ Below w.heap.size w (putI W w.heap.size a M) := by
  have v1 := r.set0 (.slice a.ro M.refs.length a.rc)
  have v2 := v1.set1 (.slice a.tq M.table.length a.tc)
  have v3 := v2.set2 (.slice a.so M.snaps.length a.sc)
  exact ⟨v3.set3 _, own_setV (own_setV (own_setV (own_setV o r 0 _) v1 1 _) v2 2 _) v3 3 _, (((k.setCell (p := ⟨w.heap.size, 0, none⟩) (Nat.le_refl _) _).setCell (p := ⟨w.heap.size, 1, none⟩) (Nat.le_refl _) _).setCell (p := ⟨w.heap.size, 2, none⟩) (Nat.le_refl _) _).setCell (p := ⟨w.heap.size, 3, none⟩) (Nat.le_refl _) _⟩
theorem res_iI {fn : Func} {p u : Tmp} {v0 v1 v2 v3 z : Value} {x c : Nat} {W : World} {tmps : Array Value} (h : fn.results = #[.cell p 30, .cell u 3]) (hp : tmps.getD p undef = .pointer (some ⟨x, 0, none⟩)) (hu : tmps.getD u undef = .pointer (some ⟨c, 0, none⟩)) (hv : VarM W x 30 v0 v1 v2 v3) (hc : W.cell? ⟨c, 0, none⟩ = some z) :
    (results fn tmps).run Tryz.prog W = .ok (.tuple #[.agg #[v0, v1, v2, v3], z]) W := by
  obtain ⟨c0, c1, c2, c3⟩ := hv.cells
  rw [Array.getD_eq_getD_getElem?] at hp hu
  simp [results, h, hp, hu, go_sem, c0, c1, c2, c3, hc]
theorem own_cells {W : World} {B x c : Nat} {a : Im4} {M : Img} {ts : List Value} (h : OwnIm W B a M ts) (hx : x < B) (hc : c < B) (v0 v1 v2 v3 u : Value) : OwnIm (((((W.setCell ⟨x, 0, none⟩ v0).setCell ⟨x, 1, none⟩ v1).setCell ⟨x, 2, none⟩ v2).setCell ⟨x, 3, none⟩ v3).setCell ⟨c, 0, none⟩ u) B a M ts :=
  ((((h.setCell (p := ⟨x, 0, none⟩) hx _).setCell (p := ⟨x, 1, none⟩) hx _).setCell (p := ⟨x, 2, none⟩) hx _).setCell (p := ⟨x, 3, none⟩) hx _).setCell (p := ⟨c, 0, none⟩) hc _
theorem rcPut_any {w W : World} {x : Nat} (r : VarM W x 30 (.slice none 0 0) (.slice none 0 0) (.slice none 0 0) (.slice none 0 0)) (hx : w.heap.size ≤ x) (k : Below w.heap.size w W) (v0 v1 v2 v3 : Value) : VarM ((((W.setCell ⟨x, 0, none⟩ v0).setCell ⟨x, 1, none⟩ v1).setCell ⟨x, 2, none⟩ v2).setCell ⟨x, 3, none⟩ v3) x 30 v0 v1 v2 v3 ∧ Below w.heap.size w ((((W.setCell ⟨x, 0, none⟩ v0).setCell ⟨x, 1, none⟩ v1).setCell ⟨x, 2, none⟩ v2).setCell ⟨x, 3, none⟩ v3) :=
  ⟨(((r.set0 v0).set1 v1).set2 v2).set3 v3, (((k.setCell (p := ⟨x, 0, none⟩) hx _).setCell (p := ⟨x, 1, none⟩) hx _).setCell (p := ⟨x, 2, none⟩) hx _).setCell (p := ⟨x, 3, none⟩) hx _⟩
def FuP (sec : Nat → ByteArray) (w : World) (e : Ending) (w' : World) : Prop := ((fuSB sec = true ∧ ∃ a ts, e = .returned (imV a (fuM sec)) ∧ OwnIm w' w.heap.size a (fuM sec) ts) ∨ (fuSB sec = false ∧ Pan e)) ∧ Below w.heap.size w w'

set_option maxHeartbeats 3200000 in
theorem readSuper_any (x y z : Nat) (ss : List ByteArray) (xs : List Wr) (h : Int) (w : World) (hd : diskB ss xs = true) (hs : SeeW w x y ss xs h) (hz : w.cell? ⟨z, 0, none⟩ = some (seeV x y)) (hE : ErrW w) :
    Calls Tryz.prog 23 #[.string (secV ss xs h 9), .pointer (some ⟨z, 0, none⟩)] w fun e w' => FuP (secV ss xs h) w e w' := by
  have HDB := hide hd
  have HSE := hide hs
  have HER := hide hE
  have HZ := hide hz
  have HSZ : Hid ((secV ss xs h 9).size ≤ 65536) := hide (by have := readV_size hd h ((9 : Nat) : Int); show (readV ss xs h ((9 : Nat) : Int)).size ≤ 65536; omega)
  have HR0 := hide (VarM.new w 30 (.slice none 0 0) (.slice none 0 0) (.slice none 0 0) (.slice none 0 0))
  have HA0 := hide (Joins.below_alloc1 w (.cells #[.slice none 0 0, .slice none 0 0, .slice none 0 0, .slice none 0 0] 30))
  clear hd hs hz hE
  go_enter Tryz.func23, Tryz.ntmps23
  go_upto_region 1 with fail
  revert HR0
  revert HA0
  generalize (w.alloc _) = W0
  intro HA0 HR0
  have hS0 : Below W0.heap.size W0 W0.drew := (Below.refl _ _).drew
  refine wp_region_ordP (fun c d v a w h => by cases d <;> exact h) (fun w' => Below W0.heap.size W0 w') [0, 1, 2, 3] [(0, 0), (2, 0), (1, 2), (3, 2), (4, 3)] (by kernel_rfl) (by kernel_rfl) rfl (by kernel_rfl) ?_
  refine ord_read (.string (secV ss xs h 9)) rfl rfl hS0 (fun W hW => by go_simp) ?_
  refine ord_read (seeV x y) rfl rfl hS0 (fun W hW => by have k0 := ((fr (unhide HA0) hW).cell (p := ⟨z, 0, none⟩) (World.block_lt_of_cell? _ _ (unhide HZ))).trans (unhide HZ); go_simp) ?_
  have HB0 := hide hS0
  clear hS0
  refine ord_held rfl rfl ?_
  intro K hK
  unfold Oper.wp
  go_simp
  refine (readNames_any (secV ss xs h 9) _ (unhide HSZ) ((unhide HER).below (fr (unhide HA0) (unhide HB0)))).mono ?_
  rintro e w1 ⟨⟨hok, qo, qa, rfl, hss⟩ | ⟨hok, u, pv, rfl⟩, hb⟩
  case inr =>
    exact ⟨rfl, .inr ⟨by rw [fuSB, hok]; rfl, _, _, rfl⟩, fr (unhide HA0) (fr (unhide HB0) hb)⟩
  have HOK := hide hok
  have HSS := hide hss
  have HB1 := hide (fr (unhide HB0) hb)
  have hfew := nms_few hok
  have HFW := hide hfew
  clear hok hss hb hfew
  refine hK _ _ (unhide HB1) ?_
  clear hK K
  refine ord_held rfl rfl ?_
  intro K hK
  unfold Oper.wp
  go_simp
  refine (readImage_impl0 qo qa x y (nmsL (secV ss xs h 9)) ss xs h _ (unhide HDB) (unhide HFW).1 (unhide HFW).2 (unhide HSS) ((unhide HSE).below (fr (unhide HA0) (unhide HB1))) ((unhide HER).below (fr (unhide HA0) (unhide HB1)))).mono ?_
  rintro e w2 ⟨⟨hok, a, ts, rfl, ho⟩ | ⟨hok, u, pv, rfl⟩, hb⟩
  case inr =>
    exact ⟨rfl, .inr ⟨by rw [fuSB, hok]; simp, _, _, rfl⟩, fr (unhide HA0) (fr (unhide HB1) hb)⟩
  have HF : Hid (fuSB (secV ss xs h) = true) := hide (by rw [fuSB, unhide HOK, hok]; rfl)
  have HB2 := hide (fr (unhide HB1) hb)
  have HFM : Hid (riM (nmsL (secV ss xs h 9)) (secV ss xs h) = fuM (secV ss xs h)) := hide rfl
  rw [unhide HFM] at ho ⊢
  have HO := hide (ho.base (fr (unhide HA0) (unhide HB1)).size)
  clear hok ho hb
  refine hK _ _ (unhide HB2) ?_
  clear hK K
  generalize hM : fuM (secV ss xs h) = M at *
  have HM := hide hM
  clear hM
  have HR2 := hide ((unhide HR0).below (unhide HB2))
  have HFN : Hid (VarM (putI w2 w.heap.size a M) w.heap.size 30 (.slice a.ro M.refs.length a.rc) (.slice a.tq M.table.length a.tc) (.slice a.so M.snaps.length a.sc) (.slice a.dq M.data.length a.dc) ∧ OwnIm (putI w2 w.heap.size a M) w.heap.size a M ts ∧ Below w.heap.size w (putI w2 w.heap.size a M)) := hide (fin_put (unhide HR2) (unhide HO) (fr (unhide HA0) (unhide HB2)))
  unfold putI at HFN
  obtain ⟨r0, r1, r2, r3⟩ := (unhide HR2).cells
  obtain ⟨z0, z1, z2, z3⟩ := (unhide HR2).free
  refine ord_alone rfl rfl ?_
  intro K hK
  unfold Oper.wp
  go_simp
  refine hK _ _ ?_
  clear hK K
  refine ord_doneP ?_
  go_wp2
  refine bodyPost_ret (res_im Tryz.results23 rfl (unhide HFN).1) rfl ?_
  refine ⟨.inl ⟨unhide HF, a, ts, ?_, ?_⟩, (unhide HFN).2.2⟩
  · rw [unhide HM]
  · rw [unhide HM]; exact (unhide HFN).2.1

theorem catchI_panicking (p : Addr) (x : Int) (u : TypeId) (pv : Value) (older : List PanicEntry) (w : World) (hc : w.cell? p = some (.int .i64 x)) (hz : w.frozen? p = false) :
    CallsD Tryz.prog 49 #[.pointer (some p)] (.panicking ({ v := .iface u pv, recovered := false } :: older)) w fun e u' w' =>
      e = .returned (.tuple #[]) ∧ u' = .panicking ({ v := .iface u pv, recovered := true } :: older) ∧ w' = w.setCell p (.int .i64 3) := by
  refine callsD_of_wpS Tryz.func49 rfl fun c₀ cs hu => ?_
  apply wpS_seq
  apply wpS_region
  simp [wpOpsS, go_sem, recoverD, hu, Tryz.ntmps49, Exit.thenS]
  refine wpS_cond (t := true) (by simp [Act.eval, Array.replicate]) ?_
  simp only [if_true]
  apply wpS_region
  simp [wpOpsS, go_sem, hc, hz, bodyPostS, results, Tryz.results49]
theorem catchI_idle (p : Addr) (w : World) :
    CallsD Tryz.prog 49 #[.pointer (some p)] .returning w fun e u' w' => e = .returned (.tuple #[]) ∧ u' = .returning ∧ w' = w := by
  refine callsD_of_wpS Tryz.func49 rfl fun c₀ cs hu => ?_
  apply wpS_seq
  apply wpS_region
  simp [wpOpsS, go_sem, recoverD, hu, Tryz.ntmps49, Exit.thenS]
  refine wpS_cond (t := false) (by simp [Act.eval, Array.replicate]) ?_
  simp only [Bool.false_eq_true, if_false]
  refine wpS_of_wp (wp_skip ?_)
  cases c₀
  simp_all [bodyPostS, results, Tryz.results49]

def rtI (sec : Nat → ByteArray) : Img := if fuSB sec = true then fuM sec else im0
def rtC (sec : Nat → ByteArray) : Int := if fuSB sec = true then 0 else 3

set_option maxHeartbeats 3200000 in
theorem readTextI_any (x y z : Nat) (ss : List ByteArray) (xs : List Wr) (h : Int) (w : World) (hd : diskB ss xs = true) (hs : SeeW w x y ss xs h) (hz : w.cell? ⟨z, 0, none⟩ = some (seeV x y)) (hE : ErrW w) :
    Calls Tryz.prog 22 #[.string (secV ss xs h 9), .func (.func 23) #[] #[.pointer (some ⟨z, 0, none⟩)]] w fun e w' => ∃ a ts, e = .returned (.tuple #[imV a (rtI (secV ss xs h)), .int .i64 (rtC (secV ss xs h))]) ∧ OwnIm w' w.heap.size a (rtI (secV ss xs h)) ts ∧ Below w.heap.size w w' := by
  have hmf : ∀ (fn : Fn) (first cap : Array Value) (w : World), (Instr.makeFunc fn first cap).run Tryz.prog w = .ok (.func fn first cap) w := fun _ _ _ _ => rfl
  have hcf : ∀ args W, (callFunc 23 args).run Tryz.prog W = .ok (.enter 23 args) W := fun _ _ => rfl
  have HDB := hide hd
  have HSE := hide hs
  have HER := hide hE
  have HZ := hide hz
  have hsz : (secV ss xs h 9).size ≤ 65536 := by have := readV_size hd h ((9 : Nat) : Int); show (readV ss xs h ((9 : Nat) : Int)).size ≤ 65536; omega
  have HA := hide (Joins.below_alloc2 w (.cells #[.slice none 0 0, .slice none 0 0, .slice none 0 0, .slice none 0 0] 30) (.cells #[.int .i64 0] 3))
  have HR := hide ((VarM.new w 30 (.slice none 0 0) (.slice none 0 0) (.slice none 0 0) (.slice none 0 0)).below (Joins.below_alloc1 _ (.cells #[.int .i64 0] 3)))
  have HC : Hid (((w.alloc (.cells #[.slice none 0 0, .slice none 0 0, .slice none 0 0, .slice none 0 0] 30)).alloc (.cells #[.int .i64 0] 3)).heap[w.heap.size + 1]? = some (.cells #[.int .i64 0] 3 (0, 0))) := hide (by have := heap_alloc_new (w.alloc (.cells #[.slice none 0 0, .slice none 0 0, .slice none 0 0, .slice none 0 0] 30)) (.cells #[.int .i64 0] 3); rwa [World.size_alloc] at this)
  clear hd hs hz hE
  go_enter_defers Tryz.func22, Tryz.ntmps22
  go_upto_region 1 with fail
  revert HC
  revert HR
  revert HA
  generalize ((w.alloc _).alloc _) = W0
  intro HA HR HC
  go_wp2_with fail
  refine (readSuper_any x y z ss xs h _ (unhide HDB) ((unhide HSE).below (unhide HA)) (((unhide HA).cell (p := ⟨z, 0, none⟩) (World.block_lt_of_cell? _ _ (unhide HZ))).trans (unhide HZ)) ((unhide HER).below (unhide HA))).mono ?_
  rintro e w1 ⟨⟨hok, a, ts, rfl, ho⟩ | ⟨hok, u, pv, rfl⟩, hb⟩
  · have HRT : Hid (rtI (secV ss xs h) = fuM (secV ss xs h) ∧ rtC (secV ss xs h) = 0) := hide ⟨if_pos hok, if_pos hok⟩
    have HB1 := hide (fr (unhide HA) hb)
    have HR1 := hide ((unhide HR).below hb)
    have hC1 := block_of_below (unhide HC) hb
    have HC1 := hide hC1
    have hlt1 : w.heap.size + 1 < W0.heap.size := (Array.getElem?_eq_some_iff.1 (unhide HC)).1
    have HW0 := hide (unhide HA).size
    have HO := hide (ho.base (unhide HA).size)
    have HOX := hide (fun v0 v1 v2 v3 u => (own_cells ho (x := w.heap.size) (c := w.heap.size + 1) (by omega) hlt1 v0 v1 v2 v3 u).base (unhide HA).size)
    clear hok ho hb HA HR HC hC1 hlt1
    generalize hM : fuM (secV ss xs h) = M at *
    clear hM
    have HFN := hide (fin_put (unhide HR1) (unhide HO) (unhide HB1))
    have HCP : Hid ((putI w1 w.heap.size a M).heap[w.heap.size + 1]? = some (.cells #[.int .i64 0] 3 (0, 0))) := hide (by
      unfold putI
      rw [Below.heap_setCell _ ⟨w.heap.size, 3, none⟩ _ _ (by simp), Below.heap_setCell _ ⟨w.heap.size, 2, none⟩ _ _ (by simp), Below.heap_setCell _ ⟨w.heap.size, 1, none⟩ _ _ (by simp), Below.heap_setCell _ ⟨w.heap.size, 0, none⟩ _ _ (by simp)]
      exact unhide HC1)
    unfold putI at HFN HCP
    obtain ⟨r0, r1, r2, r3⟩ := (unhide HR1).cells
    obtain ⟨z0, z1, z2, z3⟩ := (unhide HR1).free
    have cc1 : w1.cell? ⟨w.heap.size + 1, 0, none⟩ = some (.int .i64 0) := by rw [Joins.cell_of_block (unhide HC1)]; rfl
    have cf1 := Joins.unfrozen_of_block (unhide HC1) 0
    go_wp2
    clear r0 r1 r2 r3 z0 z1 z2 z3 cc1 cf1
    have HO3 := hide (unhide HOX (.slice a.ro M.refs.length a.rc) (.slice a.tq M.table.length a.tc) (.slice a.so M.snaps.length a.sc) (.slice a.dq M.data.length a.dc) (.int .i64 0))
    clear HOX
    revert HO3
    revert HFN
    revert HCP
    generalize ((((w1.setCell _ _).setCell _ _).setCell _ _).setCell _ _) = w2
    intro HCP HFN HO3
    have cc2 : w2.cell? ⟨w.heap.size + 1, 0, none⟩ = some (.int .i64 0) := by rw [Joins.cell_of_block (unhide HCP)]; rfl
    have HV3 := hide ((unhide HFN).1.other (p := ⟨w.heap.size + 1, 0, none⟩) (by simp) (.int .i64 0))
    have HB3 := hide ((unhide HFN).2.2.setCell (p := ⟨w.heap.size + 1, 0, none⟩) (Nat.le_succ _) (.int .i64 0))
    have HCC := hide (World.cell?_setCell_same _ _ (.int .i64 0) cc2)
    clear cc2
    refine leaves_cons (f := 49) (args := #[.pointer (some ⟨w.heap.size + 1, 0, none⟩)]) (by simp) (by simp [go_sem]) ?_
    refine (catchI_idle ⟨w.heap.size + 1, 0, none⟩ _).mono ?_
    rintro e u' w'' ⟨rfl, rfl, rfl⟩
    refine ⟨.tuple #[imV a M, .int .i64 0], res_iI Tryz.results22 rfl rfl (unhide HV3) (unhide HCC), ?_⟩
    rw [(unhide HRT).1, (unhide HRT).2]
    exact ⟨a, ts, rfl, unhide HO3, unhide HB3⟩
  · have HRT : Hid (rtI (secV ss xs h) = im0 ∧ rtC (secV ss xs h) = 3) := hide ⟨if_neg (by simp [hok]), if_neg (by simp [hok])⟩
    have HB1 := hide (fr (unhide HA) hb)
    have HR1 := hide ((unhide HR).below hb)
    have hC1 := block_of_below (unhide HC) hb
    have HC1 := hide hC1
    clear hok hb HA HR HC hC1
    have cc1 : w1.cell? ⟨w.heap.size + 1, 0, none⟩ = some (.int .i64 0) := by rw [Joins.cell_of_block (unhide HC1)]; rfl
    have cf1 := Joins.unfrozen_of_block (unhide HC1) 0
    go_wp2
    refine leaves_cons (f := 49) (args := #[.pointer (some ⟨w.heap.size + 1, 0, none⟩)]) (by simp) (by simp [go_sem]) ?_
    refine (catchI_panicking ⟨w.heap.size + 1, 0, none⟩ 0 u pv [] _ cc1 cf1).mono ?_
    rintro e u' w'' ⟨rfl, rfl, rfl⟩
    have HV3 := hide ((unhide HR1).other (p := ⟨w.heap.size + 1, 0, none⟩) (by simp) (.int .i64 3))
    have HB3 := hide ((unhide HB1).setCell (p := ⟨w.heap.size + 1, 0, none⟩) (Nat.le_succ _) (.int .i64 3))
    have HCC := hide (World.cell?_setCell_same _ _ (.int .i64 3) cc1)
    refine ⟨.tuple #[.agg #[.slice none 0 0, .slice none 0 0, .slice none 0 0, .slice none 0 0], .int .i64 3], res_iI Tryz.results22 rfl rfl (unhide HV3) (unhide HCC), ?_⟩
    rw [(unhide HRT).1, (unhide HRT).2]
    exact ⟨⟨none, 0, none, 0, none, 0, none, 0⟩, [], rfl, OwnIm.zero _ _, unhide HB3⟩

set_option maxHeartbeats 3200000 in
theorem readImage_impl (ao bo : Option Addr) (ca cb : Nat) (ss : List ByteArray) (xs : List Wr) (h : Int) (w : World) (hl : ss.length ≤ maxLen) (hm : xs.length ≤ maxLen) (h1 : Ss w ao ss) (h2 : Ios w bo xs) (hE : ErrW w) :
    Calls Tryz.prog 7 #[.agg #[.slice ao ss.length ca, .slice bo xs.length cb], .int .i64 h] w fun e w' => AnsI w w' e (rdA ss xs h) := by
  have hmf : ∀ (fn : Fn) (first cap : Array Value) (w : World), (Instr.makeFunc fn first cap).run Tryz.prog w = .ok (.func fn first cap) w := fun _ _ _ _ => rfl
  have hcf : ∀ args W, (callFunc 20 args).run Tryz.prog W = .ok (.enter 20 args) W := fun _ _ => rfl
  have HA := hide (Joins.below_alloc3 w (.cells #[.slice ao ss.length ca, .slice bo xs.length cb] 35) (.cells #[.int .i64 h] 3) (.cells #[.slice none 0 0, .slice none 0 0, .slice none 0 0, .slice none 0 0] 30))
  have HV := hide ((VarD.new w (.slice ao ss.length ca) (.slice bo xs.length cb)).below (Joins.below_alloc2 _ (.cells #[.int .i64 h] 3) (.cells #[.slice none 0 0, .slice none 0 0, .slice none 0 0, .slice none 0 0] 30)))
  have HH : Hid (((((w.alloc (.cells #[.slice ao ss.length ca, .slice bo xs.length cb] 35)).alloc (.cells #[.int .i64 h] 3)).alloc (.cells #[.slice none 0 0, .slice none 0 0, .slice none 0 0, .slice none 0 0] 30))).heap[w.heap.size + 1]? = some (.cells #[.int .i64 h] 3 (0, 0))) := hide (by
    have := heap_alloc_new (w.alloc (.cells #[.slice ao ss.length ca, .slice bo xs.length cb] 35)) (.cells #[.int .i64 h] 3)
    rw [World.size_alloc] at this
    exact block_of_below this (Joins.below_alloc1 _ _))
  have HR : Hid (VarM (((w.alloc (.cells #[.slice ao ss.length ca, .slice bo xs.length cb] 35)).alloc (.cells #[.int .i64 h] 3)).alloc (.cells #[.slice none 0 0, .slice none 0 0, .slice none 0 0, .slice none 0 0] 30)) (w.heap.size + 2) 30 (.slice none 0 0) (.slice none 0 0) (.slice none 0 0) (.slice none 0 0)) := hide ((VarM.new ((w.alloc (.cells #[.slice ao ss.length ca, .slice bo xs.length cb] 35)).alloc (.cells #[.int .i64 h] 3)) 30 (.slice none 0 0) (.slice none 0 0) (.slice none 0 0) (.slice none 0 0)).at (by simp))
  have H1 := hide (h1.below (unhide HA))
  have H2 := hide (h2.below (unhide HA))
  have HE := hide (hE.below (unhide HA))
  have HL := hide hl
  have HM := hide hm
  obtain ⟨R, HRQ⟩ : ∃ R, Hid (rdA ss xs h = R) := ⟨_, hide rfl⟩
  rw [unhide HRQ]
  clear h1 h2 hE hl hm
  go_enter Tryz.func7, Tryz.ntmps7
  go_upto_region 1 with fail
  revert HE
  revert H2
  revert H1
  revert HR
  revert HH
  revert HV
  revert HA
  generalize (((w.alloc _).alloc _).alloc _) = W0
  intro HA HV HH HR H1 H2 HE
  obtain ⟨v0, v1⟩ := (unhide HV).cells
  have vh : W0.cell? ⟨w.heap.size + 1, 0, none⟩ = some (.int .i64 h) := by rw [Joins.cell_of_block (unhide HH)]; rfl
  go_wp2_with fail
  refine (hostFault_any ao bo ca cb ss xs h _ (unhide HL) (unhide HM) (unhide H1) (unhide H2)).mono ?_
  rintro e w1 ⟨rfl, hb⟩
  have HB1 := hide (fr (unhide HA) hb)
  have HR1 := hide ((unhide HR).below hb)
  have HS1 : Hid (SeeW w1 w.heap.size (w.heap.size + 1) ss xs h) := hide ⟨⟨ao, ca, bo, cb, (unhide HV).below hb, (unhide H1).below hb, (unhide H2).below hb⟩, (hb.cell (p := ⟨w.heap.size + 1, 0, none⟩) (World.block_lt_of_cell? _ _ vh)).trans vh⟩
  have HE1 := hide ((unhide HE).below hb)
  clear hb v0 v1 vh HA HV HH HR H1 H2 HE
  by_cases hc : hostC ss xs h = 0
  case neg =>
    have hbn : (hostC ss xs h != 0) = true := by simp [hc]
    have HX : Hid (R = (im0, hostC ss xs h)) := hide (by rw [← unhide HRQ, rdA, if_neg hc])
    clear hc
    obtain ⟨r0, r1, r2, r3⟩ := (unhide HR1).cells
    obtain ⟨z0, z1, z2, z3⟩ := (unhide HR1).free
    have HFN := hide (rcPut_any (unhide HR1) (by omega) (unhide HB1) (.slice none 0 0) (.slice none 0 0) (.slice none 0 0) (.slice none 0 0))
    go_wp2
    refine bodyPost_ret (res_ic Tryz.results7 rfl rfl (unhide HFN).1) rfl ?_
    rw [unhide HX]
    exact AnsI.of (a := ⟨none, 0, none, 0, none, 0, none, 0⟩) (ts := []) (R := (im0, hostC ss xs h)) rfl rfl (OwnIm.zero _ _) (unhide HFN).2
  have hbn : (hostC ss xs h != 0) = false := by simp [hc]
  have HDB := hide (hostC_eq hc).1
  have HC0 := hide hc
  clear hc
  have HZ : Hid ((w1.alloc (.cells #[seeV w.heap.size (w.heap.size + 1)] 50)).cell? ⟨w1.heap.size, 0, none⟩ = some (seeV w.heap.size (w.heap.size + 1))) := hide (by rw [Joins.cell_of_block (heap_alloc_new w1 _)]; rfl)
  have HBZ := hide (Joins.below_alloc1 w1 (.cells #[seeV w.heap.size (w.heap.size + 1)] 50))
  unfold seeV at HZ HBZ
  go_upto_region 5 with fail
  revert HBZ
  revert HZ
  generalize (w1.alloc _) = w2
  intro HZ HBZ
  have HB2 := hide (fr (unhide HB1) (unhide HBZ))
  have HR2 := hide ((unhide HR1).below (unhide HBZ))
  have HS2 := hide ((unhide HS1).below (unhide HBZ))
  have HE2 := hide ((unhide HE1).below (unhide HBZ))
  clear HBZ HB1 HR1 HS1 HE1
  generalize w1.heap.size = zv at *
  have hz0 := unhide HZ
  go_wp2_with fail
  refine (see_any w.heap.size (w.heap.size + 1) 9 ss xs h _ (by omega) (unhide HDB) (unhide HS2)).mono ?_
  rintro e w3 ⟨rfl, hb⟩
  have HB3 := hide (fr (unhide HB2) hb)
  have HR3 := hide ((unhide HR2).below hb)
  have HS3 := hide ((unhide HS2).below hb)
  have HE3 := hide ((unhide HE2).below hb)
  have HZ3 : Hid (w3.cell? ⟨zv, 0, none⟩ = some (seeV w.heap.size (w.heap.size + 1))) := hide ((hb.cell (p := ⟨zv, 0, none⟩) (World.block_lt_of_cell? _ _ (unhide HZ))).trans (unhide HZ))
  clear hb hz0 HB2 HR2 HS2 HE2 HZ
  go_wp2_with fail
  refine (readTextI_any w.heap.size (w.heap.size + 1) zv ss xs h _ (unhide HDB) (unhide HS3) (unhide HZ3) (unhide HE3)).mono ?_
  rintro e w4 ⟨a, ts, rfl, ho, hb⟩
  have HB4 := hide (fr (unhide HB3) hb)
  have HR4 := hide ((unhide HR3).below hb)
  have HO4 := hide (ho.base (B' := w.heap.size) (unhide HB3).size)
  have HLT : Hid (w.heap.size + 2 < w3.heap.size) := hide (unhide HR3).lt
  have HOB := hide ho
  obtain ⟨hf1, hf2⟩ := fu_sr (secV ss xs h)
  have HXX : Hid (R = (rtI (secV ss xs h), if rtC (secV ss xs h) = 0 then 0 else 18)) := hide (by
    rw [← unhide HRQ, rdA, if_pos (unhide HC0), rtI, rtC, hf1]
    by_cases hs : srB (secV ss xs h) = true
    · rw [if_pos hs, if_pos hs, if_pos hs, hf2 hs]; rfl
    · rw [if_neg hs, if_neg hs, if_neg hs]; rfl)
  have HRC : Hid (rtC (secV ss xs h) = 0 ∨ (rtC (secV ss xs h) = 3 ∧ rtI (secV ss xs h) = im0)) := hide (by
    unfold rtC rtI
    by_cases hs : fuSB (secV ss xs h) = true
    · rw [if_pos hs]; exact .inl rfl
    · rw [if_neg hs, if_neg hs]; exact .inr ⟨rfl, rfl⟩)
  clear ho hb HB3 HR3 HS3 HE3 HZ3 hf1 hf2 HRQ
  generalize rtI (secV ss xs h) = M at *
  generalize rtC (secV ss xs h) = CD at *
  have HV5 := hide (VarM.new w4 30 (.slice a.ro M.refs.length a.rc) (.slice a.tq M.table.length a.tc) (.slice a.so M.snaps.length a.sc) (.slice a.dq M.data.length a.dc))
  have HA5 := hide (Joins.below_alloc1 w4 (.cells #[.slice a.ro M.refs.length a.rc, .slice a.tq M.table.length a.tc, .slice a.so M.snaps.length a.sc, .slice a.dq M.data.length a.dc] 30))
  go_upto_region 6 with fail
  revert HA5
  revert HV5
  generalize (w4.alloc _) = w5
  intro HV5 HA5
  have HB5 := hide (fr (unhide HB4) (unhide HA5))
  have HR5 := hide ((unhide HR4).below (unhide HA5))
  have HO5 := hide ((unhide HOB).below (unhide HA5))
  clear HA5 HB4 HR4 HO4 HOB
  generalize w4.heap.size = xv at *
  obtain ⟨r0, r1, r2, r3⟩ := (unhide HR5).cells
  obtain ⟨z0, z1, z2, z3⟩ := (unhide HR5).free
  rcases unhide HRC with rfl | ⟨rfl, rfl⟩
  · obtain ⟨c0, c1, c2, c3⟩ := (unhide HV5).cells
    have HX : Hid (R = (M, 0)) := hide (by rw [unhide HXX]; rfl)
    have HFN := hide (rcPut_any (unhide HR5) (by omega) (unhide HB5) (.slice a.ro M.refs.length a.rc) (.slice a.tq M.table.length a.tc) (.slice a.so M.snaps.length a.sc) (.slice a.dq M.data.length a.dc))
    have HOF := hide (((own_cells (unhide HO5) (x := w.heap.size + 2) (c := 0) (unhide HLT) (by have := unhide HLT; omega) (.slice a.ro M.refs.length a.rc) (.slice a.tq M.table.length a.tc) (.slice a.so M.snaps.length a.sc) (.slice a.dq M.data.length a.dc) undef)))
    have HOG : Hid (OwnIm ((((w5.setCell ⟨w.heap.size + 2, 0, none⟩ (.slice a.ro M.refs.length a.rc)).setCell ⟨w.heap.size + 2, 1, none⟩ (.slice a.tq M.table.length a.tc)).setCell ⟨w.heap.size + 2, 2, none⟩ (.slice a.so M.snaps.length a.sc)).setCell ⟨w.heap.size + 2, 3, none⟩ (.slice a.dq M.data.length a.dc)) w.heap.size a M ts) := hide (((((unhide HO5).setCell (p := ⟨w.heap.size + 2, 0, none⟩) (unhide HLT) _).setCell (p := ⟨w.heap.size + 2, 1, none⟩) (unhide HLT) _).setCell (p := ⟨w.heap.size + 2, 2, none⟩) (unhide HLT) _).setCell (p := ⟨w.heap.size + 2, 3, none⟩) (unhide HLT) _ |>.base (by have := unhide HLT; omega))
    clear HOF
    go_wp2
    refine bodyPost_ret (res_ic Tryz.results7 rfl rfl (unhide HFN).1) rfl ?_
    rw [unhide HX]
    exact AnsI.of (a := a) (ts := ts) (R := (M, 0)) rfl rfl (unhide HOG) (unhide HFN).2
  · have HX : Hid (R = (im0, 18)) := hide (by rw [unhide HXX]; rfl)
    have HFN := hide (rcPut_any (unhide HR5) (by omega) (unhide HB5) (.slice none 0 0) (.slice none 0 0) (.slice none 0 0) (.slice none 0 0))
    go_wp2
    refine bodyPost_ret (res_ic Tryz.results7 rfl rfl (unhide HFN).1) rfl ?_
    rw [unhide HX]
    exact AnsI.of (a := ⟨none, 0, none, 0, none, 0, none, 0⟩) (ts := []) (R := (im0, 18)) rfl rfl (OwnIm.zero _ _) (unhide HFN).2

end Go.Proofs.YtpdpnepnfhbonaaGreatDoor

namespace Go.Proofs.YtpdpnepnfhbonaaGreatDoor
open Go.RowKit
set_option linter.unusedVariables false
set_option maxRecDepth 100000

theorem rdA_bd (ss : List ByteArray) (xs : List Wr) (h : Int) : ImBd (rdA ss xs h).1 := by
  unfold rdA
  split
  · split
    · rename_i hs
      have hi : imB (srM (secV ss xs h)) = true := by
        unfold srB at hs
        rw [Bool.and_eq_true] at hs
        exact hs.2
      exact ImBd.M (imB_iff.1 hi).M
    · exact ImBd.zero
  · exact ImBd.zero
theorem host_disk {ss : List ByteArray} {xs : List Wr} {h : Int} (e : hostC ss xs h = 0) : diskB ss xs = true := by
  cases hb : diskB ss xs with
  | true => rfl
  | false => exfalso; simp [hostC, hb] at e
theorem wkReadImage (ao bo : Option Addr) (ca cb : Nat) (ss : List ByteArray) (xs : List Wr) (h : Int) (w : World) (hl : ss.length ≤ maxLen) (hm : xs.length ≤ maxLen) (hc : Ss w ao ss) (hd : Ios w bo xs) (hE : ErrW w) :
    Calls Tryz.prog 3 #[.agg #[.slice ao ss.length ca, .slice bo xs.length cb], .int .i64 h] w fun e w' => e = .returned (.bool true) ∧ Below w.heap.size w w' :=
  lawReadImage ao bo ca cb ss xs h (rdA ss xs h).1 (rdA ss xs h).2 w hl hm hc hd (rdA_bd ss xs h)
    (fun po qo pa qa W hW h1 h2 => readImage_spec po qo pa qa ss xs h W hl hm h1 h2 (fun e0 W2 k1 k2 => l11Read_any po qo pa qa ss xs h W2 (host_disk e0) k1 k2))
    (fun po qo pa qa W hW h1 h2 => readImage_impl po qo pa qa ss xs h W hl hm h1 h2 (hE.below hW))

end Go.Proofs.YtpdpnepnfhbonaaGreatDoor
