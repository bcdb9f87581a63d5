import Derived.Test.YtdfinapjgffjiaaGreatDoorRows
import Derived.Test.YtdfinapjgffjiaaGreatDoorPart1
import Derived.Test.YtdfinapjgffjiaaGreatDoorPart2
import Derived.Test.YtdfinapjgffjiaaGreatDoorPart3
import Derived.WalkKit
import Derived.WalkSpells
import Derived.Deep.RegionLawGrows
import Derived.Deep.RegionLaw
import Derived.Deep.AppendLies
import Derived.Test.YtdfinapjgffjiaaGreatDoorPart4
import Derived.Deep.RegionWith
import Derived.Laws.BytesArg

/- Contract of spec.l01Write: the disk with one write more, whose row of writes is new. -/
namespace Go.Proofs.YtdfinapjgffjiaaGreatDoor
open Go.RowKit
set_option linter.unusedVariables false

theorem write_end {w wL : World} {g k cap : Nat} {cs : List Value} (ho : wL.ownsRow (w.heap.size + 1 + 1 + 1) 65 3 (.slice (some ⟨g, 0, none⟩) k cap) k cs) (hb : Below w.heap.size w wL) (a b c : Value) :
    (((wL.setCell ⟨w.heap.size, 1, none⟩ a).setCell ⟨w.heap.size + 1 + 1, 0, none⟩ b).setCell ⟨w.heap.size + 1 + 1, 1, none⟩ c).ownsRow w.heap.size 65 3 (.slice (some ⟨g, 0, none⟩) k cap) k cs ∧ Below w.heap.size w (((wL.setCell ⟨w.heap.size, 1, none⟩ a).setCell ⟨w.heap.size + 1 + 1, 0, none⟩ b).setCell ⟨w.heap.size + 1 + 1, 1, none⟩ c) :=
  ⟨own_base (ownsRow_setCell_below (ownsRow_setCell_below (ownsRow_setCell_below ho (a := ⟨w.heap.size, 1, none⟩) (by simp; omega) a) (a := ⟨w.heap.size + 1 + 1, 0, none⟩) (by simp) b) (a := ⟨w.heap.size + 1 + 1, 1, none⟩) (by simp) c) (by omega),
    ((hb.setCell (p := ⟨w.heap.size, 1, none⟩) (by simp) a).setCell (p := ⟨w.heap.size + 1 + 1, 0, none⟩) (by simp; omega) b).setCell (p := ⟨w.heap.size + 1 + 1, 1, none⟩) (by simp; omega) c⟩


set_option maxRecDepth 100000 in
set_option maxHeartbeats 6400000 in
theorem l01Write_any (ao bo : Option Addr) (n ca cb : Nat) (xs : List Wr) (x : Wr) (w : World) (hm : xs.length ≤ 1048576) (h2 : Ios w bo xs) :
    Calls Tryz.prog 44 #[.agg #[.slice ao n ca, .slice bo xs.length cb], .agg #[.int .i64 x.host, .int .i64 x.at_, .string x.data]] w fun e w' => ∃ g cap, e = .returned (.agg #[.slice ao n ca, .slice (some ⟨g, 0, none⟩) (xs.length + 1) cap]) ∧ w'.ownsRow w.heap.size 65 3 (.slice (some ⟨g, 0, none⟩) (xs.length + 1) cap) (xs.length + 1) (ioV (xs ++ [x])) ∧ Below w.heap.size w w' := by
  have HA := hide (Joins.below_alloc3 w (.cells #[.slice ao n ca, .slice bo xs.length cb] 26) (.cells #[.int .i64 x.host, .int .i64 x.at_, .string x.data] 65) (.cells #[.slice none 0 0, .slice none 0 0] 26))
  have HX := hide (h2.below (unhide HA))
  have HV := hide ((VarD.new w (.slice ao n ca) (.slice bo xs.length cb)).below (Joins.below_alloc2 _ (.cells #[.int .i64 x.host, .int .i64 x.at_, .string x.data] 65) (.cells #[.slice none 0 0, .slice none 0 0] 26)))
  have HR : Hid (VarD (((w.alloc (.cells #[.slice ao n ca, .slice bo xs.length cb] 26)).alloc (.cells #[.int .i64 x.host, .int .i64 x.at_, .string x.data] 65)).alloc (.cells #[.slice none 0 0, .slice none 0 0] 26)) (w.heap.size + 1 + 1) (.slice none 0 0) (.slice none 0 0)) := hide (by have := VarD.new ((w.alloc (.cells #[.slice ao n ca, .slice bo xs.length cb] 26)).alloc (.cells #[.int .i64 x.host, .int .i64 x.at_, .string x.data] 65)) (.slice none 0 0) (.slice none 0 0); simp only [World.size_alloc] at this; exact this)
  have HI : Hid (VarI (((w.alloc (.cells #[.slice ao n ca, .slice bo xs.length cb] 26)).alloc (.cells #[.int .i64 x.host, .int .i64 x.at_, .string x.data] 65)).alloc (.cells #[.slice none 0 0, .slice none 0 0] 26)) (w.heap.size + 1) x) := hide (VarI.below (by have := VarI.new (w.alloc (.cells #[.slice ao n ca, .slice bo xs.length cb] 26)) x; simp only [World.size_alloc] at this; exact this) (Joins.below_alloc1 _ _))
  clear h2
  obtain ⟨j0, hj, hy0, hy1, hy2⟩ := info_parts infoW
  go_enter Tryz.func44, Tryz.ntmps44
  go_wp2
  go_region_law
    (first
      | (refine (step_append_fresh ?_ (.tmp 5) (.tmp 7) 24 ?_ 65 j0 (.agg #[.int .i64 0, .int .i64 0, .string ⟨#[]⟩]) 3 32 Tryz.underlying24 hj hy0 hy1 hy2 ?_ ?_ ?_ bo xs.length cb (ioV xs) ?_ ?_ ?_ ?_ ?_ ?_)
         · rfl
         · rfl
         · rfl
         · omega
         · rfl
         · rfl
         · rw [ioV_length]
         · refine Ios.src ((unhide HX).below ?_)
           repeat (first | exact Below.refl _ _ | exact hbA | refine Below.drew ?_ | refine belowAl ?_ _)
         · unfold maxLen; omega
         · omega
         intro qo qa wA hoA hgA
         have hbA : Below (((w.alloc (.cells #[.slice ao n ca, .slice bo xs.length cb] 26)).alloc (.cells #[.int .i64 x.host, .int .i64 x.at_, .string x.data] 65)).alloc (.cells #[.slice none 0 0, .slice none 0 0] 26)).heap.size (((w.alloc (.cells #[.slice ao n ca, .slice bo xs.length cb] 26)).alloc (.cells #[.int .i64 x.host, .int .i64 x.at_, .string x.data] 65)).alloc (.cells #[.slice none 0 0, .slice none 0 0] 26)) wA := belowGr (by repeat (first | exact Below.refl _ _ | exact hbA | refine Below.drew ?_ | refine belowAl ?_ _)) hgA
         obtain ⟨hA0, hA1⟩ := ((unhide HV).below hbA).cells
         obtain ⟨hA2, hA3, hA4⟩ := ((unhide HI).below hbA).cells)
      | (refine (step_append_at ?_ (.tmp 8) (.tmp 10) 24 ?_ (w.heap.size + 1 + 1 + 1) 65 j0 (.agg #[.int .i64 0, .int .i64 0, .string ⟨#[]⟩]) 3 32 Tryz.underlying24 hj hy0 hy1 hy2 ?_ ?_ qo xs.length qa (ioV xs) ?_ ?_ ?_ (wrV x) ?_ ?_ ?_ ?_ ?_ ?_)
         · rfl
         · rfl
         · rfl
         · omega
         · rfl
         · refine OwnR.base (OwnR.below hoA ?_) ?_
           · repeat (first | exact Below.refl _ _ | refine Below.drew ?_ | refine belowAl ?_ _)
           · first | omega | (simp <;> omega)
         · have := hbA.size
           simp at this ⊢
           omega
         · refine ⟨_, _, rfl, VarI.news ?_⟩
           first | exact VarI.new _ _ | (refine VarI.grown ?_ hgA; refine VarI.drew ?_; refine VarI.top ?_; simp) | (refine VarI.grown ?_ hgA; refine VarI.drew ?_; refine VarI.under ?_ _; refine VarI.top ?_; simp)
         · rfl
         · exact wrV_one x
         · unfold maxLen; omega
         · omega
         intro g cap wB hoB hkB
         have hkA := hkB
         have hbB : Below (((w.alloc (.cells #[.slice ao n ca, .slice bo xs.length cb] 26)).alloc (.cells #[.int .i64 x.host, .int .i64 x.at_, .string x.data] 65)).alloc (.cells #[.slice none 0 0, .slice none 0 0] 26)).heap.size (((w.alloc (.cells #[.slice ao n ca, .slice bo xs.length cb] 26)).alloc (.cells #[.int .i64 x.host, .int .i64 x.at_, .string x.data] 65)).alloc (.cells #[.slice none 0 0, .slice none 0 0] 26)) wB := belowKp (by repeat (first | exact hbA | refine Below.drew ?_ | refine belowAl ?_ _)) hkB (fun j hj => Nat.le_trans (by first | (simp; done) | (simp; omega)) (hoA.ge j hj).1)
         obtain ⟨hB0, hB1⟩ := ((unhide HV).below hbB).cells
         have hB6 := ((unhide HV).below hbB).free 1
         obtain ⟨hB2, hB3⟩ := ((unhide HR).below hbB).cells
         have hB4 := ((unhide HR).below hbB).free 0
         have hB5 := ((unhide HR).below hbB).free 1
         obtain ⟨hB7, hB8, hB9⟩ := ((unhide HI).below hbB).cells))
  all_goals
    have HL := hide (write_end (w := w) (wL := wB) hoB (fr (unhide HA) hbB) (.slice (some ⟨g, 0, none⟩) (xs.length + 1) cap) (.slice ao n ca) (.slice (some ⟨g, 0, none⟩) (xs.length + 1) cap))
    clear hoA hoB hgA hkA hkB hbA hbB hA0 hA1 hA2 hA3 hA4 hB7 hB8 hB9
    go_wp2
    exact bodyPost_ret (v := .agg #[.slice ao n ca, .slice (some ⟨g, 0, none⟩) (xs.length + 1) cap]) (by simp [results, Tryz.results44, go_sem, hB2, hB3]) rfl ⟨_, _, rfl, by rw [ioV_snoc]; exact (unhide HL).1, (unhide HL).2⟩

theorem l01Write_hd (ao bo : Option Addr) (n ca cb : Nat) (xs : List Wr) (h a : Int) (d : ByteArray) (w : World) (hm : xs.length ≤ 1048576) (h2 : Ios w bo xs) :
    Calls Tryz.prog 44 #[.agg #[.slice ao n ca, .slice bo xs.length cb], .agg #[.int .i64 h, .int .i64 a, .string d]] w fun e w' => ∃ g cap, e = .returned (.agg #[.slice ao n ca, .slice (some ⟨g, 0, none⟩) (xs.length + 1) cap]) ∧ w'.ownsRow w.heap.size 65 3 (.slice (some ⟨g, 0, none⟩) (xs.length + 1) cap) (xs.length + 1) (ioV (xs ++ [⟨h, a, d⟩])) ∧ Below w.heap.size w w' :=
  l01Write_any ao bo n ca cb xs ⟨h, a, d⟩ w hm h2

end Go.Proofs.YtdfinapjgffjiaaGreatDoor

/- Contracts of the model's drawn texts: some, TextOf. -/
namespace Go.Proofs.YtdfinapjgffjiaaGreatDoor
open Go.RowKit
set_option linter.unusedVariables false
set_option maxRecDepth 100000

theorem infoU : (Tryz.prog.info? 5).map (fun i => (i.zero, i.size, i.bytes)) = some (some (.int .u8 0), 1, 1) := by kernel_rfl
theorem keep_newT {w w1 w2 : World} {b : Nat} {S : Nat → Prop} (h : Keep (fun k => k = b) w w1) (hk : Keep S w1 w2) (hs : ∀ k, S k → w.heap.size ≤ k ∨ k = b) : Keep (fun k => k = b) w w2 :=
  ⟨hk.os.trans h.os, hk.tape.trans h.tape, hk.output.trans h.output, Nat.le_trans h.size hk.size, fun k hl hn => (hk.block k (Nat.lt_of_lt_of_le hl h.size) (fun hS => by
    rcases hs k hS with h1 | h1
    · omega
    · exact hn h1)).trans (h.block k hl hn)⟩
theorem SrcK.otherT {w w1 w2 : World} {b : Nat} {ao : Option Addr} {n cap m m0 : Nat} {S : Nat → Prop} (h0 : SrcK w b ao n cap m0) (h : SrcK w1 b ao n cap m) (hw : Keep (fun k => k = b) w w2) (hk : Keep S w1 w2) (hs : ¬ S b) : SrcK w2 b ao n cap m := by
  obtain ⟨x0, y0, _, _, _, _, hblk0⟩ := h0.src
  obtain ⟨x, y, c0, c1, c2, c3, c4⟩ := h.src
  refine ⟨⟨x, y, c0, c1, c2, c3, ?_⟩, h0.bytes.keep hblk0 (fun z h => by cases h) hw⟩
  rw [hk.block b (Array.getElem?_eq_some_iff.1 c4).1 hs]; exact c4

set_option maxHeartbeats 3200000 in
theorem some_k (b : Nat) (ao : Option Addr) (n cap m k : Nat) (w : World) (hk : k ≤ 100) (hm : m ≤ 700000) (hn : n ≤ 1048576) (hs : SrcK w b ao n cap m) :
    Calls Tryz.prog 106 #[.pointer (some ⟨b, 0, none⟩), .int .i64 k] w fun e w' => ∃ t : ByteArray, e = .returned (.string t) ∧ t.size = k ∧ SrcK w' b ao n cap (m + 3 * k) ∧ Keep (fun j => j = b) w w' := by
  have hbl := hs.lt
  have HS0 := hide hs
  clear hs
  obtain ⟨j0, hj, hy0, hy1, hy2⟩ := info_parts infoU
  have HSA := hide ((unhide HS0).below (Joins.below_alloc1 w (.cells #[] 5)))
  have HKA : Hid (Keep (fun j => j = b) w (w.alloc (.cells #[] 5))) := hide (Keep.of_below (Joins.below_alloc1 _ _))
  go_enter Tryz.func106, Tryz.ntmps106
  go_wp2
  go_loopw [5, 6] (fun o i wr => ∃ (j : Nat) (ns : List Int) (qo : Option Addr) (qa : Nat), j ≤ k ∧ ns.length = j ∧ i = .int .i64 j ∧ o = .slice qo j qa ∧ Hid (OwnR wr w.heap.size 5 1 (.slice qo j qa) j (byteV ns)) ∧ Hid (Keep (fun x => x = b) w wr) ∧ Hid (SrcK wr b ao n cap (m + 3 * j))) (fun _ i _ => k - (intOf i).toNat)
  case atStart => exact ⟨0, [], _, _, Nat.zero_le _, rfl, rfl, rfl, hide (.inl ⟨rfl, rfl, _, rfl⟩), HKA, HSA⟩
  case round =>
    obtain ⟨j, ns, qo, qa, hjk, hns, rfl, rfl, HO, HK, HS⟩ := hrel
    by_cases hlt : j < k
    · go_wp2_with fail
      refine (next_k b ao n cap _ 26 _ (by omega) (by omega) (by omega) hn (unhide HS)).mono ?_
      rintro e w2 ⟨r, rfl, hr0, hr1, hs2, hk2⟩
      have HO2 := hide ((unhide HO).keep hk2 (fun g hg e => by have := ((unhide HO).ge g hg).1; omega))
      have HK2 := hide ((unhide HK).trans hk2)
      have HS2 := hide hs2
      clear hs2 hk2
      have HOA := hide ((unhide HO2).below (Joins.below_alloc1 _ (.cells #[.int .u8 (97 + r)] 5)))
      have HKB := hide ((unhide HK2).trans (Keep.of_below (Joins.below_alloc1 _ (.cells #[.int .u8 (97 + r)] 5))))
      have HSB := hide ((unhide HS2).below (Joins.below_alloc1 _ (.cells #[.int .u8 (97 + r)] 5)))
      have HSZ := hide (unhide HK2).size
      go_wp2_with (at_builtin; refine wpList_append_one rfl _ _ 22 rfl w.heap.size 5 j0 (.int .u8 0) 1 1 Tryz.underlying22 hj hy0 hy1 hy2 rfl (by omega) qo j qa (byteV ns) rfl (unhide HOA) (by have := unhide HSZ; simp; omega) ⟨w2.heap.size, 0, none⟩ _ [.int .u8 (97 + r)] rfl rfl (byte_news w2 _ _) (byte_one _) (by unfold maxLen; omega) (by omega) ?_; intro g2 cap2 wA hoA hkA; have HSF := hide (And.intro hoA (keep_newT (unhide HKB) hkA (fun k hk => .inl ((unhide HOA).ge k hk).1))); have HSC := hide ((unhide HS0).otherT (unhide HSB) (unhide HSF).2 hkA (fun hk => by have := ((unhide HOA).ge _ hk).1; omega)); clear hoA hkA)
      go_roundw
      case rel => exact ⟨j + 1, ns ++ [97 + r], some ⟨g2, 0, none⟩, cap2, by omega, by simp [hns], by go_num, rfl, hide (.inr ⟨by omega, by rw [byteV_snoc]; exact (unhide HSF).1⟩), hide (unhide HSF).2, hide ((unhide HSC).more (by omega))⟩
      case measure => simp [intOf]; omega
    · have hcv := convert_own (P := Tryz.prog) Tryz.underlying22 Tryz.underlying5 Tryz.underlying9 (unhide HO)
      have HJK : Hid (j = k) := hide (by omega)
      have hlt' : ¬ (j : Int) < (k : Int) := by omega
      go_wp2
      go_ret
      exact ⟨strOfNums ns, rfl, by rw [strOfNums_size, hns]; exact unhide HJK, (unhide HS).more (by omega), unhide HK⟩

end Go.Proofs.YtdfinapjgffjiaaGreatDoor

/- Contracts of the model's drawn disks and texts: disk, DiskOf, TextOf. -/
namespace Go.Proofs.YtdfinapjgffjiaaGreatDoor
open Go.RowKit
set_option linter.unusedVariables false
set_option maxRecDepth 100000

theorem new_right : diskB noSs [] = true := diskB_parts.2 ⟨⟨noSs_len, fun s hs => by rw [List.eq_of_mem_replicate hs]; exact Nat.zero_le _⟩, by simp, fun x hx => by cases hx⟩
theorem right_ss {ss : List ByteArray} {xs : List Wr} (h : diskB ss xs = true) : ∀ s ∈ ss, s.size ≤ maxLen := fun s hs => by
  have := (diskB_parts.1 h).1.2 s hs
  unfold maxLen
  omega
theorem right_xs {ss : List ByteArray} {xs : List Wr} (h : diskB ss xs = true) : ∀ x ∈ xs, x.data.size ≤ maxLen := fun x hx => by
  have := (ioB_parts.1 ((diskB_parts.1 h).2.2 x hx)).2.2
  unfold maxLen
  omega
theorem flush_right {ss : List ByteArray} {xs : List Wr} {h : Int} (hd : diskB ss xs = true) : diskB (landF h false ss xs 200).1 (landF h false ss xs 200).2.1 = true ∧ (landF h false ss xs 200).1.length = ss.length ∧ (landF h false ss xs 200).2.1.length ≤ xs.length := by
  obtain ⟨e1, e2⟩ := landF_put h ss xs 200
  have e1' : (landF h false ss xs 200).1 = putW ss ((ofH h xs).take 200) := e1
  have e2' : (landF h false ss xs 200).2.1 = remH h 200 xs := e2
  rw [e1', e2']
  exact ⟨diskB_put hd (fun x hx => of_mem (List.mem_of_mem_take hx)) (fun x hx => rem_mem 200 hx) (rem_len 200 xs), put_len _ _, rem_len 200 xs⟩

/-- All texts of a disk are such ones. -/
def AllT (P : ByteArray → Prop) (ss : List ByteArray) (xs : List Wr) : Prop := (∀ s ∈ ss, P s) ∧ ∀ x ∈ xs, P x.data
theorem AllT.new {P : ByteArray → Prop} (h : P ⟨#[]⟩) : AllT P noSs [] := ⟨fun s hs => by rw [List.eq_of_mem_replicate hs]; exact h, fun x hx => by cases hx⟩
theorem AllT.mono {P Q : ByteArray → Prop} {ss : List ByteArray} {xs : List Wr} (h : AllT P ss xs) (hq : ∀ t, P t → Q t) : AllT Q ss xs := ⟨fun s hs => hq s (h.1 s hs), fun x hx => hq _ (h.2 x hx)⟩
theorem AllT.snoc {P : ByteArray → Prop} {ss : List ByteArray} {xs : List Wr} {x : Wr} (h : AllT P ss xs) (hx : P x.data) : AllT P ss (xs ++ [x]) := ⟨h.1, fun y hy => by
  rcases List.mem_append.1 hy with hy | hy
  · exact h.2 y hy
  · rw [List.mem_singleton.1 hy]; exact hx⟩
theorem AllT.put {P : ByteArray → Prop} {ss : List ByteArray} {xs fs ys : List Wr} (h : AllT P ss xs) (hf : ∀ x ∈ fs, x ∈ xs) (hy : ∀ x ∈ ys, x ∈ xs) : AllT P (putW ss fs) ys := ⟨put_mem fs ss h.1 (fun x hx => h.2 x (hf x hx)), fun x hx => h.2 x (hy x hx)⟩
theorem AllT.land {P : ByteArray → Prop} {ss : List ByteArray} {xs : List Wr} (h : AllT P ss xs) (q : Int) : AllT P (landF q false ss xs 200).1 (landF q false ss xs 200).2.1 := by
  obtain ⟨e1, e2⟩ := landF_put q ss xs 200
  have e1' : (landF q false ss xs 200).1 = putW ss ((ofH q xs).take 200) := e1
  have e2' : (landF q false ss xs 200).2.1 = remH q 200 xs := e2
  rw [e1', e2']
  exact h.put (fun x hx => of_mem (List.mem_of_mem_take hx)) (fun x hx => rem_mem 200 hx)

set_option maxHeartbeats 1600000 in
theorem disk_k (b : Nat) (so : Option Addr) (n cap m : Nat) (w : World) (hm : m ≤ 600000) (hn : n ≤ 1048576) (hs : SrcK w b so n cap m) :
    Calls Tryz.prog 81 #[.pointer (some ⟨b, 0, none⟩)] w fun e w' => (∃ ss xs po pa qo qa, e = .returned (.agg #[.slice po ss.length pa, .slice qo xs.length qa]) ∧ diskB ss xs = true ∧ xs.length ≤ 19 ∧ Ss w' po ss ∧ Ios w' qo xs ∧ AllT (fun t => t.size ≤ 4) ss xs ∧ OwnD w' (w.heap.size + 1) po ss.length pa qo xs.length qa ss xs) ∧ Keep (fun k => k = b) w w' ∧ SrcK w' b so n cap (m + 600) := by
  have HS := hide hs
  have hlt := hs.lt
  clear hs
  have HK0 : Hid (Keep (fun k => k = b ∨ w.heap.size ≤ k) w (w.alloc (.cells #[.slice none 0 0, .slice none 0 0] 26))) := hide (Keep.of_below (Joins.below_alloc1 _ _))
  have HS0 := hide ((unhide HS).below (Joins.below_alloc1 w (.cells #[.slice none 0 0, .slice none 0 0] 26)))
  have HR0 : Hid (VarD (w.alloc (.cells #[.slice none 0 0, .slice none 0 0] 26)) w.heap.size (.slice none 0 0) (.slice none 0 0)) := hide (heap_alloc_new w _)
  go_enter Tryz.func81, Tryz.ntmps81
  go_wp2_with fail
  refine (l01New_any _).mono ?_
  rintro e w1 ⟨g, k, rfl, ho, hb1⟩
  have HS1 := hide ((unhide HS0).below hb1)
  have HK1 := hide ((unhide HK0).trans (Keep.of_below hb1))
  have HR1 := hide ((unhide HR0).below hb1)
  have HO1 := hide ho
  have hz1 : w.heap.size < w1.heap.size := (unhide HR1).lt
  clear ho hb1 HS0 HK0 HR0
  have D0 : Hid (DkSt w (w1.alloc (.cells #[.slice (some ⟨g, 0, none⟩) 64 64, .slice (some ⟨k, 0, none⟩) 0 0] 26)) b so n cap m w1.heap.size (some ⟨g, 0, none⟩) 64 (some ⟨k, 0, none⟩) 0 noSs []) := hide (by
    have hbA := Joins.below_alloc1 w1 (.cells #[.slice (some ⟨g, 0, none⟩) 64 64, .slice (some ⟨k, 0, none⟩) 0 0] 26)
    refine ⟨⟨?_, ((unhide HO1).ss (right_ss new_right)).below hbA, ((unhide HO1).ios (right_xs new_right)).below hbA⟩, (unhide HR1).below hbA, (unhide HK1).trans (Keep.of_below hbA), (unhide HS1).below hbA, hz1⟩
    rw [noSs_len]
    exact heap_alloc_new w1 _)
  go_wp2_with fail
  revert D0
  generalize w1.alloc (.cells #[.slice (some ⟨g, 0, none⟩) 64 64, .slice (some ⟨k, 0, none⟩) 0 0] 26) = W1
  generalize w1.heap.size = C at *
  intro D0
  clear HS1 HK1 HR1 HO1
  refine (next_k b so n cap m 20 _ (by omega) (by omega) (by omega) hn (unhide D0).s).mono ?_
  rintro e w2 ⟨q0, rfl, q00, q01, hs2, hk2⟩
  have D1 := hide ((unhide D0).src hlt hs2 hk2)
  clear hs2 hk2 D0
  obtain ⟨j0, rfl⟩ := Int.eq_ofNat_of_zero_le q00
  go_wp2
  go_loopw [4] (fun i wr => ∃ (j : Nat) (ss : List ByteArray) (xs : List Wr) (ao : Option Addr) (ca : Nat) (bo : Option Addr) (cb : Nat), xs.length + j ≤ 19 ∧ i = .int .i64 j ∧ Hid (diskB ss xs = true) ∧ Hid (AllT (fun t => t.size ≤ 4) ss xs) ∧ Hid (DkSt w wr b so n cap (m + 600 - 30 * j) C ao ca bo cb ss xs)) (fun i _ => (intOf i).toNat)
  case atStart => exact ⟨j0, noSs, [], _, _, _, _, by simp; omega, rfl, hide new_right, hide (AllT.new (Nat.zero_le _)), hide ((unhide D1).more (by omega))⟩
  case round =>
    obtain ⟨j, ss, xs, ao, ca, bo, cb, hxj, rfl, HR, HT, HD⟩ := hrel
    have HL : Hid (ss.length ≤ 1048576) := hide (by have := (diskB_len (unhide HR)).1; omega)
    have HM : Hid (xs.length ≤ 200) := hide (by omega)
    by_cases hj : 0 < j
    · go_wp2_with fail
      refine (next_k b so n cap _ 5 _ (by omega) (by omega) (by omega) hn (unhide HD).s).mono ?_
      rintro e w3 ⟨q1, rfl, q10, q11, hs3, hk3⟩
      have D3 := hide ((unhide HD).src hlt hs3 hk3)
      clear hs3 hk3
      obtain ⟨v0, v1⟩ := (unhide D3).dv.var.cells
      by_cases hq : q1 = 0
      · have hqb : (q1 == 0) = true := by simp [hq]
        go_wp2_with fail
        go_region_with (first
          | (go_at_call 82; refine (next_k b so n cap (m + 600 - 30 * j + 3) 4 _ (by omega) (by omega) (by omega) hn ?_).mono ?_; exact (unhide D3).s.below ((Below.refl _ _).drew); rintro e wA ⟨qh, rfl, qh0, qh1, hsA, hkA⟩; have DA := hide (((unhide D3).below ((Below.refl _ _).drew)).src hlt hsA hkA); obtain ⟨a0, a1⟩ := (unhide DA).dv.var.cells; clear hsA hkA)
          | (go_at_call 43; refine (l01Flush_any ao bo ca cb ss xs qh 200 _ rfl (by omega) (unhide HL) (unhide HM) (diskB_at (unhide HR)) ?_ ?_).mono ?_; exact (unhide DA).dv.s; exact (unhide DA).dv.i; rintro e wB ⟨po, pa, qo, qa, rfl, ho, hbB⟩; have DB := hide ((unhide DA).below hbB); obtain ⟨b0, b1⟩ := (unhide DB).dv.var.cells; have z0 := (unhide DB).dv.var.free 0; have z1 := (unhide DB).dv.var.free 1; have HO := hide ho; clear ho hbB))
        all_goals
          obtain ⟨f1, f2, f3⟩ := flush_right (h := qh) (unhide HR)
          have S' := DkSt.store (ca' := pa) (cb' := qa) (unhide DB) (unhide HS) ((unhide HO).ss (right_ss f1)) ((unhide HO).ios (right_xs f1))
          rw [f2] at S'
          have S2 := hide (S'.more (m' := m + 600 - 30 * (j - 1)) (by omega))
          have F1 := hide f1
          have F4 := hide ((unhide HT).land qh)
          have hlen : (landF qh false ss xs 200).2.1.length + (j - 1) ≤ 19 := by omega
          clear S' f1 f2 f3 DA DB HO b0 b1 z0 z1 a0 a1 v0 v1 D3 HD HL HM
          revert S2 F1 F4 hlen
          generalize (wB.setCell ⟨C, 0, none⟩ (.slice po ss.length pa)).setCell ⟨C, 1, none⟩ (.slice qo (landF qh false ss xs 200).2.1.length qa) = WF
          generalize (landF qh false ss xs 200).1 = ss2
          generalize (landF qh false ss xs 200).2.1 = xs2
          intro S2 F1 F4 hlen
          go_wp2
          go_roundw
          case rel => exact ⟨j - 1, ss2, xs2, po, pa, qo, qa, hlen, by go_num, F1, F4, S2⟩
          case measure => simp [intOf]; omega
      · have hqb : (q1 == 0) = false := by simp [hq]
        go_wp2_with fail
        go_region_with (first
          | (go_at_call_of 82 (Value.int IntKind.i64 4); refine (next_k b so n cap (m + 600 - 30 * j + 3) 4 _ (by omega) (by omega) (by omega) hn ?_).mono ?_; exact (unhide D3).s.below ((Below.refl _ _).drew); rintro e wA ⟨qh, rfl, qh0, qh1, hsA, hkA⟩; have DA := hide (((unhide D3).below ((Below.refl _ _).drew)).src hlt hsA hkA); obtain ⟨a0, a1⟩ := (unhide DA).dv.var.cells; clear hsA hkA)
          | (go_at_call_of 82 (Value.int IntKind.i64 8); refine (next_k b so n cap (m + 600 - 30 * j + 3 + 3) 8 _ (by omega) (by omega) (by omega) hn ?_).mono ?_; exact (unhide DA).s; rintro e wB ⟨qa, rfl, qa0, qa1, hsB, hkB⟩; have DB := hide ((unhide DA).src hlt hsB hkB); obtain ⟨b0, b1⟩ := (unhide DB).dv.var.cells; clear hsB hkB)
          | (go_at_call_of 82 (Value.int IntKind.i64 5); refine (next_k b so n cap (m + 600 - 30 * j + 3 + 3 + 3) 5 _ (by omega) (by omega) (by omega) hn ?_).mono ?_; exact (unhide DB).s; rintro e wC ⟨ql, rfl, ql0, ql1, hsC, hkC⟩; have DC := hide ((unhide DB).src hlt hsC hkC); obtain ⟨c0, c1⟩ := (unhide DC).dv.var.cells; obtain ⟨kk, rfl⟩ := Int.eq_ofNat_of_zero_le ql0; clear hsC hkC)
          | (go_at_call 106; refine (some_k b so n cap (m + 600 - 30 * j + 3 + 3 + 3 + 3) kk _ (by omega) (by omega) hn ?_).mono ?_; exact (unhide DC).s; rintro e wD ⟨tx, rfl, htx, hsD, hkD⟩; have DD := hide ((unhide DC).src hlt hsD hkD); obtain ⟨d0, d1⟩ := (unhide DD).dv.var.cells; have HTX := hide htx; clear hsD hkD htx)
          | (go_at_call 44; refine (l01Write_any ao bo ss.length ca cb xs ⟨qh, qa, tx⟩ _ (by omega) ?_).mono ?_; exact (unhide DD).dv.i; rintro e wE ⟨gg, cc, rfl, ho, hbE⟩; have DE := hide ((unhide DD).below hbE); obtain ⟨e0, e1⟩ := (unhide DE).dv.var.cells; have z0 := (unhide DE).dv.var.free 0; have z1 := (unhide DE).dv.var.free 1; have HO := hide ho; clear ho hbE))
        all_goals
          have hio : ioB ⟨qh, qa, tx⟩ = true := ioB_parts.2 ⟨⟨qh0, by show qh ≤ 3; omega⟩, ⟨qa0, by show qa ≤ 63; omega⟩, by show tx.size ≤ 80; rw [unhide HTX]; omega⟩
          have F1 := hide (diskB_snoc (unhide HR) (by omega) hio)
          have F4 := hide ((unhide HT).snoc (x := ⟨qh, qa, tx⟩) (by show tx.size ≤ 4; rw [unhide HTX]; omega))
          have hl1 : (xs ++ [(⟨qh, qa, tx⟩ : Wr)]).length = xs.length + 1 := by simp
          have hI : Ios wE (some ⟨gg, 0, none⟩) (xs ++ [(⟨qh, qa, tx⟩ : Wr)]) := ownI (cap := cc) (by rw [hl1]; exact unhide HO) (right_xs (unhide F1))
          have S' := DkSt.store (ca' := ca) (cb' := cc) (unhide DE) (unhide HS) (unhide DE).dv.s hI
          rw [hl1] at S'
          have S2 := hide (S'.more (m' := m + 600 - 30 * (j - 1)) (by omega))
          have hlen : (xs ++ [(⟨qh, qa, tx⟩ : Wr)]).length + (j - 1) ≤ 19 := by rw [hl1]; omega
          clear S' hI hl1 hio DA DB DC DD DE HO e0 e1 d0 d1 c0 c1 b0 b1 a0 a1 z0 z1 v0 v1 D3 HD HL HM
          revert S2
          generalize (wE.setCell ⟨C, 0, none⟩ (.slice ao ss.length ca)).setCell ⟨C, 1, none⟩ (.slice (some ⟨gg, 0, none⟩) (xs.length + 1) cc) = WF
          intro S2
          go_wp2
          go_roundw
          case rel => exact ⟨j - 1, ss, xs ++ [⟨qh, qa, tx⟩], ao, ca, some ⟨gg, 0, none⟩, cc, hlen, by go_num, F1, F4, S2⟩
          case measure => simp [intOf]; omega
    · obtain ⟨v0, v1⟩ := (unhide HD).dv.var.cells
      go_wp2_with fail
      refine (l01Own_any ao bo ca cb ss xs _ (unhide HL) (by omega) (unhide HD).dv.s (unhide HD).dv.i).mono ?_
      rintro e w3 ⟨po, pa, qo, qa, rfl, ho, hb3⟩
      have D3 := hide ((unhide HD).below hb3)
      have HO := hide ho
      have hzw : w.heap.size < wr.heap.size := (unhide HD).r.lt
      clear ho hb3 v0 v1
      obtain ⟨r0, r1⟩ := (unhide D3).r.cells
      have z0 := (unhide D3).r.free 0
      have z1 := (unhide D3).r.free 1
      go_wp2
      obtain ⟨hdv, hkr⟩ := DV.store (ca := pa) (cb := qa) (unhide D3).r ((unhide HO).ss (right_ss (unhide HR))) ((unhide HO).ios (right_xs (unhide HR)))
      exact bodyPost_ret (v := .agg #[.slice po ss.length pa, .slice qo xs.length qa]) (by simp [results, Tryz.results81, go_sem, r0, r1]) rfl ⟨⟨ss, xs, po, pa, qo, qa, rfl, unhide HR, by omega, hdv.s, hdv.i, unhide HT, (((unhide HO).setCell (a := ⟨w.heap.size, 0, none⟩) hzw _).setCell (a := ⟨w.heap.size, 1, none⟩) hzw _).base (by omega)⟩, keep_drop ((unhide D3).k.trans (hkr.mono (fun k e => .inr (by omega)))), ((unhide HS).other (unhide D3).s (keep_drop ((unhide D3).k.trans (hkr.mono (fun k e => .inr (by omega))))) hkr (by omega)).more (by omega)⟩

end Go.Proofs.YtdfinapjgffjiaaGreatDoor

/- Plain facts on records, of no program: kinds, the text of a record. -/
namespace Go.Proofs.YtdfinapjgffjiaaGreatDoor
open Go.RowKit

theorem nums_append (a b : List Int) : strOfNums (a ++ b) = strOfNums a ++ strOfNums b := by
  apply ByteArray.ext
  simp [strOfNums]

def kindB (k : Int) : Bool := inB k 1 9
theorem kindB_in {k : Int} (h : kindB k = true) : 1 ≤ k ∧ k ≤ 9 := by simpa [kindB, inB] using h
theorem kindB_out {k : Int} (h : kindB k = false) : ¬ (1 ≤ k ∧ k ≤ 9) := by simpa [kindB, inB] using h
/-- What a record's sum is taken of, its sum, its text. -/
def sumT (k : Int) (xs : List Int) : ByteArray := strOfNums [k, xs.length] ++ packS xs
def sumR (k : Int) (xs : List Int) : Int := sumS (sumT k xs)
def headR (k : Int) (xs : List Int) : List Int := [k, xs.length, sumR k xs, 0]
def sealS (k : Int) (xs : List Int) : ByteArray := strOfNums (headR k xs) ++ packS xs
theorem sumT_size (k : Int) (xs : List Int) : (sumT k xs).size = 2 + xs.length * 4 := by rw [sumT, ByteArray.size_append, strOfNums_size, packS_size]; rfl
theorem sealS_size (k : Int) (xs : List Int) : (sealS k xs).size = 4 + xs.length * 4 := by rw [sealS, ByteArray.size_append, strOfNums_size, packS_size]; rfl
theorem sumR_in (k : Int) (xs : List Int) : 0 ≤ sumR k xs ∧ sumR k xs ≤ 250 := sumTo_in _ _
theorem sealS_parts (k : Int) (xs : List Int) : strOfNums [k, (xs.length : Int)] ++ strOfNums [sumR k xs, 0] ++ packS xs = sealS k xs := by
  rw [← nums_append]; rfl

/-- The code of a record that is to be sealed, its text. -/
def sealC (k : Int) (xs : List Int) : Int := if listC xs = 0 then (if kindB k = true then 0 else 4) else listC xs
def sealT (k : Int) (xs : List Int) : ByteArray := if sealC k xs = 0 then sealS k xs else ⟨#[]⟩
theorem sealC_list {k : Int} {xs : List Int} (h : listC xs ≠ 0) : sealC k xs = listC xs := if_neg h
theorem sealC_kind {k : Int} {xs : List Int} (h : listC xs = 0) (hk : kindB k = false) : sealC k xs = 4 := by rw [sealC, if_pos h, if_neg (by simp [hk])]
theorem sealC_ok {k : Int} {xs : List Int} (h : listC xs = 0) (hk : kindB k = true) : sealC k xs = 0 := by rw [sealC, if_pos h, if_pos hk]
theorem sealT_ok {k : Int} {xs : List Int} (h : sealC k xs = 0) : sealT k xs = sealS k xs := if_pos h
theorem sealT_no {k : Int} {xs : List Int} (h : sealC k xs ≠ 0) : sealT k xs = ⟨#[]⟩ := if_neg h

end Go.Proofs.YtdfinapjgffjiaaGreatDoor

/- Plain facts on records, of no program: when a text is just one. -/
namespace Go.Proofs.YtdfinapjgffjiaaGreatDoor
open Go.RowKit
set_option linter.unusedVariables false

theorem byteAt_list (s : ByteArray) (k : Nat) : byteAt s k = ((s.data.toList[k]?.getD 0).toNat : Int) := by simp [byteAt]
theorem list_eq {a b : ByteArray} (h : a.data.toList = b.data.toList) : a = b := by
  cases a; cases b
  simpa using Array.toList_inj.1 h
theorem size_list (s : ByteArray) : s.data.toList.length = s.size := by simp
/-- Two texts of one length with alike bytes are one. -/
theorem bytes_eq {a b : ByteArray} (hs : a.size = b.size) (h : ∀ k, k < a.size → byteAt a k = byteAt b k) : a = b := by
  apply list_eq
  apply List.ext_getElem
  · rw [size_list, size_list, hs]
  · intro i h1 h2
    rw [size_list] at h1
    have := h i h1
    rw [byteAt_list, byteAt_list, List.getElem?_eq_getElem (by rw [size_list]; exact h1), List.getElem?_eq_getElem h2] at this
    simp only [Option.getD_some] at this
    exact UInt8.toNat_inj.1 (by omega)
theorem byteAt_nums {ns : List Int} {k : Nat} (h : k < ns.length) (h0 : 0 ≤ ns[k]) (h1 : ns[k] ≤ 255) : byteAt (strOfNums ns) k = ns[k] := by
  rw [byteAt_list, strOfNums_data, List.getElem?_map, List.getElem?_eq_getElem h]
  simp only [Option.map_some, Option.getD_some]
  have : ns[k].toNat < 256 := by omega
  rw [UInt8.toNat_ofNat_of_lt' (by simpa using this)]
  omega
theorem byteAt_left {a b : ByteArray} {k : Nat} (h : k < a.size) : byteAt (a ++ b) k = byteAt a k := by
  have e : (a ++ b).data.toList = a.data.toList ++ b.data.toList := by simp
  rw [byteAt_list, byteAt_list, e, List.getElem?_append_left (by rw [size_list]; exact h)]
theorem byteAt_right {a b : ByteArray} {k : Nat} (h : a.size ≤ k) : byteAt (a ++ b) k = byteAt b (k - a.size) := by
  have e : (a ++ b).data.toList = a.data.toList ++ b.data.toList := by simp
  rw [byteAt_list, byteAt_list, e, List.getElem?_append_right (by rw [size_list]; exact h), size_list]
theorem byteAt_cut {u : ByteArray} {a b j : Nat} (hb : b ≤ u.size) (h : a + j < b) : byteAt (u.extract a b) j = byteAt u (a + j) := by
  have e : (u.extract a b).data = u.data.extract a b := by simp
  unfold byteAt
  have : j < min b u.data.size - a := by have : b ≤ u.data.size := hb; omega
  rw [e, Array.getElem?_extract, if_pos this]

/-- The head and the body of a text. -/
def bodyT (s : ByteArray) : ByteArray := s.extract 4 s.size
def headT (s : ByteArray) : ByteArray := s.extract 0 2
theorem bodyT_size (s : ByteArray) : (bodyT s).size = s.size - 4 := by simp [bodyT]
theorem headT_size {s : ByteArray} (h : 4 ≤ s.size) : (headT s).size = 2 := by simp [headT]; omega
theorem headT_eq {s : ByteArray} (h : 4 ≤ s.size) : headT s = strOfNums [byteAt s 0, byteAt s 1] := by
  have h0 := byteAt_in s 0
  have h1 := byteAt_in s 1
  apply bytes_eq
  · rw [headT_size h, strOfNums_size]; rfl
  · intro k hk
    rw [headT_size h] at hk
    rw [headT, byteAt_cut (by omega) (by omega)]
    rcases (show k = 0 ∨ k = 1 by omega) with rfl | rfl
    · rw [byteAt_nums (by simp) (by simp; omega) (by simp; omega)]; simp
    · rw [byteAt_nums (by simp) (by simp; omega) (by simp; omega)]; simp
theorem bodyT_byte {s : ByteArray} {k : Nat} (h : 4 + k < s.size) : byteAt (bodyT s) k = byteAt s (4 + k) := by rw [bodyT, byteAt_cut (Nat.le_refl _) h]

/-- Numbers that are read are packed as they were. -/
theorem four_num (s : ByteArray) (i j : Nat) (hj : j < 4) : byteN (numAt s i) j = byteAt s (i + j) := by
  have h0 := byteAt_in s i
  have h1 := byteAt_in s (i + 1)
  have h2 := byteAt_in s (i + 2)
  have h3 := byteAt_in s (i + 3)
  unfold byteN numAt
  rcases (show j = 0 ∨ j = 1 ∨ j = 2 ∨ j = 3 by omega) with rfl | rfl | rfl | rfl
  · simp only [Nat.add_zero]; omega
  · show (byteAt s i + byteAt s (i + 1) * 256 + byteAt s (i + 2) * 65536 + byteAt s (i + 3) * 16777216) / 256 % 256 = _; omega
  · show (byteAt s i + byteAt s (i + 1) * 256 + byteAt s (i + 2) * 65536 + byteAt s (i + 3) * 16777216) / 65536 % 256 = _; omega
  · show (byteAt s i + byteAt s (i + 1) * 256 + byteAt s (i + 2) * 65536 + byteAt s (i + 3) * 16777216) / 16777216 % 256 = _; omega
theorem packL_at : ∀ (xs : List Int) (i j : Nat) (hi : i < xs.length) (hj : j < 4), (packL xs)[i * 4 + j]? = some (byteN xs[i] j)
  | [], i, _, hi, _ => absurd hi (Nat.not_lt_zero _)
  | x :: xs, 0, j, _, hj => by
    show (four x ++ packL xs)[0 * 4 + j]? = _
    rw [List.getElem?_append_left (by rw [four, fourTo_length]; omega)]
    simp [four, fourTo, hj]
  | x :: xs, i + 1, j, hi, hj => by
    show (four x ++ packL xs)[(i + 1) * 4 + j]? = _
    rw [List.getElem?_append_right (by rw [four, fourTo_length]; omega), four, fourTo_length, show (i + 1) * 4 + j - 4 = i * 4 + j by omega]
    have := packL_at xs i j (by simpa using hi) hj
    simpa using this
theorem pack_un {s : ByteArray} (h4 : s.size % 4 = 0) : packS (unL s) = s := by
  apply bytes_eq
  · rw [packS_size, unL_length]; omega
  · intro k hk
    rw [packS_size, unL_length] at hk
    have hq : k / 4 < (unL s).length := by rw [unL_length]; omega
    have h1 := packL_at (unL s) (k / 4) (k % 4) hq (by omega)
    rw [show k / 4 * 4 + k % 4 = k by omega, unL_get hq, four_num s _ _ (by omega), show k / 4 * 4 + k % 4 = k by omega] at h1
    obtain ⟨hkl, h2⟩ := List.getElem?_eq_some_iff.1 h1
    have hb := byteAt_in s k
    rw [packS, byteAt_nums hkl (by rw [h2]; omega) (by rw [h2]; omega), h2]

/-- A text is just one record. -/
def RecP (s : ByteArray) : Prop := 4 ≤ s.size ∧ kindB (byteAt s 0) = true ∧ byteAt s 3 = 0 ∧ ((bodyT s).size : Int) = byteAt s 1 * 4 ∧ byteAt s 2 = sumS (headT s ++ bodyT s) ∧ okU (bodyT s) = true
def recB (s : ByteArray) : Bool := decide (4 ≤ s.size) && (kindB (byteAt s 0) && (decide (byteAt s 3 = 0) && (decide (((bodyT s).size : Int) = byteAt s 1 * 4) && (decide (byteAt s 2 = sumS (headT s ++ bodyT s)) && okU (bodyT s)))))
theorem recB_iff {s : ByteArray} : recB s = true ↔ RecP s := by simp only [recB, RecP, Bool.and_eq_true, decide_eq_true_eq]
theorem recB_true {s : ByteArray} (h : RecP s) : recB s = true := recB_iff.2 h
theorem recB_false {s : ByteArray} (h : ¬ RecP s) : recB s = false := by
  rw [← Bool.not_eq_true]
  exact fun e => h (recB_iff.1 e)

theorem okU_parts {s : ByteArray} (h : okU s = true) : s.size % 4 = 0 ∧ s.size ≤ 64 ∧ intsB (unL s) = true := by
  by_cases h4 : s.size % 4 = 0
  · by_cases hl : 64 < s.size
    · rw [okU_long hl] at h; cases h
    · rw [okU_even h4] at h; exact ⟨h4, by omega, h⟩
  · rw [okU_rest h4] at h; cases h

/-- The model's test: what comes of the numbers is the text. -/
theorem seal_iff {s : ByteArray} (hs : 4 ≤ s.size) (hk : kindB (byteAt s 0) = true) (hu : okU (bodyT s) = true) : sealS (byteAt s 0) (unL (bodyT s)) = s ↔ RecP s := by
  obtain ⟨h4, h64, hints⟩ := okU_parts hu
  have hp := pack_un h4
  have hl := unL_length (bodyT s)
  have hbs := bodyT_size s
  have hk' := kindB_in hk
  have hr := sumR_in (byteAt s 0) (unL (bodyT s))
  have hz := sealS_size (byteAt s 0) (unL (bodyT s))
  have b1 := byteAt_in s 1
  have hhs : (strOfNums (headR (byteAt s 0) (unL (bodyT s)))).size = 4 := strOfNums_size _
  have hhead : ∀ j (hj : j < 4), byteAt (sealS (byteAt s 0) (unL (bodyT s))) j = (headR (byteAt s 0) (unL (bodyT s)))[j]'(by simpa [headR] using hj) := by
    intro j hj
    rw [sealS, byteAt_left (by rw [hhs]; exact hj), byteAt_nums]
    · rcases (show j = 0 ∨ j = 1 ∨ j = 2 ∨ j = 3 by omega) with rfl | rfl | rfl | rfl <;> simp [headR] <;> omega
    · rcases (show j = 0 ∨ j = 1 ∨ j = 2 ∨ j = 3 by omega) with rfl | rfl | rfl | rfl <;> simp [headR] <;> omega
  have hrest : ∀ j, 4 ≤ j → byteAt (sealS (byteAt s 0) (unL (bodyT s))) j = byteAt (bodyT s) (j - 4) := by
    intro j hj
    rw [sealS, byteAt_right (by rw [hhs]; exact hj), hhs, hp]
  constructor
  · intro e
    have e1 := hhead 1 (by omega)
    have e2 := hhead 2 (by omega)
    have e3 := hhead 3 (by omega)
    rw [e] at e1 e2 e3
    simp only [headR, List.getElem_cons_succ, List.getElem_cons_zero] at e1 e2 e3
    refine ⟨hs, hk, e3, by omega, ?_, hu⟩
    rw [e2, sumR, sumT, hp, headT_eq hs, e1]
  · rintro ⟨_, _, h3, hcnt, hsum, _⟩
    have hlen : (((unL (bodyT s)).length : Nat) : Int) = byteAt s 1 := by omega
    have hsr : sumR (byteAt s 0) (unL (bodyT s)) = byteAt s 2 := by rw [sumR, sumT, hp, hlen, ← headT_eq hs, hsum]
    apply bytes_eq
    · rw [hz]; omega
    · intro k hk2
      rw [hz] at hk2
      by_cases hk4 : k < 4
      · rw [hhead k hk4]
        rcases (show k = 0 ∨ k = 1 ∨ k = 2 ∨ k = 3 by omega) with rfl | rfl | rfl | rfl
        · simp [headR]
        · simp [headR, hlen]
        · simp [headR, hsr]
        · simp [headR, h3]
      · rw [hrest k (by omega), bodyT_byte (by omega), show 4 + (k - 4) = k by omega]

/-- The codes and what comes of records. -/
def opC (s : ByteArray) (k : Int) : Int := if 65536 < s.size then 2 else if kindB k = true then (if recB s = true ∧ byteAt s 0 = k then 0 else 3) else 4
def opR (s : ByteArray) (k : Int) : List Int := if opC s k = 0 then unL (bodyT s) else []
def kdC (s : ByteArray) : Int := if 65536 < s.size then 2 else if recB s = true then 0 else 3
def kdR (s : ByteArray) : Int := if kdC s = 0 then byteAt s 0 else 0
theorem opC_long {s : ByteArray} {k : Int} (h : 65536 < s.size) : opC s k = 2 := if_pos h
theorem opC_kind {s : ByteArray} {k : Int} (h : ¬ 65536 < s.size) (hk : kindB k = false) : opC s k = 4 := by rw [opC, if_neg h, if_neg (by simp [hk])]
theorem opC_ok {s : ByteArray} {k : Int} (h : ¬ 65536 < s.size) (hk : kindB k = true) (hr : recB s = true) (he : byteAt s 0 = k) : opC s k = 0 := by rw [opC, if_neg h, if_pos hk, if_pos ⟨hr, he⟩]
theorem opC_no {s : ByteArray} {k : Int} (h : ¬ 65536 < s.size) (hk : kindB k = true) (hr : ¬ (recB s = true ∧ byteAt s 0 = k)) : opC s k = 3 := by rw [opC, if_neg h, if_pos hk, if_neg hr]
theorem opR_ok {s : ByteArray} {k : Int} (h : opC s k = 0) : opR s k = unL (bodyT s) := if_pos h
theorem opR_no {s : ByteArray} {k : Int} (h : opC s k ≠ 0) : opR s k = [] := if_neg h
theorem kdC_long {s : ByteArray} (h : 65536 < s.size) : kdC s = 2 := if_pos h
theorem kdC_ok {s : ByteArray} (h : ¬ 65536 < s.size) (hr : recB s = true) : kdC s = 0 := by rw [kdC, if_neg h, if_pos hr]
theorem kdC_no {s : ByteArray} (h : ¬ 65536 < s.size) (hr : recB s = false) : kdC s = 3 := by rw [kdC, if_neg h, if_neg (by simp [hr])]
theorem kdR_ok {s : ByteArray} (h : kdC s = 0) : kdR s = byteAt s 0 := if_pos h
theorem kdR_no {s : ByteArray} (h : kdC s ≠ 0) : kdR s = 0 := if_neg h

end Go.Proofs.YtdfinapjgffjiaaGreatDoor

/- Rows of numbers that a call made; ends of calls. -/
namespace Go.Proofs.YtdfinapjgffjiaaGreatDoor
open Go.RowKit
set_option linter.unusedVariables false

theorem infoM : (Tryz.prog.info? 3).map (fun i => (i.zero, i.size, i.bytes)) = some (some (.int .i64 0), 1, 8) := by kernel_rfl
theorem int_one (n : Int) : ∀ u ∈ [Value.int .i64 n], u.oneCell' = true := by
  intro u hu
  simp at hu
  subst hu
  rfl

/-- A row of numbers that the call made. -/
def OwnN (w : World) (B : Nat) (v : Value) (xs : List Int) : Prop := ∃ qo qa, v = .slice qo xs.length qa ∧ OwnR w B 3 1 (.slice qo xs.length qa) xs.length (intV xs)
theorem OwnN.below {w w' : World} {B : Nat} {v : Value} {xs : List Int} (h : OwnN w B v xs) (hb : Below w.heap.size w w') : OwnN w' B v xs := by
  obtain ⟨qo, qa, e, ho⟩ := h
  exact ⟨qo, qa, e, ho.below hb⟩
theorem OwnN.base {w : World} {B B' : Nat} {v : Value} {xs : List Int} (h : OwnN w B v xs) (hB : B' ≤ B) : OwnN w B' v xs := by
  obtain ⟨qo, qa, e, ho⟩ := h
  exact ⟨qo, qa, e, ho.base hB⟩
theorem OwnN.nil (w : World) (B : Nat) (ao : Option Addr) : OwnN w B (.slice ao 0 0) [] := ⟨ao, 0, rfl, .inl ⟨rfl, rfl, ao, rfl⟩⟩

theorem ret_nb {v u : Value} {a b : Bool} (h : v = u) (k : a = b) : Ending.returned (.tuple #[v, .bool a]) = .returned (.tuple #[u, .bool b]) := by rw [h, k]
theorem ret_ni {v u : Value} {a b : Int} (h : v = u) (k : a = b) : Ending.returned (.tuple #[v, .int .i64 a]) = .returned (.tuple #[u, .int .i64 b]) := by rw [h, k]

theorem ret_two2 {a b c d : Int} (h : a = b) (k : c = d) : Ending.returned (.tuple #[.int .i64 a, .int .i64 c]) = .returned (.tuple #[.int .i64 b, .int .i64 d]) := by rw [h, k]

end Go.Proofs.YtdfinapjgffjiaaGreatDoor

/- Contract of spec.l02Unpack. -/
namespace Go.Proofs.YtdfinapjgffjiaaGreatDoor
open Go.RowKit
set_option linter.unusedVariables false
set_option maxRecDepth 100000

set_option maxHeartbeats 1600000 in
theorem l02Unpack_any (s : ByteArray) (w : World) (hs : s.size ≤ 65536) : Calls Tryz.prog 123 #[.string s] w fun e w' => ∃ v, e = .returned (.tuple #[v, .bool (okU s)]) ∧ OwnN w' w.heap.size v (listU s) ∧ Below w.heap.size w w' := by
  obtain ⟨j0, hj, hy0, hy1, hy2⟩ := info_parts infoM
  by_cases h4 : s.size % 4 = 0
  · have hb4 : ((s.size : Int) % 4 != 0) = false := by simp; omega
    have HU : Hid (listU s = unL s) := hide (if_pos h4)
    have HOK := hide (okU_even h4)
    go_enter Tryz.func123, Tryz.ntmps123
    go_wp2
    go_loopw [4, 5] (fun o i wr => ∃ (k : Nat) (qo : Option Addr) (qa : Nat), k ≤ s.size / 4 ∧ i = .int .i64 ((k : Int) * 4) ∧ o = .slice qo k qa ∧ Hid (OwnR wr w.heap.size 3 1 (.slice qo k qa) k (intV ((unL s).take k))) ∧ Hid (Below w.heap.size w wr)) (fun _ i _ => s.size - (intOf i).toNat)
    case atStart => exact ⟨0, _, _, Nat.zero_le _, rfl, rfl, hide (.inl ⟨rfl, rfl, _, rfl⟩), hide (by first | exact Below.refl _ _ | exact Joins.below_alloc1 _ _)⟩
    case round =>
      obtain ⟨k, qo, qa, hk, rfl, rfl, HO, HB⟩ := hrel
      by_cases hlt : k < s.size / 4
      · have hlt' : (k : Int) * 4 < (s.size : Int) := by omega
        go_wp2
        go_loopw [6, 7] (fun n j wq => ∃ m : Nat, m ≤ 4 ∧ j = .int .i64 (3 - (m : Int)) ∧ n = .int .i64 (hi s (k * 4) m) ∧ Hid (OwnR wq w.heap.size 3 1 (.slice qo k qa) k (intV ((unL s).take k))) ∧ Hid (Below w.heap.size w wq)) (fun _ j _ => (intOf j + 1).toNat)
        case atStart => exact ⟨0, by omega, rfl, rfl, HO, HB⟩
        case round =>
          clear HO HB
          obtain ⟨m, hm, rfl, rfl, HO, HB⟩ := hrel
          by_cases hm3 : m ≤ 3
          · obtain ⟨hh0, hh1⟩ := hi_in s (k * 4) m hm3
            have HS := hide (hi_step s (k * 4) m hm3 (by omega))
            have HW := hide (wrap_byte s[k * 4 + (3 - m)])
            go_wp2
            go_roundw
            case rel => exact ⟨m + 1, by omega, by go_num, by rw [← unhide HS, unhide HW], HO, HB⟩
            case measure => simp [intOf]; omega
          · have HE : Hid (hi s (k * 4) m = numAt s (k * 4)) := hide (by rw [show m = 4 by omega, hi_four])
            have HOA := hide ((unhide HO).below (Joins.below_alloc1 _ (.cells #[.int .i64 (hi s (k * 4) m)] 3)))
            have HBA := hide (fr (unhide HB) (Joins.below_alloc1 _ (.cells #[.int .i64 (hi s (k * 4) m)] 3)))
            have HSZ := hide (unhide HB).size
            go_wp2_with (at_builtin; refine wpList_append_one rfl _ _ 67 rfl w.heap.size 3 j0 (.int .i64 0) 1 8 Tryz.underlying67 hj hy0 hy1 hy2 rfl (by omega) qo k qa (intV ((unL s).take k)) rfl (unhide HOA) (by have := unhide HSZ; simp; omega) ⟨wr.heap.size, 0, none⟩ _ [.int .i64 (hi s (k * 4) m)] rfl rfl (byte_news wr _ _) (int_one _) (by unfold maxLen; omega) (by omega) ?_; intro g2 cap2 wA hoA hkA; have HSF := hide (And.intro hoA (keep_below (unhide HBA) (unhide HOA) (Nat.le_refl _) hkA)); clear hoA hkA)
            go_roundw
            case rel => exact ⟨k + 1, _, _, by omega, by go_num, rfl, hide (.inr ⟨by omega, by rw [unL_succ hlt, intV_snoc, ← unhide HE]; exact (unhide HSF).1⟩), hide (unhide HSF).2⟩
            case measure => simp [intOf]; omega
      · have hke : k = (unL s).length := by rw [unL_length]; omega
        have HT : Hid ((unL s).take k = unL s) := hide (List.take_of_length_le (by omega))
        have HON : Hid (OwnR wr w.heap.size 3 1 (.slice qo (unL s).length qa) (unL s).length (intV (unL s))) := hide (by have := unhide HO; rw [unhide HT, hke] at this; exact this)
        have HL := hide (unL_length s)
        have hlen : (unL s).length ≤ 1048576 := by rw [unhide HL]; omega
        subst hke
        go_wp2_with (go_at_call 137; refine (l02Ints_any _ _ (unL s) _ hlen (ownRN (unhide HON))).mono ?_; rintro e w' ⟨rfl, rfl⟩)
        go_ret2
        exact ⟨.slice qo (unL s).length qa, ret_nb rfl (unhide HOK).symm, by rw [unhide HU]; exact ⟨qo, qa, rfl, unhide HON⟩, unhide HB⟩
  · have hb4 : ((s.size : Int) % 4 != 0) = true := by simp; omega
    have HU : Hid (listU s = []) := hide (if_neg h4)
    have HOK := hide (okU_rest h4)
    go_enter Tryz.func123, Tryz.ntmps123
    go_wp2
    go_ret2
    exact ⟨.slice (some ⟨w.heap.size, 0, none⟩) 0 0, ret_nb rfl (unhide HOK).symm, by rw [unhide HU]; exact OwnN.nil _ _ _, by first | exact Below.refl _ _ | exact Joins.below_alloc1 _ _⟩

end Go.Proofs.YtdfinapjgffjiaaGreatDoor

/- Contracts of SumOf, of the program and of its model. -/
namespace Go.Proofs.YtdfinapjgffjiaaGreatDoor
open Go.RowKit
set_option linter.unusedVariables false
set_option maxRecDepth 100000

theorem l02Sum_any (s : ByteArray) (w : World) (hs : s.size ≤ 1048576) :
    Calls Tryz.prog 105 #[.string s] w fun e w' => e = .returned (.int .i64 (sumS s)) ∧ w' = w := by
  go_enter Tryz.func105, Tryz.ntmps105
  go_wp2
  go_loop [3, 4] (fun n i => ∃ k : Nat, k ≤ s.size ∧ i = .int .i64 k ∧ n = .int .i64 (sumTo s k)) (fun _ i => s.size - (intOf i).toNat)
  case atStart => exact ⟨0, Nat.zero_le _, rfl, rfl⟩
  case round =>
    obtain ⟨k, hk, rfl, rfl⟩ := hrel
    by_cases hlt : k < s.size
    · have HN := hide (sumTo_walk hlt (by omega))
      go_wp2
      go_round
      case rel => exact ⟨k + 1, by omega, by go_num, by rw [← unhide HN]⟩
      case measure => simp [intOf]; omega
    · go_wp2
      go_ret
      exact ⟨ret_int (by rw [sumS, show k = s.size by omega]), rfl⟩

theorem sumOf_impl (s : ByteArray) (w : World) (hs : s.size ≤ 1048576) :
    Calls Tryz.prog 73 #[.string s] w fun e w' => e = .returned (.int .i64 (sumC s)) ∧ w' = w := by
  by_cases h1 : 65536 < s.size
  · have HF := hide (sumC_long h1)
    go_enter Tryz.func73, Tryz.ntmps73
    go_wp2
    go_ret
    exact ⟨ret_int (unhide HF).symm, rfl⟩
  have HF := hide (sumC_short (s := s) (by omega))
  go_enter Tryz.func73, Tryz.ntmps73
  go_wp2
  go_loop [3, 4] (fun n i => ∃ k : Nat, k ≤ s.size ∧ i = .int .i64 k ∧ n = .int .i64 (sumTo s k)) (fun _ i => s.size - (intOf i).toNat)
  case atStart => exact ⟨0, Nat.zero_le _, rfl, rfl⟩
  case round =>
    obtain ⟨k, hk, rfl, rfl⟩ := hrel
    by_cases hlt : k < s.size
    · have HN := hide (sumTo_walk hlt (by omega))
      go_wp2
      go_round
      case rel => exact ⟨k + 1, by omega, by go_num, by rw [← unhide HN]⟩
      case measure => simp [intOf]; omega
    · go_wp2
      go_ret
      exact ⟨ret_int (by rw [unhide HF, sumS, show k = s.size by omega]), rfl⟩

end Go.Proofs.YtdfinapjgffjiaaGreatDoor

/- Contracts of spec.l02Pack and impl.packNumbers. -/
namespace Go.Proofs.YtdfinapjgffjiaaGreatDoor
open Go.RowKit
set_option linter.unusedVariables false

theorem infoB : (Tryz.prog.info? 5).map (fun i => (i.zero, i.size, i.bytes)) = some (some (.int .u8 0), 1, 1) := by kernel_rfl

theorem ret_str {a b : ByteArray} (h : a = b) : Ending.returned (.string a) = .returned (.string b) := by rw [h]

set_option maxRecDepth 100000 in
set_option maxHeartbeats 1600000 in
theorem l02Pack_any (ao : Option Addr) (cap : Nat) (xs : List Int) (w : World) (hl : xs.length ≤ 4096) (hn : ∀ j (h : j < xs.length), 0 ≤ xs[j] ∧ xs[j] ≤ 2147483647) (hc : Is w ao xs) :
    Calls Tryz.prog 104 #[.slice ao xs.length cap] w fun e w' => e = .returned (.string (packS xs)) ∧ Below w.heap.size w w' := by
  have HC := hide hc
  have HN := hide hn
  clear hc hn
  obtain ⟨j0, hj, hy0, hy1, hy2⟩ := info_parts infoB
  go_enter Tryz.func104, Tryz.ntmps104
  go_wp2
  go_loopw [3, 4] (fun o i wr => ∃ (k : Nat) (qo : Option Addr) (qa : Nat), k ≤ xs.length ∧ i = .int .i64 k ∧ o = .slice qo (k * 4) qa ∧ Hid (OwnR wr w.heap.size 5 1 (.slice qo (k * 4) qa) (k * 4) (byteV (packL (xs.take k)))) ∧ Hid (Below w.heap.size w wr)) (fun _ i _ => xs.length - (intOf i).toNat)
  case atStart => exact ⟨0, _, _, Nat.zero_le _, rfl, rfl, hide (.inl ⟨rfl, rfl, _, rfl⟩), hide (by first | exact Below.refl _ _ | exact Joins.below_alloc1 _ _)⟩
  case round =>
    obtain ⟨k, qo, qa, hk, rfl, rfl, HO, HB⟩ := hrel
    by_cases hlt : k < xs.length
    · obtain ⟨b, off, rfl, hc⟩ := (unhide HC).below (unhide HB) k hlt
      obtain ⟨h0, h1⟩ := unhide HN k hlt
      go_wp2
      go_loopw [3, 5, 6] (fun o m i wq => ∃ (j : Nat) (qo : Option Addr) (qa : Nat), j ≤ 4 ∧ i = .int .i64 j ∧ m = .int .i64 (shN xs[k] j) ∧ o = .slice qo (k * 4 + j) qa ∧ Hid (OwnR wq w.heap.size 5 1 (.slice qo (k * 4 + j) qa) (k * 4 + j) (byteV (packL (xs.take k) ++ fourTo xs[k] j))) ∧ Hid (Below w.heap.size w wq)) (fun _ _ i _ => 4 - (intOf i).toNat)
      case atStart => exact ⟨0, qo, qa, by omega, rfl, by simp [shN], rfl, hide (by simpa [fourTo] using unhide HO), HB⟩
      case round =>
        clear HO HB
        obtain ⟨j, qo, qa, hj4, rfl, rfl, rfl, HO, HB⟩ := hrel
        obtain ⟨hs0, hs1⟩ := shN_in h0 h1 j
        by_cases hj4 : j < 4
        · have HOA := hide ((unhide HO).below (Joins.below_alloc1 _ (.cells #[.int .u8 (shN xs[k] j % 256)] 5)))
          have HBA := hide (fr (unhide HB) (Joins.below_alloc1 _ (.cells #[.int .u8 (shN xs[k] j % 256)] 5)))
          have HSZ := hide (unhide HB).size
          have HSH := hide (shN_succ xs[k] j)
          go_wp2_with (at_builtin; refine wpList_append_one rfl _ _ 22 rfl w.heap.size 5 j0 (.int .u8 0) 1 1 Tryz.underlying22 hj hy0 hy1 hy2 rfl (by omega) qo (k * 4 + j) qa (byteV (packL (xs.take k) ++ fourTo xs[k] j)) rfl (unhide HOA) (by have := unhide HSZ; simp; omega) ⟨wr.heap.size, 0, none⟩ _ [.int .u8 (shN xs[k] j % 256)] rfl rfl (byte_news wr _ _) (byte_one _) (by unfold maxLen; omega) (by omega) ?_; intro g2 cap2 wA hoA hkA; have HSF := hide (And.intro hoA (keep_below (unhide HBA) (unhide HOA) (Nat.le_refl _) hkA)); clear hoA hkA)
          go_roundw
          case rel => exact ⟨j + 1, _, _, by omega, by go_num, by rw [unhide HSH], rfl, hide (.inr ⟨by omega, by rw [fourTo_succ, ← List.append_assoc, byteV_snoc, ← shN_byte]; exact (unhide HSF).1⟩), hide (unhide HSF).2⟩
          case measure => simp [intOf]; omega
        · have HE : Hid (j = 4) := hide (by omega)
          go_wp2
          go_roundw
          case rel => exact ⟨k + 1, qo, qa, by omega, by go_num, by rw [unhide HE, show (k + 1) * 4 = k * 4 + 4 by omega], hide (by have := unhide HO; rw [unhide HE] at this; rw [packL_succ hlt, show (k + 1) * 4 = k * 4 + 4 by omega]; exact this), HB⟩
          case measure => simp [intOf]; omega
    · have HE : Hid (xs.take k = xs) := hide (List.take_of_length_le (by omega))
      have hcv := convert_own (P := Tryz.prog) Tryz.underlying22 Tryz.underlying5 Tryz.underlying9 (unhide HO)
      go_wp2
      go_ret
      exact ⟨ret_str (by rw [unhide HE]; rfl), unhide HB⟩

end Go.Proofs.YtdfinapjgffjiaaGreatDoor

/- Contracts of the model's l02Kind, l02Seal. -/
namespace Go.Proofs.YtdfinapjgffjiaaGreatDoor
open Go.RowKit
set_option linter.unusedVariables false
set_option maxRecDepth 100000

theorem l02Kind_any (n : Int) (w : World) : Calls Tryz.prog 122 #[.int .i64 n] w fun e w' => e = .returned (.bool (kindB n)) ∧ w' = w := by
  go_enter Tryz.func122, Tryz.ntmps122
  go_wp2_with (go_at_call 31; refine (l01In_num _ _ _ _).mono ?_; rintro e w' ⟨rfl, rfl⟩)
  go_ret
  exact ⟨rfl, rfl⟩
/-- 'string([]byte{a, b})'. -/
theorem lit2 (W : World) (g : Nat) (a b : Int) (h : W.heap.size = g) : (convert 22 9 (.slice (some ⟨g, 0, none⟩) 2 2)).run Tryz.prog (W.alloc (.cells #[.int .u8 a, .int .u8 b] 5)) = .ok (.string (strOfNums [a, b])) (W.alloc (.cells #[.int .u8 a, .int .u8 b] 5)) := by
  subst h
  refine run_convert_bytes_arg _ 22 5 Tryz.underlying22 Tryz.underlying5 W.heap.size 0 2 2 [a, b] rfl ?_ 9 Tryz.underlying9
  intro i hi
  rcases (show i = 0 ∨ i = 1 by omega) with rfl | rfl <;> simp [go_sem, List.getD]

theorem sum_spec (k : Int) (xs : List Int) (w : World) (hl : xs.length ≤ 16) : Calls Tryz.prog 105 #[.string (strOfNums [k, (xs.length : Int)] ++ packS xs)] w fun e w' => e = .returned (.int .i64 (sumR k xs)) ∧ w' = w :=
  l02Sum_any (sumT k xs) w (by rw [sumT_size]; omega)
set_option maxHeartbeats 1600000 in
theorem l02Seal_any (k : Int) (ao : Option Addr) (cap : Nat) (xs : List Int) (w : World) (hk : 1 ≤ k ∧ k ≤ 9) (hl : xs.length ≤ 16) (hn : ∀ j (h : j < xs.length), 0 ≤ xs[j] ∧ xs[j] ≤ 2147483647) (hc : Is w ao xs) :
    Calls Tryz.prog 80 #[.int .i64 k, .slice ao xs.length cap] w fun e w' => e = .returned (.string (sealS k xs)) ∧ Below w.heap.size w w' := by
  have HC := hide hc
  have HN := hide hn
  clear hc hn
  have hp := packS_size xs
  have hs2 : (strOfNums [k, (xs.length : Int)]).size = 2 := strOfNums_size _
  go_enter Tryz.func80, Tryz.ntmps80
  go_wp2_with fail
  refine (l02Pack_any _ _ xs _ (by omega) (unhide HN) (unhide HC)).mono ?_
  rintro e w1 ⟨rfl, hb1⟩
  have HB1 := hide hb1
  have hc1 := lit2 w1 w1.heap.size k xs.length rfl
  clear hb1
  go_wp2_with fail
  refine (sum_spec k xs _ hl).mono ?_
  rintro e w2 ⟨rfl, rfl⟩
  obtain ⟨hr0, hr1⟩ := sumR_in k xs
  have hc2 := lit2 (w1.alloc (.cells #[.int .u8 k, .int .u8 xs.length] 5)) (w1.heap.size + 1) (sumR k xs) 0 (by simp)
  have hs3 : (strOfNums [sumR k xs, 0]).size = 2 := strOfNums_size _
  have hs4 : (strOfNums [k, (xs.length : Int)] ++ strOfNums [sumR k xs, 0]).size = 4 := by rw [ByteArray.size_append, hs2, hs3]
  have HE := hide (sealS_parts k xs)
  go_wp2
  go_ret
  exact ⟨ret_str (unhide HE), fr (unhide HB1) (Joins.below_alloc2 _ _ _)⟩

end Go.Proofs.YtdfinapjgffjiaaGreatDoor
