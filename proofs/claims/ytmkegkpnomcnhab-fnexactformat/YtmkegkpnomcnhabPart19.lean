import Derived.Test.YtmkegkpnomcnhabPart1
import Derived.Test.YtmkegkpnomcnhabPart11
import Derived.Test.YtmkegkpnomcnhabPart18
import Derived.Test.YtmkegkpnomcnhabPart7
import Derived.Test.YtmkegkpnomcnhabPart10
import Derived.Test.YtmkegkpnomcnhabPart8
import Derived.Test.YtmkegkpnomcnhabRows
import Derived.Test.YtmkegkpnomcnhabPart12
import Derived.WalkKit
import Derived.WalkSpells
import Derived.KernelRfl
import Derived.LoopN
import Derived.Test.YtmkegkpnomcnhabPart17

/- Plain: counts that were encoded are decoded; one up and one down is nothing. -/
namespace Go.Proofs.Ytmkegkpnomcnhab
open Go.RowKit
set_option linter.unusedVariables false
set_option maxRecDepth 100000

theorem lo_digit {xs : List Int} (i : Nat) (h : ∀ j, 0 ≤ xs.getD j 0 ∧ xs.getD j 0 ≤ 15) (t : Nat) (ht : t < 6) : lo6 xs i 6 / 16 ^ t % 16 = xs.getD (i + t) 0 := by
  have h0 := h (i + 0)
  have h1 := h (i + 1)
  have h2 := h (i + 2)
  have h3 := h (i + 3)
  have h4 := h (i + 4)
  have h5 := h (i + 5)
  simp only [lo6, show (16 : Int) ^ 0 = 1 from rfl, show (16 : Int) ^ 1 = 16 from rfl, show (16 : Int) ^ 2 = 256 from rfl, show (16 : Int) ^ 3 = 4096 from rfl, show (16 : Int) ^ 4 = 65536 from rfl, show (16 : Int) ^ 5 = 1048576 from rfl]
  generalize e0 : xs.getD (i + 0) 0 = a0 at *
  generalize e1 : xs.getD (i + 1) 0 = a1 at *
  generalize e2 : xs.getD (i + 2) 0 = a2 at *
  generalize e3 : xs.getD (i + 3) 0 = a3 at *
  generalize e4 : xs.getD (i + 4) 0 = a4 at *
  generalize e5 : xs.getD (i + 5) 0 = a5 at *
  match t, ht with
  | 0, _ => rw [show (16 : Int) ^ 0 = 1 from rfl, e0]; omega
  | 1, _ => rw [show (16 : Int) ^ 1 = 16 from rfl, e1]; omega
  | 2, _ => rw [show (16 : Int) ^ 2 = 256 from rfl, e2]; omega
  | 3, _ => rw [show (16 : Int) ^ 3 = 4096 from rfl, e3]; omega
  | 4, _ => rw [show (16 : Int) ^ 4 = 65536 from rfl, e4]; omega
  | 5, _ => rw [show (16 : Int) ^ 5 = 1048576 from rfl, e5]; omega
theorem sx_cut {xs : List Int} (hb : ctB xs = true) (i : Nat) (hi : i + 6 ≤ xs.length) : sxT (lo6 xs i 6) 6 = (xs.drop i).take 6 := by
  apply List.ext_getElem
  · rw [sxT_len, List.length_take, List.length_drop]; omega
  · intro t h1 h2
    have h6 : t < 6 := by rw [sxT_len] at h1; exact h1
    refine (show _ = lo6 xs i 6 / 16 ^ t % 16 by simp [sxT]).trans ?_
    rw [lo_digit i (ctB_getD hb) t h6, List.getElem_take, List.getElem_drop]
    simp [List.getD, show i + t < xs.length by omega]
theorem four_cuts {xs : List Int} (hl : xs.length = 24) : (xs.drop 0).take 6 ++ ((xs.drop 6).take 6 ++ ((xs.drop 12).take 6 ++ (xs.drop 18).take 6)) = xs := by
  have a : (xs.drop 18).take 6 = xs.drop 18 := List.take_of_length_le (by rw [List.length_drop]; omega)
  have b : (xs.drop 12).take 6 ++ xs.drop 18 = xs.drop 12 := by
    have := List.take_append_drop 6 (xs.drop 12)
    rw [List.drop_drop] at this; exact this
  have c : (xs.drop 6).take 6 ++ xs.drop 12 = xs.drop 6 := by
    have := List.take_append_drop 6 (xs.drop 6)
    rw [List.drop_drop] at this; exact this
  rw [a, b, c, List.drop_zero, List.take_append_drop]
/-- Counts that were encoded are decoded. -/
theorem enc_cd {xs : List Int} (hb : ctB xs = true) : cdC (encT xs) = 0 ∧ cdR (encT xs) = xs := by
  have hl := ctB_len hb
  have hall : allB (ctNs xs) = true := allB_true (fun j hj => by have := ctNs_in hb j hj; simp [numB, inB]; omega)
  have hz : (encT xs).size = 20 := sealS_size 2 (ctNs xs)
  have ho : openB (encT xs) 2 = true := openB_yes (rec_seal (by decide) hall (by simp [ctNs])) (seal_kind (by decide) (by simp [ctNs]))
  have hL : openL (encT xs) 2 = ctNs xs := by rw [openL_yes ho, encT, body_seal, un_pack hall]
  have hB : cdB (encT xs) = true := by
    apply cd_yes ho
    · rw [hL]; rfl
    · simp only [hL]
      intro j hj
      have := ctNs_in hb j hj
      simp only [cdN, decide_eq_true_eq]
      rw [show (16 : Int) ^ 6 = 16777216 from rfl]
      omega
  obtain ⟨c1, c2⟩ := cd_ok (by omega) hB
  refine ⟨c1, c2.trans ?_⟩
  rw [cdL, hL]
  have e : sxA (ctNs xs) 4 = sxT (lo6 xs 0 6) 6 ++ (sxT (lo6 xs 6 6) 6 ++ (sxT (lo6 xs 12 6) 6 ++ sxT (lo6 xs 18 6) 6)) := by simp [sxA, ctNs]
  rw [e, sx_cut hb 0 (by omega), sx_cut hb 6 (by omega), sx_cut hb 12 (by omega), sx_cut hb 18 (by omega), four_cuts hl]
theorem sum_set : ∀ (xs : List Int) (k : Nat) (h : k < xs.length) (v : Int), (xs.set k v).sum = xs.sum - xs[k] + v
  | x :: xs, 0, _, v => by simp; omega
  | x :: xs, k + 1, h, v => by
    have := sum_set xs k (by simpa using h) v
    simp only [List.set_cons_succ, List.sum_cons, List.getElem_cons_succ, this]; omega
/-- One up, and one down again. -/
theorem up_down {xs : List Int} {k : Nat} (hb : ctB xs = true) (hk : k < xs.length) (h15 : ¬ xs[k] = 15) : upF xs k = 0 ∧ ctB (upL xs k) = true ∧ (upL xs k).length = 24 ∧ (upL xs k)[k]? = some (xs[k] + 1) ∧ dnF (upL xs k) k = 0 ∧ dnL (upL xs k) k = xs ∧ smR (upL xs k) = smR xs + 1 := by
  have hl := ctB_len hb
  have h0 : cwF xs (k : Int) = 0 := by rw [cwF, if_pos (ctF_ok hb), if_pos (betw_yes (by omega) (by omega))]
  obtain ⟨u1, u2⟩ := (up_at h0 hk).2 h15
  have hr := ctB_at hb k hk
  have hyl : (xs.set k (xs[k] + 1)).length = 24 := by rw [List.length_set]; exact hl
  have hyb : ctB (xs.set k (xs[k] + 1)) = true := ctB_of hyl (fun i hi => by
    rw [List.getElem_set]
    split
    · exact betw_yes (by omega) (by omega)
    · have := ctB_at hb i (by rw [List.length_set] at hi; exact hi)
      exact betw_yes this.1 this.2)
  have hy0 : cwF (xs.set k (xs[k] + 1)) (k : Int) = 0 := by rw [cwF, if_pos (ctF_ok hyb), if_pos (betw_yes (by omega) (by omega))]
  have hyk : k < (xs.set k (xs[k] + 1)).length := by omega
  have hye : (xs.set k (xs[k] + 1))[k] = xs[k] + 1 := by simp
  obtain ⟨d1, d2⟩ := (dn_at hy0 hyk).2 (by rw [hye]; omega)
  rw [u2]
  refine ⟨u1, hyb, hyl, ?_, d1, ?_, ?_⟩
  · simp [hk]
  · rw [d2, hye, List.set_set, show xs[k] + 1 - 1 = xs[k] by omega, List.set_getElem_self]
  · rw [smR, smR, if_pos (ctF_ok hyb), if_pos (ctF_ok hb), sum_set xs k hk]; omega

end Go.Proofs.Ytmkegkpnomcnhab

/- The store, plainly: names as numbers, an image's updates, what sectors say. (Made ahead of stage 11.) -/
namespace Go.Proofs.Ytmkegkpnomcnhab
open Go.RowKit
set_option linter.unusedVariables false
set_option maxRecDepth 100000

/-- A name's number: letters base 27, a being 1. -/
def ch1 (n : Int) (b : UInt8) : Int := 27 * n + ((b.toNat : Int) - 97) % 256 + 1
def nmN (t : ByteArray) : Int := t.data.toList.foldl ch1 0
def pnF (t : ByteArray) : Int := if 65536 < t.size then 2 else if snmB t = true then 0 else 12
def pnN (t : ByteArray) : Int := if pnF t = 0 then nmN t else 0
/-- A number's letters. -/
def lt1 (n : Nat) : UInt8 := UInt8.ofNat (97 + (n + 26) % 27)
def ltL : Nat → Nat → List UInt8
  | 0, _ => []
  | f + 1, n => if n = 0 then [] else ltL f (n / 27) ++ [lt1 n]
def unT (n : Int) : ByteArray := ⟨(ltL 8 n.toNat).toArray⟩
theorem ch1_in {n : Int} {b : UInt8} (hb : nm1 b = true) : ch1 n b = 27 * n + ((b.toNat : Int) - 96) := by
  simp only [nm1, Bool.and_eq_true, decide_eq_true_eq] at hb
  unfold ch1
  rw [Int.emod_eq_of_lt (by omega) (by omega)]; omega
theorem fold_lo : ∀ (l : List UInt8), l.all nm1 = true → ∀ n : Int, 0 ≤ n → 0 ≤ l.foldl ch1 n ∧ l.foldl ch1 n + 1 ≤ (n + 1) * 27 ^ l.length
  | [], _, n, hn => ⟨hn, by simp⟩
  | b :: l, h, n, hn => by
    simp only [List.all_cons, Bool.and_eq_true] at h
    have hb := h.1
    simp only [nm1, Bool.and_eq_true, decide_eq_true_eq] at hb
    rw [List.foldl_cons, ch1_in h.1]
    have := fold_lo l h.2 (27 * n + ((b.toNat : Int) - 96)) (by omega)
    refine ⟨this.1, Int.le_trans this.2 ?_⟩
    rw [List.length_cons, Int.pow_succ, Int.mul_comm _ 27, ← Int.mul_assoc]
    exact Int.mul_le_mul_of_nonneg_right (by omega) (Int.pow_nonneg (by omega))
theorem snm_parts {t : ByteArray} (h : snmB t = true) : t.data.toList.all nm1 = true ∧ 1 ≤ t.size ∧ t.size ≤ 6 := by
  simp only [snmB, Bool.and_eq_true] at h
  have := betw_iff.1 h.2
  exact ⟨h.1, by omega, by omega⟩
theorem nmN_in {t : ByteArray} (h : snmB t = true) : 0 ≤ nmN t ∧ nmN t ≤ 387420488 := by
  obtain ⟨h1, h2, h3⟩ := snm_parts h
  have h4 := fold_lo _ h1 0 (by omega)
  have hl : t.data.toList.length = t.size := by simp
  rw [hl] at h4
  refine ⟨h4.1, ?_⟩
  have : (27 : Int) ^ t.size ≤ 387420489 := by rcases (show t.size = 1 ∨ t.size = 2 ∨ t.size = 3 ∨ t.size = 4 ∨ t.size = 5 ∨ t.size = 6 by omega) with e | e | e | e | e | e <;> rw [e] <;> decide
  have h5 := h4.2
  unfold nmN
  omega
/-- Letters of a name's number are the name. -/
theorem lt1_ch1 {n : Nat} {b : UInt8} (hb : nm1 b = true) : lt1 (27 * n + (b.toNat - 96)) = b ∧ (27 * n + (b.toNat - 96)) / 27 = n ∧ 27 * n + (b.toNat - 96) ≠ 0 := by
  simp only [nm1, Bool.and_eq_true, decide_eq_true_eq] at hb
  refine ⟨?_, by omega, by omega⟩
  unfold lt1
  rw [show 97 + (27 * n + (b.toNat - 96) + 26) % 27 = b.toNat by omega]
  exact UInt8.ofNat_toNat
theorem ltL_fold : ∀ (l : List UInt8) (f n : Nat), l.all nm1 = true → ∃ N : Nat, l.foldl ch1 (n : Int) = (N : Int) ∧ ltL (f + l.length) N = ltL f n ++ l
  | [], f, n, _ => ⟨n, rfl, by simp⟩
  | b :: l, f, n, h => by
    simp only [List.all_cons, Bool.and_eq_true] at h
    obtain ⟨k1, k2, k3⟩ := lt1_ch1 (n := n) h.1
    have hb := h.1
    simp only [nm1, Bool.and_eq_true, decide_eq_true_eq] at hb
    obtain ⟨N, e, hN⟩ := ltL_fold l (f + 1) (27 * n + (b.toNat - 96)) h.2
    refine ⟨N, ?_, ?_⟩
    · rw [List.foldl_cons, ch1_in h.1, ← e]
      congr 1
      omega
    · rw [List.length_cons, show f + (l.length + 1) = f + 1 + l.length by omega, hN]
      have : ltL (f + 1) (27 * n + (b.toNat - 96)) = ltL f n ++ [b] := by
        rw [ltL, if_neg k3, k1, k2]
      rw [this, List.append_assoc]; rfl
theorem ltL_zero (f : Nat) : ltL f 0 = [] := by cases f <;> simp [ltL]
theorem ltL_more : ∀ (f k n : Nat), n < 27 ^ f → ltL (f + k) n = ltL f n
  | 0, k, n, h => by
    have : n = 0 := by simpa using h
    subst this
    rw [ltL_zero, ltL_zero]
  | f + 1, k, n, h => by
    rw [show f + 1 + k = (f + k) + 1 by omega, ltL, ltL]
    by_cases hn : n = 0
    · rw [if_pos hn, if_pos hn]
    · rw [if_neg hn, if_neg hn, ltL_more f k (n / 27) (by rw [Nat.pow_succ] at h; omega)]
theorem un_nm {t : ByteArray} (h : snmB t = true) : unT (nmN t) = t := by
  obtain ⟨h1, h2, h3⟩ := snm_parts h
  have hl : t.data.toList.length = t.size := by simp
  obtain ⟨N, e, hN⟩ := ltL_fold t.data.toList (8 - t.size) 0 h1
  rw [hl, show 8 - t.size + t.size = 8 by omega, ltL_zero, List.nil_append] at hN
  have e2 : nmN t = (N : Int) := e
  rw [unT, e2, Int.toNat_natCast, hN]
theorem un_nm2 {t : ByteArray} (h : snmB t = true) : nmN (unT (nmN t)) = nmN t := by rw [un_nm h]

/-- An image's updates: the names, the counts, the tables, and data of clusters that some table has. -/
def supL (m : Img) : List Int := (m.snaps.length : Int) :: m.snaps.map (fun s => nmN s.name)
def tabU : Nat → List Snp → List Up
  | _, [] => []
  | i, s :: ss => ⟨12 + (i : Int), encTb s.table⟩ :: tabU (i + 1) ss
def datU (m : Img) (c : Nat) : List Up := if 0 < m.refs.getD c 0 then [⟨15 + (c : Int), sealS 4 [m.data.getD c 0]⟩] else []
def headU (m : Img) : List Up := [⟨9, sealS 1 (supL m)⟩, ⟨10, encT m.refs⟩, ⟨11, encTb m.table⟩]
def dataU (m : Img) (k : Nat) : List Up := (List.range k).flatMap (datU m)
def allU (m : Img) : List Up := headU m ++ tabU 0 m.snaps ++ dataU m 24
theorem tabU_len : ∀ (ss : List Snp) (i : Nat), (tabU i ss).length = ss.length
  | [], i => rfl
  | s :: ss, i => by simp only [tabU, List.length_cons, tabU_len ss (i + 1)]
theorem tabU_snoc : ∀ (ss : List Snp) (i : Nat) (s : Snp), tabU i (ss ++ [s]) = tabU i ss ++ [⟨12 + ((i + ss.length : Nat) : Int), encTb s.table⟩]
  | [], i, s => by simp [tabU]
  | a :: ss, i, s => by
    simp only [List.cons_append, tabU, tabU_snoc ss (i + 1) s, List.length_cons]
    rw [show i + 1 + ss.length = i + (ss.length + 1) by omega]
theorem dataU_succ (m : Img) (k : Nat) : dataU m (k + 1) = dataU m k ++ datU m k := by
  unfold dataU
  rw [List.range_succ, List.flatMap_append]; simp
theorem dataU_len (m : Img) : ∀ k, (dataU m k).length ≤ k
  | 0 => by simp [dataU]
  | k + 1 => by
    rw [dataU_succ, List.length_append]
    have := dataU_len m k
    have h2 : (datU m k).length ≤ 1 := by unfold datU; split <;> simp
    omega
theorem allU_len {m : Img} (h : m.snaps.length ≤ 3) : (allU m).length ≤ 30 := by
  unfold allU
  rw [List.length_append, List.length_append, tabU_len]
  have := dataU_len m 24
  have : (headU m).length = 3 := rfl
  omega
/-- What ImageUpdates answers. -/
def iuA (m : Img) : List Up × Int := if imB m = true then (allU m, 0) else ([], 1)
/-- What one image's sectors have otherwise than another's. -/
def upEq (u v : Up) : Bool := decide (u.at_ = v.at_) && decide (u.data = v.data)
def difU (a b : Img) : List Up := (allU b).filter fun u => !((allU a).any fun v => upEq v u)
def dfA (a b : Img) : List Up × Int := if imB a = true ∧ imB b = true then (difU a b, 0) else ([], 1)

end Go.Proofs.Ytmkegkpnomcnhab

/- Contracts of the model's l11Name, PackName. (Made ahead of stage 11.) -/
namespace Go.Proofs.Ytmkegkpnomcnhab
open Go.RowKit
set_option linter.unusedVariables false
set_option maxRecDepth 100000

/-- A name's number, as far as it has gone. -/
def nmK (t : ByteArray) (k : Nat) : Int := (t.data.toList.take k).foldl ch1 0
theorem nmK_succ {t : ByteArray} {k : Nat} (hk : k < t.size) : nmK t (k + 1) = ch1 (nmK t k) t.data.toList[k] := by
  unfold nmK
  rw [List.take_succ_eq_append_getElem (by simpa using hk), List.foldl_append]; rfl
theorem nmK_all (t : ByteArray) : nmK t t.size = nmN t := by
  unfold nmK nmN
  rw [List.take_of_length_le (by simp)]
theorem ch1_le {n : Int} {b : UInt8} (h0 : 0 ≤ n) : 0 ≤ ch1 n b ∧ ch1 n b ≤ 27 * n + 256 := by
  unfold ch1
  have h1 := Int.emod_nonneg ((b.toNat : Int) - 97) (show (256 : Int) ≠ 0 by decide)
  have h2 := Int.emod_lt_of_pos ((b.toNat : Int) - 97) (show (0 : Int) < 256 by decide)
  omega
theorem tl_lt {t : ByteArray} {k : Nat} (h : k + 1 ≤ t.size) : k < t.data.toList.length := by
  have : t.data.toList.length = t.size := by simp
  omega
/-- Bounds of a number of a short text. -/
def bd27 : Nat → Int
  | 0 => 0
  | k + 1 => 27 * bd27 k + 256
theorem nmK_le (t : ByteArray) : ∀ k, k ≤ t.size → 0 ≤ nmK t k ∧ nmK t k ≤ bd27 k
  | 0, _ => by simp [nmK, bd27]
  | k + 1, h => by
    have h1 := nmK_le t k (by omega)
    rw [nmK_succ (by omega)]
    have h2 := ch1_le (n := nmK t k) (b := t.data.toList[k]'(tl_lt h)) h1.1
    refine ⟨h2.1, Int.le_trans h2.2 ?_⟩
    rw [bd27]
    omega

theorem bd27_le : ∀ k, k ≤ 8 → 0 ≤ bd27 k ∧ bd27 k ≤ 10000000000000 := by
  intro k hk
  rcases (show k = 0 ∨ k = 1 ∨ k = 2 ∨ k = 3 ∨ k = 4 ∨ k = 5 ∨ k = 6 ∨ k = 7 ∨ k = 8 by omega) with rfl | rfl | rfl | rfl | rfl | rfl | rfl | rfl | rfl <;> decide

set_option maxHeartbeats 800000 in
theorem l11Name_any (t : ByteArray) (w : World) (hz : t.size ≤ 8) :
    Calls Try.prog 70 #[.string t] w fun e w' => e = .returned (.int .i64 (nmN t)) ∧ w' = w := by
  go_enter Try.func70, Try.ntmps70
  go_wp2
  go_loop [3, 4] (fun n i => ∃ k : Nat, k ≤ t.size ∧ i = .int .i64 k ∧ n = .int .i64 (nmK t k)) (fun _ i => t.size - (intOf i).toNat)
  case atStart => exact ⟨0, Nat.zero_le _, rfl, rfl⟩
  case round =>
    obtain ⟨k, hk, rfl, rfl⟩ := hrel
    by_cases hlt : k < t.size
    · have hlti : (k : Int) < (t.size : Int) := by omega
      have HS : Hid (nmK t (k + 1) = 27 * nmK t k + ((t[k].toNat : Int) - 97) % 256 + 1) := hide (by
        rw [nmK_succ hlt]
        have e : t.data.toList[k]'(by simpa using hlt) = t[k] := by have := snm_get hlt; rw [List.getElem?_eq_getElem (by simpa using hlt)] at this; exact Option.some.inj this
        rw [e]; rfl)
      obtain ⟨b0, b1⟩ := nmK_le t k hk
      obtain ⟨d0, d1⟩ := bd27_le k (by omega)
      have h1 := Int.emod_nonneg ((t[k].toNat : Int) - 97) (show (256 : Int) ≠ 0 by decide)
      have h2 := Int.emod_lt_of_pos ((t[k].toNat : Int) - 97) (show (0 : Int) < 256 by decide)
      have hu : IntKind.u8.wrap ((t[k].toNat : Int) - 97) = ((t[k].toNat : Int) - 97) % 256 := by simp [IntKind.wrap, IntKind.bits, IntKind.signed]
      generalize nmK t k = X at *
      generalize ((t[k].toNat : Int) - 97) % 256 = D at *
      have w1 : IntKind.i64.wrap (27 * X) = 27 * X := by rw [IntKind.wrap_i64]; omega
      have w2 : IntKind.i64.wrap D = D := by rw [IntKind.wrap_i64]; omega
      have w3 : IntKind.i64.wrap (27 * X + D) = 27 * X + D := by rw [IntKind.wrap_i64]; omega
      have w4 : IntKind.i64.wrap (27 * X + D + 1) = 27 * X + D + 1 := by rw [IntKind.wrap_i64]; omega
      go_wp2
      go_round
      case rel => exact ⟨k + 1, by omega, by go_num, by rw [unhide HS]⟩
      case measure => simp [intOf]; omega
    · obtain rfl : k = t.size := by omega
      have HF := hide (nmK_all t)
      go_wp2
      go_ret
      exact ⟨ret_int (unhide HF), rfl⟩

end Go.Proofs.Ytmkegkpnomcnhab

/- The store, plainly: what sectors say; an image is read back from its sectors. (Made ahead of stage 11.) -/
namespace Go.Proofs.Ytmkegkpnomcnhab
open Go.RowKit
set_option linter.unusedVariables false
set_option maxRecDepth 100000

/-- What sectors say of an image: each part, and whether it stands. -/
def srS (sec : Nat → ByteArray) : List Int := openL (sec 9) 1
def srN (sec : Nat → ByteArray) : Nat := ((srS sec).getD 0 0).toNat
def supB (sec : Nat → ByteArray) : Bool := openB (sec 9) 1 && decide (0 < (srS sec).length) && decide ((srS sec).getD 0 0 ≤ 3) && decide (((srS sec).length : Int) = 1 + (srS sec).getD 0 0)
def srR (sec : Nat → ByteArray) : List Int := if cdB (sec 10) = true then cdL (sec 10) else []
def srT (sec : Nat → ByteArray) : List Int := openL (sec 11) 3
def snB1 (sec : Nat → ByteArray) (i : Nat) : Bool := tdB (sec (12 + i)) && decide (nmN (unT ((srS sec).getD (1 + i) 0)) = (srS sec).getD (1 + i) 0)
def snR1 (sec : Nat → ByteArray) (i : Nat) : Snp := ⟨unT ((srS sec).getD (1 + i) 0), openL (sec (12 + i)) 3⟩
def srSn (sec : Nat → ByteArray) (k : Nat) : List Snp := (List.range k).map (snR1 sec)
def daB1 (sec : Nat → ByteArray) (c : Nat) : Bool := decide ((srR sec).getD c 0 = 0) || (openB (sec (15 + c)) 4 && decide ((openL (sec (15 + c)) 4).length = 1))
def daR1 (sec : Nat → ByteArray) (c : Nat) : Int := if (srR sec).getD c 0 = 0 then 0 else (openL (sec (15 + c)) 4).getD 0 0
def srM (sec : Nat → ByteArray) : Img := ⟨srR sec, srT sec, srSn sec (srN sec), (List.range 24).map (daR1 sec)⟩
def srP (sec : Nat → ByteArray) : Bool := supB sec && cdB (sec 10) && tdB (sec 11) && (List.range (srN sec)).all (snB1 sec) && (List.range 24).all (daB1 sec)
def srB (sec : Nat → ByteArray) : Bool := srP sec && imB (srM sec)

theorem open_seal1 {k : Int} {xs : List Int} (hk : 0 ≤ k ∧ k ≤ 255) (ha : allB xs = true) (hl : xs.length ≤ 16) (hk2 : 1 ≤ k ∧ k ≤ 9) : openB (sealS k xs) k = true ∧ openL (sealS k xs) k = xs := by
  have ho : openB (sealS k xs) k = true := openB_yes (rec_seal (by omega) ha (by omega)) (seal_kind (by omega) (by omega))
  exact ⟨ho, by rw [openL_yes ho, body_seal, un_pack ha]⟩
theorem tabU_mem : ∀ (ss : List Snp) (i : Nat) (j : Nat) (hj : j < ss.length), (⟨12 + ((i + j : Nat) : Int), encTb ss[j].table⟩ : Up) ∈ tabU i ss
  | s :: ss, i, 0, _ => by simp [tabU]
  | s :: ss, i, j + 1, hj => by
    have := tabU_mem ss (i + 1) j (by simpa using hj)
    simp only [tabU, List.mem_cons, List.getElem_cons_succ]
    right
    rwa [show i + (j + 1) = i + 1 + j by omega]
theorem allB_snm {m : Img} (h : ImR m) : allB (supL m) = true := by
  have hs := h.few
  unfold allB supL
  rw [List.all_cons, Bool.and_eq_true]
  refine ⟨by simp [numB, inB]; omega, ?_⟩
  rw [List.all_eq_true]
  intro x hx
  obtain ⟨s, hs', rfl⟩ := List.mem_map.1 hx
  have := nmN_in (h.snaps s hs').1
  simp [numB, inB]; omega
/-- An image is read back from its sectors. -/
theorem sr_all {m : Img} (h : ImR m) {sec : Nat → ByteArray} (hs : ∀ u ∈ allU m, sec u.at_.toNat = u.data) : srB sec = true ∧ srM sec = m := by
  have hmem : ∀ u, u ∈ headU m ∨ u ∈ tabU 0 m.snaps ∨ u ∈ dataU m 24 → sec u.at_.toNat = u.data := fun u hu => hs u (by unfold allU; rw [List.mem_append, List.mem_append]; rcases hu with h | h | h <;> simp [h])
  have e9 : sec 9 = sealS 1 (supL m) := hmem ⟨9, sealS 1 (supL m)⟩ (.inl (by simp [headU]))
  have e10 : sec 10 = encT m.refs := hmem ⟨10, encT m.refs⟩ (.inl (by simp [headU]))
  have e11 : sec 11 = encTb m.table := hmem ⟨11, encTb m.table⟩ (.inl (by simp [headU]))
  have hf := h.few
  obtain ⟨o9, l9⟩ := open_seal1 (k := 1) (by omega) (allB_snm h) (by simp [supL]; omega) (by omega)
  have hS : srS sec = supL m := by rw [srS, e9, l9]
  have hN : srN sec = m.snaps.length := by rw [srN, hS]; simp [supL]
  have hsup : supB sec = true := by
    unfold supB
    rw [e9, o9, hS]
    simp [supL]
    omega
  obtain ⟨c1, c2⟩ := enc_cd h.refs
  have hcd : cdB (sec 10) = true := by
    rw [e10]
    cases hb : cdB (encT m.refs) with
    | true => rfl
    | false =>
      unfold cdC at c1
      rw [hb] at c1
      split at c1 <;> simp at c1
  have hR : srR sec = m.refs := by
    rw [srR, if_pos hcd, e10]
    rw [cdR, if_pos c1] at c2
    exact c2
  have tb : ∀ t : List Int, tbB t = true → tdB (encTb t) = true ∧ openL (encTb t) 3 = t := fun t ht => by
    obtain ⟨ho, hl⟩ := open_seal1 (k := 3) (by omega) (tb_all ht) (by have := tbB_len ht; omega) (by omega)
    have hl' : openL (encTb t) 3 = t := hl
    exact ⟨by rw [tdB, hl', ht, Bool.and_true]; exact ho, hl'⟩
  obtain ⟨t1, t2⟩ := tb m.table h.table
  have hT : srT sec = m.table := by rw [srT, e11, t2]
  have hsn : ∀ i (hi : i < m.snaps.length), snB1 sec i = true ∧ snR1 sec i = m.snaps[i] := fun i hi => by
    have e := hmem ⟨12 + ((0 + i : Nat) : Int), encTb m.snaps[i].table⟩ (.inr (.inl (tabU_mem m.snaps 0 i hi)))
    have e' : sec (12 + i) = encTb m.snaps[i].table := by
      have e2 : sec (12 + ((0 + i : Nat) : Int)).toNat = encTb m.snaps[i].table := e
      rwa [show (12 + ((0 + i : Nat) : Int)).toNat = 12 + i by omega] at e2
    obtain ⟨s1, s2⟩ := tb _ (h.snaps _ (List.getElem_mem hi)).2
    have hv : (srS sec).getD (1 + i) 0 = nmN m.snaps[i].name := by
      rw [hS, Nat.add_comm]
      simp [supL, List.getD, hi]
    have hnm := (h.snaps _ (List.getElem_mem hi)).1
    unfold snB1 snR1
    rw [e', s1, s2, hv, un_nm hnm]
    exact ⟨by simp, rfl⟩
  have hSn : srSn sec (srN sec) = m.snaps := by
    rw [hN]
    refine List.ext_getElem (by simp [srSn]) (fun i h1 h2 => ?_)
    simp only [srSn, List.getElem_map, List.getElem_range]
    exact (hsn i h2).2
  have hda : ∀ c, c < 24 → daB1 sec c = true ∧ daR1 sec c = m.data.getD c 0 := fun c hc => by
    unfold daB1 daR1
    rw [hR]
    by_cases hz : m.refs.getD c 0 = 0
    · rw [if_pos hz, decide_eq_true hz, h.clear c hc hz]
      exact ⟨rfl, rfl⟩
    · have hp : 0 < m.refs.getD c 0 := by
        have hcl : c < m.refs.length := by rw [h.rl]; exact hc
        have := ctB_at h.refs c hcl
        rw [show m.refs.getD c 0 = m.refs[c] by simp [List.getD, hcl]] at hz ⊢
        omega
      have e := hmem ⟨15 + (c : Int), sealS 4 [m.data.getD c 0]⟩ (.inr (.inr (by
        unfold dataU
        rw [List.mem_flatMap]
        exact ⟨c, List.mem_range.2 hc, by unfold datU; rw [if_pos hp]; simp⟩)))
      have e' : sec (15 + c) = sealS 4 [m.data.getD c 0] := by
        have e2 : sec (15 + (c : Int)).toNat = sealS 4 [m.data.getD c 0] := e
        rwa [show (15 + (c : Int)).toNat = 15 + c by omega] at e2
      have hnum : numB (m.data.getD c 0) = true := by
        have hcl : c < m.data.length := by rw [h.len]; exact hc
        rw [show m.data.getD c 0 = m.data[c] by simp [List.getD, hcl]]
        exact h.nums _ (List.getElem_mem hcl)
      obtain ⟨ho, hl⟩ := open_seal1 (k := 4) (xs := [m.data.getD c 0]) (by omega) (by unfold allB; rw [List.all_cons, hnum]; rfl) (by simp) (by omega)
      rw [if_neg hz, e', ho, hl]
      exact ⟨by simp, rfl⟩
  have hD : (List.range 24).map (daR1 sec) = m.data := by
    refine getD_ext (by simp) h.len (fun i hi => ?_)
    rw [range_getD hi]
    exact (hda i hi).2
  have hM : srM sec = m := by
    unfold srM
    rw [hR, hT, hSn, hD]
  refine ⟨?_, hM⟩
  unfold srB srP
  rw [hM, imB_iff.2 h, hsup, hcd, e11, t1, hN]
  simp only [Bool.and_true, Bool.true_and, Bool.and_eq_true, List.all_eq_true, List.mem_range]
  exact ⟨fun i hi => (hsn i hi).1, fun c hc => (hda c hc).1⟩

end Go.Proofs.Ytmkegkpnomcnhab
