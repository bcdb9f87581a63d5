import Derived.Test.YtgkpddnpckglbaaPart1
import Derived.Test.YtgkpddnpckglbaaPart2
import Derived.Test.YtgkpddnpckglbaaPart3
import Derived.WalkKit
import Derived.Laws.OwnMore
import Derived.Test.YtgkpddnpckglbaaRows
import Derived.WalkSpells
import Derived.BigQuiet
import Derived.Deep.QuietTactic
import Derived.Deep.RegionWith
import Derived.KernelRfl
import Derived.LoopN
import Derived.Deep.CutRange

/- Images, plainly: when they are right, and what is done to them. (Made ahead of stage 10.) -/
namespace Go.Proofs.Ytgkpddnpckglbaa
open Go.RowKit
set_option linter.unusedVariables false
set_option maxRecDepth 100000

structure Snp where
  name : ByteArray
  table : List Int
structure Img where
  refs : List Int
  table : List Int
  snaps : List Snp
  data : List Int

/-- A snapshot's name. -/
def nm1 (b : UInt8) : Bool := decide (97 ≤ b.toNat) && decide (b.toNat ≤ 122)
def snmB (t : ByteArray) : Bool := t.data.toList.all nm1 && betw (t.size : Int) 1 6
/-- How many tables have each cluster. -/
def incr (ns : List Int) (c : Int) : List Int := ns.set c.toNat (ns.getD c.toNat 0 + 1)
def cnt1T (ns : List Int) (t : List Int) : List Int := (clA t).foldl incr ns
def imTabs (m : Img) : List (List Int) := m.table :: m.snaps.map (·.table)
def imCnt (m : Img) : List Int := (imTabs m).foldl cnt1T zero24
theorem incr_len (ns : List Int) (c : Int) : (incr ns c).length = ns.length := by simp [incr]
theorem cnt1T_len (t : List Int) : ∀ ns : List Int, (cnt1T ns t).length = ns.length := by
  unfold cnt1T
  induction clA t with
  | nil => intro ns; rfl
  | cons c cs ih => intro ns; rw [List.foldl_cons, ih, incr_len]
theorem imCnt_len (m : Img) : (imCnt m).length = 24 := by
  unfold imCnt
  have h : ∀ (ts : List (List Int)) (ns : List Int), (ts.foldl cnt1T ns).length = ns.length := by
    intro ts
    induction ts with
    | nil => intro ns; rfl
    | cons t ts ih => intro ns; rw [List.foldl_cons, ih, cnt1T_len]
  rw [h]; rfl
/-- No two snapshots have one name. -/
def namesB (ss : List Snp) : Bool := decide ((ss.map (·.name)).Nodup)
/-- All but whether counts are right. -/
def imFm (m : Img) : Bool := ctB m.refs && tbB m.table && decide (m.snaps.length ≤ 3) && decide (m.data.length = 24) && m.snaps.all (fun s => snmB s.name && tbB s.table) && namesB m.snaps && m.data.all numB
/-- A table has no cluster twice. -/
def onceB (t : List Int) : Bool := decide (clA t).Nodup
/-- Clusters that none has are 0. -/
def clearB (m : Img) : Bool := (List.range 24).all fun i => decide (m.refs.getD i 0 = 0 → m.data.getD i 0 = 0)
def imB (m : Img) : Bool := imFm m && (imTabs m).all onceB && decide (imCnt m = m.refs) && clearB m

structure ImR (m : Img) : Prop where
  refs : ctB m.refs = true
  table : tbB m.table = true
  few : m.snaps.length ≤ 3
  len : m.data.length = 24
  snaps : ∀ s ∈ m.snaps, snmB s.name = true ∧ tbB s.table = true
  names : (m.snaps.map (·.name)).Nodup
  nums : ∀ n ∈ m.data, numB n = true
  once : ∀ t ∈ imTabs m, (clA t).Nodup
  cnt : imCnt m = m.refs
  clear : ∀ i, i < 24 → m.refs.getD i 0 = 0 → m.data.getD i 0 = 0
theorem imB_iff {m : Img} : imB m = true ↔ ImR m := by
  constructor
  · intro h
    simp only [imB, imFm, namesB, onceB, clearB, Bool.and_eq_true, decide_eq_true_eq, List.all_eq_true, List.mem_range] at h
    obtain ⟨⟨⟨⟨⟨⟨⟨⟨⟨h1, h2⟩, h3⟩, h4⟩, h5⟩, h6⟩, h7⟩, h8⟩, h9⟩, h10⟩ := h
    exact ⟨h1, h2, h3, h4, h5, h6, h7, h8, h9, h10⟩
  · intro h
    simp only [imB, imFm, namesB, onceB, clearB, Bool.and_eq_true, decide_eq_true_eq, List.all_eq_true, List.mem_range]
    exact ⟨⟨⟨⟨⟨⟨⟨⟨⟨h.refs, h.table⟩, h.few⟩, h.len⟩, h.snaps⟩, h.names⟩, h.nums⟩, h.once⟩, h.cnt⟩, h.clear⟩

/-- A table has a cluster no more; the last one's data go. -/
def imDrop (m : Img) (e : Int) : Img :=
  if e < 2 then m else
    let c := (e - 2).toNat
    let r := m.refs.set c (m.refs.getD c 0 - 1)
    { m with refs := r, data := if m.refs.getD c 0 - 1 = 0 then m.data.set c 0 else m.data }
def imDrops (m : Img) (es : List Int) : Img := es.foldl imDrop m
theorem imDrop_refs (m : Img) (e : Int) : (imDrop m e).refs.length = m.refs.length := by unfold imDrop; split <;> simp
theorem imDrop_data (m : Img) (e : Int) : (imDrop m e).data.length = m.data.length := by
  unfold imDrop
  split
  · rfl
  · simp only; split <;> simp
theorem imDrop_table (m : Img) (e : Int) : (imDrop m e).table = m.table ∧ (imDrop m e).snaps = m.snaps := by unfold imDrop; split <;> exact ⟨rfl, rfl⟩
/-- A value is written: in place, or into a free cluster. -/
def imWrite (m : Img) (g : Nat) (v : Int) : Img × Int :=
  let e := m.table.getD g 0
  if 2 ≤ e ∧ m.refs.getD (e - 2).toNat 0 = 1 then ({ m with data := m.data.set (e - 2).toNat v }, 0)
  else if frN m.refs < m.refs.length then
    let c := frN m.refs
    let d := imDrop m e
    ({ d with refs := d.refs.set c 1, data := d.data.set c v, table := d.table.set g (2 + c) }, 0)
  else (m, 7)
def imZero (m : Img) (g : Nat) : Img := let d := imDrop m (m.table.getD g 0); { d with table := d.table.set g 1 }
def imResize (m : Img) (n : Nat) : Img := let d := imDrops m (m.table.drop n); { d with table := rzTo m.table n }
def imRaise (m : Img) (t : List Int) : Img := { m with refs := (clA t).foldl incr m.refs }
def imFind (m : Img) (name : ByteArray) : Nat := m.snaps.findIdx (fun s => decide (s.name = name))
def imCreate (m : Img) (name : ByteArray) : Img × Int :=
  if snmB name = true then
    (if imFind m name < m.snaps.length then (m, 8)
    else if m.snaps.length = 3 then (m, 6)
    else ({ imRaise m m.table with snaps := m.snaps ++ [⟨name, m.table⟩] }, 0))
  else (m, 12)
def imDelete (m : Img) (name : ByteArray) : Img × Int :=
  if imFind m name < m.snaps.length then ({ imDrops m ((m.snaps[imFind m name]?).elim [] (·.table)) with snaps := m.snaps.eraseIdx (imFind m name) }, 0)
  else (m, 5)
def imRevert (m : Img) (name : ByteArray) : Img × Int :=
  if imFind m name < m.snaps.length then
    let t := (m.snaps[imFind m name]?).elim [] (·.table)
    ({ imDrops (imRaise m t) m.table with table := t }, 0)
  else (m, 5)
/-- What a guest reads. -/
def imVal (m : Img) (e : Int) : Int := if e < 2 then 0 else m.data.getD (e - 2).toNat 0

end Go.Proofs.Ytgkpddnpckglbaa

/- Images in memory, as slices show them. (Made ahead of stage 10.) -/
namespace Go.Proofs.Ytgkpddnpckglbaa
open Go.RowKit
set_option linter.unusedVariables false
set_option maxRecDepth 100000

/-- A row of snapshots. -/
def Sns (w : World) (ao : Option Addr) (ss : List Snp) : Prop := ∀ i (h : i < ss.length), ∃ b off tq tc, ao = some ⟨b, off, none⟩ ∧ w.cell? ⟨b, off + i * 2, none⟩ = some (.string ss[i].name) ∧ w.cell? ⟨b, off + i * 2 + 1, none⟩ = some (.slice tq ss[i].table.length tc) ∧ Is w tq ss[i].table ∧ ss[i].name.size ≤ maxLen ∧ ss[i].table.length ≤ maxLen
theorem Sns.below {w w' : World} {ao : Option Addr} {ss : List Snp} (h : Sns w ao ss) (hb : Below w.heap.size w w') : Sns w' ao ss := fun i hi => by
  obtain ⟨b, off, tq, tc, e, h0, h1, h2, h3, h4⟩ := h i hi
  have hl := World.block_lt_of_cell? _ _ h0
  exact ⟨b, off, tq, tc, e, (hb.cell (p := ⟨b, off + i * 2, none⟩) hl).trans h0, (hb.cell (p := ⟨b, off + i * 2 + 1, none⟩) hl).trans h1, h2.below hb, h3, h4⟩
/-- Where an image's four lists lie. -/
structure Im4 where
  ro : Option Addr
  rc : Nat
  tq : Option Addr
  tc : Nat
  so : Option Addr
  sc : Nat
  dq : Option Addr
  dc : Nat
abbrev imV (a : Im4) (m : Img) : Value := .agg #[.slice a.ro m.refs.length a.rc, .slice a.tq m.table.length a.tc, .slice a.so m.snaps.length a.sc, .slice a.dq m.data.length a.dc]
abbrev snV (s : Snp) (tq : Option Addr) (tc : Nat) : Value := .agg #[.string s.name, .slice tq s.table.length tc]
/-- An image is shown. -/
structure ImS (w : World) (a : Im4) (m : Img) : Prop where
  r : Is w a.ro m.refs
  t : Is w a.tq m.table
  s : Sns w a.so m.snaps
  d : Is w a.dq m.data
theorem ImS.below {w w' : World} {a : Im4} {m : Img} (h : ImS w a m) (hb : Below w.heap.size w w') : ImS w' a m := ⟨h.r.below hb, h.t.below hb, h.s.below hb, h.d.below hb⟩
/-- How great an image is. -/
def sn1 (s : Snp) : Nat := s.name.size + s.table.length
def snSz (ss : List Snp) : Nat := (ss.map sn1).sum
def imSz (m : Img) : Nat := m.refs.length + m.table.length + (m.snaps.length + snSz m.snaps) + m.data.length
theorem snSz_take {ss : List Snp} {k : Nat} (h : k < ss.length) : snSz (ss.take (k + 1)) = snSz (ss.take k) + sn1 ss[k] := by
  unfold snSz
  rw [List.take_succ_eq_append_getElem h, List.map_append, List.sum_append]; simp
theorem sn_le {ss : List Snp} {k : Nat} (h : k < ss.length) : sn1 ss[k] ≤ snSz ss := by
  have e := snSz_take h
  have : ∀ (xs : List Snp) (n : Nat), snSz (xs.take n) ≤ snSz xs := by
    intro xs n
    have h2 : snSz xs = snSz (xs.take n) + snSz (xs.drop n) := by
      unfold snSz
      rw [← List.sum_append, ← List.map_append, List.take_append_drop]
    omega
  have := this ss (k + 1)
  omega

end Go.Proofs.Ytgkpddnpckglbaa

/- Images that are owned: their rows of numbers lie apart from each other. (Made ahead of stage 10.) -/
namespace Go.Proofs.Ytgkpddnpckglbaa
open Go.RowKit
set_option linter.unusedVariables false
set_option maxRecDepth 100000

/-- Rows of numbers of the call's own, none of which lies in another's block. -/
structure OwnA (w : World) (B : Nat) (rs : List (Value × List Int)) : Prop where
  own : ∀ r ∈ rs, OwnN w B r.1 r.2
  apart : rs.Pairwise (fun a b => ∀ g, Own a.1 g → ¬ Own b.1 g)
theorem OwnN.ge {w : World} {B : Nat} {v : Value} {xs : List Int} (h : OwnN w B v xs) : ∀ k, Own v k → B ≤ k ∧ k < w.heap.size := by
  obtain ⟨ao, cap, rfl, ho⟩ := h
  exact ho.ge
theorem OwnN.keep {S : Nat → Prop} {w w' : World} {B : Nat} {v : Value} {xs : List Int} (h : OwnN w B v xs) (hk : Keep S w w') (hs : ∀ g, Own v g → ¬ S g) : OwnN w' B v xs := by
  obtain ⟨ao, cap, rfl, ho⟩ := h
  exact ⟨ao, cap, rfl, ho.keep hk hs⟩
theorem OwnA.below {w w' : World} {B : Nat} {rs : List (Value × List Int)} (h : OwnA w B rs) (hb : Below w.heap.size w w') : OwnA w' B rs := ⟨fun r hr => (h.own r hr).below hb, h.apart⟩
theorem OwnA.keep {S : Nat → Prop} {w w' : World} {B : Nat} {rs : List (Value × List Int)} (h : OwnA w B rs) (hk : Keep S w w') (hs : ∀ r ∈ rs, ∀ g, Own r.1 g → ¬ S g) : OwnA w' B rs := ⟨fun r hr => (h.own r hr).keep hk (hs r hr), h.apart⟩
theorem OwnA.base {w : World} {B B' : Nat} {rs : List (Value × List Int)} (h : OwnA w B rs) (hB : B' ≤ B) : OwnA w B' rs := ⟨fun r hr => (h.own r hr).base hB, h.apart⟩
theorem OwnA.nil (w : World) (B : Nat) : OwnA w B [] := ⟨fun _ h => (by cases h), List.Pairwise.nil⟩
/-- A row that was made later lies apart from all. -/
theorem OwnA.snoc {w w' : World} {B : Nat} {rs : List (Value × List Int)} {v : Value} {xs : List Int} (h : OwnA w B rs) (hb : Below w.heap.size w w') (hv : OwnN w' w.heap.size v xs) (hB : B ≤ w.heap.size) : OwnA w' B (rs ++ [(v, xs)]) := by
  refine ⟨fun r hr => ?_, ?_⟩
  · rcases List.mem_append.1 hr with h1 | h1
    · exact (h.own r h1).below hb
    · rw [List.mem_singleton] at h1
      subst h1
      exact hv.base hB
  · rw [List.pairwise_append]
    refine ⟨h.apart, List.pairwise_singleton _ _, fun a ha b hb' g hg hg' => ?_⟩
    rw [List.mem_singleton] at hb'
    subst hb'
    have h1 := ((h.own a ha).ge g hg).2
    have h2 := (hv.ge g hg').1
    omega
/-- The cells of a row of snapshots, its tables' slices given. -/
def snC : List Snp → List Value → List Value
  | s :: ss, t :: ts => .string s.name :: t :: snC ss ts
  | _, _ => []
theorem snC_length : ∀ (ss : List Snp) (ts : List Value), ss.length = ts.length → (snC ss ts).length = ss.length * 2
  | [], [], _ => rfl
  | s :: ss, t :: ts, h => by
    have := snC_length ss ts (by simpa using h)
    simp only [snC, List.length_cons, this]; omega
theorem snC_snoc : ∀ (ss : List Snp) (ts : List Value) (s : Snp) (t : Value), ss.length = ts.length → snC (ss ++ [s]) (ts ++ [t]) = snC ss ts ++ [.string s.name, t]
  | [], [], s, t, _ => rfl
  | a :: ss, b :: ts, s, t, h => by
    have := snC_snoc ss ts s t (by simpa using h)
    simp only [List.cons_append, snC, this]
/-- Its rows. -/
def imRows (a : Im4) (m : Img) (ts : List Value) : List (Value × List Int) := (.slice a.ro m.refs.length a.rc, m.refs) :: (.slice a.tq m.table.length a.tc, m.table) :: (.slice a.dq m.data.length a.dc, m.data) :: ts.zip (m.snaps.map (·.table))
/-- An image of the call's own. -/
structure OwnIm (w : World) (B : Nat) (a : Im4) (m : Img) (ts : List Value) : Prop where
  len : m.snaps.length = ts.length
  s : OwnR w B 61 2 (.slice a.so m.snaps.length a.sc) m.snaps.length (snC m.snaps ts)
  rows : OwnA w B (imRows a m ts)
theorem OwnIm.below {w w' : World} {B : Nat} {a : Im4} {m : Img} {ts : List Value} (h : OwnIm w B a m ts) (hb : Below w.heap.size w w') : OwnIm w' B a m ts := ⟨h.len, h.s.below hb, h.rows.below hb⟩

end Go.Proofs.Ytgkpddnpckglbaa

/- Contract of the laws' comparison of lists of numbers (eqIntS). -/
namespace Go.Proofs.Ytgkpddnpckglbaa
open Go.RowKit
set_option linter.unusedVariables false
set_option maxRecDepth 100000

set_option maxHeartbeats 800000 in
theorem eqIntS_any (ao bo : Option Addr) (ca cb : Nat) (ss tt : List Int) (w : World) (hl : ss.length ≤ maxLen) (hc : Is w ao ss) (hd : Is w bo tt) :
    Calls Try.prog 44 #[.slice ao ss.length ca, .slice bo tt.length cb] w fun e w' => e = .returned (.bool (eqNB ss tt)) ∧ Below w.heap.size w w' := by
  have HC := hide hc
  have HD := hide hd
  clear hc hd
  unfold maxLen at hl
  by_cases hle : ss.length = tt.length
  · have hb : ((ss.length : Int) != (tt.length : Int)) = false := by simp [hle]
    have HLE := hide hle
    clear hle
    go_enter Try.func44, Try.ntmps44
    go_wp2
    go_loopw [5] (fun i wr => ∃ k : Nat, k ≤ ss.length ∧ i = .int .i64 k ∧ Hid (∀ j (h : j < ss.length) (h' : j < tt.length), j < k → ss[j] = tt[j]) ∧ Hid (Below w.heap.size w wr)) (fun i _ => ss.length - (intOf i).toNat)
    case atStart => exact ⟨0, Nat.zero_le _, rfl, hide (fun j _ _ h => by omega), hide (Below.refl _ _)⟩
    case round =>
      obtain ⟨k, hk, rfl, HA, HB⟩ := hrel
      by_cases hlt : k < ss.length
      · have hlt' : k < tt.length := by rw [← unhide HLE]; exact hlt
        obtain ⟨b, off, rfl, hc⟩ := (unhide HC).below (unhide HB) k hlt
        obtain ⟨b', off', rfl, hc'⟩ := (unhide HD).below (unhide HB) k hlt'
        by_cases he : ss[k] = tt[k]
        · have HN := hide (eq_succ hlt hlt' (unhide HA) he)
          have be : (ss[k] != tt[k]) = false := by simp [he]
          clear he
          go_wp2
          go_quiet (fail)
          go_wp2
          go_roundw
          case rel => exact ⟨k + 1, by omega, by go_num, HN, hide ((unhide HB).trans (Joins.below_draws _ _ _))⟩
          case measure => simp [intOf]; omega
        · have H := hide (eqNB_false hlt hlt' he)
          have be : (ss[k] != tt[k]) = true := by simp [he]
          clear he
          go_wp2
          go_quiet (fail)
          go_wp2
          go_ret
          exact ⟨ret_bool (unhide H).symm, (unhide HB).trans (Joins.below_draws _ _ _)⟩
      · have H := hide (eqNB_true (unhide HLE) (fun j h h' => unhide HA j h h' (by omega)))
        go_wp2
        go_ret
        exact ⟨ret_bool (unhide H).symm, unhide HB⟩
  · have hb : ((ss.length : Int) != (tt.length : Int)) = true := by simp; omega
    have H := hide (eqNB_false_len hle)
    clear hle
    go_enter Try.func44, Try.ntmps44
    go_wp2
    go_ret
    exact ⟨ret_bool (unhide H).symm, Below.refl _ _⟩

end Go.Proofs.Ytgkpddnpckglbaa

/- Contract of the laws' own copies of lists of numbers (toIntS). -/
namespace Go.Proofs.Ytgkpddnpckglbaa
open Go.RowKit
set_option linter.unusedVariables false
set_option maxRecDepth 100000

theorem infoN : (Try.prog.info? 3).map (fun i => (i.zero, i.size, i.bytes)) = some (some (.int .i64 0), 1, 8) := by kernel_rfl

set_option maxHeartbeats 800000 in
theorem toIntS_any (ao : Option Addr) (cap : Nat) (ss : List Int) (w : World) (hl : ss.length ≤ 1048576) (hc : Is w ao ss) :
    Calls Try.prog 55 #[.slice ao ss.length cap] w fun e w' => ∃ g, e = .returned (.slice (some ⟨g, 0, none⟩) ss.length ss.length) ∧ w'.ownsRow w.heap.size 3 1 (.slice (some ⟨g, 0, none⟩) ss.length ss.length) ss.length (intV ss) ∧ Below w.heap.size w w' := by
  have HC := hide hc
  clear hc
  obtain ⟨i0, hi, hz0, hz1, hz2⟩ := info_parts infoN
  go_enter Try.func55, Try.ntmps55
  go_wp2_with (first | (at_make; refine wpList_make_full _ rfl _ _ 23 rfl w.heap.size 3 i0 _ 1 Try.underlying23 hi hz0 hz1 _ _ _ _ ss.length rfl rfl rfl rfl ?c1 ?c2 ?c3 ?_))
  case c1 => rw [hz2]; omega
  case c2 => unfold maxLen; omega
  case c3 => exact Nat.le_refl _
  intro w1 hown hgrow
  have hB : Below w.heap.size w w1 := (Below.refl _ _).grown hgrow (Nat.le_refl _) (fun _ h => by cases h)
  have HO := hide hown
  have HB := hide hB
  clear hown hB hgrow
  go_wp2
  go_loopw [4] (fun i wr => ∃ (k : Nat) (xs : List Value), k ≤ ss.length ∧ i = .int .i64 k ∧ Hid (xs.length = ss.length) ∧ Hid (xs.take k = (intV ss).take k) ∧ Hid (wr.ownsRow w.heap.size 3 1 (.slice (some ⟨w.heap.size, 0, none⟩) ss.length ss.length) ss.length xs) ∧ Hid (Below w.heap.size w wr)) (fun i _ => ss.length - (intOf i).toNat)
  case atStart => exact ⟨0, _, Nat.zero_le _, rfl, hide (by rw [(unhide HO).1]; omega), hide (by simp), HO, HB⟩
  case round =>
    obtain ⟨k, xs, hk, rfl, HL, HT, HO, HB⟩ := hrel
    by_cases hlt : k < ss.length
    · obtain ⟨b, off, rfl, hc⟩ := (unhide HC).below (unhide HB) k hlt
      have hfr := (unhide HO).frozenAt k
      obtain ⟨x0, hcx⟩ : ∃ x, wr.cell? ⟨w.heap.size, k, none⟩ = some x := ⟨_, ((unhide HO).cellAt k (by omega)).trans (List.getElem?_eq_getElem (by rw [unhide HL]; exact hlt))⟩
      have HST := hide ((unhide HO).stored k (.int .i64 ss[k]))
      go_wp2
      go_roundw
      case rel =>
        refine ⟨k + 1, xs.set k (.int .i64 ss[k]), by omega, by go_num, hide (by rw [List.length_set]; exact unhide HL), hide ?_, hide (unhide HST).1, hide ?_⟩
        · exact set_take' (by rw [unhide HL, intV_length]) (intV_get hlt) (unhide HT)
        · exact (unhide HB).grown (unhide HST).2 (unhide HB).size (fun k h => by cases h; exact Nat.le_refl _)
      case measure => simp [intOf]; omega
    · go_wp2
      go_ret
      have hkn : k = ss.length := by omega
      subst hkn
      have hxs : xs = intV ss := by
        have := unhide HT
        rwa [List.take_of_length_le (by rw [unhide HL]; exact Nat.le_refl _), List.take_of_length_le (by simp [intV])] at this
      subst hxs
      exact ⟨_, rfl, unhide HO, unhide HB⟩

end Go.Proofs.Ytgkpddnpckglbaa

/- Contracts of the laws' own copies of images: toSnap. (Made ahead of stage 10.) -/
namespace Go.Proofs.Ytgkpddnpckglbaa
open Go.RowKit
set_option linter.unusedVariables false
set_option maxRecDepth 100000

set_option maxHeartbeats 1600000 in
theorem toSnap_any (s : Snp) (tq : Option Addr) (tc : Nat) (w : World) (hl : s.table.length ≤ 1048576) (hc : Is w tq s.table) :
    Calls Try.prog 91 #[snV s tq tc] w fun e w' => ∃ g, e = .returned (snV s (some ⟨g, 0, none⟩) s.table.length) ∧ OwnN w' w.heap.size (.slice (some ⟨g, 0, none⟩) s.table.length s.table.length) s.table ∧ Below w.heap.size w w' := by
  have HA := hide (Joins.below_alloc3 w (.cells #[.string s.name, .slice tq s.table.length tc] 93) (.cells #[.string ⟨#[]⟩, .slice none 0 0] 61) (.cells #[.string s.name, .slice none 0 0] 61))
  have HC := hide (hc.below (unhide HA))
  clear hc
  go_enter Try.func91, Try.ntmps91
  go_wp2_with fail
  refine (toIntS_any tq tc s.table _ hl (unhide HC)).mono ?_
  rintro e w1 ⟨g, rfl, ho1, hb1⟩
  have hz1 : w.heap.size + 1 + 1 < w1.heap.size := by have := hb1.size; simp at this; omega
  have hc1 : w1.cell? ⟨w.heap.size + 1 + 1, 0, none⟩ = some (.string s.name) := (hb1.cell (by simp)).trans (by simp [go_sem])
  have hc2 : w1.cell? ⟨w.heap.size + 1 + 1, 1, none⟩ = some (.slice none 0 0) := (hb1.cell (by simp)).trans (by simp [go_sem])
  have hc3 : w1.cell? ⟨w.heap.size + 1, 0, none⟩ = some (.string ⟨#[]⟩) := (hb1.cell (by simp)).trans (by simp [go_sem])
  have hc4 : w1.cell? ⟨w.heap.size + 1, 1, none⟩ = some (.slice none 0 0) := (hb1.cell (by simp)).trans (by simp [go_sem])
  have hf0 : w1.frozen? ⟨w.heap.size + 1 + 1, 0, none⟩ = false := (hb1.frozen (by simp)).trans (by simp [go_sem])
  have hf1 : w1.frozen? ⟨w.heap.size + 1 + 1, 1, none⟩ = false := (hb1.frozen (by simp)).trans (by simp [go_sem])
  have hf2 : w1.frozen? ⟨w.heap.size + 1, 0, none⟩ = false := (hb1.frozen (by simp)).trans (by simp [go_sem])
  have hf3 : w1.frozen? ⟨w.heap.size + 1, 1, none⟩ = false := (hb1.frozen (by simp)).trans (by simp [go_sem])
  have HO1 := hide (OwnR.of ho1 (fun e => ⟨_, by rw [e]⟩))
  have HB1 := hide (fr (unhide HA) hb1)
  clear ho1 hb1
  have HO2 := hide ((((unhide HO1).setCell (a := ⟨w.heap.size + 1 + 1, 1, none⟩) (by simp) (.slice (some ⟨g, 0, none⟩) s.table.length s.table.length)).setCell (a := ⟨w.heap.size + 1, 0, none⟩) (by simp) (.string s.name)).setCell (a := ⟨w.heap.size + 1, 1, none⟩) (by simp) (.slice (some ⟨g, 0, none⟩) s.table.length s.table.length))
  have HB2 := hide ((((unhide HB1).setCell (p := ⟨w.heap.size + 1 + 1, 1, none⟩) (by simp; omega) (.slice (some ⟨g, 0, none⟩) s.table.length s.table.length)).setCell (p := ⟨w.heap.size + 1, 0, none⟩) (by simp) (.string s.name)).setCell (p := ⟨w.heap.size + 1, 1, none⟩) (by simp) (.slice (some ⟨g, 0, none⟩) s.table.length s.table.length))
  go_wp2
  refine bodyPost_ret (v := snV s (some ⟨g, 0, none⟩) s.table.length) (by simp [results, Try.results91, go_sem, hc3, hc4]) rfl ⟨g, rfl, ?_, unhide HB2⟩
  exact ⟨some ⟨g, 0, none⟩, s.table.length, rfl, (unhide HO2).base (by simp; omega)⟩

end Go.Proofs.Ytgkpddnpckglbaa

/- Contracts of the laws' own copies of images: toSnapS. (Made ahead of stage 10.) -/
namespace Go.Proofs.Ytgkpddnpckglbaa
open Go.RowKit
set_option linter.unusedVariables false
set_option maxRecDepth 100000

theorem infoSn : (Try.prog.info? 61).map (fun i => (i.zero, i.size, i.bytes)) = some (some (.agg #[.string ⟨#[]⟩, .slice none 0 0]), 2, 40) := by kernel_rfl
theorem sn_put2 {w : World} {B e size g n cap : Nat} {xs : List Value} (h : w.ownsRow B e size (.slice (some ⟨g, 0, none⟩) n cap) n xs) (i j : Nat) (u v : Value) :
    ((w.setCell ⟨g, i, none⟩ u).setCell ⟨g, j, none⟩ v).ownsRow B e size (.slice (some ⟨g, 0, none⟩) n cap) n ((xs.set i u).set j v) :=
  ((h.stored i u).1.stored j v).1
theorem sn_below2 {w0 w : World} {B g : Nat} (h : Below B w0 w) (hg : B ≤ g) (i j : Nat) (u v : Value) : Below B w0 ((w.setCell ⟨g, i, none⟩ u).setCell ⟨g, j, none⟩ v) :=
  (h.setCell (p := ⟨g, i, none⟩) hg u).setCell (p := ⟨g, j, none⟩) hg v
theorem OwnA.setCell {w : World} {B : Nat} {rs : List (Value × List Int)} (h : OwnA w B rs) {a : Addr} (ha : a.block < B) (u : Value) : OwnA (w.setCell a u) B rs := ⟨fun r hr => (h.own r hr).setCell ha u, h.apart⟩
theorem sn_take {ys : List Value} {ss : List Snp} {ts : List Value} {k : Nat} (hk : k < ss.length) (hl : ys.length = ss.length * 2) (ht : ts.length = k) (h : ys.take (k * 2) = snC (ss.take k) ts) (v : Value) :
    ((ys.set (k * 2) (.string ss[k].name)).set (k * 2 + 1) v).take ((k + 1) * 2) = snC (ss.take (k + 1)) (ts ++ [v]) := by
  rw [List.take_succ_eq_append_getElem hk, snC_snoc _ _ _ _ (by rw [List.length_take, ht]; omega), ← h]
  rw [show (k + 1) * 2 = k * 2 + 1 + 1 by omega, List.take_succ_eq_append_getElem (by rw [List.length_set, List.length_set]; omega), List.getElem_set_self, List.take_set_of_le (Nat.le_refl _), List.take_succ_eq_append_getElem (by rw [List.length_set]; omega), List.getElem_set_self, List.take_set_of_le (Nat.le_refl _), List.append_assoc]
  rfl
theorem sn_zip {ss : List Snp} {ts : List Value} {k : Nat} (hk : k < ss.length) (ht : ts.length = k) (v : Value) :
    (ts ++ [v]).zip ((ss.take (k + 1)).map (·.table)) = ts.zip ((ss.take k).map (·.table)) ++ [(v, ss[k].table)] := by
  rw [List.take_succ_eq_append_getElem hk, List.map_append, List.zip_append (by rw [List.length_map, List.length_take, ht]; omega)]
  rfl

set_option maxHeartbeats 1600000 in
theorem toSnapS_any (ao : Option Addr) (cap : Nat) (ss : List Snp) (w : World) (hl : ss.length ≤ 1048576) (hm : ∀ s ∈ ss, s.table.length ≤ 1048576) (hc : Sns w ao ss) :
    Calls Try.prog 56 #[.slice ao ss.length cap] w fun e w' => ∃ g ts, e = .returned (.slice (some ⟨g, 0, none⟩) ss.length ss.length) ∧ ts.length = ss.length ∧ w'.ownsRow w.heap.size 61 2 (.slice (some ⟨g, 0, none⟩) ss.length ss.length) ss.length (snC ss ts) ∧ OwnA w' w.heap.size (ts.zip (ss.map (·.table))) ∧ Below w.heap.size w w' := by
  have HC := hide hc
  have HM := hide hm
  clear hc hm
  obtain ⟨i0, hi, hz0, hz1, hz2⟩ := info_parts infoSn
  go_enter Try.func56, Try.ntmps56
  go_wp2_with (first | (at_make; refine wpList_make_full _ rfl _ _ 24 rfl w.heap.size 61 i0 _ 2 Try.underlying24 hi hz0 hz1 _ _ _ _ ss.length rfl rfl rfl rfl ?c1 ?c2 ?c3 ?_))
  case c1 => rw [hz2]; omega
  case c2 => unfold maxLen; omega
  case c3 => exact Nat.le_refl _
  intro w1 hown hgrow
  have hB : Below w.heap.size w w1 := (Below.refl _ _).grown hgrow (Nat.le_refl _) (fun _ h => by cases h)
  have hsz : w.heap.size + 1 ≤ w1.heap.size := by
    rcases hown.2 with ⟨h, _⟩ | ⟨g, cap, cur, h, _, hg, _⟩
    · cases h
    · cases h
      exact (Array.getElem?_eq_some_iff.1 hg).1
  have HO := hide hown
  have HB := hide hB
  have HZ := hide hsz
  clear hown hB hgrow hsz
  go_wp2
  go_loopw [4] (fun i wr => ∃ (k : Nat) (ys ts : List Value), k ≤ ss.length ∧ i = .int .i64 k ∧ Hid (ys.length = ss.length * 2) ∧ Hid (ts.length = k) ∧ Hid (ys.take (k * 2) = snC (ss.take k) ts) ∧ Hid (wr.ownsRow w.heap.size 61 2 (.slice (some ⟨w.heap.size, 0, none⟩) ss.length ss.length) ss.length ys) ∧ Hid (OwnA wr (w.heap.size + 1) (ts.zip ((ss.take k).map (·.table)))) ∧ Hid (w.heap.size + 1 ≤ wr.heap.size) ∧ Hid (Below w.heap.size w wr)) (fun i _ => ss.length - (intOf i).toNat)
  case atStart => exact ⟨0, _, [], Nat.zero_le _, rfl, hide (by rw [(unhide HO).1]), hide rfl, hide (by simp [snC]), HO, hide (OwnA.nil _ _), HZ, HB⟩
  case round =>
    obtain ⟨k, ys, ts, hk, rfl, HL, HK, HT, HO, HA, HZ, HB⟩ := hrel
    by_cases hlt : k < ss.length
    · obtain ⟨b, off, tq, tc, rfl, hc0, hc1, hd, hz, hm⟩ := (unhide HC).below (unhide HB) k hlt
      have HD := hide hd
      clear hz hm hd
      go_wp2_with fail
      refine (toSnap_any ss[k] tq tc _ (unhide HM _ (List.getElem_mem hlt)) (unhide HD)).mono ?_
      rintro e w2 ⟨g, rfl, ho2, hb2⟩
      have HO2 := hide (own_below (unhide HO) hb2)
      have HA2 := hide ((unhide HA).snoc hb2 ho2 (unhide HZ))
      have HZ2 := hide (Nat.le_trans (unhide HZ) hb2.size)
      have HB2 := hide ((unhide HB).trans (hb2.mono (unhide HB).size))
      clear hb2 ho2
      have hf0 := (unhide HO2).frozenAt (k * 2)
      have hf1 := (unhide HO2).frozenAt (k * 2 + 1)
      obtain ⟨x0, hx0⟩ : ∃ x, w2.cell? ⟨w.heap.size, k * 2, none⟩ = some x := ⟨_, ((unhide HO2).cellAt (k * 2) (by omega)).trans (List.getElem?_eq_getElem (by rw [unhide HL]; omega))⟩
      obtain ⟨x1, hx1⟩ : ∃ x, w2.cell? ⟨w.heap.size, k * 2 + 1, none⟩ = some x := ⟨_, ((unhide HO2).cellAt (k * 2 + 1) (by omega)).trans (List.getElem?_eq_getElem (by rw [unhide HL]; omega))⟩
      have HST := hide (sn_put2 (unhide HO2) (k * 2) (k * 2 + 1) (.string ss[k].name) (.slice (some ⟨g, 0, none⟩) ss[k].table.length ss[k].table.length))
      have HBT := hide (sn_below2 (unhide HB2) (Nat.le_refl _) (k * 2) (k * 2 + 1) (.string ss[k].name) (.slice (some ⟨g, 0, none⟩) ss[k].table.length ss[k].table.length))
      have HAT := hide (((unhide HA2).setCell (a := ⟨w.heap.size, k * 2, none⟩) (Nat.lt_succ_self _) (.string ss[k].name)).setCell (a := ⟨w.heap.size, k * 2 + 1, none⟩) (Nat.lt_succ_self _) (.slice (some ⟨g, 0, none⟩) ss[k].table.length ss[k].table.length))
      rw [← sn_zip hlt (unhide HK)] at HAT
      go_wp2
      go_roundw
      case rel => exact ⟨k + 1, _, ts ++ [.slice (some ⟨g, 0, none⟩) ss[k].table.length ss[k].table.length], by omega, by go_num, hide (by rw [List.length_set, List.length_set]; exact unhide HL), hide (by rw [List.length_append, unhide HK]; rfl), hide (sn_take hlt (unhide HL) (unhide HK) (unhide HT) _), HST, HAT, hide (by simpa using unhide HZ2), HBT⟩
      case measure => simp [intOf]; omega
    · go_wp2
      go_ret
      have hkn : k = ss.length := by omega
      subst hkn
      have hxs : ys = snC ss ts := by
        have := unhide HT
        rwa [List.take_of_length_le (by rw [unhide HL]; exact Nat.le_refl _), List.take_of_length_le (Nat.le_refl _)] at this
      subst hxs
      have ha := unhide HA
      rw [List.take_of_length_le (Nat.le_refl _)] at ha
      exact ⟨_, ts, rfl, unhide HK, unhide HO, ha.base (Nat.le_succ _), unhide HB⟩

end Go.Proofs.Ytgkpddnpckglbaa
