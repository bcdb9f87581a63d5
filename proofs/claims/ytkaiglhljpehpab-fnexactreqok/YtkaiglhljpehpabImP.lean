/- Images, plainly: when they are right, and what is done to them. (Made ahead of stage 10.) -/
import Derived.Test.YtkaiglhljpehpabGen
import Derived.Test.YtkaiglhljpehpabInts
import Derived.Test.YtkaiglhljpehpabClkB
import Derived.Test.YtkaiglhljpehpabCtP
import Derived.Test.YtkaiglhljpehpabTbP
namespace Go.Proofs.Ytkaiglhljpehpab
open Go.RowKit
set_option linter.unusedVariables false
set_option maxRecDepth 100000

structure Snp where
  name : ByteArray
  table : List Int
structure Img where
  refs : List Int
  table : List Int
  snaps : List Snp
  data : List Int

/-- A snapshot's name. -/
def nm1 (b : UInt8) : Bool := decide (97 ≤ b.toNat) && decide (b.toNat ≤ 122)
def snmB (t : ByteArray) : Bool := t.data.toList.all nm1 && betw (t.size : Int) 1 6
/-- How many tables have each cluster. -/
def incr (ns : List Int) (c : Int) : List Int := ns.set c.toNat (ns.getD c.toNat 0 + 1)
def cnt1T (ns : List Int) (t : List Int) : List Int := (clA t).foldl incr ns
def imTabs (m : Img) : List (List Int) := m.table :: m.snaps.map (·.table)
def imCnt (m : Img) : List Int := (imTabs m).foldl cnt1T zero24
theorem incr_len (ns : List Int) (c : Int) : (incr ns c).length = ns.length := by simp [incr]
theorem cnt1T_len (t : List Int) : ∀ ns : List Int, (cnt1T ns t).length = ns.length := by
  unfold cnt1T
  induction clA t with
  | nil => intro ns; rfl
  | cons c cs ih => intro ns; rw [List.foldl_cons, ih, incr_len]
theorem imCnt_len (m : Img) : (imCnt m).length = 24 := by
  unfold imCnt
  have h : ∀ (ts : List (List Int)) (ns : List Int), (ts.foldl cnt1T ns).length = ns.length := by
    intro ts
    induction ts with
    | nil => intro ns; rfl
    | cons t ts ih => intro ns; rw [List.foldl_cons, ih, cnt1T_len]
  rw [h]; rfl
/-- No two snapshots have one name. -/
def namesB (ss : List Snp) : Bool := decide ((ss.map (·.name)).Nodup)
/-- All but whether counts are right. -/
def imFm (m : Img) : Bool := ctB m.refs && tbB m.table && decide (m.snaps.length ≤ 3) && decide (m.data.length = 24) && m.snaps.all (fun s => snmB s.name && tbB s.table) && namesB m.snaps && m.data.all numB
/-- A table has no cluster twice. -/
def onceB (t : List Int) : Bool := decide (clA t).Nodup
/-- Clusters that none has are 0. -/
def clearB (m : Img) : Bool := (List.range 24).all fun i => decide (m.refs.getD i 0 = 0 → m.data.getD i 0 = 0)
def imB (m : Img) : Bool := imFm m && (imTabs m).all onceB && decide (imCnt m = m.refs) && clearB m

structure ImR (m : Img) : Prop where
  refs : ctB m.refs = true
  table : tbB m.table = true
  few : m.snaps.length ≤ 3
  len : m.data.length = 24
  snaps : ∀ s ∈ m.snaps, snmB s.name = true ∧ tbB s.table = true
  names : (m.snaps.map (·.name)).Nodup
  nums : ∀ n ∈ m.data, numB n = true
  once : ∀ t ∈ imTabs m, (clA t).Nodup
  cnt : imCnt m = m.refs
  clear : ∀ i, i < 24 → m.refs.getD i 0 = 0 → m.data.getD i 0 = 0
theorem imB_iff {m : Img} : imB m = true ↔ ImR m := by
  constructor
  · intro h
    simp only [imB, imFm, namesB, onceB, clearB, Bool.and_eq_true, decide_eq_true_eq, List.all_eq_true, List.mem_range] at h
    obtain ⟨⟨⟨⟨⟨⟨⟨⟨⟨h1, h2⟩, h3⟩, h4⟩, h5⟩, h6⟩, h7⟩, h8⟩, h9⟩, h10⟩ := h
    exact ⟨h1, h2, h3, h4, h5, h6, h7, h8, h9, h10⟩
  · intro h
    simp only [imB, imFm, namesB, onceB, clearB, Bool.and_eq_true, decide_eq_true_eq, List.all_eq_true, List.mem_range]
    exact ⟨⟨⟨⟨⟨⟨⟨⟨⟨h.refs, h.table⟩, h.few⟩, h.len⟩, h.snaps⟩, h.names⟩, h.nums⟩, h.once⟩, h.cnt⟩, h.clear⟩

/-- A table has a cluster no more; the last one's data go. -/
def imDrop (m : Img) (e : Int) : Img :=
  if e < 2 then m else
    let c := (e - 2).toNat
    let r := m.refs.set c (m.refs.getD c 0 - 1)
    { m with refs := r, data := if m.refs.getD c 0 - 1 = 0 then m.data.set c 0 else m.data }
def imDrops (m : Img) (es : List Int) : Img := es.foldl imDrop m
theorem imDrop_refs (m : Img) (e : Int) : (imDrop m e).refs.length = m.refs.length := by unfold imDrop; split <;> simp
theorem imDrop_data (m : Img) (e : Int) : (imDrop m e).data.length = m.data.length := by
  unfold imDrop
  split
  · rfl
  · simp only; split <;> simp
theorem imDrop_table (m : Img) (e : Int) : (imDrop m e).table = m.table ∧ (imDrop m e).snaps = m.snaps := by unfold imDrop; split <;> exact ⟨rfl, rfl⟩
/-- A value is written: in place, or into a free cluster. -/
def imWrite (m : Img) (g : Nat) (v : Int) : Img × Int :=
  let e := m.table.getD g 0
  if 2 ≤ e ∧ m.refs.getD (e - 2).toNat 0 = 1 then ({ m with data := m.data.set (e - 2).toNat v }, 0)
  else if frN m.refs < m.refs.length then
    let c := frN m.refs
    let d := imDrop m e
    ({ d with refs := d.refs.set c 1, data := d.data.set c v, table := d.table.set g (2 + c) }, 0)
  else (m, 7)
def imZero (m : Img) (g : Nat) : Img := let d := imDrop m (m.table.getD g 0); { d with table := d.table.set g 1 }
def imResize (m : Img) (n : Nat) : Img := let d := imDrops m (m.table.drop n); { d with table := rzTo m.table n }
def imRaise (m : Img) (t : List Int) : Img := { m with refs := (clA t).foldl incr m.refs }
def imFind (m : Img) (name : ByteArray) : Nat := m.snaps.findIdx (fun s => decide (s.name = name))
def imCreate (m : Img) (name : ByteArray) : Img × Int :=
  if snmB name = true then
    (if imFind m name < m.snaps.length then (m, 8)
    else if m.snaps.length = 3 then (m, 6)
    else ({ imRaise m m.table with snaps := m.snaps ++ [⟨name, m.table⟩] }, 0))
  else (m, 12)
def imDelete (m : Img) (name : ByteArray) : Img × Int :=
  if imFind m name < m.snaps.length then ({ imDrops m ((m.snaps[imFind m name]?).elim [] (·.table)) with snaps := m.snaps.eraseIdx (imFind m name) }, 0)
  else (m, 5)
def imRevert (m : Img) (name : ByteArray) : Img × Int :=
  if imFind m name < m.snaps.length then
    let t := (m.snaps[imFind m name]?).elim [] (·.table)
    ({ imDrops (imRaise m t) m.table with table := t }, 0)
  else (m, 5)
/-- What a guest reads. -/
def imVal (m : Img) (e : Int) : Int := if e < 2 then 0 else m.data.getD (e - 2).toNat 0

end Go.Proofs.Ytkaiglhljpehpab
