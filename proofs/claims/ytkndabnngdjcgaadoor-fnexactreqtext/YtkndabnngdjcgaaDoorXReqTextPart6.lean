import Derived.Test.YtkndabnngdjcgaaDoorRows
import Derived.Shelf.Strings.Builder1
import Derived.Shelf.Strings.Builder2
import Derived.Shelf.Strings.OnBuilder
import Derived.Shelf.Strconv.Itoa0
import Derived.Shelf.Strconv.Itoa1
import Derived.Shelf.LaysM
import Derived.Shelf.Strconv.Itoa2
import Derived.Shelf.Strconv.Itoa3
import Derived.Shelf.Strings.FieldsFuncAny
import Derived.Shelf.Strings.FieldsFuncGrows
import Derived.Test.YtkndabnngdjcgaaDoorXReqTextPart5
import Derived.Lib.AppendIntMem
import Derived.Lib.Join
import Derived.Lib.LaidTab
import Derived.WalkKit
import Derived.WalkSpells
import Derived.KernelRfl
import Derived.ProofKit
import Derived.OpenShut
import Derived.ShutString
import Derived.LaidMore
import Derived.OpenVars
import Derived.Stop.Joined

/- The library's strconv.Itoa, strings.Join and strings.FieldsFunc lie in this program as in the shelf's: the numbers. -/
namespace Go.Proofs.YtkndabnngdjcgaaDoor
open Go.RowKit Go.Shelf
set_option maxRecDepth 100000
set_option linter.unusedVariables false

def lay_lays156_ren : Go.Shelf.Ren := ⟨fun | 156 => 99 | 165 => 127 | 166 => 128 | 169 => 129 | 240 => 151 | 241 => 152 | 276 => 162 | 277 => 163 | n => n, fun | 31 => 34 | 9 => 9 | 3 => 3 | 4 => 4 | 0 => 0 | 20 => 20 | 72 => 168 | 76 => 170 | 70 => 166 | 37 => 59 | 75 => 159 | 127 => 194 | 164 => 203 | 5 => 5 | 80 => 149 | n => n, fun | n => n⟩

theorem lay_lays156 : Go.Proofs.Lays.n156 Tryd.prog lay_lays156_ren := {
  mixed := by kernel_rfl
  f156 := Tryd.func99.trans (congrArg some (by kernel_rfl))
  f165 := Tryd.func127.trans (congrArg some (by kernel_rfl))
  f166 := Tryd.func128.trans (congrArg some (by kernel_rfl))
  f169 := Tryd.func129.trans (congrArg some (by kernel_rfl))
  f240 := Tryd.func151.trans (congrArg some (by kernel_rfl))
  f241 := Tryd.func152.trans (congrArg some (by kernel_rfl))
  f276 := Tryd.func162.trans (congrArg some (by kernel_rfl))
  f277 := Tryd.func163.trans (congrArg some (by kernel_rfl))
  t0 := Tryd.underlying0
  a0 := Tryd.isAgg0
  z0 := Tryd.sizeOf0
  v0 := Tryd.zeroValue0
  t3 := Tryd.underlying3
  a3 := Tryd.isAgg3
  z3 := Tryd.sizeOf3
  v3 := Tryd.zeroValue3
  t4 := Tryd.underlying4
  a4 := Tryd.isAgg4
  z4 := Tryd.sizeOf4
  v4 := Tryd.zeroValue4
  t9 := Tryd.underlying9
  a9 := Tryd.isAgg9
  z9 := Tryd.sizeOf9
  v9 := Tryd.zeroValue9
  t20 := Tryd.underlying20
  a20 := Tryd.isAgg20
  z20 := Tryd.sizeOf20
  v20 := Tryd.zeroValue20
  t31 := Tryd.underlying34
  a31 := Tryd.isAgg34
  z31 := Tryd.sizeOf34
  v31 := Tryd.zeroValue34
  t37 := Tryd.underlying59
  a37 := Tryd.isAgg59
  z37 := Tryd.sizeOf59
  v37 := Tryd.zeroValue59
  t70 := Tryd.underlying166
  a70 := Tryd.isAgg166
  z70 := Tryd.sizeOf166
  v70 := Tryd.zeroValue166
  t72 := Tryd.underlying168
  a72 := Tryd.isAgg168
  z72 := Tryd.sizeOf168
  v72 := Tryd.zeroValue168
  t75 := Tryd.underlying159
  a75 := Tryd.isAgg159
  z75 := Tryd.sizeOf159
  v75 := Tryd.zeroValue159
  t76 := Tryd.underlying170
  a76 := Tryd.isAgg170
  z76 := Tryd.sizeOf170
  v76 := Tryd.zeroValue170
  t127 := Tryd.underlying194
  a127 := Tryd.isAgg194
  z127 := Tryd.sizeOf194
  v127 := Tryd.zeroValue194
  t164 := Tryd.underlying203
  a164 := Tryd.isAgg203
  z164 := Tryd.sizeOf203
  v164 := Tryd.zeroValue203 }

theorem lay_Builder_Extra_156 : Builder.Extra Tryd.prog lay_lays156_ren := {
  sizeBuilder := by kernel_rfl
  liesBuilder := by kernel_rfl
  t5 := Tryd.underlying5
  a5 := Tryd.isAgg5
  z5 := Tryd.sizeOf5
  v5 := Tryd.zeroValue5
  infoByte := by kernel_rfl
  cellsByte := by kernel_rfl
  sizeByte := by kernel_rfl
  neB5 := by decide }

open Go.RowKit in
theorem lay_strings_Join_none (a : Option Addr) (c : Nat) (sep : ByteArray) (w : World) :
    Calls Tryd.prog 99 #[.slice a 0 c, .string sep] w fun e w' => e = .returned (.string ⟨#[]⟩) ∧ w' = w := Any.strings_Join_none lay_lays156 lay_Builder_Extra_156 a c sep w

open Go.RowKit in
theorem lay_strings_Join (bk o c : Nat) (xs : List ByteArray) (sep : ByteArray) (w : World) (hcells : ∀ (j : Nat) x, xs[j]? = some x → w.cell? ⟨bk, o + j, none⟩ = some (.string x)) (hbk : bk < w.heap.size) (hN : xs.length ≤ 140737488355328) (hcap : xs.length ≤ c) (hlen : (Lib.join (xs.map (·.data.toList)) sep.data.toList).length ≤ 140737488355328) :
    Calls Tryd.prog 99 #[.slice (some ⟨bk, o, none⟩) xs.length c, .string sep] w fun e w' => e = .returned (.string ⟨(Lib.join (xs.map (·.data.toList)) sep.data.toList).toArray⟩) ∧ Below w.heap.size w w' := Any.strings_Join lay_lays156 lay_Builder_Extra_156 bk o c xs sep w hcells hbk hN hcap hlen

def lay_laysM171_ren : Go.Shelf.Ren := ⟨fun | 171 => 57 | 243 => 98 | 246 => 126 | 283 => 147 | 284 => 148 | 285 => 149 | 286 => 150 | 129 => 158 | 317 => 157 | 318 => 159 | 319 => 160 | 320 => 161 | 337 => 167 | 338 => 168 | n => n, fun | 3 => 3 | 9 => 9 | 2 => 2 | 4 => 4 | 171 => 188 | 0 => 0 | 53 => 189 | 37 => 59 | 5 => 5 | 173 => 192 | 212 => 198 | 51 => 199 | 20 => 20 | 213 => 200 | 46 => 201 | 232 => 209 | 233 => 210 | n => n, fun | 17 => 3 | 18 => 5 | 19 => 6 | n => n⟩

theorem lay_laysM171 : Go.Proofs.LaysM.n171 Tryd.prog lay_laysM171_ren := {
  mixed := by kernel_rfl
  f129 := Tryd.func158.trans (congrArg some (by kernel_rfl))
  f171 := Tryd.func57.trans (congrArg some (by kernel_rfl))
  f243 := Tryd.func98.trans (congrArg some (by kernel_rfl))
  f246 := Tryd.func126.trans (congrArg some (by kernel_rfl))
  f283 := Tryd.func147.trans (congrArg some (by kernel_rfl))
  f284 := Tryd.func148.trans (congrArg some (by kernel_rfl))
  f285 := Tryd.func149.trans (congrArg some (by kernel_rfl))
  f286 := Tryd.func150.trans (congrArg some (by kernel_rfl))
  f317 := Tryd.func157.trans (congrArg some (by kernel_rfl))
  f318 := Tryd.func159.trans (congrArg some (by kernel_rfl))
  f319 := Tryd.func160.trans (congrArg some (by kernel_rfl))
  f320 := Tryd.func161.trans (congrArg some (by kernel_rfl))
  f337 := Tryd.func167.trans (congrArg some (by kernel_rfl))
  f338 := Tryd.func168.trans (congrArg some (by kernel_rfl))
  t0 := Tryd.underlying0
  a0 := Tryd.isAgg0
  z0 := Tryd.sizeOf0
  v0 := Tryd.zeroValue0
  t2 := Tryd.underlying2
  a2 := Tryd.isAgg2
  z2 := Tryd.sizeOf2
  v2 := Tryd.zeroValue2
  t3 := Tryd.underlying3
  a3 := Tryd.isAgg3
  z3 := Tryd.sizeOf3
  v3 := Tryd.zeroValue3
  t4 := Tryd.underlying4
  a4 := Tryd.isAgg4
  z4 := Tryd.sizeOf4
  v4 := Tryd.zeroValue4
  t5 := Tryd.underlying5
  a5 := Tryd.isAgg5
  z5 := Tryd.sizeOf5
  v5 := Tryd.zeroValue5
  t9 := Tryd.underlying9
  a9 := Tryd.isAgg9
  z9 := Tryd.sizeOf9
  v9 := Tryd.zeroValue9
  t20 := Tryd.underlying20
  a20 := Tryd.isAgg20
  z20 := Tryd.sizeOf20
  v20 := Tryd.zeroValue20
  t37 := Tryd.underlying59
  a37 := Tryd.isAgg59
  z37 := Tryd.sizeOf59
  v37 := Tryd.zeroValue59
  t46 := Tryd.underlying201
  a46 := Tryd.isAgg201
  z46 := Tryd.sizeOf201
  v46 := Tryd.zeroValue201
  t51 := Tryd.underlying199
  a51 := Tryd.isAgg199
  z51 := Tryd.sizeOf199
  v51 := Tryd.zeroValue199
  t53 := Tryd.underlying189
  a53 := Tryd.isAgg189
  z53 := Tryd.sizeOf189
  v53 := Tryd.zeroValue189
  t171 := Tryd.underlying188
  a171 := Tryd.isAgg188
  z171 := Tryd.sizeOf188
  v171 := Tryd.zeroValue188
  t173 := Tryd.underlying192
  a173 := Tryd.isAgg192
  z173 := Tryd.sizeOf192
  v173 := Tryd.zeroValue192
  t212 := Tryd.underlying198
  a212 := Tryd.isAgg198
  z212 := Tryd.sizeOf198
  v212 := Tryd.zeroValue198
  t213 := Tryd.underlying200
  a213 := Tryd.isAgg200
  z213 := Tryd.sizeOf200
  t232 := Tryd.underlying209
  a232 := Tryd.isAgg209
  z232 := Tryd.sizeOf209
  v232 := Tryd.zeroValue209
  t233 := Tryd.underlying210
  a233 := Tryd.isAgg210
  z233 := Tryd.sizeOf210
  v233 := Tryd.zeroValue210
  g17 := by kernel_rfl
  g18 := by kernel_rfl
  g19 := by kernel_rfl
  i0 := by kernel_rfl
  i2 := by kernel_rfl
  i3 := by kernel_rfl
  i4 := by kernel_rfl
  i5 := by kernel_rfl
  i9 := by kernel_rfl
  i20 := by kernel_rfl
  i37 := by kernel_rfl
  i46 := by kernel_rfl
  i51 := by kernel_rfl
  i53 := by kernel_rfl
  i171 := by kernel_rfl
  i173 := by kernel_rfl
  i212 := by kernel_rfl
  i232 := by kernel_rfl
  i233 := by kernel_rfl
  m17 := by kernel_rfl
  m18 := by kernel_rfl
  m19 := by kernel_rfl }

open Go.RowKit Go.Sort Go.Lib in
theorem lay_strconv_Itoa (n : Int) (h0 : -9223372036854775808 ≤ n) (h1 : n ≤ 9223372036854775807) (w : World) (htab : Lib.TabIs Tryd.prog w "internal/strconv.uint64pow10" .u64 Lib.pow10Tab) :
    Calls Tryd.prog 57 #[.int .i64 n] w fun e w' => e = .returned (.string ⟨(Lib.itoa n).toArray⟩) ∧ ∃ k os, w' = grow (w.drewN k) os := Any.strconv_Itoa lay_laysM171 n h0 h1 w htab

def lay_lays229_ren : Go.Shelf.Ren := ⟨fun | 229 => 93 | n => n, fun | 9 => 9 | 40 => 136 | 31 => 34 | 152 => 161 | 3 => 3 | 0 => 0 | 4 => 4 | 21 => 21 | 154 => 163 | n => n, fun | n => n⟩

theorem lay_lays229 : Go.Proofs.Lays.n229 Tryd.prog lay_lays229_ren := {
  mixed := by kernel_rfl
  f229 := Tryd.func93.trans (congrArg some (by kernel_rfl))
  t0 := Tryd.underlying0
  a0 := Tryd.isAgg0
  z0 := Tryd.sizeOf0
  v0 := Tryd.zeroValue0
  t3 := Tryd.underlying3
  a3 := Tryd.isAgg3
  z3 := Tryd.sizeOf3
  v3 := Tryd.zeroValue3
  t4 := Tryd.underlying4
  a4 := Tryd.isAgg4
  z4 := Tryd.sizeOf4
  v4 := Tryd.zeroValue4
  t9 := Tryd.underlying9
  a9 := Tryd.isAgg9
  z9 := Tryd.sizeOf9
  v9 := Tryd.zeroValue9
  t21 := Tryd.underlying21
  a21 := Tryd.isAgg21
  z21 := Tryd.sizeOf21
  v21 := Tryd.zeroValue21
  t31 := Tryd.underlying34
  a31 := Tryd.isAgg34
  z31 := Tryd.sizeOf34
  v31 := Tryd.zeroValue34
  t40 := Tryd.underlying136
  a40 := Tryd.isAgg136
  z40 := Tryd.sizeOf136
  v40 := Tryd.zeroValue136
  t152 := Tryd.underlying161
  a152 := Tryd.isAgg161
  z152 := Tryd.sizeOf161
  v152 := Tryd.zeroValue161
  t154 := Tryd.underlying163
  a154 := Tryd.isAgg163
  z154 := Tryd.sizeOf163
  v154 := Tryd.zeroValue163 }

open Go.RowKit Go.Lib in
theorem lay_strings_FieldsFunc_grows (g : Nat) (lb : Array Value) (eg : ∀ args w, (callFunc g args).run Tryd.prog w = .ok (.enter g args) w) (p : Nat → Bool) (s : ByteArray) (w : World) (hs : s.size ≤ 4294967296) (hp : PredGrows Tryd.prog g lb p w) :
    Calls Tryd.prog 93 #[.string s, .func (.func g) #[] lb] w fun e w' => ∃ A, e = .returned (.slice (some ⟨A, 0, none⟩) (Lib.goFieldsP p s).length (Lib.goFieldsP p s).length) ∧ w.heap.size ≤ A ∧
      w'.ownsRow w.heap.size 9 1 (.slice (some ⟨A, 0, none⟩) (Lib.goFieldsP p s).length (Lib.goFieldsP p s).length) (Lib.goFieldsP p s).length ((Lib.goFieldsP p s).map Value.string) ∧ Below w.heap.size w w' := Any.strings_FieldsFunc_grows lay_lays229 g lb eg p s w hs hp (by kernel_rfl) (by kernel_rfl)

end Go.Proofs.YtkndabnngdjcgaaDoor

/- The program's numbers' texts and joined words. -/
namespace Go.Proofs.YtkndabnngdjcgaaDoor
open Go.RowKit
set_option linter.unusedVariables false
set_option maxRecDepth 100000

/-- The variables of the program and of the library that these functions read. -/
structure DoorT (w : World) : Prop where
  t : Lib.TabIs Tryd.prog w "internal/strconv.uint64pow10" .u64 Lib.pow10Tab
  r : w.var? Tryd.prog "loop.example/g00456/impl.reqWords" = some rqWs
theorem gPow10 : Tryd.prog.globalNamed "internal/strconv.uint64pow10" = some 3 := by kernel_rfl
theorem gReqW : Tryd.prog.globalNamed "loop.example/g00456/impl.reqWords" = some 0 := by kernel_rfl
theorem var_below {P : Program} {w w' : World} {name : String} {g : Nat} {cs : Array Value} (hg : P.globalNamed name = some g) (h : w.var? P name = some cs) (hb : Below w.heap.size w w') : w'.var? P name = some cs := by
  unfold World.var? at h ⊢
  rw [hg] at h ⊢
  simp only [Option.bind_some] at h ⊢
  by_cases hlt : g < w.heap.size
  · rw [hb.block g hlt]; exact h
  · rw [Array.getElem?_eq_none (by omega)] at h; cases h
theorem DoorT.below {w w' : World} (h : DoorT w) (hb : Below w.heap.size w w') : DoorT w' := ⟨var_below gPow10 h.t hb, var_below gReqW h.r hb⟩
theorem DoorT.word {w : World} (h : DoorT w) (i : Nat) (v : Value) (hi : rqWs[i]? = some v) : w.cell? ⟨0, i, none⟩ = some v := by
  have hl : i < rqWs.size := (Array.getElem?_eq_some_iff.1 hi).1
  have := World.var?_cell gReqW h.r i
  rw [this]
  exact hi

theorem itoa_any (n : Nat) (hn : n ≤ 4611686018427387904) (w : World) (h : DoorT w) : Calls Tryd.prog 57 #[.int .i64 n] w fun e w' => e = .returned (.string (dgS n)) ∧ Below w.heap.size w w' := by
  refine (lay_strconv_Itoa n (by omega) (by omega) w h.t).mono ?_
  rintro e w' ⟨rfl, k, os, rfl⟩
  refine ⟨?_, Lib.below_grow _ w (Nat.le_refl _) k os⟩
  rw [Lib.itoa_nonneg]; rfl

def joinS (xs : List ByteArray) : ByteArray := ⟨(Lib.join (xs.map (·.data.toList)) spB.data.toList).toArray⟩
theorem joinS_two (a b : ByteArray) : joinS [a, b] = a ++ spB ++ b := by
  apply ByteArray.ext
  simp [joinS, Lib.join, List.intercalate, List.intersperse]
theorem joinS_three (a b c : ByteArray) : joinS [a, b, c] = a ++ spB ++ b ++ spB ++ c := by
  apply ByteArray.ext
  simp [joinS, Lib.join, List.intercalate, List.intersperse]
theorem joined_any (bk o c : Nat) (xs : List ByteArray) (w : World) (hcells : ∀ (j : Nat) x, xs[j]? = some x → w.cell? ⟨bk, o + j, none⟩ = some (.string x)) (hbk : bk < w.heap.size) (hN : xs.length ≤ 1000) (hcap : xs.length ≤ c) (hlen : (joinS xs).size ≤ 140737488355328) :
    Calls Tryd.prog 58 #[.slice (some ⟨bk, o, none⟩) xs.length c] w fun e w' => e = .returned (.string (joinS xs)) ∧ Below w.heap.size w w' := by
  have HJ := hide (lay_strings_Join bk o c xs spB w hcells hbk (by omega) hcap (by simpa [joinS, ByteArray.size] using hlen))
  clear hcells hbk hN hcap hlen
  go_enter Tryd.func58, Tryd.ntmps58
  go_wp2_with fail
  refine (unhide HJ).mono ?_
  rintro e w1 ⟨rfl, hb⟩
  have HB := hide hb
  clear hb
  go_wp2
  go_ret
  exact ⟨rfl, unhide HB⟩

end Go.Proofs.YtkndabnngdjcgaaDoor

/- What the texts' proofs share: the tables as the rows list them, their cells. -/
namespace Go.Proofs.YtkndabnngdjcgaaDoor
open Go.ChangeShapes Go.WideShapes Go.ChangeAt Go.RowKit

theorem ownT : ownKnob Tryd.prog.godebug = none := by kernel_rfl
theorem laidOutT : laidOutB Tryd.prog = true := by kernel_rfl
theorem tPow10 : (Tryd.prog.globals[3]?).map (·.type) = some 198 := by kernel_rfl
theorem tReqW : (Tryd.prog.globals[0]?).map (·.type) = some 128 := by kernel_rfl
theorem cT9 : Tryd.prog.cellsOf 9 = 1 := by kernel_rfl
theorem cTw : Tryd.prog.cellsOf 128 = 9 := by kernel_rfl
theorem cT64 : Tryd.prog.cellsOf 189 = 1 := by kernel_rfl
theorem cTp : Tryd.prog.cellsOf 198 = Lib.pow10Tab.length := by kernel_rfl

abbrev laidT : List (String × DataW Unit) := [("math/bits.deBruijn32tab", Rows.laid_math_bits_deBruijn32tab), ("math/bits.deBruijn64tab", Rows.laid_math_bits_deBruijn64tab), ("internal/strconv.uint64pow10", Rows.laid_internal_strconv_uint64pow10), ("loop.example/g00456/impl.reqWords", Rows.laid_loop_example_g00456_impl_reqWords)]
def rqWl : List ByteArray := [⟨#[]⟩, rqW 1, rqW 2, rqW 3, rqW 4, rqW 5, rqW 6, rqW 7, rqW 8]
theorem rqWl_arr : (rqWl.map Value.string).toArray = rqWs := by kernel_rfl
theorem laid_rq {H : Type} : (Rows.laid_loop_example_g00456_impl_reqWords : DataW H) = .agg (rqWl.map fun b => .lit (.string b.data.toList)) := by
  simp [Rows.laid_loop_example_g00456_impl_reqWords, rqWl, rqW]
theorem laid_pow {H : Type} : (Rows.laid_internal_strconv_uint64pow10 : DataW H) = Lib.tabData .u64 Lib.pow10Tab := by
  kernel_rfl

/-- An array of strings that reads as a list of texts holds these, cell for cell. -/
theorem cells_of_strT {H : Type} {enc : TypeId × Value → H} {P : Program} {w : World} {base : Nat} {sp : Nat → Bool} {held : Bool} {fuel : Nat} {t e : TypeId} {n : Nat} {cs : List Value} {bs : List ByteArray} {p : List MemPlace}
    (ht : P.underlying t = some (.array n e)) (he : P.underlying e = some .string) (hce : P.cellsOf e = 1) (hct : P.cellsOf t = n)
    (h : DataW.trod enc P w base sp held fuel t cs = some (.agg (bs.map fun b => .lit (.string b.data.toList)), p)) : cs = bs.map Value.string := by
  cases fuel with
  | zero => simp [DataW.trod] at h
  | succ fuel =>
    simp only [DataW.trod, ht, hce, hct, Nat.mul_one] at h
    split at h
    · rename_i hl
      obtain ⟨xs, hm, hx⟩ := Option.map_eq_some_iff.1 h
      have hxs : xs.map (·.1) = bs.map fun b => (DataW.lit (.string b.data.toList) : DataW H) := by
        have := congrArg Prod.fst hx
        simpa using this
      have hxl : xs.length = n := by simpa using Lib.mapM_length hm
      have hzl : bs.length = n := by
        have := congrArg List.length hxs
        simp at this
        omega
      apply List.ext_getElem?
      intro i
      by_cases hi : i < n
      · obtain ⟨b, hb, hf⟩ := Lib.mapM_at hm i i (by simp [hi])
        obtain ⟨s, hc, rfl, _⟩ := DataW.trod_string he hf
        have h1 : cs[i]? = some (.string s) := by
          have := congrArg (·[0]?) hc
          simpa [List.getElem?_take, List.getElem?_drop] using this
        have h2 : (xs.map (·.1))[i]? = some (DataW.lit (.string s.data.toList) : DataW H) := by simp [hb]
        rw [hxs] at h2
        simp only [List.getElem?_map, Option.map_eq_some_iff, DataW.lit.injEq, Lit.string.injEq] at h2
        obtain ⟨z', hz', he'⟩ := h2
        have : z' = s := by
          cases z'; cases s
          simpa using Array.toList_inj.1 he'
        subst this
        simp [h1, hz']
      · rw [List.getElem?_eq_none (by omega), List.getElem?_eq_none (by simp; omega)]
    · cases h

/-- From the row's condition to what the walks ask. -/
theorem t_of_laid {W : World} (h : laidMetH Tryd.prog laidT W) : DoorT W := by
  rw [MakeChecks.laidMetH_plain _ _ _ (by kernel_rfl)] at h
  obtain ⟨ps, ⟨g0, t0, cs0, f0, p0, q0, hg0, ht0, hv0, hd0, ⟨g1, t1, cs1, f1, p1, q1, hg1, ht1, hv1, hd1, ⟨g2, t2, cs2, f2, p2, q2, hg2, ht2, hv2, hd2, ⟨g3, t3, cs3, f3, p3, q3, hg3, ht3, hv3, hd3, _⟩, _⟩, _⟩, _⟩, _⟩ := h
  constructor
  · obtain rfl := Option.some.inj (gPow10.symm.trans hg2)
    obtain rfl := Option.some.inj (tPow10.symm.trans ht2)
    rw [laid_pow] at hd2
    have hcs := Lib.cells_of_tab Tryd.underlying198 Tryd.underlying189 cT64 cTp hd2
    unfold Lib.TabIs
    rw [hv2, ← hcs]
  · obtain rfl := Option.some.inj (gReqW.symm.trans hg3)
    obtain rfl := Option.some.inj (tReqW.symm.trans ht3)
    rw [laid_rq] at hd3
    have hcs := cells_of_strT Tryd.underlying128 Tryd.underlying9 cT9 cTw hd3
    rw [hv3, ← rqWl_arr, ← hcs]

/-- The door's own heap meets the condition. -/
theorem t_door (os : Os) (args : Array Value) : laidMetH Tryd.prog laidT ((World.doorLaid Tryd.prog 400 os).forCall (fun _ _ => 0) ⟨#[], args, []⟩).memory :=
  laidMetH_of_parts3 (fuel := 8) (laidMet_of_run' 8 (by kernel_rfl) (by kernel_rfl)) (by kernel_rfl) (by kernel_rfl)

end Go.Proofs.YtkndabnngdjcgaaDoor

/- Contract of the program's textOf. (Written by gens/txo.py.) -/
namespace Go.Proofs.YtkndabnngdjcgaaDoor
open Go.RowKit
set_option linter.unusedVariables false
set_option maxRecDepth 100000

theorem tx_1_1 (v : Value) (W : World) : (Instr.typeAssert (.iface 120 v) 20 120 true).run Tryd.prog W = .ok (.tuple #[v, .bool true]) W := by kernel_rfl
theorem tx_1_2 (v : Value) (W : World) : (Instr.typeAssert (.iface 120 v) 20 122 true).run Tryd.prog W = .ok (.tuple #[.agg #[.int .i64 0, .int .i64 0], .bool false]) W := by kernel_rfl
theorem tx_1_3 (v : Value) (W : World) : (Instr.typeAssert (.iface 120 v) 20 123 true).run Tryd.prog W = .ok (.tuple #[.agg #[.int .i64 0], .bool false]) W := by kernel_rfl
theorem tx_1_4 (v : Value) (W : World) : (Instr.typeAssert (.iface 120 v) 20 125 true).run Tryd.prog W = .ok (.tuple #[.agg #[.int .i64 0], .bool false]) W := by kernel_rfl
theorem tx_1_5 (v : Value) (W : World) : (Instr.typeAssert (.iface 120 v) 20 116 true).run Tryd.prog W = .ok (.tuple #[.agg #[.string ⟨#[]⟩], .bool false]) W := by kernel_rfl
theorem tx_1_6 (v : Value) (W : World) : (Instr.typeAssert (.iface 120 v) 20 117 true).run Tryd.prog W = .ok (.tuple #[.agg #[.string ⟨#[]⟩], .bool false]) W := by kernel_rfl
theorem tx_1_7 (v : Value) (W : World) : (Instr.typeAssert (.iface 120 v) 20 118 true).run Tryd.prog W = .ok (.tuple #[.agg #[.string ⟨#[]⟩], .bool false]) W := by kernel_rfl
theorem tx_2_1 (v : Value) (W : World) : (Instr.typeAssert (.iface 122 v) 20 120 true).run Tryd.prog W = .ok (.tuple #[.agg #[.int .i64 0], .bool false]) W := by kernel_rfl
theorem tx_2_2 (v : Value) (W : World) : (Instr.typeAssert (.iface 122 v) 20 122 true).run Tryd.prog W = .ok (.tuple #[v, .bool true]) W := by kernel_rfl
theorem tx_2_3 (v : Value) (W : World) : (Instr.typeAssert (.iface 122 v) 20 123 true).run Tryd.prog W = .ok (.tuple #[.agg #[.int .i64 0], .bool false]) W := by kernel_rfl
theorem tx_2_4 (v : Value) (W : World) : (Instr.typeAssert (.iface 122 v) 20 125 true).run Tryd.prog W = .ok (.tuple #[.agg #[.int .i64 0], .bool false]) W := by kernel_rfl
theorem tx_2_5 (v : Value) (W : World) : (Instr.typeAssert (.iface 122 v) 20 116 true).run Tryd.prog W = .ok (.tuple #[.agg #[.string ⟨#[]⟩], .bool false]) W := by kernel_rfl
theorem tx_2_6 (v : Value) (W : World) : (Instr.typeAssert (.iface 122 v) 20 117 true).run Tryd.prog W = .ok (.tuple #[.agg #[.string ⟨#[]⟩], .bool false]) W := by kernel_rfl
theorem tx_2_7 (v : Value) (W : World) : (Instr.typeAssert (.iface 122 v) 20 118 true).run Tryd.prog W = .ok (.tuple #[.agg #[.string ⟨#[]⟩], .bool false]) W := by kernel_rfl
theorem tx_3_1 (v : Value) (W : World) : (Instr.typeAssert (.iface 123 v) 20 120 true).run Tryd.prog W = .ok (.tuple #[.agg #[.int .i64 0], .bool false]) W := by kernel_rfl
theorem tx_3_2 (v : Value) (W : World) : (Instr.typeAssert (.iface 123 v) 20 122 true).run Tryd.prog W = .ok (.tuple #[.agg #[.int .i64 0, .int .i64 0], .bool false]) W := by kernel_rfl
theorem tx_3_3 (v : Value) (W : World) : (Instr.typeAssert (.iface 123 v) 20 123 true).run Tryd.prog W = .ok (.tuple #[v, .bool true]) W := by kernel_rfl
theorem tx_3_4 (v : Value) (W : World) : (Instr.typeAssert (.iface 123 v) 20 125 true).run Tryd.prog W = .ok (.tuple #[.agg #[.int .i64 0], .bool false]) W := by kernel_rfl
theorem tx_3_5 (v : Value) (W : World) : (Instr.typeAssert (.iface 123 v) 20 116 true).run Tryd.prog W = .ok (.tuple #[.agg #[.string ⟨#[]⟩], .bool false]) W := by kernel_rfl
theorem tx_3_6 (v : Value) (W : World) : (Instr.typeAssert (.iface 123 v) 20 117 true).run Tryd.prog W = .ok (.tuple #[.agg #[.string ⟨#[]⟩], .bool false]) W := by kernel_rfl
theorem tx_3_7 (v : Value) (W : World) : (Instr.typeAssert (.iface 123 v) 20 118 true).run Tryd.prog W = .ok (.tuple #[.agg #[.string ⟨#[]⟩], .bool false]) W := by kernel_rfl
theorem tx_4_1 (v : Value) (W : World) : (Instr.typeAssert (.iface 125 v) 20 120 true).run Tryd.prog W = .ok (.tuple #[.agg #[.int .i64 0], .bool false]) W := by kernel_rfl
theorem tx_4_2 (v : Value) (W : World) : (Instr.typeAssert (.iface 125 v) 20 122 true).run Tryd.prog W = .ok (.tuple #[.agg #[.int .i64 0, .int .i64 0], .bool false]) W := by kernel_rfl
theorem tx_4_3 (v : Value) (W : World) : (Instr.typeAssert (.iface 125 v) 20 123 true).run Tryd.prog W = .ok (.tuple #[.agg #[.int .i64 0], .bool false]) W := by kernel_rfl
theorem tx_4_4 (v : Value) (W : World) : (Instr.typeAssert (.iface 125 v) 20 125 true).run Tryd.prog W = .ok (.tuple #[v, .bool true]) W := by kernel_rfl
theorem tx_4_5 (v : Value) (W : World) : (Instr.typeAssert (.iface 125 v) 20 116 true).run Tryd.prog W = .ok (.tuple #[.agg #[.string ⟨#[]⟩], .bool false]) W := by kernel_rfl
theorem tx_4_6 (v : Value) (W : World) : (Instr.typeAssert (.iface 125 v) 20 117 true).run Tryd.prog W = .ok (.tuple #[.agg #[.string ⟨#[]⟩], .bool false]) W := by kernel_rfl
theorem tx_4_7 (v : Value) (W : World) : (Instr.typeAssert (.iface 125 v) 20 118 true).run Tryd.prog W = .ok (.tuple #[.agg #[.string ⟨#[]⟩], .bool false]) W := by kernel_rfl
theorem tx_5_1 (v : Value) (W : World) : (Instr.typeAssert (.iface 116 v) 20 120 true).run Tryd.prog W = .ok (.tuple #[.agg #[.int .i64 0], .bool false]) W := by kernel_rfl
theorem tx_5_2 (v : Value) (W : World) : (Instr.typeAssert (.iface 116 v) 20 122 true).run Tryd.prog W = .ok (.tuple #[.agg #[.int .i64 0, .int .i64 0], .bool false]) W := by kernel_rfl
theorem tx_5_3 (v : Value) (W : World) : (Instr.typeAssert (.iface 116 v) 20 123 true).run Tryd.prog W = .ok (.tuple #[.agg #[.int .i64 0], .bool false]) W := by kernel_rfl
theorem tx_5_4 (v : Value) (W : World) : (Instr.typeAssert (.iface 116 v) 20 125 true).run Tryd.prog W = .ok (.tuple #[.agg #[.int .i64 0], .bool false]) W := by kernel_rfl
theorem tx_5_5 (v : Value) (W : World) : (Instr.typeAssert (.iface 116 v) 20 116 true).run Tryd.prog W = .ok (.tuple #[v, .bool true]) W := by kernel_rfl
theorem tx_5_6 (v : Value) (W : World) : (Instr.typeAssert (.iface 116 v) 20 117 true).run Tryd.prog W = .ok (.tuple #[.agg #[.string ⟨#[]⟩], .bool false]) W := by kernel_rfl
theorem tx_5_7 (v : Value) (W : World) : (Instr.typeAssert (.iface 116 v) 20 118 true).run Tryd.prog W = .ok (.tuple #[.agg #[.string ⟨#[]⟩], .bool false]) W := by kernel_rfl
theorem tx_6_1 (v : Value) (W : World) : (Instr.typeAssert (.iface 117 v) 20 120 true).run Tryd.prog W = .ok (.tuple #[.agg #[.int .i64 0], .bool false]) W := by kernel_rfl
theorem tx_6_2 (v : Value) (W : World) : (Instr.typeAssert (.iface 117 v) 20 122 true).run Tryd.prog W = .ok (.tuple #[.agg #[.int .i64 0, .int .i64 0], .bool false]) W := by kernel_rfl
theorem tx_6_3 (v : Value) (W : World) : (Instr.typeAssert (.iface 117 v) 20 123 true).run Tryd.prog W = .ok (.tuple #[.agg #[.int .i64 0], .bool false]) W := by kernel_rfl
theorem tx_6_4 (v : Value) (W : World) : (Instr.typeAssert (.iface 117 v) 20 125 true).run Tryd.prog W = .ok (.tuple #[.agg #[.int .i64 0], .bool false]) W := by kernel_rfl
theorem tx_6_5 (v : Value) (W : World) : (Instr.typeAssert (.iface 117 v) 20 116 true).run Tryd.prog W = .ok (.tuple #[.agg #[.string ⟨#[]⟩], .bool false]) W := by kernel_rfl
theorem tx_6_6 (v : Value) (W : World) : (Instr.typeAssert (.iface 117 v) 20 117 true).run Tryd.prog W = .ok (.tuple #[v, .bool true]) W := by kernel_rfl
theorem tx_6_7 (v : Value) (W : World) : (Instr.typeAssert (.iface 117 v) 20 118 true).run Tryd.prog W = .ok (.tuple #[.agg #[.string ⟨#[]⟩], .bool false]) W := by kernel_rfl
theorem tx_7_1 (v : Value) (W : World) : (Instr.typeAssert (.iface 118 v) 20 120 true).run Tryd.prog W = .ok (.tuple #[.agg #[.int .i64 0], .bool false]) W := by kernel_rfl
theorem tx_7_2 (v : Value) (W : World) : (Instr.typeAssert (.iface 118 v) 20 122 true).run Tryd.prog W = .ok (.tuple #[.agg #[.int .i64 0, .int .i64 0], .bool false]) W := by kernel_rfl
theorem tx_7_3 (v : Value) (W : World) : (Instr.typeAssert (.iface 118 v) 20 123 true).run Tryd.prog W = .ok (.tuple #[.agg #[.int .i64 0], .bool false]) W := by kernel_rfl
theorem tx_7_4 (v : Value) (W : World) : (Instr.typeAssert (.iface 118 v) 20 125 true).run Tryd.prog W = .ok (.tuple #[.agg #[.int .i64 0], .bool false]) W := by kernel_rfl
theorem tx_7_5 (v : Value) (W : World) : (Instr.typeAssert (.iface 118 v) 20 116 true).run Tryd.prog W = .ok (.tuple #[.agg #[.string ⟨#[]⟩], .bool false]) W := by kernel_rfl
theorem tx_7_6 (v : Value) (W : World) : (Instr.typeAssert (.iface 118 v) 20 117 true).run Tryd.prog W = .ok (.tuple #[.agg #[.string ⟨#[]⟩], .bool false]) W := by kernel_rfl
theorem tx_7_7 (v : Value) (W : World) : (Instr.typeAssert (.iface 118 v) 20 118 true).run Tryd.prog W = .ok (.tuple #[v, .bool true]) W := by kernel_rfl
theorem tx_8_1 (v : Value) (W : World) : (Instr.typeAssert (.iface 127 v) 20 120 true).run Tryd.prog W = .ok (.tuple #[.agg #[.int .i64 0], .bool false]) W := by kernel_rfl
theorem tx_8_2 (v : Value) (W : World) : (Instr.typeAssert (.iface 127 v) 20 122 true).run Tryd.prog W = .ok (.tuple #[.agg #[.int .i64 0, .int .i64 0], .bool false]) W := by kernel_rfl
theorem tx_8_3 (v : Value) (W : World) : (Instr.typeAssert (.iface 127 v) 20 123 true).run Tryd.prog W = .ok (.tuple #[.agg #[.int .i64 0], .bool false]) W := by kernel_rfl
theorem tx_8_4 (v : Value) (W : World) : (Instr.typeAssert (.iface 127 v) 20 125 true).run Tryd.prog W = .ok (.tuple #[.agg #[.int .i64 0], .bool false]) W := by kernel_rfl
theorem tx_8_5 (v : Value) (W : World) : (Instr.typeAssert (.iface 127 v) 20 116 true).run Tryd.prog W = .ok (.tuple #[.agg #[.string ⟨#[]⟩], .bool false]) W := by kernel_rfl
theorem tx_8_6 (v : Value) (W : World) : (Instr.typeAssert (.iface 127 v) 20 117 true).run Tryd.prog W = .ok (.tuple #[.agg #[.string ⟨#[]⟩], .bool false]) W := by kernel_rfl
theorem tx_8_7 (v : Value) (W : World) : (Instr.typeAssert (.iface 127 v) 20 118 true).run Tryd.prog W = .ok (.tuple #[.agg #[.string ⟨#[]⟩], .bool false]) W := by kernel_rfl
theorem sz_lits : spB.size = 1 := rfl


set_option maxHeartbeats 3200000 in
theorem textOf_1 (g v : Nat) (n : ByteArray) (w : World) (hd : DoorT w) (hg : g ≤ 2147483647) (hv : v ≤ 2147483647) (hn : n.size ≤ 65536)
    (HP : ∀ W, Calls Tryd.prog 84 #[.iface 120 (.agg #[.int .i64 g])] W fun e w' => e = .returned (qV ⟨1, g, 0, noB⟩) ∧ Below W.heap.size W w') :
    Calls Tryd.prog 45 #[.iface 120 (.agg #[.int .i64 g])] w fun e w' => e = .returned (.string ((⟨#[114, 101, 97, 100]⟩ : ByteArray) ++ spB ++ dgS g)) ∧ Below w.heap.size w w' := by
  have HPL := hide HP
  have HDR := hide hd
  have HIG := hide (fun W (hW : DoorT W) => itoa_any g (by omega) W hW)
  have HIV := hide (fun W (hW : DoorT W) => itoa_any v (by omega) W hW)
  have zg := dgS_size g
  have zv := dgS_size v
  generalize dgS g = DG at *
  generalize dgS v = DV at *
  clear HP hd
  have a1 := tx_1_1
  have a2 := tx_1_2
  have a3 := tx_1_3
  have a4 := tx_1_4
  have a5 := tx_1_5
  have a6 := tx_1_6
  have a7 := tx_1_7
  go_enter Tryd.func45, Tryd.ntmps45
  go_wp2_with fail
  refine (unhide HPL _).mono ?_
  rintro e w1 ⟨rfl, hb⟩
  have HBL := hide (Joins.below_alloc1 w1 (.cells #[.int .i64 1, .int .i64 g, .int .i64 0, .string noB] 27))
  have HV1 : Hid (VarR (w1.alloc (.cells #[.int .i64 1, .int .i64 g, .int .i64 0, .string noB] 27)) w1.heap.size ⟨1, g, 0, noB⟩) := hide (VarM.new w1 27 _ _ _ _)
  have HB1 := hide (fr hb (unhide HBL))
  have HD1 := hide (((unhide HDR).below hb).below (unhide HBL))
  clear hb HBL HDR HPL
  go_upto_region 2 with fail
  revert HV1 HB1 HD1
  generalize (w1.alloc _) = W1
  generalize w1.heap.size = px
  intro HV1 HB1 HD1
  refine wp_region_cb (by kernel_rfl) (by kernel_rfl) ?_
  refine quiet_val (.pointer (some ⟨px, 0, none⟩)) rfl (fun W hW => by go_simp) ?_
  refine quiet_val (.int .i64 1) rfl (fun W hW => by obtain ⟨l0, l1, l2, l3⟩ := ((unhide HV1).below hW).cells; go_simp) ?_
  refine quiet_val (.pointer (some ⟨0, 1, none⟩)) rfl (fun W hW => by go_simp) ?_
  refine quiet_val (.string (⟨#[114, 101, 97, 100]⟩ : ByteArray)) rfl (fun W hW => by have hwd := ((unhide HD1).below hW).word 1 (.string (⟨#[114, 101, 97, 100]⟩ : ByteArray)) rfl; go_simp) ?_
  refine quiet_val (.pointer (some ⟨px, 1, none⟩)) rfl (fun W hW => by go_simp) ?_
  refine quiet_val (.int .i64 g) rfl (fun W hW => by obtain ⟨l0, l1, l2, l3⟩ := ((unhide HV1).below hW).cells; go_simp) ?_
  refine quiet_call (.string DG) 57 #[.int .i64 g] rfl (fun W => by go_simp) (fun W hW => unhide HIG W ((unhide HD1).below hW)) ?_
  refine quiet_val (.string (⟨#[114, 101, 97, 100]⟩ : ByteArray)) rfl (fun W hW => by go_simp) ?_
  refine quiet_val (.string DG) rfl (fun W hW => by go_simp) ?_
  refine wpQuiet_nil fun w2 hb2 => ?_
  have HB2 := hide (fr (unhide HB1) hb2)
  have HD2 := hide ((unhide HD1).below hb2)
  have HV2 := hide ((unhide HV1).below hb2)
  clear hb2 HB1 HD1 HV1
  go_wp2_with fail
  refine (joined_any w2.heap.size 0 2 [(⟨#[114, 101, 97, 100]⟩ : ByteArray), DG] _ ?c1 ?c2 (by simp) (by simp) ?c3).mono ?_
  case c1 =>
    intro j x hj
    rcases (show j = 0 ∨ j = 1 by have := (List.getElem?_eq_some_iff.1 hj).1; simp at this; omega) with rfl | rfl <;> (cases hj; simp [go_sem])
  case c2 => simp
  case c3 =>
    rw [joinS_two, ByteArray.size_append, ByteArray.size_append, sz_lits]
    have : (⟨#[114, 101, 97, 100]⟩ : ByteArray).size ≤ 10 := by decide
    omega
  rintro e w3 ⟨rfl, hb⟩
  have HB3 := hide (fr (fr (unhide HB2) (Joins.below_alloc1 w2 _)) hb)
  clear hb
  go_wp2
  go_ret
  exact ⟨ret_str (joinS_two _ _), unhide HB3⟩


set_option maxHeartbeats 3200000 in
theorem textOf_2 (g v : Nat) (n : ByteArray) (w : World) (hd : DoorT w) (hg : g ≤ 2147483647) (hv : v ≤ 2147483647) (hn : n.size ≤ 65536)
    (HP : ∀ W, Calls Tryd.prog 84 #[.iface 122 (.agg #[.int .i64 g, .int .i64 v])] W fun e w' => e = .returned (qV ⟨2, g, v, noB⟩) ∧ Below W.heap.size W w') :
    Calls Tryd.prog 45 #[.iface 122 (.agg #[.int .i64 g, .int .i64 v])] w fun e w' => e = .returned (.string ((⟨#[119, 114, 105, 116, 101]⟩ : ByteArray) ++ spB ++ dgS g ++ spB ++ dgS v)) ∧ Below w.heap.size w w' := by
  have HPL := hide HP
  have HDR := hide hd
  have HIG := hide (fun W (hW : DoorT W) => itoa_any g (by omega) W hW)
  have HIV := hide (fun W (hW : DoorT W) => itoa_any v (by omega) W hW)
  have zg := dgS_size g
  have zv := dgS_size v
  generalize dgS g = DG at *
  generalize dgS v = DV at *
  clear HP hd
  have a1 := tx_2_1
  have a2 := tx_2_2
  have a3 := tx_2_3
  have a4 := tx_2_4
  have a5 := tx_2_5
  have a6 := tx_2_6
  have a7 := tx_2_7
  go_enter Tryd.func45, Tryd.ntmps45
  go_wp2_with fail
  refine (unhide HPL _).mono ?_
  rintro e w1 ⟨rfl, hb⟩
  have HBL := hide (Joins.below_alloc1 w1 (.cells #[.int .i64 2, .int .i64 g, .int .i64 v, .string noB] 27))
  have HV1 : Hid (VarR (w1.alloc (.cells #[.int .i64 2, .int .i64 g, .int .i64 v, .string noB] 27)) w1.heap.size ⟨2, g, v, noB⟩) := hide (VarM.new w1 27 _ _ _ _)
  have HB1 := hide (fr hb (unhide HBL))
  have HD1 := hide (((unhide HDR).below hb).below (unhide HBL))
  clear hb HBL HDR HPL
  go_upto_region 2 with fail
  revert HV1 HB1 HD1
  generalize (w1.alloc _) = W1
  generalize w1.heap.size = px
  intro HV1 HB1 HD1
  refine wp_region_cb (by kernel_rfl) (by kernel_rfl) ?_
  refine quiet_val (.pointer (some ⟨px, 0, none⟩)) rfl (fun W hW => by go_simp) ?_
  refine quiet_val (.int .i64 2) rfl (fun W hW => by obtain ⟨l0, l1, l2, l3⟩ := ((unhide HV1).below hW).cells; go_simp) ?_
  refine quiet_val (.pointer (some ⟨0, 2, none⟩)) rfl (fun W hW => by go_simp) ?_
  refine quiet_val (.string (⟨#[119, 114, 105, 116, 101]⟩ : ByteArray)) rfl (fun W hW => by have hwd := ((unhide HD1).below hW).word 2 (.string (⟨#[119, 114, 105, 116, 101]⟩ : ByteArray)) rfl; go_simp) ?_
  refine quiet_val (.pointer (some ⟨px, 1, none⟩)) rfl (fun W hW => by go_simp) ?_
  refine quiet_val (.int .i64 g) rfl (fun W hW => by obtain ⟨l0, l1, l2, l3⟩ := ((unhide HV1).below hW).cells; go_simp) ?_
  refine quiet_call (.string DG) 57 #[.int .i64 g] rfl (fun W => by go_simp) (fun W hW => unhide HIG W ((unhide HD1).below hW)) ?_
  refine quiet_val (.string (⟨#[119, 114, 105, 116, 101]⟩ : ByteArray)) rfl (fun W hW => by go_simp) ?_
  refine quiet_val (.string DG) rfl (fun W hW => by go_simp) ?_
  refine wpQuiet_nil fun w2 hb2 => ?_
  have HB2 := hide (fr (unhide HB1) hb2)
  have HD2 := hide ((unhide HD1).below hb2)
  have HV2 := hide ((unhide HV1).below hb2)
  clear hb2 HB1 HD1 HV1
  have HA2 := hide (Joins.below_alloc1 w2 (.cells #[.int .i64 g, .int .i64 v] 122))
  have HD3 := hide ((unhide HD2).below (unhide HA2))
  have HB3 := hide (fr (unhide HB2) (unhide HA2))
  go_wp2_with fail
  refine (unhide HIV _ (unhide HD3)).mono ?_
  rintro e w4 ⟨rfl, hb⟩
  have HB4 := hide (fr (unhide HB3) hb)
  clear hb HA2 HD3 HB3
  go_wp2_with fail
  refine (joined_any w4.heap.size 0 3 [(⟨#[119, 114, 105, 116, 101]⟩ : ByteArray), DG, DV] _ ?c1 ?c2 (by simp) (by simp) ?c3).mono ?_
  case c1 =>
    intro j x hj
    rcases (show j = 0 ∨ j = 1 ∨ j = 2 by have := (List.getElem?_eq_some_iff.1 hj).1; simp at this; omega) with rfl | rfl | rfl <;> (cases hj; simp [go_sem])
  case c2 => simp
  case c3 =>
    rw [joinS_three, ByteArray.size_append, ByteArray.size_append, ByteArray.size_append, ByteArray.size_append, sz_lits]
    have : (⟨#[119, 114, 105, 116, 101]⟩ : ByteArray).size ≤ 10 := by decide
    omega
  rintro e w5 ⟨rfl, hb⟩
  have HB5 := hide (fr (fr (unhide HB4) (Joins.below_alloc1 w4 _)) hb)
  clear hb
  go_wp2
  go_ret
  exact ⟨ret_str (joinS_three _ _ _), unhide HB5⟩


set_option maxHeartbeats 3200000 in
theorem textOf_3 (g v : Nat) (n : ByteArray) (w : World) (hd : DoorT w) (hg : g ≤ 2147483647) (hv : v ≤ 2147483647) (hn : n.size ≤ 65536)
    (HP : ∀ W, Calls Tryd.prog 84 #[.iface 123 (.agg #[.int .i64 g])] W fun e w' => e = .returned (qV ⟨3, g, 0, noB⟩) ∧ Below W.heap.size W w') :
    Calls Tryd.prog 45 #[.iface 123 (.agg #[.int .i64 g])] w fun e w' => e = .returned (.string ((⟨#[122, 101, 114, 111]⟩ : ByteArray) ++ spB ++ dgS g)) ∧ Below w.heap.size w w' := by
  have HPL := hide HP
  have HDR := hide hd
  have HIG := hide (fun W (hW : DoorT W) => itoa_any g (by omega) W hW)
  have HIV := hide (fun W (hW : DoorT W) => itoa_any v (by omega) W hW)
  have zg := dgS_size g
  have zv := dgS_size v
  generalize dgS g = DG at *
  generalize dgS v = DV at *
  clear HP hd
  have a1 := tx_3_1
  have a2 := tx_3_2
  have a3 := tx_3_3
  have a4 := tx_3_4
  have a5 := tx_3_5
  have a6 := tx_3_6
  have a7 := tx_3_7
  go_enter Tryd.func45, Tryd.ntmps45
  go_wp2_with fail
  refine (unhide HPL _).mono ?_
  rintro e w1 ⟨rfl, hb⟩
  have HBL := hide (Joins.below_alloc1 w1 (.cells #[.int .i64 3, .int .i64 g, .int .i64 0, .string noB] 27))
  have HV1 : Hid (VarR (w1.alloc (.cells #[.int .i64 3, .int .i64 g, .int .i64 0, .string noB] 27)) w1.heap.size ⟨3, g, 0, noB⟩) := hide (VarM.new w1 27 _ _ _ _)
  have HB1 := hide (fr hb (unhide HBL))
  have HD1 := hide (((unhide HDR).below hb).below (unhide HBL))
  clear hb HBL HDR HPL
  go_upto_region 2 with fail
  revert HV1 HB1 HD1
  generalize (w1.alloc _) = W1
  generalize w1.heap.size = px
  intro HV1 HB1 HD1
  refine wp_region_cb (by kernel_rfl) (by kernel_rfl) ?_
  refine quiet_val (.pointer (some ⟨px, 0, none⟩)) rfl (fun W hW => by go_simp) ?_
  refine quiet_val (.int .i64 3) rfl (fun W hW => by obtain ⟨l0, l1, l2, l3⟩ := ((unhide HV1).below hW).cells; go_simp) ?_
  refine quiet_val (.pointer (some ⟨0, 3, none⟩)) rfl (fun W hW => by go_simp) ?_
  refine quiet_val (.string (⟨#[122, 101, 114, 111]⟩ : ByteArray)) rfl (fun W hW => by have hwd := ((unhide HD1).below hW).word 3 (.string (⟨#[122, 101, 114, 111]⟩ : ByteArray)) rfl; go_simp) ?_
  refine quiet_val (.pointer (some ⟨px, 1, none⟩)) rfl (fun W hW => by go_simp) ?_
  refine quiet_val (.int .i64 g) rfl (fun W hW => by obtain ⟨l0, l1, l2, l3⟩ := ((unhide HV1).below hW).cells; go_simp) ?_
  refine quiet_call (.string DG) 57 #[.int .i64 g] rfl (fun W => by go_simp) (fun W hW => unhide HIG W ((unhide HD1).below hW)) ?_
  refine quiet_val (.string (⟨#[122, 101, 114, 111]⟩ : ByteArray)) rfl (fun W hW => by go_simp) ?_
  refine quiet_val (.string DG) rfl (fun W hW => by go_simp) ?_
  refine wpQuiet_nil fun w2 hb2 => ?_
  have HB2 := hide (fr (unhide HB1) hb2)
  have HD2 := hide ((unhide HD1).below hb2)
  have HV2 := hide ((unhide HV1).below hb2)
  clear hb2 HB1 HD1 HV1
  go_wp2_with fail
  refine (joined_any w2.heap.size 0 2 [(⟨#[122, 101, 114, 111]⟩ : ByteArray), DG] _ ?c1 ?c2 (by simp) (by simp) ?c3).mono ?_
  case c1 =>
    intro j x hj
    rcases (show j = 0 ∨ j = 1 by have := (List.getElem?_eq_some_iff.1 hj).1; simp at this; omega) with rfl | rfl <;> (cases hj; simp [go_sem])
  case c2 => simp
  case c3 =>
    rw [joinS_two, ByteArray.size_append, ByteArray.size_append, sz_lits]
    have : (⟨#[122, 101, 114, 111]⟩ : ByteArray).size ≤ 10 := by decide
    omega
  rintro e w3 ⟨rfl, hb⟩
  have HB3 := hide (fr (fr (unhide HB2) (Joins.below_alloc1 w2 _)) hb)
  clear hb
  go_wp2
  go_ret
  exact ⟨ret_str (joinS_two _ _), unhide HB3⟩


set_option maxHeartbeats 3200000 in
theorem textOf_4 (g v : Nat) (n : ByteArray) (w : World) (hd : DoorT w) (hg : g ≤ 2147483647) (hv : v ≤ 2147483647) (hn : n.size ≤ 65536)
    (HP : ∀ W, Calls Tryd.prog 84 #[.iface 125 (.agg #[.int .i64 g])] W fun e w' => e = .returned (qV ⟨4, g, 0, noB⟩) ∧ Below W.heap.size W w') :
    Calls Tryd.prog 45 #[.iface 125 (.agg #[.int .i64 g])] w fun e w' => e = .returned (.string ((⟨#[114, 101, 115, 105, 122, 101]⟩ : ByteArray) ++ spB ++ dgS g)) ∧ Below w.heap.size w w' := by
  have HPL := hide HP
  have HDR := hide hd
  have HIG := hide (fun W (hW : DoorT W) => itoa_any g (by omega) W hW)
  have HIV := hide (fun W (hW : DoorT W) => itoa_any v (by omega) W hW)
  have zg := dgS_size g
  have zv := dgS_size v
  generalize dgS g = DG at *
  generalize dgS v = DV at *
  clear HP hd
  have a1 := tx_4_1
  have a2 := tx_4_2
  have a3 := tx_4_3
  have a4 := tx_4_4
  have a5 := tx_4_5
  have a6 := tx_4_6
  have a7 := tx_4_7
  go_enter Tryd.func45, Tryd.ntmps45
  go_wp2_with fail
  refine (unhide HPL _).mono ?_
  rintro e w1 ⟨rfl, hb⟩
  have HBL := hide (Joins.below_alloc1 w1 (.cells #[.int .i64 4, .int .i64 g, .int .i64 0, .string noB] 27))
  have HV1 : Hid (VarR (w1.alloc (.cells #[.int .i64 4, .int .i64 g, .int .i64 0, .string noB] 27)) w1.heap.size ⟨4, g, 0, noB⟩) := hide (VarM.new w1 27 _ _ _ _)
  have HB1 := hide (fr hb (unhide HBL))
  have HD1 := hide (((unhide HDR).below hb).below (unhide HBL))
  clear hb HBL HDR HPL
  go_upto_region 2 with fail
  revert HV1 HB1 HD1
  generalize (w1.alloc _) = W1
  generalize w1.heap.size = px
  intro HV1 HB1 HD1
  refine wp_region_cb (by kernel_rfl) (by kernel_rfl) ?_
  refine quiet_val (.pointer (some ⟨px, 0, none⟩)) rfl (fun W hW => by go_simp) ?_
  refine quiet_val (.int .i64 4) rfl (fun W hW => by obtain ⟨l0, l1, l2, l3⟩ := ((unhide HV1).below hW).cells; go_simp) ?_
  refine quiet_val (.pointer (some ⟨0, 4, none⟩)) rfl (fun W hW => by go_simp) ?_
  refine quiet_val (.string (⟨#[114, 101, 115, 105, 122, 101]⟩ : ByteArray)) rfl (fun W hW => by have hwd := ((unhide HD1).below hW).word 4 (.string (⟨#[114, 101, 115, 105, 122, 101]⟩ : ByteArray)) rfl; go_simp) ?_
  refine quiet_val (.pointer (some ⟨px, 1, none⟩)) rfl (fun W hW => by go_simp) ?_
  refine quiet_val (.int .i64 g) rfl (fun W hW => by obtain ⟨l0, l1, l2, l3⟩ := ((unhide HV1).below hW).cells; go_simp) ?_
  refine quiet_call (.string DG) 57 #[.int .i64 g] rfl (fun W => by go_simp) (fun W hW => unhide HIG W ((unhide HD1).below hW)) ?_
  refine quiet_val (.string (⟨#[114, 101, 115, 105, 122, 101]⟩ : ByteArray)) rfl (fun W hW => by go_simp) ?_
  refine quiet_val (.string DG) rfl (fun W hW => by go_simp) ?_
  refine wpQuiet_nil fun w2 hb2 => ?_
  have HB2 := hide (fr (unhide HB1) hb2)
  have HD2 := hide ((unhide HD1).below hb2)
  have HV2 := hide ((unhide HV1).below hb2)
  clear hb2 HB1 HD1 HV1
  go_wp2_with fail
  refine (joined_any w2.heap.size 0 2 [(⟨#[114, 101, 115, 105, 122, 101]⟩ : ByteArray), DG] _ ?c1 ?c2 (by simp) (by simp) ?c3).mono ?_
  case c1 =>
    intro j x hj
    rcases (show j = 0 ∨ j = 1 by have := (List.getElem?_eq_some_iff.1 hj).1; simp at this; omega) with rfl | rfl <;> (cases hj; simp [go_sem])
  case c2 => simp
  case c3 =>
    rw [joinS_two, ByteArray.size_append, ByteArray.size_append, sz_lits]
    have : (⟨#[114, 101, 115, 105, 122, 101]⟩ : ByteArray).size ≤ 10 := by decide
    omega
  rintro e w3 ⟨rfl, hb⟩
  have HB3 := hide (fr (fr (unhide HB2) (Joins.below_alloc1 w2 _)) hb)
  clear hb
  go_wp2
  go_ret
  exact ⟨ret_str (joinS_two _ _), unhide HB3⟩


set_option maxHeartbeats 3200000 in
theorem textOf_5 (g v : Nat) (n : ByteArray) (w : World) (hd : DoorT w) (hg : g ≤ 2147483647) (hv : v ≤ 2147483647) (hn : n.size ≤ 65536)
    (HP : ∀ W, Calls Tryd.prog 84 #[.iface 116 (.agg #[.string n])] W fun e w' => e = .returned (qV ⟨5, 0, 0, n⟩) ∧ Below W.heap.size W w') :
    Calls Tryd.prog 45 #[.iface 116 (.agg #[.string n])] w fun e w' => e = .returned (.string ((⟨#[99, 114, 101, 97, 116, 101]⟩ : ByteArray) ++ spB ++ n)) ∧ Below w.heap.size w w' := by
  have HPL := hide HP
  have HDR := hide hd
  have HIG := hide (fun W (hW : DoorT W) => itoa_any 0 (by omega) W hW)
  have HIV := hide (fun W (hW : DoorT W) => itoa_any v (by omega) W hW)
  have zg := dgS_size 0
  have zv := dgS_size v
  generalize dgS 0 = DG at *
  generalize dgS v = DV at *
  clear HP hd
  have a1 := tx_5_1
  have a2 := tx_5_2
  have a3 := tx_5_3
  have a4 := tx_5_4
  have a5 := tx_5_5
  have a6 := tx_5_6
  have a7 := tx_5_7
  go_enter Tryd.func45, Tryd.ntmps45
  go_wp2_with fail
  refine (unhide HPL _).mono ?_
  rintro e w1 ⟨rfl, hb⟩
  have HBL := hide (Joins.below_alloc1 w1 (.cells #[.int .i64 5, .int .i64 0, .int .i64 0, .string n] 27))
  have HV1 : Hid (VarR (w1.alloc (.cells #[.int .i64 5, .int .i64 0, .int .i64 0, .string n] 27)) w1.heap.size ⟨5, 0, 0, n⟩) := hide (VarM.new w1 27 _ _ _ _)
  have HB1 := hide (fr hb (unhide HBL))
  have HD1 := hide (((unhide HDR).below hb).below (unhide HBL))
  clear hb HBL HDR HPL
  go_upto_region 2 with fail
  revert HV1 HB1 HD1
  generalize (w1.alloc _) = W1
  generalize w1.heap.size = px
  intro HV1 HB1 HD1
  refine wp_region_cb (by kernel_rfl) (by kernel_rfl) ?_
  refine quiet_val (.pointer (some ⟨px, 0, none⟩)) rfl (fun W hW => by go_simp) ?_
  refine quiet_val (.int .i64 5) rfl (fun W hW => by obtain ⟨l0, l1, l2, l3⟩ := ((unhide HV1).below hW).cells; go_simp) ?_
  refine quiet_val (.pointer (some ⟨0, 5, none⟩)) rfl (fun W hW => by go_simp) ?_
  refine quiet_val (.string (⟨#[99, 114, 101, 97, 116, 101]⟩ : ByteArray)) rfl (fun W hW => by have hwd := ((unhide HD1).below hW).word 5 (.string (⟨#[99, 114, 101, 97, 116, 101]⟩ : ByteArray)) rfl; go_simp) ?_
  refine quiet_val (.pointer (some ⟨px, 1, none⟩)) rfl (fun W hW => by go_simp) ?_
  refine quiet_val (.int .i64 0) rfl (fun W hW => by obtain ⟨l0, l1, l2, l3⟩ := ((unhide HV1).below hW).cells; go_simp) ?_
  refine quiet_call (.string DG) 57 #[.int .i64 0] rfl (fun W => by go_simp) (fun W hW => unhide HIG W ((unhide HD1).below hW)) ?_
  refine quiet_val (.string (⟨#[99, 114, 101, 97, 116, 101]⟩ : ByteArray)) rfl (fun W hW => by go_simp) ?_
  refine quiet_val (.string DG) rfl (fun W hW => by go_simp) ?_
  refine wpQuiet_nil fun w2 hb2 => ?_
  have HB2 := hide (fr (unhide HB1) hb2)
  have HD2 := hide ((unhide HD1).below hb2)
  have HV2 := hide ((unhide HV1).below hb2)
  clear hb2 HB1 HD1 HV1
  obtain ⟨l0, l1, l2, l3⟩ := (unhide HV2).cells
  go_wp2_with fail
  refine (joined_any w2.heap.size 0 2 [(⟨#[99, 114, 101, 97, 116, 101]⟩ : ByteArray), n] _ ?c1 ?c2 (by simp) (by simp) ?c3).mono ?_
  case c1 =>
    intro j x hj
    rcases (show j = 0 ∨ j = 1 by have := (List.getElem?_eq_some_iff.1 hj).1; simp at this; omega) with rfl | rfl <;> (cases hj; simp [go_sem])
  case c2 => simp
  case c3 =>
    rw [joinS_two, ByteArray.size_append, ByteArray.size_append, sz_lits]
    have : (⟨#[99, 114, 101, 97, 116, 101]⟩ : ByteArray).size ≤ 10 := by decide
    omega
  rintro e w3 ⟨rfl, hb⟩
  have HB3 := hide (fr (fr (unhide HB2) (Joins.below_alloc1 w2 _)) hb)
  clear hb
  go_wp2
  go_ret
  exact ⟨ret_str (joinS_two _ _), unhide HB3⟩


set_option maxHeartbeats 3200000 in
theorem textOf_6 (g v : Nat) (n : ByteArray) (w : World) (hd : DoorT w) (hg : g ≤ 2147483647) (hv : v ≤ 2147483647) (hn : n.size ≤ 65536)
    (HP : ∀ W, Calls Tryd.prog 84 #[.iface 117 (.agg #[.string n])] W fun e w' => e = .returned (qV ⟨6, 0, 0, n⟩) ∧ Below W.heap.size W w') :
    Calls Tryd.prog 45 #[.iface 117 (.agg #[.string n])] w fun e w' => e = .returned (.string ((⟨#[100, 101, 108, 101, 116, 101]⟩ : ByteArray) ++ spB ++ n)) ∧ Below w.heap.size w w' := by
  have HPL := hide HP
  have HDR := hide hd
  have HIG := hide (fun W (hW : DoorT W) => itoa_any 0 (by omega) W hW)
  have HIV := hide (fun W (hW : DoorT W) => itoa_any v (by omega) W hW)
  have zg := dgS_size 0
  have zv := dgS_size v
  generalize dgS 0 = DG at *
  generalize dgS v = DV at *
  clear HP hd
  have a1 := tx_6_1
  have a2 := tx_6_2
  have a3 := tx_6_3
  have a4 := tx_6_4
  have a5 := tx_6_5
  have a6 := tx_6_6
  have a7 := tx_6_7
  go_enter Tryd.func45, Tryd.ntmps45
  go_wp2_with fail
  refine (unhide HPL _).mono ?_
  rintro e w1 ⟨rfl, hb⟩
  have HBL := hide (Joins.below_alloc1 w1 (.cells #[.int .i64 6, .int .i64 0, .int .i64 0, .string n] 27))
  have HV1 : Hid (VarR (w1.alloc (.cells #[.int .i64 6, .int .i64 0, .int .i64 0, .string n] 27)) w1.heap.size ⟨6, 0, 0, n⟩) := hide (VarM.new w1 27 _ _ _ _)
  have HB1 := hide (fr hb (unhide HBL))
  have HD1 := hide (((unhide HDR).below hb).below (unhide HBL))
  clear hb HBL HDR HPL
  go_upto_region 2 with fail
  revert HV1 HB1 HD1
  generalize (w1.alloc _) = W1
  generalize w1.heap.size = px
  intro HV1 HB1 HD1
  refine wp_region_cb (by kernel_rfl) (by kernel_rfl) ?_
  refine quiet_val (.pointer (some ⟨px, 0, none⟩)) rfl (fun W hW => by go_simp) ?_
  refine quiet_val (.int .i64 6) rfl (fun W hW => by obtain ⟨l0, l1, l2, l3⟩ := ((unhide HV1).below hW).cells; go_simp) ?_
  refine quiet_val (.pointer (some ⟨0, 6, none⟩)) rfl (fun W hW => by go_simp) ?_
  refine quiet_val (.string (⟨#[100, 101, 108, 101, 116, 101]⟩ : ByteArray)) rfl (fun W hW => by have hwd := ((unhide HD1).below hW).word 6 (.string (⟨#[100, 101, 108, 101, 116, 101]⟩ : ByteArray)) rfl; go_simp) ?_
  refine quiet_val (.pointer (some ⟨px, 1, none⟩)) rfl (fun W hW => by go_simp) ?_
  refine quiet_val (.int .i64 0) rfl (fun W hW => by obtain ⟨l0, l1, l2, l3⟩ := ((unhide HV1).below hW).cells; go_simp) ?_
  refine quiet_call (.string DG) 57 #[.int .i64 0] rfl (fun W => by go_simp) (fun W hW => unhide HIG W ((unhide HD1).below hW)) ?_
  refine quiet_val (.string (⟨#[100, 101, 108, 101, 116, 101]⟩ : ByteArray)) rfl (fun W hW => by go_simp) ?_
  refine quiet_val (.string DG) rfl (fun W hW => by go_simp) ?_
  refine wpQuiet_nil fun w2 hb2 => ?_
  have HB2 := hide (fr (unhide HB1) hb2)
  have HD2 := hide ((unhide HD1).below hb2)
  have HV2 := hide ((unhide HV1).below hb2)
  clear hb2 HB1 HD1 HV1
  obtain ⟨l0, l1, l2, l3⟩ := (unhide HV2).cells
  go_wp2_with fail
  refine (joined_any w2.heap.size 0 2 [(⟨#[100, 101, 108, 101, 116, 101]⟩ : ByteArray), n] _ ?c1 ?c2 (by simp) (by simp) ?c3).mono ?_
  case c1 =>
    intro j x hj
    rcases (show j = 0 ∨ j = 1 by have := (List.getElem?_eq_some_iff.1 hj).1; simp at this; omega) with rfl | rfl <;> (cases hj; simp [go_sem])
  case c2 => simp
  case c3 =>
    rw [joinS_two, ByteArray.size_append, ByteArray.size_append, sz_lits]
    have : (⟨#[100, 101, 108, 101, 116, 101]⟩ : ByteArray).size ≤ 10 := by decide
    omega
  rintro e w3 ⟨rfl, hb⟩
  have HB3 := hide (fr (fr (unhide HB2) (Joins.below_alloc1 w2 _)) hb)
  clear hb
  go_wp2
  go_ret
  exact ⟨ret_str (joinS_two _ _), unhide HB3⟩


set_option maxHeartbeats 3200000 in
theorem textOf_7 (g v : Nat) (n : ByteArray) (w : World) (hd : DoorT w) (hg : g ≤ 2147483647) (hv : v ≤ 2147483647) (hn : n.size ≤ 65536)
    (HP : ∀ W, Calls Tryd.prog 84 #[.iface 118 (.agg #[.string n])] W fun e w' => e = .returned (qV ⟨7, 0, 0, n⟩) ∧ Below W.heap.size W w') :
    Calls Tryd.prog 45 #[.iface 118 (.agg #[.string n])] w fun e w' => e = .returned (.string ((⟨#[114, 101, 118, 101, 114, 116]⟩ : ByteArray) ++ spB ++ n)) ∧ Below w.heap.size w w' := by
  have HPL := hide HP
  have HDR := hide hd
  have HIG := hide (fun W (hW : DoorT W) => itoa_any 0 (by omega) W hW)
  have HIV := hide (fun W (hW : DoorT W) => itoa_any v (by omega) W hW)
  have zg := dgS_size 0
  have zv := dgS_size v
  generalize dgS 0 = DG at *
  generalize dgS v = DV at *
  clear HP hd
  have a1 := tx_7_1
  have a2 := tx_7_2
  have a3 := tx_7_3
  have a4 := tx_7_4
  have a5 := tx_7_5
  have a6 := tx_7_6
  have a7 := tx_7_7
  go_enter Tryd.func45, Tryd.ntmps45
  go_wp2_with fail
  refine (unhide HPL _).mono ?_
  rintro e w1 ⟨rfl, hb⟩
  have HBL := hide (Joins.below_alloc1 w1 (.cells #[.int .i64 7, .int .i64 0, .int .i64 0, .string n] 27))
  have HV1 : Hid (VarR (w1.alloc (.cells #[.int .i64 7, .int .i64 0, .int .i64 0, .string n] 27)) w1.heap.size ⟨7, 0, 0, n⟩) := hide (VarM.new w1 27 _ _ _ _)
  have HB1 := hide (fr hb (unhide HBL))
  have HD1 := hide (((unhide HDR).below hb).below (unhide HBL))
  clear hb HBL HDR HPL
  go_upto_region 2 with fail
  revert HV1 HB1 HD1
  generalize (w1.alloc _) = W1
  generalize w1.heap.size = px
  intro HV1 HB1 HD1
  refine wp_region_cb (by kernel_rfl) (by kernel_rfl) ?_
  refine quiet_val (.pointer (some ⟨px, 0, none⟩)) rfl (fun W hW => by go_simp) ?_
  refine quiet_val (.int .i64 7) rfl (fun W hW => by obtain ⟨l0, l1, l2, l3⟩ := ((unhide HV1).below hW).cells; go_simp) ?_
  refine quiet_val (.pointer (some ⟨0, 7, none⟩)) rfl (fun W hW => by go_simp) ?_
  refine quiet_val (.string (⟨#[114, 101, 118, 101, 114, 116]⟩ : ByteArray)) rfl (fun W hW => by have hwd := ((unhide HD1).below hW).word 7 (.string (⟨#[114, 101, 118, 101, 114, 116]⟩ : ByteArray)) rfl; go_simp) ?_
  refine quiet_val (.pointer (some ⟨px, 1, none⟩)) rfl (fun W hW => by go_simp) ?_
  refine quiet_val (.int .i64 0) rfl (fun W hW => by obtain ⟨l0, l1, l2, l3⟩ := ((unhide HV1).below hW).cells; go_simp) ?_
  refine quiet_call (.string DG) 57 #[.int .i64 0] rfl (fun W => by go_simp) (fun W hW => unhide HIG W ((unhide HD1).below hW)) ?_
  refine quiet_val (.string (⟨#[114, 101, 118, 101, 114, 116]⟩ : ByteArray)) rfl (fun W hW => by go_simp) ?_
  refine quiet_val (.string DG) rfl (fun W hW => by go_simp) ?_
  refine wpQuiet_nil fun w2 hb2 => ?_
  have HB2 := hide (fr (unhide HB1) hb2)
  have HD2 := hide ((unhide HD1).below hb2)
  have HV2 := hide ((unhide HV1).below hb2)
  clear hb2 HB1 HD1 HV1
  obtain ⟨l0, l1, l2, l3⟩ := (unhide HV2).cells
  go_wp2_with fail
  refine (joined_any w2.heap.size 0 2 [(⟨#[114, 101, 118, 101, 114, 116]⟩ : ByteArray), n] _ ?c1 ?c2 (by simp) (by simp) ?c3).mono ?_
  case c1 =>
    intro j x hj
    rcases (show j = 0 ∨ j = 1 by have := (List.getElem?_eq_some_iff.1 hj).1; simp at this; omega) with rfl | rfl <;> (cases hj; simp [go_sem])
  case c2 => simp
  case c3 =>
    rw [joinS_two, ByteArray.size_append, ByteArray.size_append, sz_lits]
    have : (⟨#[114, 101, 118, 101, 114, 116]⟩ : ByteArray).size ≤ 10 := by decide
    omega
  rintro e w3 ⟨rfl, hb⟩
  have HB3 := hide (fr (fr (unhide HB2) (Joins.below_alloc1 w2 _)) hb)
  clear hb
  go_wp2
  go_ret
  exact ⟨ret_str (joinS_two _ _), unhide HB3⟩


set_option maxHeartbeats 3200000 in
theorem textOf_8 (g v : Nat) (n : ByteArray) (w : World) (hd : DoorT w) (hg : g ≤ 2147483647) (hv : v ≤ 2147483647) (hn : n.size ≤ 65536)
    (HP : ∀ W, Calls Tryd.prog 84 #[.iface 127 (.agg #[])] W fun e w' => e = .returned (qV ⟨8, 0, 0, noB⟩) ∧ Below W.heap.size W w') :
    Calls Tryd.prog 45 #[.iface 127 (.agg #[])] w fun e w' => e = .returned (.string ((⟨#[108, 105, 115, 116]⟩ : ByteArray))) ∧ Below w.heap.size w w' := by
  have HPL := hide HP
  have HDR := hide hd
  have HIG := hide (fun W (hW : DoorT W) => itoa_any 0 (by omega) W hW)
  have HIV := hide (fun W (hW : DoorT W) => itoa_any v (by omega) W hW)
  have zg := dgS_size 0
  have zv := dgS_size v
  generalize dgS 0 = DG at *
  generalize dgS v = DV at *
  clear HP hd
  have a1 := tx_8_1
  have a2 := tx_8_2
  have a3 := tx_8_3
  have a4 := tx_8_4
  have a5 := tx_8_5
  have a6 := tx_8_6
  have a7 := tx_8_7
  go_enter Tryd.func45, Tryd.ntmps45
  go_wp2_with fail
  refine (unhide HPL _).mono ?_
  rintro e w1 ⟨rfl, hb⟩
  have HBL := hide (Joins.below_alloc1 w1 (.cells #[.int .i64 8, .int .i64 0, .int .i64 0, .string noB] 27))
  have HV1 : Hid (VarR (w1.alloc (.cells #[.int .i64 8, .int .i64 0, .int .i64 0, .string noB] 27)) w1.heap.size ⟨8, 0, 0, noB⟩) := hide (VarM.new w1 27 _ _ _ _)
  have HB1 := hide (fr hb (unhide HBL))
  have HD1 := hide (((unhide HDR).below hb).below (unhide HBL))
  clear hb HBL HDR HPL
  go_upto_region 2 with fail
  revert HV1 HB1 HD1
  generalize (w1.alloc _) = W1
  generalize w1.heap.size = px
  intro HV1 HB1 HD1
  refine wp_region_cb (by kernel_rfl) (by kernel_rfl) ?_
  refine quiet_val (.pointer (some ⟨px, 0, none⟩)) rfl (fun W hW => by go_simp) ?_
  refine quiet_val (.int .i64 8) rfl (fun W hW => by obtain ⟨l0, l1, l2, l3⟩ := ((unhide HV1).below hW).cells; go_simp) ?_
  refine quiet_val (.pointer (some ⟨0, 8, none⟩)) rfl (fun W hW => by go_simp) ?_
  refine quiet_val (.string (⟨#[108, 105, 115, 116]⟩ : ByteArray)) rfl (fun W hW => by have hwd := ((unhide HD1).below hW).word 8 (.string (⟨#[108, 105, 115, 116]⟩ : ByteArray)) rfl; go_simp) ?_
  refine quiet_val (.pointer (some ⟨px, 1, none⟩)) rfl (fun W hW => by go_simp) ?_
  refine quiet_val (.int .i64 0) rfl (fun W hW => by obtain ⟨l0, l1, l2, l3⟩ := ((unhide HV1).below hW).cells; go_simp) ?_
  refine quiet_call (.string DG) 57 #[.int .i64 0] rfl (fun W => by go_simp) (fun W hW => unhide HIG W ((unhide HD1).below hW)) ?_
  refine quiet_val (.string (⟨#[108, 105, 115, 116]⟩ : ByteArray)) rfl (fun W hW => by go_simp) ?_
  refine quiet_val (.string DG) rfl (fun W hW => by go_simp) ?_
  refine wpQuiet_nil fun w2 hb2 => ?_
  have HB2 := hide (fr (unhide HB1) hb2)
  have HD2 := hide ((unhide HD1).below hb2)
  have HV2 := hide ((unhide HV1).below hb2)
  clear hb2 HB1 HD1 HV1
  go_wp2
  go_ret
  exact ⟨rfl, unhide HB2⟩


theorem textOf_any (q : Rq) (w : World) (hd : DoorT w) (hk : 1 ≤ q.k ∧ q.k ≤ 8) (hg : 0 ≤ q.g ∧ q.g ≤ 2147483647) (hv : 0 ≤ q.v ∧ q.v ≤ 2147483647) (hn : q.n.size ≤ 65536) :
    Calls Tryd.prog 45 #[usV q] w fun e w' => e = .returned (.string (rtS q)) ∧ Below w.heap.size w w' := by
  obtain ⟨k, g, v, n⟩ := q
  simp only at hk hg hv hn
  obtain ⟨g, rfl⟩ := Int.eq_ofNat_of_zero_le hg.1
  obtain ⟨v, rfl⟩ := Int.eq_ofNat_of_zero_le hv.1
  rcases (show k = 1 ∨ k = 2 ∨ k = 3 ∨ k = 4 ∨ k = 5 ∨ k = 6 ∨ k = 7 ∨ k = 8 by omega) with rfl | rfl | rfl | rfl | rfl | rfl | rfl | rfl
  · rw [us_1 rfl]
    exact textOf_1 g v n w hd (by omega) (by omega) hn (fun W => by have := plainReq_any ⟨1, g, v, n⟩ W; rw [us_1 rfl] at this; exact this)
  · rw [us_2 rfl]
    exact textOf_2 g v n w hd (by omega) (by omega) hn (fun W => by have := plainReq_any ⟨2, g, v, n⟩ W; rw [us_2 rfl] at this; exact this)
  · rw [us_3 rfl]
    exact textOf_3 g v n w hd (by omega) (by omega) hn (fun W => by have := plainReq_any ⟨3, g, v, n⟩ W; rw [us_3 rfl] at this; exact this)
  · rw [us_4 rfl]
    exact textOf_4 g v n w hd (by omega) (by omega) hn (fun W => by have := plainReq_any ⟨4, g, v, n⟩ W; rw [us_4 rfl] at this; exact this)
  · rw [us_5 rfl]
    exact textOf_5 g v n w hd (by omega) (by omega) hn (fun W => by have := plainReq_any ⟨5, g, v, n⟩ W; rw [us_5 rfl] at this; exact this)
  · rw [us_6 rfl]
    exact textOf_6 g v n w hd (by omega) (by omega) hn (fun W => by have := plainReq_any ⟨6, g, v, n⟩ W; rw [us_6 rfl] at this; exact this)
  · rw [us_7 rfl]
    exact textOf_7 g v n w hd (by omega) (by omega) hn (fun W => by have := plainReq_any ⟨7, g, v, n⟩ W; rw [us_7 rfl] at this; exact this)
  · rw [us_8 (by simp)]
    exact textOf_8 g v n w hd (by omega) (by omega) hn (fun W => by have := plainReq_any ⟨8, g, v, n⟩ W; rw [us_8 (by simp)] at this; exact this)

end Go.Proofs.YtkndabnngdjcgaaDoor
