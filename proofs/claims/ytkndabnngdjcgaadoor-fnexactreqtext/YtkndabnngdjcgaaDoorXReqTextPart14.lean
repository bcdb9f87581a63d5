import Derived.Test.YtkndabnngdjcgaaDoorXReqTextPart4
import Derived.Test.YtkndabnngdjcgaaDoorXReqTextPart13
import Derived.Test.YtkndabnngdjcgaaDoorXReqTextPart1
import Derived.Test.YtkndabnngdjcgaaDoorXReqTextPart5
import Derived.Deep.RegionHeld3
import Derived.Test.YtkndabnngdjcgaaDoorXReqTextPart6
import Derived.Test.YtkndabnngdjcgaaDoorXReqTextPart8
import Derived.WalkKit
import Derived.WalkSpells
import Derived.KernelRfl
import Derived.Test.YtkndabnngdjcgaaDoorRows
import Derived.Laws.ResultCell
import Derived.ProofKit
import Derived.OpenShut
import Derived.Lib.SmallJoins
import Derived.ShutString

/- Contracts of the program's hasValue and canBeTold. (Written by gens/rqt.py.) -/
namespace Go.Proofs.YtkndabnngdjcgaaDoor
open Go.RowKit
set_option linter.unusedVariables false
set_option maxRecDepth 100000

theorem at_1_1 (v : Value) (W : World) : (Instr.typeAssert (.iface 120 v) 20 120 true).run Tryd.prog W = .ok (.tuple #[v, .bool true]) W := by kernel_rfl
theorem at_1_5 (v : Value) (W : World) : (Instr.typeAssert (.iface 120 v) 20 116 true).run Tryd.prog W = .ok (.tuple #[.agg #[.string ⟨#[]⟩], .bool false]) W := by kernel_rfl
theorem at_1_6 (v : Value) (W : World) : (Instr.typeAssert (.iface 120 v) 20 117 true).run Tryd.prog W = .ok (.tuple #[.agg #[.string ⟨#[]⟩], .bool false]) W := by kernel_rfl
theorem at_1_7 (v : Value) (W : World) : (Instr.typeAssert (.iface 120 v) 20 118 true).run Tryd.prog W = .ok (.tuple #[.agg #[.string ⟨#[]⟩], .bool false]) W := by kernel_rfl
theorem at_1_8 (v : Value) (W : World) : (Instr.typeAssert (.iface 120 v) 20 127 true).run Tryd.prog W = .ok (.tuple #[.agg #[], .bool false]) W := by kernel_rfl
theorem at_2_1 (v : Value) (W : World) : (Instr.typeAssert (.iface 122 v) 20 120 true).run Tryd.prog W = .ok (.tuple #[.agg #[.int .i64 0], .bool false]) W := by kernel_rfl
theorem at_2_5 (v : Value) (W : World) : (Instr.typeAssert (.iface 122 v) 20 116 true).run Tryd.prog W = .ok (.tuple #[.agg #[.string ⟨#[]⟩], .bool false]) W := by kernel_rfl
theorem at_2_6 (v : Value) (W : World) : (Instr.typeAssert (.iface 122 v) 20 117 true).run Tryd.prog W = .ok (.tuple #[.agg #[.string ⟨#[]⟩], .bool false]) W := by kernel_rfl
theorem at_2_7 (v : Value) (W : World) : (Instr.typeAssert (.iface 122 v) 20 118 true).run Tryd.prog W = .ok (.tuple #[.agg #[.string ⟨#[]⟩], .bool false]) W := by kernel_rfl
theorem at_2_8 (v : Value) (W : World) : (Instr.typeAssert (.iface 122 v) 20 127 true).run Tryd.prog W = .ok (.tuple #[.agg #[], .bool false]) W := by kernel_rfl
theorem at_3_1 (v : Value) (W : World) : (Instr.typeAssert (.iface 123 v) 20 120 true).run Tryd.prog W = .ok (.tuple #[.agg #[.int .i64 0], .bool false]) W := by kernel_rfl
theorem at_3_5 (v : Value) (W : World) : (Instr.typeAssert (.iface 123 v) 20 116 true).run Tryd.prog W = .ok (.tuple #[.agg #[.string ⟨#[]⟩], .bool false]) W := by kernel_rfl
theorem at_3_6 (v : Value) (W : World) : (Instr.typeAssert (.iface 123 v) 20 117 true).run Tryd.prog W = .ok (.tuple #[.agg #[.string ⟨#[]⟩], .bool false]) W := by kernel_rfl
theorem at_3_7 (v : Value) (W : World) : (Instr.typeAssert (.iface 123 v) 20 118 true).run Tryd.prog W = .ok (.tuple #[.agg #[.string ⟨#[]⟩], .bool false]) W := by kernel_rfl
theorem at_3_8 (v : Value) (W : World) : (Instr.typeAssert (.iface 123 v) 20 127 true).run Tryd.prog W = .ok (.tuple #[.agg #[], .bool false]) W := by kernel_rfl
theorem at_4_1 (v : Value) (W : World) : (Instr.typeAssert (.iface 125 v) 20 120 true).run Tryd.prog W = .ok (.tuple #[.agg #[.int .i64 0], .bool false]) W := by kernel_rfl
theorem at_4_5 (v : Value) (W : World) : (Instr.typeAssert (.iface 125 v) 20 116 true).run Tryd.prog W = .ok (.tuple #[.agg #[.string ⟨#[]⟩], .bool false]) W := by kernel_rfl
theorem at_4_6 (v : Value) (W : World) : (Instr.typeAssert (.iface 125 v) 20 117 true).run Tryd.prog W = .ok (.tuple #[.agg #[.string ⟨#[]⟩], .bool false]) W := by kernel_rfl
theorem at_4_7 (v : Value) (W : World) : (Instr.typeAssert (.iface 125 v) 20 118 true).run Tryd.prog W = .ok (.tuple #[.agg #[.string ⟨#[]⟩], .bool false]) W := by kernel_rfl
theorem at_4_8 (v : Value) (W : World) : (Instr.typeAssert (.iface 125 v) 20 127 true).run Tryd.prog W = .ok (.tuple #[.agg #[], .bool false]) W := by kernel_rfl
theorem at_5_1 (v : Value) (W : World) : (Instr.typeAssert (.iface 116 v) 20 120 true).run Tryd.prog W = .ok (.tuple #[.agg #[.int .i64 0], .bool false]) W := by kernel_rfl
theorem at_5_5 (v : Value) (W : World) : (Instr.typeAssert (.iface 116 v) 20 116 true).run Tryd.prog W = .ok (.tuple #[v, .bool true]) W := by kernel_rfl
theorem at_5_6 (v : Value) (W : World) : (Instr.typeAssert (.iface 116 v) 20 117 true).run Tryd.prog W = .ok (.tuple #[.agg #[.string ⟨#[]⟩], .bool false]) W := by kernel_rfl
theorem at_5_7 (v : Value) (W : World) : (Instr.typeAssert (.iface 116 v) 20 118 true).run Tryd.prog W = .ok (.tuple #[.agg #[.string ⟨#[]⟩], .bool false]) W := by kernel_rfl
theorem at_5_8 (v : Value) (W : World) : (Instr.typeAssert (.iface 116 v) 20 127 true).run Tryd.prog W = .ok (.tuple #[.agg #[], .bool false]) W := by kernel_rfl
theorem at_6_1 (v : Value) (W : World) : (Instr.typeAssert (.iface 117 v) 20 120 true).run Tryd.prog W = .ok (.tuple #[.agg #[.int .i64 0], .bool false]) W := by kernel_rfl
theorem at_6_5 (v : Value) (W : World) : (Instr.typeAssert (.iface 117 v) 20 116 true).run Tryd.prog W = .ok (.tuple #[.agg #[.string ⟨#[]⟩], .bool false]) W := by kernel_rfl
theorem at_6_6 (v : Value) (W : World) : (Instr.typeAssert (.iface 117 v) 20 117 true).run Tryd.prog W = .ok (.tuple #[v, .bool true]) W := by kernel_rfl
theorem at_6_7 (v : Value) (W : World) : (Instr.typeAssert (.iface 117 v) 20 118 true).run Tryd.prog W = .ok (.tuple #[.agg #[.string ⟨#[]⟩], .bool false]) W := by kernel_rfl
theorem at_6_8 (v : Value) (W : World) : (Instr.typeAssert (.iface 117 v) 20 127 true).run Tryd.prog W = .ok (.tuple #[.agg #[], .bool false]) W := by kernel_rfl
theorem at_7_1 (v : Value) (W : World) : (Instr.typeAssert (.iface 118 v) 20 120 true).run Tryd.prog W = .ok (.tuple #[.agg #[.int .i64 0], .bool false]) W := by kernel_rfl
theorem at_7_5 (v : Value) (W : World) : (Instr.typeAssert (.iface 118 v) 20 116 true).run Tryd.prog W = .ok (.tuple #[.agg #[.string ⟨#[]⟩], .bool false]) W := by kernel_rfl
theorem at_7_6 (v : Value) (W : World) : (Instr.typeAssert (.iface 118 v) 20 117 true).run Tryd.prog W = .ok (.tuple #[.agg #[.string ⟨#[]⟩], .bool false]) W := by kernel_rfl
theorem at_7_7 (v : Value) (W : World) : (Instr.typeAssert (.iface 118 v) 20 118 true).run Tryd.prog W = .ok (.tuple #[v, .bool true]) W := by kernel_rfl
theorem at_7_8 (v : Value) (W : World) : (Instr.typeAssert (.iface 118 v) 20 127 true).run Tryd.prog W = .ok (.tuple #[.agg #[], .bool false]) W := by kernel_rfl
theorem at_8_1 (v : Value) (W : World) : (Instr.typeAssert (.iface 127 v) 20 120 true).run Tryd.prog W = .ok (.tuple #[.agg #[.int .i64 0], .bool false]) W := by kernel_rfl
theorem at_8_5 (v : Value) (W : World) : (Instr.typeAssert (.iface 127 v) 20 116 true).run Tryd.prog W = .ok (.tuple #[.agg #[.string ⟨#[]⟩], .bool false]) W := by kernel_rfl
theorem at_8_6 (v : Value) (W : World) : (Instr.typeAssert (.iface 127 v) 20 117 true).run Tryd.prog W = .ok (.tuple #[.agg #[.string ⟨#[]⟩], .bool false]) W := by kernel_rfl
theorem at_8_7 (v : Value) (W : World) : (Instr.typeAssert (.iface 127 v) 20 118 true).run Tryd.prog W = .ok (.tuple #[.agg #[.string ⟨#[]⟩], .bool false]) W := by kernel_rfl
theorem at_8_8 (v : Value) (W : World) : (Instr.typeAssert (.iface 127 v) 20 127 true).run Tryd.prog W = .ok (.tuple #[v, .bool true]) W := by kernel_rfl

/-- Whether a request's reply has a value. -/
def hvQ (q : Rq) : Bool := if q.k = 1 then true else if q.k = 2 ∨ q.k = 3 ∨ q.k = 4 ∨ q.k = 5 ∨ q.k = 6 ∨ q.k = 7 then false else true
/-- Whether a right request can be told. -/
def ctQ (q : Rq) : Bool := if q.k = 5 ∨ q.k = 6 ∨ q.k = 7 then snmB q.n else (numB (plR q).g && numB (plR q).v)

set_option maxHeartbeats 3200000 in
theorem hasValue_any (q : Rq) (w : World) : Calls Tryd.prog 56 #[usV q] w fun e w' => e = .returned (.bool (hvQ q)) ∧ Below w.heap.size w w' := by
  obtain ⟨R, HR⟩ : ∃ R, Hid (R = hvQ q) := ⟨_, hide rfl⟩
  rw [← unhide HR]
  rcases rq_8 q with h | h | h | h | h | h | h | h
  · have HX : Hid (R = true) := hide (by rw [unhide HR]; unfold hvQ; rw [if_pos h])
    rw [us_1 h]
    clear HR h
    have a1 := at_1_1
    have a2 := at_1_8
    go_enter Tryd.func56, Tryd.ntmps56
    go_wp2
    go_ret
    exact ⟨ret_bool (by rw [unhide HX]), Below.refl _ _⟩
  · have HX : Hid (R = false) := hide (by rw [unhide HR]; unfold hvQ; rw [if_neg (by omega), if_pos (by omega)])
    rw [us_2 h]
    clear HR h
    have a1 := at_2_1
    have a2 := at_2_8
    go_enter Tryd.func56, Tryd.ntmps56
    go_wp2
    go_ret
    exact ⟨ret_bool (by rw [unhide HX]), Below.refl _ _⟩
  · have HX : Hid (R = false) := hide (by rw [unhide HR]; unfold hvQ; rw [if_neg (by omega), if_pos (by omega)])
    rw [us_3 h]
    clear HR h
    have a1 := at_3_1
    have a2 := at_3_8
    go_enter Tryd.func56, Tryd.ntmps56
    go_wp2
    go_ret
    exact ⟨ret_bool (by rw [unhide HX]), Below.refl _ _⟩
  · have HX : Hid (R = false) := hide (by rw [unhide HR]; unfold hvQ; rw [if_neg (by omega), if_pos (by omega)])
    rw [us_4 h]
    clear HR h
    have a1 := at_4_1
    have a2 := at_4_8
    go_enter Tryd.func56, Tryd.ntmps56
    go_wp2
    go_ret
    exact ⟨ret_bool (by rw [unhide HX]), Below.refl _ _⟩
  · have HX : Hid (R = false) := hide (by rw [unhide HR]; unfold hvQ; rw [if_neg (by omega), if_pos (by omega)])
    rw [us_5 h]
    clear HR h
    have a1 := at_5_1
    have a2 := at_5_8
    go_enter Tryd.func56, Tryd.ntmps56
    go_wp2
    go_ret
    exact ⟨ret_bool (by rw [unhide HX]), Below.refl _ _⟩
  · have HX : Hid (R = false) := hide (by rw [unhide HR]; unfold hvQ; rw [if_neg (by omega), if_pos (by omega)])
    rw [us_6 h]
    clear HR h
    have a1 := at_6_1
    have a2 := at_6_8
    go_enter Tryd.func56, Tryd.ntmps56
    go_wp2
    go_ret
    exact ⟨ret_bool (by rw [unhide HX]), Below.refl _ _⟩
  · have HX : Hid (R = false) := hide (by rw [unhide HR]; unfold hvQ; rw [if_neg (by omega), if_pos (by omega)])
    rw [us_7 h]
    clear HR h
    have a1 := at_7_1
    have a2 := at_7_8
    go_enter Tryd.func56, Tryd.ntmps56
    go_wp2
    go_ret
    exact ⟨ret_bool (by rw [unhide HX]), Below.refl _ _⟩
  · have HX : Hid (R = true) := hide (by rw [unhide HR]; unfold hvQ; rw [if_neg (by omega), if_neg (by omega)])
    rw [us_8 h]
    clear HR h
    have a1 := at_8_1
    have a2 := at_8_8
    go_enter Tryd.func56, Tryd.ntmps56
    go_wp2
    go_ret
    exact ⟨ret_bool (by rw [unhide HX]), Below.refl _ _⟩

set_option maxHeartbeats 6400000 in
theorem canBeTold_any (q : Rq) (w : World) (hz : q.n.size ≤ maxLen) : Calls Tryd.prog 43 #[usV q] w fun e w' => e = .returned (.bool (ctQ q)) ∧ Below w.heap.size w w' := by
  obtain ⟨R, HR⟩ : ∃ R, Hid (R = ctQ q) := ⟨_, hide rfl⟩
  rw [← unhide HR]
  have HPL := fun W => hide (plainReq_any q W)
  rcases rq_8 q with h | h | h | h | h | h | h | h
  · have HX : Hid (R = (numB (plR q).g && numB (plR q).v)) := hide (by rw [unhide HR]; unfold ctQ; rw [if_neg (by omega)])
    have HP := HPL w
    rw [us_1 h] at HP ⊢
    clear HR h HPL
    have a1 := at_1_5
    have a2 := at_1_6
    have a3 := at_1_7
    revert HX
    revert HP
    generalize plR q = p
    intro HP HX
    go_enter Tryd.func43, Tryd.ntmps43
    go_wp2_with fail
    refine (unhide HP).mono ?_
    rintro e w1 ⟨rfl, hb⟩
    have HB := hide (fr hb (Joins.below_alloc1 w1 (.cells #[.int .i64 p.k, .int .i64 p.g, .int .i64 p.v, .string p.n] 27)))
    clear hb
    cases hg : numB p.g
    · go_wp2_with (go_at_call 86; refine (isNumber_any _ _).mono ?_; rintro e w' ⟨rfl, hw⟩; replace hw := hw.symm; subst hw; rw [hg])
      go_ret
      exact ⟨ret_bool (by rw [unhide HX, hg]; rfl), unhide HB⟩
    · cases hv : numB p.v
      · go_wp2_with (go_at_call 86; refine (isNumber_any _ _).mono ?_; rintro e w' ⟨rfl, hw⟩; replace hw := hw.symm; subst hw; first | rw [hg] | rw [hv])
        go_ret
        exact ⟨ret_bool (by rw [unhide HX, hg, hv]; rfl), unhide HB⟩
      · go_wp2_with (go_at_call 86; refine (isNumber_any _ _).mono ?_; rintro e w' ⟨rfl, hw⟩; replace hw := hw.symm; subst hw; first | rw [hg] | rw [hv])
        go_ret
        exact ⟨ret_bool (by rw [unhide HX, hg, hv]; rfl), unhide HB⟩
  · have HX : Hid (R = (numB (plR q).g && numB (plR q).v)) := hide (by rw [unhide HR]; unfold ctQ; rw [if_neg (by omega)])
    have HP := HPL w
    rw [us_2 h] at HP ⊢
    clear HR h HPL
    have a1 := at_2_5
    have a2 := at_2_6
    have a3 := at_2_7
    revert HX
    revert HP
    generalize plR q = p
    intro HP HX
    go_enter Tryd.func43, Tryd.ntmps43
    go_wp2_with fail
    refine (unhide HP).mono ?_
    rintro e w1 ⟨rfl, hb⟩
    have HB := hide (fr hb (Joins.below_alloc1 w1 (.cells #[.int .i64 p.k, .int .i64 p.g, .int .i64 p.v, .string p.n] 27)))
    clear hb
    cases hg : numB p.g
    · go_wp2_with (go_at_call 86; refine (isNumber_any _ _).mono ?_; rintro e w' ⟨rfl, hw⟩; replace hw := hw.symm; subst hw; rw [hg])
      go_ret
      exact ⟨ret_bool (by rw [unhide HX, hg]; rfl), unhide HB⟩
    · cases hv : numB p.v
      · go_wp2_with (go_at_call 86; refine (isNumber_any _ _).mono ?_; rintro e w' ⟨rfl, hw⟩; replace hw := hw.symm; subst hw; first | rw [hg] | rw [hv])
        go_ret
        exact ⟨ret_bool (by rw [unhide HX, hg, hv]; rfl), unhide HB⟩
      · go_wp2_with (go_at_call 86; refine (isNumber_any _ _).mono ?_; rintro e w' ⟨rfl, hw⟩; replace hw := hw.symm; subst hw; first | rw [hg] | rw [hv])
        go_ret
        exact ⟨ret_bool (by rw [unhide HX, hg, hv]; rfl), unhide HB⟩
  · have HX : Hid (R = (numB (plR q).g && numB (plR q).v)) := hide (by rw [unhide HR]; unfold ctQ; rw [if_neg (by omega)])
    have HP := HPL w
    rw [us_3 h] at HP ⊢
    clear HR h HPL
    have a1 := at_3_5
    have a2 := at_3_6
    have a3 := at_3_7
    revert HX
    revert HP
    generalize plR q = p
    intro HP HX
    go_enter Tryd.func43, Tryd.ntmps43
    go_wp2_with fail
    refine (unhide HP).mono ?_
    rintro e w1 ⟨rfl, hb⟩
    have HB := hide (fr hb (Joins.below_alloc1 w1 (.cells #[.int .i64 p.k, .int .i64 p.g, .int .i64 p.v, .string p.n] 27)))
    clear hb
    cases hg : numB p.g
    · go_wp2_with (go_at_call 86; refine (isNumber_any _ _).mono ?_; rintro e w' ⟨rfl, hw⟩; replace hw := hw.symm; subst hw; rw [hg])
      go_ret
      exact ⟨ret_bool (by rw [unhide HX, hg]; rfl), unhide HB⟩
    · cases hv : numB p.v
      · go_wp2_with (go_at_call 86; refine (isNumber_any _ _).mono ?_; rintro e w' ⟨rfl, hw⟩; replace hw := hw.symm; subst hw; first | rw [hg] | rw [hv])
        go_ret
        exact ⟨ret_bool (by rw [unhide HX, hg, hv]; rfl), unhide HB⟩
      · go_wp2_with (go_at_call 86; refine (isNumber_any _ _).mono ?_; rintro e w' ⟨rfl, hw⟩; replace hw := hw.symm; subst hw; first | rw [hg] | rw [hv])
        go_ret
        exact ⟨ret_bool (by rw [unhide HX, hg, hv]; rfl), unhide HB⟩
  · have HX : Hid (R = (numB (plR q).g && numB (plR q).v)) := hide (by rw [unhide HR]; unfold ctQ; rw [if_neg (by omega)])
    have HP := HPL w
    rw [us_4 h] at HP ⊢
    clear HR h HPL
    have a1 := at_4_5
    have a2 := at_4_6
    have a3 := at_4_7
    revert HX
    revert HP
    generalize plR q = p
    intro HP HX
    go_enter Tryd.func43, Tryd.ntmps43
    go_wp2_with fail
    refine (unhide HP).mono ?_
    rintro e w1 ⟨rfl, hb⟩
    have HB := hide (fr hb (Joins.below_alloc1 w1 (.cells #[.int .i64 p.k, .int .i64 p.g, .int .i64 p.v, .string p.n] 27)))
    clear hb
    cases hg : numB p.g
    · go_wp2_with (go_at_call 86; refine (isNumber_any _ _).mono ?_; rintro e w' ⟨rfl, hw⟩; replace hw := hw.symm; subst hw; rw [hg])
      go_ret
      exact ⟨ret_bool (by rw [unhide HX, hg]; rfl), unhide HB⟩
    · cases hv : numB p.v
      · go_wp2_with (go_at_call 86; refine (isNumber_any _ _).mono ?_; rintro e w' ⟨rfl, hw⟩; replace hw := hw.symm; subst hw; first | rw [hg] | rw [hv])
        go_ret
        exact ⟨ret_bool (by rw [unhide HX, hg, hv]; rfl), unhide HB⟩
      · go_wp2_with (go_at_call 86; refine (isNumber_any _ _).mono ?_; rintro e w' ⟨rfl, hw⟩; replace hw := hw.symm; subst hw; first | rw [hg] | rw [hv])
        go_ret
        exact ⟨ret_bool (by rw [unhide HX, hg, hv]; rfl), unhide HB⟩
  · have HX : Hid (R = snmB q.n) := hide (by rw [unhide HR]; unfold ctQ; rw [if_pos (by omega)])
    rw [us_5 h]
    clear HR h HPL
    have a1 := at_5_5
    have a2 := at_5_6
    have a3 := at_5_7
    have HA := hide (Joins.below_alloc1 w (.cells #[.string q.n] 116))
    go_enter Tryd.func43, Tryd.ntmps43
    go_wp2_with fail
    refine (snapNameOK_any q.n _ hz).mono ?_
    rintro e w1 ⟨rfl, hb⟩
    have HB := hide (fr (unhide HA) hb)
    clear hb
    go_wp2
    go_ret
    exact ⟨ret_bool (by rw [unhide HX]), unhide HB⟩
  · have HX : Hid (R = snmB q.n) := hide (by rw [unhide HR]; unfold ctQ; rw [if_pos (by omega)])
    rw [us_6 h]
    clear HR h HPL
    have a1 := at_6_5
    have a2 := at_6_6
    have a3 := at_6_7
    have HA := hide (Joins.below_alloc1 w (.cells #[.string q.n] 117))
    go_enter Tryd.func43, Tryd.ntmps43
    go_wp2_with fail
    refine (snapNameOK_any q.n _ hz).mono ?_
    rintro e w1 ⟨rfl, hb⟩
    have HB := hide (fr (unhide HA) hb)
    clear hb
    go_wp2
    go_ret
    exact ⟨ret_bool (by rw [unhide HX]), unhide HB⟩
  · have HX : Hid (R = snmB q.n) := hide (by rw [unhide HR]; unfold ctQ; rw [if_pos (by omega)])
    rw [us_7 h]
    clear HR h HPL
    have a1 := at_7_5
    have a2 := at_7_6
    have a3 := at_7_7
    have HA := hide (Joins.below_alloc1 w (.cells #[.string q.n] 118))
    go_enter Tryd.func43, Tryd.ntmps43
    go_wp2_with fail
    refine (snapNameOK_any q.n _ hz).mono ?_
    rintro e w1 ⟨rfl, hb⟩
    have HB := hide (fr (unhide HA) hb)
    clear hb
    go_wp2
    go_ret
    exact ⟨ret_bool (by rw [unhide HX]), unhide HB⟩
  · have HX : Hid (R = (numB (plR q).g && numB (plR q).v)) := hide (by rw [unhide HR]; unfold ctQ; rw [if_neg (by omega)])
    have HP := HPL w
    rw [us_8 h] at HP ⊢
    clear HR h HPL
    have a1 := at_8_5
    have a2 := at_8_6
    have a3 := at_8_7
    revert HX
    revert HP
    generalize plR q = p
    intro HP HX
    go_enter Tryd.func43, Tryd.ntmps43
    go_wp2_with fail
    refine (unhide HP).mono ?_
    rintro e w1 ⟨rfl, hb⟩
    have HB := hide (fr hb (Joins.below_alloc1 w1 (.cells #[.int .i64 p.k, .int .i64 p.g, .int .i64 p.v, .string p.n] 27)))
    clear hb
    cases hg : numB p.g
    · go_wp2_with (go_at_call 86; refine (isNumber_any _ _).mono ?_; rintro e w' ⟨rfl, hw⟩; replace hw := hw.symm; subst hw; rw [hg])
      go_ret
      exact ⟨ret_bool (by rw [unhide HX, hg]; rfl), unhide HB⟩
    · cases hv : numB p.v
      · go_wp2_with (go_at_call 86; refine (isNumber_any _ _).mono ?_; rintro e w' ⟨rfl, hw⟩; replace hw := hw.symm; subst hw; first | rw [hg] | rw [hv])
        go_ret
        exact ⟨ret_bool (by rw [unhide HX, hg, hv]; rfl), unhide HB⟩
      · go_wp2_with (go_at_call 86; refine (isNumber_any _ _).mono ?_; rintro e w' ⟨rfl, hw⟩; replace hw := hw.symm; subst hw; first | rw [hg] | rw [hv])
        go_ret
        exact ⟨ret_bool (by rw [unhide HX, hg, hv]; rfl), unhide HB⟩

end Go.Proofs.YtkndabnngdjcgaaDoor

/- More moves of RgS: guarded operations. -/
namespace Go.Proofs.YtkndabnngdjcgaaDoor
open Go.RowKit
set_option linter.unusedVariables false

section
variable {P : Program} {Q : Exit → Act → World → Prop} {S S' : World → Prop} {C : Act → World → Prop} {l : List Oper} {hl : List Nat}
theorem ordG_val {i : Nat} {o : Oper} {r : List (Nat × Nat)} {a : Act} {w : World} (v : Value) (ho : l[i]? = some o) (hg : Region.wanted o (yielded l.toArray a.tmps) = true) (hv : ∀ w', (execOp a.eval o).run P w' = .ok (.value v) w') (h : wpOrd P l Q S C r (a.put o.dst v) w) : wpOrd P l Q S C ((i, 4) :: r) a w := by
  intro o2 ho2
  rw [ho] at ho2
  cases ho2
  exact ⟨hg, v, hv, h⟩
theorem ordG_alone {i : Nat} {o : Oper} {r : List (Nat × Nat)} {a : Act} {w : World} (ho : l[i]? = some o) (hg : Region.wanted o (yielded l.toArray a.tmps) = true) (h : ∀ K : Act → World → Prop, (∀ a' w', wpOrd P l Q S C r a' w' → K a' w') → o.wp P a w K Q) : wpOrd P l Q S C ((i, 3) :: r) a w := by
  intro o2 ho2
  rw [ho] at ho2
  cases ho2
  exact ⟨hg, h _ (fun a' w' h2 => h2)⟩
end

end Go.Proofs.YtkndabnngdjcgaaDoor

/- Contract of the program's ReqOK. -/
namespace Go.Proofs.YtkndabnngdjcgaaDoor
open Go.RowKit
set_option linter.unusedVariables false
set_option maxRecDepth 100000

set_option maxHeartbeats 3200000 in
theorem reqOK_impl (q : Rq) (w : World) (hz : q.n.size ≤ maxLen) : Calls Tryd.prog 42 #[qV q] w fun e w' => e = .returned (.bool (rqB q)) ∧ Below w.heap.size w w' := by
  have HA := hide (Joins.below_alloc1 w (.cells #[.int .i64 q.k, .int .i64 q.g, .int .i64 q.v, .string q.n] 27))
  have HV := hide (VarM.new w 27 (.int .i64 q.k) (.int .i64 q.g) (.int .i64 q.v) (.string q.n))
  obtain ⟨R, HR⟩ : ∃ R, Hid (rqB q = R) := ⟨_, hide rfl⟩
  have HPL := hide (rq_plain q)
  rw [unhide HR] at HPL ⊢
  unfold maxLen at hz
  go_enter Tryd.func42, Tryd.ntmps42
  go_upto_region 1 with fail
  revert HA HV
  generalize (w.alloc _) = W0
  intro HA HV
  obtain ⟨c0, c1, c2, c3⟩ := (unhide HV).cells
  cases hs : decide (q.n.size ≤ 65536)
  · have hd : decide ((q.n.size : Int) ≤ 65536) = false := by rw [← hs]; congr 1; simp; omega
    have HF : Hid (R = false) := hide (by have := unhide HPL; rw [hs] at this; exact this.symm)
    clear hs
    go_quiet (fail)
    generalize hW : (World.drewN _ _) = W1
    have HB : Hid (Below w.heap.size w W1) := hide (by rw [← hW]; exact (unhide HA).trans (Joins.below_draws _ _ _))
    clear hW
    go_wp2
    go_ret
    exact ⟨ret_bool (unhide HF).symm, unhide HB⟩
  · have hd : decide ((q.n.size : Int) ≤ 65536) = true := by rw [← hs]; congr 1; simp; omega
    have HF : Hid (R = eqR (plR q) q) := hide (by have := unhide HPL; rw [hs] at this; simpa using this.symm)
    have heq := eqR_run (plR q) q
    clear hs c0 c1 c2 c3
    have hS0 : VarR W0.drew w.heap.size q := (unhide HV).below (Below.refl _ _).drew
    refine wp_region_ord (fun w' => VarR w' w.heap.size q) [0, 1, 2, 3, 4, 5, 8, 6, 7, 9, 10, 11] [(0, 0), (1, 0), (2, 0), (3, 0), (4, 0), (5, 0), (8, 0), (6, 2), (7, 2), (9, 0), (10, 0), (11, 0)] (by kernel_rfl) (by kernel_rfl) rfl (by kernel_rfl) ?_
    refine ord_read (.pointer (some ⟨w.heap.size, 3, none⟩)) rfl rfl hS0 (fun W hW => by go_simp) ?_
    refine ord_read (.string q.n) rfl rfl hS0 (fun W hW => by obtain ⟨k0, k1, k2, k3⟩ := hW.cells; go_simp) ?_
    refine ord_read (.int .i64 q.n.size) rfl rfl hS0 (fun W hW => by go_simp) ?_
    refine ord_read (.bool true) rfl rfl hS0 (fun W hW => by go_simp) ?_
    refine ord_read (.bool true) rfl rfl hS0 (fun W hW => by go_simp) ?_
    refine ordG_read (qV q) rfl rfl hS0 (fun W hW => by obtain ⟨k0, k1, k2, k3⟩ := hW.cells; go_simp) ?_
    refine ordG_read (qV q) rfl rfl hS0 (fun W hW => by obtain ⟨k0, k1, k2, k3⟩ := hW.cells; go_simp) ?_
    refine ordG_held rfl rfl ?_
    intro K hK
    unfold Oper.wp
    go_simp
    refine (useOf_any q _).mono ?_
    rintro e w1 ⟨rfl, hb⟩
    have HB1 := hide (fr (fr (unhide HA) (Below.refl _ _).drew) hb)
    have HS1 := hide (hS0.below hb)
    clear hb
    refine hK _ _ (unhide HS1) ?_
    clear hK K hS0
    refine ordG_held rfl rfl ?_
    intro K hK
    unfold Oper.wp
    go_simp
    refine (plainReq_any q _).mono ?_
    rintro e w2 ⟨rfl, hb⟩
    have HB2 := hide (fr (unhide HB1) hb)
    have hS2 := (unhide HS1).below hb
    clear hb
    refine hK _ _ hS2 ?_
    clear hK K
    refine ordG_read (.bool (eqR (plR q) q)) rfl rfl hS2 (fun W hW => by have := heq W; go_simp) ?_
    refine ord_read (.bool (eqR (plR q) q)) rfl rfl hS2 (fun W hW => by go_simp) ?_
    refine ord_read (.bool (eqR (plR q) q)) rfl rfl hS2 (fun W hW => by go_simp) ?_
    refine ord_done ?_
    generalize eqR (plR q) q = E at *
    go_wp2
    go_ret
    exact ⟨ret_bool (unhide HF).symm, unhide HB2⟩

end Go.Proofs.YtkndabnngdjcgaaDoor

/- Contract of the program's ReqText. -/
namespace Go.Proofs.YtkndabnngdjcgaaDoor
open Go.RowKit
set_option linter.unusedVariables false
set_option maxRecDepth 100000

theorem rt_ct {q : Rq} (h : rqB q = true) : ctQ q = (numB q.g && (numB q.v && (!inB q.k 5 7 || snmB q.n))) := by
  have hk := (rqB_kind h).1
  have hu : useB q = true := by simp only [rqB, Bool.and_eq_true] at h; exact h.2
  obtain ⟨k, g, v, n⟩ := q
  simp only at hk
  rcases (show k = 1 ∨ k = 2 ∨ k = 3 ∨ k = 4 ∨ k = 5 ∨ k = 6 ∨ k = 7 ∨ k = 8 by omega) with rfl | rfl | rfl | rfl | rfl | rfl | rfl | rfl <;> simp [useB] at hu <;> simp [ctQ, plR, inB, hu] <;> simp [numB, inB]

set_option maxHeartbeats 6400000 in
theorem reqText_impl (q : Rq) (w : World) (hz : q.n.size ≤ maxLen) (hd : DoorT w) :
    Calls Tryd.prog 12 #[qV q] w fun e w' => e = .returned (.tuple #[.string (rtA q).1, .int .i64 (rtA q).2]) ∧ Below w.heap.size w w' := by
  have HB0 := hide (Joins.below_alloc1 w (.cells #[.int .i64 q.k, .int .i64 q.g, .int .i64 q.v, .string q.n] 27))
  have HV0 : Hid (VarR (w.alloc (.cells #[.int .i64 q.k, .int .i64 q.g, .int .i64 q.v, .string q.n] 27)) w.heap.size q) := hide (VarM.new w 27 _ _ _ _)
  have HD0 := hide (hd.below (unhide HB0))
  have HZ := hide hz
  obtain ⟨R, HR⟩ : ∃ R, Hid (R = rtA q) := ⟨_, hide rfl⟩
  rw [← unhide HR]
  clear hz hd
  go_enter Tryd.func12, Tryd.ntmps12
  go_upto_region 1 with fail
  revert HB0 HV0 HD0
  generalize (w.alloc _) = W0
  intro HB0 HV0 HD0
  obtain ⟨k0, k1, k2, k3⟩ := (unhide HV0).cells
  go_wp2_with fail
  refine (reqOK_impl q _ (unhide HZ)).mono ?_
  rintro e w1 ⟨rfl, hb⟩
  have HB1 := hide (fr (unhide HB0) hb)
  have HV1 := hide ((unhide HV0).below hb)
  have HD1 := hide ((unhide HD0).below hb)
  clear hb HB0 HV0 HD0 k0 k1 k2 k3
  obtain ⟨k0, k1, k2, k3⟩ := (unhide HV1).cells
  cases h1 : rqB q
  · have HF : Hid (R = (⟨#[]⟩, 1)) := hide ((unhide HR).trans (if_neg (by rw [rtB, h1]; simp)))
    clear h1
    go_wp2
    go_ret2
    exact ⟨ret_rt (unhide HF), unhide HB1⟩
  have HK := hide (rqB_kind h1)
  have HCT := hide (rt_ct h1)
  have HR1 : Hid (R = if ctQ q = true then (rtS q, 0) else (⟨#[]⟩, 1)) := hide (by rw [unhide HR, rtA, rtB, h1, unhide HCT]; rfl)
  clear h1 HR
  go_wp2_with fail
  refine (useOf_any q _).mono ?_
  rintro e w2 ⟨rfl, hb⟩
  have HB2 := hide (fr (unhide HB1) hb)
  have HV2 := hide ((unhide HV1).below hb)
  have HD2 := hide ((unhide HD1).below hb)
  clear hb HB1 HV1 HD1 k0 k1 k2 k3
  have HUS := hide (fun W => canBeTold_any q W (unhide HZ))
  have HUO := hide (fun W => useOf_any q W)
  have HTX : Hid (ctQ q = true → ∀ W, DoorT W → Calls Tryd.prog 45 #[usV q] W fun e w' => e = .returned (.string (rtS q)) ∧ Below W.heap.size W w') := hide (fun h W hW => by
    rw [unhide HCT] at h
    simp only [Bool.and_eq_true] at h
    exact textOf_any q W hW (unhide HK).1 (numB_in h.1) (numB_in h.2.1) (unhide HK).2)
  revert HUS HUO HTX
  generalize usV q = US
  intro HUS HUO HTX
  go_wp2_with fail
  refine (unhide HUS _).mono ?_
  rintro e w3 ⟨rfl, hb⟩
  have HB3 := hide (fr (unhide HB2) hb)
  have HV3 := hide ((unhide HV2).below hb)
  have HD3 := hide ((unhide HD2).below hb)
  clear hb HB2 HV2 HD2
  obtain ⟨k0, k1, k2, k3⟩ := (unhide HV3).cells
  cases h2 : ctQ q
  · have HF : Hid (R = (⟨#[]⟩, 1)) := hide ((unhide HR1).trans (if_neg (by rw [h2]; decide)))
    clear h2
    go_wp2
    go_ret2
    exact ⟨ret_rt (unhide HF), unhide HB3⟩
  have HF : Hid (R = (rtS q, 0)) := hide ((unhide HR1).trans (if_pos h2))
  have HTX2 := hide (unhide HTX h2)
  clear h2 HR1 HTX HCT
  revert HF HTX2
  generalize rtS q = T
  intro HF HTX2
  go_wp2_with fail
  refine (unhide HUO _).mono ?_
  rintro e w4 ⟨rfl, hb⟩
  have HB4 := hide (fr (unhide HB3) hb)
  have HD4 := hide ((unhide HD3).below hb)
  clear hb HB3 HD3 HV3 k0 k1 k2 k3
  go_wp2_with fail
  refine (unhide HTX2 _ (unhide HD4)).mono ?_
  rintro e w5 ⟨rfl, hb⟩
  have HB5 := hide (fr (unhide HB4) hb)
  clear hb
  go_wp2
  go_ret2
  exact ⟨ret_rt (unhide HF), unhide HB5⟩

end Go.Proofs.YtkndabnngdjcgaaDoor

/- Contracts of the laws' own copies of requests: toReq, szReq, eqReq. -/
namespace Go.Proofs.YtkndabnngdjcgaaDoor
open Go.RowKit
set_option linter.unusedVariables false
set_option maxRecDepth 100000

set_option maxHeartbeats 1600000 in
theorem toReq_any (q : Rq) (w : World) : Calls Tryd.prog 11 #[qV q] w fun e w' => e = .returned (qV q) ∧ Below w.heap.size w w' := by
  go_enter Tryd.func11, Tryd.ntmps11
  go_wp2
  exact bodyPost_ret (v := qV q) (by simp [results, Tryd.results11, go_sem]) rfl ⟨rfl, fr (Joins.below_alloc2 _ _ _) (Joins.below_alloc1 _ _)⟩

set_option maxHeartbeats 1600000 in
theorem eqReq_same (q : Rq) (w : World) : Calls Tryd.prog 15 #[qV q, qV q] w fun e w' => e = .returned (.bool true) ∧ Below w.heap.size w w' := by
  go_enter Tryd.func15, Tryd.ntmps15
  go_wp2
  go_ret
  exact ⟨rfl, Joins.below_alloc2 _ _ _⟩

set_option maxHeartbeats 1600000 in
theorem szReq_any (q : Rq) (left : Int) (w : World) (hz : q.n.size ≤ maxLen) (h0 : 0 ≤ left) (h1 : left ≤ 1048576) :
    Calls Tryd.prog 9 #[qV q, .int .i64 left] w fun e w' => ∃ r : Int, e = .returned (.int .i64 r) ∧ -1 ≤ r ∧ r ≤ left ∧ (0 ≤ r → (q.n.size : Int) ≤ left) ∧ Below w.heap.size w w' := by
  unfold maxLen at hz
  have wr1 : IntKind.i64.wrap (left - (q.n.size : Int)) = left - (q.n.size : Int) := by rw [IntKind.wrap_i64]; omega
  by_cases h : left - (q.n.size : Int) < 0
  · go_enter Tryd.func9, Tryd.ntmps9
    go_wp2
    go_ret
    exact ⟨-1, rfl, by omega, by omega, by omega, Joins.below_alloc1 _ _⟩
  · go_enter Tryd.func9, Tryd.ntmps9
    go_wp2
    go_ret
    exact ⟨_, rfl, by omega, by omega, by omega, Joins.below_alloc1 _ _⟩

end Go.Proofs.YtkndabnngdjcgaaDoor

/- The walk of laws.FnExactReqText. -/
namespace Go.Proofs.YtkndabnngdjcgaaDoor
open Go.RowKit
set_option linter.unusedVariables false
set_option maxRecDepth 100000

set_option maxHeartbeats 3200000 in
theorem lawReqText (q : Rq) (w : World) (hz : q.n.size ≤ maxLen) (hd : DoorT w) :
    Calls Tryd.prog 3 #[qV q] w fun e w' => e = .returned (.bool true) ∧ Below w.heap.size w w' := by
  have HA := hide (Joins.below_alloc1 w (.cells #[.int .i64 q.k, .int .i64 q.g, .int .i64 q.v, .string q.n] 23))
  have HV := hide (VarM.new w 23 (.int .i64 q.k) (.int .i64 q.g) (.int .i64 q.v) (.string q.n))
  have HDW := hide hd
  have HSP := hide (fun W => reqText_spec q W hz)
  have HIM := hide (fun W hW => reqText_impl q W hz hW)
  revert HSP HIM
  generalize rtA q = R
  obtain ⟨T, C⟩ := R
  intro HSP HIM
  simp only at HSP HIM
  clear hd
  have bT : (T.toList != T.toList) = false := by simp
  have bC : (C != C) = false := by simp
  go_enter Tryd.func3, Tryd.ntmps3
  go_upto_region 2 with fail
  revert HA HV
  generalize (w.alloc _) = W0
  intro HA HV
  obtain ⟨c0, c1, c2, c3⟩ := (unhide HV).cells
  go_wp2_with fail
  refine (szReq_any q 1048576 _ hz (by omega) (by omega)).mono ?_
  rintro e w1 ⟨r, rfl, hr0, hr1, _, hb⟩
  have HV1 := hide ((unhide HV).below hb)
  have HB1 := hide (fr (unhide HA) hb)
  clear hb c0 c1 c2 c3 HA HV
  by_cases hr : r < 0
  · go_wp2
    go_ret
    exact ⟨rfl, unhide HB1⟩
  obtain ⟨c0, c1, c2, c3⟩ := (unhide HV1).cells
  go_wp2_with fail
  refine (toReq_any q _).mono ?_
  rintro e w2 ⟨rfl, hb⟩
  have HV2 := hide ((unhide HV1).below hb)
  have HB2 := hide (fr (unhide HB1) hb)
  clear hb c0 c1 c2 c3 HB1 HV1
  go_wp2_with fail
  refine (unhide HSP _).mono ?_
  rintro e w3 ⟨rfl, hb⟩
  have HV3 := hide ((unhide HV2).below hb)
  have HB3 := hide (fr (unhide HB2) hb)
  clear hb HB2 HV2
  obtain ⟨c0, c1, c2, c3⟩ := (unhide HV3).cells
  go_wp2_with fail
  refine (toReq_any q _).mono ?_
  rintro e w4 ⟨rfl, hb⟩
  have HB4 := hide (fr (unhide HB3) hb)
  clear hb c0 c1 c2 c3 HB3 HV3
  go_wp2_with fail
  refine (unhide HIM _ ((unhide HDW).below (unhide HB4))).mono ?_
  rintro e w5 ⟨rfl, hb⟩
  have HB5 := hide (fr (unhide HB4) hb)
  clear hb
  go_wp2
  go_ret
  exact ⟨rfl, unhide HB5⟩

end Go.Proofs.YtkndabnngdjcgaaDoor

/- Two closed facts of this seat's program. -/
namespace Go.Proofs.YtkndabnngdjcgaaDoor
theorem own : ownKnob Tryd.prog.godebug = none := by kernel_rfl
theorem laidOut : laidOutB Tryd.prog = true := by kernel_rfl
end Go.Proofs.YtkndabnngdjcgaaDoor

/- A request that came in, opened. -/
namespace Go.Proofs.YtkndabnngdjcgaaDoor
open Go.ChangeShapes Go.WideShapes Go.ChangeAt Go.RowKit Go.Deep
set_option linter.unusedVariables false
set_option maxRecDepth 100000
theorem open_req {H : Type} {enc : TypeId × Value → H} {w : World} {base b0 : Nat} {r : Reach} {spare : Nat → Bool} {held : Bool} {v : Value} {d : DataW H} {p : List MemPlace}
    (hv : Value.okWide Tryd.prog w r b0 23 v) (h : DataW.Trod enc Tryd.prog w base spare held 23 v d p) : ∃ q : Rq, v = qV q ∧ q.n.size ≤ maxLen := by
  obtain ⟨c0, c1, c2, c3, y0, y1, y2, y3, n, rfl, _, _, t0, t1, t2, t3⟩ := Joins.open_agg4 Tryd.underlying23 (by kernel_rfl) (by kernel_rfl) hv h
  obtain ⟨z0, q0, _⟩ := DataW.trod_int Tryd.underlying3 t0
  obtain ⟨z1, q1, _⟩ := DataW.trod_int Tryd.underlying3 t1
  obtain ⟨z2, q2, _⟩ := DataW.trod_int Tryd.underlying3 t2
  obtain ⟨z3, q3, _, hz⟩ := DataW.trod_string Tryd.underlying9 t3
  simp only [List.cons.injEq, and_true] at q0 q1 q2 q3
  subst q0 q1 q2 q3
  exact ⟨⟨z0, z1, z2, z3⟩, rfl, hz⟩

end Go.Proofs.YtkndabnngdjcgaaDoor
