/- Contracts of the functions on single keys (cmp.Compare at int64, compareKeys, KeyAhead of the program and of the model), with no condition. -/
import Derived.Test.YtapmgbnhobpahaaGreatDoorRows
import Derived.WalkKit
import Derived.WalkSpells
import Derived.WalkLawsBesides
import Derived.Deep.QuietTactic
import Derived.BigQuiet
import Derived.Lib.ItoaNum
import Derived.Laws.IdiomStrings
import Derived.Laws.Concat
import Derived.Shelf.Strconv.Itoa4
import Derived.Shelf.Small.Wraps
import Derived.Maps.AppendAt
import Derived.RangeFuncBox
import Derived.Lib.Strings
import Derived.Below
import Derived.Lib.LaidTab
import Derived.Maps.Range
import Derived.Maps.RangeWalk
import Derived.Deep.AppendLies
import Derived.Deep.RegionHeld3
namespace Go.Proofs.YtapmgbnhobpahaaGreatDoor
open Go.RowKit

/-- Behind a call that makes memory alone: all old cells, all old marks read as before. -/
theorem bcell {W w1 : World} (hb : Below W.heap.size W w1) : (∀ b o, b < W.heap.size → w1.cell? ⟨b, o, none⟩ = W.cell? ⟨b, o, none⟩) ∧ (∀ b o, b < W.heap.size → w1.frozen? ⟨b, o, none⟩ = W.frozen? ⟨b, o, none⟩) :=
  ⟨fun b o h => hb.cell (p := ⟨b, o, none⟩) h, fun b o h => hb.frozen (p := ⟨b, o, none⟩) h⟩

def cmpI (x y : Int) : Int := if x < y then -1 else if y < x then 1 else 0
theorem cmpI_lt {x y : Int} (h : x < y) : cmpI x y = -1 := by simp [cmpI, h]
theorem cmpI_gt {x y : Int} (h : y < x) : cmpI x y = 1 := by unfold cmpI; rw [if_neg (by omega), if_pos h]
theorem cmpI_eq {x y : Int} (h : x = y) : cmpI x y = 0 := by unfold cmpI; rw [if_neg (by omega), if_neg (by omega)]

/-- A key as a value. -/
abbrev kv (n v : Int) : Value := .agg #[.int .i64 n, .int .i64 v]
abbrev kb (n v : Int) : Obj := .cells #[.int .i64 n, .int .i64 v] 54
def cmpK (a0 a1 b0 b1 : Int) : Int := if a0 = b0 then cmpI a1 b1 else cmpI a0 b0
def aheadB (a0 a1 b0 b1 : Int) : Bool := decide (a0 < b0 ∨ a0 = b0 ∧ a1 < b1)
theorem cmpK_neg (a0 a1 b0 b1 : Int) : decide (cmpK a0 a1 b0 b1 < 0) = aheadB a0 a1 b0 b1 := by
  unfold cmpK aheadB cmpI
  rw [decide_eq_decide]
  by_cases h : a0 = b0
  · rw [if_pos h]
    by_cases h1 : a1 < b1
    · rw [if_pos h1]; omega
    · rw [if_neg h1]
      by_cases h2 : b1 < a1
      · rw [if_pos h2]; omega
      · rw [if_neg h2]; omega
  · rw [if_neg h]
    by_cases h1 : a0 < b0
    · rw [if_pos h1]; omega
    · rw [if_neg h1]
      by_cases h2 : b0 < a0
      · rw [if_pos h2]; omega
      · rw [if_neg h2]; omega

end Go.Proofs.YtapmgbnhobpahaaGreatDoor
/- A number in decimal, as the model writes it: for every number from 0 on it is the list of its digits; nothing that was there turns. -/
namespace Go.Proofs.YtapmgbnhobpahaaGreatDoor
open Go.RowKit
namespace Tx

theorem dec_len : ∀ (k u : Nat), u < 10 ^ (k + 1) → (Lib.decDigits u).length ≤ k + 1
  | 0, u, h => by rw [Lib.decDigits_one (by omega)]; simp
  | k + 1, u, h => by
    by_cases h1 : u < 10
    · rw [Lib.decDigits_one h1]; simp
    · rw [Lib.decDigits, dif_neg h1]
      have := dec_len k (u / 10) (by rw [Nat.pow_succ] at h; omega)
      simp only [List.length_append, List.length_cons, List.length_nil]
      omega
theorem dec_len19 {u : Nat} (h : u ≤ 9223372036854775807) : (Lib.decDigits u).length ≤ 19 := dec_len 18 u (by omega)

theorem conv1 (w : World) (x : Int) (src dst e : TypeId) (c : Nat) (g : Nat) (hg : g = w.heap.size) (hs : Tryz.prog.underlying src = some (.slice e)) (he : Tryz.prog.underlying e = some (.int .u8)) (hd : Tryz.prog.underlying dst = some .string) :
    (convert src dst (.slice (some ⟨g, 0, none⟩) 1 c)).run Tryz.prog (w.alloc (.cells #[.int .u8 x] e)) = .ok (.string ⟨#[UInt8.ofNat x.toNat]⟩) (w.alloc (.cells #[.int .u8 x] e)) := by
  subst hg
  rw [run_convert_bytes_string _ src dst e _ 1 c hs he hd]
  have hl := run_loadCells_list (P := Tryz.prog) (w.alloc (.cells #[.int .u8 x] e)) ⟨w.heap.size, 0, none⟩ [.int .u8 x] (fun j v hj => by
    match j, hj with
    | 0, hj => simp at hj; subst hj; simp [Addr.add]
    | j + 1, hj => simp at hj)
  exact run_bytesToString _ _ 1 c [x] hl

set_option maxRecDepth 100000 in
theorem l1Dec_any (n : Nat) (hn : n ≤ 9223372036854775807) (w : World) :
    Calls Tryz.prog 33 #[.int .i64 n] w fun e w' => e = .returned (.string ⟨(Lib.decDigits n).toArray⟩) ∧ Below w.heap.size w w' := by
  have HL := dec_len19 hn
  go_enter Tryz.func33, Tryz.ntmps33
  go_wp2
  go_loopw [0, 3] (fun vi vs wr => ∃ (m : Nat) (t : List UInt8), m ≤ n ∧ vi = .int .i64 (m : Int) ∧ vs = .string ⟨t.toArray⟩ ∧ Hid (Lib.decDigits m ++ t = Lib.decDigits n) ∧ Below w.heap.size w wr) (fun vi _ _ => (intOf vi).toNat)
  case atStart => exact ⟨n, [], Nat.le_refl _, rfl, rfl, (show Lib.decDigits n ++ [] = Lib.decDigits n by simp), Below.refl _ _⟩
  case round =>
    obtain ⟨m, t, hm, rfl, rfl, ht, hB⟩ := hrel
    have hlt : t.length ≤ 19 := by
      have := congrArg List.length ht.out
      simp only [List.length_append] at this
      omega
    have hsz := hB.size
    by_cases h : (m : Int) < 10
    · have HM : Hid (m < 10) := by show m < 10; omega
      have hc := conv1 wr (48 + (m : Int)) 22 9 5 1 _ rfl Tryz.underlying22 Tryz.underlying5 Tryz.underlying9
      have ha := run_string_add_lists (P := Tryz.prog) (wr.alloc (.cells #[.int .u8 (48 + (m : Int))] 5)) [UInt8.ofNat (48 + (m : Int)).toNat] t (by simp) (by omega)
      go_wp2
      go_ret
      refine ⟨?_, hB.alloc hsz _⟩
      rw [← ht.out, Lib.decDigits_one HM.out]
      simp [ByteArray.mk_append_mk, UInt8.ofNat_add]
    · have HM : Hid (¬ m < 10) := by show ¬ m < 10; omega
      have hc := conv1 wr (48 + (m : Int) % 10) 22 9 5 1 _ rfl Tryz.underlying22 Tryz.underlying5 Tryz.underlying9
      have ha := run_string_add_lists (P := Tryz.prog) (wr.alloc (.cells #[.int .u8 (48 + (m : Int) % 10)] 5)) [UInt8.ofNat (48 + (m : Int) % 10).toNat] t (by simp) (by omega)
      go_wp2
      go_roundw
      case rel =>
        refine ⟨m / 10, _, by omega, by go_num, rfl, ?_, hB.alloc hsz _⟩
        show Lib.decDigits (m / 10) ++ ([48 + UInt8.ofNat (m % 10)] ++ t) = Lib.decDigits n
        rw [← ht.out, show Lib.decDigits m = Lib.decDigits (m / 10) ++ [UInt8.ofNat (48 + m % 10)] by rw [Lib.decDigits, dif_neg HM.out]]
        simp [UInt8.ofNat_add]
      case measure => simp [intOf]; omega
end Tx
end Go.Proofs.YtapmgbnhobpahaaGreatDoor
/- strconv.FormatInt at base 10, strings.CutPrefix, as the library proves them, at this program. -/
namespace Go.Proofs.YtapmgbnhobpahaaGreatDoor
open Go.Shelf Go.RowKit
def Tryz.fmtInt_ren : Go.Shelf.Ren := ⟨fun | 173 => 43 | 246 => 62 | 283 => 73 | 284 => 74 | 285 => 75 | 286 => 76 | 129 => 89 | 317 => 88 | 318 => 90 | 319 => 91 | 320 => 92 | 337 => 99 | 338 => 100 | n => n, fun | 2 => 2 | 3 => 3 | 9 => 9 | 4 => 4 | 171 => 120 | 0 => 0 | 53 => 99 | 37 => 22 | 5 => 5 | 173 => 123 | 212 => 137 | 51 => 138 | 20 => 20 | 213 => 139 | 46 => 101 | 232 => 147 | 233 => 148 | n => n, fun | 17 => 2 | 18 => 4 | 19 => 5 | n => n⟩
theorem Tryz.fmtInt : Go.Proofs.LaysM.n173 Tryz.prog Tryz.fmtInt_ren := {
  mixed := by kernel_rfl
  f129 := Tryz.func89.trans (congrArg some (by kernel_rfl))
  f173 := Tryz.func43.trans (congrArg some (by kernel_rfl))
  f246 := Tryz.func62.trans (congrArg some (by kernel_rfl))
  f283 := Tryz.func73.trans (congrArg some (by kernel_rfl))
  f284 := Tryz.func74.trans (congrArg some (by kernel_rfl))
  f285 := Tryz.func75.trans (congrArg some (by kernel_rfl))
  f286 := Tryz.func76.trans (congrArg some (by kernel_rfl))
  f317 := Tryz.func88.trans (congrArg some (by kernel_rfl))
  f318 := Tryz.func90.trans (congrArg some (by kernel_rfl))
  f319 := Tryz.func91.trans (congrArg some (by kernel_rfl))
  f320 := Tryz.func92.trans (congrArg some (by kernel_rfl))
  f337 := Tryz.func99.trans (congrArg some (by kernel_rfl))
  f338 := Tryz.func100.trans (congrArg some (by kernel_rfl))
  t0 := Tryz.underlying0
  a0 := Tryz.isAgg0
  z0 := Tryz.sizeOf0
  v0 := Tryz.zeroValue0
  t2 := Tryz.underlying2
  a2 := Tryz.isAgg2
  z2 := Tryz.sizeOf2
  v2 := Tryz.zeroValue2
  t3 := Tryz.underlying3
  a3 := Tryz.isAgg3
  z3 := Tryz.sizeOf3
  v3 := Tryz.zeroValue3
  t4 := Tryz.underlying4
  a4 := Tryz.isAgg4
  z4 := Tryz.sizeOf4
  v4 := Tryz.zeroValue4
  t5 := Tryz.underlying5
  a5 := Tryz.isAgg5
  z5 := Tryz.sizeOf5
  v5 := Tryz.zeroValue5
  t9 := Tryz.underlying9
  a9 := Tryz.isAgg9
  z9 := Tryz.sizeOf9
  v9 := Tryz.zeroValue9
  t20 := Tryz.underlying20
  a20 := Tryz.isAgg20
  z20 := Tryz.sizeOf20
  v20 := Tryz.zeroValue20
  t37 := Tryz.underlying22
  a37 := Tryz.isAgg22
  z37 := Tryz.sizeOf22
  v37 := Tryz.zeroValue22
  t46 := Tryz.underlying101
  a46 := Tryz.isAgg101
  z46 := Tryz.sizeOf101
  v46 := Tryz.zeroValue101
  t51 := Tryz.underlying138
  a51 := Tryz.isAgg138
  z51 := Tryz.sizeOf138
  v51 := Tryz.zeroValue138
  t53 := Tryz.underlying99
  a53 := Tryz.isAgg99
  z53 := Tryz.sizeOf99
  v53 := Tryz.zeroValue99
  t171 := Tryz.underlying120
  a171 := Tryz.isAgg120
  z171 := Tryz.sizeOf120
  v171 := Tryz.zeroValue120
  t173 := Tryz.underlying123
  a173 := Tryz.isAgg123
  z173 := Tryz.sizeOf123
  v173 := Tryz.zeroValue123
  t212 := Tryz.underlying137
  a212 := Tryz.isAgg137
  z212 := Tryz.sizeOf137
  v212 := Tryz.zeroValue137
  t213 := Tryz.underlying139
  a213 := Tryz.isAgg139
  z213 := Tryz.sizeOf139
  t232 := Tryz.underlying147
  a232 := Tryz.isAgg147
  z232 := Tryz.sizeOf147
  v232 := Tryz.zeroValue147
  t233 := Tryz.underlying148
  a233 := Tryz.isAgg148
  z233 := Tryz.sizeOf148
  v233 := Tryz.zeroValue148
  g17 := by kernel_rfl
  g18 := by kernel_rfl
  g19 := by kernel_rfl
  i0 := by kernel_rfl
  i2 := by kernel_rfl
  i3 := by kernel_rfl
  i4 := by kernel_rfl
  i5 := by kernel_rfl
  i9 := by kernel_rfl
  i20 := by kernel_rfl
  i37 := by kernel_rfl
  i46 := by kernel_rfl
  i51 := by kernel_rfl
  i53 := by kernel_rfl
  i171 := by kernel_rfl
  i173 := by kernel_rfl
  i212 := by kernel_rfl
  i232 := by kernel_rfl
  i233 := by kernel_rfl
  m17 := by kernel_rfl
  m18 := by kernel_rfl
  m19 := by kernel_rfl }
theorem formatSmall (i : Nat) (hi : i < 100) (w : World) :
    Calls Tryz.prog 43 #[.int .i64 i, .int .i64 10] w fun e w' => e = .returned (.string ⟨(Lib.decDigits i).toArray⟩) ∧ w' = w := Any.strconv_FormatInt_10_small { Tryz.fmtInt with } i hi w
end Go.Proofs.YtapmgbnhobpahaaGreatDoor
/- Ops as texts: OpText of the model and of the program answer the same text at every op; nothing that was there turns. -/
namespace Go.Proofs.YtapmgbnhobpahaaGreatDoor
open Go.RowKit
namespace Tx

abbrev opb (k m : Int) : Obj := .cells #[.int .i64 k, .int .i64 m] 25
theorem hidT {p : Prop} (h : p) : Hid p := h
theorem oneB (w : World) (o : Obj) : Below w.heap.size w (w.alloc o) := (Below.refl _ _).alloc (Nat.le_refl _) _
/-- Is an op of a right form? -/
def formB (k m : Int) : Bool := if k = 1 ∨ k = 2 then decide (1 ≤ m) && decide (m ≤ 20) else decide (k = 3) && decide (m = 0)
/-- An op's text. -/
def opT (k m : Int) : List UInt8 := if k = 1 then [106, 111, 105, 110, 32] ++ Lib.decDigits m.toNat else if k = 2 then [108, 101, 97, 118, 101, 32] ++ Lib.decDigits m.toNat else [114, 101, 102, 114, 101, 115, 104]
def opText (k m : Int) : List UInt8 := if formB k m = true then opT k m else []

theorem l1In_any (a b c : Int) (w : World) :
    Calls Tryz.prog 57 #[.int .i64 a, .int .i64 b, .int .i64 c] w fun e w' => e = .returned (.bool (decide (b ≤ a) && decide (a ≤ c))) ∧ w' = w := by
  by_cases h : b ≤ a
  · go_enter Tryz.func57, Tryz.ntmps57
    go_wp2
    go_ret
    simp [h]
  · go_enter Tryz.func57, Tryz.ntmps57
    go_wp2
    go_ret
    simp; omega
theorem isMember_any (a : Int) (w : World) :
    Calls Tryz.prog 61 #[.int .i64 a] w fun e w' => e = .returned (.bool (decide (1 ≤ a) && decide (a ≤ 20))) ∧ w' = w := by
  by_cases h : 1 ≤ a
  · go_enter Tryz.func61, Tryz.ntmps61
    go_wp2
    go_ret
    simp [h]
  · go_enter Tryz.func61, Tryz.ntmps61
    go_wp2
    go_ret
    simp; omega

theorem decimal_small (i : Nat) (hi : i < 100) (w : World) :
    Calls Tryz.prog 23 #[.int .i64 i] w fun e w' => e = .returned (.string ⟨(Lib.decDigits i).toArray⟩) ∧ w' = w := by
  go_enter Tryz.func23, Tryz.ntmps23
  go_wp2_with (go_at_call 43; refine (formatSmall i hi _).mono ?_; rintro e w' ⟨rfl, rfl⟩)
  go_ret
  exact ⟨rfl, rfl⟩

set_option maxRecDepth 100000 in
theorem l3Form_any (k m : Int) (w : World) :
    Calls Tryz.prog 32 #[kv k m] w fun e w' => e = .returned (.bool (formB k m)) ∧ Below w.heap.size w w' := by
  by_cases h1 : k = 1
  · have h1' : (k == 1) = true := by simpa using h1
    have HF := hidT (show formB k m = (decide (1 ≤ m) && decide (m ≤ 20)) by simp [formB, h1])
    go_enter Tryz.func32, Tryz.ntmps32
    go_wp2_with (go_at_call 57; refine (l1In_any _ _ _ _).mono ?_; rintro e w' ⟨rfl, rfl⟩)
    go_ret
    exact ⟨by rw [HF.out]; rfl, oneB _ _⟩
  have h1' : (k == 1) = false := by simpa using h1
  by_cases h2 : k = 2
  · have h2' : (k == 2) = true := by simpa using h2
    have HF := hidT (show formB k m = (decide (1 ≤ m) && decide (m ≤ 20)) by simp [formB, h2])
    go_enter Tryz.func32, Tryz.ntmps32
    go_wp2_with (go_at_call 57; refine (l1In_any _ _ _ _).mono ?_; rintro e w' ⟨rfl, rfl⟩)
    go_ret
    exact ⟨by rw [HF.out]; rfl, oneB _ _⟩
  have h2' : (k == 2) = false := by simpa using h2
  have HF := hidT (show formB k m = (decide (k = 3) && decide (m = 0)) by simp [formB, h1, h2])
  by_cases h3 : k = 3
  · have h3' : (k == 3) = true := by simpa using h3
    go_enter Tryz.func32, Tryz.ntmps32
    go_wp2
    go_ret
    exact ⟨by rw [HF.out]; by_cases h4 : m = 0 <;> simp [h3, h4], oneB _ _⟩
  have h3' : (k == 3) = false := by simpa using h3
  go_enter Tryz.func32, Tryz.ntmps32
  go_wp2
  go_ret
  exact ⟨by rw [HF.out]; simp [h3], oneB _ _⟩

set_option maxRecDepth 100000 in
theorem specOpText_any (k m : Int) (w : World) :
    Calls Tryz.prog 11 #[kv k m] w fun e w' => e = .returned (.string ⟨(opText k m).toArray⟩) ∧ Below w.heap.size w w' := by
  cases hF : formB k m with
  | false =>
    have HT := hidT (show opText k m = [] by simp [opText, hF])
    go_enter Tryz.func11, Tryz.ntmps11
    go_wp2_with fail
    refine (l3Form_any _ _ _).mono ?_
    rintro e w1 ⟨rfl, hb⟩
    rw [hF]
    have HB := hidT ((oneB _ _).trans (hb.mono (by simp)))
    clear hb
    go_wp2
    go_ret
    exact ⟨by rw [HT.out]; rfl, HB.out⟩
  | true =>
    by_cases h1 : k = 1
    · subst h1
      have hm : 1 ≤ m ∧ m ≤ 20 := by simpa [formB] using hF
      obtain ⟨n, rfl⟩ : ∃ n : Nat, m = (n : Int) := ⟨m.toNat, by omega⟩
      have HT := hidT (show opText 1 (n : Int) = [106, 111, 105, 110, 32] ++ Lib.decDigits n by simp [opText, hF, opT])
      have hl := dec_len19 (u := n) (by omega)
      have ha := fun w => run_string_add_lists (P := Tryz.prog) w [106, 111, 105, 110, 32] (Lib.decDigits n) (by simp) (by omega)
      go_enter Tryz.func11, Tryz.ntmps11
      go_wp2_with fail
      refine (l3Form_any _ _ _).mono ?_
      rintro e w1 ⟨rfl, hb⟩
      rw [hF]
      have hc0 : w1.cell? ⟨w.heap.size, 0, none⟩ = some (.int .i64 1) := ((bcell hb).1 _ 0 (by simp)).trans (by simp)
      have hc1 : w1.cell? ⟨w.heap.size, 1, none⟩ = some (.int .i64 (n : Int)) := ((bcell hb).1 _ 1 (by simp)).trans (by simp)
      have HB := hidT ((oneB _ _).trans (hb.mono (by simp)))
      clear hb
      go_wp2_with (go_at_call 33; refine (l1Dec_any n (by omega) _).mono ?_; rintro e w2 ⟨rfl, hb2⟩)
      go_ret
      exact ⟨by rw [HT.out]; rfl, HB.out.trans (hb2.mono HB.out.size)⟩
    by_cases h2 : k = 2
    · subst h2
      have hm : 1 ≤ m ∧ m ≤ 20 := by simpa [formB] using hF
      obtain ⟨n, rfl⟩ : ∃ n : Nat, m = (n : Int) := ⟨m.toNat, by omega⟩
      have HT := hidT (show opText 2 (n : Int) = [108, 101, 97, 118, 101, 32] ++ Lib.decDigits n by simp [opText, hF, opT])
      have hl := dec_len19 (u := n) (by omega)
      have ha := fun w => run_string_add_lists (P := Tryz.prog) w [108, 101, 97, 118, 101, 32] (Lib.decDigits n) (by simp) (by omega)
      go_enter Tryz.func11, Tryz.ntmps11
      go_wp2_with fail
      refine (l3Form_any _ _ _).mono ?_
      rintro e w1 ⟨rfl, hb⟩
      rw [hF]
      have hc0 : w1.cell? ⟨w.heap.size, 0, none⟩ = some (.int .i64 2) := ((bcell hb).1 _ 0 (by simp)).trans (by simp)
      have hc1 : w1.cell? ⟨w.heap.size, 1, none⟩ = some (.int .i64 (n : Int)) := ((bcell hb).1 _ 1 (by simp)).trans (by simp)
      have HB := hidT ((oneB _ _).trans (hb.mono (by simp)))
      clear hb
      go_wp2_with (go_at_call 33; refine (l1Dec_any n (by omega) _).mono ?_; rintro e w2 ⟨rfl, hb2⟩)
      go_ret
      exact ⟨by rw [HT.out]; rfl, HB.out.trans (hb2.mono HB.out.size)⟩
    have h3 : k = 3 ∧ m = 0 := by simpa [formB, h1, h2] using hF
    obtain ⟨rfl, rfl⟩ := h3
    have HT := hidT (show opText 3 0 = [114, 101, 102, 114, 101, 115, 104] by simp [opText, hF, opT])
    go_enter Tryz.func11, Tryz.ntmps11
    go_wp2_with fail
    refine (l3Form_any _ _ _).mono ?_
    rintro e w1 ⟨rfl, hb⟩
    rw [hF]
    have hc0 : w1.cell? ⟨w.heap.size, 0, none⟩ = some (.int .i64 3) := ((bcell hb).1 _ 0 (by simp)).trans (by simp)
    have HB := hidT ((oneB _ _).trans (hb.mono (by simp)))
    clear hb
    go_wp2
    go_ret
    exact ⟨by rw [HT.out]; rfl, HB.out⟩

theorem decimal_smallB (i : Nat) (hi : i < 100) (w : World) :
    Calls Tryz.prog 23 #[.int .i64 i] w fun e w' => e = .returned (.string ⟨(Lib.decDigits i).toArray⟩) ∧ Below w.heap.size w w' :=
  (decimal_small i hi w).mono fun _ _ ⟨h1, h2⟩ => ⟨h1, by rw [h2]; exact Below.refl _ _⟩
/-- What actOf answers for an error: none just where the op is of a right form. -/
def NilJust (b : Bool) (y : Value) : Prop := (b = true ∧ y = .nilIface) ∨ (b = false ∧ ∃ t v, y = .iface t v)
/-- The package's error errForm holds an error. -/
def HasForm (w : World) : Prop := ∃ t v, w.cell? ⟨0, 0, none⟩ = some (.iface t v)
theorem HasForm.since {w w' : World} (h : HasForm w) (hb : Below w.heap.size w w') : HasForm w' := by
  obtain ⟨t, v, h⟩ := h
  exact ⟨t, v, (hb.cell (p := ⟨0, 0, none⟩) (by
    rcases Nat.lt_or_ge 0 w.heap.size with h' | h'
    · exact h'
    · simp [World.cell?, Array.getElem?_eq_none h'] at h)).trans h⟩
theorem actOf_ends {k m : Int} {w : World} {x y : Value} (h : NilJust (formB k m) y) : ∃ x' y', Ending.returned (Value.tuple #[x, y]) = Ending.returned (.tuple #[x', y']) ∧ NilJust (formB k m) y' ∧ Below w.heap.size w (w.alloc (opb k m)) := ⟨x, y, rfl, h, oneB _ _⟩
set_option maxRecDepth 100000 in
theorem actOf_any (k m : Int) (w : World) (hE : HasForm w) :
    Calls Tryz.prog 42 #[kv k m] w fun e w' => ∃ x y, e = .returned (.tuple #[x, y]) ∧ NilJust (formB k m) y ∧ Below w.heap.size w w' := by
  have hE1 := hE.since (oneB w (opb k m))
  obtain ⟨te, ve, hE1⟩ := hE1
  have hE1 : (w.alloc (.cells #[.int .i64 k, .int .i64 m] 25)).cell? ⟨0, 0, none⟩ = some (.iface te ve) := hE1
  clear hE
  by_cases h1 : k = 1
  · subst h1
    by_cases hm : (1 ≤ m ∧ m ≤ 20)
    · have HN := hidT (show NilJust (formB 1 m) .nilIface from .inl ⟨by simp [formB, hm], rfl⟩)
      have hm1 := hm.1
      have hm2 := hm.2
      have hmm : (decide (1 ≤ m) && decide (m ≤ 20)) = true := by simp [hm]
      go_enter Tryz.func42, Tryz.ntmps42
      go_wp2_with (go_at_call 61; refine (isMember_any _ _).mono ?_; rintro e w' ⟨rfl, rfl⟩)
      go_ret2
      exact ⟨_, _, rfl, HN.out, oneB _ _⟩
    · have HN := hidT (show ∀ t v, NilJust (formB 1 m) (.iface t v) from fun t v => .inr ⟨by simp [formB]; omega, t, v, rfl⟩)
      have hmm : (decide (1 ≤ m) && decide (m ≤ 20)) = false := by simp; omega
      go_enter Tryz.func42, Tryz.ntmps42
      go_wp2_with (go_at_call 61; refine (isMember_any _ _).mono ?_; rintro e w' ⟨rfl, rfl⟩)
      go_quiet (fail)
      go_wp2
      go_ret2
      exact ⟨_, _, rfl, HN.out _ _, below_drewN (oneB _ _) _⟩
  have h1' : (k == 1) = false := by simpa using h1
  by_cases h2 : k = 2
  · subst h2
    by_cases hm : (1 ≤ m ∧ m ≤ 20)
    · have HN := hidT (show NilJust (formB 2 m) .nilIface from .inl ⟨by simp [formB, hm], rfl⟩)
      have hm1 := hm.1
      have hm2 := hm.2
      have hmm : (decide (1 ≤ m) && decide (m ≤ 20)) = true := by simp [hm]
      go_enter Tryz.func42, Tryz.ntmps42
      go_wp2_with (go_at_call 61; refine (isMember_any _ _).mono ?_; rintro e w' ⟨rfl, rfl⟩)
      go_ret2
      exact ⟨_, _, rfl, HN.out, oneB _ _⟩
    · have HN := hidT (show ∀ t v, NilJust (formB 2 m) (.iface t v) from fun t v => .inr ⟨by simp [formB]; omega, t, v, rfl⟩)
      have hmm : (decide (1 ≤ m) && decide (m ≤ 20)) = false := by simp; omega
      go_enter Tryz.func42, Tryz.ntmps42
      go_wp2_with (go_at_call 61; refine (isMember_any _ _).mono ?_; rintro e w' ⟨rfl, rfl⟩)
      go_quiet (fail)
      go_wp2
      go_ret2
      exact ⟨_, _, rfl, HN.out _ _, below_drewN (oneB _ _) _⟩
  have h2' : (k == 2) = false := by simpa using h2
  by_cases h3 : k = 3
  · subst h3
    by_cases hm : m = 0
    · have HN := hidT (show NilJust (formB 3 m) .nilIface from .inl ⟨by simp [formB, hm], rfl⟩)
      have hm' : (m == 0) = true := by simpa using hm
      go_enter Tryz.func42, Tryz.ntmps42
      go_wp2_with (go_at_call 61; refine (isMember_any _ _).mono ?_; rintro e w' ⟨rfl, rfl⟩)
      go_ret2
      exact ⟨_, _, rfl, HN.out, oneB _ _⟩
    · have HN := hidT (show ∀ t v, NilJust (formB 3 m) (.iface t v) from fun t v => .inr ⟨by simp [formB, hm], t, v, rfl⟩)
      have hm' : (m == 0) = false := by simpa using hm
      go_enter Tryz.func42, Tryz.ntmps42
      go_wp2_with (go_at_call 61; refine (isMember_any _ _).mono ?_; rintro e w' ⟨rfl, rfl⟩)
      go_quiet (fail)
      go_wp2
      go_ret2
      exact ⟨_, _, rfl, HN.out _ _, below_drewN (oneB _ _) _⟩
  have h3' : (k == 3) = false := by simpa using h3
  have HN := hidT (show ∀ t v, NilJust (formB k m) (.iface t v) from fun t v => .inr ⟨by simp [formB, h1, h2, h3], t, v, rfl⟩)
  go_enter Tryz.func42, Tryz.ntmps42
  go_wp2_with (go_at_call 61; refine (isMember_any _ _).mono ?_; rintro e w' ⟨rfl, rfl⟩)
  go_quiet (fail)
  go_wp2
  go_ret2
  exact ⟨_, _, rfl, HN.out _ _, below_drewN (oneB _ _) _⟩
theorem opOk_any (k m : Int) (w : World) (hE : HasForm w) :
    Calls Tryz.prog 22 #[kv k m] w fun e w' => e = .returned (.bool (formB k m)) ∧ Below w.heap.size w w' := by
  have hE1 := hidT (hE.since (oneB w (opb k m)))
  clear hE
  go_enter Tryz.func22, Tryz.ntmps22
  go_wp2_with fail
  refine (actOf_any _ _ _ hE1.out).mono ?_
  rintro e w1 ⟨x, y, rfl, hn, hb⟩
  have HB := hidT ((oneB _ _).trans (hb.mono (by simp)))
  clear hb hE1
  rcases hn with ⟨hF, rfl⟩ | ⟨hF, t, v, rfl⟩
  · go_wp2
    go_ret
    exact ⟨by rw [hF]; rfl, HB.out⟩
  · go_wp2
    go_ret
    exact ⟨by rw [hF]; rfl, HB.out⟩
end Tx
end Go.Proofs.YtapmgbnhobpahaaGreatDoor
/- The program's reader: what it takes off a text, byte for byte; where it gives up it panics. -/
namespace Go.Proofs.YtapmgbnhobpahaaGreatDoor
open Go.RowKit Go.Shelf
namespace Tx
def Tryz.cutPre_ren : Go.Shelf.Ren := ⟨fun | 103 => 63 | 210 => 77 | 206 => 93 | n => n, fun | 9 => 9 | 4 => 4 | 24 => 110 | 3 => 3 | n => n, fun | n => n⟩
theorem Tryz.cutPre : Go.Proofs.Lays.n103 Tryz.prog Tryz.cutPre_ren := {
  mixed := by kernel_rfl
  f103 := Tryz.func63.trans (congrArg some (by kernel_rfl))
  f206 := Tryz.func93.trans (congrArg some (by kernel_rfl))
  f210 := Tryz.func77.trans (congrArg some (by kernel_rfl))
  t3 := Tryz.underlying3
  a3 := Tryz.isAgg3
  z3 := Tryz.sizeOf3
  v3 := Tryz.zeroValue3
  t4 := Tryz.underlying4
  a4 := Tryz.isAgg4
  z4 := Tryz.sizeOf4
  v4 := Tryz.zeroValue4
  t9 := Tryz.underlying9
  a9 := Tryz.isAgg9
  z9 := Tryz.sizeOf9
  v9 := Tryz.zeroValue9
  t24 := Tryz.underlying110
  a24 := Tryz.isAgg110
  z24 := Tryz.sizeOf110
  v24 := Tryz.zeroValue110 }
theorem cutPrefix_any (s p : ByteArray) (w : World) :
    Calls Tryz.prog 63 #[.string s, .string p] w fun e w' => e = .returned (.tuple #[.string ⟨(Lib.trimPrefix s.data.toList p.data.toList).toArray⟩, .bool (Lib.hasPrefix s.data.toList p.data.toList)]) ∧ w' = w := Any.strings_CutPrefix Tryz.cutPre s p w

/-- Block b is a reader that has l still to read. -/
def Rdr (b : Nat) (l : List UInt8) (w : World) : Prop := w.heap[b]? = some (.cells #[.string ⟨l.toArray⟩] 48)
theorem Rdr.lt {b : Nat} {l : List UInt8} {w : World} (h : Rdr b l w) : b < w.heap.size := (Array.getElem?_eq_some_iff.1 h).1
theorem Rdr.cell {b : Nat} {l : List UInt8} {w : World} (h : Rdr b l w) : w.cell? ⟨b, 0, none⟩ = some (.string ⟨l.toArray⟩) := by
  unfold Rdr at h
  simp [World.cell?, h]
theorem Rdr.frozen {b : Nat} {l : List UInt8} {w : World} (h : Rdr b l w) : w.frozen? ⟨b, 0, none⟩ = false := by
  unfold Rdr at h
  simp [World.frozen?, h]
theorem Rdr.set {b : Nat} {l l' : List UInt8} {w : World} (h : Rdr b l w) : Rdr b l' (w.setCell ⟨b, 0, none⟩ (.string ⟨l'.toArray⟩)) := by
  unfold Rdr at h ⊢
  simp only [World.setCell, Array.getElem?_modify, h]
  simp
theorem Rdr.kept {b : Nat} {l : List UInt8} {w w' : World} (h : Rdr b l w) (hg : w.grownBy w' none) : Rdr b l w' := (hg.block b h.lt (by simp)).trans h
theorem Rdr.since {b : Nat} {l : List UInt8} {w w' : World} (h : Rdr b l w) (hb : Below w.heap.size w w') : Rdr b l w' := (hb.block b h.lt).trans h
theorem setBy {b : Nat} (w : World) (v : Value) : w.grownBy (w.setCell ⟨b, 0, none⟩ v) (some b) := grownBy_setCell' w b v

/-- The package's error errNoText holds ev, and its place is not the reader's. -/
structure NoText (b : Nat) (ev : Value) (w : World) : Prop where
  cell : w.cell? ⟨1, 0, none⟩ = some ev
  err : ∃ t v, ev = .iface t v
  far : b ≠ 1
theorem cell_lt {w : World} {p : Addr} {v : Value} (h : w.cell? p = some v) : p.block < w.heap.size := by
  rcases Nat.lt_or_ge p.block w.heap.size with h' | h'
  · exact h'
  · simp [World.cell?, Array.getElem?_eq_none h'] at h
theorem NoText.grown {b : Nat} {ev : Value} {w w' : World} (h : NoText b ev w) (hg : w.grownBy w' (some b)) : NoText b ev w' :=
  ⟨hg.cell h.cell (by simpa using fun e => h.far e.symm), h.err, h.far⟩
theorem NoText.since {b : Nat} {ev : Value} {w w' : World} (h : NoText b ev w) (hb : Below w.heap.size w w') : NoText b ev w' :=
  ⟨(hb.cell (p := ⟨1, 0, none⟩) (cell_lt h.cell)).trans h.cell, h.err, h.far⟩

abbrev rp (b : Nat) : Value := .pointer (some ⟨b, 0, none⟩)
/-- What a call that panics with errNoText ends in. -/
abbrev gave (ev : Value) : Ending := .panicked [{ v := ev, recovered := false }]

theorem giveUp_any (b : Nat) (ev : Value) (w : World) (hN : NoText b ev w) :
    Calls Tryz.prog 45 #[rp b] w fun e w' => e = gave ev ∧ w' = w := by
  have hc := hN.cell
  obtain ⟨t, v, rfl⟩ := hN.err
  go_enter Tryz.func45, Tryz.ntmps45
  go_wp2
  exact ⟨rfl, rfl, rfl⟩

theorem takes_any (b : Nat) (l q : List UInt8) (w : World) (h : Rdr b l w) :
    Calls Tryz.prog 46 #[rp b, .string ⟨q.toArray⟩] w fun e w' => e = .returned (.bool (Lib.hasPrefix l q)) ∧ w' = w.setCell ⟨b, 0, none⟩ (.string ⟨(Lib.trimPrefix l q).toArray⟩) := by
  have hc := h.cell
  have hf := h.frozen
  go_enter Tryz.func46, Tryz.ntmps46
  go_wp2_with (go_at_call 63; refine (cutPrefix_any _ _ _).mono ?_; rintro e w' ⟨rfl, rfl⟩)
  go_ret
  exact ⟨rfl, rfl⟩
theorem trim_not {l q : List UInt8} (h : Lib.hasPrefix l q = false) : Lib.trimPrefix l q = l := by simp [Lib.trimPrefix, h]
theorem trim_is {l q : List UInt8} (h : Lib.hasPrefix l q = true) : Lib.trimPrefix l q = l.drop q.length := by simp [Lib.trimPrefix, h]

/-- What is left behind a piece; none: it does not stand there. -/
def pNeed (q l : List UInt8) : Option (List UInt8) := if Lib.hasPrefix l q = true then some (l.drop q.length) else none
/-- How a reader's call ends: by a value, with l' still to read; or it gave up. -/
def Ends (b : Nat) (ev : Value) (w : World) (r : Option (Value × List UInt8)) (e : Ending) (w' : World) : Prop :=
  (∃ v l', r = some (v, l') ∧ e = .returned v ∧ Rdr b l' w' ∧ w.grownBy w' (some b)) ∨ (r = none ∧ e = gave ev ∧ w.grownBy w' (some b))
theorem need_any (b : Nat) (ev : Value) (l q : List UInt8) (w : World) (h : Rdr b l w) (hN : NoText b ev w) :
    Calls Tryz.prog 48 #[rp b, .string ⟨q.toArray⟩] w fun e w' => Ends b ev w ((pNeed q l).map fun l' => (.tuple #[], l')) e w' := by
  have HR := hidT h
  have HN := hidT hN
  clear h hN
  cases hp : Lib.hasPrefix l q with
  | true =>
    have HE := hidT (show pNeed q l = some (l.drop q.length) by simp [pNeed, hp])
    have ht := trim_is hp
    go_enter Tryz.func48, Tryz.ntmps48
    go_wp2_with fail
    refine (takes_any b l q w HR.out).mono ?_
    rintro e w' ⟨rfl, rfl⟩
    rw [hp, ht]
    go_wp2
    go_end0
    exact .inl ⟨_, _, by rw [HE.out]; rfl, rfl, HR.out.set, setBy _ _⟩
  | false =>
    have HE := hidT (show pNeed q l = none by simp [pNeed, hp])
    have ht := trim_not hp
    go_enter Tryz.func48, Tryz.ntmps48
    go_wp2_with fail
    refine (takes_any b l q w HR.out).mono ?_
    rintro e w' ⟨rfl, rfl⟩
    rw [hp, ht]
    go_wp2_with (go_at_call 45; refine (giveUp_any b ev _ (HN.out.grown (setBy _ _))).mono ?_; rintro e w' ⟨rfl, rfl⟩)
    exact ⟨rfl, .inr ⟨by rw [HE.out]; rfl, rfl, setBy _ _⟩⟩

/-- Is a byte a digit? -/
def isD (x : UInt8) : Bool := decide (48 ≤ x.toNat) && decide (x.toNat ≤ 57)
theorem while_at {l : List UInt8} {k : Nat} (hk : k ≤ l.length) (h1 : ∀ j (hj : j < l.length), j < k → isD l[j] = true) (h2 : ∀ h : k < l.length, isD l[k] = false) : l.takeWhile isD = l.take k ∧ l.dropWhile isD = l.drop k := by
  induction l generalizing k with
  | nil => simp
  | cons x l ih =>
    cases k with
    | zero =>
      have := h2 (by simp)
      simp at this
      simp [this]
    | succ k =>
      have hx : isD x = true := h1 0 (by simp) (by omega)
      have := ih (k := k) (by simpa using hk) (fun j hj hjk => h1 (j + 1) (by simpa using hj) (by omega)) (fun h => h2 (by simpa using h))
      simp [hx, this.1, this.2]
theorem ext_take (l : List UInt8) (k : Nat) : (⟨l.toArray⟩ : ByteArray).extract 0 k = ⟨(l.take k).toArray⟩ := by
  apply ByteArray.ext
  simp [ByteArray.data_extract]
theorem ext_drop (l : List UInt8) (k n : Nat) (hn : n = l.length) : (⟨l.toArray⟩ : ByteArray).extract k n = ⟨(l.drop k).toArray⟩ := by
  subst hn
  apply ByteArray.ext
  simp [ByteArray.data_extract]
  exact List.take_of_length_le (by simp)
theorem str_at (l : List UInt8) (k : Nat) (h : k < l.length) : (⟨l.toArray⟩ : ByteArray)[k]'(by simpa [ByteArray.size] using h) = l[k] := by
  show l.toArray[k]'(by simpa using h) = l[k]
  simp
theorem digits_end {l : List UInt8} {k : Nat} (hk : k ≤ l.length) (h1 : ∀ j (hj : j < l.length), j < k → isD l[j] = true) (h2 : ∀ h : k < l.length, isD l[k] = false) :
    (⟨l.toArray⟩ : ByteArray).extract 0 k = ⟨(l.takeWhile isD).toArray⟩ ∧ (⟨l.toArray⟩ : ByteArray).extract k l.length = ⟨(l.dropWhile isD).toArray⟩ := by
  obtain ⟨e1, e2⟩ := while_at hk h1 h2
  rw [e1, e2]
  exact ⟨ext_take _ _, ext_drop _ _ _ rfl⟩

theorem digits_any (b : Nat) (l : List UInt8) (w : World) (h : Rdr b l w) (hl : l.length ≤ 1048576) :
    Calls Tryz.prog 64 #[rp b] w fun e w' => e = .returned (.string ⟨(l.takeWhile isD).toArray⟩) ∧ w' = w.setCell ⟨b, 0, none⟩ (.string ⟨(l.dropWhile isD).toArray⟩) := by
  have hc := h.cell
  have hf := h.frozen
  clear h
  go_enter Tryz.func64, Tryz.ntmps64
  go_wp2
  go_loop [3] (fun i => ∃ k : Nat, i = .int .i64 (k : Int) ∧ k ≤ l.length ∧ Hid (∀ j (hj : j < l.length), j < k → isD l[j] = true)) (fun i => l.length - (intOf i).toNat)
  case atStart => exact ⟨0, rfl, Nat.zero_le _, fun j _ h => absurd h (Nat.not_lt_zero _)⟩
  case round =>
    obtain ⟨k, rfl, hk, HP⟩ := hrel
    by_cases hlt : k < l.length
    · have hi : (k : Int) < (l.length : Int) := by omega
      have HX := hidT (str_at l k hlt)
      generalize hx : (⟨l.toArray⟩ : ByteArray)[k]'(by simpa [ByteArray.size] using hlt) = x at HX
      by_cases h48 : (48 : Int) ≤ (x.toNat : Int)
      · by_cases h57 : (x.toNat : Int) ≤ 57
        · go_wp2
          refine ⟨⟨k + 1, by go_num, by omega, fun j hj hjk => ?_⟩, by simp [intOf]; omega⟩
          by_cases e : j = k
          · subst e
            rw [← HX.out]
            simp [isD]
            omega
          · exact HP.out j hj (by omega)
        · have HE := hidT (digits_end hk HP.out (fun _ => by rw [← HX.out]; simp [isD]; omega))
          go_wp2
          go_ret
          exact ⟨congrArg (fun s => Ending.returned (.string s)) HE.out.1, congrArg (fun s => w.setCell ⟨b, 0, none⟩ (.string s)) HE.out.2⟩
      · have HE := hidT (digits_end hk HP.out (fun _ => by rw [← HX.out]; simp [isD]; omega))
        go_wp2
        go_ret
        exact ⟨congrArg (fun s => Ending.returned (.string s)) HE.out.1, congrArg (fun s => w.setCell ⟨b, 0, none⟩ (.string s)) HE.out.2⟩
    · have hi : ¬ (k : Int) < (l.length : Int) := by omega
      have HE := hidT (digits_end hk HP.out (fun h => absurd h hlt))
      go_wp2
      go_ret
      exact ⟨congrArg (fun s => Ending.returned (.string s)) HE.out.1, congrArg (fun s => w.setCell ⟨b, 0, none⟩ (.string s)) HE.out.2⟩
end Tx
end Go.Proofs.YtapmgbnhobpahaaGreatDoor
/- A number in decimal off the program's reader: at most ten digits, no nought ahead. -/
namespace Go.Proofs.YtapmgbnhobpahaaGreatDoor
open Go.RowKit Go.Shelf
namespace Tx

/-- The digits are a number: one to ten of them, no nought ahead of others. -/
def numOk (ds : List UInt8) : Bool := decide (1 ≤ ds.length) && decide (ds.length ≤ 10) && (decide (ds.head? ≠ some 48) || decide (ds = [48]))
def numV (ds : List UInt8) : Nat := ds.foldl (fun n d => 10 * n + (d.toNat - 48)) 0
def pNum (l : List UInt8) : Option (Int × List UInt8) := if numOk (l.takeWhile isD) = true then some ((numV (l.takeWhile isD) : Int), l.dropWhile isD) else none

theorem takeD : ∀ (l : List UInt8), ∀ x ∈ l.takeWhile isD, isD x = true
  | [], x, h => by simp at h
  | y :: l, x, h => by
    cases hy : isD y with
    | false => simp [hy] at h
    | true =>
      simp only [List.takeWhile_cons, hy, if_true, List.mem_cons] at h
      rcases h with rfl | h
      · exact hy
      · exact takeD l x h
theorem numV_snoc (ds : List UInt8) (d : UInt8) : numV (ds ++ [d]) = 10 * numV ds + (d.toNat - 48) := by simp [numV]
theorem numV_lt : ∀ (n : Nat) (ds : List UInt8), ds.length = n → (∀ x ∈ ds, isD x = true) → numV ds < 10 ^ n := by
  intro n
  induction n with
  | zero => intro ds h _; rw [List.length_eq_zero_iff.1 h]; simp [numV]
  | succ n ih =>
    intro ds h hd
    rcases List.eq_nil_or_concat ds with rfl | ⟨es, d, rfl⟩
    · simp at h
    · rw [List.concat_eq_append] at h hd ⊢
      rw [numV_snoc]
      have h1 := ih es (by simpa using h) (fun x hx => hd x (List.mem_append_left _ hx))
      have h2 := hd d (by simp)
      simp [isD] at h2
      rw [Nat.pow_succ]
      omega
theorem take_snoc (ds : List UInt8) (k : Nat) (h : k < ds.length) : ds.take (k + 1) = ds.take k ++ [ds[k]] := by
  rw [List.take_add_one, List.getElem?_eq_getElem h]; rfl
theorem number_any (b : Nat) (ev : Value) (l : List UInt8) (w : World) (h : Rdr b l w) (hN : NoText b ev w) (hl : l.length ≤ 1048576) :
    Calls Tryz.prog 47 #[rp b] w fun e w' => Ends b ev w ((pNum l).map fun x => (.int .i64 x.1, x.2)) e w' := by
  have HR := hidT h
  have HN := hidT hN
  clear h hN
  have HW := hidT (show ∀ x ∈ l.takeWhile isD, isD x = true from takeD l)
  have HE : Hid (pNum l = if numOk (l.takeWhile isD) = true then some ((numV (l.takeWhile isD) : Int), l.dropWhile isD) else none) := rfl
  generalize hds : l.takeWhile isD = ds at HW HE
  have HL := hidT (show ds.length ≤ 1048576 by rw [← hds]; exact Nat.le_trans (List.takeWhile_sublist _).length_le hl)
  go_enter Tryz.func47, Tryz.ntmps47
  go_wp2_with fail
  refine (digits_any b l w HR.out hl).mono ?_
  rintro e w' ⟨rfl, rfl⟩
  rw [hds]
  have HS := hidT (setBy (b := b) w (.string ⟨(l.dropWhile isD).toArray⟩))
  have HR' : Hid (Rdr b (l.dropWhile isD) (w.setCell ⟨b, 0, none⟩ (.string ⟨(l.dropWhile isD).toArray⟩))) := HR.out.set
  generalize w.setCell ⟨b, 0, none⟩ (.string ⟨(l.dropWhile isD).toArray⟩) = w1 at HS HR' ⊢
  clear hds
  match ds, HW, HE, HL with
  | [], HW, HE, HL =>
    go_wp2_with (go_at_call 45; refine (giveUp_any b ev _ (HN.out.grown HS.out)).mono ?_; rintro e w' ⟨rfl, rfl⟩)
    exact ⟨rfl, .inr ⟨by rw [HE.out]; rfl, rfl, HS.out⟩⟩
  | d :: ds, HW, HE, HL =>
    by_cases h10 : 10 < ds.length + 1
    · have h10' : (10 : Int) < (ds.length : Int) + 1 := by omega
      go_wp2_with (go_at_call 45; refine (giveUp_any b ev _ (HN.out.grown HS.out)).mono ?_; rintro e w' ⟨rfl, rfl⟩)
      exact ⟨rfl, .inr ⟨by rw [HE.out, if_neg (by simp [numOk]; omega)]; rfl, rfl, HS.out⟩⟩
    · have h10' : ¬ (10 : Int) < (ds.length : Int) + 1 := by omega
      have h10'' : (ds.length : Int) + 1 ≤ 10 := by omega
      by_cases hd : d = 48
      · have h0 : (((⟨(d :: ds).toArray⟩ : ByteArray)[0]'(by simp [ByteArray.size])).toNat : Int) = 48 := by rw [str_at (d :: ds) 0 (by simp)]; simp [hd]
        subst hd
        match ds, HW, HE, HL, h0 with
        | [], HW, HE, HL, h0 =>
          have HOK := hidT (show numOk [48] = true by decide)
          have HLEN := hidT (show [(48 : UInt8)].length = 1 from rfl)
          go_wp2_with (go_at_call 45; refine (giveUp_any b ev _ (HN.out.grown HS.out)).mono ?_; rintro e w' ⟨rfl, rfl⟩)
          go_loop [4, 28] (fun nv iv => ∃ k : Nat, k ≤ 1 ∧ iv = .int .i64 (k : Int) ∧ nv = .int .i64 (numV ([(48 : UInt8)].take k) : Int)) (fun _ iv => 1 - (intOf iv).toNat)
          case atStart => exact ⟨0, Nat.zero_le _, rfl, by simp [numV]⟩
          case round =>
            obtain ⟨k, hk, rfl, rfl⟩ := hrel
            by_cases hlt : k < 1
            · have hi : (k : Int) < (1 : Int) := by omega
              have hlt' : k < [(48 : UInt8)].length := by rw [HLEN.out]; exact hlt
              have HX := hidT (str_at [(48 : UInt8)] k hlt')
              have HXD := hidT (HW.out _ (List.getElem_mem hlt'))
              generalize hx : (⟨[48].toArray⟩ : ByteArray)[k]'(by simpa [ByteArray.size] using hlt') = x at HX
              rw [← HX.out] at HXD
              have HXD' : 48 ≤ x.toNat ∧ x.toNat ≤ 57 := by have := HXD.out; simpa [isD] using this
              have HV := hidT (numV_lt k ([(48 : UInt8)].take k) (by rw [List.length_take]; omega) (fun x hx => HW.out x (List.mem_of_mem_take hx)))
              have HV10 : Hid (numV ([(48 : UInt8)].take k) < 1000000000) := Nat.lt_of_lt_of_le HV.out (Nat.pow_le_pow_right (n := 10) (by omega) (show k ≤ 9 by omega))
              have HT := hidT (take_snoc [(48 : UInt8)] k hlt')
              rw [← HX.out] at HT
              generalize hv : numV ([(48 : UInt8)].take k) = v at HV10 ⊢
              have hv1 := HV10.out
              go_wp2
              refine ⟨⟨k + 1, by omega, by go_num, ?_⟩, by simp [intOf]; omega⟩
              rw [HT.out, numV_snoc, hv]
              congr 1
              omega
            · have hi : ¬ (k : Int) < (1 : Int) := by omega
              have hkN : k = 1 := by omega
              subst hkN
              have HKT := hidT (show [(48 : UInt8)].take 1 = [48] from rfl)
              go_wp2
              go_ret
              exact .inl ⟨_, _, by rw [HE.out, if_pos HOK.out]; rfl, congrArg (fun z => Ending.returned (.int .i64 (numV z : Int))) HKT.out, HR'.out, HS.out⟩
        | x :: ds, HW, HE, HL, h0 =>
          go_wp2_with (go_at_call 45; refine (giveUp_any b ev _ (HN.out.grown HS.out)).mono ?_; rintro e w' ⟨rfl, rfl⟩)
          exact ⟨rfl, .inr ⟨by rw [HE.out, if_neg (by simp [numOk])]; rfl, rfl, HS.out⟩⟩
      · have h0 : ¬ (((⟨(d :: ds).toArray⟩ : ByteArray)[0]'(by simp [ByteArray.size])).toNat : Int) = 48 := by
          rw [str_at (d :: ds) 0 (by simp)]
          intro e
          apply hd
          apply UInt8.toNat_inj.1
          simp at e
          simpa using (by omega : d.toNat = 48)
        have HOK := hidT (show numOk (d :: ds) = true by simp [numOk, hd]; omega)
        obtain ⟨N, HLEN⟩ : ∃ N, Hid ((d :: ds).length = N) := ⟨_, rfl⟩
        have hN10 : N ≤ 10 := by have := HLEN.out; simp at this; omega
        have hlenI : (ds.length : Int) + 1 = (N : Int) := by have := HLEN.out; simp at this; omega
        go_wp2_with (go_at_call 45; refine (giveUp_any b ev _ (HN.out.grown HS.out)).mono ?_; rintro e w' ⟨rfl, rfl⟩)
        go_loop [4, 28] (fun nv iv => ∃ k : Nat, k ≤ N ∧ iv = .int .i64 (k : Int) ∧ nv = .int .i64 (numV ((d :: ds).take k) : Int)) (fun _ iv => N - (intOf iv).toNat)
        case atStart => exact ⟨0, Nat.zero_le _, rfl, by simp [numV]⟩
        case round =>
          obtain ⟨k, hk, rfl, rfl⟩ := hrel
          by_cases hlt : k < N
          · have hi : (k : Int) < (N : Int) := by omega
            have hlt' : k < (d :: ds).length := by rw [HLEN.out]; exact hlt
            have HX := hidT (str_at (d :: ds) k hlt')
            have HXD := hidT (HW.out _ (List.getElem_mem hlt'))
            generalize hx : (⟨(d :: ds).toArray⟩ : ByteArray)[k]'(by simpa [ByteArray.size] using hlt') = x at HX
            rw [← HX.out] at HXD
            have HXD' : 48 ≤ x.toNat ∧ x.toNat ≤ 57 := by have := HXD.out; simpa [isD] using this
            have HV := hidT (numV_lt k ((d :: ds).take k) (by rw [List.length_take]; omega) (fun x hx => HW.out x (List.mem_of_mem_take hx)))
            have HV10 : Hid (numV ((d :: ds).take k) < 1000000000) := Nat.lt_of_lt_of_le HV.out (Nat.pow_le_pow_right (n := 10) (by omega) (show k ≤ 9 by omega))
            have HT := hidT (take_snoc (d :: ds) k hlt')
            rw [← HX.out] at HT
            generalize hv : numV ((d :: ds).take k) = v at HV10 ⊢
            have hv1 := HV10.out
            go_wp2
            refine ⟨⟨k + 1, by omega, by go_num, ?_⟩, by simp [intOf]; omega⟩
            rw [HT.out, numV_snoc, hv]
            congr 1
            omega
          · have hi : ¬ (k : Int) < (N : Int) := by omega
            have hkN : k = N := by omega
            subst hkN
            have HKT := hidT (show (d :: ds).take k = d :: ds by rw [← HLEN.out]; exact List.take_length)
            go_wp2
            go_ret
            exact .inl ⟨_, _, by rw [HE.out, if_pos HOK.out]; rfl, congrArg (fun z => Ending.returned (.int .i64 (numV z : Int))) HKT.out, HR'.out, HS.out⟩

end Tx
end Go.Proofs.YtapmgbnhobpahaaGreatDoor
/- Numbers in decimal: digits and what they say (mathematics alone). -/
namespace Go.Proofs.YtapmgbnhobpahaaGreatDoor
open Go.RowKit Go.Shelf
namespace Tx

theorem dec_big {n : Nat} (h : ¬ n < 10) : Lib.decDigits n = Lib.decDigits (n / 10) ++ [UInt8.ofNat (48 + n % 10)] := by rw [Lib.decDigits, dif_neg h]
theorem ofNat_toNat {m : Nat} (h : m < 256) : (UInt8.ofNat m).toNat = m := by simp [UInt8.toNat_ofNat', Nat.mod_eq_of_lt h]
theorem head_app {es r : List UInt8} (h : es ≠ []) : (es ++ r).head? = es.head? := by
  cases es with
  | nil => exact absurd rfl h
  | cons => rfl
theorem numV_dec : ∀ (k n : Nat), n < 10 ^ k → numV (Lib.decDigits n) = n
  | 0, n, h => by
    have : n = 0 := by simpa using h
    subst this
    rw [Lib.decDigits_one (by omega)]; decide
  | k + 1, n, h => by
    by_cases h1 : n < 10
    · rw [Lib.decDigits_one h1]
      simp only [numV, List.foldl_cons, List.foldl_nil]
      rw [ofNat_toNat (by omega)]; omega
    · rw [dec_big h1, numV_snoc, numV_dec k (n / 10) (by rw [Nat.pow_succ] at h; omega), ofNat_toNat (by omega)]
      omega
theorem lt_pow (n : Nat) : n < 10 ^ n := Nat.lt_pow_self (by omega)
theorem dec_isD : ∀ (k n : Nat), n < 10 ^ k → ∀ x ∈ Lib.decDigits n, isD x = true
  | 0, n, h => by
    have : n = 0 := by simpa using h
    subst this
    rw [Lib.decDigits_one (by omega)]; decide
  | k + 1, n, h => by
    by_cases h1 : n < 10
    · rw [Lib.decDigits_one h1]
      intro x hx
      rw [List.mem_singleton.1 hx]
      simp [isD]
      omega
    · rw [dec_big h1]
      intro x hx
      rcases List.mem_append.1 hx with h2 | h2
      · exact dec_isD k (n / 10) (by rw [Nat.pow_succ] at h; omega) x h2
      · rw [List.mem_singleton.1 h2]
        simp only [isD]
        rw [ofNat_toNat (by omega)]
        simp; omega
theorem dec_ne (n : Nat) : Lib.decDigits n ≠ [] := by
  by_cases h1 : n < 10
  · rw [Lib.decDigits_one h1]; simp
  · rw [dec_big h1]; simp
theorem dec_head : ∀ (k n : Nat), n < 10 ^ k → n ≠ 0 → (Lib.decDigits n).head? ≠ some 48
  | 0, n, h, h0 => by
    have : n = 0 := by simpa using h
    exact absurd this h0
  | k + 1, n, h, h0 => by
    by_cases h1 : n < 10
    · rw [Lib.decDigits_one h1]
      intro e
      have e : UInt8.ofNat (48 + n) = 48 := by simpa using e
      have := congrArg UInt8.toNat e
      rw [ofNat_toNat (by omega)] at this
      simp at this
      omega
    · rw [dec_big h1, head_app (dec_ne _)]
      exact dec_head k (n / 10) (by rw [Nat.pow_succ] at h; omega) (by omega)
theorem numOk_dec (n : Nat) (h : n < 10000000000) : numOk (Lib.decDigits n) = true := by
  have h1 := dec_len 9 n (by omega)
  have h2 : 1 ≤ (Lib.decDigits n).length := by
    have := dec_ne n
    cases hd : Lib.decDigits n with
    | nil => exact absurd hd this
    | cons => simp
  by_cases h0 : n = 0
  · subst h0
    rw [Lib.decDigits_one (by omega)]; decide
  · have h3 := dec_head n n (lt_pow n) h0
    simp [numOk, h3]
    omega
/-- Digits without noughts ahead are what their number is written as. -/
theorem dec_numV : ∀ (k : Nat) (ds : List UInt8), ds.length = k + 1 → (∀ x ∈ ds, isD x = true) → (ds.head? ≠ some 48 ∨ k = 0) → Lib.decDigits (numV ds) = ds ∧ (ds.head? ≠ some 48 → 1 ≤ numV ds) := by
  intro k
  induction k with
  | zero =>
    intro ds hl hd _
    match ds, hl with
    | [d], _ =>
      have h2 := hd d (by simp)
      simp [isD] at h2
      have e : numV [d] = d.toNat - 48 := by simp [numV]
      rw [e, Lib.decDigits_one (by omega)]
      refine ⟨?_, fun h => ?_⟩
      · congr 1
        apply UInt8.toNat_inj.1
        rw [ofNat_toNat (by omega)]
        omega
      · have : d.toNat ≠ 48 := fun e => h (by simp; exact UInt8.toNat_inj.1 (by simpa using e))
        omega
  | succ k ih =>
    intro ds hl hd hh
    rcases List.eq_nil_or_concat ds with rfl | ⟨es, d, rfl⟩
    · simp at hl
    · rw [List.concat_eq_append] at hl hd hh ⊢
      have hle : es.length = k + 1 := by simpa using hl
      have hne : es ≠ [] := by intro e; rw [e] at hle; simp at hle
      have hh' : es.head? ≠ some 48 := by
        rcases hh with h | h
        · rwa [head_app hne] at h
        · omega
      have h1 := ih es hle (fun x hx => hd x (List.mem_append_left _ hx)) (.inl hh')
      have h2 := hd d (by simp)
      simp [isD] at h2
      have h3 := h1.2 hh'
      rw [numV_snoc]
      refine ⟨?_, fun _ => by omega⟩
      rw [dec_big (by omega), show (10 * numV es + (d.toNat - 48)) / 10 = numV es by omega, h1.1, show (10 * numV es + (d.toNat - 48)) % 10 = d.toNat - 48 by omega]
      congr 2
      apply UInt8.toNat_inj.1
      rw [ofNat_toNat (by omega)]
      omega
theorem dec_of_ok {ds : List UInt8} (h : numOk ds = true) (hd : ∀ x ∈ ds, isD x = true) : Lib.decDigits (numV ds) = ds := by
  simp only [numOk, Bool.and_eq_true, Bool.or_eq_true, decide_eq_true_eq] at h
  obtain ⟨⟨h1, _⟩, h3⟩ := h
  refine (dec_numV (ds.length - 1) ds (by omega) hd ?_).1
  rcases h3 with h | h
  · exact .inl h
  · right; rw [h]; rfl
theorem numV_ok_lt {ds : List UInt8} (h : numOk ds = true) (hd : ∀ x ∈ ds, isD x = true) : numV ds < 10000000000 := by
  simp only [numOk, Bool.and_eq_true, decide_eq_true_eq] at h
  have := numV_lt ds.length ds rfl hd
  exact Nat.lt_of_lt_of_le this (Nat.le_trans (Nat.pow_le_pow_right (n := 10) (by omega) h.1.2) (by omega))
/-- Nothing that goes on a number stands at the head. -/
def Stops (r : List UInt8) : Prop := ∀ x r', r = x :: r' → isD x = false
theorem take_stop {ds r : List UInt8} (hd : ∀ x ∈ ds, isD x = true) (hr : Stops r) : (ds ++ r).takeWhile isD = ds ∧ (ds ++ r).dropWhile isD = r := by
  induction ds with
  | nil =>
    cases r with
    | nil => simp
    | cons x r => simp [hr x r rfl]
  | cons d ds ih =>
    have := ih (fun x hx => hd x (List.mem_cons_of_mem _ hx))
    simp [hd d (by simp), this.1, this.2]
theorem pNum_dec (n : Nat) (h : n < 10000000000) {r : List UInt8} (hr : Stops r) : pNum (Lib.decDigits n ++ r) = some ((n : Int), r) := by
  obtain ⟨e1, e2⟩ := take_stop (dec_isD n n (lt_pow n)) hr
  unfold pNum
  rw [e1, e2, if_pos (numOk_dec n h), numV_dec n n (lt_pow n)]
/-- What a number was read off. -/
theorem pNum_is {l r : List UInt8} {m : Int} (h : pNum l = some (m, r)) : ∃ n : Nat, m = (n : Int) ∧ n < 10000000000 ∧ l = Lib.decDigits n ++ r ∧ Stops r := by
  unfold pNum at h
  by_cases hk : numOk (l.takeWhile isD) = true
  · rw [if_pos hk] at h
    injection h with h
    injection h with h1 h2
    refine ⟨numV (l.takeWhile isD), h1.symm, numV_ok_lt hk (takeD l), ?_, ?_⟩
    · rw [dec_of_ok hk (takeD l), ← h2]
      exact (List.takeWhile_append_dropWhile (p := isD) (l := l)).symm
    · rw [← h2]
      intro x r' e
      have := List.head?_dropWhile_not isD l
      rw [e] at this
      simpa using this
  · rw [if_neg hk] at h
    cases h
end Tx
end Go.Proofs.YtapmgbnhobpahaaGreatDoor
/- What stands ahead of a byte and behind it, a number in decimal, as the model reads them. -/
namespace Go.Proofs.YtapmgbnhobpahaaGreatDoor
open Go.RowKit Go.Shelf
namespace Tx

/-- What stands ahead of the first such byte, and behind it. -/
def cut (c : UInt8) : List UInt8 → List UInt8 × List UInt8 × Bool
  | [] => ([], [], false)
  | x :: l => if x = c then ([], l, true) else (x :: (cut c l).1, (cut c l).2.1, (cut c l).2.2)
theorem cut_at (c : UInt8) : ∀ (l : List UInt8) (k : Nat) (hk : k < l.length), (∀ j (hj : j < l.length), j < k → l[j] ≠ c) → l[k] = c → cut c l = (l.take k, l.drop (k + 1), true)
  | x :: l, 0, _, _, h => by
    have h : x = c := h
    simp [cut, h]
  | x :: l, k + 1, hk, h1, h => by
    have hx : x ≠ c := h1 0 (by simp) (by omega)
    have := cut_at c l k (by simpa using hk) (fun j hj hjk => h1 (j + 1) (by simpa using hj) (by omega)) h
    simp [cut, hx, this]
theorem cut_not (c : UInt8) : ∀ (l : List UInt8), (∀ j (hj : j < l.length), l[j] ≠ c) → cut c l = (l, [], false)
  | [], _ => rfl
  | x :: l, h => by
    have hx : x ≠ c := h 0 (by simp)
    have := cut_not c l (fun j hj => h (j + 1) (by simpa using hj))
    simp [cut, hx, this]
abbrev st (l : List UInt8) : Value := .string ⟨l.toArray⟩

theorem l1Cut_any (c : UInt8) (l : List UInt8) (w : World) (hl : l.length ≤ 1048576) :
    Calls Tryz.prog 37 #[st l, .int .u8 c.toNat] w fun e w' => e = .returned (.tuple #[st (cut c l).1, st (cut c l).2.1, .bool (cut c l).2.2]) ∧ ∃ q, w' = w.drewN q := by
  go_enter Tryz.func37, Tryz.ntmps37
  go_wp2
  go_loop [7] (fun i => ∃ k : Nat, i = .int .i64 (k : Int) ∧ k ≤ l.length ∧ Hid (∀ j (hj : j < l.length), j < k → l[j] ≠ c)) (fun i => l.length - (intOf i).toNat)
  case atStart => exact ⟨0, rfl, Nat.zero_le _, fun j _ h => absurd h (Nat.not_lt_zero _)⟩
  case round =>
    obtain ⟨k, rfl, hk, HP⟩ := hrel
    by_cases hlt : k < l.length
    · have hi : (k : Int) < (l.length : Int) := by omega
      have hk1 : (k : Int) + 1 ≤ (l.length : Int) := by omega
      have HX := hidT (str_at l k hlt)
      generalize hx : (⟨l.toArray⟩ : ByteArray)[k]'(by simpa [ByteArray.size] using hlt) = x at HX
      by_cases hc : (x.toNat : Int) = (c.toNat : Int)
      · have HE := hidT (cut_at c l k hlt HP.out (by rw [← HX.out]; exact UInt8.toNat_inj.1 (by omega)))
        go_wp2
        go_quiet (fail)
        go_wp2
        go_ret3
        refine ⟨?_, _, rfl⟩
        rw [HE.out]
        show Ending.returned (.tuple #[.string ((⟨l.toArray⟩ : ByteArray).extract 0 k), .string ((⟨l.toArray⟩ : ByteArray).extract (k + 1) l.length), .bool true]) = _
        rw [ext_take, ext_drop _ _ _ rfl]
      · go_wp2
        refine ⟨⟨k + 1, by go_num, by omega, fun j hj hjk => ?_⟩, by simp [intOf]; omega⟩
        by_cases e : j = k
        · subst e
          rw [← HX.out]
          intro e
          exact hc (by rw [e])
        · exact HP.out j hj (by omega)
    · have hi : ¬ (k : Int) < (l.length : Int) := by omega
      have HE := hidT (cut_not c l (fun j hj => HP.out j hj (by omega)))
      go_wp2
      go_ret3
      exact ⟨by rw [HE.out]; rfl, 0, rfl⟩
/-- A number in decimal, and whether it is one. -/
def pInt (s : List UInt8) : Int × Bool := if numOk s = true ∧ s.all isD = true then ((numV s : Int), true) else (0, false)
theorem pInt_not {s : List UInt8} (h : ¬ (numOk s = true ∧ s.all isD = true)) : pInt s = (0, false) := if_neg h
theorem l1Int_any (s : List UInt8) (w : World) (hl : s.length ≤ 1048576) :
    Calls Tryz.prog 38 #[st s] w fun e w' => e = .returned (.tuple #[.int .i64 (pInt s).1, .bool (pInt s).2]) ∧ w' = w := by
  cases s with
  | nil =>
    have HE := hidT (pInt_not (s := []) (by simp [numOk]))
    go_enter Tryz.func38, Tryz.ntmps38
    go_wp2
    go_ret2
    exact ⟨by rw [HE.out]; rfl, rfl⟩
  | cons d ds =>
    by_cases h10 : 10 < ds.length + 1
    · have h10' : (10 : Int) < (ds.length : Int) + 1 := by omega
      have HE := hidT (pInt_not (s := d :: ds) (by simp [numOk]; omega))
      go_enter Tryz.func38, Tryz.ntmps38
      go_wp2
      go_ret2
      exact ⟨by rw [HE.out]; rfl, rfl⟩
    · have h10' : ¬ (10 : Int) < (ds.length : Int) + 1 := by omega
      have h10'' : (ds.length : Int) + 1 ≤ 10 := by omega
      by_cases hd : d = 48 ∧ 1 < ds.length + 1
      · have h0 : (((⟨(d :: ds).toArray⟩ : ByteArray)[0]'(by simp [ByteArray.size])).toNat : Int) = 48 := by rw [str_at (d :: ds) 0 (by simp)]; simp [hd.1]
        have h1 : (1 : Int) < (ds.length : Int) + 1 := by omega
        have HE := hidT (pInt_not (s := d :: ds) (by
          have : ds ≠ [] := by intro e; rw [e] at hd; simp at hd
          simp [numOk, hd.1, this]))
        have HD := hidT hd
        clear hd
        go_enter Tryz.func38, Tryz.ntmps38
        go_wp2
        go_ret2
        exact ⟨by rw [HE.out]; rfl, rfl⟩
      · have HK := hidT (show numOk (d :: ds) = true by
          simp [numOk]
          refine ⟨by omega, ?_⟩
          by_cases e : d = 48
          · right; exact ⟨e, by
              have : ¬ 1 < ds.length + 1 := fun h => hd ⟨e, h⟩
              exact List.length_eq_zero_iff.1 (by omega)⟩
          · exact .inl e)
        have h0 : (((⟨(d :: ds).toArray⟩ : ByteArray)[0]'(by simp [ByteArray.size])).toNat : Int) = 48 → ¬ (1 : Int) < (ds.length : Int) + 1 := by
          rw [str_at (d :: ds) 0 (by simp)]
          intro e h
          exact hd ⟨UInt8.toNat_inj.1 (by simp at e; simpa using (by omega : d.toNat = 48)), by omega⟩
        obtain ⟨N, HLEN⟩ : ∃ N, Hid ((d :: ds).length = N) := ⟨_, rfl⟩
        have hN10 : N ≤ 10 := by have := HLEN.out; simp at this; omega
        have hlenI : (ds.length : Int) + 1 = (N : Int) := by have := HLEN.out; simp at this; omega
        have HB0 := hidT h0
        clear h0
        by_cases hz : (((⟨(d :: ds).toArray⟩ : ByteArray)[0]'(by simp [ByteArray.size])).toNat : Int) = 48
        · have hz1 := HB0.out hz
          rw [hlenI] at hz1
          go_enter Tryz.func38, Tryz.ntmps38
          go_wp2
          go_loop [4, 5] (fun nv iv => ∃ k : Nat, k ≤ N ∧ iv = .int .i64 (k : Int) ∧ nv = .int .i64 (numV ((d :: ds).take k) : Int) ∧ Hid (∀ x ∈ (d :: ds).take k, isD x = true)) (fun _ iv => N - (intOf iv).toNat)
          case atStart => exact ⟨0, Nat.zero_le _, rfl, by simp [numV], by show ∀ x ∈ (d :: ds).take 0, isD x = true; simp⟩
          case round =>
            obtain ⟨k, hk, rfl, rfl, HP⟩ := hrel
            by_cases hlt : k < N
            · have hi : (k : Int) < (N : Int) := by omega
              have hlt' : k < (d :: ds).length := by rw [HLEN.out]; exact hlt
              have HX := hidT (str_at (d :: ds) k hlt')
              have HM := hidT (List.getElem_mem hlt')
              generalize hx : (⟨(d :: ds).toArray⟩ : ByteArray)[k]'(by simpa [ByteArray.size] using hlt') = x at HX
              rw [← HX.out] at HM
              have HNO : Hid (isD x = false → pInt (d :: ds) = (0, false)) := fun h => pInt_not (by
                rintro ⟨_, h2⟩
                have := List.all_eq_true.1 h2 x HM.out
                rw [h] at this
                cases this)
              have HV := hidT (numV_lt k ((d :: ds).take k) (by rw [List.length_take]; omega) HP.out)
              have HV10 : Hid (numV ((d :: ds).take k) < 1000000000) := Nat.lt_of_lt_of_le HV.out (Nat.pow_le_pow_right (n := 10) (by omega) (show k ≤ 9 by omega))
              have HT := hidT (take_snoc (d :: ds) k hlt')
              rw [← HX.out] at HT
              generalize hv : numV ((d :: ds).take k) = v at HV10 ⊢
              have hv1 := HV10.out
              by_cases h48 : (x.toNat : Int) < 48
              · have HE := hidT (HNO.out (by simp [isD]; omega))
                go_wp2
                go_ret2
                exact ⟨by rw [HE.out]; rfl, rfl⟩
              · by_cases h57 : (57 : Int) < (x.toNat : Int)
                · have HE := hidT (HNO.out (by simp [isD]; omega))
                  go_wp2
                  go_ret2
                  exact ⟨by rw [HE.out]; rfl, rfl⟩
                · have hx1 : 48 ≤ x.toNat := by omega
                  go_wp2
                  refine ⟨⟨k + 1, by omega, by go_num, ?_, ?_⟩, by simp [intOf]; omega⟩
                  · rw [HT.out, numV_snoc, hv]
                    congr 1
                    omega
                  · show ∀ y ∈ (d :: ds).take (k + 1), isD y = true
                    rw [HT.out]
                    intro y hy
                    rcases List.mem_append.1 hy with h | h
                    · exact HP.out y h
                    · rw [List.mem_singleton.1 h]
                      simp [isD]
                      omega
            · have hi : ¬ (k : Int) < (N : Int) := by omega
              have hkN : k = N := by omega
              have HKT := hidT (show (d :: ds).take k = d :: ds by rw [hkN, ← HLEN.out]; exact List.take_length)
              have HE := hidT (show pInt (d :: ds) = ((numV (d :: ds) : Int), true) from if_pos ⟨HK.out, List.all_eq_true.2 (by have := HP.out; rw [HKT.out] at this; exact this)⟩)
              clear hkN
              go_wp2
              go_ret2
              refine ⟨?_, rfl⟩
              rw [HE.out]
              exact congrArg (fun z => Ending.returned (.tuple #[.int .i64 (numV z : Int), .bool true])) HKT.out
        · go_enter Tryz.func38, Tryz.ntmps38
          go_wp2
          go_loop [4, 5] (fun nv iv => ∃ k : Nat, k ≤ N ∧ iv = .int .i64 (k : Int) ∧ nv = .int .i64 (numV ((d :: ds).take k) : Int) ∧ Hid (∀ x ∈ (d :: ds).take k, isD x = true)) (fun _ iv => N - (intOf iv).toNat)
          case atStart => exact ⟨0, Nat.zero_le _, rfl, by simp [numV], by show ∀ x ∈ (d :: ds).take 0, isD x = true; simp⟩
          case round =>
            obtain ⟨k, hk, rfl, rfl, HP⟩ := hrel
            by_cases hlt : k < N
            · have hi : (k : Int) < (N : Int) := by omega
              have hlt' : k < (d :: ds).length := by rw [HLEN.out]; exact hlt
              have HX := hidT (str_at (d :: ds) k hlt')
              have HM := hidT (List.getElem_mem hlt')
              generalize hx : (⟨(d :: ds).toArray⟩ : ByteArray)[k]'(by simpa [ByteArray.size] using hlt') = x at HX
              rw [← HX.out] at HM
              have HNO : Hid (isD x = false → pInt (d :: ds) = (0, false)) := fun h => pInt_not (by
                rintro ⟨_, h2⟩
                have := List.all_eq_true.1 h2 x HM.out
                rw [h] at this
                cases this)
              have HV := hidT (numV_lt k ((d :: ds).take k) (by rw [List.length_take]; omega) HP.out)
              have HV10 : Hid (numV ((d :: ds).take k) < 1000000000) := Nat.lt_of_lt_of_le HV.out (Nat.pow_le_pow_right (n := 10) (by omega) (show k ≤ 9 by omega))
              have HT := hidT (take_snoc (d :: ds) k hlt')
              rw [← HX.out] at HT
              generalize hv : numV ((d :: ds).take k) = v at HV10 ⊢
              have hv1 := HV10.out
              by_cases h48 : (x.toNat : Int) < 48
              · have HE := hidT (HNO.out (by simp [isD]; omega))
                go_wp2
                go_ret2
                exact ⟨by rw [HE.out]; rfl, rfl⟩
              · by_cases h57 : (57 : Int) < (x.toNat : Int)
                · have HE := hidT (HNO.out (by simp [isD]; omega))
                  go_wp2
                  go_ret2
                  exact ⟨by rw [HE.out]; rfl, rfl⟩
                · have hx1 : 48 ≤ x.toNat := by omega
                  go_wp2
                  refine ⟨⟨k + 1, by omega, by go_num, ?_, ?_⟩, by simp [intOf]; omega⟩
                  · rw [HT.out, numV_snoc, hv]
                    congr 1
                    omega
                  · show ∀ y ∈ (d :: ds).take (k + 1), isD y = true
                    rw [HT.out]
                    intro y hy
                    rcases List.mem_append.1 hy with h | h
                    · exact HP.out y h
                    · rw [List.mem_singleton.1 h]
                      simp [isD]
                      omega
            · have hi : ¬ (k : Int) < (N : Int) := by omega
              have hkN : k = N := by omega
              have HKT := hidT (show (d :: ds).take k = d :: ds by rw [hkN, ← HLEN.out]; exact List.take_length)
              have HE := hidT (show pInt (d :: ds) = ((numV (d :: ds) : Int), true) from if_pos ⟨HK.out, List.all_eq_true.2 (by have := HP.out; rw [HKT.out] at this; exact this)⟩)
              clear hkN
              go_wp2
              go_ret2
              refine ⟨?_, rfl⟩
              rw [HE.out]
              exact congrArg (fun z => Ending.returned (.tuple #[.int .i64 (numV z : Int), .bool true])) HKT.out
end Tx
end Go.Proofs.YtapmgbnhobpahaaGreatDoor
/- A region that draws its order, walked once in the order of the text, where what is known of the world (S) is kept by every callee: for any program. -/
namespace Go.Proofs.YtapmgbnhobpahaaGreatDoor
open Go.RowKit

/-- A world of which S is known. -/
def SW (S : World → Prop) : Type := { W : World // S W }
def SW.w {S : World → Prop} (s : SW S) : World := s.1
theorem SW.is {S : World → Prop} (s : SW S) : S s.w := s.2
theorem SW.of {S : World → Prop} {W : World} (h : S W) : ∃ s : SW S, W = s.w := ⟨⟨W, h⟩, rfl⟩

theorem SW.some {S : World → Prop} {W : World} (h : S W) : Nonempty (SW S) := ⟨⟨W, h⟩⟩

/-- Two cells hold these values, and nothing has turned since w. -/
def Cs2 (w : World) (p1 : Addr) (v1 : Value) (p2 : Addr) (v2 : Value) (W : World) : Prop := W.cell? p1 = some v1 ∧ W.cell? p2 = some v2 ∧ Below w.heap.size w W
/-- Four cells hold these values, and nothing has turned since w. -/
def Cs4 (w : World) (p1 : Addr) (v1 : Value) (p2 : Addr) (v2 : Value) (p3 : Addr) (v3 : Value) (p4 : Addr) (v4 : Value) (W : World) : Prop := W.cell? p1 = some v1 ∧ W.cell? p2 = some v2 ∧ W.cell? p3 = some v3 ∧ W.cell? p4 = some v4 ∧ Below w.heap.size w W
theorem cell_since {W W' : World} {p : Addr} {v : Value} (h : W.cell? p = some v) (hb : Below W.heap.size W W') : W'.cell? p = some v := (hb.cell (World.block_lt_of_cell? W p h)).trans h
theorem Cs2.later {w W W' : World} {p1 p2 : Addr} {v1 v2 : Value} (h : Cs2 w p1 v1 p2 v2 W) (hb : Below W.heap.size W W') : Cs2 w p1 v1 p2 v2 W' :=
  ⟨cell_since h.1 hb, cell_since h.2.1 hb, h.2.2.trans (hb.mono h.2.2.size)⟩
theorem Cs4.later {w W W' : World} {p1 p2 p3 p4 : Addr} {v1 v2 v3 v4 : Value} (h : Cs4 w p1 v1 p2 v2 p3 v3 p4 v4 W) (hb : Below W.heap.size W W') : Cs4 w p1 v1 p2 v2 p3 v3 p4 v4 W' :=
  ⟨cell_since h.1 hb, cell_since h.2.1 hb, cell_since h.2.2.1 hb, cell_since h.2.2.2.1 hb, h.2.2.2.2.trans (hb.mono h.2.2.2.2.size)⟩

theorem wp_region_S (S : World → Prop) {P : Program} {id : Nat} {Q : Exit → Act → World → Prop} {a : Act} {w : World} {l : List Oper} (hm : P.follows .mixedOrders = true) (hB : Region.lexB .any l.toArray = true) (hS : S w.drew)
    (h : wpQuiet P l.toArray (fun w' => ∃ s : SW S, w' = s.w) (fun a' => ∀ w', (∃ s : SW S, w' = s.w) → Q .normal a' w') l a) : (Code.region id l.toArray true).wp P Q a w :=
  wp_region_quiet (C := fun w' => ∃ s : SW S, w' = s.w) hm hB (SW.of hS) (by simpa using h)
end Go.Proofs.YtapmgbnhobpahaaGreatDoor
/- Keys as texts: l8Key of the model, keyText of the program; decimal of the program at every number from 0 on. -/
namespace Go.Proofs.YtapmgbnhobpahaaGreatDoor
open Go.RowKit Go.Shelf
namespace Tx

/-- The name of the table of the powers of ten. -/
abbrev powName : String := "internal/strconv.uint64pow10"
theorem gPow : Tryz.prog.globalNamed powName = some 2 := by kernel_rfl
def HasPow (w : World) : Prop := Lib.TabIs Tryz.prog w powName .u64 Lib.pow10Tab
theorem HasPow.since {w w' : World} (h : HasPow w) (hb : Below w.heap.size w w') : HasPow w' := by
  unfold HasPow Lib.TabIs World.var? at h ⊢
  simp only [gPow, Option.bind_some] at h ⊢
  have hlt : 2 < w.heap.size := by
    rcases Nat.lt_or_ge 2 w.heap.size with h' | h'
    · exact h'
    · simp [Array.getElem?_eq_none h'] at h
  rw [hb.block _ hlt]
  exact h
theorem HasPow.grown {w w' : World} {r : Option Nat} (h : HasPow w) (hb : w.grownBy w' r) (hr : r ≠ some 2) : HasPow w' := by
  unfold HasPow Lib.TabIs World.var? at h ⊢
  simp only [gPow, Option.bind_some] at h ⊢
  have hlt : 2 < w.heap.size := by
    rcases Nat.lt_or_ge 2 w.heap.size with h' | h'
    · exact h'
    · simp [Array.getElem?_eq_none h'] at h
  rw [hb.block _ hlt (fun e => hr e.symm)]
  exact h
theorem formatAny (n : Nat) (hn : n ≤ 9223372036854775807) (w : World) (h : HasPow w) :
    Calls Tryz.prog 43 #[.int .i64 n, .int .i64 10] w fun e w' => e = .returned (.string ⟨(Lib.decDigits n).toArray⟩) ∧ Below w.heap.size w w' := by
  refine (Any.strconv_FormatInt_10 Tryz.fmtInt (n : Int) (by omega) (by omega) w h).mono ?_
  rintro e w' ⟨he, k, os, rfl⟩
  refine ⟨?_, ?_⟩
  · rw [he]; simp [Lib.itoa]
  · exact ⟨rfl, rfl, rfl, by simp [Sort.grow], fun i hi => by simp [Sort.grow, Array.getElem?_append_left hi]⟩
theorem decimal_any (n : Nat) (hn : n ≤ 9223372036854775807) (w : World) (h : HasPow w) :
    Calls Tryz.prog 23 #[.int .i64 n] w fun e w' => e = .returned (st (Lib.decDigits n)) ∧ Below w.heap.size w w' := by
  have HP := hidT h
  clear h
  go_enter Tryz.func23, Tryz.ntmps23
  go_wp2_with (go_at_call 43; refine (formatAny n hn _ HP.out).mono ?_; rintro e w' ⟨rfl, hb⟩)
  go_ret
  exact ⟨rfl, hb⟩

/-- A key's text. -/
def keyT (n v : Nat) : List UInt8 := Lib.decDigits n ++ 46 :: Lib.decDigits v
set_option maxRecDepth 100000 in
set_option maxHeartbeats 1000000 in
theorem l8Key_any (n v : Nat) (hn : n ≤ 1000000000) (hv : v ≤ 1000000000) (w : World) :
    Calls Tryz.prog 35 #[kv n v] w fun e w' => e = .returned (st (keyT n v)) ∧ Below w.heap.size w w' := by
  have hl1 := dec_len 9 n (by omega)
  have hl2 := dec_len 9 v (by omega)
  have a1 := fun w => run_string_add_lists (P := Tryz.prog) w (Lib.decDigits n) [46] (by omega) (by simp)
  have a2 := fun w => run_string_add_lists (P := Tryz.prog) w (Lib.decDigits n ++ [46]) (Lib.decDigits v) (by simp; omega) (by omega)
  have hS0 : Cs2 w ⟨w.heap.size, 0, none⟩ (.int .i64 n) ⟨w.heap.size, 1, none⟩ (.int .i64 v) (w.alloc (kb n v)).drew := ⟨by simp, by simp, (oneB _ _).drew⟩
  have hSN := SW.some hS0
  have s1 := fun s : SW (Cs2 w ⟨w.heap.size, 0, none⟩ (.int .i64 n) ⟨w.heap.size, 1, none⟩ (.int .i64 v)) => s.is.1
  have s2 := fun s : SW (Cs2 w ⟨w.heap.size, 0, none⟩ (.int .i64 n) ⟨w.heap.size, 1, none⟩ (.int .i64 v)) => s.is.2.1
  go_enter Tryz.func35, Tryz.ntmps35
  go_wp2
  refine wp_region_S (Cs2 w ⟨w.heap.size, 0, none⟩ (.int .i64 n) ⟨w.heap.size, 1, none⟩ (.int .i64 v)) (by kernel_rfl) (by kernel_rfl) hS0 ?_
  repeat (go_big_quiet_step ((rename_i s0; go_at_call 33; refine (l1Dec_any _ (by omega) _).mono ?_; rintro e w' ⟨rfl, hb⟩; exact ⟨rfl, SW.of (s0.is.later hb)⟩)))
  refine wpQuiet_nil ?_
  rintro _ ⟨s, rfl⟩
  have hBf := s.is.2.2
  generalize s.w = W at hBf ⊢
  clear hS0 hSN s1 s2 s
  go_wp2
  go_ret
  exact ⟨rfl, hBf⟩
set_option maxRecDepth 100000 in
set_option maxHeartbeats 1000000 in
theorem keyText_any (n v : Nat) (hn : n ≤ 1000000000) (hv : v ≤ 1000000000) (w : World) (hP : HasPow w) :
    Calls Tryz.prog 28 #[kv n v] w fun e w' => e = .returned (st (keyT n v)) ∧ Below w.heap.size w w' := by
  have HP := hidT hP
  clear hP
  have hl1 := dec_len 9 n (by omega)
  have hl2 := dec_len 9 v (by omega)
  have a1 := fun w => run_string_add_lists (P := Tryz.prog) w (Lib.decDigits n) [46] (by omega) (by simp)
  have a2 := fun w => run_string_add_lists (P := Tryz.prog) w (Lib.decDigits n ++ [46]) (Lib.decDigits v) (by simp; omega) (by omega)
  have hS0 : Cs2 w ⟨w.heap.size, 0, none⟩ (.int .i64 n) ⟨w.heap.size, 1, none⟩ (.int .i64 v) (w.alloc (kb n v)).drew := ⟨by simp, by simp, (oneB _ _).drew⟩
  have hSN := SW.some hS0
  have s1 := fun s : SW (Cs2 w ⟨w.heap.size, 0, none⟩ (.int .i64 n) ⟨w.heap.size, 1, none⟩ (.int .i64 v)) => s.is.1
  have s2 := fun s : SW (Cs2 w ⟨w.heap.size, 0, none⟩ (.int .i64 n) ⟨w.heap.size, 1, none⟩ (.int .i64 v)) => s.is.2.1
  go_enter Tryz.func28, Tryz.ntmps28
  go_wp2
  refine wp_region_S (Cs2 w ⟨w.heap.size, 0, none⟩ (.int .i64 n) ⟨w.heap.size, 1, none⟩ (.int .i64 v)) (by kernel_rfl) (by kernel_rfl) hS0 ?_
  repeat (go_big_quiet_step ((rename_i s0; go_at_call 23; refine (decimal_any _ (by omega) _ (HP.out.since s0.is.2.2)).mono ?_; rintro e w' ⟨rfl, hb⟩; exact ⟨rfl, SW.of (s0.is.later hb)⟩)))
  refine wpQuiet_nil ?_
  rintro _ ⟨s, rfl⟩
  have hBf := s.is.2.2
  generalize s.w = W at hBf ⊢
  clear hS0 hSN s1 s2 s
  go_wp2
  go_ret
  exact ⟨rfl, hBf⟩
end Tx
end Go.Proofs.YtapmgbnhobpahaaGreatDoor
/- Lists of keys in memory, and what the functions on single keys do: l2Key, keyOk. -/
namespace Go.Proofs.YtapmgbnhobpahaaGreatDoor
open Go.RowKit

/-- The cells of keys. -/
def kcells (ks : List (Int × Int)) : List Value := ks.flatMap fun k => [.int .i64 k.1, .int .i64 k.2]
theorem kcells_length (ks : List (Int × Int)) : (kcells ks).length = ks.length * 2 := by
  induction ks with
  | nil => rfl
  | cons k ks ih => simp only [kcells, List.flatMap_cons, List.length_append, List.length_cons, List.length_nil] at ih ⊢; omega
theorem kcells_append (a b : List (Int × Int)) : kcells (a ++ b) = kcells a ++ kcells b := by simp [kcells]
theorem kcells_get (ks : List (Int × Int)) : ∀ i (hi : i < ks.length), (kcells ks)[i * 2]? = some (.int .i64 ks[i].1) ∧ (kcells ks)[i * 2 + 1]? = some (.int .i64 ks[i].2) := by
  induction ks with
  | nil => intro i hi; simp at hi
  | cons k ks ih =>
    intro i hi
    match i, hi with
    | 0, _ => simp [kcells]
    | i + 1, hi =>
      have := ih i (by simpa using hi)
      have e1 : (i + 1) * 2 = i * 2 + 1 + 1 := by omega
      have e2 : (i + 1) * 2 + 1 = i * 2 + 1 + 1 + 1 := by omega
      rw [e2, e1]
      simpa [kcells] using this

/-- The slice v holds the keys ks, in a block at or beyond B. -/
def Keys (B : Nat) (v : Value) (ks : List (Int × Int)) (W : World) : Prop := W.ownsRow B 54 2 v ks.length (kcells ks)

theorem Keys.kept {B : Nat} {v : Value} {ks : List (Int × Int)} {W W' : World} {row : Option Nat} (h : Keys B v ks W) (hg : W.grownBy W' row) (hne : ∀ k, row = some k → v.ownBlock ≠ some k) : Keys B v ks W' := by
  refine World.ownsRow.kept h hg ?_
  cases row with
  | none => cases e : v.ownBlock <;> simp
  | some k => exact .inr (hne k rfl)
theorem Keys.mono {B B' : Nat} {v : Value} {ks : List (Int × Int)} {W : World} (h : Keys B v ks W) (hB : B' ≤ B) : Keys B' v ks W := by
  refine ⟨h.1, ?_⟩
  rcases h.2 with hn | ⟨g, cap, cur, e, hb, rest⟩
  · exact .inl hn
  · exact .inr ⟨g, cap, cur, e, by omega, rest⟩
theorem Keys.lt {B : Nat} {v : Value} {ks : List (Int × Int)} {W : World} (h : Keys B v ks W) : ∀ k, v.ownBlock = some k → B ≤ k ∧ k < W.heap.size := World.ownsRow.lt h
theorem Keys.drewN {B : Nat} {v : Value} {ks : List (Int × Int)} {W : World} (h : Keys B v ks W) (n : Nat) : Keys B v ks (W.drewN n) := h
theorem Keys.below {B C : Nat} {v : Value} {ks : List (Int × Int)} {W W' : World} (h : Keys B v ks W) (hb : Below C W W') (hC : ∀ k, v.ownBlock = some k → k < C) : Keys B v ks W' := by
  refine ⟨h.1, ?_⟩
  rcases h.2 with hn | ⟨g, cap, cur, rfl, hb', hg, rest⟩
  · exact .inl hn
  · refine .inr ⟨g, cap, cur, rfl, hb', ?_, rest⟩
    rw [hb.block g (hC g rfl)]
    exact hg

/-- Keys lie in block b from offset 'off' on. -/
def KSeg (b off : Nat) (ks : List (Int × Int)) (W : World) : Prop :=
  ∀ i (hi : i < ks.length), W.cell? ⟨b, off + i * 2, none⟩ = some (.int .i64 ks[i].1) ∧ W.cell? ⟨b, off + i * 2 + 1, none⟩ = some (.int .i64 ks[i].2)
theorem KSeg.kept {b off : Nat} {ks : List (Int × Int)} {W W' : World} (h : KSeg b off ks W) (hb : W'.heap[b]? = W.heap[b]?) : KSeg b off ks W' := fun i hi =>
  ⟨(World.cell?_of_block (a := ⟨b, off + i * 2, none⟩) hb).trans (h i hi).1, (World.cell?_of_block (a := ⟨b, off + i * 2 + 1, none⟩) hb).trans (h i hi).2⟩

theorem Keys.form {B : Nat} {v : Value} {ks : List (Int × Int)} {W : World} (h : Keys B v ks W) :
    (v = .slice none 0 0 ∧ ks = []) ∨ ∃ g cap, v = .slice (some ⟨g, 0, none⟩) ks.length cap ∧ B ≤ g ∧ g < W.heap.size ∧ ks.length ≤ cap ∧ cap ≤ maxLen ∧ KSeg g 0 ks W ∧ ∀ o, W.frozen? ⟨g, o, none⟩ = false := by
  obtain ⟨_, h2⟩ := h
  rcases h2 with ⟨e, hn⟩ | ⟨g, cap, cur, e, hb, hg, h1, h3, h4, h5⟩
  · exact .inl ⟨e, List.length_eq_zero_iff.1 hn⟩
  · refine .inr ⟨g, cap, e, hb, (Array.getElem?_eq_some_iff.1 hg).1, h1, h3, fun i hi => ?_, fun o => by simp [World.frozen?, hg]⟩
    have hk := kcells_get ks i hi
    have c1 : cur[i * 2]? = some (.int .i64 ks[i].1) := by
      have h := hk.1
      rw [← h5, List.getElem?_take_of_lt (by omega)] at h
      simpa using h
    have c2 : cur[i * 2 + 1]? = some (.int .i64 ks[i].2) := by
      have h := hk.2
      rw [← h5, List.getElem?_take_of_lt (by omega)] at h
      simpa using h
    exact ⟨by simp [World.cell?, hg, c1], by simp [World.cell?, hg, c2]⟩

theorem cell_later2 {W W' : World} {p : Addr} {v : Value} (h : W.cell? p = some v) (hb : Below W.heap.size W W') : W'.cell? p = some v :=
  (hb.cell (World.block_lt_of_cell? W p h)).trans h
/-- Four cells stand behind what makes memory alone. -/
theorem later4 {w W W' : World} {p1 p2 p3 p4 : Addr} {v1 v2 v3 v4 : Value} (h : W.cell? p1 = some v1 ∧ W.cell? p2 = some v2 ∧ W.cell? p3 = some v3 ∧ W.cell? p4 = some v4 ∧ Below w.heap.size w W) (hb : Below W.heap.size W W') :
    W'.cell? p1 = some v1 ∧ W'.cell? p2 = some v2 ∧ W'.cell? p3 = some v3 ∧ W'.cell? p4 = some v4 ∧ Below w.heap.size w W' :=
  ⟨cell_later2 h.1 hb, cell_later2 h.2.1 hb, cell_later2 h.2.2.1 hb, cell_later2 h.2.2.2.1 hb, h.2.2.2.2.trans (hb.mono h.2.2.2.2.size)⟩
/-- Two cells stand behind what makes memory alone. -/
theorem later2 {w W W' : World} {p1 p2 : Addr} {v1 v2 : Value} (h : W.cell? p1 = some v1 ∧ W.cell? p2 = some v2 ∧ Below w.heap.size w W) (hb : Below W.heap.size W W') :
    W'.cell? p1 = some v1 ∧ W'.cell? p2 = some v2 ∧ Below w.heap.size w W' :=
  ⟨cell_later2 h.1 hb, cell_later2 h.2.1 hb, h.2.2.trans (hb.mono h.2.2.size)⟩

/-- A key is right. -/
def okK (n v : Int) : Bool := decide ((1 ≤ n ∧ n ≤ 15) ∧ 1 ≤ v ∧ v ≤ 1000000000)
theorem l1InK_any (n lo hi : Int) (w : World) :
    Calls Tryz.prog 57 #[.int .i64 n, .int .i64 lo, .int .i64 hi] w fun e w' => e = .returned (.bool (decide (lo ≤ n ∧ n ≤ hi))) ∧ w' = w := by
  by_cases h1 : lo ≤ n
  · by_cases h2 : n ≤ hi
    · rw [decide_eq_true ⟨h1, h2⟩]
      go_enter Tryz.func57, Tryz.ntmps57
      go_wp2
      go_ret
      exact ⟨by simp, rfl⟩
    · rw [decide_eq_false (fun h => h2 h.2)]
      go_enter Tryz.func57, Tryz.ntmps57
      go_wp2
      go_ret
      exact ⟨by simp, rfl⟩
  · rw [decide_eq_false (fun h => h1 h.1)]
    go_enter Tryz.func57, Tryz.ntmps57
    go_wp2
    go_ret
    exact ⟨rfl, rfl⟩
theorem isNodeK_any (n : Int) (w : World) :
    Calls Tryz.prog 85 #[.int .i64 n] w fun e w' => e = .returned (.bool (decide (1 ≤ n ∧ n ≤ 15))) ∧ w' = w := by
  by_cases h1 : 1 ≤ n
  · by_cases h2 : n ≤ 15
    · rw [decide_eq_true ⟨h1, h2⟩]
      go_enter Tryz.func85, Tryz.ntmps85
      go_wp2
      go_ret
      exact ⟨by simp, rfl⟩
    · rw [decide_eq_false (fun h => h2 h.2)]
      go_enter Tryz.func85, Tryz.ntmps85
      go_wp2
      go_ret
      exact ⟨by simp, rfl⟩
  · rw [decide_eq_false (fun h => h1 h.1)]
    go_enter Tryz.func85, Tryz.ntmps85
    go_wp2
    go_ret
    exact ⟨rfl, rfl⟩

theorem l2Key_any (n v : Int) (w : World) :
    Calls Tryz.prog 72 #[kv n v] w fun e w' => e = .returned (.bool (okK n v)) ∧ w' = w.alloc (kb n v) := by
  by_cases h1 : 1 ≤ n ∧ n ≤ 15
  · have hd : decide (1 ≤ n ∧ n ≤ 15) = true := decide_eq_true h1
    have hr : okK n v = decide (1 ≤ v ∧ v ≤ 1000000000) := by unfold okK; rw [decide_eq_decide]; exact ⟨fun h => h.2, fun h => ⟨h1, h⟩⟩
    rw [hr]
    go_enter Tryz.func72, Tryz.ntmps72
    go_wp2_with fail
    refine (l1InK_any _ _ _ _).mono ?_
    rintro e w' ⟨rfl, rfl⟩
    rw [hd]
    go_wp2_with fail
    refine (l1InK_any _ _ _ _).mono ?_
    rintro e w' ⟨rfl, rfl⟩
    go_wp2
    go_ret
    exact ⟨by simp, rfl⟩
  · have hd : decide (1 ≤ n ∧ n ≤ 15) = false := decide_eq_false h1
    have hr : okK n v = false := decide_eq_false fun h => h1 h.1
    rw [hr]
    go_enter Tryz.func72, Tryz.ntmps72
    go_wp2_with fail
    refine (l1InK_any _ _ _ _).mono ?_
    rintro e w' ⟨rfl, rfl⟩
    rw [hd]
    go_wp2
    go_ret
    exact ⟨rfl, rfl⟩

theorem keyOk_any (n v : Int) (w : World) :
    Calls Tryz.prog 68 #[kv n v] w fun e w' => e = .returned (.bool (okK n v)) ∧ w' = w.alloc (kb n v) := by
  by_cases h1 : 1 ≤ n ∧ n ≤ 15
  · have hd : decide (1 ≤ n ∧ n ≤ 15) = true := decide_eq_true h1
    by_cases h2 : 1 ≤ v
    · have hr : okK n v = decide (v ≤ 1000000000) := by unfold okK; rw [decide_eq_decide]; exact ⟨fun h => h.2.2, fun h => ⟨h1, h2, h⟩⟩
      rw [hr]
      go_enter Tryz.func68, Tryz.ntmps68
      go_wp2_with fail
      refine (isNodeK_any _ _).mono ?_
      rintro e w' ⟨rfl, rfl⟩
      rw [hd]
      go_wp2
      go_ret
      exact ⟨rfl, rfl⟩
    · have hr : okK n v = false := decide_eq_false fun h => h2 h.2.1
      have hd2 : decide (1 ≤ v) = false := decide_eq_false h2
      rw [hr]
      go_enter Tryz.func68, Tryz.ntmps68
      go_wp2_with fail
      refine (isNodeK_any _ _).mono ?_
      rintro e w' ⟨rfl, rfl⟩
      rw [hd]
      go_wp2
      go_ret
      exact ⟨rfl, rfl⟩
  · have hd : decide (1 ≤ n ∧ n ≤ 15) = false := decide_eq_false h1
    have hr : okK n v = false := decide_eq_false fun h => h1 h.1
    rw [hr]
    go_enter Tryz.func68, Tryz.ntmps68
    go_wp2_with fail
    refine (isNodeK_any _ _).mono ?_
    rintro e w' ⟨rfl, rfl⟩
    rw [hd]
    go_wp2
    go_ret
    exact ⟨rfl, rfl⟩
end Go.Proofs.YtapmgbnhobpahaaGreatDoor
/- The contracts of KnownOk, of the program and of the model: at most 200 right keys that rise. -/
namespace Go.Proofs.YtapmgbnhobpahaaGreatDoor
open Go.RowKit

def kAt (ks : List (Int × Int)) (i : Nat) : Int × Int := ks.getD i (0, 0)
theorem kAt_get (ks : List (Int × Int)) (i : Nat) (h : i < ks.length) : kAt ks i = ks[i] := by simp [kAt, h]
def okAt (ks : List (Int × Int)) (i : Nat) : Bool := okK (kAt ks i).1 (kAt ks i).2 && (decide (i = 0) || aheadB (kAt ks (i - 1)).1 (kAt ks (i - 1)).2 (kAt ks i).1 (kAt ks i).2)
def allTo (ks : List (Int × Int)) (m : Nat) : Bool := (List.range m).all (okAt ks)
theorem allTo_succ (ks : List (Int × Int)) (m : Nat) : allTo ks (m + 1) = (allTo ks m && okAt ks m) := by simp [allTo, List.range_succ]
theorem allTo_false {ks : List (Int × Int)} {m n : Nat} (h : okAt ks m = false) (hn : m < n) : allTo ks n = false := by
  simp only [allTo, List.all_eq_false]
  exact ⟨m, List.mem_range.2 hn, by simp [h]⟩
def knownB (ks : List (Int × Int)) : Bool := decide (ks.length ≤ 200) && allTo ks ks.length
theorem one_below (w : World) (o : Obj) : Below w.heap.size w (w.alloc o) := (Below.refl _ _).alloc (Nat.le_refl _) o
theorem l2Key_below (n v : Int) (w : World) :
    Calls Tryz.prog 72 #[kv n v] w fun e w' => e = .returned (.bool (okK n v)) ∧ Below w.heap.size w w' := (l2Key_any n v w).mono fun _ _ h => ⟨h.1, h.2 ▸ one_below _ _⟩
theorem keyOk_below (n v : Int) (w : World) :
    Calls Tryz.prog 68 #[kv n v] w fun e w' => e = .returned (.bool (okK n v)) ∧ Below w.heap.size w w' := (keyOk_any n v w).mono fun _ _ h => ⟨h.1, h.2 ▸ one_below _ _⟩
end Go.Proofs.YtapmgbnhobpahaaGreatDoor
