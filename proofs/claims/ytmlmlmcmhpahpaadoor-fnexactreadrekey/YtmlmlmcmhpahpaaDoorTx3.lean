
/- Ops as texts: OpText of the model and of the program answer the same text at every op; nothing that was there turns. -/
import Derived.Test.YtmlmlmcmhpahpaaDoorTx1
import Derived.Test.YtmlmlmcmhpahpaaDoorTx2
namespace Go.Proofs.YtmlmlmcmhpahpaaDoor
open Go.RowKit
namespace Tx

abbrev opb (k m : Int) : Obj := .cells #[.int .i64 k, .int .i64 m] 25
abbrev lopb (k m : Int) : Obj := .cells #[.int .i64 k, .int .i64 m] 23
theorem hidT {p : Prop} (h : p) : Hid p := h
theorem oneB (w : World) (o : Obj) : Below w.heap.size w (w.alloc o) := (Below.refl _ _).alloc (Nat.le_refl _) _
/-- Is an op of a right form? -/
def formB (k m : Int) : Bool := if k = 1 ∨ k = 2 then decide (1 ≤ m) && decide (m ≤ 20) else decide (k = 3) && decide (m = 0)
/-- An op's text. -/
def opT (k m : Int) : List UInt8 := if k = 1 then [106, 111, 105, 110, 32] ++ Lib.decDigits m.toNat else if k = 2 then [108, 101, 97, 118, 101, 32] ++ Lib.decDigits m.toNat else [114, 101, 102, 114, 101, 115, 104]
def opText (k m : Int) : List UInt8 := if formB k m = true then opT k m else []

theorem l1In_any (a b c : Int) (w : World) :
    Calls Tryd.prog 43 #[.int .i64 a, .int .i64 b, .int .i64 c] w fun e w' => e = .returned (.bool (decide (b ≤ a) && decide (a ≤ c))) ∧ w' = w := by
  by_cases h : b ≤ a
  · go_enter Tryd.func43, Tryd.ntmps43
    go_wp2
    go_ret
    simp [h]
  · go_enter Tryd.func43, Tryd.ntmps43
    go_wp2
    go_ret
    simp; omega
theorem isMember_any (a : Int) (w : World) :
    Calls Tryd.prog 60 #[.int .i64 a] w fun e w' => e = .returned (.bool (decide (1 ≤ a) && decide (a ≤ 20))) ∧ w' = w := by
  by_cases h : 1 ≤ a
  · go_enter Tryd.func60, Tryd.ntmps60
    go_wp2
    go_ret
    simp [h]
  · go_enter Tryd.func60, Tryd.ntmps60
    go_wp2
    go_ret
    simp; omega

theorem decimal_small (i : Nat) (hi : i < 100) (w : World) :
    Calls Tryd.prog 25 #[.int .i64 i] w fun e w' => e = .returned (.string ⟨(Lib.decDigits i).toArray⟩) ∧ w' = w := by
  go_enter Tryd.func25, Tryd.ntmps25
  go_wp2_with (go_at_call 45; refine (formatSmall i hi _).mono ?_; rintro e w' ⟨rfl, rfl⟩)
  go_ret
  exact ⟨rfl, rfl⟩

theorem toOp_any (k m : Int) (w : World) :
    Calls Tryd.prog 8 #[kv k m] w fun e w' => e = .returned (kv k m) ∧ Below w.heap.size w w' := by
  go_enter Tryd.func8, Tryd.ntmps8
  go_wp2
  refine bodyPost_ret (v := kv k m) (by simp [results, Tryd.results8, go_sem]) rfl ⟨rfl, ?_⟩
  exact (((Below.refl _ _).alloc (Nat.le_refl _) _).alloc (by simp) _).alloc (by simp; omega) _

set_option maxRecDepth 100000 in
theorem l3Form_any (k m : Int) (w : World) :
    Calls Tryd.prog 22 #[kv k m] w fun e w' => e = .returned (.bool (formB k m)) ∧ Below w.heap.size w w' := by
  by_cases h1 : k = 1
  · have h1' : (k == 1) = true := by simpa using h1
    have HF := hidT (show formB k m = (decide (1 ≤ m) && decide (m ≤ 20)) by simp [formB, h1])
    go_enter Tryd.func22, Tryd.ntmps22
    go_wp2_with (go_at_call 43; refine (l1In_any _ _ _ _).mono ?_; rintro e w' ⟨rfl, rfl⟩)
    go_ret
    exact ⟨by rw [HF.out]; rfl, oneB _ _⟩
  have h1' : (k == 1) = false := by simpa using h1
  by_cases h2 : k = 2
  · have h2' : (k == 2) = true := by simpa using h2
    have HF := hidT (show formB k m = (decide (1 ≤ m) && decide (m ≤ 20)) by simp [formB, h2])
    go_enter Tryd.func22, Tryd.ntmps22
    go_wp2_with (go_at_call 43; refine (l1In_any _ _ _ _).mono ?_; rintro e w' ⟨rfl, rfl⟩)
    go_ret
    exact ⟨by rw [HF.out]; rfl, oneB _ _⟩
  have h2' : (k == 2) = false := by simpa using h2
  have HF := hidT (show formB k m = (decide (k = 3) && decide (m = 0)) by simp [formB, h1, h2])
  by_cases h3 : k = 3
  · have h3' : (k == 3) = true := by simpa using h3
    go_enter Tryd.func22, Tryd.ntmps22
    go_wp2
    go_ret
    exact ⟨by rw [HF.out]; by_cases h4 : m = 0 <;> simp [h3, h4], oneB _ _⟩
  have h3' : (k == 3) = false := by simpa using h3
  go_enter Tryd.func22, Tryd.ntmps22
  go_wp2
  go_ret
  exact ⟨by rw [HF.out]; simp [h3], oneB _ _⟩

set_option maxRecDepth 100000 in
theorem specOpText_any (k m : Int) (w : World) :
    Calls Tryd.prog 7 #[kv k m] w fun e w' => e = .returned (.string ⟨(opText k m).toArray⟩) ∧ Below w.heap.size w w' := by
  cases hF : formB k m with
  | false =>
    have HT := hidT (show opText k m = [] by simp [opText, hF])
    go_enter Tryd.func7, Tryd.ntmps7
    go_wp2_with fail
    refine (l3Form_any _ _ _).mono ?_
    rintro e w1 ⟨rfl, hb⟩
    rw [hF]
    have HB := hidT ((oneB _ _).trans (hb.mono (by simp)))
    clear hb
    go_wp2
    go_ret
    exact ⟨by rw [HT.out]; rfl, HB.out⟩
  | true =>
    by_cases h1 : k = 1
    · subst h1
      have hm : 1 ≤ m ∧ m ≤ 20 := by simpa [formB] using hF
      obtain ⟨n, rfl⟩ : ∃ n : Nat, m = (n : Int) := ⟨m.toNat, by omega⟩
      have HT := hidT (show opText 1 (n : Int) = [106, 111, 105, 110, 32] ++ Lib.decDigits n by simp [opText, hF, opT])
      have hl := dec_len19 (u := n) (by omega)
      have ha := fun w => run_string_add_lists (P := Tryd.prog) w [106, 111, 105, 110, 32] (Lib.decDigits n) (by simp) (by omega)
      go_enter Tryd.func7, Tryd.ntmps7
      go_wp2_with fail
      refine (l3Form_any _ _ _).mono ?_
      rintro e w1 ⟨rfl, hb⟩
      rw [hF]
      have hc0 : w1.cell? ⟨w.heap.size, 0, none⟩ = some (.int .i64 1) := ((bcell hb).1 _ 0 (by simp)).trans (by simp)
      have hc1 : w1.cell? ⟨w.heap.size, 1, none⟩ = some (.int .i64 (n : Int)) := ((bcell hb).1 _ 1 (by simp)).trans (by simp)
      have HB := hidT ((oneB _ _).trans (hb.mono (by simp)))
      clear hb
      go_wp2_with (go_at_call 23; refine (l1Dec_any n (by omega) _).mono ?_; rintro e w2 ⟨rfl, hb2⟩)
      go_ret
      exact ⟨by rw [HT.out]; rfl, HB.out.trans (hb2.mono HB.out.size)⟩
    by_cases h2 : k = 2
    · subst h2
      have hm : 1 ≤ m ∧ m ≤ 20 := by simpa [formB] using hF
      obtain ⟨n, rfl⟩ : ∃ n : Nat, m = (n : Int) := ⟨m.toNat, by omega⟩
      have HT := hidT (show opText 2 (n : Int) = [108, 101, 97, 118, 101, 32] ++ Lib.decDigits n by simp [opText, hF, opT])
      have hl := dec_len19 (u := n) (by omega)
      have ha := fun w => run_string_add_lists (P := Tryd.prog) w [108, 101, 97, 118, 101, 32] (Lib.decDigits n) (by simp) (by omega)
      go_enter Tryd.func7, Tryd.ntmps7
      go_wp2_with fail
      refine (l3Form_any _ _ _).mono ?_
      rintro e w1 ⟨rfl, hb⟩
      rw [hF]
      have hc0 : w1.cell? ⟨w.heap.size, 0, none⟩ = some (.int .i64 2) := ((bcell hb).1 _ 0 (by simp)).trans (by simp)
      have hc1 : w1.cell? ⟨w.heap.size, 1, none⟩ = some (.int .i64 (n : Int)) := ((bcell hb).1 _ 1 (by simp)).trans (by simp)
      have HB := hidT ((oneB _ _).trans (hb.mono (by simp)))
      clear hb
      go_wp2_with (go_at_call 23; refine (l1Dec_any n (by omega) _).mono ?_; rintro e w2 ⟨rfl, hb2⟩)
      go_ret
      exact ⟨by rw [HT.out]; rfl, HB.out.trans (hb2.mono HB.out.size)⟩
    have h3 : k = 3 ∧ m = 0 := by simpa [formB, h1, h2] using hF
    obtain ⟨rfl, rfl⟩ := h3
    have HT := hidT (show opText 3 0 = [114, 101, 102, 114, 101, 115, 104] by simp [opText, hF, opT])
    go_enter Tryd.func7, Tryd.ntmps7
    go_wp2_with fail
    refine (l3Form_any _ _ _).mono ?_
    rintro e w1 ⟨rfl, hb⟩
    rw [hF]
    have hc0 : w1.cell? ⟨w.heap.size, 0, none⟩ = some (.int .i64 3) := ((bcell hb).1 _ 0 (by simp)).trans (by simp)
    have HB := hidT ((oneB _ _).trans (hb.mono (by simp)))
    clear hb
    go_wp2
    go_ret
    exact ⟨by rw [HT.out]; rfl, HB.out⟩

theorem decimal_smallB (i : Nat) (hi : i < 100) (w : World) :
    Calls Tryd.prog 25 #[.int .i64 i] w fun e w' => e = .returned (.string ⟨(Lib.decDigits i).toArray⟩) ∧ Below w.heap.size w w' :=
  (decimal_small i hi w).mono fun _ _ ⟨h1, h2⟩ => ⟨h1, by rw [h2]; exact Below.refl _ _⟩
/-- What actOf answers for an error: none just where the op is of a right form. -/
def NilJust (b : Bool) (y : Value) : Prop := (b = true ∧ y = .nilIface) ∨ (b = false ∧ ∃ t v, y = .iface t v)
/-- The package's error errForm holds an error. -/
def HasForm (w : World) : Prop := ∃ t v, w.cell? ⟨0, 0, none⟩ = some (.iface t v)
theorem HasForm.since {w w' : World} (h : HasForm w) (hb : Below w.heap.size w w') : HasForm w' := by
  obtain ⟨t, v, h⟩ := h
  exact ⟨t, v, (hb.cell (p := ⟨0, 0, none⟩) (by
    rcases Nat.lt_or_ge 0 w.heap.size with h' | h'
    · exact h'
    · simp [World.cell?, Array.getElem?_eq_none h'] at h)).trans h⟩
theorem actOf_ends {k m : Int} {w : World} {x y : Value} (h : NilJust (formB k m) y) : ∃ x' y', Ending.returned (Value.tuple #[x, y]) = Ending.returned (.tuple #[x', y']) ∧ NilJust (formB k m) y' ∧ Below w.heap.size w (w.alloc (opb k m)) := ⟨x, y, rfl, h, oneB _ _⟩
set_option maxRecDepth 100000 in
theorem actOf_any (k m : Int) (w : World) (hE : HasForm w) :
    Calls Tryd.prog 44 #[kv k m] w fun e w' => ∃ x y, e = .returned (.tuple #[x, y]) ∧ NilJust (formB k m) y ∧ Below w.heap.size w w' := by
  have hE1 := hE.since (oneB w (opb k m))
  obtain ⟨te, ve, hE1⟩ := hE1
  have hE1 : (w.alloc (.cells #[.int .i64 k, .int .i64 m] 25)).cell? ⟨0, 0, none⟩ = some (.iface te ve) := hE1
  clear hE
  by_cases h1 : k = 1
  · subst h1
    by_cases hm : (1 ≤ m ∧ m ≤ 20)
    · have HN := hidT (show NilJust (formB 1 m) .nilIface from .inl ⟨by simp [formB, hm], rfl⟩)
      have hm1 := hm.1
      have hm2 := hm.2
      have hmm : (decide (1 ≤ m) && decide (m ≤ 20)) = true := by simp [hm]
      go_enter Tryd.func44, Tryd.ntmps44
      go_wp2_with (go_at_call 60; refine (isMember_any _ _).mono ?_; rintro e w' ⟨rfl, rfl⟩)
      go_ret2
      exact ⟨_, _, rfl, HN.out, oneB _ _⟩
    · have HN := hidT (show ∀ t v, NilJust (formB 1 m) (.iface t v) from fun t v => .inr ⟨by simp [formB]; omega, t, v, rfl⟩)
      have hmm : (decide (1 ≤ m) && decide (m ≤ 20)) = false := by simp; omega
      go_enter Tryd.func44, Tryd.ntmps44
      go_wp2_with (go_at_call 60; refine (isMember_any _ _).mono ?_; rintro e w' ⟨rfl, rfl⟩)
      go_quiet (fail)
      go_wp2
      go_ret2
      exact ⟨_, _, rfl, HN.out _ _, below_drewN (oneB _ _) _⟩
  have h1' : (k == 1) = false := by simpa using h1
  by_cases h2 : k = 2
  · subst h2
    by_cases hm : (1 ≤ m ∧ m ≤ 20)
    · have HN := hidT (show NilJust (formB 2 m) .nilIface from .inl ⟨by simp [formB, hm], rfl⟩)
      have hm1 := hm.1
      have hm2 := hm.2
      have hmm : (decide (1 ≤ m) && decide (m ≤ 20)) = true := by simp [hm]
      go_enter Tryd.func44, Tryd.ntmps44
      go_wp2_with (go_at_call 60; refine (isMember_any _ _).mono ?_; rintro e w' ⟨rfl, rfl⟩)
      go_ret2
      exact ⟨_, _, rfl, HN.out, oneB _ _⟩
    · have HN := hidT (show ∀ t v, NilJust (formB 2 m) (.iface t v) from fun t v => .inr ⟨by simp [formB]; omega, t, v, rfl⟩)
      have hmm : (decide (1 ≤ m) && decide (m ≤ 20)) = false := by simp; omega
      go_enter Tryd.func44, Tryd.ntmps44
      go_wp2_with (go_at_call 60; refine (isMember_any _ _).mono ?_; rintro e w' ⟨rfl, rfl⟩)
      go_quiet (fail)
      go_wp2
      go_ret2
      exact ⟨_, _, rfl, HN.out _ _, below_drewN (oneB _ _) _⟩
  have h2' : (k == 2) = false := by simpa using h2
  by_cases h3 : k = 3
  · subst h3
    by_cases hm : m = 0
    · have HN := hidT (show NilJust (formB 3 m) .nilIface from .inl ⟨by simp [formB, hm], rfl⟩)
      have hm' : (m == 0) = true := by simpa using hm
      go_enter Tryd.func44, Tryd.ntmps44
      go_wp2_with (go_at_call 60; refine (isMember_any _ _).mono ?_; rintro e w' ⟨rfl, rfl⟩)
      go_ret2
      exact ⟨_, _, rfl, HN.out, oneB _ _⟩
    · have HN := hidT (show ∀ t v, NilJust (formB 3 m) (.iface t v) from fun t v => .inr ⟨by simp [formB, hm], t, v, rfl⟩)
      have hm' : (m == 0) = false := by simpa using hm
      go_enter Tryd.func44, Tryd.ntmps44
      go_wp2_with (go_at_call 60; refine (isMember_any _ _).mono ?_; rintro e w' ⟨rfl, rfl⟩)
      go_quiet (fail)
      go_wp2
      go_ret2
      exact ⟨_, _, rfl, HN.out _ _, below_drewN (oneB _ _) _⟩
  have h3' : (k == 3) = false := by simpa using h3
  have HN := hidT (show ∀ t v, NilJust (formB k m) (.iface t v) from fun t v => .inr ⟨by simp [formB, h1, h2, h3], t, v, rfl⟩)
  go_enter Tryd.func44, Tryd.ntmps44
  go_wp2_with (go_at_call 60; refine (isMember_any _ _).mono ?_; rintro e w' ⟨rfl, rfl⟩)
  go_quiet (fail)
  go_wp2
  go_ret2
  exact ⟨_, _, rfl, HN.out _ _, below_drewN (oneB _ _) _⟩
theorem opOk_any (k m : Int) (w : World) (hE : HasForm w) :
    Calls Tryd.prog 24 #[kv k m] w fun e w' => e = .returned (.bool (formB k m)) ∧ Below w.heap.size w w' := by
  have hE1 := hidT (hE.since (oneB w (opb k m)))
  clear hE
  go_enter Tryd.func24, Tryd.ntmps24
  go_wp2_with fail
  refine (actOf_any _ _ _ hE1.out).mono ?_
  rintro e w1 ⟨x, y, rfl, hn, hb⟩
  have HB := hidT ((oneB _ _).trans (hb.mono (by simp)))
  clear hb hE1
  rcases hn with ⟨hF, rfl⟩ | ⟨hF, t, v, rfl⟩
  · go_wp2
    go_ret
    exact ⟨by rw [hF]; rfl, HB.out⟩
  · go_wp2
    go_ret
    exact ⟨by rw [hF]; rfl, HB.out⟩
end Tx
end Go.Proofs.YtmlmlmcmhpahpaaDoor
