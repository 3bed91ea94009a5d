
/- The program's reader: what it takes off a text, byte for byte; where it gives up it panics. -/
import Derived.Test.YtmlmlmcmhpahpaaDoorTx3
import Derived.Maps.AppendAt
import Derived.RangeFuncBox
import Derived.Shelf.Small.Wraps
import Derived.Lib.Strings
namespace Go.Proofs.YtmlmlmcmhpahpaaDoor
open Go.RowKit Go.Shelf
namespace Tx
def Tryd.cutPre_ren : Go.Shelf.Ren := ⟨fun | 103 => 62 | 210 => 75 | 206 => 84 | n => n, fun | 9 => 9 | 4 => 4 | 24 => 106 | 3 => 3 | n => n, fun | n => n⟩
theorem Tryd.cutPre : Go.Proofs.Lays.n103 Tryd.prog Tryd.cutPre_ren := {
  mixed := by kernel_rfl
  f103 := Tryd.func62.trans (congrArg some (by kernel_rfl))
  f206 := Tryd.func84.trans (congrArg some (by kernel_rfl))
  f210 := Tryd.func75.trans (congrArg some (by kernel_rfl))
  t3 := Tryd.underlying3
  a3 := Tryd.isAgg3
  z3 := Tryd.sizeOf3
  v3 := Tryd.zeroValue3
  t4 := Tryd.underlying4
  a4 := Tryd.isAgg4
  z4 := Tryd.sizeOf4
  v4 := Tryd.zeroValue4
  t9 := Tryd.underlying9
  a9 := Tryd.isAgg9
  z9 := Tryd.sizeOf9
  v9 := Tryd.zeroValue9
  t24 := Tryd.underlying106
  a24 := Tryd.isAgg106
  z24 := Tryd.sizeOf106
  v24 := Tryd.zeroValue106 }
theorem cutPrefix_any (s p : ByteArray) (w : World) :
    Calls Tryd.prog 62 #[.string s, .string p] w fun e w' => e = .returned (.tuple #[.string ⟨(Lib.trimPrefix s.data.toList p.data.toList).toArray⟩, .bool (Lib.hasPrefix s.data.toList p.data.toList)]) ∧ w' = w := Any.strings_CutPrefix Tryd.cutPre s p w

/-- Block b is a reader that has l still to read. -/
def Rdr (b : Nat) (l : List UInt8) (w : World) : Prop := w.heap[b]? = some (.cells #[.string ⟨l.toArray⟩] 54)
theorem Rdr.lt {b : Nat} {l : List UInt8} {w : World} (h : Rdr b l w) : b < w.heap.size := (Array.getElem?_eq_some_iff.1 h).1
theorem Rdr.cell {b : Nat} {l : List UInt8} {w : World} (h : Rdr b l w) : w.cell? ⟨b, 0, none⟩ = some (.string ⟨l.toArray⟩) := by
  unfold Rdr at h
  simp [World.cell?, h]
theorem Rdr.frozen {b : Nat} {l : List UInt8} {w : World} (h : Rdr b l w) : w.frozen? ⟨b, 0, none⟩ = false := by
  unfold Rdr at h
  simp [World.frozen?, h]
theorem Rdr.set {b : Nat} {l l' : List UInt8} {w : World} (h : Rdr b l w) : Rdr b l' (w.setCell ⟨b, 0, none⟩ (.string ⟨l'.toArray⟩)) := by
  unfold Rdr at h ⊢
  simp only [World.setCell, Array.getElem?_modify, h]
  simp
theorem Rdr.kept {b : Nat} {l : List UInt8} {w w' : World} (h : Rdr b l w) (hg : w.grownBy w' none) : Rdr b l w' := (hg.block b h.lt (by simp)).trans h
theorem Rdr.since {b : Nat} {l : List UInt8} {w w' : World} (h : Rdr b l w) (hb : Below w.heap.size w w') : Rdr b l w' := (hb.block b h.lt).trans h
theorem setBy {b : Nat} (w : World) (v : Value) : w.grownBy (w.setCell ⟨b, 0, none⟩ v) (some b) := grownBy_setCell' w b v

/-- The package's error errNoText holds ev, and its place is not the reader's. -/
structure NoText (b : Nat) (ev : Value) (w : World) : Prop where
  cell : w.cell? ⟨1, 0, none⟩ = some ev
  err : ∃ t v, ev = .iface t v
  far : b ≠ 1
theorem cell_lt {w : World} {p : Addr} {v : Value} (h : w.cell? p = some v) : p.block < w.heap.size := by
  rcases Nat.lt_or_ge p.block w.heap.size with h' | h'
  · exact h'
  · simp [World.cell?, Array.getElem?_eq_none h'] at h
theorem NoText.grown {b : Nat} {ev : Value} {w w' : World} (h : NoText b ev w) (hg : w.grownBy w' (some b)) : NoText b ev w' :=
  ⟨hg.cell h.cell (by simpa using fun e => h.far e.symm), h.err, h.far⟩
theorem NoText.since {b : Nat} {ev : Value} {w w' : World} (h : NoText b ev w) (hb : Below w.heap.size w w') : NoText b ev w' :=
  ⟨(hb.cell (p := ⟨1, 0, none⟩) (cell_lt h.cell)).trans h.cell, h.err, h.far⟩

abbrev rp (b : Nat) : Value := .pointer (some ⟨b, 0, none⟩)
/-- What a call that panics with errNoText ends in. -/
abbrev gave (ev : Value) : Ending := .panicked [{ v := ev, recovered := false }]

theorem giveUp_any (b : Nat) (ev : Value) (w : World) (hN : NoText b ev w) :
    Calls Tryd.prog 47 #[rp b] w fun e w' => e = gave ev ∧ w' = w := by
  have hc := hN.cell
  obtain ⟨t, v, rfl⟩ := hN.err
  go_enter Tryd.func47, Tryd.ntmps47
  go_wp2
  exact ⟨rfl, rfl, rfl⟩

theorem takes_any (b : Nat) (l q : List UInt8) (w : World) (h : Rdr b l w) :
    Calls Tryd.prog 48 #[rp b, .string ⟨q.toArray⟩] w fun e w' => e = .returned (.bool (Lib.hasPrefix l q)) ∧ w' = w.setCell ⟨b, 0, none⟩ (.string ⟨(Lib.trimPrefix l q).toArray⟩) := by
  have hc := h.cell
  have hf := h.frozen
  go_enter Tryd.func48, Tryd.ntmps48
  go_wp2_with (go_at_call 62; refine (cutPrefix_any _ _ _).mono ?_; rintro e w' ⟨rfl, rfl⟩)
  go_ret
  exact ⟨rfl, rfl⟩
theorem trim_not {l q : List UInt8} (h : Lib.hasPrefix l q = false) : Lib.trimPrefix l q = l := by simp [Lib.trimPrefix, h]
theorem trim_is {l q : List UInt8} (h : Lib.hasPrefix l q = true) : Lib.trimPrefix l q = l.drop q.length := by simp [Lib.trimPrefix, h]

/-- What is left behind a piece; none: it does not stand there. -/
def pNeed (q l : List UInt8) : Option (List UInt8) := if Lib.hasPrefix l q = true then some (l.drop q.length) else none
/-- How a reader's call ends: by a value, with l' still to read; or it gave up. -/
def Ends (b : Nat) (ev : Value) (w : World) (r : Option (Value × List UInt8)) (e : Ending) (w' : World) : Prop :=
  (∃ v l', r = some (v, l') ∧ e = .returned v ∧ Rdr b l' w' ∧ w.grownBy w' (some b)) ∨ (r = none ∧ e = gave ev ∧ w.grownBy w' (some b))
theorem need_any (b : Nat) (ev : Value) (l q : List UInt8) (w : World) (h : Rdr b l w) (hN : NoText b ev w) :
    Calls Tryd.prog 50 #[rp b, .string ⟨q.toArray⟩] w fun e w' => Ends b ev w ((pNeed q l).map fun l' => (.tuple #[], l')) e w' := by
  have HR := hidT h
  have HN := hidT hN
  clear h hN
  cases hp : Lib.hasPrefix l q with
  | true =>
    have HE := hidT (show pNeed q l = some (l.drop q.length) by simp [pNeed, hp])
    have ht := trim_is hp
    go_enter Tryd.func50, Tryd.ntmps50
    go_wp2_with fail
    refine (takes_any b l q w HR.out).mono ?_
    rintro e w' ⟨rfl, rfl⟩
    rw [hp, ht]
    go_wp2
    go_end0
    exact .inl ⟨_, _, by rw [HE.out]; rfl, rfl, HR.out.set, setBy _ _⟩
  | false =>
    have HE := hidT (show pNeed q l = none by simp [pNeed, hp])
    have ht := trim_not hp
    go_enter Tryd.func50, Tryd.ntmps50
    go_wp2_with fail
    refine (takes_any b l q w HR.out).mono ?_
    rintro e w' ⟨rfl, rfl⟩
    rw [hp, ht]
    go_wp2_with (go_at_call 47; refine (giveUp_any b ev _ (HN.out.grown (setBy _ _))).mono ?_; rintro e w' ⟨rfl, rfl⟩)
    exact ⟨rfl, .inr ⟨by rw [HE.out]; rfl, rfl, setBy _ _⟩⟩

/-- Is a byte a digit? -/
def isD (x : UInt8) : Bool := decide (48 ≤ x.toNat) && decide (x.toNat ≤ 57)
theorem while_at {l : List UInt8} {k : Nat} (hk : k ≤ l.length) (h1 : ∀ j (hj : j < l.length), j < k → isD l[j] = true) (h2 : ∀ h : k < l.length, isD l[k] = false) : l.takeWhile isD = l.take k ∧ l.dropWhile isD = l.drop k := by
  induction l generalizing k with
  | nil => simp
  | cons x l ih =>
    cases k with
    | zero =>
      have := h2 (by simp)
      simp at this
      simp [this]
    | succ k =>
      have hx : isD x = true := h1 0 (by simp) (by omega)
      have := ih (k := k) (by simpa using hk) (fun j hj hjk => h1 (j + 1) (by simpa using hj) (by omega)) (fun h => h2 (by simpa using h))
      simp [hx, this.1, this.2]
theorem ext_take (l : List UInt8) (k : Nat) : (⟨l.toArray⟩ : ByteArray).extract 0 k = ⟨(l.take k).toArray⟩ := by
  apply ByteArray.ext
  simp [ByteArray.data_extract]
theorem ext_drop (l : List UInt8) (k n : Nat) (hn : n = l.length) : (⟨l.toArray⟩ : ByteArray).extract k n = ⟨(l.drop k).toArray⟩ := by
  subst hn
  apply ByteArray.ext
  simp [ByteArray.data_extract]
  exact List.take_of_length_le (by simp)
theorem str_at (l : List UInt8) (k : Nat) (h : k < l.length) : (⟨l.toArray⟩ : ByteArray)[k]'(by simpa [ByteArray.size] using h) = l[k] := by
  show l.toArray[k]'(by simpa using h) = l[k]
  simp
theorem digits_end {l : List UInt8} {k : Nat} (hk : k ≤ l.length) (h1 : ∀ j (hj : j < l.length), j < k → isD l[j] = true) (h2 : ∀ h : k < l.length, isD l[k] = false) :
    (⟨l.toArray⟩ : ByteArray).extract 0 k = ⟨(l.takeWhile isD).toArray⟩ ∧ (⟨l.toArray⟩ : ByteArray).extract k l.length = ⟨(l.dropWhile isD).toArray⟩ := by
  obtain ⟨e1, e2⟩ := while_at hk h1 h2
  rw [e1, e2]
  exact ⟨ext_take _ _, ext_drop _ _ _ rfl⟩

theorem digits_any (b : Nat) (l : List UInt8) (w : World) (h : Rdr b l w) (hl : l.length ≤ 1048576) :
    Calls Tryd.prog 63 #[rp b] w fun e w' => e = .returned (.string ⟨(l.takeWhile isD).toArray⟩) ∧ w' = w.setCell ⟨b, 0, none⟩ (.string ⟨(l.dropWhile isD).toArray⟩) := by
  have hc := h.cell
  have hf := h.frozen
  clear h
  go_enter Tryd.func63, Tryd.ntmps63
  go_wp2
  go_loop [3] (fun i => ∃ k : Nat, i = .int .i64 (k : Int) ∧ k ≤ l.length ∧ Hid (∀ j (hj : j < l.length), j < k → isD l[j] = true)) (fun i => l.length - (intOf i).toNat)
  case atStart => exact ⟨0, rfl, Nat.zero_le _, fun j _ h => absurd h (Nat.not_lt_zero _)⟩
  case round =>
    obtain ⟨k, rfl, hk, HP⟩ := hrel
    by_cases hlt : k < l.length
    · have hi : (k : Int) < (l.length : Int) := by omega
      have HX := hidT (str_at l k hlt)
      generalize hx : (⟨l.toArray⟩ : ByteArray)[k]'(by simpa [ByteArray.size] using hlt) = x at HX
      by_cases h48 : (48 : Int) ≤ (x.toNat : Int)
      · by_cases h57 : (x.toNat : Int) ≤ 57
        · go_wp2
          refine ⟨⟨k + 1, by go_num, by omega, fun j hj hjk => ?_⟩, by simp [intOf]; omega⟩
          by_cases e : j = k
          · subst e
            rw [← HX.out]
            simp [isD]
            omega
          · exact HP.out j hj (by omega)
        · have HE := hidT (digits_end hk HP.out (fun _ => by rw [← HX.out]; simp [isD]; omega))
          go_wp2
          go_ret
          exact ⟨congrArg (fun s => Ending.returned (.string s)) HE.out.1, congrArg (fun s => w.setCell ⟨b, 0, none⟩ (.string s)) HE.out.2⟩
      · have HE := hidT (digits_end hk HP.out (fun _ => by rw [← HX.out]; simp [isD]; omega))
        go_wp2
        go_ret
        exact ⟨congrArg (fun s => Ending.returned (.string s)) HE.out.1, congrArg (fun s => w.setCell ⟨b, 0, none⟩ (.string s)) HE.out.2⟩
    · have hi : ¬ (k : Int) < (l.length : Int) := by omega
      have HE := hidT (digits_end hk HP.out (fun h => absurd h hlt))
      go_wp2
      go_ret
      exact ⟨congrArg (fun s => Ending.returned (.string s)) HE.out.1, congrArg (fun s => w.setCell ⟨b, 0, none⟩ (.string s)) HE.out.2⟩
end Tx
end Go.Proofs.YtmlmlmcmhpahpaaDoor
