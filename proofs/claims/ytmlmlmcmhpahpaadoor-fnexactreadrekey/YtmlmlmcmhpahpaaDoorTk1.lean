
/- Keys as texts: l8Key of the model, keyText of the program; decimal of the program at every number from 0 on. -/
import Derived.Test.YtmlmlmcmhpahpaaDoorTc
import Derived.Test.YtmlmlmcmhpahpaaDoorRegS
import Derived.Lib.LaidTab
namespace Go.Proofs.YtmlmlmcmhpahpaaDoor
open Go.RowKit Go.Shelf
namespace Tx

/-- The name of the table of the powers of ten. -/
abbrev powName : String := "internal/strconv.uint64pow10"
theorem gPow : Tryd.prog.globalNamed powName = some 2 := by kernel_rfl
def HasPow (w : World) : Prop := Lib.TabIs Tryd.prog w powName .u64 Lib.pow10Tab
theorem HasPow.since {w w' : World} (h : HasPow w) (hb : Below w.heap.size w w') : HasPow w' := by
  unfold HasPow Lib.TabIs World.var? at h ⊢
  simp only [gPow, Option.bind_some] at h ⊢
  have hlt : 2 < w.heap.size := by
    rcases Nat.lt_or_ge 2 w.heap.size with h' | h'
    · exact h'
    · simp [Array.getElem?_eq_none h'] at h
  rw [hb.block _ hlt]
  exact h
theorem HasPow.grown {w w' : World} {r : Option Nat} (h : HasPow w) (hb : w.grownBy w' r) (hr : r ≠ some 2) : HasPow w' := by
  unfold HasPow Lib.TabIs World.var? at h ⊢
  simp only [gPow, Option.bind_some] at h ⊢
  have hlt : 2 < w.heap.size := by
    rcases Nat.lt_or_ge 2 w.heap.size with h' | h'
    · exact h'
    · simp [Array.getElem?_eq_none h'] at h
  rw [hb.block _ hlt (fun e => hr e.symm)]
  exact h
theorem formatAny (n : Nat) (hn : n ≤ 9223372036854775807) (w : World) (h : HasPow w) :
    Calls Tryd.prog 45 #[.int .i64 n, .int .i64 10] w fun e w' => e = .returned (.string ⟨(Lib.decDigits n).toArray⟩) ∧ Below w.heap.size w w' := by
  refine (Any.strconv_FormatInt_10 Tryd.fmtInt (n : Int) (by omega) (by omega) w h).mono ?_
  rintro e w' ⟨he, k, os, rfl⟩
  refine ⟨?_, ?_⟩
  · rw [he]; simp [Lib.itoa]
  · exact ⟨rfl, rfl, rfl, by simp [Sort.grow], fun i hi => by simp [Sort.grow, Array.getElem?_append_left hi]⟩
theorem decimal_any (n : Nat) (hn : n ≤ 9223372036854775807) (w : World) (h : HasPow w) :
    Calls Tryd.prog 25 #[.int .i64 n] w fun e w' => e = .returned (st (Lib.decDigits n)) ∧ Below w.heap.size w w' := by
  have HP := hidT h
  clear h
  go_enter Tryd.func25, Tryd.ntmps25
  go_wp2_with (go_at_call 45; refine (formatAny n hn _ HP.out).mono ?_; rintro e w' ⟨rfl, hb⟩)
  go_ret
  exact ⟨rfl, hb⟩

/-- A key's text. -/
def keyT (n v : Nat) : List UInt8 := Lib.decDigits n ++ 46 :: Lib.decDigits v
set_option maxRecDepth 100000 in
set_option maxHeartbeats 1000000 in
theorem l8Key_any (n v : Nat) (hn : n ≤ 1000000000) (hv : v ≤ 1000000000) (w : World) :
    Calls Tryd.prog 32 #[kv n v] w fun e w' => e = .returned (st (keyT n v)) ∧ Below w.heap.size w w' := by
  have hl1 := dec_len 9 n (by omega)
  have hl2 := dec_len 9 v (by omega)
  have a1 := fun w => run_string_add_lists (P := Tryd.prog) w (Lib.decDigits n) [46] (by omega) (by simp)
  have a2 := fun w => run_string_add_lists (P := Tryd.prog) w (Lib.decDigits n ++ [46]) (Lib.decDigits v) (by simp; omega) (by omega)
  have hS0 : Cs2 w ⟨w.heap.size, 0, none⟩ (.int .i64 n) ⟨w.heap.size, 1, none⟩ (.int .i64 v) (w.alloc (kb n v)).drew := ⟨by simp, by simp, (oneB _ _).drew⟩
  have hSN := SW.some hS0
  have s1 := fun s : SW (Cs2 w ⟨w.heap.size, 0, none⟩ (.int .i64 n) ⟨w.heap.size, 1, none⟩ (.int .i64 v)) => s.is.1
  have s2 := fun s : SW (Cs2 w ⟨w.heap.size, 0, none⟩ (.int .i64 n) ⟨w.heap.size, 1, none⟩ (.int .i64 v)) => s.is.2.1
  go_enter Tryd.func32, Tryd.ntmps32
  go_wp2
  refine wp_region_S (Cs2 w ⟨w.heap.size, 0, none⟩ (.int .i64 n) ⟨w.heap.size, 1, none⟩ (.int .i64 v)) (by kernel_rfl) (by kernel_rfl) hS0 ?_
  repeat (go_big_quiet_step ((rename_i s0; go_at_call 23; refine (l1Dec_any _ (by omega) _).mono ?_; rintro e w' ⟨rfl, hb⟩; exact ⟨rfl, SW.of (s0.is.later hb)⟩)))
  refine wpQuiet_nil ?_
  rintro _ ⟨s, rfl⟩
  have hBf := s.is.2.2
  generalize s.w = W at hBf ⊢
  clear hS0 hSN s1 s2 s
  go_wp2
  go_ret
  exact ⟨rfl, hBf⟩
set_option maxRecDepth 100000 in
set_option maxHeartbeats 1000000 in
theorem keyText_any (n v : Nat) (hn : n ≤ 1000000000) (hv : v ≤ 1000000000) (w : World) (hP : HasPow w) :
    Calls Tryd.prog 35 #[kv n v] w fun e w' => e = .returned (st (keyT n v)) ∧ Below w.heap.size w w' := by
  have HP := hidT hP
  clear hP
  have hl1 := dec_len 9 n (by omega)
  have hl2 := dec_len 9 v (by omega)
  have a1 := fun w => run_string_add_lists (P := Tryd.prog) w (Lib.decDigits n) [46] (by omega) (by simp)
  have a2 := fun w => run_string_add_lists (P := Tryd.prog) w (Lib.decDigits n ++ [46]) (Lib.decDigits v) (by simp; omega) (by omega)
  have hS0 : Cs2 w ⟨w.heap.size, 0, none⟩ (.int .i64 n) ⟨w.heap.size, 1, none⟩ (.int .i64 v) (w.alloc (kb n v)).drew := ⟨by simp, by simp, (oneB _ _).drew⟩
  have hSN := SW.some hS0
  have s1 := fun s : SW (Cs2 w ⟨w.heap.size, 0, none⟩ (.int .i64 n) ⟨w.heap.size, 1, none⟩ (.int .i64 v)) => s.is.1
  have s2 := fun s : SW (Cs2 w ⟨w.heap.size, 0, none⟩ (.int .i64 n) ⟨w.heap.size, 1, none⟩ (.int .i64 v)) => s.is.2.1
  go_enter Tryd.func35, Tryd.ntmps35
  go_wp2
  refine wp_region_S (Cs2 w ⟨w.heap.size, 0, none⟩ (.int .i64 n) ⟨w.heap.size, 1, none⟩ (.int .i64 v)) (by kernel_rfl) (by kernel_rfl) hS0 ?_
  repeat (go_big_quiet_step ((rename_i s0; go_at_call 25; refine (decimal_any _ (by omega) _ (HP.out.since s0.is.2.2)).mono ?_; rintro e w' ⟨rfl, hb⟩; exact ⟨rfl, SW.of (s0.is.later hb)⟩)))
  refine wpQuiet_nil ?_
  rintro _ ⟨s, rfl⟩
  have hBf := s.is.2.2
  generalize s.w = W at hBf ⊢
  clear hS0 hSN s1 s2 s
  go_wp2
  go_ret
  exact ⟨rfl, hBf⟩
end Tx
end Go.Proofs.YtmlmlmcmhpahpaaDoor
