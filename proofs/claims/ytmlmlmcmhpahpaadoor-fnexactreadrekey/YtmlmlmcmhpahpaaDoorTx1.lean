
/- A number in decimal, as the model writes it: for every number from 0 on it is the list of its digits; nothing that was there turns. -/
import Derived.Test.YtmlmlmcmhpahpaaDoorKa
import Derived.Lib.ItoaNum
import Derived.Laws.IdiomStrings
import Derived.Laws.Concat
namespace Go.Proofs.YtmlmlmcmhpahpaaDoor
open Go.RowKit
namespace Tx

theorem dec_len : ∀ (k u : Nat), u < 10 ^ (k + 1) → (Lib.decDigits u).length ≤ k + 1
  | 0, u, h => by rw [Lib.decDigits_one (by omega)]; simp
  | k + 1, u, h => by
    by_cases h1 : u < 10
    · rw [Lib.decDigits_one h1]; simp
    · rw [Lib.decDigits, dif_neg h1]
      have := dec_len k (u / 10) (by rw [Nat.pow_succ] at h; omega)
      simp only [List.length_append, List.length_cons, List.length_nil]
      omega
theorem dec_len19 {u : Nat} (h : u ≤ 9223372036854775807) : (Lib.decDigits u).length ≤ 19 := dec_len 18 u (by omega)

theorem conv1 (w : World) (x : Int) (src dst e : TypeId) (c : Nat) (g : Nat) (hg : g = w.heap.size) (hs : Tryd.prog.underlying src = some (.slice e)) (he : Tryd.prog.underlying e = some (.int .u8)) (hd : Tryd.prog.underlying dst = some .string) :
    (convert src dst (.slice (some ⟨g, 0, none⟩) 1 c)).run Tryd.prog (w.alloc (.cells #[.int .u8 x] e)) = .ok (.string ⟨#[UInt8.ofNat x.toNat]⟩) (w.alloc (.cells #[.int .u8 x] e)) := by
  subst hg
  rw [run_convert_bytes_string _ src dst e _ 1 c hs he hd]
  have hl := run_loadCells_list (P := Tryd.prog) (w.alloc (.cells #[.int .u8 x] e)) ⟨w.heap.size, 0, none⟩ [.int .u8 x] (fun j v hj => by
    match j, hj with
    | 0, hj => simp at hj; subst hj; simp [Addr.add]
    | j + 1, hj => simp at hj)
  exact run_bytesToString _ _ 1 c [x] hl

set_option maxRecDepth 100000 in
theorem l1Dec_any (n : Nat) (hn : n ≤ 9223372036854775807) (w : World) :
    Calls Tryd.prog 23 #[.int .i64 n] w fun e w' => e = .returned (.string ⟨(Lib.decDigits n).toArray⟩) ∧ Below w.heap.size w w' := by
  have HL := dec_len19 hn
  go_enter Tryd.func23, Tryd.ntmps23
  go_wp2
  go_loopw [0, 3] (fun vi vs wr => ∃ (m : Nat) (t : List UInt8), m ≤ n ∧ vi = .int .i64 (m : Int) ∧ vs = .string ⟨t.toArray⟩ ∧ Hid (Lib.decDigits m ++ t = Lib.decDigits n) ∧ Below w.heap.size w wr) (fun vi _ _ => (intOf vi).toNat)
  case atStart => exact ⟨n, [], Nat.le_refl _, rfl, rfl, (show Lib.decDigits n ++ [] = Lib.decDigits n by simp), Below.refl _ _⟩
  case round =>
    obtain ⟨m, t, hm, rfl, rfl, ht, hB⟩ := hrel
    have hlt : t.length ≤ 19 := by
      have := congrArg List.length ht.out
      simp only [List.length_append] at this
      omega
    have hsz := hB.size
    by_cases h : (m : Int) < 10
    · have HM : Hid (m < 10) := by show m < 10; omega
      have hc := conv1 wr (48 + (m : Int)) 74 9 5 1 _ rfl Tryd.underlying74 Tryd.underlying5 Tryd.underlying9
      have ha := run_string_add_lists (P := Tryd.prog) (wr.alloc (.cells #[.int .u8 (48 + (m : Int))] 5)) [UInt8.ofNat (48 + (m : Int)).toNat] t (by simp) (by omega)
      go_wp2
      go_ret
      refine ⟨?_, hB.alloc hsz _⟩
      rw [← ht.out, Lib.decDigits_one HM.out]
      simp [ByteArray.mk_append_mk, UInt8.ofNat_add]
    · have HM : Hid (¬ m < 10) := by show ¬ m < 10; omega
      have hc := conv1 wr (48 + (m : Int) % 10) 74 9 5 1 _ rfl Tryd.underlying74 Tryd.underlying5 Tryd.underlying9
      have ha := run_string_add_lists (P := Tryd.prog) (wr.alloc (.cells #[.int .u8 (48 + (m : Int) % 10)] 5)) [UInt8.ofNat (48 + (m : Int) % 10).toNat] t (by simp) (by omega)
      go_wp2
      go_roundw
      case rel =>
        refine ⟨m / 10, _, by omega, by go_num, rfl, ?_, hB.alloc hsz _⟩
        show Lib.decDigits (m / 10) ++ ([48 + UInt8.ofNat (m % 10)] ++ t) = Lib.decDigits n
        rw [← ht.out, show Lib.decDigits m = Lib.decDigits (m / 10) ++ [UInt8.ofNat (48 + m % 10)] by rw [Lib.decDigits, dif_neg HM.out]]
        simp [UInt8.ofNat_add]
      case measure => simp [intOf]; omega
end Tx
end Go.Proofs.YtmlmlmcmhpahpaaDoor
