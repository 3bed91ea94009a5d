
/- What stands ahead of a byte and behind it, a number in decimal, as the model reads them. -/
import Derived.Test.YtmlmlmcmhpahpaaDoorTn
namespace Go.Proofs.YtmlmlmcmhpahpaaDoor
open Go.RowKit Go.Shelf
namespace Tx

/-- What stands ahead of the first such byte, and behind it. -/
def cut (c : UInt8) : List UInt8 → List UInt8 × List UInt8 × Bool
  | [] => ([], [], false)
  | x :: l => if x = c then ([], l, true) else (x :: (cut c l).1, (cut c l).2.1, (cut c l).2.2)
theorem cut_at (c : UInt8) : ∀ (l : List UInt8) (k : Nat) (hk : k < l.length), (∀ j (hj : j < l.length), j < k → l[j] ≠ c) → l[k] = c → cut c l = (l.take k, l.drop (k + 1), true)
  | x :: l, 0, _, _, h => by
    have h : x = c := h
    simp [cut, h]
  | x :: l, k + 1, hk, h1, h => by
    have hx : x ≠ c := h1 0 (by simp) (by omega)
    have := cut_at c l k (by simpa using hk) (fun j hj hjk => h1 (j + 1) (by simpa using hj) (by omega)) h
    simp [cut, hx, this]
theorem cut_not (c : UInt8) : ∀ (l : List UInt8), (∀ j (hj : j < l.length), l[j] ≠ c) → cut c l = (l, [], false)
  | [], _ => rfl
  | x :: l, h => by
    have hx : x ≠ c := h 0 (by simp)
    have := cut_not c l (fun j hj => h (j + 1) (by simpa using hj))
    simp [cut, hx, this]
abbrev st (l : List UInt8) : Value := .string ⟨l.toArray⟩

theorem l1Cut_any (c : UInt8) (l : List UInt8) (w : World) (hl : l.length ≤ 1048576) :
    Calls Tryd.prog 26 #[st l, .int .u8 c.toNat] w fun e w' => e = .returned (.tuple #[st (cut c l).1, st (cut c l).2.1, .bool (cut c l).2.2]) ∧ ∃ q, w' = w.drewN q := by
  go_enter Tryd.func26, Tryd.ntmps26
  go_wp2
  go_loop [7] (fun i => ∃ k : Nat, i = .int .i64 (k : Int) ∧ k ≤ l.length ∧ Hid (∀ j (hj : j < l.length), j < k → l[j] ≠ c)) (fun i => l.length - (intOf i).toNat)
  case atStart => exact ⟨0, rfl, Nat.zero_le _, fun j _ h => absurd h (Nat.not_lt_zero _)⟩
  case round =>
    obtain ⟨k, rfl, hk, HP⟩ := hrel
    by_cases hlt : k < l.length
    · have hi : (k : Int) < (l.length : Int) := by omega
      have hk1 : (k : Int) + 1 ≤ (l.length : Int) := by omega
      have HX := hidT (str_at l k hlt)
      generalize hx : (⟨l.toArray⟩ : ByteArray)[k]'(by simpa [ByteArray.size] using hlt) = x at HX
      by_cases hc : (x.toNat : Int) = (c.toNat : Int)
      · have HE := hidT (cut_at c l k hlt HP.out (by rw [← HX.out]; exact UInt8.toNat_inj.1 (by omega)))
        go_wp2
        go_quiet (fail)
        go_wp2
        go_ret3
        refine ⟨?_, _, rfl⟩
        rw [HE.out]
        show Ending.returned (.tuple #[.string ((⟨l.toArray⟩ : ByteArray).extract 0 k), .string ((⟨l.toArray⟩ : ByteArray).extract (k + 1) l.length), .bool true]) = _
        rw [ext_take, ext_drop _ _ _ rfl]
      · go_wp2
        refine ⟨⟨k + 1, by go_num, by omega, fun j hj hjk => ?_⟩, by simp [intOf]; omega⟩
        by_cases e : j = k
        · subst e
          rw [← HX.out]
          intro e
          exact hc (by rw [e])
        · exact HP.out j hj (by omega)
    · have hi : ¬ (k : Int) < (l.length : Int) := by omega
      have HE := hidT (cut_not c l (fun j hj => HP.out j hj (by omega)))
      go_wp2
      go_ret3
      exact ⟨by rw [HE.out]; rfl, 0, rfl⟩
/-- A number in decimal, and whether it is one. -/
def pInt (s : List UInt8) : Int × Bool := if numOk s = true ∧ s.all isD = true then ((numV s : Int), true) else (0, false)
theorem pInt_not {s : List UInt8} (h : ¬ (numOk s = true ∧ s.all isD = true)) : pInt s = (0, false) := if_neg h
theorem l1Int_any (s : List UInt8) (w : World) (hl : s.length ≤ 1048576) :
    Calls Tryd.prog 27 #[st s] w fun e w' => e = .returned (.tuple #[.int .i64 (pInt s).1, .bool (pInt s).2]) ∧ w' = w := by
  cases s with
  | nil =>
    have HE := hidT (pInt_not (s := []) (by simp [numOk]))
    go_enter Tryd.func27, Tryd.ntmps27
    go_wp2
    go_ret2
    exact ⟨by rw [HE.out]; rfl, rfl⟩
  | cons d ds =>
    by_cases h10 : 10 < ds.length + 1
    · have h10' : (10 : Int) < (ds.length : Int) + 1 := by omega
      have HE := hidT (pInt_not (s := d :: ds) (by simp [numOk]; omega))
      go_enter Tryd.func27, Tryd.ntmps27
      go_wp2
      go_ret2
      exact ⟨by rw [HE.out]; rfl, rfl⟩
    · have h10' : ¬ (10 : Int) < (ds.length : Int) + 1 := by omega
      have h10'' : (ds.length : Int) + 1 ≤ 10 := by omega
      by_cases hd : d = 48 ∧ 1 < ds.length + 1
      · have h0 : (((⟨(d :: ds).toArray⟩ : ByteArray)[0]'(by simp [ByteArray.size])).toNat : Int) = 48 := by rw [str_at (d :: ds) 0 (by simp)]; simp [hd.1]
        have h1 : (1 : Int) < (ds.length : Int) + 1 := by omega
        have HE := hidT (pInt_not (s := d :: ds) (by
          have : ds ≠ [] := by intro e; rw [e] at hd; simp at hd
          simp [numOk, hd.1, this]))
        have HD := hidT hd
        clear hd
        go_enter Tryd.func27, Tryd.ntmps27
        go_wp2
        go_ret2
        exact ⟨by rw [HE.out]; rfl, rfl⟩
      · have HK := hidT (show numOk (d :: ds) = true by
          simp [numOk]
          refine ⟨by omega, ?_⟩
          by_cases e : d = 48
          · right; exact ⟨e, by
              have : ¬ 1 < ds.length + 1 := fun h => hd ⟨e, h⟩
              exact List.length_eq_zero_iff.1 (by omega)⟩
          · exact .inl e)
        have h0 : (((⟨(d :: ds).toArray⟩ : ByteArray)[0]'(by simp [ByteArray.size])).toNat : Int) = 48 → ¬ (1 : Int) < (ds.length : Int) + 1 := by
          rw [str_at (d :: ds) 0 (by simp)]
          intro e h
          exact hd ⟨UInt8.toNat_inj.1 (by simp at e; simpa using (by omega : d.toNat = 48)), by omega⟩
        obtain ⟨N, HLEN⟩ : ∃ N, Hid ((d :: ds).length = N) := ⟨_, rfl⟩
        have hN10 : N ≤ 10 := by have := HLEN.out; simp at this; omega
        have hlenI : (ds.length : Int) + 1 = (N : Int) := by have := HLEN.out; simp at this; omega
        have HB0 := hidT h0
        clear h0
        by_cases hz : (((⟨(d :: ds).toArray⟩ : ByteArray)[0]'(by simp [ByteArray.size])).toNat : Int) = 48
        · have hz1 := HB0.out hz
          rw [hlenI] at hz1
          go_enter Tryd.func27, Tryd.ntmps27
          go_wp2
          go_loop [4, 5] (fun nv iv => ∃ k : Nat, k ≤ N ∧ iv = .int .i64 (k : Int) ∧ nv = .int .i64 (numV ((d :: ds).take k) : Int) ∧ Hid (∀ x ∈ (d :: ds).take k, isD x = true)) (fun _ iv => N - (intOf iv).toNat)
          case atStart => exact ⟨0, Nat.zero_le _, rfl, by simp [numV], by show ∀ x ∈ (d :: ds).take 0, isD x = true; simp⟩
          case round =>
            obtain ⟨k, hk, rfl, rfl, HP⟩ := hrel
            by_cases hlt : k < N
            · have hi : (k : Int) < (N : Int) := by omega
              have hlt' : k < (d :: ds).length := by rw [HLEN.out]; exact hlt
              have HX := hidT (str_at (d :: ds) k hlt')
              have HM := hidT (List.getElem_mem hlt')
              generalize hx : (⟨(d :: ds).toArray⟩ : ByteArray)[k]'(by simpa [ByteArray.size] using hlt') = x at HX
              rw [← HX.out] at HM
              have HNO : Hid (isD x = false → pInt (d :: ds) = (0, false)) := fun h => pInt_not (by
                rintro ⟨_, h2⟩
                have := List.all_eq_true.1 h2 x HM.out
                rw [h] at this
                cases this)
              have HV := hidT (numV_lt k ((d :: ds).take k) (by rw [List.length_take]; omega) HP.out)
              have HV10 : Hid (numV ((d :: ds).take k) < 1000000000) := Nat.lt_of_lt_of_le HV.out (Nat.pow_le_pow_right (n := 10) (by omega) (show k ≤ 9 by omega))
              have HT := hidT (take_snoc (d :: ds) k hlt')
              rw [← HX.out] at HT
              generalize hv : numV ((d :: ds).take k) = v at HV10 ⊢
              have hv1 := HV10.out
              by_cases h48 : (x.toNat : Int) < 48
              · have HE := hidT (HNO.out (by simp [isD]; omega))
                go_wp2
                go_ret2
                exact ⟨by rw [HE.out]; rfl, rfl⟩
              · by_cases h57 : (57 : Int) < (x.toNat : Int)
                · have HE := hidT (HNO.out (by simp [isD]; omega))
                  go_wp2
                  go_ret2
                  exact ⟨by rw [HE.out]; rfl, rfl⟩
                · have hx1 : 48 ≤ x.toNat := by omega
                  go_wp2
                  refine ⟨⟨k + 1, by omega, by go_num, ?_, ?_⟩, by simp [intOf]; omega⟩
                  · rw [HT.out, numV_snoc, hv]
                    congr 1
                    omega
                  · show ∀ y ∈ (d :: ds).take (k + 1), isD y = true
                    rw [HT.out]
                    intro y hy
                    rcases List.mem_append.1 hy with h | h
                    · exact HP.out y h
                    · rw [List.mem_singleton.1 h]
                      simp [isD]
                      omega
            · have hi : ¬ (k : Int) < (N : Int) := by omega
              have hkN : k = N := by omega
              have HKT := hidT (show (d :: ds).take k = d :: ds by rw [hkN, ← HLEN.out]; exact List.take_length)
              have HE := hidT (show pInt (d :: ds) = ((numV (d :: ds) : Int), true) from if_pos ⟨HK.out, List.all_eq_true.2 (by have := HP.out; rw [HKT.out] at this; exact this)⟩)
              clear hkN
              go_wp2
              go_ret2
              refine ⟨?_, rfl⟩
              rw [HE.out]
              exact congrArg (fun z => Ending.returned (.tuple #[.int .i64 (numV z : Int), .bool true])) HKT.out
        · go_enter Tryd.func27, Tryd.ntmps27
          go_wp2
          go_loop [4, 5] (fun nv iv => ∃ k : Nat, k ≤ N ∧ iv = .int .i64 (k : Int) ∧ nv = .int .i64 (numV ((d :: ds).take k) : Int) ∧ Hid (∀ x ∈ (d :: ds).take k, isD x = true)) (fun _ iv => N - (intOf iv).toNat)
          case atStart => exact ⟨0, Nat.zero_le _, rfl, by simp [numV], by show ∀ x ∈ (d :: ds).take 0, isD x = true; simp⟩
          case round =>
            obtain ⟨k, hk, rfl, rfl, HP⟩ := hrel
            by_cases hlt : k < N
            · have hi : (k : Int) < (N : Int) := by omega
              have hlt' : k < (d :: ds).length := by rw [HLEN.out]; exact hlt
              have HX := hidT (str_at (d :: ds) k hlt')
              have HM := hidT (List.getElem_mem hlt')
              generalize hx : (⟨(d :: ds).toArray⟩ : ByteArray)[k]'(by simpa [ByteArray.size] using hlt') = x at HX
              rw [← HX.out] at HM
              have HNO : Hid (isD x = false → pInt (d :: ds) = (0, false)) := fun h => pInt_not (by
                rintro ⟨_, h2⟩
                have := List.all_eq_true.1 h2 x HM.out
                rw [h] at this
                cases this)
              have HV := hidT (numV_lt k ((d :: ds).take k) (by rw [List.length_take]; omega) HP.out)
              have HV10 : Hid (numV ((d :: ds).take k) < 1000000000) := Nat.lt_of_lt_of_le HV.out (Nat.pow_le_pow_right (n := 10) (by omega) (show k ≤ 9 by omega))
              have HT := hidT (take_snoc (d :: ds) k hlt')
              rw [← HX.out] at HT
              generalize hv : numV ((d :: ds).take k) = v at HV10 ⊢
              have hv1 := HV10.out
              by_cases h48 : (x.toNat : Int) < 48
              · have HE := hidT (HNO.out (by simp [isD]; omega))
                go_wp2
                go_ret2
                exact ⟨by rw [HE.out]; rfl, rfl⟩
              · by_cases h57 : (57 : Int) < (x.toNat : Int)
                · have HE := hidT (HNO.out (by simp [isD]; omega))
                  go_wp2
                  go_ret2
                  exact ⟨by rw [HE.out]; rfl, rfl⟩
                · have hx1 : 48 ≤ x.toNat := by omega
                  go_wp2
                  refine ⟨⟨k + 1, by omega, by go_num, ?_, ?_⟩, by simp [intOf]; omega⟩
                  · rw [HT.out, numV_snoc, hv]
                    congr 1
                    omega
                  · show ∀ y ∈ (d :: ds).take (k + 1), isD y = true
                    rw [HT.out]
                    intro y hy
                    rcases List.mem_append.1 hy with h | h
                    · exact HP.out y h
                    · rw [List.mem_singleton.1 h]
                      simp [isD]
                      omega
            · have hi : ¬ (k : Int) < (N : Int) := by omega
              have hkN : k = N := by omega
              have HKT := hidT (show (d :: ds).take k = d :: ds by rw [hkN, ← HLEN.out]; exact List.take_length)
              have HE := hidT (show pInt (d :: ds) = ((numV (d :: ds) : Int), true) from if_pos ⟨HK.out, List.all_eq_true.2 (by have := HP.out; rw [HKT.out] at this; exact this)⟩)
              clear hkN
              go_wp2
              go_ret2
              refine ⟨?_, rfl⟩
              rw [HE.out]
              exact congrArg (fun z => Ending.returned (.tuple #[.int .i64 (numV z : Int), .bool true])) HKT.out
end Tx
end Go.Proofs.YtmlmlmcmhpahpaaDoor
