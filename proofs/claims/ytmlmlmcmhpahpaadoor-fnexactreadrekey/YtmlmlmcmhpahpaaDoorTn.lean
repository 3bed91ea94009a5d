
/- Numbers in decimal: digits and what they say (mathematics alone). -/
import Derived.Test.YtmlmlmcmhpahpaaDoorTr2
namespace Go.Proofs.YtmlmlmcmhpahpaaDoor
open Go.RowKit Go.Shelf
namespace Tx

theorem dec_big {n : Nat} (h : ¬ n < 10) : Lib.decDigits n = Lib.decDigits (n / 10) ++ [UInt8.ofNat (48 + n % 10)] := by rw [Lib.decDigits, dif_neg h]
theorem ofNat_toNat {m : Nat} (h : m < 256) : (UInt8.ofNat m).toNat = m := by simp [UInt8.toNat_ofNat', Nat.mod_eq_of_lt h]
theorem head_app {es r : List UInt8} (h : es ≠ []) : (es ++ r).head? = es.head? := by
  cases es with
  | nil => exact absurd rfl h
  | cons => rfl
theorem numV_dec : ∀ (k n : Nat), n < 10 ^ k → numV (Lib.decDigits n) = n
  | 0, n, h => by
    have : n = 0 := by simpa using h
    subst this
    rw [Lib.decDigits_one (by omega)]; decide
  | k + 1, n, h => by
    by_cases h1 : n < 10
    · rw [Lib.decDigits_one h1]
      simp only [numV, List.foldl_cons, List.foldl_nil]
      rw [ofNat_toNat (by omega)]; omega
    · rw [dec_big h1, numV_snoc, numV_dec k (n / 10) (by rw [Nat.pow_succ] at h; omega), ofNat_toNat (by omega)]
      omega
theorem lt_pow (n : Nat) : n < 10 ^ n := Nat.lt_pow_self (by omega)
theorem dec_isD : ∀ (k n : Nat), n < 10 ^ k → ∀ x ∈ Lib.decDigits n, isD x = true
  | 0, n, h => by
    have : n = 0 := by simpa using h
    subst this
    rw [Lib.decDigits_one (by omega)]; decide
  | k + 1, n, h => by
    by_cases h1 : n < 10
    · rw [Lib.decDigits_one h1]
      intro x hx
      rw [List.mem_singleton.1 hx]
      simp [isD]
      omega
    · rw [dec_big h1]
      intro x hx
      rcases List.mem_append.1 hx with h2 | h2
      · exact dec_isD k (n / 10) (by rw [Nat.pow_succ] at h; omega) x h2
      · rw [List.mem_singleton.1 h2]
        simp only [isD]
        rw [ofNat_toNat (by omega)]
        simp; omega
theorem dec_ne (n : Nat) : Lib.decDigits n ≠ [] := by
  by_cases h1 : n < 10
  · rw [Lib.decDigits_one h1]; simp
  · rw [dec_big h1]; simp
theorem dec_head : ∀ (k n : Nat), n < 10 ^ k → n ≠ 0 → (Lib.decDigits n).head? ≠ some 48
  | 0, n, h, h0 => by
    have : n = 0 := by simpa using h
    exact absurd this h0
  | k + 1, n, h, h0 => by
    by_cases h1 : n < 10
    · rw [Lib.decDigits_one h1]
      intro e
      have e : UInt8.ofNat (48 + n) = 48 := by simpa using e
      have := congrArg UInt8.toNat e
      rw [ofNat_toNat (by omega)] at this
      simp at this
      omega
    · rw [dec_big h1, head_app (dec_ne _)]
      exact dec_head k (n / 10) (by rw [Nat.pow_succ] at h; omega) (by omega)
theorem numOk_dec (n : Nat) (h : n < 10000000000) : numOk (Lib.decDigits n) = true := by
  have h1 := dec_len 9 n (by omega)
  have h2 : 1 ≤ (Lib.decDigits n).length := by
    have := dec_ne n
    cases hd : Lib.decDigits n with
    | nil => exact absurd hd this
    | cons => simp
  by_cases h0 : n = 0
  · subst h0
    rw [Lib.decDigits_one (by omega)]; decide
  · have h3 := dec_head n n (lt_pow n) h0
    simp [numOk, h3]
    omega
/-- Digits without noughts ahead are what their number is written as. -/
theorem dec_numV : ∀ (k : Nat) (ds : List UInt8), ds.length = k + 1 → (∀ x ∈ ds, isD x = true) → (ds.head? ≠ some 48 ∨ k = 0) → Lib.decDigits (numV ds) = ds ∧ (ds.head? ≠ some 48 → 1 ≤ numV ds) := by
  intro k
  induction k with
  | zero =>
    intro ds hl hd _
    match ds, hl with
    | [d], _ =>
      have h2 := hd d (by simp)
      simp [isD] at h2
      have e : numV [d] = d.toNat - 48 := by simp [numV]
      rw [e, Lib.decDigits_one (by omega)]
      refine ⟨?_, fun h => ?_⟩
      · congr 1
        apply UInt8.toNat_inj.1
        rw [ofNat_toNat (by omega)]
        omega
      · have : d.toNat ≠ 48 := fun e => h (by simp; exact UInt8.toNat_inj.1 (by simpa using e))
        omega
  | succ k ih =>
    intro ds hl hd hh
    rcases List.eq_nil_or_concat ds with rfl | ⟨es, d, rfl⟩
    · simp at hl
    · rw [List.concat_eq_append] at hl hd hh ⊢
      have hle : es.length = k + 1 := by simpa using hl
      have hne : es ≠ [] := by intro e; rw [e] at hle; simp at hle
      have hh' : es.head? ≠ some 48 := by
        rcases hh with h | h
        · rwa [head_app hne] at h
        · omega
      have h1 := ih es hle (fun x hx => hd x (List.mem_append_left _ hx)) (.inl hh')
      have h2 := hd d (by simp)
      simp [isD] at h2
      have h3 := h1.2 hh'
      rw [numV_snoc]
      refine ⟨?_, fun _ => by omega⟩
      rw [dec_big (by omega), show (10 * numV es + (d.toNat - 48)) / 10 = numV es by omega, h1.1, show (10 * numV es + (d.toNat - 48)) % 10 = d.toNat - 48 by omega]
      congr 2
      apply UInt8.toNat_inj.1
      rw [ofNat_toNat (by omega)]
      omega
theorem dec_of_ok {ds : List UInt8} (h : numOk ds = true) (hd : ∀ x ∈ ds, isD x = true) : Lib.decDigits (numV ds) = ds := by
  simp only [numOk, Bool.and_eq_true, Bool.or_eq_true, decide_eq_true_eq] at h
  obtain ⟨⟨h1, _⟩, h3⟩ := h
  refine (dec_numV (ds.length - 1) ds (by omega) hd ?_).1
  rcases h3 with h | h
  · exact .inl h
  · right; rw [h]; rfl
theorem numV_ok_lt {ds : List UInt8} (h : numOk ds = true) (hd : ∀ x ∈ ds, isD x = true) : numV ds < 10000000000 := by
  simp only [numOk, Bool.and_eq_true, decide_eq_true_eq] at h
  have := numV_lt ds.length ds rfl hd
  exact Nat.lt_of_lt_of_le this (Nat.le_trans (Nat.pow_le_pow_right (n := 10) (by omega) h.1.2) (by omega))
/-- Nothing that goes on a number stands at the head. -/
def Stops (r : List UInt8) : Prop := ∀ x r', r = x :: r' → isD x = false
theorem take_stop {ds r : List UInt8} (hd : ∀ x ∈ ds, isD x = true) (hr : Stops r) : (ds ++ r).takeWhile isD = ds ∧ (ds ++ r).dropWhile isD = r := by
  induction ds with
  | nil =>
    cases r with
    | nil => simp
    | cons x r => simp [hr x r rfl]
  | cons d ds ih =>
    have := ih (fun x hx => hd x (List.mem_cons_of_mem _ hx))
    simp [hd d (by simp), this.1, this.2]
theorem pNum_dec (n : Nat) (h : n < 10000000000) {r : List UInt8} (hr : Stops r) : pNum (Lib.decDigits n ++ r) = some ((n : Int), r) := by
  obtain ⟨e1, e2⟩ := take_stop (dec_isD n n (lt_pow n)) hr
  unfold pNum
  rw [e1, e2, if_pos (numOk_dec n h), numV_dec n n (lt_pow n)]
/-- What a number was read off. -/
theorem pNum_is {l r : List UInt8} {m : Int} (h : pNum l = some (m, r)) : ∃ n : Nat, m = (n : Int) ∧ n < 10000000000 ∧ l = Lib.decDigits n ++ r ∧ Stops r := by
  unfold pNum at h
  by_cases hk : numOk (l.takeWhile isD) = true
  · rw [if_pos hk] at h
    injection h with h
    injection h with h1 h2
    refine ⟨numV (l.takeWhile isD), h1.symm, numV_ok_lt hk (takeD l), ?_, ?_⟩
    · rw [dec_of_ok hk (takeD l), ← h2]
      exact (List.takeWhile_append_dropWhile (p := isD) (l := l)).symm
    · rw [← h2]
      intro x r' e
      have := List.head?_dropWhile_not isD l
      rw [e] at this
      simpa using this
  · rw [if_neg hk] at h
    cases h
end Tx
end Go.Proofs.YtmlmlmcmhpahpaaDoor
