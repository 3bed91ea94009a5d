
/- A number in decimal off the program's reader: at most ten digits, no nought ahead. -/
import Derived.Test.YtmlmlmcmhpahpaaDoorTr1
namespace Go.Proofs.YtmlmlmcmhpahpaaDoor
open Go.RowKit Go.Shelf
namespace Tx

/-- The digits are a number: one to ten of them, no nought ahead of others. -/
def numOk (ds : List UInt8) : Bool := decide (1 ≤ ds.length) && decide (ds.length ≤ 10) && (decide (ds.head? ≠ some 48) || decide (ds = [48]))
def numV (ds : List UInt8) : Nat := ds.foldl (fun n d => 10 * n + (d.toNat - 48)) 0
def pNum (l : List UInt8) : Option (Int × List UInt8) := if numOk (l.takeWhile isD) = true then some ((numV (l.takeWhile isD) : Int), l.dropWhile isD) else none

theorem takeD : ∀ (l : List UInt8), ∀ x ∈ l.takeWhile isD, isD x = true
  | [], x, h => by simp at h
  | y :: l, x, h => by
    cases hy : isD y with
    | false => simp [hy] at h
    | true =>
      simp only [List.takeWhile_cons, hy, if_true, List.mem_cons] at h
      rcases h with rfl | h
      · exact hy
      · exact takeD l x h
theorem numV_snoc (ds : List UInt8) (d : UInt8) : numV (ds ++ [d]) = 10 * numV ds + (d.toNat - 48) := by simp [numV]
theorem numV_lt : ∀ (n : Nat) (ds : List UInt8), ds.length = n → (∀ x ∈ ds, isD x = true) → numV ds < 10 ^ n := by
  intro n
  induction n with
  | zero => intro ds h _; rw [List.length_eq_zero_iff.1 h]; simp [numV]
  | succ n ih =>
    intro ds h hd
    rcases List.eq_nil_or_concat ds with rfl | ⟨es, d, rfl⟩
    · simp at h
    · rw [List.concat_eq_append] at h hd ⊢
      rw [numV_snoc]
      have h1 := ih es (by simpa using h) (fun x hx => hd x (List.mem_append_left _ hx))
      have h2 := hd d (by simp)
      simp [isD] at h2
      rw [Nat.pow_succ]
      omega
theorem take_snoc (ds : List UInt8) (k : Nat) (h : k < ds.length) : ds.take (k + 1) = ds.take k ++ [ds[k]] := by
  rw [List.take_add_one, List.getElem?_eq_getElem h]; rfl
theorem number_any (b : Nat) (ev : Value) (l : List UInt8) (w : World) (h : Rdr b l w) (hN : NoText b ev w) (hl : l.length ≤ 1048576) :
    Calls Tryd.prog 49 #[rp b] w fun e w' => Ends b ev w ((pNum l).map fun x => (.int .i64 x.1, x.2)) e w' := by
  have HR := hidT h
  have HN := hidT hN
  clear h hN
  have HW := hidT (show ∀ x ∈ l.takeWhile isD, isD x = true from takeD l)
  have HE : Hid (pNum l = if numOk (l.takeWhile isD) = true then some ((numV (l.takeWhile isD) : Int), l.dropWhile isD) else none) := rfl
  generalize hds : l.takeWhile isD = ds at HW HE
  have HL := hidT (show ds.length ≤ 1048576 by rw [← hds]; exact Nat.le_trans (List.takeWhile_sublist _).length_le hl)
  go_enter Tryd.func49, Tryd.ntmps49
  go_wp2_with fail
  refine (digits_any b l w HR.out hl).mono ?_
  rintro e w' ⟨rfl, rfl⟩
  rw [hds]
  have HS := hidT (setBy (b := b) w (.string ⟨(l.dropWhile isD).toArray⟩))
  have HR' : Hid (Rdr b (l.dropWhile isD) (w.setCell ⟨b, 0, none⟩ (.string ⟨(l.dropWhile isD).toArray⟩))) := HR.out.set
  generalize w.setCell ⟨b, 0, none⟩ (.string ⟨(l.dropWhile isD).toArray⟩) = w1 at HS HR' ⊢
  clear hds
  match ds, HW, HE, HL with
  | [], HW, HE, HL =>
    go_wp2_with (go_at_call 47; refine (giveUp_any b ev _ (HN.out.grown HS.out)).mono ?_; rintro e w' ⟨rfl, rfl⟩)
    exact ⟨rfl, .inr ⟨by rw [HE.out]; rfl, rfl, HS.out⟩⟩
  | d :: ds, HW, HE, HL =>
    by_cases h10 : 10 < ds.length + 1
    · have h10' : (10 : Int) < (ds.length : Int) + 1 := by omega
      go_wp2_with (go_at_call 47; refine (giveUp_any b ev _ (HN.out.grown HS.out)).mono ?_; rintro e w' ⟨rfl, rfl⟩)
      exact ⟨rfl, .inr ⟨by rw [HE.out, if_neg (by simp [numOk]; omega)]; rfl, rfl, HS.out⟩⟩
    · have h10' : ¬ (10 : Int) < (ds.length : Int) + 1 := by omega
      have h10'' : (ds.length : Int) + 1 ≤ 10 := by omega
      by_cases hd : d = 48
      · have h0 : (((⟨(d :: ds).toArray⟩ : ByteArray)[0]'(by simp [ByteArray.size])).toNat : Int) = 48 := by rw [str_at (d :: ds) 0 (by simp)]; simp [hd]
        subst hd
        match ds, HW, HE, HL, h0 with
        | [], HW, HE, HL, h0 =>
          have HOK := hidT (show numOk [48] = true by decide)
          have HLEN := hidT (show [(48 : UInt8)].length = 1 from rfl)
          go_wp2_with (go_at_call 47; refine (giveUp_any b ev _ (HN.out.grown HS.out)).mono ?_; rintro e w' ⟨rfl, rfl⟩)
          go_loop [4, 28] (fun nv iv => ∃ k : Nat, k ≤ 1 ∧ iv = .int .i64 (k : Int) ∧ nv = .int .i64 (numV ([(48 : UInt8)].take k) : Int)) (fun _ iv => 1 - (intOf iv).toNat)
          case atStart => exact ⟨0, Nat.zero_le _, rfl, by simp [numV]⟩
          case round =>
            obtain ⟨k, hk, rfl, rfl⟩ := hrel
            by_cases hlt : k < 1
            · have hi : (k : Int) < (1 : Int) := by omega
              have hlt' : k < [(48 : UInt8)].length := by rw [HLEN.out]; exact hlt
              have HX := hidT (str_at [(48 : UInt8)] k hlt')
              have HXD := hidT (HW.out _ (List.getElem_mem hlt'))
              generalize hx : (⟨[48].toArray⟩ : ByteArray)[k]'(by simpa [ByteArray.size] using hlt') = x at HX
              rw [← HX.out] at HXD
              have HXD' : 48 ≤ x.toNat ∧ x.toNat ≤ 57 := by have := HXD.out; simpa [isD] using this
              have HV := hidT (numV_lt k ([(48 : UInt8)].take k) (by rw [List.length_take]; omega) (fun x hx => HW.out x (List.mem_of_mem_take hx)))
              have HV10 : Hid (numV ([(48 : UInt8)].take k) < 1000000000) := Nat.lt_of_lt_of_le HV.out (Nat.pow_le_pow_right (n := 10) (by omega) (show k ≤ 9 by omega))
              have HT := hidT (take_snoc [(48 : UInt8)] k hlt')
              rw [← HX.out] at HT
              generalize hv : numV ([(48 : UInt8)].take k) = v at HV10 ⊢
              have hv1 := HV10.out
              go_wp2
              refine ⟨⟨k + 1, by omega, by go_num, ?_⟩, by simp [intOf]; omega⟩
              rw [HT.out, numV_snoc, hv]
              congr 1
              omega
            · have hi : ¬ (k : Int) < (1 : Int) := by omega
              have hkN : k = 1 := by omega
              subst hkN
              have HKT := hidT (show [(48 : UInt8)].take 1 = [48] from rfl)
              go_wp2
              go_ret
              exact .inl ⟨_, _, by rw [HE.out, if_pos HOK.out]; rfl, congrArg (fun z => Ending.returned (.int .i64 (numV z : Int))) HKT.out, HR'.out, HS.out⟩
        | x :: ds, HW, HE, HL, h0 =>
          go_wp2_with (go_at_call 47; refine (giveUp_any b ev _ (HN.out.grown HS.out)).mono ?_; rintro e w' ⟨rfl, rfl⟩)
          exact ⟨rfl, .inr ⟨by rw [HE.out, if_neg (by simp [numOk])]; rfl, rfl, HS.out⟩⟩
      · have h0 : ¬ (((⟨(d :: ds).toArray⟩ : ByteArray)[0]'(by simp [ByteArray.size])).toNat : Int) = 48 := by
          rw [str_at (d :: ds) 0 (by simp)]
          intro e
          apply hd
          apply UInt8.toNat_inj.1
          simp at e
          simpa using (by omega : d.toNat = 48)
        have HOK := hidT (show numOk (d :: ds) = true by simp [numOk, hd]; omega)
        obtain ⟨N, HLEN⟩ : ∃ N, Hid ((d :: ds).length = N) := ⟨_, rfl⟩
        have hN10 : N ≤ 10 := by have := HLEN.out; simp at this; omega
        have hlenI : (ds.length : Int) + 1 = (N : Int) := by have := HLEN.out; simp at this; omega
        go_wp2_with (go_at_call 47; refine (giveUp_any b ev _ (HN.out.grown HS.out)).mono ?_; rintro e w' ⟨rfl, rfl⟩)
        go_loop [4, 28] (fun nv iv => ∃ k : Nat, k ≤ N ∧ iv = .int .i64 (k : Int) ∧ nv = .int .i64 (numV ((d :: ds).take k) : Int)) (fun _ iv => N - (intOf iv).toNat)
        case atStart => exact ⟨0, Nat.zero_le _, rfl, by simp [numV]⟩
        case round =>
          obtain ⟨k, hk, rfl, rfl⟩ := hrel
          by_cases hlt : k < N
          · have hi : (k : Int) < (N : Int) := by omega
            have hlt' : k < (d :: ds).length := by rw [HLEN.out]; exact hlt
            have HX := hidT (str_at (d :: ds) k hlt')
            have HXD := hidT (HW.out _ (List.getElem_mem hlt'))
            generalize hx : (⟨(d :: ds).toArray⟩ : ByteArray)[k]'(by simpa [ByteArray.size] using hlt') = x at HX
            rw [← HX.out] at HXD
            have HXD' : 48 ≤ x.toNat ∧ x.toNat ≤ 57 := by have := HXD.out; simpa [isD] using this
            have HV := hidT (numV_lt k ((d :: ds).take k) (by rw [List.length_take]; omega) (fun x hx => HW.out x (List.mem_of_mem_take hx)))
            have HV10 : Hid (numV ((d :: ds).take k) < 1000000000) := Nat.lt_of_lt_of_le HV.out (Nat.pow_le_pow_right (n := 10) (by omega) (show k ≤ 9 by omega))
            have HT := hidT (take_snoc (d :: ds) k hlt')
            rw [← HX.out] at HT
            generalize hv : numV ((d :: ds).take k) = v at HV10 ⊢
            have hv1 := HV10.out
            go_wp2
            refine ⟨⟨k + 1, by omega, by go_num, ?_⟩, by simp [intOf]; omega⟩
            rw [HT.out, numV_snoc, hv]
            congr 1
            omega
          · have hi : ¬ (k : Int) < (N : Int) := by omega
            have hkN : k = N := by omega
            subst hkN
            have HKT := hidT (show (d :: ds).take k = d :: ds by rw [← HLEN.out]; exact List.take_length)
            go_wp2
            go_ret
            exact .inl ⟨_, _, by rw [HE.out, if_pos HOK.out]; rfl, congrArg (fun z => Ending.returned (.int .i64 (numV z : Int))) HKT.out, HR'.out, HS.out⟩

end Tx
end Go.Proofs.YtmlmlmcmhpahpaaDoor
