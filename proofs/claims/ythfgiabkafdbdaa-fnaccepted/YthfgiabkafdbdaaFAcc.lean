
/- The walk of the drawn law of Accepted: it answers true at every code, and nothing that lay there turns. -/
import Derived.Test.YthfgiabkafdbdaaWDr2
import Derived.Test.YthfgiabkafdbdaaWSame
namespace Go.Proofs.Ythfgiabkafdbdaa.Wn
open Go.RowKit

theorem eqI_self (xs : List Int) : eqI xs xs = true := decide_eq_true rfl
theorem ans_of {top n : Int} {xs : List Int} (h : windowB top xs = true) : ansT top xs n = accT top xs n ∧ ansX top xs n = accX top xs n ∧ ansB top xs n = accB top xs n := by simp [ansT, ansX, ansB, h]
theorem drewB {W : World} (q : Nat) : Below W.heap.size W (W.drewN q) := below_drewN (Below.refl _ _) q

set_option maxRecDepth 100000 in
set_option maxHeartbeats 4000000 in
theorem fnAccepted_any (a : Option Addr) (len cap : Nat) (W : World) (h : Bytes W.heap.size a len W) :
    Calls Try.prog 3 #[.slice a len cap] W fun e W' => e = .returned (.bool true) ∧ Below W.heap.size W W' := by
  have hlen := h.1
  unfold maxLen at hlen
  by_cases hbig : (1048576 : Int) < (len : Int)
  · have hd : decide ((1048576 : Int) < (len : Int)) = true := decide_eq_true hbig
    go_enter Try.func3, Try.ntmps3
    go_wp2_with fail
    refine (big_any _ _ _ _).mono ?_
    rintro e w' ⟨rfl, rfl⟩
    rw [hd]
    go_wp2
    go_ret
    exact ⟨rfl, Below.refl _ _⟩
  · have hd : decide ((1048576 : Int) < (len : Int)) = false := decide_eq_false hbig
    go_enter Try.func3, Try.ntmps3
    go_wp2_with fail
    refine (big_any _ _ _ _).mono ?_
    rintro e w' ⟨rfl, hww⟩
    subst w'
    rw [hd]
    go_wp2_with fail
    refine (drawAccepted_any a len cap W h).mono ?_
    rintro e w1 ⟨top, v, xs, n, rfl, k1, b1⟩
    obtain ⟨av, cv, hv, _, _⟩ := k1.row
    subst hv
    obtain ⟨x0, x1⟩ := cellW w1 top (.slice av xs.length cv)
    have hB2 := one_below w1 (wb top (.slice av xs.length cv))
    have K2 := hidOf (k1.since hB2)
    have B2 := hidOf (more b1 hB2)
    clear k1 b1 hB2 hd h
    go_wp2_with fail
    generalize w1.alloc (wb top (.slice av xs.length cv)) = w2 at *
    refine (accepted_any top n K2.out).mono ?_
    rintro e w3 ⟨vG, rfl, g3, b3⟩
    generalize hL : ansX top xs n = L at *
    generalize hT : ansT top xs n = T at *
    generalize hF : ansB top xs n = f at *
    obtain ⟨aG, cG, hvG, _, _⟩ := g3.row
    subst hvG
    obtain ⟨y0, y1⟩ := cellW w3 T (.slice aG L.length cG)
    have hB4 := one_below w3 (wb T (.slice aG L.length cG))
    have K4 := hidOf ((K2.out.since b3).since hB4)
    have G4 := hidOf (g3.since hB4)
    have B4 := hidOf (more (more B2.out b3) hB4)
    have x0 := cell_since (cell_since x0 b3) hB4
    have x1 := cell_since (cell_since x1 b3) hB4
    clear g3 b3 hB4 K2 B2
    go_wp2_with fail
    generalize w3.alloc (wb T (.slice aG L.length cG)) = w4 at *
    refine (specAccepted_any top n K4.out).mono ?_
    rw [hL, hT, hF]
    rintro e w5 ⟨vS, rfl, s5, b5⟩
    obtain ⟨aS, cS, hvS, _, _⟩ := s5.row
    subst hvS
    obtain ⟨z0, z1⟩ := cellW w5 T (.slice aS L.length cS)
    have hB6 := one_below w5 (wb T (.slice aS L.length cS))
    have K6 := hidOf ((K4.out.since b5).since hB6)
    have G6 := hidOf ((G4.out.since b5).since hB6)
    have S6 := hidOf (s5.since hB6)
    have B6 := hidOf (more (more B4.out b5) hB6)
    have x0 := cell_since (cell_since x0 b5) hB6
    have x1 := cell_since (cell_since x1 b5) hB6
    have y0 := cell_since (cell_since y0 b5) hB6
    have y1 := cell_since (cell_since y1 b5) hB6
    clear s5 b5 hB6 K4 G4 B4
    go_wp2_with fail
    generalize w5.alloc (wb T (.slice aS L.length cS)) = w6 at *
    refine (sameInts_any G6.out S6.out).mono ?_
    rintro e w7 ⟨rfl, q7, hww⟩
    rw [eqI_self]
    have b7 : Below w6.heap.size w6 w7 := by rw [hww]; exact drewB q7
    have K7 := hidOf (K6.out.since b7)
    have G7 := hidOf (G6.out.since b7)
    have S7 := hidOf (S6.out.since b7)
    have B7 := hidOf (more B6.out b7)
    have x0 := cell_since x0 b7
    have x1 := cell_since x1 b7
    have y0 := cell_since y0 b7
    have y1 := cell_since y1 b7
    have z0 := cell_since z0 b7
    have z1 := cell_since z1 b7
    clear b7 hww K6 G6 S6 B6
    go_wp2_with fail
    refine (specWindowOk_any top K7.out).mono ?_
    rintro e w8 ⟨rfl, b8⟩
    have K8 := hidOf (K7.out.since b8)
    have G8 := hidOf (G7.out.since b8)
    have S8 := hidOf (S7.out.since b8)
    have B8 := hidOf (more B7.out b8)
    have x0 := cell_since x0 b8
    have x1 := cell_since x1 b8
    have y0 := cell_since y0 b8
    have y1 := cell_since y1 b8
    have z0 := cell_since z0 b8
    have z1 := cell_since z1 b8
    clear b8 K7 G7 S7 B7
    cases hok : windowB top xs with
    | false =>
      go_wp2_with fail
      refine (sameInts_any G8.out S8.out).mono ?_
      rintro e w9 ⟨rfl, q9, hww⟩
      rw [eqI_self]
      have b9 : Below w8.heap.size w8 w9 := by rw [hww]; exact drewB q9
      have B9 := hidOf (more B8.out b9)
      clear b9 hww
      go_wp2
      go_ret
      exact ⟨by simp, B9.out⟩
    | true =>
      have hw := windowB_ok hok
      obtain ⟨e1, e2, e3⟩ := ans_of (n := n) hok
      rw [hT] at e1
      rw [hL] at e2
      rw [hF] at e3
      have hr := hw.range
      have HW := hidOf hw
      clear hw
      by_cases ht : takes top xs n
      · have hf : f = true := e3.trans (decide_eq_true ht)
        have hTm : T = max top n := e1.trans (if_pos ht)
        have hTi : (if top < n then n else top) = T := by rw [hTm]; split <;> omega
        have hLm : L = putUp n (xs.filter fun x => decide (max top n - 32 < x)) := e2.trans (if_pos ht)
        have hmem : n ∈ L := by rw [hLm, mem_putUp]; exact .inl rfl
        have hokV : WinOk T L := by rw [e1, e2]; exact HW.out.acc
        have HokV := hidOf (windowB_true hokV)
        have HAg := hidOf (show ansB T L n = false by rw [(ans_of HokV.out).2.2]; exact decide_eq_false (fun t => t.2.2.2 hmem))
        have HMem := hidOf (decide_eq_true hmem)
        have HN := hidOf (decide_eq_false ht.2.2.2)
        have i1 := ht.1
        have i2 := ht.2.1
        have i3 := ht.2.2.1
        subst hf
        clear e1 e2 e3 hLm hmem hokV ht hTm
        go_wp2_with fail
        refine (hasInt_any n K8.out).mono ?_
        rintro e w9 ⟨rfl, hww⟩
        subst hww
        rw [HN.out]
        go_wp2_with fail
        refine (accepted_any T n G8.out).mono ?_
        rw [HAg.out]
        rintro e w10 ⟨vA, rfl, kA, b10⟩
        obtain ⟨aA, cA, hvA, _, _⟩ := kA.row
        clear kA
        subst hvA
        generalize (ansX T L n).length = lA at *
        generalize ansT T L n = tA at *
        have hB11 := one_below w10 (wb tA (.slice aA lA cA))
        have G11 := hidOf ((G8.out.since b10).since hB11)
        have B11 := hidOf (more (more B8.out b10) hB11)
        have x0 := cell_since (cell_since x0 b10) hB11
        have y0 := cell_since (cell_since y0 b10) hB11
        have y1 := cell_since (cell_since y1 b10) hB11
        clear b10 hB11 K8 G8 S8 B8 x1 z0 z1
        go_wp2_with fail
        generalize w10.alloc (wb tA (.slice aA lA cA)) = w11 at *
        refine (windowOk_any T G11.out).mono ?_
        rintro e w12 ⟨rfl, b12⟩
        rw [HokV.out]
        have G12 := hidOf (G11.out.since b12)
        have B12 := hidOf (more B11.out b12)
        have x0 := cell_since x0 b12
        have y0 := cell_since y0 b12
        have y1 := cell_since y1 b12
        clear b12 G11 B11
        go_wp2_with fail
        refine (hasInt_any n G12.out).mono ?_
        rintro e w13 ⟨rfl, hww⟩
        subst hww
        rw [HMem.out]
        go_wp2
        go_ret
        exact ⟨by simp, B12.out⟩
      · have hf : f = false := e3.trans (decide_eq_false ht)
        have hTm : T = top := e1.trans (if_neg ht)
        have hLm : L = xs := e2.trans (if_neg ht)
        have HNt := hidOf ht
        subst hf
        clear e1 e2 e3 ht hL hT hF
        subst hTm hLm
        by_cases i1 : 1 ≤ n
        case neg =>
          go_wp2_with fail
          refine (sameInts_any G8.out K8.out).mono ?_
          rintro e w9 ⟨rfl, q9, hww⟩
          rw [eqI_self]
          have B9 := hidOf (more B8.out (show Below w8.heap.size w8 w9 by rw [hww]; exact drewB q9))
          clear hww
          go_wp2
          go_ret
          exact ⟨by simp, B9.out⟩
        by_cases i2 : n ≤ 1000000000
        case neg =>
          go_wp2_with fail
          refine (sameInts_any G8.out K8.out).mono ?_
          rintro e w9 ⟨rfl, q9, hww⟩
          rw [eqI_self]
          have B9 := hidOf (more B8.out (show Below w8.heap.size w8 w9 by rw [hww]; exact drewB q9))
          clear hww
          go_wp2
          go_ret
          exact ⟨by simp, B9.out⟩
        by_cases i3 : T - 32 < n
        case neg =>
          go_wp2_with fail
          refine (sameInts_any G8.out K8.out).mono ?_
          rintro e w9 ⟨rfl, q9, hww⟩
          rw [eqI_self]
          have B9 := hidOf (more B8.out (show Below w8.heap.size w8 w9 by rw [hww]; exact drewB q9))
          clear hww
          go_wp2
          go_ret
          exact ⟨by simp, B9.out⟩
        have hmem : n ∈ L := Classical.byContradiction fun hm => HNt.out ⟨i1, i2, i3, hm⟩
        have HMem := hidOf (decide_eq_true hmem)
        clear hmem
        go_wp2_with fail
        refine (hasInt_any n K8.out).mono ?_
        rintro e w9 ⟨rfl, hww⟩
        subst hww
        rw [HMem.out]
        go_wp2_with fail
        refine (sameInts_any G8.out K8.out).mono ?_
        rintro e w10 ⟨rfl, q9, hww⟩
        rw [eqI_self]
        have B9 := hidOf (more B8.out (show Below w9.heap.size w9 w10 by rw [hww]; exact drewB q9))
        clear hww
        go_wp2
        go_ret
        exact ⟨by simp, B9.out⟩
end Go.Proofs.Ythfgiabkafdbdaa.Wn
