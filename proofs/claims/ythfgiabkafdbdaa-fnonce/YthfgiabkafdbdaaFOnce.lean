
/- The walk of the drawn law that no number is taken twice: it answers true at every code, and nothing that lay there turns. -/
import Derived.Test.YthfgiabkafdbdaaWDr3
import Derived.Test.YthfgiabkafdbdaaWAll2
import Derived.Test.YthfgiabkafdbdaaWOnce
import Derived.Test.YthfgiabkafdbdaaWSame
namespace Go.Proofs.Ythfgiabkafdbdaa.Wn
open Go.RowKit

theorem Bools.row {B : Nat} {v : Value} {xs : List Bool} {w : World} (h : Bools B v xs w) : ∃ a c, v = .slice a xs.length c := by
  rcases h.form with ⟨rfl, rfl⟩ | ⟨g, cap, rfl, _⟩
  · exact ⟨_, _, rfl⟩
  · exact ⟨_, _, rfl⟩
theorem Bools.cell {B : Nat} {a : Option Addr} {n c : Nat} {xs : List Bool} {w : World} (h : Bools B (.slice a n c) xs w) (i : Nat) (hi : i < xs.length) : ∃ g, a = some ⟨g, 0, none⟩ ∧ w.cell? ⟨g, i, none⟩ = some (.bool xs[i]) := by
  rcases h.form with ⟨_, e⟩ | ⟨g, cap, e, _, _, _, _, h3⟩
  · rw [e] at hi; simp at hi
  · injection e with e
    exact ⟨g, e, (h3 i hi).1⟩
theorem Ints.cell3 {B : Nat} {a : Option Addr} {n c : Nat} {xs : List Int} {w : World} (h : Ints B (.slice a n c) xs w) (i : Nat) (hi : i < xs.length) : ∃ g, a = some ⟨g, 0, none⟩ ∧ w.cell? ⟨g, i, none⟩ = some (.int .i64 xs[i]) := by
  rcases h.form with ⟨_, e⟩ | ⟨g, cap, e, _, _, _, _, h3⟩
  · rw [e] at hi; simp at hi
  · injection e with e
    exact ⟨g, e, (h3 i hi).1⟩
theorem drewB3 {W : World} (q : Nat) : Below W.heap.size W (W.drewN q) := below_drewN (Below.refl _ _) q
theorem hasInt_at {S : World → Prop} {B : Nat} {v : Value} {xs : List Int} (x : Int) (s : SW S) (hx : Ints B v xs s.w) (hn : x ∉ xs) :
    Calls Try.prog 15 #[v, .int .i64 x] s.w fun e w' => e = .returned (.bool false) ∧ w' = s.w := by
  have := hasInt_any x hx
  rwa [decide_eq_false hn] at this

/-- Numbers that rise above top, the k first of at most three apart. -/
def Rising (top : Int) (k : Nat) (ms : List Int) : Prop := (∀ n ∈ ms, top < n ∧ n < top + 1 + 3 * (k : Int)) ∧ ms.Pairwise (· < ·)
theorem Rising.nil (top : Int) : Rising top 0 [] := ⟨by simp, .nil⟩
theorem Rising.snoc {top x : Int} {k : Nat} {ms : List Int} (h : Rising top k ms) (h1 : top + 1 + 3 * (k : Int) ≤ x) (h2 : x < top + 1 + 3 * ((k : Int) + 1)) : Rising top (k + 1) (ms ++ [x]) := by
  refine ⟨fun n hn => ?_, List.pairwise_append.2 ⟨h.2, List.pairwise_singleton _ _, fun n hn m hm => ?_⟩⟩
  · rcases List.mem_append.1 hn with e | e
    · have := h.1 n e; simp only [Int.natCast_add]; omega
    · simp at e; subst e; simp only [Int.natCast_add]; omega
  · simp at hm
    subst hm
    have := h.1 n hn
    omega

theorem wrap64_at (n : Int) (h : -9223372036854775808 ≤ n ∧ n ≤ 9223372036854775807) : IntKind.i64.wrap n = n := by
  simp only [IntKind.wrap, IntKind.bits, IntKind.signed]
  simp
  omega
/-- The next number: the sum as it is reckoned. -/
def nextN (top : Int) (j : Nat) (x : Int) : Int := IntKind.i64.wrap (IntKind.i64.wrap (IntKind.i64.wrap (top + 1) + IntKind.i64.wrap (3 * (j : Int))) + IntKind.i64.wrap (x.tmod 3))
theorem nextN_in {top x : Int} {j : Nat} (h0 : 0 ≤ top) (h1 : top ≤ 1000000000) (hj : j ≤ 20) (hx0 : 0 ≤ x) : top + 1 + 3 * (j : Int) ≤ nextN top j x ∧ nextN top j x < top + 1 + 3 * ((j : Int) + 1) := by
  have e : x.tmod 3 = x % 3 := Int.tmod_eq_emod_of_nonneg hx0
  unfold nextN
  rw [e, wrap64_at (top + 1) ⟨by omega, by omega⟩, wrap64_at (3 * (j : Int)) ⟨by omega, by omega⟩, wrap64_at (top + 1 + 3 * (j : Int)) ⟨by omega, by omega⟩, wrap64_at (x % 3) ⟨by omega, by omega⟩, wrap64_at _ ⟨by omega, by omega⟩]
  omega

set_option maxRecDepth 100000 in
set_option maxHeartbeats 8000000 in
theorem fnOnce_any (a : Option Addr) (len cap : Nat) (W : World) (h : Bytes W.heap.size a len W) :
    Calls Try.prog 4 #[.slice a len cap] W fun e W' => e = .returned (.bool true) ∧ Below W.heap.size W W' := by
  obtain ⟨i0, hi, hz0, hz1, hz2⟩ := info_parts infoI
  have hlen := h.1
  unfold maxLen at hlen
  by_cases hbig : (1048576 : Int) < (len : Int)
  · have hd : decide ((1048576 : Int) < (len : Int)) = true := decide_eq_true hbig
    go_enter Try.func4, Try.ntmps4
    go_wp2_with fail
    refine (big_any _ _ _ _).mono ?_
    rintro e w' ⟨rfl, rfl⟩
    rw [hd]
    go_wp2
    go_ret
    exact ⟨rfl, Below.refl _ _⟩
  have hd : decide ((1048576 : Int) < (len : Int)) = false := decide_eq_false hbig
  have HBy := hidOf h
  go_enter Try.func4, Try.ntmps4
  go_wp2_with fail
  refine (big_any _ _ _ _).mono ?_
  rintro e w' ⟨rfl, hww⟩
  subst w'
  rw [hd]
  go_wp2_with fail
  refine (drawAll_any a len cap W h).mono ?_
  rintro e w1 ⟨top, v, xs, al, nl, cl, l, rfl, k1, l1, hll, hnl, b1⟩
  obtain ⟨av, cv, hv, _, _⟩ := k1.row
  subst hv
  subst hll
  obtain ⟨x0, x1⟩ := cellW w1 top (.slice av xs.length cv)
  have hB2 := one_below w1 (wb top (.slice av xs.length cv))
  have K2 := hidOf (k1.since hB2)
  have L2 := hidOf (l1.since hB2)
  have B2 := hidOf (more b1 hB2)
  clear k1 l1 b1 hB2 hd h
  go_wp2_with fail
  generalize w1.alloc (wb top (.slice av xs.length cv)) = w2 at *
  refine (acceptedAll_any top K2.out L2.out).mono ?_
  rintro e w3 ⟨aG, cG, aH, cH, rfl, g3, f3, _, b3⟩
  generalize hX : endX top xs l = X at *
  generalize hT : endT top xs l = T at *
  generalize hF : endB top xs l = F at *
  obtain ⟨y0, y1⟩ := cellW w3 T (.slice aG X.length cG)
  have hB4 := one_below w3 (wb T (.slice aG X.length cG))
  have K4 := hidOf ((K2.out.since b3).since hB4)
  have L4 := hidOf ((L2.out.since b3).since hB4)
  have G4 := hidOf (g3.since hB4)
  have H4 := hidOf (f3.since hB4)
  have B4 := hidOf (more (more B2.out b3) hB4)
  have x0 := cell_since (cell_since x0 b3) hB4
  have x1 := cell_since (cell_since x1 b3) hB4
  clear g3 f3 b3 hB4 K2 L2 B2
  go_wp2_with fail
  generalize w3.alloc (wb T (.slice aG X.length cG)) = w4 at *
  refine (specAcceptedAll_any top K4.out L4.out).mono ?_
  rw [hX, hT, hF]
  rintro e w5 ⟨aS, cS, aF, cF, rfl, _, f5, b5⟩
  obtain ⟨z0, z1⟩ := cellW w5 T (.slice aS X.length cS)
  have hB6 := one_below w5 (wb T (.slice aS X.length cS))
  have K6 := hidOf ((K4.out.since b5).since hB6)
  have L6 := hidOf ((L4.out.since b5).since hB6)
  have G6 := hidOf ((G4.out.since b5).since hB6)
  have H6 := hidOf ((H4.out.since b5).since hB6)
  have F6 := hidOf (f5.since hB6)
  have B6 := hidOf (more (more B4.out b5) hB6)
  have x0 := cell_since (cell_since x0 b5) hB6
  have x1 := cell_since (cell_since x1 b5) hB6
  have y0 := cell_since (cell_since y0 b5) hB6
  have y1 := cell_since (cell_since y1 b5) hB6
  clear f5 b5 hB6 K4 L4 G4 H4 B4
  go_wp2_with fail
  generalize w5.alloc (wb T (.slice aS X.length cS)) = w6 at *
  refine (specWindowOk_any top K6.out).mono ?_
  rintro e w8 ⟨rfl, b8⟩
  have K8 := hidOf (K6.out.since b8)
  have L8 := hidOf (L6.out.since b8)
  have G8 := hidOf (G6.out.since b8)
  have H8 := hidOf (H6.out.since b8)
  have F8 := hidOf (F6.out.since b8)
  have B8 := hidOf (more B6.out b8)
  have x0 := cell_since x0 b8
  have x1 := cell_since x1 b8
  have y0 := cell_since y0 b8
  have y1 := cell_since y1 b8
  have z0 := cell_since z0 b8
  have z1 := cell_since z1 b8
  clear b8 K6 L6 G6 H6 F6 B6
  cases hok : windowB top xs with
  | false =>
    go_wp2
    go_ret
    exact ⟨by simp, B8.out⟩
  | true =>
  have hw := windowB_ok hok
  have hall : allOk top xs l := ⟨hok, by omega⟩
  have hFl : F = allB top xs l := hF.symm.trans (if_pos hall)
  have hTX : WinOk T X := by rw [← hT, ← hX]; unfold endT endX; rw [if_pos hall, if_pos hall]; exact WinOk.alls l hw
  have HW := hidOf hw
  have HTX := hidOf (windowB_true hTX)
  have HFn := hidOf (show F.length = l.length by rw [hFl, allB_len])
  have HFl := hidOf hFl
  have hr := hw.range
  clear hw hTX hFl hall hX hT hF hok z0 z1
  generalize hN : l.length = N at *
  rw [HFn.out] at H8 F8
  rw [HFn.out]
  have hF8 := HFn.out
  go_wp2
  go_loopw [9] (fun i wr => ∃ k : Nat, i = .int .i64 (k : Int) ∧ k ≤ N ∧ Below w8.heap.size w8 wr) (fun i _ => N - (intOf i).toNat)
  case atStart => exact ⟨0, rfl, Nat.zero_le _, Below.refl _ _⟩
  case round =>
    obtain ⟨k, rfl, hkN, hB⟩ := hrel
    have x0 := cell_since x0 hB
    have x1 := cell_since x1 hB
    by_cases hlt : k < N
    · have hlt' : k < l.length := by omega
      have hltF : k < F.length := by omega
      obtain ⟨gH, rfl, hh⟩ := Bools.cell (n := N) (a := aH) (c := cH) H8.out k hltF
      obtain ⟨gF, rfl, hf⟩ := Bools.cell (n := N) (a := aF) (c := cF) F8.out k hltF
      obtain ⟨gl, rfl, hy⟩ := Ints.cell3 (n := N) (a := al) (c := cl) L8.out k hlt'
      have hh := cell_since hh hB
      have hf := cell_since hf hB
      have hy := cell_since hy hB
      have HY := hidOf (show F[k] = true → l[k] ∉ xs from fun e => once_seen hlt' (by simpa [HFl.out] using e))
      generalize hb : F[k] = b at hh hf HY
      generalize hyl : l[k] = y at hy HY
      have hS0 : (Cs4 wr ⟨gH, k, none⟩ (.bool b) ⟨gF, k, none⟩ (.bool b) ⟨w1.heap.size, 1, none⟩ (.slice av xs.length cv) ⟨gl, k, none⟩ (.int .i64 y)) wr.drew := ⟨hh, hf, x1, hy, (Below.refl _ _).drew⟩
      have hSN := SW.some hS0
      have hS1 := fun s : SW (Cs4 wr ⟨gH, k, none⟩ (.bool b) ⟨gF, k, none⟩ (.bool b) ⟨w1.heap.size, 1, none⟩ (.slice av xs.length cv) ⟨gl, k, none⟩ (.int .i64 y)) => s.is.1
      have hS2 := fun s : SW (Cs4 wr ⟨gH, k, none⟩ (.bool b) ⟨gF, k, none⟩ (.bool b) ⟨w1.heap.size, 1, none⟩ (.slice av xs.length cv) ⟨gl, k, none⟩ (.int .i64 y)) => s.is.2.1
      have hS3 := fun s : SW (Cs4 wr ⟨gH, k, none⟩ (.bool b) ⟨gF, k, none⟩ (.bool b) ⟨w1.heap.size, 1, none⟩ (.slice av xs.length cv) ⟨gl, k, none⟩ (.int .i64 y)) => s.is.2.2.1
      have hS4 := fun s : SW (Cs4 wr ⟨gH, k, none⟩ (.bool b) ⟨gF, k, none⟩ (.bool b) ⟨w1.heap.size, 1, none⟩ (.slice av xs.length cv) ⟨gl, k, none⟩ (.int .i64 y)) => s.is.2.2.2.1
      have hS5 : Hid (∀ s : SW (Cs4 wr ⟨gH, k, none⟩ (.bool b) ⟨gF, k, none⟩ (.bool b) ⟨w1.heap.size, 1, none⟩ (.slice av xs.length cv) ⟨gl, k, none⟩ (.int .i64 y)), Ints W.heap.size (.slice av xs.length cv) xs s.w) := fun s => (K8.out.since hB).since s.is.2.2.2.2
      cases b
      all_goals
        go_wp2
        refine wp_region_S _ (by kernel_rfl) (by kernel_rfl) hS0 ?_
        repeat (go_big_quiet_step ((rename_i s0; go_at_call 15; refine (hasInt_at y s0 (hS5.out s0) (HY.out (by simp))).mono ?_; rintro e w' ⟨rfl, rfl⟩; exact ⟨rfl, ⟨s0, rfl⟩⟩)))
        refine wpQuiet_nil ?_
        rintro _ ⟨s, rfl⟩
        have hQf := s.is.2.2.2.2
        clear hS0 hSN hS1 hS2 hS3 hS4 hS5
        generalize s.w = wz at *
        have hBz : Below w8.heap.size w8 wz := hB.trans (hQf.mono hB.size)
        clear hQf hh hf hy x0 x1 hB
        go_wp2
        go_loopw [10] (fun i wq => ∃ m : Nat, i = .int .i64 (m : Int) ∧ m ≤ k ∧ Below w8.heap.size w8 wq) (fun i _ => k - (intOf i).toNat)
        case atStart => exact ⟨0, rfl, Nat.zero_le _, hBz⟩
        case round =>
          obtain ⟨m, rfl, hmk, hB⟩ := hrel
          by_cases hmk' : m < k
          · obtain ⟨g1, e1, c1⟩ := Bools.cell (n := N) (c := cH) H8.out k (show k < F.length by omega)
            obtain ⟨g2, e2, c2⟩ := Bools.cell (n := N) (c := cH) H8.out m (show m < F.length by omega)
            obtain ⟨g3, e3, c3⟩ := Ints.cell3 (n := N) (c := cl) L8.out k (show k < l.length by omega)
            obtain ⟨g4, e4, c4⟩ := Ints.cell3 (n := N) (c := cl) L8.out m (show m < l.length by omega)
            cases e1
            cases e2
            cases e3
            cases e4
            have HT := hidOf (show F[k]'(by omega) = true → F[m]'(by omega) = true → l[k]'(by omega) ≠ l[m]'(by omega) from fun e e' => once_twice (T := top) (X := xs) (by omega) hmk' (by simpa [HFl.out] using e) (by simpa [HFl.out] using e'))
            rw [hb] at c1 HT
            rw [hyl] at c3 HT
            have c1 := cell_since c1 hB
            have c2 := cell_since c2 hB
            have c3 := cell_since c3 hB
            have c4 := cell_since c4 hB
            generalize F[m]'(by omega) = b2 at c2 HT
            generalize l[m]'(by omega) = y2 at c4 HT
            have HB := hidOf hB
            clear hB
            cases b2
            · go_wp2
              go_quiet (fail)
              go_wp2
              go_roundw
              case rel => exact ⟨m + 1, by go_num, by omega, below_drewN HB.out _⟩
              case measure => simp [intOf]; omega
            · try (have hne : (y == y2) = false := by simpa using HT.out (by first | rfl | trivial) (by first | rfl | trivial))
              go_wp2
              go_quiet (fail)
              go_wp2
              go_roundw
              case rel => exact ⟨m + 1, by go_num, by omega, below_drewN HB.out _⟩
              case measure => simp [intOf]; omega
          · obtain rfl : m = k := by omega
            go_wp2
            go_roundw
            case rel => exact ⟨m + 1, by go_num, by omega, hB⟩
            case measure => simp [intOf]; omega
    · obtain rfl : k = N := by omega
      clear hnl
      have HB := hidOf hB
      have K9 := hidOf (K8.out.since hB)
      have G9 := hidOf (G8.out.since hB)
      have B9 := hidOf (more B8.out hB)
      have y0 := cell_since y0 hB
      have y1 := cell_since y1 hB
      clear hB
      by_cases htop : 999999900 < top
      · go_wp2
        go_ret
        exact ⟨rfl, B9.out⟩
      obtain ⟨wo, hwo⟩ : ∃ wo, wo = wr := ⟨_, rfl⟩
      subst hwo
      have E9 := hidOf (empty_ints wo (S := wo.heap.size) rfl)
      have D9 := hidOf (World.grownBy_alloc wo (.cells #[] 2) none)
      have S9 : (wo.alloc (.cells #[] 2)).heap.size = wo.heap.size + 1 := by simp
      have X0 := hidOf x0
      have X1 := hidOf x1
      have Y0 := hidOf y0
      have Y1 := hidOf y1
      clear x1 y0 y1
      go_wp2
      clear x0
      generalize wo.alloc (.cells #[] 2) = wy at *
      go_loopw [11, 12] (fun mv iv wq => ∃ (j : Nat) (am : Option Addr) (cm : Nat) (ms : List Int), mv = .slice am j cm ∧ iv = .int .i64 (j : Int) ∧ j ≤ len ∧ j ≤ 20 ∧ ms.length = j ∧ Hid (Rising top j ms) ∧ Hid (Ints wo.heap.size (.slice am j cm) ms wq) ∧ Hid (wo.grownBy wq none)) (fun _ i _ => 20 - (intOf i).toNat)
      case atStart => exact ⟨0, _, 0, [], rfl, rfl, Nat.zero_le _, by omega, rfl, Rising.nil top, E9.out, D9.out⟩
      case round =>
        obtain ⟨j, am, cm, ms, rfl, rfl, hjl, hj20, hml, HR, HM, HG⟩ := hrel
        clear E9 D9 S9 wy
        have hgs := HG.out.size
        have hne : ∀ g, (Value.slice am j cm).ownBlock = some g → wo.heap.size ≤ g := fun g e => (HM.out.lt g e).1
        by_cases hgo : j < len ∧ j < 20
        · obtain ⟨hgo1, hgo2⟩ := hgo
          obtain ⟨b, off, x, rfl, hbB, hbc, hx0, hx1⟩ := HBy.out.2 j hgo1
          have c1 := cell_since (cell_since hbc B9.out) (below_grown HG.out)
          have c2 := cell_since X0.out (below_grown HG.out)
          clear hbc
          have hnum : top + 1 + 3 * (j : Int) ≤ nextN top j x ∧ nextN top j x < top + 1 + 3 * ((j : Int) + 1) := nextN_in (by omega) (by omega) (by omega) (by omega)
          have x1 := cell_since c1 (one_below wr (.cells #[.int .i64 (nextN top j x)] 2))
          have x2 := cell_since c2 (one_below wr (.cells #[.int .i64 (nextN top j x)] 2))
          go_wp2
          go_region_law (refine step_append_w _ (by rfl) _ _ _ (by rfl) wo.heap.size 2 i0 (.int .i64 0) 1 8 Try.underlying24 hi hz0 hz1 hz2 rfl (by omega) (.slice am j cm) j (ms.map (Value.int .i64)) (by simp [Act.eval]) (by exact own_lit HM.out hml _) ⟨wr.heap.size, 0, none⟩ 1 1 [.int .i64 (nextN top j x)] (by simp [Act.eval]) (by rfl) (by exact cell_one _ _ _) (by simp [Value.oneCell']) (by omega) (by unfold maxLen; omega) (by omega) (by simp <;> omega) _ rfl ?_; intro gB cB wB hownB hgB hatB hltB; have hsB := hgB.size; have HgB := hidOf hgB; clear hgB)
          all_goals
            have hI := ints_of (xs := ms ++ [nextN top j x]) hownB (by simp)
            have HI := hidOf hI
            have HG' : Hid (wo.grownBy wB none) := ((HG.out.trans (World.grownBy_alloc _ _ _)).trans (grown_drew _ _)).andThen HgB.out (fun g e => .inl (hne g e))
            have HR' := hidOf (HR.out.snoc hnum.1 hnum.2)
            clear hI hownB HgB HG HR HM
            go_wp2
            go_roundw
            case rel => exact ⟨j + 1, some ⟨gB, 0, none⟩, cB, ms ++ [nextN top j x], rfl, by go_num, by omega, by omega, by simp [hml], HR'.out, HI.out, HG'.out⟩
            case measure => simp [intOf]; omega
        · have x0 := cell_since X0.out (below_grown HG.out)
          have x1 := cell_since X1.out (below_grown HG.out)
          have y0 := cell_since Y0.out (below_grown HG.out)
          have y1 := cell_since Y1.out (below_grown HG.out)
          have K10 := hidOf (K9.out.since (below_grown HG.out))
          have G10 := hidOf (G9.out.since (below_grown HG.out))
          have B10 := hidOf (more B9.out (below_grown HG.out))
          have hex : ¬ j < len ∨ (j < len ∧ ¬ j < 20) := by omega
          clear HG K9 G9 B9
          rcases hex with hex | ⟨hex1, hex2⟩
          all_goals
            go_wp2_with fail
            refine (acceptedAll_any top K10.out HM.out).mono ?_
            have hF2 : endB top xs ms = allB top xs ms := if_pos ⟨windowB_true HW.out, by omega⟩
            have hall2 : ∀ i (h : i < (endB top xs ms).length), (endB top xs ms)[i] = true := fun i h => by
              have h' : i < ms.length := by rw [hF2, allB_len] at h; exact h
              have := all_taken ms top xs HW.out (fun n hn => ⟨(HR.out.1 n hn).1, by have := (HR.out.1 n hn).2; omega⟩) HR.out.2 i h'
              simpa [hF2] using this
            have hn2 : (endB top xs ms).length = j := by rw [hF2, allB_len, hml]
            clear hF2
            generalize endX top xs ms = X2 at *
            generalize endT top xs ms = T2 at *
            generalize endB top xs ms = F2 at *
            rintro e w11 ⟨aP, cP, aQ, cQ, rfl, _, f11, _, b11⟩
            rw [hn2] at f11
            rw [hn2]
            have hB12 := one_below w11 (wb T2 (.slice aP X2.length cP))
            have F12 := hidOf (f11.since hB12)
            have G12 := hidOf ((G10.out.since b11).since hB12)
            have B12 := hidOf (more (more B10.out b11) hB12)
            have y0 := cell_since (cell_since y0 b11) hB12
            have y1 := cell_since (cell_since y1 b11) hB12
            have HA := hidOf hall2
            clear f11 b11 hB12 hall2 K10 G10 B10 x0 x1 HM HR
            go_wp2
            generalize w11.alloc (wb T2 (.slice aP X2.length cP)) = w12 at *
            go_loop [15] (fun i => ∃ m : Nat, i = .int .i64 (m : Int) ∧ m ≤ j) (fun i => j - (intOf i).toNat)
            case atStart => exact ⟨0, rfl, Nat.zero_le _⟩
            case round =>
              obtain ⟨m, rfl, hmj⟩ := hrel
              by_cases hm' : m < j
              · obtain ⟨g1, e1, c1⟩ := Bools.cell (n := j) (c := cQ) F12.out m (show m < F2.length by omega)
                cases e1
                rw [HA.out m (by omega)] at c1
                go_wp2
                go_round
                case rel => exact ⟨m + 1, by go_num, by omega⟩
                case measure => simp [intOf]; omega
              · obtain rfl : m = j := by omega
                go_wp2_with fail
                refine (windowOk_any T G12.out).mono ?_
                rintro e w13 ⟨rfl, b13⟩
                rw [HTX.out]
                have B13 := hidOf (more B12.out b13)
                clear b13
                go_wp2
                go_ret
                exact ⟨by simp, B13.out⟩
end Go.Proofs.Ythfgiabkafdbdaa.Wn
