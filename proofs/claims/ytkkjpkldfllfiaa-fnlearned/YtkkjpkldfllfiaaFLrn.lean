
/- The walk of the drawn law of Learned: it answers true at every code, and nothing that lay there turns. -/
import Derived.Test.YtkkjpkldfllfiaaDr2
import Derived.Test.YtkkjpkldfllfiaaLM2
namespace Go.Proofs.Ytkkjpkldfllfiaa
open Go.RowKit

theorem moreL {w W W' : World} (h : Below w.heap.size w W) (hb : Below W.heap.size W W') : Below w.heap.size w W' := h.trans (hb.mono h.size)
theorem Keys.sinc {B : Nat} {v : Value} {ks : List K2} {W W' : World} (h : Keys B v ks W) (hb : Below W.heap.size W W') : Keys B v ks W' := h.below hb (fun k e => (h.lt k e).2)
theorem Wraps.sinc {B : Nat} {v : Value} {ks : List W4} {W W' : World} (h : Wraps B v ks W) (hb : Below W.heap.size W W') : Wraps B v ks W' := h.below hb (fun k e => (h.lt k e).2)
theorem noneW' (C : Nat) (w : World) : Wraps C (.slice none 0 0) [] w := ⟨by simp [wcells], .inl ⟨rfl, rfl⟩⟩
theorem within_true {xs ys : List K2} (h : ∀ k ∈ xs, k ∈ ys) : withinB xs ys = true := decide_eq_true h

set_option maxRecDepth 100000 in
set_option maxHeartbeats 4000000 in
theorem fnLearned_any (a : Option Addr) (len cap : Nat) (W : World) (h : Bytes W.heap.size a len W) :
    Calls Try.prog 3 #[.slice a len cap] W fun e W' => e = .returned (.bool true) ∧ Below W.heap.size W W' := by
  have hlen := h.1
  unfold maxLen at hlen
  by_cases hbig : (1048576 : Int) < (len : Int)
  · have hd : decide ((1048576 : Int) < (len : Int)) = true := decide_eq_true hbig
    go_enter Try.func3, Try.ntmps3
    go_wp2_with fail
    refine (big_any _ _ _ _).mono ?_
    rintro e w' ⟨rfl, rfl⟩
    rw [hd]
    go_wp2
    go_ret
    exact ⟨rfl, Below.refl _ _⟩
  · have hd : decide ((1048576 : Int) < (len : Int)) = false := decide_eq_false hbig
    go_enter Try.func3, Try.ntmps3
    go_wp2_with fail
    refine (big_any _ _ _ _).mono ?_
    rintro e w' ⟨rfl, hww⟩
    subst w'
    rw [hd]
    go_wp2_with fail
    refine (drawLearned_any a len cap W h).mono ?_
    rintro e w1 ⟨vk, ks, vw, ws, rfl, D1', b1⟩
    have D1 := hidOf D1'
    have B1 := hidOf b1
    clear D1' b1 hd h
    go_wp2_with fail
    refine (learned_any D1.out.1 D1.out.2.1).mono ?_
    rintro e w2 ⟨vl, out, rfl, k2, L2, b2⟩
    have LO : Hid (LrnOut ks ws out) := L2
    have O2 := hidOf k2
    have D2 := hidOf (D1.out.since b2)
    have B2 := hidOf (moreL B1.out b2)
    clear D1 B1 b2 L2 k2
    go_wp2_with fail
    refine (specLearned_any D2.out.1 D2.out.2.1).mono ?_
    rintro e w3 ⟨v3, out3, rfl, _, k3, L3, b3⟩
    have eo := LrnOut.one L3 LO.out
    subst eo
    have S3 := hidOf k3
    have O3 := hidOf (O2.out.sinc b3)
    have D3 := hidOf (D2.out.since b3)
    have B3 := hidOf (moreL B2.out b3)
    clear D2 B2 O2 b3 L3 k3
    go_wp2_with fail
    refine (sameKeys_any O3.out.arg S3.out.arg O3.out.len_le).mono ?_
    rintro e w4 ⟨rfl, b4⟩
    rw [decide_eq_true rfl]
    have O4 := hidOf (O3.out.sinc b4)
    have D4 := hidOf (D3.out.since b4)
    have B4 := hidOf (moreL B3.out b4)
    clear D3 B3 O3 S3 b4
    go_wp2_with fail
    refine (specKnownOk_any D4.out.1).mono ?_
    rintro e w5 ⟨rfl, b5⟩
    have O5 := hidOf (O4.out.sinc b5)
    have D5 := hidOf (D4.out.since b5)
    have B5 := hidOf (moreL B4.out b5)
    clear D4 B4 O4 b5
    by_cases hkw : knownB ks = true ∧ wrapsB ws = true
    case neg =>
      cases hk : knownB ks with
      | false =>
        go_wp2_with fail
        refine (specLearned_any D5.out.1 D5.out.2.1).mono ?_
        rintro e x1 ⟨y1, z1, rfl, _, j1, L1, c1⟩
        have eo1 := LrnOut.one L1 LO.out
        subst eo1
        have E1 := hidOf (D5.out.since c1)
        have F1 := hidOf (moreL B5.out c1)
        have G1 := hidOf (O5.out.sinc c1)
        have J1 := hidOf j1
        clear j1 c1 L1
        go_wp2_with fail
        refine (sameKeys_any G1.out.arg J1.out.arg G1.out.len_le).mono ?_
        rintro e x2 ⟨rfl, c2⟩
        rw [decide_eq_true rfl]
        have E2 := hidOf (E1.out.since c2)
        have F2 := hidOf (moreL F1.out c2)
        clear c2
        go_wp2_with fail
        refine (knownOk_any E2.out.1).mono ?_
        rintro e x3 ⟨rfl, c3⟩
        have E3 := hidOf (E2.out.since c3)
        have F3 := hidOf (moreL F2.out c3)
        clear c3
        go_wp2_with fail
        refine (specKnownOk_any E3.out.1).mono ?_
        rintro e x4 ⟨rfl, c4⟩
        have E4 := hidOf (E3.out.since c4)
        have F4 := hidOf (moreL F3.out c4)
        clear c4
        have hs1 : (knownB ks == knownB ks) = true := by simp
        go_wp2_with fail
        refine (wrapsOk_any E4.out.2.1).mono ?_
        rintro e x5 ⟨rfl, c5⟩
        have E5 := hidOf (E4.out.since c5)
        have F5 := hidOf (moreL F4.out c5)
        clear c5
        go_wp2_with fail
        refine (specWrapsOk_any E5.out.2.1).mono ?_
        rintro e x6 ⟨rfl, c6⟩
        have F6 := hidOf (moreL F5.out c6)
        clear c6
        have hs2 : (wrapsB ws == wrapsB ws) = true := by simp
        go_wp2
        go_ret
        exact ⟨by simp, F6.out⟩

      | true =>
        have hw : wrapsB ws = false := by
          cases e : wrapsB ws with
          | false => rfl
          | true => exact absurd ⟨hk, e⟩ hkw
        go_wp2_with fail
        refine (specWrapsOk_any D5.out.2.1).mono ?_
        rintro e w6 ⟨rfl, b6⟩
        have O6 := hidOf (O5.out.sinc b6)
        have D6 := hidOf (D5.out.since b6)
        have B6 := hidOf (moreL B5.out b6)
        clear D5 B5 O5 b6
        rw [hw]
        go_wp2_with fail
        refine (specLearned_any D6.out.1 D6.out.2.1).mono ?_
        rintro e x1 ⟨y1, z1, rfl, _, j1, L1, c1⟩
        have eo1 := LrnOut.one L1 LO.out
        subst eo1
        have E1 := hidOf (D6.out.since c1)
        have F1 := hidOf (moreL B6.out c1)
        have G1 := hidOf (O6.out.sinc c1)
        have J1 := hidOf j1
        clear j1 c1 L1
        go_wp2_with fail
        refine (sameKeys_any G1.out.arg J1.out.arg G1.out.len_le).mono ?_
        rintro e x2 ⟨rfl, c2⟩
        rw [decide_eq_true rfl]
        have E2 := hidOf (E1.out.since c2)
        have F2 := hidOf (moreL F1.out c2)
        clear c2
        go_wp2_with fail
        refine (knownOk_any E2.out.1).mono ?_
        rintro e x3 ⟨rfl, c3⟩
        have E3 := hidOf (E2.out.since c3)
        have F3 := hidOf (moreL F2.out c3)
        clear c3
        go_wp2_with fail
        refine (specKnownOk_any E3.out.1).mono ?_
        rintro e x4 ⟨rfl, c4⟩
        have E4 := hidOf (E3.out.since c4)
        have F4 := hidOf (moreL F3.out c4)
        clear c4
        have hs1 : (knownB ks == knownB ks) = true := by simp
        go_wp2_with fail
        refine (wrapsOk_any E4.out.2.1).mono ?_
        rintro e x5 ⟨rfl, c5⟩
        have E5 := hidOf (E4.out.since c5)
        have F5 := hidOf (moreL F4.out c5)
        clear c5
        go_wp2_with fail
        refine (specWrapsOk_any E5.out.2.1).mono ?_
        rintro e x6 ⟨rfl, c6⟩
        have F6 := hidOf (moreL F5.out c6)
        clear c6
        have hs2 : (wrapsB ws == wrapsB ws) = true := by simp
        go_wp2
        go_ret
        exact ⟨by simp, F6.out⟩
    case pos =>
    have hk := hkw.1
    have hw := hkw.2
    clear hkw
    rw [hk]
    go_wp2_with fail
    refine (specWrapsOk_any D5.out.2.1).mono ?_
    rintro e w6 ⟨rfl, b6⟩
    have O6 := hidOf (O5.out.sinc b6)
    have D6 := hidOf (D5.out.since b6)
    have B6 := hidOf (moreL B5.out b6)
    clear D5 B5 O5 b6
    rw [hw]
    obtain ⟨hr, hmem, hko, hol⟩ := LO.out.right hk hw (by have := D6.out.2.2.1; have := D6.out.2.2.2; omega)
    have HR := hidOf hr
    have HM := hidOf hmem
    have HKO := hidOf hko
    have HK := hidOf hk
    have HW := hidOf hw
    have hwl := D6.out.2.2.2
    have hkl := D6.out.2.2.1
    clear hr hmem hko hk hw
    have HKL := hidOf (show ks.length + ws.length ≤ 200 by omega)
    obtain ⟨aw, cw, hvw, hrow⟩ : ∃ a c, vw = .slice a ws.length c ∧ ((ws = [] ∧ a = none ∧ c = 0) ∨ ∃ g, a = some ⟨g, 0, none⟩ ∧ ws.length ≤ c) := by
      rcases D6.out.2.1.arg with ⟨rfl, rfl⟩ | ⟨g, c, rfl, hg, hc, hs⟩
      · exact ⟨_, _, rfl, .inl ⟨rfl, rfl, rfl⟩⟩
      · exact ⟨_, _, rfl, .inr ⟨g, rfl, hc⟩⟩
    subst hvw
    have HRow := hidOf hrow
    clear hrow
    obtain ⟨i0, hi, hz0, hz1, hz2⟩ := info_parts infoWr
    have hb7 := one_below w6 (.cells #[] 35)
    have BK := hidOf (emptyWs w6 w6.heap.size (Nat.le_refl _))
    generalize hn : ws.length = n at *
    have HN := hidOf hn
    go_wp2
    go_loopw [6, 7] (fun vb i wr => ∃ k : Nat, k ≤ n ∧ i = .int .i64 ((k : Int) - 1) ∧ Hid (Wraps w6.heap.size vb ((ws.drop k).reverse) wr) ∧ Below w6.heap.size w6 wr) (fun _ i _ => ((intOf i) + 1).toNat)
    case atStart => exact ⟨n, Nat.le_refl _, rfl, (show Wraps _ _ _ _ by rw [List.drop_of_length_le (by omega)]; exact BK.out), hb7⟩
    case round =>
      obtain ⟨k, hkn, rfl, HB, hB⟩ := hrel
      have hsz := hB.size
      cases k with
      | succ j =>
        have hjl : j < ws.length := by omega
        have hcast : ((j + 1 : Nat) : Int) - 1 = (j : Int) := by omega
        rw [hcast]
        obtain ⟨g, ha, hcw⟩ : ∃ g, aw = some ⟨g, 0, none⟩ ∧ n ≤ cw := by
          rcases HRow.out with ⟨e, _⟩ | e
          · rw [e] at hjl; simp at hjl
          · exact e
        subst ha
        obtain ⟨t1, t2, t3, t4⟩ : wr.cell? ⟨g, j * 4, none⟩ = some (.int .i64 ws[j].1) ∧ wr.cell? ⟨g, j * 4 + 1, none⟩ = some (.int .i64 ws[j].2.1) ∧ wr.cell? ⟨g, j * 4 + 2, none⟩ = some (.int .i64 ws[j].2.2.1) ∧ wr.cell? ⟨g, j * 4 + 3, none⟩ = some (.int .i64 ws[j].2.2.2) := by
          rcases (D6.out.2.1.sinc hB).arg with ⟨e, _⟩ | ⟨g', c, e, _, _, hs⟩
          · cases e
          · injection e with e; injection e with e; injection e with e; subst e
            have := hs j hjl
            simpa using this
        have HT := hidOf (drop_rev ws j hjl)
        have hll : ((ws.drop (j + 1)).reverse).length ≤ 9 := by simp; omega
        obtain ⟨p1, p2, p3, p4, hxw⟩ : ∃ p1 p2 p3 p4, ws[j] = (p1, p2, p3, p4) := ⟨_, _, _, _, rfl⟩
        rw [hxw] at t1 t2 t3 t4 HT
        clear hxw
        go_wp2_with (at_builtin; refine wpList_append_own _ rfl _ _ 25 rfl w6.heap.size 35 i0 (.agg #[.int .i64 0, .int .i64 0, .int .i64 0, .int .i64 0]) 4 32 Try.underlying25 hi hz0 hz1 hz2 rfl (by decide) _ _ _ rfl (World.ownsRow.alloc HB.out _) ⟨wr.heap.size, 0, none⟩ 1 1 [.int .i64 p1, .int .i64 p2, .int .i64 p3, .int .i64 p4] rfl rfl (cell_four_new _ _ _ _ _ _) (by simp [Value.oneCell']) (by unfold maxLen; omega) (by omega) (by simp; omega) ?_; intro v' w8 hown' hgrow _)
        go_roundw
        case rel =>
          refine ⟨j, by omega, by go_num, ?_, ?_⟩
          · show Wraps _ _ _ _
            unfold Wraps
            rw [HT.out, List.length_append, wcells_append]
            exact hown'
          · exact (hB.alloc hsz _).grown hgrow (by simp; omega) (fun k e => (HB.out.lt k e).1)
        case measure => simp [intOf] <;> omega
      | zero =>
        have HBk : Hid (Wraps w6.heap.size u6 ws.reverse wr) := by
          show Wraps _ _ _ _
          have := HB.out
          simpa using this
        have D7 := hidOf (D6.out.since hB)
        have B7 := hidOf (moreL B6.out hB)
        have O7 := hidOf (O6.out.sinc hB)
        clear HB D6 B6 O6 BK
        obtain ⟨m, hm, hmn⟩ : ∃ m : Nat, (len : Int) % ((n : Int) + 1) = (m : Int) ∧ m ≤ n := ⟨len % (n + 1), by simp, Nat.le_of_lt_succ (Nat.mod_lt _ (by omega))⟩
        rcases HRow.out with ⟨hws, haw, hcw⟩ | ⟨g, haw, hcw⟩
        · subst haw hcw
          have hn0 : n = 0 := by rw [← HN.out, hws]; rfl
          have hm0 : m = 0 := by omega
          subst hn0 hm0
          have hws' : ws.take 0 = [] := rfl
          go_wp2_with fail
          refine (learned_any D7.out.1 (show Wraps 0 (.slice none 0 0) (ws.take 0) wr by rw [List.take_zero]; exact noneW' _ _)).mono ?_
          rintro e w8 ⟨v8, out8, rfl, k8, L8, b8⟩
          obtain ⟨_, hm8, hk8, hl8⟩ := L8.right HK.out (wrapsB_sub HW.out (by simp <;> omega) (fun x hx => List.mem_of_mem_take hx)) (by have := HKL.out; simp <;> omega)
          have HM8 := hidOf hm8
          have HK8 := hidOf hk8
          have HL8 := hidOf hl8
          have S8 := hidOf k8
          have D8 := hidOf (D7.out.since b8)
          have O8 := hidOf (O7.out.sinc b8)
          have K8 := hidOf (HBk.out.sinc b8)
          have B8 := hidOf (moreL B7.out b8)
          clear D7 O7 HBk B7 hm8 hk8 hl8 k8 L8 b8
          have HIn := hidOf (show ∀ k ∈ ks, k ∈ out3 from fun k hk => (HM.out k).2 ((Lrn.cases' k).2 (.inl hk)))
          have HIn8 := hidOf (show ∀ k ∈ out8, k ∈ out3 from fun k hk => (HM.out k).2 (Lrn.grows (fun _ h => h) (fun x hx => List.mem_of_mem_take hx) ((HM8.out k).1 hk)))
          have HKn8 := hidOf (show ∀ k ∈ ks, k ∈ out8 from fun k hk => (HM8.out k).2 ((Lrn.cases' k).2 (.inl hk)))
          go_wp2_with fail
          refine (within_any D8.out.1.arg O8.out.arg D8.out.1.len_le O8.out.len_le).mono ?_
          rintro e w9 ⟨rfl, b9⟩
          rw [within_true HIn.out]
          have D9 := hidOf (D8.out.since b9)
          have O9 := hidOf (O8.out.sinc b9)
          have K9 := hidOf (K8.out.sinc b9)
          have S9 := hidOf (S8.out.sinc b9)
          have B9 := hidOf (moreL B8.out b9)
          clear D8 O8 K8 S8 B8 b9
          go_wp2_with fail
          refine (learned_any O9.out D9.out.2.1).mono ?_
          rintro e w10 ⟨v10, o10, rfl, k10, L10, b10⟩
          have eo10 := LrnOut.again HM.out HR.out HKO.out HW.out HIn.out (fun _ h => h) L10
          subst eo10
          have D10 := hidOf (D9.out.since b10)
          have O10 := hidOf (O9.out.sinc b10)
          have K10 := hidOf (K9.out.sinc b10)
          have S10 := hidOf (S9.out.sinc b10)
          have B10 := hidOf (moreL B9.out b10)
          have N10 := hidOf k10
          clear D9 O9 K9 S9 B9 b10 k10
          go_wp2_with fail
          refine (sameKeys_any N10.out.arg O10.out.arg N10.out.len_le).mono ?_
          rintro e w11 ⟨rfl, b11⟩
          rw [decide_eq_true rfl]
          clear N10
          have D11 := hidOf (D10.out.since b11)
          have O11 := hidOf (O10.out.sinc b11)
          have K11 := hidOf (K10.out.sinc b11)
          have S11 := hidOf (S10.out.sinc b11)
          have B11 := hidOf (moreL B10.out b11)
          clear D10 O10 K10 S10 B10 b11
          go_wp2_with fail
          refine (learned_any D11.out.1 K11.out).mono ?_
          rintro e w12 ⟨v12, o12, rfl, k12, L12, b12⟩
          have eo12 := LrnOut.other HM.out HR.out HK.out (wrapsB_sub HW.out (by simp) (fun x hx => List.mem_reverse.1 hx)) (fun x => List.mem_reverse.symm) L12
          subst eo12
          have D12 := hidOf (D11.out.since b12)
          have O12 := hidOf (O11.out.sinc b12)
          have K12 := hidOf (K11.out.sinc b12)
          have S12 := hidOf (S11.out.sinc b12)
          have B12 := hidOf (moreL B11.out b12)
          have N12 := hidOf k12
          clear D11 O11 K11 S11 B11 b12 k12
          go_wp2_with fail
          refine (sameKeys_any N12.out.arg O12.out.arg N12.out.len_le).mono ?_
          rintro e w13 ⟨rfl, b13⟩
          rw [decide_eq_true rfl]
          clear N12
          have D13 := hidOf (D12.out.since b13)
          have O13 := hidOf (O12.out.sinc b13)
          have K13 := hidOf (K12.out.sinc b13)
          have S13 := hidOf (S12.out.sinc b13)
          have B13 := hidOf (moreL B12.out b13)
          clear D12 O12 K12 S12 B12 b13
          go_wp2_with fail
          refine (within_any S13.out.arg O13.out.arg S13.out.len_le O13.out.len_le).mono ?_
          rintro e w14 ⟨rfl, b14⟩
          rw [within_true HIn8.out]
          have D14 := hidOf (D13.out.since b14)
          have O14 := hidOf (O13.out.sinc b14)
          have K14 := hidOf (K13.out.sinc b14)
          have S14 := hidOf (S13.out.sinc b14)
          have B14 := hidOf (moreL B13.out b14)
          clear D13 O13 K13 S13 B13 b14
          go_wp2_with fail
          refine (learned_any S14.out D14.out.2.1).mono ?_
          rintro e w15 ⟨v15, o15, rfl, k15, L15, b15⟩
          have eo15 := LrnOut.again HM.out HR.out HK8.out HW.out HKn8.out HIn8.out L15
          subst eo15
          have D15 := hidOf (D14.out.since b15)
          have O15 := hidOf (O14.out.sinc b15)
          have K15 := hidOf (K14.out.sinc b15)
          have S15 := hidOf (S14.out.sinc b15)
          have B15 := hidOf (moreL B14.out b15)
          have N15 := hidOf k15
          clear D14 O14 K14 S14 B14 b15 k15
          go_wp2_with fail
          refine (sameKeys_any N15.out.arg O15.out.arg N15.out.len_le).mono ?_
          rintro e w16 ⟨rfl, b16⟩
          rw [decide_eq_true rfl]
          clear N15
          have D16 := hidOf (D15.out.since b16)
          have O16 := hidOf (O15.out.sinc b16)
          have K16 := hidOf (K15.out.sinc b16)
          have S16 := hidOf (S15.out.sinc b16)
          have B16 := hidOf (moreL B15.out b16)
          clear D15 O15 K15 S15 B15 b16
          go_wp2_with fail
          refine (knownOk_any O16.out).mono ?_
          rintro e w17 ⟨rfl, b17⟩
          rw [HKO.out]
          have D17 := hidOf (D16.out.since b17)
          have O17 := hidOf (O16.out.sinc b17)
          have K17 := hidOf (K16.out.sinc b17)
          have S17 := hidOf (S16.out.sinc b17)
          have B17 := hidOf (moreL B16.out b17)
          clear D16 O16 K16 S16 B16 b17
          go_wp2
          go_ret
          exact ⟨rfl, B17.out⟩
        · subst haw
          go_wp2_with fail
          refine (learned_any D7.out.1 (show Wraps W.heap.size (.slice (some ⟨g, 0, none⟩) m cw) (ws.take m) wr from Wraps.cut D7.out.2.1 m (by rw [HN.out]; exact hmn))).mono ?_
          rintro e w8 ⟨v8, out8, rfl, k8, L8, b8⟩
          obtain ⟨_, hm8, hk8, hl8⟩ := L8.right HK.out (wrapsB_sub HW.out (by simp <;> omega) (fun x hx => List.mem_of_mem_take hx)) (by have := HKL.out; simp <;> omega)
          have HM8 := hidOf hm8
          have HK8 := hidOf hk8
          have HL8 := hidOf hl8
          have S8 := hidOf k8
          have D8 := hidOf (D7.out.since b8)
          have O8 := hidOf (O7.out.sinc b8)
          have K8 := hidOf (HBk.out.sinc b8)
          have B8 := hidOf (moreL B7.out b8)
          clear D7 O7 HBk B7 hm8 hk8 hl8 k8 L8 b8
          have HIn := hidOf (show ∀ k ∈ ks, k ∈ out3 from fun k hk => (HM.out k).2 ((Lrn.cases' k).2 (.inl hk)))
          have HIn8 := hidOf (show ∀ k ∈ out8, k ∈ out3 from fun k hk => (HM.out k).2 (Lrn.grows (fun _ h => h) (fun x hx => List.mem_of_mem_take hx) ((HM8.out k).1 hk)))
          have HKn8 := hidOf (show ∀ k ∈ ks, k ∈ out8 from fun k hk => (HM8.out k).2 ((Lrn.cases' k).2 (.inl hk)))
          go_wp2_with fail
          refine (within_any D8.out.1.arg O8.out.arg D8.out.1.len_le O8.out.len_le).mono ?_
          rintro e w9 ⟨rfl, b9⟩
          rw [within_true HIn.out]
          have D9 := hidOf (D8.out.since b9)
          have O9 := hidOf (O8.out.sinc b9)
          have K9 := hidOf (K8.out.sinc b9)
          have S9 := hidOf (S8.out.sinc b9)
          have B9 := hidOf (moreL B8.out b9)
          clear D8 O8 K8 S8 B8 b9
          go_wp2_with fail
          refine (learned_any O9.out D9.out.2.1).mono ?_
          rintro e w10 ⟨v10, o10, rfl, k10, L10, b10⟩
          have eo10 := LrnOut.again HM.out HR.out HKO.out HW.out HIn.out (fun _ h => h) L10
          subst eo10
          have D10 := hidOf (D9.out.since b10)
          have O10 := hidOf (O9.out.sinc b10)
          have K10 := hidOf (K9.out.sinc b10)
          have S10 := hidOf (S9.out.sinc b10)
          have B10 := hidOf (moreL B9.out b10)
          have N10 := hidOf k10
          clear D9 O9 K9 S9 B9 b10 k10
          go_wp2_with fail
          refine (sameKeys_any N10.out.arg O10.out.arg N10.out.len_le).mono ?_
          rintro e w11 ⟨rfl, b11⟩
          rw [decide_eq_true rfl]
          clear N10
          have D11 := hidOf (D10.out.since b11)
          have O11 := hidOf (O10.out.sinc b11)
          have K11 := hidOf (K10.out.sinc b11)
          have S11 := hidOf (S10.out.sinc b11)
          have B11 := hidOf (moreL B10.out b11)
          clear D10 O10 K10 S10 B10 b11
          go_wp2_with fail
          refine (learned_any D11.out.1 K11.out).mono ?_
          rintro e w12 ⟨v12, o12, rfl, k12, L12, b12⟩
          have eo12 := LrnOut.other HM.out HR.out HK.out (wrapsB_sub HW.out (by simp) (fun x hx => List.mem_reverse.1 hx)) (fun x => List.mem_reverse.symm) L12
          subst eo12
          have D12 := hidOf (D11.out.since b12)
          have O12 := hidOf (O11.out.sinc b12)
          have K12 := hidOf (K11.out.sinc b12)
          have S12 := hidOf (S11.out.sinc b12)
          have B12 := hidOf (moreL B11.out b12)
          have N12 := hidOf k12
          clear D11 O11 K11 S11 B11 b12 k12
          go_wp2_with fail
          refine (sameKeys_any N12.out.arg O12.out.arg N12.out.len_le).mono ?_
          rintro e w13 ⟨rfl, b13⟩
          rw [decide_eq_true rfl]
          clear N12
          have D13 := hidOf (D12.out.since b13)
          have O13 := hidOf (O12.out.sinc b13)
          have K13 := hidOf (K12.out.sinc b13)
          have S13 := hidOf (S12.out.sinc b13)
          have B13 := hidOf (moreL B12.out b13)
          clear D12 O12 K12 S12 B12 b13
          go_wp2_with fail
          refine (within_any S13.out.arg O13.out.arg S13.out.len_le O13.out.len_le).mono ?_
          rintro e w14 ⟨rfl, b14⟩
          rw [within_true HIn8.out]
          have D14 := hidOf (D13.out.since b14)
          have O14 := hidOf (O13.out.sinc b14)
          have K14 := hidOf (K13.out.sinc b14)
          have S14 := hidOf (S13.out.sinc b14)
          have B14 := hidOf (moreL B13.out b14)
          clear D13 O13 K13 S13 B13 b14
          go_wp2_with fail
          refine (learned_any S14.out D14.out.2.1).mono ?_
          rintro e w15 ⟨v15, o15, rfl, k15, L15, b15⟩
          have eo15 := LrnOut.again HM.out HR.out HK8.out HW.out HKn8.out HIn8.out L15
          subst eo15
          have D15 := hidOf (D14.out.since b15)
          have O15 := hidOf (O14.out.sinc b15)
          have K15 := hidOf (K14.out.sinc b15)
          have S15 := hidOf (S14.out.sinc b15)
          have B15 := hidOf (moreL B14.out b15)
          have N15 := hidOf k15
          clear D14 O14 K14 S14 B14 b15 k15
          go_wp2_with fail
          refine (sameKeys_any N15.out.arg O15.out.arg N15.out.len_le).mono ?_
          rintro e w16 ⟨rfl, b16⟩
          rw [decide_eq_true rfl]
          clear N15
          have D16 := hidOf (D15.out.since b16)
          have O16 := hidOf (O15.out.sinc b16)
          have K16 := hidOf (K15.out.sinc b16)
          have S16 := hidOf (S15.out.sinc b16)
          have B16 := hidOf (moreL B15.out b16)
          clear D15 O15 K15 S15 B15 b16
          go_wp2_with fail
          refine (knownOk_any O16.out).mono ?_
          rintro e w17 ⟨rfl, b17⟩
          rw [HKO.out]
          have D17 := hidOf (D16.out.since b17)
          have O17 := hidOf (O16.out.sinc b17)
          have K17 := hidOf (K16.out.sinc b17)
          have S17 := hidOf (S16.out.sinc b17)
          have B17 := hidOf (moreL B16.out b17)
          clear D16 O16 K16 S16 B16 b17
          go_wp2
          go_ret
          exact ⟨rfl, B17.out⟩
end Go.Proofs.Ytkkjpkldfllfiaa
