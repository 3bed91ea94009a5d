
/- The walk of the drawn law of CanLearn: it answers true at every code, and nothing that lay there turns. -/
import Derived.Test.YtkkjpkldfllfiaaCanL
import Derived.Test.YtkkjpkldfllfiaaDr3
import Derived.Test.YtkkjpkldfllfiaaLMath
namespace Go.Proofs.Ytkkjpkldfllfiaa
open Go.RowKit

theorem noneW (C : Nat) (w : World) : Wraps C (.slice none 0 0) [] w := ⟨by simp [wcells], .inl ⟨rfl, rfl⟩⟩
theorem more {w W W' : World} (h : Below w.heap.size w W) (hb : Below W.heap.size W W') : Below w.heap.size w W' := h.trans (hb.mono h.size)
/-- May a key be learned by one of the first m wraps, or is it known? -/
def mayB (ks out : List K2) (ws : List W4) (k : K2) (m : Nat) : Bool := decide (k ∈ ks ∨ ∃ x ∈ ws.take m, wKey x = k ∧ wUnder x ∈ out)
theorem mayB_zero (ks out : List K2) (ws : List W4) (k : K2) : mayB ks out ws k 0 = decide (k ∈ ks) := by simp [mayB]
theorem mayB_succ (ks out : List K2) (ws : List W4) (k : K2) (m : Nat) (h : m < ws.length) : mayB ks out ws k (m + 1) = (mayB ks out ws k m || (decide (wKey ws[m] = k) && decide (wUnder ws[m] ∈ out))) := by
  unfold mayB
  rw [List.take_succ_eq_append_getElem h, Bool.eq_iff_iff]
  simp only [decide_eq_true_eq, Bool.or_eq_true, Bool.and_eq_true, List.mem_append, List.mem_singleton]
  constructor
  · rintro (h1 | ⟨x, h1 | h1, h2⟩)
    · exact .inl (.inl h1)
    · exact .inl (.inr ⟨x, h1, h2⟩)
    · subst h1; exact .inr h2
  · rintro ((h1 | ⟨x, h1, h2⟩) | h2)
    · exact .inl h1
    · exact .inr ⟨x, .inl h1, h2⟩
    · exact .inr ⟨_, .inr rfl, h2⟩
theorem mayB_all {ks out : List K2} {ws : List W4} (k : K2) (h : ∀ k, k ∈ out ↔ Lrn ks ws k) : mayB ks out ws k ws.length = decide (k ∈ out) := by
  unfold mayB
  rw [List.take_length, decide_eq_decide, h k, Lrn.cases' k]
  constructor
  · rintro (h1 | ⟨x, hx, h1, h2⟩)
    · exact .inl h1
    · exact .inr ⟨x, hx, h1, (h _).1 h2⟩
  · rintro (h1 | ⟨x, hx, h1, h2⟩)
    · exact .inl h1
    · exact .inr ⟨x, hx, h1, (h _).2 h2⟩
theorem keep6 {B C : Nat} {kx wx : Value} {ks : List K2} {ws : List W4} {w W W' : World} {p1 p2 p3 p4 p5 p6 : Addr} {v1 v2 v3 v4 v5 v6 : Value}
    (h : W.cell? p1 = some v1 ∧ W.cell? p2 = some v2 ∧ W.cell? p3 = some v3 ∧ W.cell? p4 = some v4 ∧ W.cell? p5 = some v5 ∧ W.cell? p6 = some v6 ∧ KwT B C kx wx ks ws w W) (hb : Below W.heap.size W W') :
    W'.cell? p1 = some v1 ∧ W'.cell? p2 = some v2 ∧ W'.cell? p3 = some v3 ∧ W'.cell? p4 = some v4 ∧ W'.cell? p5 = some v5 ∧ W'.cell? p6 = some v6 ∧ KwT B C kx wx ks ws w W' :=
  ⟨cell_since h.1 hb, cell_since h.2.1 hb, cell_since h.2.2.1 hb, cell_since h.2.2.2.1 hb, cell_since h.2.2.2.2.1 hb, cell_since h.2.2.2.2.2.1 hb, h.2.2.2.2.2.2.later hb⟩

set_option maxRecDepth 100000 in
set_option maxHeartbeats 4000000 in
theorem fnCanLearn_any (a : Option Addr) (len cap : Nat) (W : World) (h : Bytes W.heap.size a len W) :
    Calls Try.prog 4 #[.slice a len cap] W fun e W' => e = .returned (.bool true) ∧ Below W.heap.size W W' := by
  by_cases hbig : (1048576 : Int) < (len : Int)
  · have hd : decide ((1048576 : Int) < (len : Int)) = true := decide_eq_true hbig
    go_enter Try.func4, Try.ntmps4
    go_wp2_with fail
    refine (big_any _ _ _ _).mono ?_
    rintro e w' ⟨rfl, rfl⟩
    rw [hd]
    go_wp2
    go_ret
    exact ⟨rfl, Below.refl _ _⟩
  · have hd : decide ((1048576 : Int) < (len : Int)) = false := decide_eq_false hbig
    go_enter Try.func4, Try.ntmps4
    go_wp2_with fail
    refine (big_any _ _ _ _).mono ?_
    rintro e w' ⟨rfl, hww⟩
    subst w'
    rw [hd]
    go_wp2_with fail
    refine (drawCanLearn_any a len cap W h).mono ?_
    rintro e w1 ⟨vk, ks, vw, ws, x, y, rfl, D1, b1⟩
    have hb2 := one_below w1 (kb x y)
    have D2 := hidOf (D1.since hb2)
    have B2 := hidOf (more b1 hb2)
    obtain ⟨c0, c1⟩ : (w1.alloc (kb x y)).cell? ⟨w1.heap.size, 0, none⟩ = some (.int .i64 x) ∧ (w1.alloc (kb x y)).cell? ⟨w1.heap.size, 1, none⟩ = some (.int .i64 y) := by simp
    clear D1 b1 hb2 hbig hd h
    go_wp2_with fail
    generalize w1.alloc (kb x y) = w2 at *
    refine (canLearn_any x y D2.out.1 D2.out.2.1).mono ?_
    rintro e w3 ⟨out, L3, rfl, b3⟩
    have LO : Hid (LrnOut ks ws out) := L3
    have D3 := hidOf (D2.out.since b3)
    have B3 := hidOf (more B2.out b3)
    have d0 := cell_since c0 b3
    have d1 := cell_since c1 b3
    clear D2 B2 b3 L3 c0 c1
    have HI : Hid (∀ o, LrnOut ks ws o → decide ((x, y) ∈ o) = decide ((x, y) ∈ out)) := fun o ho => by rw [LrnOut.one ho LO.out]
    generalize his : decide ((x, y) ∈ out) = is at HI ⊢
    have HIS := hidOf his
    clear his
    go_wp2_with fail
    refine (specCanLearn_any x y D3.out.1 D3.out.2.1).mono ?_
    rintro e w4 ⟨out4, L4, rfl, b4⟩
    rw [HI.out out4 L4]
    have D4 := hidOf (D3.out.since b4)
    have B4 := hidOf (more B3.out b4)
    have e0 := cell_since d0 b4
    have e1 := cell_since d1 b4
    clear D3 B3 b4 L4 d0 d1
    go_wp2_with fail
    refine (specKnownOk_any D4.out.1).mono ?_
    rintro e w5 ⟨rfl, b5⟩
    have D5 := hidOf (D4.out.since b5)
    have B5 := hidOf (more B4.out b5)
    have d0 := cell_since e0 b5
    have d1 := cell_since e1 b5
    clear D4 B4 b5 e0 e1
    cases hk : knownB ks with
    | false =>
      go_wp2_with fail
      refine (specCanLearn_any x y D5.out.1 D5.out.2.1).mono ?_
      rintro e w6 ⟨out6, L6, rfl, b6⟩
      rw [HI.out out6 L6]
      have B6 := hidOf (more B5.out b6)
      go_wp2
      go_ret
      exact ⟨by simp, B6.out⟩
    | true =>
    go_wp2_with fail
    refine (specWrapsOk_any D5.out.2.1).mono ?_
    rintro e w6 ⟨rfl, b6⟩
    have D6 := hidOf (D5.out.since b6)
    have B6 := hidOf (more B5.out b6)
    have e0 := cell_since d0 b6
    have e1 := cell_since d1 b6
    clear D5 B5 b6 d0 d1
    cases hw : wrapsB ws with
    | false =>
      go_wp2_with fail
      refine (specCanLearn_any x y D6.out.1 D6.out.2.1).mono ?_
      rintro e w7 ⟨out7, L7, rfl, b7⟩
      rw [HI.out out7 L7]
      have B7 := hidOf (more B6.out b7)
      go_wp2
      go_ret
      exact ⟨by simp, B7.out⟩
    | true =>
    have HL : Hid (∀ k, k ∈ out ↔ Lrn ks ws k) := by
      have := LO.out
      unfold LrnOut at this
      rw [if_pos ⟨hk, hw⟩] at this
      exact this.2
    have HNo : Hid (∀ o, LrnOut ks [] o → decide ((x, y) ∈ o) = decide ((x, y) ∈ ks)) := by
      intro o ho
      unfold LrnOut at ho
      rw [if_pos ⟨hk, rfl⟩] at ho
      rw [decide_eq_decide, ho.2, Lrn.noWrap]
    have HU : Hid (∀ o (k : K2), LrnOut ks ws o → decide (k ∈ o) = decide (k ∈ out)) := fun o k ho => by rw [LrnOut.one ho LO.out]
    have hwl := D6.out.2.2.2
    have hkl := D6.out.2.2.1
    clear hk hw HI
    go_wp2_with fail
    refine (hasKey_any x y D6.out.1.arg D6.out.1.len_le).mono ?_
    rintro e w7 ⟨rfl, b7⟩
    have D7 := hidOf (D6.out.since b7)
    have B7 := hidOf (more B6.out b7)
    have d0 := cell_since e0 b7
    have d1 := cell_since e1 b7
    clear D6 B6 b7 e0 e1
    obtain ⟨aw, cw, hvw, hrow⟩ : ∃ a c, vw = .slice a ws.length c ∧ (ws = [] ∨ ∃ g, a = some ⟨g, 0, none⟩ ∧ g < w7.heap.size ∧ WSeg g 0 ws w7) := by
      rcases D7.out.2.1.arg with ⟨rfl, rfl⟩ | ⟨g, c, rfl, hg, _, hs⟩
      · exact ⟨_, _, rfl, .inl rfl⟩
      · exact ⟨_, _, rfl, .inr ⟨g, rfl, hg, hs⟩⟩
    subst hvw
    have HR := hidOf hrow
    clear hrow
    have HE : Hid (decide ((x, y) ∈ ks) = mayB ks out ws (x, y) 0) := (mayB_zero _ _ _ _).symm
    rw [HE.out]
    generalize hn : ws.length = n at *
    go_wp2
    go_loopw [7, 8] (fun m i wr => ∃ k : Nat, k ≤ n ∧ i = .int .i64 (k : Int) ∧ m = .bool (mayB ks out ws (x, y) k) ∧ Below w7.heap.size w7 wr) (fun _ i _ => n - (intOf i).toNat)
    case atStart => exact ⟨0, Nat.zero_le _, rfl, rfl, Below.refl _ _⟩
    case round =>
      obtain ⟨k, hkn, rfl, rfl, hB⟩ := hrel
      have f0 := cell_since d0 hB
      have f1 := cell_since d1 hB
      have DR := hidOf (D7.out.since hB)
      by_cases hlt : k < n
      · have hlk : k < ws.length := by omega
        obtain ⟨g, ha, hg, hseg⟩ : ∃ g, aw = some ⟨g, 0, none⟩ ∧ g < w7.heap.size ∧ WSeg g 0 ws w7 := by
          rcases HR.out with e | e
          · rw [e] at hlk; simp at hlk
          · exact e
        subst ha
        obtain ⟨a1, a2, a3, a4⟩ := hseg k hlk
        simp only [Nat.zero_add] at a1 a2 a3 a4
        have t1 := cell_since a1 hB
        have t2 := cell_since a2 hB
        have t3 := cell_since a3 hB
        have t4 := cell_since a4 hB
        have HS := hidOf (mayB_succ ks out ws (x, y) k hlk)
        obtain ⟨u1, u2, k1, k2, hxw⟩ : ∃ u1 u2 k1 k2, ws[k] = (u1, u2, k1, k2) := ⟨_, _, _, _, rfl⟩
        rw [hxw] at t1 t2 t3 t4 HS
        clear hxw a1 a2 a3 a4 hseg
        cases hmay : mayB ks out ws (x, y) k with
        | true =>
          have HF : Hid (mayB ks out ws (x, y) (k + 1) = true) := by show mayB ks out ws (x, y) (k + 1) = true; rw [HS.out, hmay]; rfl
          go_wp2
          go_quiet (fail)
          go_wp2
          go_roundw
          case rel => exact ⟨k + 1, by omega, by go_num, by rw [HF.out], below_drewN hB _⟩
          case measure => simp [intOf]; omega
        | false =>
          by_cases hu : k1 = x
          · by_cases hv : k2 = y
            · subst hu hv
              have HF : Hid (mayB ks out ws (k1, k2) (k + 1) = decide ((u1, u2) ∈ out)) := by show mayB ks out ws (k1, k2) (k + 1) = _; rw [HS.out, hmay]; simp
              have hT : KwT W.heap.size W.heap.size vk (.slice (some ⟨g, 0, none⟩) n cw) ks ws w7 wr.drew := KwT.later ⟨DR.out.1, DR.out.2.1, hB⟩ (Below.refl _ _).drew
              go_wp2
              go_region_held3 (fun X => X.cell? ⟨g, k * 4, none⟩ = some (.int .i64 u1) ∧ X.cell? ⟨g, k * 4 + 1, none⟩ = some (.int .i64 u2) ∧ X.cell? ⟨g, k * 4 + 2, none⟩ = some (.int .i64 k1) ∧ X.cell? ⟨g, k * 4 + 3, none⟩ = some (.int .i64 k2) ∧ X.cell? ⟨w1.heap.size, 0, none⟩ = some (.int .i64 k1) ∧ X.cell? ⟨w1.heap.size, 1, none⟩ = some (.int .i64 k2) ∧ KwT W.heap.size W.heap.size vk (.slice (some ⟨g, 0, none⟩) n cw) ks ws w7 X)
                (first | exact ⟨t1, t2, t3, t4, f0, f1, hT⟩ | assumption | exact keep6 ‹_› b8)
                (first | (go_at_call 20; refine (canLearn_any u1 u2 hT.1 hT.2.1).mono ?_; rintro e w8 ⟨o8, L8, rfl, b8⟩; rw [HU.out o8 (u1, u2) L8]))
              rename_i hHeld
              have hBf := hHeld.2.2.2.2.2.2.2.2
              clear hHeld hT t1 t2 t3 t4 f0 f1
              go_wp2
              go_roundw
              case rel => exact ⟨k + 1, by omega, by go_num, by rw [HF.out], hBf⟩
              case measure => simp [intOf]; omega
            · subst hu
              have hv' : (k2 == y) = false := by simpa using hv
              have HF : Hid (mayB ks out ws (k1, y) (k + 1) = false) := by show mayB ks out ws (k1, y) (k + 1) = false; rw [HS.out, hmay]; simp [hv]
              go_wp2
              go_quiet (fail)
              go_wp2
              go_roundw
              case rel => exact ⟨k + 1, by omega, by go_num, by rw [HF.out], below_drewN hB _⟩
              case measure => simp [intOf]; omega
          · have hu' : (k1 == x) = false := by simpa using hu
            have HF : Hid (mayB ks out ws (x, y) (k + 1) = false) := by show mayB ks out ws (x, y) (k + 1) = false; rw [HS.out, hmay]; simp [hu]
            go_wp2
            go_quiet (fail)
            go_wp2
            go_roundw
            case rel => exact ⟨k + 1, by omega, by go_num, by rw [HF.out], below_drewN hB _⟩
            case measure => simp [intOf]; omega
      · have HM : Hid (mayB ks out ws (x, y) k = is) := by
          show mayB ks out ws (x, y) k = is
          have e : k = ws.length := by omega
          rw [e, mayB_all (x, y) HL.out, HIS.out]
        rw [HM.out]
        have hself : (is == is) = true := by simp
        have hself2 : (decide ((x, y) ∈ ks) == decide ((x, y) ∈ ks)) = true := by simp
        have hT : KwT W.heap.size W.heap.size vk (.slice aw n cw) ks ws w7 wr.drew := KwT.later ⟨DR.out.1, DR.out.2.1, hB⟩ (Below.refl _ _).drew
        go_wp2
        go_region_held3 (fun X => X.cell? ⟨w1.heap.size, 0, none⟩ = some (.int .i64 x) ∧ X.cell? ⟨w1.heap.size, 1, none⟩ = some (.int .i64 y) ∧ KwT W.heap.size W.heap.size vk (.slice aw n cw) ks ws w7 X)
          (first | exact ⟨f0, f1, hT⟩ | assumption | exact keepKw ‹_› b9 | exact keepKw ‹_› b8)
          (first | (go_at_call 20; refine (canLearn_any x y hT.1 (noneW 0 _)).mono ?_; rintro e w8 ⟨o8, L8, rfl, b8⟩; rw [HNo.out o8 L8]) | (go_at_call 22; refine (hasKey_any x y (hT.1.arg.below b8) hT.1.len_le).mono ?_; rintro e w9 ⟨rfl, b9⟩))
        rename_i hHeld
        have hBf := hidOf (more B7.out hHeld.2.2.2.2)
        clear hHeld
        go_wp2
        go_ret
        exact ⟨by simp, hBf.out⟩
end Go.Proofs.Ytkkjpkldfllfiaa
