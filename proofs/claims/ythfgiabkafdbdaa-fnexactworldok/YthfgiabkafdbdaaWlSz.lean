
/- What the exact laws' helpers on worlds do: szMail, szMemberS, szMailS, szWorld. -/
import Derived.Test.YthfgiabkafdbdaaWlR
import Derived.Test.YthfgiabkafdbdaaMem3
import Derived.Test.YthfgiabkafdbdaaRk
import Derived.Test.YthfgiabkafdbdaaSrv4
import Derived.Test.YthfgiabkafdbdaaBox5
namespace Go.Proofs.Ythfgiabkafdbdaa
open Go.RowKit

/-- Members of the laws', as they came in. -/
abbrev InMems (v : Value) (ds : List MD) (W : World) : Prop := ERd InKeys v ds W
abbrev InMails (v : Value) (ls : List LD) (W : World) : Prop := ERd InWraps v ls W
theorem stableIK : Stable InKeys := fun _ _ _ _ h hb => h.below hb (Nat.le_refl _)
theorem stableIW : Stable InWraps := fun _ _ _ _ h hb => h.below hb (Nat.le_refl _)

abbrev lmlb (to ep : Int) (v : Value) : Obj := .cells #[.int .i64 to, .int .i64 ep, v] 122
theorem cellL3 (w : World) (x y : Int) (v : Value) (t : TypeId) : (w.alloc (.cells #[.int .i64 x, .int .i64 y, v] t)).cell? ⟨w.heap.size, 0, none⟩ = some (.int .i64 x) ∧ (w.alloc (.cells #[.int .i64 x, .int .i64 y, v] t)).cell? ⟨w.heap.size, 1, none⟩ = some (.int .i64 y) ∧ (w.alloc (.cells #[.int .i64 x, .int .i64 y, v] t)).cell? ⟨w.heap.size, 2, none⟩ = some v := by simp
theorem szMail_any (to ep : Int) (a : Option Addr) (n c : Nat) (l : Int) (w : World) (hl : 0 ≤ l) (hl2 : l ≤ 1048576) (hn : n ≤ maxLen) :
    Calls Try.prog 70 #[mv to ep (.slice a n c), .int .i64 l] w fun e w' => e = .returned (.int .i64 (if l - (n : Int) < 0 then -1 else l - (n : Int))) ∧ Below w.heap.size w w' := by
  have hB := one_below w (lmlb to ep (.slice a n c))
  obtain ⟨c0, c1, c2⟩ := cellL3 w to ep (.slice a n c) 122
  by_cases h : l - (n : Int) < 0
  · have hif : (if l - (n : Int) < 0 then (-1 : Int) else l - (n : Int)) = -1 := if_pos h
    go_enter Try.func70, Try.ntmps70
    go_wp2_with fail
    refine (szRekey_any _ _ _ _ _ _ hl hl2 hn).mono ?_
    rintro e w' ⟨rfl, hww⟩
    have hB' : Below w.heap.size w w' := by rw [hww]; exact hB.alloc hB.size _
    clear hww
    rw [hif]
    go_wp2
    go_ret
    exact ⟨rfl, hB'⟩
  · have hif : (if l - (n : Int) < 0 then (-1 : Int) else l - (n : Int)) = l - (n : Int) := if_neg h
    go_enter Try.func70, Try.ntmps70
    go_wp2_with fail
    refine (szRekey_any _ _ _ _ _ _ hl hl2 hn).mono ?_
    rintro e w' ⟨rfl, hww⟩
    have hB' : Below w.heap.size w w' := by rw [hww]; exact hB.alloc hB.size _
    clear hww
    rw [hif]
    go_wp2
    go_ret
    exact ⟨rfl, hB'⟩
theorem szMember_below (id ep : Int) (a : Option Addr) (n c : Nat) (l : Int) (w : World) (hl : 0 ≤ l) (hl2 : l ≤ 1048576) (hn : n ≤ maxLen) :
    Calls Try.prog 69 #[mv id ep (.slice a n c), .int .i64 l] w fun e w' => e = .returned (.int .i64 (if l - (n : Int) < 0 then -1 else l - (n : Int))) ∧ Below w.heap.size w w' :=
  (szMember_any id ep a n c l w hl hl2 hn).mono fun _ _ h => ⟨h.1, h.2 ▸ one_below _ _⟩
theorem szE_no {α : Type} {l : Int} {ds : List (Int × Int × List α)} (h : l - (ds.length : Int) < 0) : szE l ds = -1 := by unfold szE; rw [if_pos (by omega)]
theorem szE_at {α : Type} {l : Int} {ds : List (Int × Int × List α)} {m : Nat} (hm : m < ds.length) (h : l - (ds.length : Int) - (sumTo ds m : Int) - (ds[m].2.2.length : Int) < 0) : szE l ds = -1 := by
  have h1 := sumTo_succ ds m hm
  have h2 := sumTo_le ds (m + 1)
  unfold szE
  rw [if_pos (by omega)]
theorem szE_ok {α : Type} {l : Int} {ds : List (Int × Int × List α)} (h : 0 ≤ l - (ds.length : Int) - (sumTo ds ds.length : Int)) : szE l ds = l - (ds.length : Int) - (sumTo ds ds.length : Int) := by
  rw [sumTo_all] at h ⊢
  unfold szE
  rw [if_neg (by omega)]

set_option maxRecDepth 100000 in
set_option maxHeartbeats 1000000 in
theorem szMemberS_any (v : Value) (ds : List MD) (l : Int) (w : World) (h : InMems v ds w) (hl : 0 ≤ l) (hl2 : l ≤ 1048576) :
    Calls Try.prog 50 #[v, .int .i64 l] w fun e w' => e = .returned (.int .i64 (szE l ds)) ∧ Below w.heap.size w w' := by
  obtain ⟨a, c, rfl, hm, hrow⟩ := h.len
  unfold maxLen at hm
  by_cases h0 : l - (ds.length : Int) < 0
  · have hz := szE_no (ds := ds) h0
    rw [hz]
    clear hz h hrow
    generalize ds.length = n at *
    go_enter Try.func50, Try.ntmps50
    go_wp2
    go_ret
    exact ⟨rfl, Below.refl _ _⟩
  · have HR : Hid (ds = [] ∨ ∃ b off, a = some ⟨b, off, none⟩ ∧ b < w.heap.size ∧ ESeg InKeys b off ds w) := hrow
    clear h hrow
    generalize hn : ds.length = n at *
    go_enter Try.func50, Try.ntmps50
    go_wp2
    go_loopw [1, 5] (fun lv i wr => ∃ (k : Nat), i = .int .i64 (k : Int) ∧ k ≤ n ∧ lv = .int .i64 (l - (n : Int) - (sumTo ds k : Int)) ∧ 0 ≤ l - (n : Int) - (sumTo ds k : Int) ∧ Below w.heap.size w wr) (fun _ i _ => n - (intOf i).toNat)
    case atStart => exact ⟨0, rfl, Nat.zero_le _, by simp [sumTo], by simp [sumTo]; omega, Below.refl _ _⟩
    case round =>
      obtain ⟨k, rfl, hk, rfl, hge, hB⟩ := hrel
      by_cases hlt : k < n
      · have hlk : k < ds.length := by omega
        obtain ⟨b, off, ha, hb, hseg⟩ : ∃ b off, a = some ⟨b, off, none⟩ ∧ b < w.heap.size ∧ ESeg InKeys b off ds w := by
          rcases HR.out with e | e
          · rw [e] at hlk; simp at hlk
          · exact e
        subst ha
        obtain ⟨u, c1, c2, c3, c4⟩ := (hseg.since stableIK hB) k hlk
        obtain ⟨a', c', rfl, hm'⟩ := c4.len
        have HS1 := hidOf' (sumTo_succ ds k hlk)
        have HS2 := hidOf' (fun h => szE_at (l := l) hlk h)
        clear hseg c4
        generalize ds[k].1 = x1 at *
        generalize ds[k].2.1 = x2 at *
        generalize ds[k].2.2.length = n' at *
        rw [hn] at HS2
        generalize sumTo ds k = s at *
        by_cases hneg : l - (n : Int) - (s : Int) - (n' : Int) < 0
        · have hif : (if l - (n : Int) - (s : Int) - (n' : Int) < 0 then (-1 : Int) else l - (n : Int) - (s : Int) - (n' : Int)) = -1 := if_pos hneg
          have HZ := hidOf' (HS2.out hneg)
          clear HS1 HS2
          go_wp2_with fail
          refine (szMember_below _ _ _ _ _ _ _ (by omega) (by omega) hm').mono ?_
          rintro e w2 ⟨rfl, b2⟩
          rw [hif]
          have hB2 := more hB b2
          clear c1 c2 c3 b2 hB
          go_wp2
          go_ret
          exact ⟨by rw [HZ.out]; rfl, hB2⟩
        · have hif : (if l - (n : Int) - (s : Int) - (n' : Int) < 0 then (-1 : Int) else l - (n : Int) - (s : Int) - (n' : Int)) = l - (n : Int) - (s : Int) - (n' : Int) := if_neg hneg
          go_wp2_with fail
          refine (szMember_below _ _ _ _ _ _ _ (by omega) (by omega) hm').mono ?_
          rintro e w2 ⟨rfl, b2⟩
          rw [hif]
          have hB2 := more hB b2
          clear c1 c2 c3 b2 hB
          go_wp2
          go_roundw
          case rel => exact ⟨k + 1, by go_num, by omega, by rw [HS1.out]; congr 1; omega, by rw [HS1.out]; omega, hB2⟩
          case measure => simp [intOf]; omega
      · obtain rfl : k = n := by omega
        have HZ := hidOf' (szE_ok (l := l) (ds := ds) (by rw [hn]; exact hge))
        rw [hn] at HZ
        generalize sumTo ds k = s at *
        go_wp2
        go_ret
        exact ⟨by rw [HZ.out]; rfl, hB⟩

set_option maxRecDepth 100000 in
set_option maxHeartbeats 1000000 in
theorem szMailS_any (v : Value) (ds : List LD) (l : Int) (w : World) (h : InMails v ds w) (hl : 0 ≤ l) (hl2 : l ≤ 1048576) :
    Calls Try.prog 51 #[v, .int .i64 l] w fun e w' => e = .returned (.int .i64 (szE l ds)) ∧ Below w.heap.size w w' := by
  obtain ⟨a, c, rfl, hm, hrow⟩ := h.len
  unfold maxLen at hm
  by_cases h0 : l - (ds.length : Int) < 0
  · have hz := szE_no (ds := ds) h0
    rw [hz]
    clear hz h hrow
    generalize ds.length = n at *
    go_enter Try.func51, Try.ntmps51
    go_wp2
    go_ret
    exact ⟨rfl, Below.refl _ _⟩
  · have HR : Hid (ds = [] ∨ ∃ b off, a = some ⟨b, off, none⟩ ∧ b < w.heap.size ∧ ESeg InWraps b off ds w) := hrow
    clear h hrow
    generalize hn : ds.length = n at *
    go_enter Try.func51, Try.ntmps51
    go_wp2
    go_loopw [1, 5] (fun lv i wr => ∃ (k : Nat), i = .int .i64 (k : Int) ∧ k ≤ n ∧ lv = .int .i64 (l - (n : Int) - (sumTo ds k : Int)) ∧ 0 ≤ l - (n : Int) - (sumTo ds k : Int) ∧ Below w.heap.size w wr) (fun _ i _ => n - (intOf i).toNat)
    case atStart => exact ⟨0, rfl, Nat.zero_le _, by simp [sumTo], by simp [sumTo]; omega, Below.refl _ _⟩
    case round =>
      obtain ⟨k, rfl, hk, rfl, hge, hB⟩ := hrel
      by_cases hlt : k < n
      · have hlk : k < ds.length := by omega
        obtain ⟨b, off, ha, hb, hseg⟩ : ∃ b off, a = some ⟨b, off, none⟩ ∧ b < w.heap.size ∧ ESeg InWraps b off ds w := by
          rcases HR.out with e | e
          · rw [e] at hlk; simp at hlk
          · exact e
        subst ha
        obtain ⟨u, c1, c2, c3, c4⟩ := (hseg.since stableIW hB) k hlk
        obtain ⟨a', c', rfl, hm'⟩ := c4.len
        have HS1 := hidOf' (sumTo_succ ds k hlk)
        have HS2 := hidOf' (fun h => szE_at (l := l) hlk h)
        clear hseg c4
        generalize ds[k].1 = x1 at *
        generalize ds[k].2.1 = x2 at *
        generalize ds[k].2.2.length = n' at *
        rw [hn] at HS2
        generalize sumTo ds k = s at *
        by_cases hneg : l - (n : Int) - (s : Int) - (n' : Int) < 0
        · have hif : (if l - (n : Int) - (s : Int) - (n' : Int) < 0 then (-1 : Int) else l - (n : Int) - (s : Int) - (n' : Int)) = -1 := if_pos hneg
          have HZ := hidOf' (HS2.out hneg)
          clear HS1 HS2
          go_wp2_with fail
          refine (szMail_any _ _ _ _ _ _ _ (by omega) (by omega) hm').mono ?_
          rintro e w2 ⟨rfl, b2⟩
          rw [hif]
          have hB2 := more hB b2
          clear c1 c2 c3 b2 hB
          go_wp2
          go_ret
          exact ⟨by rw [HZ.out]; rfl, hB2⟩
        · have hif : (if l - (n : Int) - (s : Int) - (n' : Int) < 0 then (-1 : Int) else l - (n : Int) - (s : Int) - (n' : Int)) = l - (n : Int) - (s : Int) - (n' : Int) := if_neg hneg
          go_wp2_with fail
          refine (szMail_any _ _ _ _ _ _ _ (by omega) (by omega) hm').mono ?_
          rintro e w2 ⟨rfl, b2⟩
          rw [hif]
          have hB2 := more hB b2
          clear c1 c2 c3 b2 hB
          go_wp2
          go_roundw
          case rel => exact ⟨k + 1, by go_num, by omega, by rw [HS1.out]; congr 1; omega, by rw [HS1.out]; omega, hB2⟩
          case measure => simp [intOf]; omega
      · obtain rfl : k = n := by omega
        have HZ := hidOf' (szE_ok (l := l) (ds := ds) (by rw [hn]; exact hge))
        rw [hn] at HZ
        generalize sumTo ds k = s at *
        go_wp2
        go_ret
        exact ⟨by rw [HZ.out]; rfl, hB⟩

abbrev lwlb (ep : Int) (x y m l : Value) : Obj := .cells #[.int .i64 ep, x, y, m, l] 57
theorem szV_small (l : Int) (n m : Nat) : szV l n m = -1 ∨ (0 ≤ szV l n m ∧ szV l n m ≤ l ∧ n ≤ l ∧ m ≤ l) := by
  unfold szV
  split
  · exact .inl rfl
  · split
    · exact .inl rfl
    · exact .inr (by omega)
theorem szE_small {α : Type} (l : Int) (ds : List (Int × Int × List α)) : szE l ds = -1 ∨ (0 ≤ szE l ds ∧ szE l ds ≤ l ∧ ds.length ≤ l ∧ sumL ds ≤ l) := by
  unfold szE
  split
  · exact .inl rfl
  · exact .inr (by omega)
/-- What szWorld answers is below 0, or all is small. -/
def SmallW (vs : List Int) (ss : List (Int × Int)) (ds : List MD) (ls : List LD) : Prop := vs.length ≤ 1048576 ∧ ss.length ≤ 1048576 ∧ (ds.length ≤ 1048576 ∧ sumL ds ≤ 1048576) ∧ ls.length ≤ 1048576 ∧ sumL ls ≤ 1048576

set_option maxRecDepth 100000 in
set_option maxHeartbeats 1000000 in
theorem szWorld_any (ep : Int) (x y m l : Value) (vs : List Int) (ss : List (Int × Int)) (ds : List MD) (ls : List LD) (w : World) (hx : InInts x vs w) (hy : InSeats y ss w) (hd : InMems m ds w) (hl : InMails l ls w) :
    Calls Try.prog 31 #[wlv ep x y m l, .int .i64 1048576] w fun e w' => ∃ z, e = .returned (.int .i64 z) ∧ (z < 0 ∨ (0 ≤ z ∧ SmallW vs ss ds ls)) ∧ Below w.heap.size w w' := by
  obtain ⟨ax, cx, hvx, hmx⟩ := hx.len
  obtain ⟨ay, cy, hvy, hmy⟩ := hy.len
  subst hvx hvy
  have hB1 := one_below w (lwlb ep (.slice ax vs.length cx) (.slice ay ss.length cy) m l)
  obtain ⟨c0, c1, c2, c3, c4⟩ := wcell5 w ep (.slice ax vs.length cx) (.slice ay ss.length cy) m l 57
  have HD := hidOf' hd
  have HL := hidOf' hl
  obtain ⟨am, cm, hvm, _, _⟩ := hd.len
  obtain ⟨al, cl, hvl, _, _⟩ := hl.len
  have HV := hidOf' (szV_small 1048576 vs.length ss.length)
  clear hx hy hd hl
  subst hvm hvl
  generalize hsv : szV 1048576 vs.length ss.length = z1 at *
  go_enter Try.func31, Try.ntmps31
  go_wp2_with fail
  generalize w.alloc (lwlb ep (.slice ax vs.length cx) (.slice ay ss.length cy) (.slice am ds.length cm) (.slice al ls.length cl)) = w1 at *
  refine (szServer_any _ _ _ _ _ _ _ _ _ (by omega) (by omega) hmx hmy).mono ?_
  rintro e w2 ⟨rfl, hw2⟩
  rw [hsv]
  have b2 : Below w1.heap.size w1 w2 := by rw [hw2]; exact one_below _ _
  have hB2 := more hB1 b2
  have c3 := cell_since c3 b2
  have c4 := cell_since c4 b2
  clear hw2 hB1 b2 c0 c1 c2
  rcases HV.out with e1 | ⟨e1, e2, e3, e4⟩
  · subst e1
    go_wp2
    go_ret
    exact ⟨_, rfl, .inl (by omega), hB2⟩
  have hz1 : ¬ z1 < 0 := by omega
  have HV2 := hidOf' (szE_small z1 ds)
  have HE := hidOf' (And.intro e2 (And.intro e3 e4))
  clear HV e3 e4
  go_wp2_with fail
  refine (szMemberS_any _ ds z1 w2 (HD.out.since stableIK hB2) e1 e2).mono ?_
  rintro e w3 ⟨rfl, b3⟩
  have hB3 := more hB2 b3
  have c4 := cell_since c4 b3
  clear hB2 b3 c3
  generalize szE z1 ds = z2 at *
  rcases HV2.out with f1 | ⟨f1, f2, f3, f4⟩
  · subst f1
    go_wp2
    go_ret
    exact ⟨_, rfl, .inl (by omega), hB3⟩
  have hz2 : ¬ z2 < 0 := by omega
  have HV3 := hidOf' (szE_small z2 ls)
  have HF := hidOf' (And.intro f2 (And.intro f3 f4))
  clear HV2 f3 f4
  go_wp2_with fail
  refine (szMailS_any _ ls z2 w3 (HL.out.since stableIW hB3) f1 (by omega)).mono ?_
  rintro e w4 ⟨rfl, b4⟩
  have hB4 := more hB3 b4
  clear hB3 b4 c4
  generalize szE z2 ls = z3 at *
  rcases HV3.out with g1 | ⟨g1, g2, g3, g4⟩
  · subst g1
    go_wp2
    go_ret
    exact ⟨_, rfl, .inl (by omega), hB4⟩
  have hz3 : ¬ z3 < 0 := by omega
  have HG := hidOf' (And.intro g2 (And.intro g3 g4))
  clear HV3 g3 g4
  go_wp2
  go_ret
  refine ⟨_, rfl, .inr ⟨g1, ?_⟩, hB4⟩
  obtain ⟨e2, e3, e4⟩ := HE.out
  obtain ⟨f2, f3, f4⟩ := HF.out
  obtain ⟨g2, g3, g4⟩ := HG.out
  refine ⟨?_, ?_, ⟨?_, ?_⟩, ?_, ?_⟩ <;> omega
end Go.Proofs.Ythfgiabkafdbdaa
