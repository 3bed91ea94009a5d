
/- What the exact laws' helpers on worlds do: toWorld; eqMemberS, eqMail, eqMailS, eqWorld of two that are the same. -/
import Derived.Test.YthfgiabkafdbdaaWlTo
import Derived.Test.YthfgiabkafdbdaaMem4a
namespace Go.Proofs.Ythfgiabkafdbdaa
open Go.RowKit

set_option maxHeartbeats 1000000 in
theorem eqMail_self {B C : Nat} {u v : Value} {ws : List W4} {w : World} (to ep : Int) (hx : Wraps B u ws w) (hy : Wraps C v ws w) :
    Calls Try.prog 85 #[mv to ep u, mv to ep v] w fun e w' => e = .returned (.bool true) ∧ Below w.heap.size w w' := by
  have hB2 := two_below w (mlb to ep u) (mlb to ep v)
  obtain ⟨c0, c1, c2⟩ := cellL3 w to ep u 98
  have d0 := cell_since c0 (one_below _ (mlb to ep v))
  have d1 := cell_since c1 (one_below _ (mlb to ep v))
  have d2 := cell_since c2 (one_below _ (mlb to ep v))
  obtain ⟨p0, p1, p2⟩ := cellL3 (w.alloc (mlb to ep u)) to ep v 98
  have HX := hidOf' (wrapsSince hx hB2)
  have HY := hidOf' (wrapsSince hy hB2)
  clear c0 c1 c2 hx hy
  simp only [World.size_alloc] at p0 p1 p2
  go_enter Try.func85, Try.ntmps85
  go_wp2_with fail
  generalize (w.alloc (mlb to ep u)).alloc (mlb to ep v) = w1 at *
  refine (eqRekey_any ep ep HX.out HY.out).mono ?_
  rintro e w2 ⟨rfl, b2⟩
  rw [sameR_self]
  have HB := hidOf' (more hB2 b2)
  clear HX HY d0 d1 d2 p0 p1 p2 b2 hB2
  go_wp2
  go_ret
  exact ⟨rfl, HB.out⟩
theorem eqMember_self {B C : Nat} {u v : Value} {ks : List (Int × Int)} {w : World} (id ep : Int) (hx : Keys B u ks w) (hy : Keys C v ks w) :
    Calls Try.prog 84 #[mv id ep u, mv id ep v] w fun e w' => e = .returned (.bool true) ∧ Below w.heap.size w w' :=
  (eqMember_any id ep id ep hx hy).mono fun _ _ h => ⟨by rw [h.1, sameM_self], h.2⟩

theorem held6_later {w W W' : World} {p1 p2 p3 p4 p5 p6 : Addr} {v1 v2 v3 v4 v5 v6 : Value} (h : W.cell? p1 = some v1 ∧ W.cell? p2 = some v2 ∧ W.cell? p3 = some v3 ∧ W.cell? p4 = some v4 ∧ W.cell? p5 = some v5 ∧ W.cell? p6 = some v6 ∧ Below w.heap.size w W) (hb : Below W.heap.size W W') :
    W'.cell? p1 = some v1 ∧ W'.cell? p2 = some v2 ∧ W'.cell? p3 = some v3 ∧ W'.cell? p4 = some v4 ∧ W'.cell? p5 = some v5 ∧ W'.cell? p6 = some v6 ∧ Below w.heap.size w W' :=
  ⟨cell_since h.1 hb, cell_since h.2.1 hb, cell_since h.2.2.1 hb, cell_since h.2.2.2.1 hb, cell_since h.2.2.2.2.1 hb, cell_since h.2.2.2.2.2.1 hb, more h.2.2.2.2.2.2 hb⟩

set_option maxRecDepth 100000 in
set_option maxHeartbeats 1000000 in
theorem eqMemberS_self {B C : Nat} {u v : Value} {ds : List MD} {w : World} (hx : Mems B u ds w) (hy : Mems C v ds w) :
    Calls Try.prog 64 #[u, v] w fun e w' => e = .returned (.bool true) ∧ Below w.heap.size w w' := by
  obtain ⟨a, c, rfl, hm, hrow⟩ := hx.len
  obtain ⟨a', c', rfl, _, hrow'⟩ := hy.len
  unfold maxLen at hm
  have HR := hidOf' hrow
  have HR' := hidOf' hrow'
  clear hx hy hrow hrow'
  generalize hn : ds.length = n at *
  go_enter Try.func64, Try.ntmps64
  go_wp2
  go_loopw [5] (fun i wr => ∃ k : Nat, k ≤ n ∧ i = .int .i64 (k : Int) ∧ Below w.heap.size w wr) (fun i _ => n - (intOf i).toNat)
  case atStart => exact ⟨0, Nat.zero_le _, rfl, Below.refl _ _⟩
  case round =>
    obtain ⟨k, hk, rfl, hB⟩ := hrel
    by_cases hlt : k < n
    · have hlk : k < ds.length := by omega
      obtain ⟨b, off, ha, hb, hseg⟩ : ∃ b off, a = some ⟨b, off, none⟩ ∧ b < w.heap.size ∧ ESeg (fun u l W => Keys B u l W) b off ds w := by
        rcases HR.out with e | e
        · rw [e] at hlk; simp at hlk
        · exact e
      obtain ⟨b', off', ha', hb', hseg'⟩ : ∃ b off, a' = some ⟨b, off, none⟩ ∧ b < w.heap.size ∧ ESeg (fun u l W => Keys C u l W) b off ds w := by
        rcases HR'.out with e | e
        · rw [e] at hlk; simp at hlk
        · exact e
      subst ha ha'
      obtain ⟨u1, c1, c2, c3, c4⟩ := (hseg.since (stableK B) hB) k hlk
      obtain ⟨u2, d1, d2, d3, d4⟩ := (hseg'.since (stableK C) hB) k hlk
      obtain ⟨a1, e1, rfl, _, _⟩ := c4.row
      obtain ⟨a2, e2, rfl, _, _⟩ := d4.row
      have K1 := hidOf' c4
      have K2 := hidOf' d4
      clear hseg hseg' c4 d4
      generalize ds[k].2.2 = l3 at *
      generalize ds[k].1 = x1 at *
      generalize ds[k].2.1 = x2 at *
      go_wp2
      go_region_held3 (fun W => W.cell? ⟨b, off + k * 3, none⟩ = some (.int .i64 x1) ∧ W.cell? ⟨b, off + k * 3 + 1, none⟩ = some (.int .i64 x2) ∧ W.cell? ⟨b, off + k * 3 + 2, none⟩ = some (.slice a1 l3.length e1) ∧ W.cell? ⟨b', off' + k * 3, none⟩ = some (.int .i64 x1) ∧ W.cell? ⟨b', off' + k * 3 + 1, none⟩ = some (.int .i64 x2) ∧ W.cell? ⟨b', off' + k * 3 + 2, none⟩ = some (.slice a2 l3.length e2) ∧ Below w.heap.size w W)
        (first | exact ⟨c1, c2, c3, d1, d2, d3, hB.drew⟩ | exact held6_later ‹_› b2)
        (first | (go_at_call 84; refine (eqMember_self x1 x2 (show Keys B (.slice a1 l3.length e1) l3 wr.drew from K1.out) (show Keys C (.slice a2 l3.length e2) l3 wr.drew from K2.out)).mono ?_; rintro e w2 ⟨rfl, b2⟩))
      rename_i hHeld
      have hBf := hHeld.2.2.2.2.2.2
      clear hHeld c1 c2 c3 d1 d2 d3 hB K1 K2
      go_wp2
      go_roundw
      case rel => exact ⟨k + 1, by omega, by go_num, hBf⟩
      case measure => simp [intOf]; omega
    · go_wp2
      go_ret
      exact ⟨rfl, hB⟩

set_option maxRecDepth 100000 in
set_option maxHeartbeats 1000000 in
theorem eqMailS_self {B C : Nat} {u v : Value} {ds : List LD} {w : World} (hx : Mails B u ds w) (hy : Mails C v ds w) :
    Calls Try.prog 65 #[u, v] w fun e w' => e = .returned (.bool true) ∧ Below w.heap.size w w' := by
  obtain ⟨a, c, rfl, hm, hrow⟩ := hx.len
  obtain ⟨a', c', rfl, _, hrow'⟩ := hy.len
  unfold maxLen at hm
  have HR := hidOf' hrow
  have HR' := hidOf' hrow'
  clear hx hy hrow hrow'
  generalize hn : ds.length = n at *
  go_enter Try.func65, Try.ntmps65
  go_wp2
  go_loopw [5] (fun i wr => ∃ k : Nat, k ≤ n ∧ i = .int .i64 (k : Int) ∧ Below w.heap.size w wr) (fun i _ => n - (intOf i).toNat)
  case atStart => exact ⟨0, Nat.zero_le _, rfl, Below.refl _ _⟩
  case round =>
    obtain ⟨k, hk, rfl, hB⟩ := hrel
    by_cases hlt : k < n
    · have hlk : k < ds.length := by omega
      obtain ⟨b, off, ha, hb, hseg⟩ : ∃ b off, a = some ⟨b, off, none⟩ ∧ b < w.heap.size ∧ ESeg (fun u l W => Wraps B u l W) b off ds w := by
        rcases HR.out with e | e
        · rw [e] at hlk; simp at hlk
        · exact e
      obtain ⟨b', off', ha', hb', hseg'⟩ : ∃ b off, a' = some ⟨b, off, none⟩ ∧ b < w.heap.size ∧ ESeg (fun u l W => Wraps C u l W) b off ds w := by
        rcases HR'.out with e | e
        · rw [e] at hlk; simp at hlk
        · exact e
      subst ha ha'
      obtain ⟨u1, c1, c2, c3, c4⟩ := (hseg.since (stableW B) hB) k hlk
      obtain ⟨u2, d1, d2, d3, d4⟩ := (hseg'.since (stableW C) hB) k hlk
      obtain ⟨a1, e1, rfl⟩ := wrapsRow c4
      obtain ⟨a2, e2, rfl⟩ := wrapsRow d4
      have K1 := hidOf' c4
      have K2 := hidOf' d4
      clear hseg hseg' c4 d4
      generalize ds[k].2.2 = l3 at *
      generalize ds[k].1 = x1 at *
      generalize ds[k].2.1 = x2 at *
      go_wp2
      go_region_held3 (fun W => W.cell? ⟨b, off + k * 3, none⟩ = some (.int .i64 x1) ∧ W.cell? ⟨b, off + k * 3 + 1, none⟩ = some (.int .i64 x2) ∧ W.cell? ⟨b, off + k * 3 + 2, none⟩ = some (.slice a1 l3.length e1) ∧ W.cell? ⟨b', off' + k * 3, none⟩ = some (.int .i64 x1) ∧ W.cell? ⟨b', off' + k * 3 + 1, none⟩ = some (.int .i64 x2) ∧ W.cell? ⟨b', off' + k * 3 + 2, none⟩ = some (.slice a2 l3.length e2) ∧ Below w.heap.size w W)
        (first | exact ⟨c1, c2, c3, d1, d2, d3, hB.drew⟩ | exact held6_later ‹_› b2)
        (first | (go_at_call 85; refine (eqMail_self x1 x2 (show Wraps B (.slice a1 l3.length e1) l3 wr.drew from K1.out) (show Wraps C (.slice a2 l3.length e2) l3 wr.drew from K2.out)).mono ?_; rintro e w2 ⟨rfl, b2⟩))
      rename_i hHeld
      have hBf := hHeld.2.2.2.2.2.2
      clear hHeld c1 c2 c3 d1 d2 d3 hB K1 K2
      go_wp2
      go_roundw
      case rel => exact ⟨k + 1, by omega, by go_num, hBf⟩
      case measure => simp [intOf]; omega
    · go_wp2
      go_ret
      exact ⟨rfl, hB⟩

set_option maxHeartbeats 1000000 in
theorem eqWorld_self {B1 B2 B3 B4 C1 C2 C3 C4 : Nat} {x y m l x' y' m' l' : Value} {vs : List Int} {ss : List (Int × Int)} {ds : List MD} {ls : List LD} {w : World} (ep : Int) (hx : Ints B1 x vs w) (hy : Seats B2 y ss w) (hd : Mems B3 m ds w) (hl : Mails B4 l ls w) (hx' : Ints C1 x' vs w) (hy' : Seats C2 y' ss w) (hd' : Mems C3 m' ds w) (hl' : Mails C4 l' ls w) :
    Calls Try.prog 35 #[wlv ep x y m l, wlv ep x' y' m' l'] w fun e w' => e = .returned (.bool true) ∧ Below w.heap.size w w' := by
  have hB2 := two_below w (wlb ep x y m l) (wlb ep x' y' m' l')
  obtain ⟨c0, c1, c2, c3, c4⟩ := wcell5 w ep x y m l 66
  have d0 := cell_since c0 (one_below _ (wlb ep x' y' m' l'))
  have d1 := cell_since c1 (one_below _ (wlb ep x' y' m' l'))
  have d2 := cell_since c2 (one_below _ (wlb ep x' y' m' l'))
  have d3 := cell_since c3 (one_below _ (wlb ep x' y' m' l'))
  have d4 := cell_since c4 (one_below _ (wlb ep x' y' m' l'))
  obtain ⟨p0, p1, p2, p3, p4⟩ := wcell5 (w.alloc (wlb ep x y m l)) ep x' y' m' l' 66
  have HX := hidOf' (hx.since hB2)
  have HX' := hidOf' (hx'.since hB2)
  have HY := hidOf' (hy.since hB2)
  have HY' := hidOf' (hy'.since hB2)
  have HD := hidOf' (ERd.since (stableK _) hd hB2)
  have HD' := hidOf' (ERd.since (stableK _) hd' hB2)
  have HL := hidOf' (ERd.since (stableW _) hl hB2)
  have HL' := hidOf' (ERd.since (stableW _) hl' hB2)
  clear c0 c1 c2 c3 c4 hx hx' hy hy' hd hd' hl hl'
  simp only [World.size_alloc] at p0 p1 p2 p3 p4
  go_enter Try.func35, Try.ntmps35
  go_wp2_with fail
  generalize (w.alloc (wlb ep x y m l)).alloc (wlb ep x' y' m' l') = w1 at *
  refine (eqServer_any ep ep HX.out HY.out HX'.out HY'.out).mono ?_
  rintro e w2 ⟨rfl, b2⟩
  rw [sameS_self]
  have d3 := cell_since d3 b2
  have d4 := cell_since d4 b2
  have p3 := cell_since p3 b2
  have p4 := cell_since p4 b2
  have HB := hidOf' (more hB2 b2)
  have HD := hidOf' (ERd.since (stableK _) HD.out b2)
  have HD' := hidOf' (ERd.since (stableK _) HD'.out b2)
  have HL := hidOf' (ERd.since (stableW _) HL.out b2)
  have HL' := hidOf' (ERd.since (stableW _) HL'.out b2)
  clear hB2 b2 HX HX' HY HY' d0 d1 d2 p0 p1 p2
  go_wp2_with fail
  refine (eqMemberS_self HD.out HD'.out).mono ?_
  rintro e w3 ⟨rfl, b3⟩
  have d4 := cell_since d4 b3
  have p4 := cell_since p4 b3
  have HB := hidOf' (more HB.out b3)
  have HL := hidOf' (ERd.since (stableW _) HL.out b3)
  have HL' := hidOf' (ERd.since (stableW _) HL'.out b3)
  clear b3 HD HD' d3 p3
  go_wp2_with fail
  refine (eqMailS_self HL.out HL'.out).mono ?_
  rintro e w4 ⟨rfl, b4⟩
  have HB := hidOf' (more HB.out b4)
  clear b4 HL HL' d4 p4
  go_wp2
  go_ret
  exact ⟨rfl, HB.out⟩
end Go.Proofs.Ythfgiabkafdbdaa
