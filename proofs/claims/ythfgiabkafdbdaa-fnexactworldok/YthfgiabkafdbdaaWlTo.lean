
/- What the exact laws' helpers on worlds do: toMail, toMemberS, toMailS. -/
import Derived.Test.YthfgiabkafdbdaaWlSz
namespace Go.Proofs.Ythfgiabkafdbdaa
open Go.RowKit

abbrev mlb (to ep : Int) (v : Value) : Obj := .cells #[.int .i64 to, .int .i64 ep, v] 98
theorem infoMb : (Try.prog.info? 90).map (fun i => (i.zero, i.size, i.bytes)) = some (some (.agg #[.int .i64 0, .int .i64 0, .slice none 0 0]), 3, 40) := by kernel_rfl
theorem infoMl : (Try.prog.info? 98).map (fun i => (i.zero, i.size, i.bytes)) = some (some (.agg #[.int .i64 0, .int .i64 0, .slice none 0 0]), 3, 40) := by kernel_rfl

set_option maxHeartbeats 1000000 in
theorem toMail_any (to ep : Int) (v : Value) (ks : List W4) (w : World) (h : InWraps v ks w) (hn : ks.length ≤ 1048576) :
    Calls Try.prog 75 #[mv to ep v] w fun e w' => ∃ v', e = .returned (mv to ep v') ∧ Wraps w.heap.size v' ks w' ∧ Below w.heap.size w w' := by
  have hB0 : Below w.heap.size w (((w.alloc (lmlb to ep v)).alloc (mlb 0 0 (.slice none 0 0))).alloc (mlb to 0 (.slice none 0 0))) := (two_below w _ _).alloc (by simp; omega) _
  have b0 : (((w.alloc (lmlb to ep v)).alloc (mlb 0 0 (.slice none 0 0))).alloc (mlb to 0 (.slice none 0 0))).heap[w.heap.size]? = some (lmlb to ep v) := by
    rw [Below.heap_alloc _ _ _ (by simp; omega), Below.heap_alloc _ _ _ (by simp)]
    exact heap_alloc_new w _
  have b1 : (((w.alloc (lmlb to ep v)).alloc (mlb 0 0 (.slice none 0 0))).alloc (mlb to 0 (.slice none 0 0))).heap[w.heap.size + 1]? = some (mlb 0 0 (.slice none 0 0)) := by
    rw [Below.heap_alloc _ _ _ (by simp)]
    have := heap_alloc_new (w.alloc (lmlb to ep v)) (mlb 0 0 (.slice none 0 0))
    simpa using this
  have b2 : (((w.alloc (lmlb to ep v)).alloc (mlb 0 0 (.slice none 0 0))).alloc (mlb to 0 (.slice none 0 0))).heap[w.heap.size + 1 + 1]? = some (mlb to 0 (.slice none 0 0)) := by
    have := heap_alloc_new ((w.alloc (lmlb to ep v)).alloc (mlb 0 0 (.slice none 0 0))) (mlb to 0 (.slice none 0 0))
    simpa using this
  have hs0 : (((w.alloc (lmlb to ep v)).alloc (mlb 0 0 (.slice none 0 0))).alloc (mlb to 0 (.slice none 0 0))).heap.size = w.heap.size + 1 + 1 + 1 := by simp
  have HI : Hid (InWraps v ks (((w.alloc (lmlb to ep v)).alloc (mlb 0 0 (.slice none 0 0))).alloc (mlb to 0 (.slice none 0 0)))) := h.below hB0 (Nat.le_refl _)
  clear h
  go_enter Try.func75, Try.ntmps75
  go_wp2_with fail
  generalize ((w.alloc (lmlb to ep v)).alloc (mlb 0 0 (.slice none 0 0))).alloc (mlb to 0 (.slice none 0 0)) = w0 at hB0 b0 b1 b2 hs0 HI ⊢
  refine (toRekey_any ep v ks w0 HI.out hn).mono ?_
  rintro e w2 ⟨v', rfl, k2, hb2⟩
  obtain ⟨a', c', rfl⟩ := wrapsRow k2
  generalize hv' : Value.slice a' ks.length c' = v' at k2
  have d1 := (hb2.block (w.heap.size + 1) (by omega)).trans b1
  have d2 := (hb2.block (w.heap.size + 1 + 1) (by omega)).trans b2
  have hB2 := more hB0 hb2
  have hsz := hb2.size
  have hlt := World.ownsRow.lt k2
  obtain ⟨⟨p0, p1, p2⟩, f0, f1, f2⟩ := box3 d2
  obtain ⟨⟨q0, q1, q2⟩, e0, e1, e2⟩ := box3 d1
  clear HI b0 b1 b2
  have HF : Hid ((((((w2.setCell ⟨w.heap.size + 1 + 1, 1, none⟩ (.int .i64 ep)).setCell ⟨w.heap.size + 1 + 1, 2, none⟩ v').setCell ⟨w.heap.size + 1, 0, none⟩ (.int .i64 to)).setCell ⟨w.heap.size + 1, 1, none⟩ (.int .i64 ep)).setCell ⟨w.heap.size + 1, 2, none⟩ v').heap[w.heap.size + 1]? = some (mlb to ep v')) := box3_set2 (box3_set1 (box3_set0 (blk' (grown_set _ _ _ _) (blk' (grown_set _ _ _ _) d1 (by omega)) (by omega)) _) _) _
  have HB : Hid (Below w.heap.size w (((((w2.setCell ⟨w.heap.size + 1 + 1, 1, none⟩ (.int .i64 ep)).setCell ⟨w.heap.size + 1 + 1, 2, none⟩ v').setCell ⟨w.heap.size + 1, 0, none⟩ (.int .i64 to)).setCell ⟨w.heap.size + 1, 1, none⟩ (.int .i64 ep)).setCell ⟨w.heap.size + 1, 2, none⟩ v')) := ((((hB2.setCell (by simp; omega) _).setCell (by simp; omega) _).setCell (by simp) _).setCell (by simp) _).setCell (by simp) _
  have HK : Hid (Wraps w.heap.size v' ks (((((w2.setCell ⟨w.heap.size + 1 + 1, 1, none⟩ (.int .i64 ep)).setCell ⟨w.heap.size + 1 + 1, 2, none⟩ v').setCell ⟨w.heap.size + 1, 0, none⟩ (.int .i64 to)).setCell ⟨w.heap.size + 1, 1, none⟩ (.int .i64 ep)).setCell ⟨w.heap.size + 1, 2, none⟩ v')) :=
    wrapsKept (wrapsKept (wrapsKept (wrapsKept (wrapsKept (k2.mono (by omega)) (grown_set _ _ _ _) (fun k e e' => by cases e; have := (hlt _ e').1; omega)) (grown_set _ _ _ _) (fun k e e' => by cases e; have := (hlt _ e').1; omega)) (grown_set _ _ _ _) (fun k e e' => by cases e; have := (hlt _ e').1; omega)) (grown_set _ _ _ _) (fun k e e' => by cases e; have := (hlt _ e').1; omega)) (grown_set _ _ _ _) (fun k e e' => by cases e; have := (hlt _ e').1; omega)
  clear d1 d2 hB2 hlt k2 hb2
  subst hv'
  go_wp2
  have bF := HF.out
  have gB := HB.out
  have gK := HK.out
  clear HF HB HK
  generalize ((((w2.setCell ⟨w.heap.size + 1 + 1, 1, none⟩ (.int .i64 ep)).setCell ⟨w.heap.size + 1 + 1, 2, none⟩ (.slice a' ks.length c')).setCell ⟨w.heap.size + 1, 0, none⟩ (.int .i64 to)).setCell ⟨w.heap.size + 1, 1, none⟩ (.int .i64 ep)).setCell ⟨w.heap.size + 1, 2, none⟩ (.slice a' ks.length c') = WF at bF gB gK ⊢
  obtain ⟨⟨z0, z1, z2⟩, _, _, _⟩ := box3 bF
  exact bodyPost_ret (v := mv to ep (.slice a' ks.length c')) (by simp [results, Try.results75, go_sem, z0, z1, z2]) rfl ⟨_, rfl, gK, gB⟩

/-- What toMemberS has laid so far. -/
def Laid {α : Type} (P : Value → List α → World → Prop) (t : TypeId) (B : Nat) (g n : Nat) (ds : List (Int × Int × List α)) (k : Nat) (W : World) : Prop :=
  ∃ xs : List (Int × Int × Value), xs.length = k ∧ ERow t B (.slice (some ⟨g, 0, none⟩) n n) (partE xs n) W ∧ ∀ i (hi : i < xs.length) (hd : i < ds.length), xs[i].1 = ds[i].1 ∧ xs[i].2.1 = ds[i].2.1 ∧ P xs[i].2.2 ds[i].2.2 W
theorem Laid.since {α : Type} {P : Value → List α → World → Prop} (hP : Stable P) {t : TypeId} {B g n : Nat} {ds : List (Int × Int × List α)} {k : Nat} {W W' : World} (h : Laid P t B g n ds k W) (hb : Below W.heap.size W W') : Laid P t B g n ds k W' := by
  obtain ⟨xs, hl, hr, hx⟩ := h
  exact ⟨xs, hl, hr.since hb, fun i hi hd => ⟨(hx i hi hd).1, (hx i hi hd).2.1, hP _ _ _ _ (hx i hi hd).2.2 hb⟩⟩
theorem Laid.done {α : Type} {P : Value → List α → World → Prop} {t : TypeId} {B g n : Nat} {ds : List (Int × Int × List α)} {W : World} (h : Laid P t B g n ds n W) (hn : ds.length = n) (hm : n ≤ maxLen) : ERd P (.slice (some ⟨g, 0, none⟩) n n) ds W := by
  obtain ⟨xs, hl, hr, hx⟩ := h
  obtain ⟨hg, hc, _⟩ := hr.form
  have hp : partE xs n = xs := by simp [partE, hl]
  rw [hp] at hc
  refine .inr ⟨g, 0, n, by rw [hn], hg, by omega, fun i hi => ?_⟩
  have hi' : i < xs.length := by omega
  have h1 := hc i hi'
  have h2 := hx i hi' hi
  refine ⟨xs[i].2.2, ?_, ?_, ?_, h2.2.2⟩
  · rw [Nat.zero_add, ← h2.1]; exact h1.1
  · rw [Nat.zero_add, ← h2.2.1]; exact h1.2.1
  · rw [Nat.zero_add]; exact h1.2.2
/-- One more is laid: the world it is read from has grown, its list is new. -/
theorem Laid.step {α : Type} {P : Value → List α → World → Prop} {t : TypeId} {B g n : Nat} {ds : List (Int × Int × List α)} {k : Nat} {W : World} (h : Laid P t B g n ds k W) (hk : k < n) (hd : k < ds.length) (u : Value) (hu : P u ds[k].2.2 W)
    (hP : ∀ u l, P u l W → ∀ W', W.grownBy W' (some g) → P u l W') :
    Laid P t B g n ds (k + 1) (((W.setCell ⟨g, k * 3, none⟩ (.int .i64 ds[k].1)).setCell ⟨g, k * 3 + 1, none⟩ (.int .i64 ds[k].2.1)).setCell ⟨g, k * 3 + 2, none⟩ u) ∧
      W.grownBy (((W.setCell ⟨g, k * 3, none⟩ (.int .i64 ds[k].1)).setCell ⟨g, k * 3 + 1, none⟩ (.int .i64 ds[k].2.1)).setCell ⟨g, k * 3 + 2, none⟩ u) (some g) := by
  obtain ⟨xs, rfl, hr, hx⟩ := h
  have hpl : (partE xs n).length = n := partE_length _ _ (by omega)
  have hst := ERow.stored hpl hr xs.length (by omega) ds[xs.length].1 ds[xs.length].2.1 u
  rw [partE_set _ _ _ hk] at hst
  refine ⟨⟨xs ++ [(ds[xs.length].1, ds[xs.length].2.1, u)], by simp, hst.1, fun i hi hd' => ?_⟩, hst.2⟩
  by_cases e : i < xs.length
  · rw [List.getElem_append_left e]
    have := hx i e hd'
    exact ⟨this.1, this.2.1, hP _ _ this.2.2 _ hst.2⟩
  · have e2 : i = xs.length := by simp at hi; omega
    subst e2
    simp only [List.getElem_append_right (Nat.le_refl _), Nat.sub_self, List.getElem_cons_zero]
    exact ⟨trivial, trivial, hP _ _ hu _ hst.2⟩

set_option maxRecDepth 100000 in
set_option maxHeartbeats 1000000 in
theorem toMemberS_row (b off c : Nat) (ds : List MD) (w : World) (hn : ds.length ≤ 1048576) (hsum : sumL ds ≤ 1048576) (hs : ESeg InKeys b off ds w) :
    Calls Try.prog 57 #[.slice (some ⟨b, off, none⟩) ds.length c] w fun e w' => ∃ v, e = .returned v ∧ Mems w.heap.size v ds w' ∧ (∀ k, v.ownBlock = some k → w.heap.size ≤ k) ∧ Below w.heap.size w w' := by
  obtain ⟨i0, hi, hz0, hz1, hz2⟩ := info_parts infoMb
  generalize hN : ds.length = N at hn ⊢
  have HS := hidOf' hs
  clear hs
  go_enter Try.func57, Try.ntmps57
  go_wp2_with (at_make; refine wpList_make_full _ rfl _ _ 63 rfl w.heap.size 90 i0 _ 3 Try.underlying63 hi hz0 hz1 .i64 .i64 _ _ N rfl rfl rfl rfl (by rw [hz2]; omega) (by unfold maxLen; omega) (Nat.le_refl _) ?_; intro w0 hown0 hgrow0)
  have hK0 : Hid (Laid (fun u l W => Keys w.heap.size u l W) 90 w.heap.size w.heap.size N ds 0 w0) := by
    refine ⟨[], rfl, ?_, fun i hi => by simp at hi⟩
    unfold ERow
    rw [partE_length _ _ (by simp)]
    have e : partE [] N = List.replicate N (0, 0, .slice none 0 0) := by simp [partE]
    rw [e, ecells_zero, ← made_three]
    exact hown0
  have hB0 : Below w.heap.size w w0 := below_grown hgrow0
  have hs0 : w.heap.size < w0.heap.size := by obtain ⟨xs, _, hr, _⟩ := hK0.out; exact hr.form.1
  clear hown0 hgrow0
  go_loopw [4] (fun i wr => ∃ k : Nat, k ≤ N ∧ i = .int .i64 (k : Int) ∧ Hid (Laid (fun u l W => Keys w.heap.size u l W) 90 w.heap.size w.heap.size N ds k wr) ∧ Below w.heap.size w wr ∧ w.heap.size < wr.heap.size) (fun i _ => N - (intOf i).toNat)
  case atStart => exact ⟨0, Nat.zero_le _, rfl, hK0, hB0, hs0⟩
  case round =>
    obtain ⟨k, hk, rfl, HK, hB, hsz⟩ := hrel
    clear hK0 hB0 hs0
    by_cases hlt : k < N
    · have hkl : k < ds.length := by omega
      obtain ⟨u, c1, c2, c3, c4⟩ := (HS.out.since stableIK hB) k hkl
      obtain ⟨a', c', rfl, _⟩ := c4.len
      have hlen := Nat.le_trans (len_le_sum ds k hkl) hsum
      have HI := hidOf' c4
      have HL := hidOf' hlen
      clear c4 hlen
      generalize hk1 : ds[k].1 = p at c1
      generalize hk2 : ds[k].2.1 = q at c2
      have HK1 := hidOf' hk1
      have HK2 := hidOf' hk2
      clear hk1 hk2
      generalize hk3 : ds[k].2.2 = l3 at *
      have HK3 := hidOf' hk3
      clear hk3
      go_wp2_with fail
      refine (toMember_any _ _ _ l3 _ HI.out HL.out).mono ?_
      rintro e w2 ⟨v', rfl, k2, b2⟩
      have hB2 := more hB b2
      have hsz2 := Nat.lt_of_lt_of_le hsz b2.size
      have hLd := HK.out.since (stableK _) b2
      have hne : ∀ j, v'.ownBlock = some j → wr.heap.size ≤ j := fun j e => (k2.lt j e).1
      obtain ⟨a2, c2', hv2, _, _⟩ := k2.row
      have hst := hLd.step hlt hkl v' (by rw [HK3.out]; exact k2.mono (by omega)) (fun u l hu W' hg => by
        refine Keys.kept hu hg (fun j e e' => ?_)
        cases e
        obtain ⟨xs, _, hrow, _⟩ := hLd
        exact rows_apart hrow hu (by decide) e')
      rw [HK1.out, HK2.out] at hst
      obtain ⟨xs, hxl, hrow, _⟩ := hLd
      obtain ⟨_, hseg, hfr⟩ := hrow.form
      obtain ⟨s1, s2, s3⟩ := hseg k (by rw [partE_length _ _ (by omega)]; exact hlt)
      have f1 := hfr (k * 3)
      have f2 := hfr (k * 3 + 1)
      have f3 := hfr (k * 3 + 2)
      obtain ⟨x1, s1⟩ : ∃ x1, w2.cell? ⟨w.heap.size, k * 3, none⟩ = some x1 := ⟨_, s1⟩
      obtain ⟨x2, s2⟩ : ∃ x2, w2.cell? ⟨w.heap.size, k * 3 + 1, none⟩ = some x2 := ⟨_, s2⟩
      obtain ⟨x3, s3⟩ : ∃ x3, w2.cell? ⟨w.heap.size, k * 3 + 2, none⟩ = some x3 := ⟨_, s3⟩
      have HF := hidOf' (And.intro hst.1 (And.intro (hB2.grown hst.2 hB2.size (fun j e => by cases e; exact Nat.le_refl _)) (Nat.lt_of_lt_of_le hsz2 hst.2.size)))
      subst hv2
      clear hst hseg hfr hB2 hB HK k2 hne b2 c1 c2 c3 hrow
      go_wp2
      go_roundw
      case rel => exact ⟨k + 1, by omega, by go_num, HF.out.1, HF.out.2.1, HF.out.2.2⟩
      case measure => simp [intOf]; omega
    · obtain rfl : k = N := by omega
      go_wp2
      go_ret
      exact ⟨_, rfl, HK.out.done hN (by unfold maxLen; omega), fun k e => by simp [Value.ownBlock] at e; omega, hB⟩
theorem toMemberS_any (v : Value) (ds : List MD) (w : World) (h : InMems v ds w) (hn : ds.length ≤ 1048576) (hsum : sumL ds ≤ 1048576) :
    Calls Try.prog 57 #[v] w fun e w' => ∃ v', e = .returned v' ∧ Mems w.heap.size v' ds w' ∧ (∀ k, v'.ownBlock = some k → w.heap.size ≤ k) ∧ Below w.heap.size w w' := by
  rcases h with ⟨a, c, rfl, rfl⟩ | ⟨b, off, c, rfl, hl, hm, hs⟩
  · obtain ⟨i0, hi, hz0, hz1, hz2⟩ := info_parts infoMb
    go_enter Try.func57, Try.ntmps57
    go_wp2_with (at_make; refine wpList_make_full _ rfl _ _ 63 rfl w.heap.size 90 i0 _ 3 Try.underlying63 hi hz0 hz1 .i64 .i64 _ _ 0 rfl rfl rfl rfl (by omega) (by unfold maxLen; omega) (Nat.le_refl _) ?_; intro w0 hown0 hgrow0)
    refine wp_loop_rounds 1 ?_
    rw [rounds_succ]
    go_wp2
    go_ret
    exact ⟨_, rfl, .inl ⟨_, _, rfl, rfl⟩, fun k e => (World.ownsRow.lt hown0 k e).1, below_grown hgrow0⟩
  · exact toMemberS_row b off c ds w hn hsum hs

set_option maxRecDepth 100000 in
set_option maxHeartbeats 1000000 in
theorem toMailS_row (b off c : Nat) (ds : List LD) (w : World) (hn : ds.length ≤ 1048576) (hsum : sumL ds ≤ 1048576) (hs : ESeg InWraps b off ds w) :
    Calls Try.prog 58 #[.slice (some ⟨b, off, none⟩) ds.length c] w fun e w' => ∃ v, e = .returned v ∧ Mails w.heap.size v ds w' ∧ (∀ k, v.ownBlock = some k → w.heap.size ≤ k) ∧ Below w.heap.size w w' := by
  obtain ⟨i0, hi, hz0, hz1, hz2⟩ := info_parts infoMl
  generalize hN : ds.length = N at hn ⊢
  have HS := hidOf' hs
  clear hs
  go_enter Try.func58, Try.ntmps58
  go_wp2_with (at_make; refine wpList_make_full _ rfl _ _ 64 rfl w.heap.size 98 i0 _ 3 Try.underlying64 hi hz0 hz1 .i64 .i64 _ _ N rfl rfl rfl rfl (by rw [hz2]; omega) (by unfold maxLen; omega) (Nat.le_refl _) ?_; intro w0 hown0 hgrow0)
  have hK0 : Hid (Laid (fun u l W => Wraps w.heap.size u l W) 98 w.heap.size w.heap.size N ds 0 w0) := by
    refine ⟨[], rfl, ?_, fun i hi => by simp at hi⟩
    unfold ERow
    rw [partE_length _ _ (by simp)]
    have e : partE [] N = List.replicate N (0, 0, .slice none 0 0) := by simp [partE]
    rw [e, ecells_zero, ← made_three]
    exact hown0
  have hB0 : Below w.heap.size w w0 := below_grown hgrow0
  have hs0 : w.heap.size < w0.heap.size := by obtain ⟨xs, _, hr, _⟩ := hK0.out; exact hr.form.1
  clear hown0 hgrow0
  go_loopw [4] (fun i wr => ∃ k : Nat, k ≤ N ∧ i = .int .i64 (k : Int) ∧ Hid (Laid (fun u l W => Wraps w.heap.size u l W) 98 w.heap.size w.heap.size N ds k wr) ∧ Below w.heap.size w wr ∧ w.heap.size < wr.heap.size) (fun i _ => N - (intOf i).toNat)
  case atStart => exact ⟨0, Nat.zero_le _, rfl, hK0, hB0, hs0⟩
  case round =>
    obtain ⟨k, hk, rfl, HK, hB, hsz⟩ := hrel
    clear hK0 hB0 hs0
    by_cases hlt : k < N
    · have hkl : k < ds.length := by omega
      obtain ⟨u, c1, c2, c3, c4⟩ := (HS.out.since stableIW hB) k hkl
      obtain ⟨a', c', rfl, _⟩ := c4.len
      have hlen := Nat.le_trans (len_le_sum ds k hkl) hsum
      have HI := hidOf' c4
      have HL := hidOf' hlen
      clear c4 hlen
      generalize hk1 : ds[k].1 = p at c1
      generalize hk2 : ds[k].2.1 = q at c2
      have HK1 := hidOf' hk1
      have HK2 := hidOf' hk2
      clear hk1 hk2
      generalize hk3 : ds[k].2.2 = l3 at *
      have HK3 := hidOf' hk3
      clear hk3
      go_wp2_with fail
      refine (toMail_any _ _ _ l3 _ HI.out HL.out).mono ?_
      rintro e w2 ⟨v', rfl, k2, b2⟩
      have hB2 := more hB b2
      have hsz2 := Nat.lt_of_lt_of_le hsz b2.size
      have hLd := HK.out.since (stableW _) b2
      have hne : ∀ j, v'.ownBlock = some j → wr.heap.size ≤ j := fun j e => (World.ownsRow.lt k2 j e).1
      obtain ⟨a2, c2', hv2⟩ := wrapsRow k2
      have hst := hLd.step hlt hkl v' (by rw [HK3.out]; exact k2.mono (by omega)) (fun u l hu W' hg => by
        refine wrapsKept hu hg (fun j e e' => ?_)
        cases e
        obtain ⟨xs, _, hrow, _⟩ := hLd
        exact rows_apart hrow hu (by decide) e')
      rw [HK1.out, HK2.out] at hst
      obtain ⟨xs, hxl, hrow, _⟩ := hLd
      obtain ⟨_, hseg, hfr⟩ := hrow.form
      obtain ⟨s1, s2, s3⟩ := hseg k (by rw [partE_length _ _ (by omega)]; exact hlt)
      have f1 := hfr (k * 3)
      have f2 := hfr (k * 3 + 1)
      have f3 := hfr (k * 3 + 2)
      obtain ⟨x1, s1⟩ : ∃ x1, w2.cell? ⟨w.heap.size, k * 3, none⟩ = some x1 := ⟨_, s1⟩
      obtain ⟨x2, s2⟩ : ∃ x2, w2.cell? ⟨w.heap.size, k * 3 + 1, none⟩ = some x2 := ⟨_, s2⟩
      obtain ⟨x3, s3⟩ : ∃ x3, w2.cell? ⟨w.heap.size, k * 3 + 2, none⟩ = some x3 := ⟨_, s3⟩
      have HF := hidOf' (And.intro hst.1 (And.intro (hB2.grown hst.2 hB2.size (fun j e => by cases e; exact Nat.le_refl _)) (Nat.lt_of_lt_of_le hsz2 hst.2.size)))
      subst hv2
      clear hst hseg hfr hB2 hB HK k2 hne b2 c1 c2 c3 hrow
      go_wp2
      go_roundw
      case rel => exact ⟨k + 1, by omega, by go_num, HF.out.1, HF.out.2.1, HF.out.2.2⟩
      case measure => simp [intOf]; omega
    · obtain rfl : k = N := by omega
      go_wp2
      go_ret
      exact ⟨_, rfl, HK.out.done hN (by unfold maxLen; omega), fun k e => by simp [Value.ownBlock] at e; omega, hB⟩
theorem toMailS_any (v : Value) (ds : List LD) (w : World) (h : InMails v ds w) (hn : ds.length ≤ 1048576) (hsum : sumL ds ≤ 1048576) :
    Calls Try.prog 58 #[v] w fun e w' => ∃ v', e = .returned v' ∧ Mails w.heap.size v' ds w' ∧ (∀ k, v'.ownBlock = some k → w.heap.size ≤ k) ∧ Below w.heap.size w w' := by
  rcases h with ⟨a, c, rfl, rfl⟩ | ⟨b, off, c, rfl, hl, hm, hs⟩
  · obtain ⟨i0, hi, hz0, hz1, hz2⟩ := info_parts infoMl
    go_enter Try.func58, Try.ntmps58
    go_wp2_with (at_make; refine wpList_make_full _ rfl _ _ 64 rfl w.heap.size 98 i0 _ 3 Try.underlying64 hi hz0 hz1 .i64 .i64 _ _ 0 rfl rfl rfl rfl (by omega) (by unfold maxLen; omega) (Nat.le_refl _) ?_; intro w0 hown0 hgrow0)
    refine wp_loop_rounds 1 ?_
    rw [rounds_succ]
    go_wp2
    go_ret
    exact ⟨_, rfl, .inl ⟨_, _, rfl, rfl⟩, fun k e => (World.ownsRow.lt hown0 k e).1, below_grown hgrow0⟩
  · exact toMailS_row b off c ds w hn hsum hs
end Go.Proofs.Ythfgiabkafdbdaa
