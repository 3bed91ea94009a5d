
/- Lists of seats in memory, and what the exact laws' helpers on them do: toSeat, toSeatS, szSeatS. -/
import Derived.Test.YtplinjepeahahaaToKb
namespace Go.Proofs.Ytplinjepeahahaa
open Go.RowKit
abbrev sb (n v : Int) : Obj := .cells #[.int .i64 n, .int .i64 v] 64

/-- The slice v holds the keys ks, in a block at or beyond B. -/
def Seats (B : Nat) (v : Value) (ks : List (Int × Int)) (W : World) : Prop := W.ownsRow B 64 2 v ks.length (kcells ks)

theorem Seats.kept {B : Nat} {v : Value} {ks : List (Int × Int)} {W W' : World} {row : Option Nat} (h : Seats B v ks W) (hg : W.grownBy W' row) (hne : ∀ k, row = some k → v.ownBlock ≠ some k) : Seats B v ks W' := by
  refine World.ownsRow.kept h hg ?_
  cases row with
  | none => cases e : v.ownBlock <;> simp
  | some k => exact .inr (hne k rfl)
theorem Seats.mono {B B' : Nat} {v : Value} {ks : List (Int × Int)} {W : World} (h : Seats B v ks W) (hB : B' ≤ B) : Seats B' v ks W := by
  refine ⟨h.1, ?_⟩
  rcases h.2 with hn | ⟨g, cap, cur, e, hb, rest⟩
  · exact .inl hn
  · exact .inr ⟨g, cap, cur, e, by omega, rest⟩
theorem Seats.lt {B : Nat} {v : Value} {ks : List (Int × Int)} {W : World} (h : Seats B v ks W) : ∀ k, v.ownBlock = some k → B ≤ k ∧ k < W.heap.size := World.ownsRow.lt h
theorem Seats.drewN {B : Nat} {v : Value} {ks : List (Int × Int)} {W : World} (h : Seats B v ks W) (n : Nat) : Seats B v ks (W.drewN n) := h
theorem Seats.below {B C : Nat} {v : Value} {ks : List (Int × Int)} {W W' : World} (h : Seats B v ks W) (hb : Below C W W') (hC : ∀ k, v.ownBlock = some k → k < C) : Seats B v ks W' := by
  refine ⟨h.1, ?_⟩
  rcases h.2 with hn | ⟨g, cap, cur, rfl, hb', hg, rest⟩
  · exact .inl hn
  · refine .inr ⟨g, cap, cur, rfl, hb', ?_, rest⟩
    rw [hb.block g (hC g rfl)]
    exact hg

theorem Seats.form {B : Nat} {v : Value} {ks : List (Int × Int)} {W : World} (h : Seats B v ks W) :
    (v = .slice none 0 0 ∧ ks = []) ∨ ∃ g cap, v = .slice (some ⟨g, 0, none⟩) ks.length cap ∧ B ≤ g ∧ g < W.heap.size ∧ ks.length ≤ cap ∧ cap ≤ maxLen ∧ KSeg g 0 ks W ∧ ∀ o, W.frozen? ⟨g, o, none⟩ = false := by
  obtain ⟨_, h2⟩ := h
  rcases h2 with ⟨e, hn⟩ | ⟨g, cap, cur, e, hb, hg, h1, h3, h4, h5⟩
  · exact .inl ⟨e, List.length_eq_zero_iff.1 hn⟩
  · refine .inr ⟨g, cap, e, hb, (Array.getElem?_eq_some_iff.1 hg).1, h1, h3, fun i hi => ?_, fun o => by simp [World.frozen?, hg]⟩
    have hk := kcells_get ks i hi
    have c1 : cur[i * 2]? = some (.int .i64 ks[i].1) := by
      have h := hk.1
      rw [← h5, List.getElem?_take_of_lt (by omega)] at h
      simpa using h
    have c2 : cur[i * 2 + 1]? = some (.int .i64 ks[i].2) := by
      have h := hk.2
      rw [← h5, List.getElem?_take_of_lt (by omega)] at h
      simpa using h
    exact ⟨by simp [World.cell?, hg, c1], by simp [World.cell?, hg, c2]⟩

abbrev lsb (n v : Int) : Obj := .cells #[.int .i64 n, .int .i64 v] 85

theorem toSeat_any (a b : Int) (w : World) :
    Calls Try.prog 61 #[kv a b] w fun e w' => e = .returned (kv a b) ∧ w' = ((w.alloc (lsb a b)).alloc (sb a b)).alloc (sb a b) := by
  go_enter Try.func61, Try.ntmps61
  go_wp2
  exact bodyPost_ret (v := kv a b) (by simp [results, Try.results61, go_sem]) rfl ⟨rfl, rfl⟩
theorem toSeat_below (a b : Int) (w : World) :
    Calls Try.prog 61 #[kv a b] w fun e w' => e = .returned (kv a b) ∧ Below w.heap.size w w' :=
  (toSeat_any a b w).mono fun _ _ h => ⟨h.1, by rw [h.2]; exact (((Below.refl _ _).alloc (Nat.le_refl _) _).alloc (by simp) _).alloc (by simp; omega) _⟩

theorem infoSt : (Try.prog.info? 64).map (fun i => (i.zero, i.size, i.bytes)) = some (some (.agg #[.int .i64 0, .int .i64 0]), 2, 16) := by kernel_rfl

theorem szSeatS_any (a : Option Addr) (n c : Nat) (l : Int) (w : World) (hl : 0 ≤ l) (hl2 : l ≤ 1048576) (hn : n ≤ maxLen) :
    Calls Try.prog 37 #[.slice a n c, .int .i64 l] w fun e w' => e = .returned (.int .i64 (if l - (n : Int) < 0 then -1 else l - (n : Int))) ∧ w' = w := by
  unfold maxLen at hn
  by_cases h : l - (n : Int) < 0
  · rw [if_pos h]
    go_enter Try.func37, Try.ntmps37
    go_wp2
    go_ret
    exact ⟨rfl, rfl⟩
  · rw [if_neg h]
    go_enter Try.func37, Try.ntmps37
    go_wp2
    go_ret
    exact ⟨rfl, rfl⟩

theorem Seats.stored {B g cap : Nat} {l : List (Int × Int)} {n : Nat} {W : World} (hn : l.length = n) (h : Seats B (.slice (some ⟨g, 0, none⟩) n cap) l W) (i : Nat) (hi : i < l.length) (a b : Int) :
    Seats B (.slice (some ⟨g, 0, none⟩) n cap) (l.set i (a, b)) ((W.setCell ⟨g, i * 2, none⟩ (.int .i64 a)).setCell ⟨g, i * 2 + 1, none⟩ (.int .i64 b)) ∧
      W.grownBy ((W.setCell ⟨g, i * 2, none⟩ (.int .i64 a)).setCell ⟨g, i * 2 + 1, none⟩ (.int .i64 b)) (some g) := by
  subst hn
  have h1 := World.ownsRow.stored h (i * 2) (.int .i64 a)
  have h2 := h1.1.stored (i * 2 + 1) (.int .i64 b)
  rw [kcells_set _ _ _ _ hi] at h2
  refine ⟨?_, h1.2.trans h2.2⟩
  unfold Seats
  rw [List.length_set]
  exact h2.1
set_option maxRecDepth 100000 in
set_option maxHeartbeats 1000000 in
theorem toSeatS_row (b off c : Nat) (ks : List (Int × Int)) (w : World) (hn : ks.length ≤ 1048576) (hb : b < w.heap.size) (hs : KSeg b off ks w) :
    Calls Try.prog 40 #[.slice (some ⟨b, off, none⟩) ks.length c] w fun e w' => ∃ v, e = .returned v ∧ v ≠ .slice none 0 0 ∧ Seats w.heap.size v ks w' ∧ Below w.heap.size w w' := by
  obtain ⟨i0, hi, hz0, hz1, hz2⟩ := info_parts infoSt
  generalize hN : ks.length = N at hn ⊢
  go_enter Try.func40, Try.ntmps40
  go_wp2_with (at_make; refine wpList_make_full _ rfl _ _ 28 rfl w.heap.size 64 i0 _ 2 Try.underlying28 hi hz0 hz1 .i64 .i64 _ _ N rfl rfl rfl rfl (by rw [hz2]; omega) (by unfold maxLen; omega) (Nat.le_refl _) ?_; intro w0 hown0 hgrow0)
  have hK0 : Seats w.heap.size (.slice (some ⟨w.heap.size, 0, none⟩) N N) (partKeys ks 0) w0 := by
    unfold Seats
    rw [partKeys_length _ _ (Nat.zero_le _), hN]
    have e : partKeys ks 0 = List.replicate N (0, 0) := by simp [partKeys, hN]
    rw [e, kcells_zero, ← made_two]
    exact hown0
  have hB0 : Below w.heap.size w w0 := below_grown hgrow0
  clear hown0
  go_loopw [4] (fun i wr => ∃ k : Nat, k ≤ N ∧ i = .int .i64 (k : Int) ∧ Seats w.heap.size (.slice (some ⟨w.heap.size, 0, none⟩) N N) (partKeys ks k) wr ∧ Below w.heap.size w wr) (fun i _ => N - (intOf i).toNat)
  case atStart => exact ⟨0, Nat.zero_le _, rfl, hK0, hB0⟩
  case round =>
    obtain ⟨k, hk, rfl, hK, hB⟩ := hrel
    clear hK0 hB0 hgrow0
    by_cases hlt : k < N
    · have hkl : k < ks.length := by omega
      obtain ⟨c1, c2⟩ := hs k hkl
      have d1 : wr.cell? ⟨b, off + k * 2, none⟩ = some (.int .i64 ks[k].1) := (hB.cell (p := ⟨b, off + k * 2, none⟩) hb).trans c1
      have d2 : wr.cell? ⟨b, off + k * 2 + 1, none⟩ = some (.int .i64 ks[k].2) := (hB.cell (p := ⟨b, off + k * 2 + 1, none⟩) hb).trans c2
      have hpl : (partKeys ks k).length = N := by rw [partKeys_length _ _ (by omega), hN]
      have HS : Hid (KSeg b off ks w) := hs
      clear hs c1 c2
      generalize hk1 : ks[k].1 = p at d1
      generalize hk2 : ks[k].2 = q at d2
      have HK : Hid (ks[k] = (p, q)) := Prod.ext hk1 hk2
      clear hk1 hk2
      go_wp2_with fail
      refine (toSeat_below _ _ _).mono ?_
      rintro e w2 ⟨rfl, hb2⟩
      have hK2 := hK.below hb2 (fun j e => (hK.lt j e).2)
      have hB2 := hB.trans (hb2.mono hB.size)
      clear hK hB d1 d2 hb2
      have hst := Seats.stored hpl hK2 k (by omega) p q
      rcases hK2.form with ⟨e, _⟩ | ⟨g, cap, e, _, _, _, _, hseg, hfr⟩
      · cases e
      simp only [Value.slice.injEq, Option.some.injEq, Addr.mk.injEq] at e
      obtain ⟨⟨rfl, -⟩, -, -⟩ := e
      obtain ⟨s1, s2⟩ := hseg k (by omega)
      have f1 := hfr (k * 2)
      have f2 := hfr (k * 2 + 1)
      simp only [Nat.zero_add] at s1 s2
      obtain ⟨x1, s1⟩ : ∃ x1, w2.cell? ⟨w.heap.size, k * 2, none⟩ = some x1 := ⟨_, s1⟩
      obtain ⟨x2, s2⟩ : ∃ x2, w2.cell? ⟨w.heap.size, k * 2 + 1, none⟩ = some x2 := ⟨_, s2⟩
      have hfin : Seats w.heap.size (.slice (some ⟨w.heap.size, 0, none⟩) N N) (partKeys ks (k + 1)) ((w2.setCell ⟨w.heap.size, k * 2, none⟩ (.int .i64 p)).setCell ⟨w.heap.size, k * 2 + 1, none⟩ (.int .i64 q)) := by
        rw [← partKeys_set ks k hkl, HK.out]; exact hst.1
      have HF : Hid (_ ∧ _) := And.intro hfin (hB2.grown hst.2 hB2.size (fun j e => by cases e; exact Nat.le_refl _))
      clear hfin hst hseg hfr hK2 hB2
      go_wp2
      go_roundw
      case rel => exact ⟨k + 1, by omega, by go_num, HF.out.1, HF.out.2⟩
      case measure => simp [intOf]; omega
    · have : k = N := by omega
      subst this
      go_wp2
      go_ret
      refine ⟨_, rfl, by simp, ?_, hB⟩
      have e : partKeys ks k = ks := by simp [partKeys, ← hN]
      rwa [e] at hK

/-- A list of the laws' keys, as it came in. -/
def InSeats (v : Value) (ks : List (Int × Int)) (W : World) : Prop :=
  (∃ a c, v = .slice a 0 c ∧ ks = []) ∨ ∃ b off c, v = .slice (some ⟨b, off, none⟩) ks.length c ∧ b < W.heap.size ∧ ks.length ≤ maxLen ∧ KSeg b off ks W
theorem InSeats.below {v : Value} {ks : List (Int × Int)} {W W' : World} {C : Nat} (h : InSeats v ks W) (hb : Below C W W') (hC : W.heap.size ≤ C) : InSeats v ks W' := by
  rcases h with h | ⟨b, off, c, e, hl, hm, hs⟩
  · exact .inl h
  · exact .inr ⟨b, off, c, e, by have := hb.size; omega, hm, hs.kept (hb.block b (by omega))⟩
theorem InSeats.len {v : Value} {ks : List (Int × Int)} {W : World} (h : InSeats v ks W) : ∃ a c, v = .slice a ks.length c ∧ ks.length ≤ maxLen := by
  rcases h with ⟨a, c, rfl, rfl⟩ | ⟨b, off, c, rfl, _, hm, _⟩
  · exact ⟨_, _, rfl, Nat.zero_le _⟩
  · exact ⟨_, _, rfl, hm⟩

theorem toSeatS_any (v : Value) (ks : List (Int × Int)) (w : World) (h : InSeats v ks w) (hn : ks.length ≤ 1048576) :
    Calls Try.prog 40 #[v] w fun e w' => ∃ v', e = .returned v' ∧ v' ≠ .slice none 0 0 ∧ Seats w.heap.size v' ks w' ∧ Below w.heap.size w w' := by
  rcases h with ⟨a, c, rfl, rfl⟩ | ⟨b, off, c, rfl, hl, hm, hs⟩
  · obtain ⟨i0, hi, hz0, hz1, hz2⟩ := info_parts infoSt
    go_enter Try.func40, Try.ntmps40
    go_wp2_with (at_make; refine wpList_make_full _ rfl _ _ 28 rfl w.heap.size 64 i0 _ 2 Try.underlying28 hi hz0 hz1 .i64 .i64 _ _ 0 rfl rfl rfl rfl (by omega) (by unfold maxLen; omega) (Nat.le_refl _) ?_; intro w0 hown0 hgrow0)
    refine wp_loop_rounds 1 ?_
    rw [rounds_succ]
    go_wp2
    go_ret
    have e0 : (madeCells (Value.agg #[.int .i64 0, .int .i64 0]).cells (0 * 2)).toList = [] := by simp [madeCells]
    rw [e0] at hown0
    exact ⟨_, rfl, by simp, hown0, below_grown hgrow0⟩
  · exact toSeatS_row b off c ks w hn hl hs
end Go.Proofs.Ytplinjepeahahaa
