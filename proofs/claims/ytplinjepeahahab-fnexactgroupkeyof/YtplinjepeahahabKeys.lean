
/- Lists of keys in memory, and what the functions on single keys do: l2Key, keyOk. -/
import Derived.Test.YtplinjepeahahabKa
import Derived.Maps.Range
import Derived.Maps.RangeWalk
import Derived.Maps.AppendAt
import Derived.Deep.AppendLies
import Derived.Deep.RegionHeld3
namespace Go.Proofs.Ytplinjepeahahab
open Go.RowKit

/-- The cells of keys. -/
def kcells (ks : List (Int × Int)) : List Value := ks.flatMap fun k => [.int .i64 k.1, .int .i64 k.2]
theorem kcells_length (ks : List (Int × Int)) : (kcells ks).length = ks.length * 2 := by
  induction ks with
  | nil => rfl
  | cons k ks ih => simp only [kcells, List.flatMap_cons, List.length_append, List.length_cons, List.length_nil] at ih ⊢; omega
theorem kcells_append (a b : List (Int × Int)) : kcells (a ++ b) = kcells a ++ kcells b := by simp [kcells]
theorem kcells_get (ks : List (Int × Int)) : ∀ i (hi : i < ks.length), (kcells ks)[i * 2]? = some (.int .i64 ks[i].1) ∧ (kcells ks)[i * 2 + 1]? = some (.int .i64 ks[i].2) := by
  induction ks with
  | nil => intro i hi; simp at hi
  | cons k ks ih =>
    intro i hi
    match i, hi with
    | 0, _ => simp [kcells]
    | i + 1, hi =>
      have := ih i (by simpa using hi)
      have e1 : (i + 1) * 2 = i * 2 + 1 + 1 := by omega
      have e2 : (i + 1) * 2 + 1 = i * 2 + 1 + 1 + 1 := by omega
      rw [e2, e1]
      simpa [kcells] using this

/-- The slice v holds the keys ks, in a block at or beyond B. -/
def Keys (B : Nat) (v : Value) (ks : List (Int × Int)) (W : World) : Prop := W.ownsRow B 27 2 v ks.length (kcells ks)

theorem Keys.kept {B : Nat} {v : Value} {ks : List (Int × Int)} {W W' : World} {row : Option Nat} (h : Keys B v ks W) (hg : W.grownBy W' row) (hne : ∀ k, row = some k → v.ownBlock ≠ some k) : Keys B v ks W' := by
  refine World.ownsRow.kept h hg ?_
  cases row with
  | none => cases e : v.ownBlock <;> simp
  | some k => exact .inr (hne k rfl)
theorem Keys.mono {B B' : Nat} {v : Value} {ks : List (Int × Int)} {W : World} (h : Keys B v ks W) (hB : B' ≤ B) : Keys B' v ks W := by
  refine ⟨h.1, ?_⟩
  rcases h.2 with hn | ⟨g, cap, cur, e, hb, rest⟩
  · exact .inl hn
  · exact .inr ⟨g, cap, cur, e, by omega, rest⟩
theorem Keys.lt {B : Nat} {v : Value} {ks : List (Int × Int)} {W : World} (h : Keys B v ks W) : ∀ k, v.ownBlock = some k → B ≤ k ∧ k < W.heap.size := World.ownsRow.lt h
theorem Keys.drewN {B : Nat} {v : Value} {ks : List (Int × Int)} {W : World} (h : Keys B v ks W) (n : Nat) : Keys B v ks (W.drewN n) := h
theorem Keys.below {B C : Nat} {v : Value} {ks : List (Int × Int)} {W W' : World} (h : Keys B v ks W) (hb : Below C W W') (hC : ∀ k, v.ownBlock = some k → k < C) : Keys B v ks W' := by
  refine ⟨h.1, ?_⟩
  rcases h.2 with hn | ⟨g, cap, cur, rfl, hb', hg, rest⟩
  · exact .inl hn
  · refine .inr ⟨g, cap, cur, rfl, hb', ?_, rest⟩
    rw [hb.block g (hC g rfl)]
    exact hg

/-- Keys lie in block b from offset 'off' on. -/
def KSeg (b off : Nat) (ks : List (Int × Int)) (W : World) : Prop :=
  ∀ i (hi : i < ks.length), W.cell? ⟨b, off + i * 2, none⟩ = some (.int .i64 ks[i].1) ∧ W.cell? ⟨b, off + i * 2 + 1, none⟩ = some (.int .i64 ks[i].2)
theorem KSeg.kept {b off : Nat} {ks : List (Int × Int)} {W W' : World} (h : KSeg b off ks W) (hb : W'.heap[b]? = W.heap[b]?) : KSeg b off ks W' := fun i hi =>
  ⟨(World.cell?_of_block (a := ⟨b, off + i * 2, none⟩) hb).trans (h i hi).1, (World.cell?_of_block (a := ⟨b, off + i * 2 + 1, none⟩) hb).trans (h i hi).2⟩

theorem Keys.form {B : Nat} {v : Value} {ks : List (Int × Int)} {W : World} (h : Keys B v ks W) :
    (v = .slice none 0 0 ∧ ks = []) ∨ ∃ g cap, v = .slice (some ⟨g, 0, none⟩) ks.length cap ∧ B ≤ g ∧ g < W.heap.size ∧ ks.length ≤ cap ∧ cap ≤ maxLen ∧ KSeg g 0 ks W ∧ ∀ o, W.frozen? ⟨g, o, none⟩ = false := by
  obtain ⟨_, h2⟩ := h
  rcases h2 with ⟨e, hn⟩ | ⟨g, cap, cur, e, hb, hg, h1, h3, h4, h5⟩
  · exact .inl ⟨e, List.length_eq_zero_iff.1 hn⟩
  · refine .inr ⟨g, cap, e, hb, (Array.getElem?_eq_some_iff.1 hg).1, h1, h3, fun i hi => ?_, fun o => by simp [World.frozen?, hg]⟩
    have hk := kcells_get ks i hi
    have c1 : cur[i * 2]? = some (.int .i64 ks[i].1) := by
      have h := hk.1
      rw [← h5, List.getElem?_take_of_lt (by omega)] at h
      simpa using h
    have c2 : cur[i * 2 + 1]? = some (.int .i64 ks[i].2) := by
      have h := hk.2
      rw [← h5, List.getElem?_take_of_lt (by omega)] at h
      simpa using h
    exact ⟨by simp [World.cell?, hg, c1], by simp [World.cell?, hg, c2]⟩

theorem cell_later2 {W W' : World} {p : Addr} {v : Value} (h : W.cell? p = some v) (hb : Below W.heap.size W W') : W'.cell? p = some v :=
  (hb.cell (World.block_lt_of_cell? W p h)).trans h
/-- Four cells stand behind what makes memory alone. -/
theorem later4 {w W W' : World} {p1 p2 p3 p4 : Addr} {v1 v2 v3 v4 : Value} (h : W.cell? p1 = some v1 ∧ W.cell? p2 = some v2 ∧ W.cell? p3 = some v3 ∧ W.cell? p4 = some v4 ∧ Below w.heap.size w W) (hb : Below W.heap.size W W') :
    W'.cell? p1 = some v1 ∧ W'.cell? p2 = some v2 ∧ W'.cell? p3 = some v3 ∧ W'.cell? p4 = some v4 ∧ Below w.heap.size w W' :=
  ⟨cell_later2 h.1 hb, cell_later2 h.2.1 hb, cell_later2 h.2.2.1 hb, cell_later2 h.2.2.2.1 hb, h.2.2.2.2.trans (hb.mono h.2.2.2.2.size)⟩
/-- Two cells stand behind what makes memory alone. -/
theorem later2 {w W W' : World} {p1 p2 : Addr} {v1 v2 : Value} (h : W.cell? p1 = some v1 ∧ W.cell? p2 = some v2 ∧ Below w.heap.size w W) (hb : Below W.heap.size W W') :
    W'.cell? p1 = some v1 ∧ W'.cell? p2 = some v2 ∧ Below w.heap.size w W' :=
  ⟨cell_later2 h.1 hb, cell_later2 h.2.1 hb, h.2.2.trans (hb.mono h.2.2.size)⟩

/-- A key is right. -/
def okK (n v : Int) : Bool := decide ((1 ≤ n ∧ n ≤ 15) ∧ 1 ≤ v ∧ v ≤ 1000000000)
theorem l1InK_any (n lo hi : Int) (w : World) :
    Calls Try.prog 34 #[.int .i64 n, .int .i64 lo, .int .i64 hi] w fun e w' => e = .returned (.bool (decide (lo ≤ n ∧ n ≤ hi))) ∧ w' = w := by
  by_cases h1 : lo ≤ n
  · by_cases h2 : n ≤ hi
    · rw [decide_eq_true ⟨h1, h2⟩]
      go_enter Try.func34, Try.ntmps34
      go_wp2
      go_ret
      exact ⟨by simp, rfl⟩
    · rw [decide_eq_false (fun h => h2 h.2)]
      go_enter Try.func34, Try.ntmps34
      go_wp2
      go_ret
      exact ⟨by simp, rfl⟩
  · rw [decide_eq_false (fun h => h1 h.1)]
    go_enter Try.func34, Try.ntmps34
    go_wp2
    go_ret
    exact ⟨rfl, rfl⟩
theorem isNodeK_any (n : Int) (w : World) :
    Calls Try.prog 59 #[.int .i64 n] w fun e w' => e = .returned (.bool (decide (1 ≤ n ∧ n ≤ 15))) ∧ w' = w := by
  by_cases h1 : 1 ≤ n
  · by_cases h2 : n ≤ 15
    · rw [decide_eq_true ⟨h1, h2⟩]
      go_enter Try.func59, Try.ntmps59
      go_wp2
      go_ret
      exact ⟨by simp, rfl⟩
    · rw [decide_eq_false (fun h => h2 h.2)]
      go_enter Try.func59, Try.ntmps59
      go_wp2
      go_ret
      exact ⟨by simp, rfl⟩
  · rw [decide_eq_false (fun h => h1 h.1)]
    go_enter Try.func59, Try.ntmps59
    go_wp2
    go_ret
    exact ⟨rfl, rfl⟩

theorem l2Key_any (n v : Int) (w : World) :
    Calls Try.prog 52 #[kv n v] w fun e w' => e = .returned (.bool (okK n v)) ∧ w' = w.alloc (kb n v) := by
  by_cases h1 : 1 ≤ n ∧ n ≤ 15
  · have hd : decide (1 ≤ n ∧ n ≤ 15) = true := decide_eq_true h1
    have hr : okK n v = decide (1 ≤ v ∧ v ≤ 1000000000) := by unfold okK; rw [decide_eq_decide]; exact ⟨fun h => h.2, fun h => ⟨h1, h⟩⟩
    rw [hr]
    go_enter Try.func52, Try.ntmps52
    go_wp2_with fail
    refine (l1InK_any _ _ _ _).mono ?_
    rintro e w' ⟨rfl, rfl⟩
    rw [hd]
    go_wp2_with fail
    refine (l1InK_any _ _ _ _).mono ?_
    rintro e w' ⟨rfl, rfl⟩
    go_wp2
    go_ret
    exact ⟨by simp, rfl⟩
  · have hd : decide (1 ≤ n ∧ n ≤ 15) = false := decide_eq_false h1
    have hr : okK n v = false := decide_eq_false fun h => h1 h.1
    rw [hr]
    go_enter Try.func52, Try.ntmps52
    go_wp2_with fail
    refine (l1InK_any _ _ _ _).mono ?_
    rintro e w' ⟨rfl, rfl⟩
    rw [hd]
    go_wp2
    go_ret
    exact ⟨rfl, rfl⟩

theorem keyOk_any (n v : Int) (w : World) :
    Calls Try.prog 54 #[kv n v] w fun e w' => e = .returned (.bool (okK n v)) ∧ w' = w.alloc (kb n v) := by
  by_cases h1 : 1 ≤ n ∧ n ≤ 15
  · have hd : decide (1 ≤ n ∧ n ≤ 15) = true := decide_eq_true h1
    by_cases h2 : 1 ≤ v
    · have hr : okK n v = decide (v ≤ 1000000000) := by unfold okK; rw [decide_eq_decide]; exact ⟨fun h => h.2.2, fun h => ⟨h1, h2, h⟩⟩
      rw [hr]
      go_enter Try.func54, Try.ntmps54
      go_wp2_with fail
      refine (isNodeK_any _ _).mono ?_
      rintro e w' ⟨rfl, rfl⟩
      rw [hd]
      go_wp2
      go_ret
      exact ⟨rfl, rfl⟩
    · have hr : okK n v = false := decide_eq_false fun h => h2 h.2.1
      have hd2 : decide (1 ≤ v) = false := decide_eq_false h2
      rw [hr]
      go_enter Try.func54, Try.ntmps54
      go_wp2_with fail
      refine (isNodeK_any _ _).mono ?_
      rintro e w' ⟨rfl, rfl⟩
      rw [hd]
      go_wp2
      go_ret
      exact ⟨rfl, rfl⟩
  · have hd : decide (1 ≤ n ∧ n ≤ 15) = false := decide_eq_false h1
    have hr : okK n v = false := decide_eq_false fun h => h1 h.1
    rw [hr]
    go_enter Try.func54, Try.ntmps54
    go_wp2_with fail
    refine (isNodeK_any _ _).mono ?_
    rintro e w' ⟨rfl, rfl⟩
    rw [hd]
    go_wp2
    go_ret
    exact ⟨rfl, rfl⟩
end Go.Proofs.Ytplinjepeahahab
